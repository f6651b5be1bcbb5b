/- Markup. -/
import Derived.Test.YtdiealijjhfhjaaGreatDoorZr
namespace Go.Proofs.YtdiealijjhfhjaaGreatDoor
open Go.RowKit Go.Maps
theorem wait_row {Z : Nat → Prop} {S : Nat → Prop} {x : Nat} {m : Mc} {v : Vs} {T : List TL} {w : World} (h : MachV Z S x m v T w) (hw : m.wait ≠ []) : ∃ g cap, v.w = .slice (some ⟨g, 0, none⟩) m.wait.length cap ∧ m.wait.length ≤ cap ∧ cap ≤ maxLen ∧ v.w.ownBlock = some g ∧ ChRow (some ⟨g, 0, none⟩) m.wait w ∧ ∀ k, k < m.wait.length → Stays (Lets S v) w (ChRow (some ⟨g, k * 3, none⟩) (m.wait.drop k)) := by
  obtain ⟨ao, cap, e, h1, h2, h3, h4⟩ := rowC (h.bag.own 0 _ rfl)
  obtain ⟨c, hc⟩ : ∃ c, m.wait[0]? = some c := by
    cases hm : m.wait with
    | nil => exact absurd hm hw
    | cons c l => exact ⟨c, rfl⟩
  obtain ⟨g, off, rfl, _⟩ := h2 0 c hc
  obtain ⟨rfl, ho⟩ := h3 g off rfl
  refine ⟨g, cap, e, h1, h4, ho, h2, fun k hk w' kk => ?_⟩
  have ho2 : Rw.own w' (rwC v.w m.wait) := own_mv (h.bag.own 0 _ rfl) fun d hd => kk.block d (.inr hd) (own_blk (h.bag.own 0 _ rfl) hd).1
  obtain ⟨ao', cap', e', h1', h2', _, _⟩ := rowC ho2
  rw [e] at e'
  simp only [Value.slice.injEq, true_and] at e'
  obtain ⟨rfl, rfl⟩ := e'
  have := h2'.drop k cap h1
  rw [if_neg (by omega)] at this
  simpa [Addr.add_lit] using this
theorem bs_tl (l : List UInt8) : (bs l).toList = l := by rw [ByteArray.toList_eq, bs_list]
theorem beq_l (l : List UInt8) (t : List UInt8) (b : Bool) (h : decide (l = t) = b) : ((bs l).toList == t) = b := by
  rw [bs_tl, ← h, Bool.eq_iff_iff]
  simp
theorem beq_low (l : List UInt8) (t : List UInt8) (b : Bool) (h : decide (Mc.lowL l = t) = b) : ((G7.lowP (bs l)).toList == t) = b := by
  rw [ByteArray.toList_eq, lowP_list, bs_list, ← h, Bool.eq_iff_iff]
  simp
structure Word (m : Mc) (c : Ch) (b1 b2 b3 b4 : Bool) : Prop where
  e1 : decide (encs (m.hold c).wait.tail = Mc.dashW) = b1
  e2 : decide (Mc.lowL (encs (m.hold c).wait.tail) = Mc.docW) = b2
  e3 : decide (encs (m.hold c).wait.tail = Mc.cdW) = b3
  e4 : Mc.begun (encs (m.hold c).wait.tail) = b4
set_option maxHeartbeats 4000000 in
set_option maxRecDepth 20000 in
theorem markup_1 {Z : Nat → Prop} {S : Nat → Prop} {x : Nat} {m : Mc} {w : World} (h : Mach Z S x m w) (r p q : Int) (hw : m.wait ≠ []) (hwl : m.wait.length ≤ 20000) (hgt : ∀ c ∈ m.wait.tail, c.r ≠ 62) (hn : m.tot ≤ 420000000) (b2 b4 : Bool) (hW : Word m ⟨r, p, q⟩ true b2 false b4) : Calls Tryz.prog 100 #[mp x, cv ⟨r, p, q⟩] w (Did Z S x ({ (m.hold ⟨r, p, q⟩).beg 4 140 with st := 141 }) w) := by
  obtain ⟨W0, hW0, k0⟩ := Walk.start h ⟨r, p, q⟩
  have hxw := h.low
  obtain ⟨hb0, d0, d1, d2⟩ := k0.box
  have hx0 := k0.lt
  have HGT : Hid (m.wait ≠ [] ∧ (∀ c ∈ m.wait.tail, c.r ≠ 62)) := ⟨hw, hgt⟩
  have HWW : Hid (Word m ⟨r, p, q⟩ true b2 false b4) := hW
  have K0 : Hid (Walk Z S x m w.heap.size ⟨r, p, q⟩ w W0) := k0
  clear h k0 hW hgt hw
  go_enter Tryz.func100, Tryz.ntmps100
  go_wp2_with fail
  refine (K0.out.call (fun U h => hold_any h ⟨r, p, q⟩ (by omega))).mono ?_
  rintro e W1 ⟨rfl, k1⟩
  have K1 : Hid (Walk Z S x (m.hold ⟨r, p, q⟩) w.heap.size ⟨r, p, q⟩ w W1) := k1
  clear hb0 d0 d1 d2 hx0
  have hx1 := k1.lt
  obtain ⟨U, u1, ⟨v, T, h1⟩, u3⟩ := k1.ex
  obtain ⟨g, cap, ew, w1, w2, w3, w4, w5⟩ := wait_row h1 (by simp [Mc.hold])
  have c5 := h1.cells 5 v.w rfl
  obtain ⟨n, hnn⟩ : ∃ n, (m.hold ⟨r, p, q⟩).wait.length = n := ⟨_, rfl⟩
  have hnm : n = m.wait.length + 1 := by rw [← hnn]; simp [Mc.hold]
  rw [ew, hnn] at c5
  rw [hnn] at w1
  have hn2 : 2 ≤ n := by
    have : 0 < m.wait.length := List.length_pos_iff.2 HGT.out.1
    omega
  have ht := textOf_any (n - 1) (cap - 1) (w5 1 (by omega)).now (by rw [List.length_drop, hnn]) (by omega)
  rw [List.drop_one] at ht
  have hsz : (bs (encs (m.hold ⟨r, p, q⟩).wait.tail)).size ≤ 100000 := by
    rw [bs_size]
    have := encs_len (m.hold ⟨r, p, q⟩).wait.tail
    rw [List.length_tail, hnn] at this
    omega
  have HT : Hid (Calls Tryz.prog 83 #[.slice (some ⟨g, 3, none⟩) (n - 1) (cap - 1)] W1 fun e w' => e = .returned (.string (bs (encs (m.hold ⟨r, p, q⟩).wait.tail))) ∧ Below W1.heap.size W1 w') := ht
  have hcap : ¬ cap = 1 := by omega
  have i1 : (1 : Int) ≤ (n : Int) := by omega
  have i2 : (n : Int) ≤ (cap : Int) := by omega
  have HNN : Hid ((m.hold ⟨r, p, q⟩).wait.length = n ∧ n = m.wait.length + 1) := ⟨hnn, hnm⟩
  clear k1 h1 u3 w4 w5 ht u1 ew w3 hnn hnm
  go_wp2_with fail
  refine HT.out.mono ?_
  rintro e W2 ⟨rfl, b2'⟩
  have K2 : Hid (Walk Z S x (m.hold ⟨r, p, q⟩) w.heap.size ⟨r, p, q⟩ w W2) := K1.out.below b2'
  clear b2' c5 hx1
  have hx2 := K2.out.lt
  have q1 := beq_l (encs (m.hold ⟨r, p, q⟩).wait.tail) [45, 45] _ HWW.out.e1
  have q3 := beq_l (encs (m.hold ⟨r, p, q⟩).wait.tail) [91, 67, 68, 65, 84, 65, 91] _ HWW.out.e3
  have q2 := beq_low (encs (m.hold ⟨r, p, q⟩).wait.tail) [100, 111, 99, 116, 121, 112, 101] _ HWW.out.e2
  have HL : Hid (∀ w, Calls Tryz.prog 142 #[.string (bs (encs (m.hold ⟨r, p, q⟩).wait.tail))] w fun e w' => e = .returned (.string (G7.lowP (bs (encs (m.hold ⟨r, p, q⟩).wait.tail)))) ∧ Below w.heap.size w w') := fun w => G7.lower_any _ w hsz
  have HB : Hid (∀ w, Calls Tryz.prog 147 #[.string (bs (encs (m.hold ⟨r, p, q⟩).wait.tail))] w fun e w' => e = .returned (.bool b4) ∧ Below w.heap.size w w') := fun w => by
    have := begun_any (w := w) (bs (encs (m.hold ⟨r, p, q⟩).wait.tail)) hsz
    rw [bs_list, HWW.out.e4] at this
    exact this
  obtain ⟨N1, hN1⟩ : ∃ N1, bs (encs (m.hold ⟨r, p, q⟩).wait.tail) = N1 := ⟨_, rfl⟩
  rw [hN1] at q1 q2 q3
  simp only [hN1] at HL HB
  obtain ⟨LP, hLP⟩ : ∃ LP, G7.lowP N1 = LP := ⟨_, rfl⟩
  rw [hLP] at q2
  simp only [hLP] at HL
  rw [hN1]
  clear hN1 hLP HT hsz
  obtain ⟨c2', c3', c4'⟩ := K2.out.txt
  clear c2' c4'
  clear c3'
  go_wp2_with fail
  refine (K2.out.call (fun U h => beg_any h 4 140 (by simp [Mc.hold]))).mono ?_
  rintro e W3 ⟨rfl, k3⟩
  obtain ⟨s0, s1, _, _⟩ := k3.st0
  have hx3 := k3.lt
  have Kz : Hid (Walk Z S x { (m.hold ⟨r, p, q⟩).beg 4 140 with st := 141 } w.heap.size ⟨r, p, q⟩ w (W3.setCell ⟨x, 0, none⟩ (.func (.func 141) #[] #[]))) := k3.st 141
  clear k3
  go_wp2_with fail
  first
    | refine bodyPost_end (results_none rfl _ _ _) rfl ?_
    | refine bodyPost_ret (results_none rfl _ _ _) rfl ?_
  exact ⟨rfl, Kz.out.post⟩
set_option maxHeartbeats 4000000 in
set_option maxRecDepth 20000 in
theorem markup_2 {Z : Nat → Prop} {S : Nat → Prop} {x : Nat} {m : Mc} {w : World} (h : Mach Z S x m w) (r p q : Int) (hw : m.wait ≠ []) (hwl : m.wait.length ≤ 20000) (hgt : ∀ c ∈ m.wait.tail, c.r ≠ 62) (hn : m.tot ≤ 420000000) (b4 : Bool) (hW : Word m ⟨r, p, q⟩ false true false b4) : Calls Tryz.prog 100 #[mp x, cv ⟨r, p, q⟩] w (Did Z S x ({ (m.hold ⟨r, p, q⟩).beg 5 143 with st := 144 }) w) := by
  obtain ⟨W0, hW0, k0⟩ := Walk.start h ⟨r, p, q⟩
  have hxw := h.low
  obtain ⟨hb0, d0, d1, d2⟩ := k0.box
  have hx0 := k0.lt
  have HGT : Hid (m.wait ≠ [] ∧ (∀ c ∈ m.wait.tail, c.r ≠ 62)) := ⟨hw, hgt⟩
  have HWW : Hid (Word m ⟨r, p, q⟩ false true false b4) := hW
  have K0 : Hid (Walk Z S x m w.heap.size ⟨r, p, q⟩ w W0) := k0
  clear h k0 hW hgt hw
  go_enter Tryz.func100, Tryz.ntmps100
  go_wp2_with fail
  refine (K0.out.call (fun U h => hold_any h ⟨r, p, q⟩ (by omega))).mono ?_
  rintro e W1 ⟨rfl, k1⟩
  have K1 : Hid (Walk Z S x (m.hold ⟨r, p, q⟩) w.heap.size ⟨r, p, q⟩ w W1) := k1
  clear hb0 d0 d1 d2 hx0
  have hx1 := k1.lt
  obtain ⟨U, u1, ⟨v, T, h1⟩, u3⟩ := k1.ex
  obtain ⟨g, cap, ew, w1, w2, w3, w4, w5⟩ := wait_row h1 (by simp [Mc.hold])
  have c5 := h1.cells 5 v.w rfl
  obtain ⟨n, hnn⟩ : ∃ n, (m.hold ⟨r, p, q⟩).wait.length = n := ⟨_, rfl⟩
  have hnm : n = m.wait.length + 1 := by rw [← hnn]; simp [Mc.hold]
  rw [ew, hnn] at c5
  rw [hnn] at w1
  have hn2 : 2 ≤ n := by
    have : 0 < m.wait.length := List.length_pos_iff.2 HGT.out.1
    omega
  have ht := textOf_any (n - 1) (cap - 1) (w5 1 (by omega)).now (by rw [List.length_drop, hnn]) (by omega)
  rw [List.drop_one] at ht
  have hsz : (bs (encs (m.hold ⟨r, p, q⟩).wait.tail)).size ≤ 100000 := by
    rw [bs_size]
    have := encs_len (m.hold ⟨r, p, q⟩).wait.tail
    rw [List.length_tail, hnn] at this
    omega
  have HT : Hid (Calls Tryz.prog 83 #[.slice (some ⟨g, 3, none⟩) (n - 1) (cap - 1)] W1 fun e w' => e = .returned (.string (bs (encs (m.hold ⟨r, p, q⟩).wait.tail))) ∧ Below W1.heap.size W1 w') := ht
  have hcap : ¬ cap = 1 := by omega
  have i1 : (1 : Int) ≤ (n : Int) := by omega
  have i2 : (n : Int) ≤ (cap : Int) := by omega
  have HNN : Hid ((m.hold ⟨r, p, q⟩).wait.length = n ∧ n = m.wait.length + 1) := ⟨hnn, hnm⟩
  clear k1 h1 u3 w4 w5 ht u1 ew w3 hnn hnm
  go_wp2_with fail
  refine HT.out.mono ?_
  rintro e W2 ⟨rfl, b2'⟩
  have K2 : Hid (Walk Z S x (m.hold ⟨r, p, q⟩) w.heap.size ⟨r, p, q⟩ w W2) := K1.out.below b2'
  clear b2' c5 hx1
  have hx2 := K2.out.lt
  have q1 := beq_l (encs (m.hold ⟨r, p, q⟩).wait.tail) [45, 45] _ HWW.out.e1
  have q3 := beq_l (encs (m.hold ⟨r, p, q⟩).wait.tail) [91, 67, 68, 65, 84, 65, 91] _ HWW.out.e3
  have q2 := beq_low (encs (m.hold ⟨r, p, q⟩).wait.tail) [100, 111, 99, 116, 121, 112, 101] _ HWW.out.e2
  have HL : Hid (∀ w, Calls Tryz.prog 142 #[.string (bs (encs (m.hold ⟨r, p, q⟩).wait.tail))] w fun e w' => e = .returned (.string (G7.lowP (bs (encs (m.hold ⟨r, p, q⟩).wait.tail)))) ∧ Below w.heap.size w w') := fun w => G7.lower_any _ w hsz
  have HB : Hid (∀ w, Calls Tryz.prog 147 #[.string (bs (encs (m.hold ⟨r, p, q⟩).wait.tail))] w fun e w' => e = .returned (.bool b4) ∧ Below w.heap.size w w') := fun w => by
    have := begun_any (w := w) (bs (encs (m.hold ⟨r, p, q⟩).wait.tail)) hsz
    rw [bs_list, HWW.out.e4] at this
    exact this
  obtain ⟨N1, hN1⟩ : ∃ N1, bs (encs (m.hold ⟨r, p, q⟩).wait.tail) = N1 := ⟨_, rfl⟩
  rw [hN1] at q1 q2 q3
  simp only [hN1] at HL HB
  obtain ⟨LP, hLP⟩ : ∃ LP, G7.lowP N1 = LP := ⟨_, rfl⟩
  rw [hLP] at q2
  simp only [hLP] at HL
  rw [hN1]
  clear hN1 hLP HT hsz
  obtain ⟨c2', c3', c4'⟩ := K2.out.txt
  clear c2' c4'
  clear c3'
  go_wp2_with fail
  refine (HL.out _).mono ?_
  rintro e W3 ⟨rfl, b3'⟩
  have K3 : Hid (Walk Z S x (m.hold ⟨r, p, q⟩) w.heap.size ⟨r, p, q⟩ w W3) := K2.out.below b3'
  have hx3 := K3.out.lt
  clear b3' hx2
  go_wp2_with fail
  refine (K3.out.call (fun U h => beg_any h 5 143 (by simp [Mc.hold]))).mono ?_
  rintro e W4 ⟨rfl, k4⟩
  obtain ⟨s0, s1, _, _⟩ := k4.st0
  have hx4 := k4.lt
  have Kz : Hid (Walk Z S x { (m.hold ⟨r, p, q⟩).beg 5 143 with st := 144 } w.heap.size ⟨r, p, q⟩ w (W4.setCell ⟨x, 0, none⟩ (.func (.func 144) #[] #[]))) := k4.st 144
  clear k4
  go_wp2_with fail
  first
    | refine bodyPost_end (results_none rfl _ _ _) rfl ?_
    | refine bodyPost_ret (results_none rfl _ _ _) rfl ?_
  exact ⟨rfl, Kz.out.post⟩
set_option maxHeartbeats 4000000 in
set_option maxRecDepth 20000 in
theorem markup_3 {Z : Nat → Prop} {S : Nat → Prop} {x : Nat} {m : Mc} {w : World} (h : Mach Z S x m w) (r p q : Int) (hw : m.wait ≠ []) (hwl : m.wait.length ≤ 20000) (hgt : ∀ c ∈ m.wait.tail, c.r ≠ 62) (hn : m.tot ≤ 420000000) (b4 : Bool) (hW : Word m ⟨r, p, q⟩ false false true b4) (hcd : m.cd = true) : Calls Tryz.prog 100 #[mp x, cv ⟨r, p, q⟩] w (Did Z S x ({ m.hold ⟨r, p, q⟩ with wait := [], st := 145, en := 47 }) w) := by
  obtain ⟨W0, hW0, k0⟩ := Walk.start h ⟨r, p, q⟩
  have hxw := h.low
  obtain ⟨hb0, d0, d1, d2⟩ := k0.box
  have hx0 := k0.lt
  have HGT : Hid (m.wait ≠ [] ∧ (∀ c ∈ m.wait.tail, c.r ≠ 62)) := ⟨hw, hgt⟩
  have HWW : Hid (Word m ⟨r, p, q⟩ false false true b4) := hW
  have K0 : Hid (Walk Z S x m w.heap.size ⟨r, p, q⟩ w W0) := k0
  clear h k0 hW hgt hw
  go_enter Tryz.func100, Tryz.ntmps100
  go_wp2_with fail
  refine (K0.out.call (fun U h => hold_any h ⟨r, p, q⟩ (by omega))).mono ?_
  rintro e W1 ⟨rfl, k1⟩
  have K1 : Hid (Walk Z S x (m.hold ⟨r, p, q⟩) w.heap.size ⟨r, p, q⟩ w W1) := k1
  clear hb0 d0 d1 d2 hx0
  have hx1 := k1.lt
  obtain ⟨U, u1, ⟨v, T, h1⟩, u3⟩ := k1.ex
  obtain ⟨g, cap, ew, w1, w2, w3, w4, w5⟩ := wait_row h1 (by simp [Mc.hold])
  have c5 := h1.cells 5 v.w rfl
  obtain ⟨n, hnn⟩ : ∃ n, (m.hold ⟨r, p, q⟩).wait.length = n := ⟨_, rfl⟩
  have hnm : n = m.wait.length + 1 := by rw [← hnn]; simp [Mc.hold]
  rw [ew, hnn] at c5
  rw [hnn] at w1
  have hn2 : 2 ≤ n := by
    have : 0 < m.wait.length := List.length_pos_iff.2 HGT.out.1
    omega
  have ht := textOf_any (n - 1) (cap - 1) (w5 1 (by omega)).now (by rw [List.length_drop, hnn]) (by omega)
  rw [List.drop_one] at ht
  have hsz : (bs (encs (m.hold ⟨r, p, q⟩).wait.tail)).size ≤ 100000 := by
    rw [bs_size]
    have := encs_len (m.hold ⟨r, p, q⟩).wait.tail
    rw [List.length_tail, hnn] at this
    omega
  have HT : Hid (Calls Tryz.prog 83 #[.slice (some ⟨g, 3, none⟩) (n - 1) (cap - 1)] W1 fun e w' => e = .returned (.string (bs (encs (m.hold ⟨r, p, q⟩).wait.tail))) ∧ Below W1.heap.size W1 w') := ht
  have hcap : ¬ cap = 1 := by omega
  have i1 : (1 : Int) ≤ (n : Int) := by omega
  have i2 : (n : Int) ≤ (cap : Int) := by omega
  have HNN : Hid ((m.hold ⟨r, p, q⟩).wait.length = n ∧ n = m.wait.length + 1) := ⟨hnn, hnm⟩
  clear k1 h1 u3 w4 w5 ht u1 ew w3 hnn hnm
  go_wp2_with fail
  refine HT.out.mono ?_
  rintro e W2 ⟨rfl, b2'⟩
  have K2 : Hid (Walk Z S x (m.hold ⟨r, p, q⟩) w.heap.size ⟨r, p, q⟩ w W2) := K1.out.below b2'
  clear b2' c5 hx1
  have hx2 := K2.out.lt
  have q1 := beq_l (encs (m.hold ⟨r, p, q⟩).wait.tail) [45, 45] _ HWW.out.e1
  have q3 := beq_l (encs (m.hold ⟨r, p, q⟩).wait.tail) [91, 67, 68, 65, 84, 65, 91] _ HWW.out.e3
  have q2 := beq_low (encs (m.hold ⟨r, p, q⟩).wait.tail) [100, 111, 99, 116, 121, 112, 101] _ HWW.out.e2
  have HL : Hid (∀ w, Calls Tryz.prog 142 #[.string (bs (encs (m.hold ⟨r, p, q⟩).wait.tail))] w fun e w' => e = .returned (.string (G7.lowP (bs (encs (m.hold ⟨r, p, q⟩).wait.tail)))) ∧ Below w.heap.size w w') := fun w => G7.lower_any _ w hsz
  have HB : Hid (∀ w, Calls Tryz.prog 147 #[.string (bs (encs (m.hold ⟨r, p, q⟩).wait.tail))] w fun e w' => e = .returned (.bool b4) ∧ Below w.heap.size w w') := fun w => by
    have := begun_any (w := w) (bs (encs (m.hold ⟨r, p, q⟩).wait.tail)) hsz
    rw [bs_list, HWW.out.e4] at this
    exact this
  obtain ⟨N1, hN1⟩ : ∃ N1, bs (encs (m.hold ⟨r, p, q⟩).wait.tail) = N1 := ⟨_, rfl⟩
  rw [hN1] at q1 q2 q3
  simp only [hN1] at HL HB
  obtain ⟨LP, hLP⟩ : ∃ LP, G7.lowP N1 = LP := ⟨_, rfl⟩
  rw [hLP] at q2
  simp only [hLP] at HL
  rw [hN1]
  clear hN1 hLP HT hsz
  obtain ⟨c2', c3', c4'⟩ := K2.out.txt
  clear c2' c4'
  have c3 : W2.cell? ⟨x, 3, none⟩ = some (.bool true) := by rw [← hcd]; exact c3'
  clear c3'
  go_wp2_with fail
  refine (HL.out _).mono ?_
  rintro e W3 ⟨rfl, b3'⟩
  have K3 : Hid (Walk Z S x (m.hold ⟨r, p, q⟩) w.heap.size ⟨r, p, q⟩ w W3) := K2.out.below b3'
  have hx3 := K3.out.lt
  have c3b : W3.cell? ⟨x, 3, none⟩ = some (.bool true) := (b3'.cell (p := ⟨x, 3, none⟩) hx2).trans c3
  clear c3 b3' hx2
  obtain ⟨U3, g1, ⟨v3, T3, g3⟩, g4⟩ := K3.out.ex
  have z5 := g3.cells 5 _ rfl
  have y5 := g3.free 5
  have z0 := g3.cells 0 _ rfl
  have y0 := g3.free 0
  have z1 := g3.cells 1 _ rfl
  have y1 := g3.free 1
  have P3 : Hid (Post Z S x { m.hold ⟨r, p, q⟩ with wait := [], st := 145, en := 47 } w (setAll W3 x [(5, .slice none 0 0), (0, fn 145), (1, fn 47)])) := by
    obtain ⟨q1, q2⟩ := g3.turn (m' := { m.hold ⟨r, p, q⟩ with wait := [], st := 145, en := 47 }) (v' := { v3 with w := .slice none 0 0 }) (T' := T3) [(5, .slice none 0 0), (0, fn 145), (1, fn 47)] rfl (by simp [Mc.cells]) (g3.bag.drop g3.low 0 _ rfl 44 3) g3.names rfl g3.told g3.toks
    exact ⟨U3, g1, ⟨_, _, q1⟩, K3.out.keep.trans (q2.sub g1)⟩
  clear g1 g3 g4
  go_wp2_with fail
  first
    | refine bodyPost_end (results_none rfl _ _ _) rfl ?_
    | refine bodyPost_ret (results_none rfl _ _ _) rfl ?_
  exact ⟨rfl, P3.out⟩
set_option maxHeartbeats 4000000 in
set_option maxRecDepth 20000 in
theorem markup_4 {Z : Nat → Prop} {S : Nat → Prop} {x : Nat} {m : Mc} {w : World} (h : Mach Z S x m w) (r p q : Int) (hw : m.wait ≠ []) (hwl : m.wait.length ≤ 20000) (hgt : ∀ c ∈ m.wait.tail, c.r ≠ 62) (hn : m.tot ≤ 420000000) (b4 : Bool) (hW : Word m ⟨r, p, q⟩ false false true b4) (hcd : m.cd = false) : Calls Tryz.prog 100 #[mp x, cv ⟨r, p, q⟩] w (Did Z S x (((m.hold ⟨r, p, q⟩).fault 21 (m.hold ⟨r, p, q⟩).w1).bogus (m.hold ⟨r, p, q⟩).wait.tail) w) := by
  obtain ⟨W0, hW0, k0⟩ := Walk.start h ⟨r, p, q⟩
  have hxw := h.low
  obtain ⟨hb0, d0, d1, d2⟩ := k0.box
  have hx0 := k0.lt
  have HGT : Hid (m.wait ≠ [] ∧ (∀ c ∈ m.wait.tail, c.r ≠ 62)) := ⟨hw, hgt⟩
  have HWW : Hid (Word m ⟨r, p, q⟩ false false true b4) := hW
  have K0 : Hid (Walk Z S x m w.heap.size ⟨r, p, q⟩ w W0) := k0
  clear h k0 hW hgt hw
  go_enter Tryz.func100, Tryz.ntmps100
  go_wp2_with fail
  refine (K0.out.call (fun U h => hold_any h ⟨r, p, q⟩ (by omega))).mono ?_
  rintro e W1 ⟨rfl, k1⟩
  have K1 : Hid (Walk Z S x (m.hold ⟨r, p, q⟩) w.heap.size ⟨r, p, q⟩ w W1) := k1
  clear hb0 d0 d1 d2 hx0
  have hx1 := k1.lt
  obtain ⟨U, u1, ⟨v, T, h1⟩, u3⟩ := k1.ex
  obtain ⟨g, cap, ew, w1, w2, w3, w4, w5⟩ := wait_row h1 (by simp [Mc.hold])
  have c5 := h1.cells 5 v.w rfl
  obtain ⟨n, hnn⟩ : ∃ n, (m.hold ⟨r, p, q⟩).wait.length = n := ⟨_, rfl⟩
  have hnm : n = m.wait.length + 1 := by rw [← hnn]; simp [Mc.hold]
  rw [ew, hnn] at c5
  rw [hnn] at w1
  have hn2 : 2 ≤ n := by
    have : 0 < m.wait.length := List.length_pos_iff.2 HGT.out.1
    omega
  have ht := textOf_any (n - 1) (cap - 1) (w5 1 (by omega)).now (by rw [List.length_drop, hnn]) (by omega)
  rw [List.drop_one] at ht
  have hsz : (bs (encs (m.hold ⟨r, p, q⟩).wait.tail)).size ≤ 100000 := by
    rw [bs_size]
    have := encs_len (m.hold ⟨r, p, q⟩).wait.tail
    rw [List.length_tail, hnn] at this
    omega
  have HT : Hid (Calls Tryz.prog 83 #[.slice (some ⟨g, 3, none⟩) (n - 1) (cap - 1)] W1 fun e w' => e = .returned (.string (bs (encs (m.hold ⟨r, p, q⟩).wait.tail))) ∧ Below W1.heap.size W1 w') := ht
  have hcap : ¬ cap = 1 := by omega
  have i1 : (1 : Int) ≤ (n : Int) := by omega
  have i2 : (n : Int) ≤ (cap : Int) := by omega
  have HNN : Hid ((m.hold ⟨r, p, q⟩).wait.length = n ∧ n = m.wait.length + 1) := ⟨hnn, hnm⟩
  clear k1 h1 u3 w4 w5 ht u1 ew w3 hnn hnm
  go_wp2_with fail
  refine HT.out.mono ?_
  rintro e W2 ⟨rfl, b2'⟩
  have K2 : Hid (Walk Z S x (m.hold ⟨r, p, q⟩) w.heap.size ⟨r, p, q⟩ w W2) := K1.out.below b2'
  clear b2' c5 hx1
  have hx2 := K2.out.lt
  have q1 := beq_l (encs (m.hold ⟨r, p, q⟩).wait.tail) [45, 45] _ HWW.out.e1
  have q3 := beq_l (encs (m.hold ⟨r, p, q⟩).wait.tail) [91, 67, 68, 65, 84, 65, 91] _ HWW.out.e3
  have q2 := beq_low (encs (m.hold ⟨r, p, q⟩).wait.tail) [100, 111, 99, 116, 121, 112, 101] _ HWW.out.e2
  have HL : Hid (∀ w, Calls Tryz.prog 142 #[.string (bs (encs (m.hold ⟨r, p, q⟩).wait.tail))] w fun e w' => e = .returned (.string (G7.lowP (bs (encs (m.hold ⟨r, p, q⟩).wait.tail)))) ∧ Below w.heap.size w w') := fun w => G7.lower_any _ w hsz
  have HB : Hid (∀ w, Calls Tryz.prog 147 #[.string (bs (encs (m.hold ⟨r, p, q⟩).wait.tail))] w fun e w' => e = .returned (.bool b4) ∧ Below w.heap.size w w') := fun w => by
    have := begun_any (w := w) (bs (encs (m.hold ⟨r, p, q⟩).wait.tail)) hsz
    rw [bs_list, HWW.out.e4] at this
    exact this
  obtain ⟨N1, hN1⟩ : ∃ N1, bs (encs (m.hold ⟨r, p, q⟩).wait.tail) = N1 := ⟨_, rfl⟩
  rw [hN1] at q1 q2 q3
  simp only [hN1] at HL HB
  obtain ⟨LP, hLP⟩ : ∃ LP, G7.lowP N1 = LP := ⟨_, rfl⟩
  rw [hLP] at q2
  simp only [hLP] at HL
  rw [hN1]
  clear hN1 hLP HT hsz
  obtain ⟨c2', c3', c4'⟩ := K2.out.txt
  clear c2' c4'
  have c3 : W2.cell? ⟨x, 3, none⟩ = some (.bool false) := by rw [← hcd]; exact c3'
  clear c3'
  go_wp2_with fail
  refine (HL.out _).mono ?_
  rintro e W3 ⟨rfl, b3'⟩
  have K3 : Hid (Walk Z S x (m.hold ⟨r, p, q⟩) w.heap.size ⟨r, p, q⟩ w W3) := K2.out.below b3'
  have hx3 := K3.out.lt
  have c3b : W3.cell? ⟨x, 3, none⟩ = some (.bool false) := (b3'.cell (p := ⟨x, 3, none⟩) hx2).trans c3
  clear c3 b3' hx2
  obtain ⟨U3, g1, ⟨v3, T3, g3⟩, g4⟩ := K3.out.ex
  obtain ⟨ga, ca, ew, y1, y2, y3, y4, y5⟩ := wait_row g3 (by simp [Mc.hold])
  have z5 := g3.cells 5 v3.w rfl
  rw [ew, HNN.out.1] at z5
  rw [HNN.out.1] at y1
  obtain ⟨ch, hch⟩ : ∃ ch, (m.hold ⟨r, p, q⟩).wait[1]? = some ch := ⟨_, List.getElem?_eq_getElem (by rw [HNN.out.1]; omega)⟩
  obtain ⟨_, _, e9, hga, _, z4, _⟩ := y4 1 ch hch
  simp only [Option.some.injEq, Addr.mk.injEq, and_true] at e9
  obtain ⟨rfl, rfl⟩ := e9
  have hw1 : (m.hold ⟨r, p, q⟩).w1 = ch.a := by
    unfold Mc.w1
    cases hm : (m.hold ⟨r, p, q⟩).wait with
    | nil => rw [hm] at hch; cases hch
    | cons a l =>
      cases l with
      | nil => rw [hm] at hch; cases hch
      | cons b l => rw [hm] at hch; simp at hch; subst hch; rfl
  obtain ⟨ca1, hca1⟩ : ∃ ca1, ch.a = ca1 := ⟨_, rfl⟩
  rw [hca1] at z4 hw1
  simp only [Nat.zero_add, Nat.one_mul] at z4
  have i3 : (1 : Int) < (n : Int) := by omega
  have i4 : (n : Int) ≤ (ca : Int) := by omega
  have HC1 : Hid ((m.hold ⟨r, p, q⟩).w1 = ca1) := hw1
  clear g1 g3 g4 y4 y5 y3 ew hch hca1 hw1
  go_wp2_with fail
  refine (K3.out.call (fun U h => fault_any h 21 ca1 (by have := tot_hold m ⟨r, p, q⟩; omega))).mono ?_
  rintro e W4 ⟨rfl, k4⟩
  have K4 : Hid (Walk Z S x ((m.hold ⟨r, p, q⟩).fault 21 ca1) w.heap.size ⟨r, p, q⟩ w W4) := k4
  clear k4 z5 z4 y1 y2 i4 hga
  obtain ⟨U4, g1, ⟨v4, T4, g3⟩, g4⟩ := K4.out.ex
  obtain ⟨gb, cb, ew, y1, y2, y3, y4, y5⟩ := wait_row g3 (by simp [Mc.hold, Mc.fault])
  have hln : ((m.hold ⟨r, p, q⟩).fault 21 ca1).wait.length = n := HNN.out.1
  have z5 := g3.cells 5 v4.w rfl
  rw [ew, hln] at z5
  rw [hln] at y1
  have hx4 := g3.lt
  have hcb : ¬ cb = 1 := by omega
  have i5 : (n : Int) ≤ (cb : Int) := by omega
  have hgt2 : ∀ c ∈ ((m.hold ⟨r, p, q⟩).wait.tail).dropLast, c.r ≠ 62 := by
    have e : ((m.hold ⟨r, p, q⟩).wait.tail).dropLast = m.wait.tail := by
      unfold Mc.hold
      rw [List.tail_append_of_ne_nil HGT.out.1, List.dropLast_concat]
    rw [e]
    exact HGT.out.2
  have hbg := bogus_v g3 (by simp [Mc.hold, Mc.fault]) (n - 1) (cb - 1) (l := (m.hold ⟨r, p, q⟩).wait.tail) (by have := y5 1 (by rw [hln]; omega); rw [List.drop_one] at this; exact this) (by rw [List.length_tail, HNN.out.1]) (by have := HNN.out.2; omega) hgt2 (by have t1 := tot_hold m ⟨r, p, q⟩; have t2 := tot_fault (m.hold ⟨r, p, q⟩) 21 ca1; omega)
  have HBG : Hid (Calls Tryz.prog 146 #[mp x, .slice (some ⟨gb, 3, none⟩) (n - 1) (cb - 1)] W4 (Did Z U4 x (((m.hold ⟨r, p, q⟩).fault 21 ca1).bogus (m.hold ⟨r, p, q⟩).wait.tail) W4)) := hbg
  have HU : Hid (∀ k, S k → U4 k) := g1
  clear g1 g3 g4 y3 y4 y5 ew hgt2 hbg hln
  go_wp2_with fail
  refine HBG.out.mono ?_
  rintro e W9 ⟨rfl, p9⟩
  have P9 : Hid (Post Z S x (((m.hold ⟨r, p, q⟩).fault 21 (m.hold ⟨r, p, q⟩).w1).bogus (m.hold ⟨r, p, q⟩).wait.tail) w W9) := by
    show Post Z _ _ _ _ _
    rw [HC1.out]
    exact Post.go HU.out K4.out.keep p9
  clear p9
  go_wp2_with fail
  first
    | refine bodyPost_end (results_none rfl _ _ _) rfl ?_
    | refine bodyPost_ret (results_none rfl _ _ _) rfl ?_
  exact ⟨rfl, P9.out⟩
set_option maxHeartbeats 4000000 in
set_option maxRecDepth 20000 in
theorem markup_5 {Z : Nat → Prop} {S : Nat → Prop} {x : Nat} {m : Mc} {w : World} (h : Mach Z S x m w) (r p q : Int) (hw : m.wait ≠ []) (hwl : m.wait.length ≤ 20000) (hgt : ∀ c ∈ m.wait.tail, c.r ≠ 62) (hn : m.tot ≤ 420000000) (hW : Word m ⟨r, p, q⟩ false false false false) : Calls Tryz.prog 100 #[mp x, cv ⟨r, p, q⟩] w (Did Z S x (((m.hold ⟨r, p, q⟩).fault 14 (m.hold ⟨r, p, q⟩).w1).bogus (m.hold ⟨r, p, q⟩).wait.tail) w) := by
  obtain ⟨W0, hW0, k0⟩ := Walk.start h ⟨r, p, q⟩
  have hxw := h.low
  obtain ⟨hb0, d0, d1, d2⟩ := k0.box
  have hx0 := k0.lt
  have HGT : Hid (m.wait ≠ [] ∧ (∀ c ∈ m.wait.tail, c.r ≠ 62)) := ⟨hw, hgt⟩
  have HWW : Hid (Word m ⟨r, p, q⟩ false false false false) := hW
  have K0 : Hid (Walk Z S x m w.heap.size ⟨r, p, q⟩ w W0) := k0
  clear h k0 hW hgt hw
  go_enter Tryz.func100, Tryz.ntmps100
  go_wp2_with fail
  refine (K0.out.call (fun U h => hold_any h ⟨r, p, q⟩ (by omega))).mono ?_
  rintro e W1 ⟨rfl, k1⟩
  have K1 : Hid (Walk Z S x (m.hold ⟨r, p, q⟩) w.heap.size ⟨r, p, q⟩ w W1) := k1
  clear hb0 d0 d1 d2 hx0
  have hx1 := k1.lt
  obtain ⟨U, u1, ⟨v, T, h1⟩, u3⟩ := k1.ex
  obtain ⟨g, cap, ew, w1, w2, w3, w4, w5⟩ := wait_row h1 (by simp [Mc.hold])
  have c5 := h1.cells 5 v.w rfl
  obtain ⟨n, hnn⟩ : ∃ n, (m.hold ⟨r, p, q⟩).wait.length = n := ⟨_, rfl⟩
  have hnm : n = m.wait.length + 1 := by rw [← hnn]; simp [Mc.hold]
  rw [ew, hnn] at c5
  rw [hnn] at w1
  have hn2 : 2 ≤ n := by
    have : 0 < m.wait.length := List.length_pos_iff.2 HGT.out.1
    omega
  have ht := textOf_any (n - 1) (cap - 1) (w5 1 (by omega)).now (by rw [List.length_drop, hnn]) (by omega)
  rw [List.drop_one] at ht
  have hsz : (bs (encs (m.hold ⟨r, p, q⟩).wait.tail)).size ≤ 100000 := by
    rw [bs_size]
    have := encs_len (m.hold ⟨r, p, q⟩).wait.tail
    rw [List.length_tail, hnn] at this
    omega
  have HT : Hid (Calls Tryz.prog 83 #[.slice (some ⟨g, 3, none⟩) (n - 1) (cap - 1)] W1 fun e w' => e = .returned (.string (bs (encs (m.hold ⟨r, p, q⟩).wait.tail))) ∧ Below W1.heap.size W1 w') := ht
  have hcap : ¬ cap = 1 := by omega
  have i1 : (1 : Int) ≤ (n : Int) := by omega
  have i2 : (n : Int) ≤ (cap : Int) := by omega
  have HNN : Hid ((m.hold ⟨r, p, q⟩).wait.length = n ∧ n = m.wait.length + 1) := ⟨hnn, hnm⟩
  clear k1 h1 u3 w4 w5 ht u1 ew w3 hnn hnm
  go_wp2_with fail
  refine HT.out.mono ?_
  rintro e W2 ⟨rfl, b2'⟩
  have K2 : Hid (Walk Z S x (m.hold ⟨r, p, q⟩) w.heap.size ⟨r, p, q⟩ w W2) := K1.out.below b2'
  clear b2' c5 hx1
  have hx2 := K2.out.lt
  have q1 := beq_l (encs (m.hold ⟨r, p, q⟩).wait.tail) [45, 45] _ HWW.out.e1
  have q3 := beq_l (encs (m.hold ⟨r, p, q⟩).wait.tail) [91, 67, 68, 65, 84, 65, 91] _ HWW.out.e3
  have q2 := beq_low (encs (m.hold ⟨r, p, q⟩).wait.tail) [100, 111, 99, 116, 121, 112, 101] _ HWW.out.e2
  have HL : Hid (∀ w, Calls Tryz.prog 142 #[.string (bs (encs (m.hold ⟨r, p, q⟩).wait.tail))] w fun e w' => e = .returned (.string (G7.lowP (bs (encs (m.hold ⟨r, p, q⟩).wait.tail)))) ∧ Below w.heap.size w w') := fun w => G7.lower_any _ w hsz
  have HB : Hid (∀ w, Calls Tryz.prog 147 #[.string (bs (encs (m.hold ⟨r, p, q⟩).wait.tail))] w fun e w' => e = .returned (.bool false) ∧ Below w.heap.size w w') := fun w => by
    have := begun_any (w := w) (bs (encs (m.hold ⟨r, p, q⟩).wait.tail)) hsz
    rw [bs_list, HWW.out.e4] at this
    exact this
  obtain ⟨N1, hN1⟩ : ∃ N1, bs (encs (m.hold ⟨r, p, q⟩).wait.tail) = N1 := ⟨_, rfl⟩
  rw [hN1] at q1 q2 q3
  simp only [hN1] at HL HB
  obtain ⟨LP, hLP⟩ : ∃ LP, G7.lowP N1 = LP := ⟨_, rfl⟩
  rw [hLP] at q2
  simp only [hLP] at HL
  rw [hN1]
  clear hN1 hLP HT hsz
  obtain ⟨c2', c3', c4'⟩ := K2.out.txt
  clear c2' c4'
  clear c3'
  go_wp2_with fail
  refine (HL.out _).mono ?_
  rintro e W3 ⟨rfl, b3'⟩
  have K3 : Hid (Walk Z S x (m.hold ⟨r, p, q⟩) w.heap.size ⟨r, p, q⟩ w W3) := K2.out.below b3'
  have hx3 := K3.out.lt
  clear b3' hx2
  go_wp2_with fail
  refine (HB.out _).mono ?_
  rintro e W4 ⟨rfl, b4'⟩
  have K4 : Hid (Walk Z S x (m.hold ⟨r, p, q⟩) w.heap.size ⟨r, p, q⟩ w W4) := K3.out.below b4'
  have hx4 := K4.out.lt
  clear b4' hx3
  obtain ⟨U3, g1, ⟨v3, T3, g3⟩, g4⟩ := K4.out.ex
  obtain ⟨ga, ca, ew, y1, y2, y3, y4, y5⟩ := wait_row g3 (by simp [Mc.hold])
  have z5 := g3.cells 5 v3.w rfl
  rw [ew, HNN.out.1] at z5
  rw [HNN.out.1] at y1
  obtain ⟨ch, hch⟩ : ∃ ch, (m.hold ⟨r, p, q⟩).wait[1]? = some ch := ⟨_, List.getElem?_eq_getElem (by rw [HNN.out.1]; omega)⟩
  obtain ⟨_, _, e9, hga, _, z4, _⟩ := y4 1 ch hch
  simp only [Option.some.injEq, Addr.mk.injEq, and_true] at e9
  obtain ⟨rfl, rfl⟩ := e9
  have hw1 : (m.hold ⟨r, p, q⟩).w1 = ch.a := by
    unfold Mc.w1
    cases hm : (m.hold ⟨r, p, q⟩).wait with
    | nil => rw [hm] at hch; cases hch
    | cons a l =>
      cases l with
      | nil => rw [hm] at hch; cases hch
      | cons b l => rw [hm] at hch; simp at hch; subst hch; rfl
  obtain ⟨ca1, hca1⟩ : ∃ ca1, ch.a = ca1 := ⟨_, rfl⟩
  rw [hca1] at z4 hw1
  simp only [Nat.zero_add, Nat.one_mul] at z4
  have i3 : (1 : Int) < (n : Int) := by omega
  have i4 : (n : Int) ≤ (ca : Int) := by omega
  have HC1 : Hid ((m.hold ⟨r, p, q⟩).w1 = ca1) := hw1
  clear g1 g3 g4 y4 y5 y3 ew hch hca1 hw1
  go_wp2_with fail
  refine (K4.out.call (fun U h => fault_any h 14 ca1 (by have := tot_hold m ⟨r, p, q⟩; omega))).mono ?_
  rintro e W5 ⟨rfl, k5⟩
  have K5 : Hid (Walk Z S x ((m.hold ⟨r, p, q⟩).fault 14 ca1) w.heap.size ⟨r, p, q⟩ w W5) := k5
  clear k5 z5 z4 y1 y2 i4 hga
  obtain ⟨U4, g1, ⟨v4, T4, g3⟩, g4⟩ := K5.out.ex
  obtain ⟨gb, cb, ew, y1, y2, y3, y4, y5⟩ := wait_row g3 (by simp [Mc.hold, Mc.fault])
  have hln : ((m.hold ⟨r, p, q⟩).fault 14 ca1).wait.length = n := HNN.out.1
  have z5 := g3.cells 5 v4.w rfl
  rw [ew, hln] at z5
  rw [hln] at y1
  have hx5 := g3.lt
  have hcb : ¬ cb = 1 := by omega
  have i5 : (n : Int) ≤ (cb : Int) := by omega
  have hgt2 : ∀ c ∈ ((m.hold ⟨r, p, q⟩).wait.tail).dropLast, c.r ≠ 62 := by
    have e : ((m.hold ⟨r, p, q⟩).wait.tail).dropLast = m.wait.tail := by
      unfold Mc.hold
      rw [List.tail_append_of_ne_nil HGT.out.1, List.dropLast_concat]
    rw [e]
    exact HGT.out.2
  have hbg := bogus_v g3 (by simp [Mc.hold, Mc.fault]) (n - 1) (cb - 1) (l := (m.hold ⟨r, p, q⟩).wait.tail) (by have := y5 1 (by rw [hln]; omega); rw [List.drop_one] at this; exact this) (by rw [List.length_tail, HNN.out.1]) (by have := HNN.out.2; omega) hgt2 (by have t1 := tot_hold m ⟨r, p, q⟩; have t2 := tot_fault (m.hold ⟨r, p, q⟩) 14 ca1; omega)
  have HBG : Hid (Calls Tryz.prog 146 #[mp x, .slice (some ⟨gb, 3, none⟩) (n - 1) (cb - 1)] W5 (Did Z U4 x (((m.hold ⟨r, p, q⟩).fault 14 ca1).bogus (m.hold ⟨r, p, q⟩).wait.tail) W5)) := hbg
  have HU : Hid (∀ k, S k → U4 k) := g1
  clear g1 g3 g4 y3 y4 y5 ew hgt2 hbg hln
  go_wp2_with fail
  refine HBG.out.mono ?_
  rintro e W9 ⟨rfl, p9⟩
  have P9 : Hid (Post Z S x (((m.hold ⟨r, p, q⟩).fault 14 (m.hold ⟨r, p, q⟩).w1).bogus (m.hold ⟨r, p, q⟩).wait.tail) w W9) := by
    show Post Z _ _ _ _ _
    rw [HC1.out]
    exact Post.go HU.out K5.out.keep p9
  clear p9
  go_wp2_with fail
  first
    | refine bodyPost_end (results_none rfl _ _ _) rfl ?_
    | refine bodyPost_ret (results_none rfl _ _ _) rfl ?_
  exact ⟨rfl, P9.out⟩
set_option maxHeartbeats 4000000 in
set_option maxRecDepth 20000 in
theorem markup_6 {Z : Nat → Prop} {S : Nat → Prop} {x : Nat} {m : Mc} {w : World} (h : Mach Z S x m w) (r p q : Int) (hw : m.wait ≠ []) (hwl : m.wait.length ≤ 20000) (hgt : ∀ c ∈ m.wait.tail, c.r ≠ 62) (hn : m.tot ≤ 420000000) (hW : Word m ⟨r, p, q⟩ false false false true) : Calls Tryz.prog 100 #[mp x, cv ⟨r, p, q⟩] w (Did Z S x (m.hold ⟨r, p, q⟩) w) := by
  obtain ⟨W0, hW0, k0⟩ := Walk.start h ⟨r, p, q⟩
  have hxw := h.low
  obtain ⟨hb0, d0, d1, d2⟩ := k0.box
  have hx0 := k0.lt
  have HGT : Hid (m.wait ≠ [] ∧ (∀ c ∈ m.wait.tail, c.r ≠ 62)) := ⟨hw, hgt⟩
  have HWW : Hid (Word m ⟨r, p, q⟩ false false false true) := hW
  have K0 : Hid (Walk Z S x m w.heap.size ⟨r, p, q⟩ w W0) := k0
  clear h k0 hW hgt hw
  go_enter Tryz.func100, Tryz.ntmps100
  go_wp2_with fail
  refine (K0.out.call (fun U h => hold_any h ⟨r, p, q⟩ (by omega))).mono ?_
  rintro e W1 ⟨rfl, k1⟩
  have K1 : Hid (Walk Z S x (m.hold ⟨r, p, q⟩) w.heap.size ⟨r, p, q⟩ w W1) := k1
  clear hb0 d0 d1 d2 hx0
  have hx1 := k1.lt
  obtain ⟨U, u1, ⟨v, T, h1⟩, u3⟩ := k1.ex
  obtain ⟨g, cap, ew, w1, w2, w3, w4, w5⟩ := wait_row h1 (by simp [Mc.hold])
  have c5 := h1.cells 5 v.w rfl
  obtain ⟨n, hnn⟩ : ∃ n, (m.hold ⟨r, p, q⟩).wait.length = n := ⟨_, rfl⟩
  have hnm : n = m.wait.length + 1 := by rw [← hnn]; simp [Mc.hold]
  rw [ew, hnn] at c5
  rw [hnn] at w1
  have hn2 : 2 ≤ n := by
    have : 0 < m.wait.length := List.length_pos_iff.2 HGT.out.1
    omega
  have ht := textOf_any (n - 1) (cap - 1) (w5 1 (by omega)).now (by rw [List.length_drop, hnn]) (by omega)
  rw [List.drop_one] at ht
  have hsz : (bs (encs (m.hold ⟨r, p, q⟩).wait.tail)).size ≤ 100000 := by
    rw [bs_size]
    have := encs_len (m.hold ⟨r, p, q⟩).wait.tail
    rw [List.length_tail, hnn] at this
    omega
  have HT : Hid (Calls Tryz.prog 83 #[.slice (some ⟨g, 3, none⟩) (n - 1) (cap - 1)] W1 fun e w' => e = .returned (.string (bs (encs (m.hold ⟨r, p, q⟩).wait.tail))) ∧ Below W1.heap.size W1 w') := ht
  have hcap : ¬ cap = 1 := by omega
  have i1 : (1 : Int) ≤ (n : Int) := by omega
  have i2 : (n : Int) ≤ (cap : Int) := by omega
  have HNN : Hid ((m.hold ⟨r, p, q⟩).wait.length = n ∧ n = m.wait.length + 1) := ⟨hnn, hnm⟩
  clear k1 h1 u3 w4 w5 ht u1 ew w3 hnn hnm
  go_wp2_with fail
  refine HT.out.mono ?_
  rintro e W2 ⟨rfl, b2'⟩
  have K2 : Hid (Walk Z S x (m.hold ⟨r, p, q⟩) w.heap.size ⟨r, p, q⟩ w W2) := K1.out.below b2'
  clear b2' c5 hx1
  have hx2 := K2.out.lt
  have q1 := beq_l (encs (m.hold ⟨r, p, q⟩).wait.tail) [45, 45] _ HWW.out.e1
  have q3 := beq_l (encs (m.hold ⟨r, p, q⟩).wait.tail) [91, 67, 68, 65, 84, 65, 91] _ HWW.out.e3
  have q2 := beq_low (encs (m.hold ⟨r, p, q⟩).wait.tail) [100, 111, 99, 116, 121, 112, 101] _ HWW.out.e2
  have HL : Hid (∀ w, Calls Tryz.prog 142 #[.string (bs (encs (m.hold ⟨r, p, q⟩).wait.tail))] w fun e w' => e = .returned (.string (G7.lowP (bs (encs (m.hold ⟨r, p, q⟩).wait.tail)))) ∧ Below w.heap.size w w') := fun w => G7.lower_any _ w hsz
  have HB : Hid (∀ w, Calls Tryz.prog 147 #[.string (bs (encs (m.hold ⟨r, p, q⟩).wait.tail))] w fun e w' => e = .returned (.bool true) ∧ Below w.heap.size w w') := fun w => by
    have := begun_any (w := w) (bs (encs (m.hold ⟨r, p, q⟩).wait.tail)) hsz
    rw [bs_list, HWW.out.e4] at this
    exact this
  obtain ⟨N1, hN1⟩ : ∃ N1, bs (encs (m.hold ⟨r, p, q⟩).wait.tail) = N1 := ⟨_, rfl⟩
  rw [hN1] at q1 q2 q3
  simp only [hN1] at HL HB
  obtain ⟨LP, hLP⟩ : ∃ LP, G7.lowP N1 = LP := ⟨_, rfl⟩
  rw [hLP] at q2
  simp only [hLP] at HL
  rw [hN1]
  clear hN1 hLP HT hsz
  obtain ⟨c2', c3', c4'⟩ := K2.out.txt
  clear c2' c4'
  clear c3'
  go_wp2_with fail
  refine (HL.out _).mono ?_
  rintro e W3 ⟨rfl, b3'⟩
  have K3 : Hid (Walk Z S x (m.hold ⟨r, p, q⟩) w.heap.size ⟨r, p, q⟩ w W3) := K2.out.below b3'
  have hx3 := K3.out.lt
  clear b3' hx2
  go_wp2_with fail
  refine (HB.out _).mono ?_
  rintro e W4 ⟨rfl, b4'⟩
  have K4 : Hid (Walk Z S x (m.hold ⟨r, p, q⟩) w.heap.size ⟨r, p, q⟩ w W4) := K3.out.below b4'
  have hx4 := K4.out.lt
  clear b4' hx3
  go_wp2_with fail
  first
    | refine bodyPost_end (results_none rfl _ _ _) rfl ?_
    | refine bodyPost_ret (results_none rfl _ _ _) rfl ?_
  exact ⟨rfl, K4.out.post⟩
theorem markup_any {Z : Nat → Prop} {S : Nat → Prop} {x : Nat} {m : Mc} {w : World} (h : Mach Z S x m w) (c : Ch) (hw : m.wait ≠ []) (hwl : m.wait.length ≤ 20000) (hgt : ∀ c ∈ m.wait.tail, c.r ≠ 62) (hn : m.tot ≤ 420000000) : Calls Tryz.prog 100 #[mp x, cv c] w (Did Z S x (m.markup c) w) := by
  obtain ⟨r, p, q⟩ := c
  by_cases h1 : encs (m.hold ⟨r, p, q⟩).wait.tail = Mc.dashW
  · have e : m.markup ⟨r, p, q⟩ = { (m.hold ⟨r, p, q⟩).beg 4 140 with st := 141 } := by unfold Mc.markup; simp only [if_pos h1]
    rw [e]
    refine markup_1 h r p q hw hwl hgt hn _ _ ⟨decide_eq_true h1, rfl, ?_, rfl⟩
    rw [h1]; rfl
  by_cases h2 : Mc.lowL (encs (m.hold ⟨r, p, q⟩).wait.tail) = Mc.docW
  · have e : m.markup ⟨r, p, q⟩ = { (m.hold ⟨r, p, q⟩).beg 5 143 with st := 144 } := by unfold Mc.markup; simp only [if_neg h1, if_pos h2]
    rw [e]
    refine markup_2 h r p q hw hwl hgt hn _ ⟨decide_eq_false h1, decide_eq_true h2, decide_eq_false (fun h3 => ?_), rfl⟩
    rw [h3] at h2
    revert h2
    decide +kernel
  by_cases h3 : encs (m.hold ⟨r, p, q⟩).wait.tail = Mc.cdW
  · cases hcd : m.cd with
    | true =>
      have e : m.markup ⟨r, p, q⟩ = { m.hold ⟨r, p, q⟩ with wait := [], st := 145, en := 47 } := by unfold Mc.markup; simp only [if_neg h1, if_neg h2]; rw [if_pos ⟨h3, hcd⟩]
      rw [e]
      exact markup_3 h r p q hw hwl hgt hn _ ⟨decide_eq_false h1, decide_eq_false h2, decide_eq_true h3, rfl⟩ hcd
    | false =>
      have e : m.markup ⟨r, p, q⟩ = ((m.hold ⟨r, p, q⟩).fault 21 (m.hold ⟨r, p, q⟩).w1).bogus (m.hold ⟨r, p, q⟩).wait.tail := by unfold Mc.markup; simp only [if_neg h1, if_neg h2]; rw [if_neg (fun h => by have h9 : m.cd = true := h.2; rw [hcd] at h9; cases h9), if_pos h3]
      rw [e]
      exact markup_4 h r p q hw hwl hgt hn _ ⟨decide_eq_false h1, decide_eq_false h2, decide_eq_true h3, rfl⟩ hcd
  cases h4 : Mc.begun (encs (m.hold ⟨r, p, q⟩).wait.tail) with
  | false =>
    have e : m.markup ⟨r, p, q⟩ = ((m.hold ⟨r, p, q⟩).fault 14 (m.hold ⟨r, p, q⟩).w1).bogus (m.hold ⟨r, p, q⟩).wait.tail := by unfold Mc.markup; simp only [if_neg h1, if_neg h2]; rw [if_neg (fun h => h3 h.1), if_neg h3, if_pos h4]
    rw [e]
    exact markup_5 h r p q hw hwl hgt hn ⟨decide_eq_false h1, decide_eq_false h2, decide_eq_false h3, h4⟩
  | true =>
    have e : m.markup ⟨r, p, q⟩ = m.hold ⟨r, p, q⟩ := by unfold Mc.markup; simp only [if_neg h1, if_neg h2]; rw [if_neg (fun h => h3 h.1), if_neg h3, if_neg (by rw [h4]; simp)]
    rw [e]
    exact markup_6 h r p q hw hwl hgt hn ⟨decide_eq_false h1, decide_eq_false h2, decide_eq_false h3, h4⟩
end Go.Proofs.YtdiealijjhfhjaaGreatDoor
namespace Go.Proofs.YtdiealijjhfhjaaGreatDoor
open Go.RowKit Go.Maps
theorem tot_bogus (m : Mc) (l : List Ch) : (m.bogus l).tot ≤ m.tot + 4 * l.length := by
  unfold Mc.bogus
  have h1 := tot_bogf { m.beg 4 179 with st := 180 } l
  have h2 : ({ m.beg 4 179 with st := 180 } : Mc).tot ≤ m.tot := tot_beg m 4 179
  omega
def FaultV (Z : Nat → Prop) (S : Nat → Prop) (x : Nat) (m : Mc) (v : Vs) (T : List TL) (code at' : Int) (w w' : World) : Prop := ∃ f, MachV Z S x (m.fault code at') { v with f := f } T w' ∧ Keep S w w' ∧ ∀ k, v.w.ownBlock = some k → k < w.heap.size → w'.heap[k]? = w.heap[k]?
set_option maxHeartbeats 2000000 in
set_option maxRecDepth 20000 in
theorem fault_v {Z : Nat → Prop} {S : Nat → Prop} {x : Nat} {m : Mc} {v : Vs} {T : List TL} {w : World} (h : MachV Z S x m v T w) (code at' : Int) (hn : m.tot ≤ 1000000000) : Calls Tryz.prog 84 #[mp x, .int .i64 code, .int .i64 at'] w fun e w' => e = .returned (.tuple #[]) ∧ FaultV Z S x m v T code at' w w' := by
  have hxw := h.lt
  obtain ⟨k, hk⟩ : ∃ k, m.fs.length = k := ⟨_, rfl⟩
  have b0 : Below w.heap.size w (w.alloc (.cells (gcells (code, at')).toArray 57)) := (Below.refl _ _).alloc (Nat.le_refl _) _
  have hnew := heap_alloc_new w (.cells (gcells (code, at')).toArray 57)
  obtain ⟨V, hV⟩ : ∃ V, w.alloc (.cells (gcells (code, at')).toArray 57) = V := ⟨_, rfl⟩
  rw [hV] at b0 hnew
  have h2 := h.below b0
  obtain ⟨v', W', hrun, ho, hg, hat⟩ := row_app Tryz.underlying24 info58 rfl (by decide) (by decide) (h2.bag.own 8 _ rfl) w.heap.size 0 1 1 (gcells (code, at')) rfl (fun j u hj => by rw [Nat.zero_add]; simp [World.cell?, hnew]; exact hj) (by simp [gcells, G4.gcells, Value.oneCell']) (by unfold Mc.tot at hn; show m.fs.length + 1 ≤ _; omega)
  obtain ⟨ao', c', rfl, _, _⟩ := own_form ho
  obtain ⟨q1, q2, q3, q4⟩ := h2.put (m' := m.fault code at') (v' := { v with f := .slice ao' (m.fs.length + 1) c' }) (T' := T) 8 20 _ ⟨.slice ao' (m.fs.length + 1) c', 57, 2, m.fs.length + 1, m.fs.flatMap gcells ++ gcells (code, at'), false⟩ rfl ho (fun g hg2 => fresh_of hat g hg2) hg (by simp [Mc.rows, Mc.fault]) (by simp [Mc.cells, Mc.fault]) rfl rfl rfl h2.told h2.toks
  have hfr : ∀ j, v.w.ownBlock = some j → j < w.heap.size → (W'.setCell ⟨x, 20, none⟩ (.slice ao' (m.fs.length + 1) c')).heap[j]? = w.heap[j]? := fun j hj hlt => by
    have hjx : j ≠ x := h.toW.apart 0 _ rfl j hj
    rw [Below.heap_setCell _ _ _ _ hjx, hg.block j (Nat.lt_of_lt_of_le hlt b0.size) (fun e => h2.bag.apart 0 8 _ _ (by decide) rfl rfl j hj e.symm), b0.block j hlt]
  have c5 := h.cells 20 v.f rfl
  obtain ⟨ao, ca, e5, _, _⟩ := own_form (h.bag.own 8 _ rfl)
  simp only at e5
  have q3' : W'.cell? ⟨x, 20, none⟩ = some v.f := q3
  have HP : Hid (FaultV Z S x m v T code at' w (W'.setCell ⟨x, 20, none⟩ (.slice ao' (k + 1) c'))) := by
    rw [← hk]
    exact ⟨_, q1, (Keep.old b0).trans q2, hfr⟩
  have hrun' : (Builtin.append_ #[24, 24] 24 #[.slice ao k ca, .slice (some ⟨w.heap.size, 0, none⟩) 1 1]).run Tryz.prog (w.alloc (.cells #[.int .i64 code, .int .i64 at'] 57)) = .ok (.slice ao' (k + 1) c') W' := by
    rw [← hk, ← e5]
    have := hrun
    rw [← hV] at this
    exact this
  rw [e5, hk] at c5 q3'
  clear h h2 q1 q2 q3 e5 hk hrun hV hnew b0 ho hg hat hfr
  go_enter Tryz.func84, Tryz.ntmps84
  go_wp2_with (at_builtin; refine list_append_eq rfl _ _ 24 24 rfl _ _ rfl rfl hrun' ?_)
  refine bodyPost_end (results_none rfl _ _ _) rfl ?_
  exact ⟨rfl, HP.out⟩
set_option maxHeartbeats 4000000 in
set_option maxRecDepth 20000 in
theorem endMarkup_2 {Z : Nat → Prop} {S : Nat → Prop} {x : Nat} {m : Mc} {w : World} (h : Mach Z S x m w) (at' : Int) (hw : 2 ≤ m.wait.length) (hwl : m.wait.length ≤ 20000) (hgt : ∀ c ∈ m.wait.tail, c.r ≠ 62) (hn : m.tot ≤ 420000000) : Calls Tryz.prog 101 #[mp x, .int .i64 at'] w (Did Z S x (m.endMarkup at') w) := by
  obtain ⟨v, T, h1⟩ := h
  have hx1 := h1.lt
  have hw0 : m.wait ≠ [] := fun e => by rw [e] at hw; simp at hw
  obtain ⟨g, cap, ew, w1, w2, w3, w4, w5⟩ := wait_row h1 hw0
  have c5 := h1.cells 5 v.w rfl
  obtain ⟨n, hnn⟩ : ∃ n, m.wait.length = n := ⟨_, rfl⟩
  rw [ew, hnn] at c5
  rw [hnn] at w1 hw hwl
  obtain ⟨ch, hch⟩ : ∃ ch, m.wait[1]? = some ch := ⟨_, List.getElem?_eq_getElem (by rw [hnn]; omega)⟩
  obtain ⟨_, _, e9, hga, _, z4, _⟩ := w4 1 ch hch
  simp only [Option.some.injEq, Addr.mk.injEq, and_true] at e9
  obtain ⟨rfl, rfl⟩ := e9
  have hw1 : (if m.wait.tail = [] then at' else m.w1) = ch.a := by
    cases hm : m.wait with
    | nil => rw [hm] at hch; cases hch
    | cons a l =>
      cases l with
      | nil => rw [hm] at hch; cases hch
      | cons b l => rw [hm] at hch; simp at hch; subst hch; simp [Mc.w1, hm]
  obtain ⟨ca1, hca1⟩ : ∃ ca1, ch.a = ca1 := ⟨_, rfl⟩
  rw [hca1] at z4 hw1
  simp only [Nat.zero_add, Nat.one_mul] at z4
  have hcap : ¬ cap = 1 := by omega
  have i1 : (1 : Int) ≤ (n : Int) := by omega
  have i2 : (n : Int) ≤ (cap : Int) := by omega
  have i3 : (0 : Int) < (n : Int) - 1 := by omega
  have i6 : 0 < n - 1 := by omega
  have HR : Hid (Stays (Lets S v) w (ChRow (some ⟨g, 3, none⟩) m.wait.tail)) := by
    have := w5 1 (by rw [hnn]; omega)
    rw [List.drop_one] at this
    exact this
  have HG : Hid ((∀ c ∈ m.wait.tail.dropLast, c.r ≠ 62) ∧ m.wait.length = n ∧ m.wait ≠ [] ∧ (if m.wait.tail = [] then at' else m.w1) = ca1) := ⟨fun c hc => hgt c (List.dropLast_subset _ hc), hnn, hw0, hw1⟩
  have HM : Hid (MachV Z S x m v T w) := h1
  clear h1 w4 w5 w3 ew hch hca1 hw1 hgt hw0 hnn
  go_enter Tryz.func101, Tryz.ntmps101
  go_wp2_with fail
  refine (fault_v HM.out 14 ca1 (by omega)).mono ?_
  rintro e W1 ⟨rfl, f, f1, f2, f3⟩
  have hx2 := f1.lt
  have hst : Stays (Lets S { v with f := f }) W1 (ChRow (some ⟨g, 3, none⟩) m.wait.tail) := by
    refine HR.out.keep ⟨f2.os, f2.tape, f2.output, f2.size, fun k hk hlt => ?_⟩
    rcases hk with hk | hk
    · exact f2.block k hk hlt
    · exact f3 k hk hlt
  have hbg := bogus_v f1 HG.out.2.2.1 (n - 1) (cap - 1) (ao := (some ⟨g, 3, none⟩)) (l := m.wait.tail) hst (by rw [List.length_tail, HG.out.2.1]) (by omega) HG.out.1 (by have := tot_fault m 14 ca1; omega)
  have HB : Hid (Calls Tryz.prog 146 #[mp x, .slice (some ⟨g, 3, none⟩) (n - 1) (cap - 1)] W1 (Did Z S x ((m.fault 14 ca1).bogus m.wait.tail) W1)) := hbg
  have HK : Hid (Keep S w W1) := f2
  clear f1 f2 f3 hst hbg
  go_wp2_with fail
  refine HB.out.mono ?_
  rintro e W2 ⟨rfl, p2⟩
  have P2 : Hid (Post Z S x ((m.fault 14 ca1).bogus m.wait.tail) w W2) := Post.go (fun _ h => h) HK.out p2
  obtain ⟨_, hx3, _, _⟩ := p2.mach
  clear p2
  go_wp2_with fail
  refine (P2.out.call (fun U h => tellMade_any h at' (by have t1 := tot_fault m 14 ca1; have t2 := tot_bogus (m.fault 14 ca1) m.wait.tail; rw [List.length_tail, HG.out.2.1] at t2; omega))).mono ?_
  rintro e W3 ⟨rfl, p3⟩
  have P3 : Hid (Post Z S x (m.endMarkup at') w W3) := by
    show Post Z _ _ _ _ _
    unfold Mc.endMarkup
    rw [HG.out.2.2.2]
    exact p3
  clear p3
  go_wp2_with fail
  refine bodyPost_end (results_none rfl _ _ _) rfl ?_
  exact ⟨rfl, P3.out⟩
set_option maxHeartbeats 4000000 in
set_option maxRecDepth 20000 in
theorem endMarkup_1 {Z : Nat → Prop} {S : Nat → Prop} {x : Nat} {m : Mc} {w : World} (h : Mach Z S x m w) (at' : Int) (hw : m.wait.length = 1) (hwl : m.wait.length ≤ 20000) (hn : m.tot ≤ 420000000) : Calls Tryz.prog 101 #[mp x, .int .i64 at'] w (Did Z S x (m.endMarkup at') w) := by
  obtain ⟨v, T, h1⟩ := h
  have hx1 := h1.lt
  have hw0 : m.wait ≠ [] := fun e => by rw [e] at hw; simp at hw
  obtain ⟨g, cap, ew, w1, w2, w3, w4, w5⟩ := wait_row h1 hw0
  have c5 := h1.cells 5 v.w rfl
  obtain ⟨n, hnn⟩ : ∃ n, m.wait.length = n := ⟨_, rfl⟩
  rw [ew, hnn] at c5
  rw [hnn] at w1 hw hwl
  have hn1 : n = 1 := hw
  subst hn1
  have htl : m.wait.tail = [] := List.eq_nil_of_length_eq_zero (by rw [List.length_tail, hnn])
  obtain ⟨A, hA⟩ : ∃ A, (if cap = 1 then some (⟨g, 0, none⟩ : Addr) else some ⟨g, 3, none⟩) = A := ⟨_, rfl⟩
  have HR : Hid (Stays (Lets S v) w (ChRow A m.wait.tail)) := fun w' _ i c hc => by rw [htl] at hc; simp at hc
  have HG : Hid ((∀ c ∈ m.wait.tail.dropLast, c.r ≠ 62) ∧ m.wait.length = 1 ∧ m.wait ≠ [] ∧ (if m.wait.tail = [] then at' else m.w1) = at') := ⟨by rw [htl]; simp, hnn, hw0, by rw [if_pos htl]⟩
  have HM : Hid (MachV Z S x m v T w) := h1
  have i2 : (1 : Int) ≤ (cap : Int) := by omega
  clear h1 w4 w5 w3 ew hw0 hnn htl
  go_enter Tryz.func101, Tryz.ntmps101
  go_wp2_with fail
  refine (fault_v HM.out 14 at' (by omega)).mono ?_
  rintro e W1 ⟨rfl, f, f1, f2, f3⟩
  have hx2 := f1.lt
  have hst : Stays (Lets S { v with f := f }) W1 (ChRow A m.wait.tail) := by
    refine HR.out.keep ⟨f2.os, f2.tape, f2.output, f2.size, fun k hk hlt => ?_⟩
    rcases hk with hk | hk
    · exact f2.block k hk hlt
    · exact f3 k hk hlt
  have hbg := bogus_v f1 HG.out.2.2.1 0 (cap - 1) (ao := A) (l := m.wait.tail) hst (by rw [List.length_tail, HG.out.2.1]) (by omega) HG.out.1 (by have := tot_fault m 14 at'; omega)
  have HB : Hid (Calls Tryz.prog 146 #[mp x, .slice A 0 (cap - 1)] W1 (Did Z S x ((m.fault 14 at').bogus m.wait.tail) W1)) := hbg
  have HK : Hid (Keep S w W1) := f2
  clear f1 f2 f3 hst hbg
  go_wp2_with fail
  refine HB.out.mono ?_
  rintro e W2 ⟨rfl, p2⟩
  have P2 : Hid (Post Z S x ((m.fault 14 at').bogus m.wait.tail) w W2) := Post.go (fun _ h => h) HK.out p2
  obtain ⟨_, hx3, _, _⟩ := p2.mach
  clear p2
  go_wp2_with fail
  refine (P2.out.call (fun U h => tellMade_any h at' (by have t1 := tot_fault m 14 at'; have t2 := tot_bogus (m.fault 14 at') m.wait.tail; rw [List.length_tail, HG.out.2.1] at t2; omega))).mono ?_
  rintro e W3 ⟨rfl, p3⟩
  have P3 : Hid (Post Z S x (m.endMarkup at') w W3) := by
    show Post Z _ _ _ _ _
    unfold Mc.endMarkup
    rw [HG.out.2.2.2]
    exact p3
  clear p3
  go_wp2_with fail
  refine bodyPost_end (results_none rfl _ _ _) rfl ?_
  exact ⟨rfl, P3.out⟩
theorem endMarkup_any {Z : Nat → Prop} {S : Nat → Prop} {x : Nat} {m : Mc} {w : World} (h : Mach Z S x m w) (at' : Int) (hw : m.wait ≠ []) (hwl : m.wait.length ≤ 20000) (hgt : ∀ c ∈ m.wait.tail, c.r ≠ 62) (hn : m.tot ≤ 420000000) : Calls Tryz.prog 101 #[mp x, .int .i64 at'] w (Did Z S x (m.endMarkup at') w) := by
  have h0 := List.length_pos_iff.2 hw
  by_cases h2 : 2 ≤ m.wait.length
  · exact endMarkup_2 h at' h2 hwl hgt hn
  · exact endMarkup_1 h at' (by omega) hwl hn
end Go.Proofs.YtdiealijjhfhjaaGreatDoor
namespace Go.Proofs.YtdiealijjhfhjaaGreatDoor
open Go.RowKit Go.Maps
set_option maxHeartbeats 4000000 in
set_option maxRecDepth 20000 in
theorem cdataTwo_1 {Z : Nat → Prop} {S : Nat → Prop} {x : Nat} {m : Mc} {w : World} (h : Mach Z S x m w) (p q : Int) (hw : m.wait.length = 2) (hn : m.tot ≤ 490000000) : Calls Tryz.prog 208 #[mp x, cv ⟨93, p, q⟩] w (Did Z S x (m.cdataTwo ⟨93, p, q⟩) w) := by
  obtain ⟨ca, cb, hab⟩ : ∃ ca cb, m.wait = [ca, cb] := by
    match hm : m.wait, hw with
    | [a, b], _ => exact ⟨a, b, rfl⟩
  have HE : Hid (m.cdataTwo ⟨93, p, q⟩ = { m.tellChar ca with wait := [cb, ⟨93, p, q⟩] }) := by
    show _ = _
    unfold Mc.cdataTwo
    rw [if_pos rfl, hab]
  obtain ⟨W0, hW0, k0⟩ := Walk.start h ⟨93, p, q⟩
  have hxw := h.low
  obtain ⟨hb0, d0, d1, d2⟩ := k0.box
  have hx0 := k0.lt
  obtain ⟨U, u1, ⟨v, T, h1⟩, u3⟩ := k0.ex
  have hU : ¬ U w.heap.size → False := fun hh => by
    have := u3 (setAll W0 w.heap.size []) (setAll_keep hh [] W0)
    exact hh (Classical.byContradiction fun _ => hh (by
      exact absurd rfl (fun _ : (0 : Nat) = 0 => by
        have h9 := u3 (setAll W0 w.heap.size [(0, .int .i64 (93 + 1))]) (setAll_keep hh _ W0)
        have h8 := u3.now
        unfold Box at h8 h9
        rw [setAll_blk w.heap.size _ W0 _ _ _ h8] at h9
        simp at h9)))
  have hUx : U w.heap.size := Classical.byContradiction fun hh => hU hh
  have hown := h1.bag.own 0 _ rfl
  simp only [hab] at hown
  obtain ⟨g, cap, ew, g1, g2, g3, g4, _⟩ := two_set hown cb ⟨93, p, q⟩
  obtain ⟨ga, cpa, ea, _, _, _, r4, _⟩ := wait_row h1 (by rw [hab]; simp)
  rw [ew] at ea
  simp only [hab, List.length_cons, List.length_nil, Value.slice.injEq, Option.some.injEq, Addr.mk.injEq, and_true] at ea
  obtain ⟨rfl, hz1, rfl⟩ := ea
  clear hz1
  rw [hab] at r4
  obtain ⟨_, _, e9, hga, a0, a1, a2⟩ := r4 0 ca rfl
  simp only [Option.some.injEq, Addr.mk.injEq, and_true] at e9
  obtain ⟨rfl, rfl⟩ := e9
  simp only [Nat.zero_mul, Nat.zero_add] at a0 a1 a2
  have c5 := h1.cells 5 v.w rfl
  rw [ew] at c5
  obtain ⟨ra, pa, qa⟩ := ca
  obtain ⟨rb, pb, qb⟩ := cb
  simp only at a0 a1 a2
  have i2 : (2 : Int) ≤ (cap : Int) := by omega
  have hgb : w.heap.size ≠ g := fun e => h1.bag.out 0 _ rfl g g3 (e ▸ hUx)
  have HM : Hid (MachV Z U x m v T W0 ∧ (∀ k, S k → U k) ∧ Stays U W0 (Box w.heap.size ⟨93, p, q⟩) ∧ Keep S w W0 ∧ m.wait = [⟨ra, pa, qa⟩, ⟨rb, pb, qb⟩] ∧ v.w = .slice (some ⟨g, 0, none⟩) 2 cap) := ⟨h1, u1, u3, k0.keep, hab, ew⟩
  clear h k0 h1 u1 u3 hown ew g3 g4 r4 hab hU
  go_enter Tryz.func208, Tryz.ntmps208
  go_wp2_with fail
  refine (tellChar_v HM.out.1 ⟨ra, pa, qa⟩ (by omega)).mono ?_
  rintro e W1 ⟨rfl, o, l1, l2⟩
  have hx1 := l1.lt
  have hbx := (HM.out.2.2.1.keep l2).now
  unfold Box at hbx
  have hb1 : w.heap.size < W1.heap.size := (Array.getElem?_eq_some_iff.1 hbx).1
  clear d0 d1 d2 a0 a1 a2 c5 hx0 hb0
  have d0 : W1.cell? ⟨w.heap.size, 0, none⟩ = some (.int .i64 93) := by simp [World.cell?, hbx]
  have d1 : W1.cell? ⟨w.heap.size, 1, none⟩ = some (.int .i64 p) := by simp [World.cell?, hbx]
  have d2 : W1.cell? ⟨w.heap.size, 2, none⟩ = some (.int .i64 q) := by simp [World.cell?, hbx]
  have hown := l1.bag.own 0 _ rfl
  have hwe : (m.tell (ptOf (⟨1, ra, ByteArray.empty, ByteArray.empty, none, 0, 0, false, pa, qa⟩, []))).wait = [⟨ra, pa, qa⟩, ⟨rb, pb, qb⟩] := HM.out.2.2.2.2.1
  simp only [hwe] at hown
  obtain ⟨g', cap', ew', _, _, g3', g4', g5'⟩ := two_set hown ⟨rb, pb, qb⟩ ⟨93, p, q⟩
  have ew2 : v.w = .slice (some ⟨g', 0, none⟩) 2 cap' := ew'
  rw [HM.out.2.2.2.2.2] at ew2
  simp only [Value.slice.injEq, Option.some.injEq, Addr.mk.injEq, and_true, true_and] at ew2
  obtain ⟨rfl, rfl⟩ := ew2
  obtain ⟨ga, cpa, ea, _, _, _, r4, _⟩ := wait_row l1 (by rw [hwe]; simp)
  have ea2 : v.w = .slice (some ⟨ga, 0, none⟩) _ cpa := ea
  rw [HM.out.2.2.2.2.2] at ea2
  simp only [Value.slice.injEq, Option.some.injEq, Addr.mk.injEq, and_true] at ea2
  obtain ⟨rfl, hz1, rfl⟩ := ea2
  clear hz1
  rw [hwe] at r4
  obtain ⟨_, _, e9, hga1, b0, b1, b2⟩ := r4 1 ⟨rb, pb, qb⟩ rfl
  simp only [Option.some.injEq, Addr.mk.injEq, and_true] at e9
  obtain ⟨rfl, rfl⟩ := e9
  simp only [Nat.zero_add, Nat.one_mul] at b0 b1 b2
  obtain ⟨_, _, e9, _, a0, a1, a2⟩ := r4 0 ⟨ra, pa, qa⟩ rfl
  simp only [Option.some.injEq, Addr.mk.injEq, and_true] at e9
  obtain ⟨rfl, rfl⟩ := e9
  simp only [Nat.zero_mul, Nat.zero_add] at a0 a1 a2
  have c5 : W1.cell? ⟨x, 5, none⟩ = some (.slice (some ⟨g, 0, none⟩) 2 cap) := by
    have := l1.cells 5 v.w rfl
    rw [HM.out.2.2.2.2.2] at this
    exact this
  obtain ⟨_, _, f0⟩ := g4' 0 (by omega)
  obtain ⟨_, _, f1⟩ := g4' 1 (by omega)
  obtain ⟨_, _, f2⟩ := g4' 2 (by omega)
  obtain ⟨_, _, f3⟩ := g4' 3 (by omega)
  obtain ⟨_, _, f4⟩ := g4' 4 (by omega)
  obtain ⟨_, _, f5⟩ := g4' 5 (by omega)
  have hgx : g ≠ x := l1.toW.apart 0 _ rfl g (by show v.w.ownBlock = some g; rw [HM.out.2.2.2.2.2]; rfl)
  have HP : Hid (Post Z S x (m.cdataTwo ⟨93, p, q⟩) w (setAll W1 g [(0, .int .i64 rb), (1, .int .i64 pb), (2, .int .i64 qb), (3, .int .i64 93), (4, .int .i64 p), (5, .int .i64 q)])) := by
    rw [HE.out]
    have hne := setAll_ne g [(0, .int .i64 rb), (1, .int .i64 pb), (2, .int .i64 qb), (3, .int .i64 93), (4, .int .i64 p), (5, .int .i64 q)] W1
    have hUg : ¬ U g := l1.bag.out 0 _ rfl g (by show v.w.ownBlock = some g; rw [HM.out.2.2.2.2.2]; rfl)
    have hk := setAll_keep hUg [(0, .int .i64 rb), (1, .int .i64 pb), (2, .int .i64 qb), (3, .int .i64 93), (4, .int .i64 p), (5, .int .i64 q)] W1
    refine ⟨U, HM.out.2.1, ⟨{ v with o := o }, _, ⟨fun k hS => Nat.lt_of_lt_of_le (l1.low k hS) hk.size, l1.hz, l1.hi.keep hk, (hne x (fun e => hgx e.symm)).trans l1.blk, ?_, l1.names.mv (fun _ _ h => h) (fun b e _ => hne b (fun e2 => ?_)), l1.trie.keep hk, l1.told, fun t ht => (l1.toks t ht).keep hk⟩⟩, (HM.out.2.2.2.1.trans (l2.sub HM.out.2.1)).trans (hk.sub HM.out.2.1)⟩
    · have hbp := l1.bag.put l1.low 0 _ (rwC v.w [⟨rb, pb, qb⟩, ⟨93, p, q⟩]) rfl g5' (fun d hd => .inl hd) (fun d _ hd => hne d (fun e => hd (by subst e; show v.w.ownBlock = some d; rw [HM.out.2.2.2.2.2]; rfl)))
      exact hbp
    · subst e2
      have h9 := l1.names
      rw [show ({ v with o := o } : Vs).m = v.m from rfl] at h9
      rw [show ({ v with o := o } : Vs).m = v.m from rfl] at e
      rw [e] at h9
      obtain ⟨_, cur, zz, hc⟩ := own_blk (l1.bag.own 0 _ rfl) (g := b) (by show v.w.ownBlock = some b; rw [HM.out.2.2.2.2.2]; rfl)
      exact h9.obj _ _ _ hc
  clear l1 l2 hbx hown hwe r4 g3' g4' g5' ew' ea
  go_wp2_with fail
  go_region
  all_goals
    go_wp2_with fail
    refine bodyPost_end (results_none rfl _ _ _) rfl ?_
    refine ⟨rfl, ?_⟩
    exact HP.out.drew 1
theorem cdataTwo_any {Z : Nat → Prop} {S : Nat → Prop} {x : Nat} {m : Mc} {w : World} (h : Mach Z S x m w) (c : Ch) (hw : m.wait.length = 2) (hn : m.tot ≤ 490000000) : Calls Tryz.prog 208 #[mp x, cv c] w (Did Z S x (m.cdataTwo c) w) := by
  obtain ⟨r, p, q⟩ := c
  by_cases h93 : r = 93
  · subst h93
    exact cdataTwo_1 h p q hw hn
  by_cases h62 : r = 62
  · subst h62
    exact cdataTwo_2 h p q hn
  exact cdataTwo_3 h r p q (by simpa using h93) (by simpa using h62) hn
end Go.Proofs.YtdiealijjhfhjaaGreatDoor
