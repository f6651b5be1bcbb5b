/- resolve: what is made of an open reference. -/
import Derived.Test.YtdiealijjhfhjaaGreatDoorZy
import Derived.Deep.RegionHeld3
namespace Go.Proofs.YtdiealijjhfhjaaGreatDoor
open Go.RowKit
abbrev Kn (x : Nat) (kd : Int) (W0 w' : World) : Prop := w'.cell? ⟨x, 8, none⟩ = some (.int .i64 kd) ∧ Below W0.heap.size W0 w'
theorem kn_below {x : Nat} {kd : Int} {W0 w' : World} (h : Kn x kd W0 w') : Below W0.heap.size W0 w' := h.2
theorem kn_step {x : Nat} {kd : Int} {W0 w' w2 : World} (h : Kn x kd W0 w') (b : Below w'.heap.size w' w2) (hx : x < W0.heap.size) (c8 : W0.cell? ⟨x, 8, none⟩ = some (.int .i64 kd)) : Kn x kd W0 w2 := by
  have hb : Below W0.heap.size W0 w2 := h.2.trans (b.mono h.2.size)
  exact ⟨(hb.cell (p := ⟨x, 8, none⟩) hx).trans c8, hb⟩
theorem kn_keep {x : Nat} {kd : Int} {W0 w' : World} (h : Kn x kd W0 w') (hx : x < W0.heap.size) (c8 : W0.cell? ⟨x, 8, none⟩ = some (.int .i64 kd)) : Kn x kd W0 w'.drew := kn_step h ((Below.refl _ _).drew) hx c8
def Mc.fl (m : Mc) (i : Nat) : Mc := { m with ref := [], fs := m.fs ++ Mc.refFaults m.ref m.oneR.2.1 (m.oneR.2.2.take i) }
theorem fl_zero (m : Mc) : m.fl 0 = { m with ref := [] } := by simp [Mc.fl, Mc.refFaults]
theorem fl_succ (m : Mc) (i : Nat) (c : Int) (h : m.oneR.2.2[i]? = some c) : m.fl (i + 1) = (m.fl i).fault c (if c = 18 then Mc.toAt m.ref (m.oneR.2.1 - 1) else Mc.frAt m.ref) := by
  obtain ⟨h1, rfl⟩ := List.getElem?_eq_some_iff.1 h
  unfold Mc.fl Mc.fault
  rw [← List.take_append_getElem h1]
  unfold Mc.refFaults
  rw [List.map_append, ← List.append_assoc]
  rfl
theorem fl_tot (m : Mc) (i : Nat) (h : m.tot ≤ 400000000) : (m.fl i).tot ≤ 500000000 := by
  have := codes_len m
  unfold Mc.tot at h ⊢
  simp [Mc.fl, Mc.refFaults]
  omega
theorem IntRow.stays {ao : Option Addr} {C : List Int} {w' : World} {B A : Nat} (h : IntRow ao C w') (hfr : ∀ b o, ao = some ⟨b, o, none⟩ → o = 0 ∧ B ≤ b ∧ b < w'.heap.size) (hB : A ≤ B) : ∀ U : Nat → Prop, (∀ k, A ≤ k → k < w'.heap.size → U k) → Stays U w' (IntRow ao C) := fun U hU w2 k i c hc => by
  obtain ⟨b, rfl, h1, h2⟩ := h i c hc
  obtain ⟨_, h3, h4⟩ := hfr b 0 rfl
  have e := k.block b (hU b (by omega) h4) h4
  exact (h.same e) i c hc
abbrev Rp (g : Nat) (l : List Ch) (ao : Option Addr) (C : List Int) (w : World) : Prop := ChRow (some ⟨g, 0, none⟩) l w ∧ IntRow ao C w
set_option maxHeartbeats 4000000 in
set_option maxRecDepth 20000 in
theorem resolve_1 {Z : Nat → Prop} {S : Nat → Prop} {x : Nat} {m : Mc} {w : World} (h : Mach Z S x m w) (a0 : Ch) (t0 : List Ch) (hl : m.ref = a0 :: t0) (hlen : m.oneR.2.1 ≤ m.ref.length) (hsm : m.ref.length ≤ 20000) (kd : Int) (hkd : m.kind = kd) (hn : m.tot ≤ 400000000)
    (hk0 : m.oneR.2.1 = 0) (H : ∀ (U : Nat → Prop) (W : World) (i : Nat) (c : Ch), m.left[i]? = some c → Mach Z U x ((m.left.take i).foldl Mc.take m.mid) W → Calls Tryz.prog 76 #[mp x, cv c] W (Did Z U x ((m.left.take (i + 1)).foldl Mc.take m.mid) W)) : Calls Tryz.prog 52 #[mp x] w (Did Z S x m.resolve w) := by
  obtain ⟨v, T, h⟩ := h
  have hxw := h.lt
  have f6 := h.free 6
  obtain ⟨g, ca, c6, hca, hmx, k1⟩ := unref h (by rw [hl]; simp)
  obtain ⟨n, hnl⟩ : ∃ n, m.ref.length = n := ⟨_, rfl⟩
  rw [hnl] at c6 hca hlen hsm
  have hn0 : 0 < n := by rw [← hnl, hl]; simp
  obtain ⟨W1, hW1⟩ : ∃ W1, w.setCell ⟨x, 6, none⟩ (.slice none 0 0) = W1 := ⟨_, rfl⟩
  rw [hW1] at k1
  have c8 : W1.cell? ⟨x, 8, none⟩ = some (.int .i64 kd) := by
    obtain ⟨v2, q1, _⟩ := k1.mach
    rw [← hkd]
    exact q1 8 _ rfl
  have hx1 := k1.lt
  obtain ⟨r, hr⟩ : ∃ r, m.oneR.1 = r := ⟨_, rfl⟩
  obtain ⟨C, hC⟩ : ∃ C, m.oneR.2.2 = C := ⟨_, rfl⟩
  obtain ⟨nc, hnc⟩ : ∃ nc, C.length = nc := ⟨_, rfl⟩
  have hattr : decide (m.kind ≠ 0) = (kd != 0) := by
    rw [hkd]
    by_cases e : kd = 0 <;> simp [e]
  have hone : G6.refP G6.refs (kd != 0) (bs (encs m.ref)).data.toList = (r, 0, C) := by
    rw [bs_list, ← hattr, ← hr, ← hC, ← hk0]
    rfl
  have hnc3 : nc ≤ 3 := by rw [← hnc, ← hC]; exact codes_len m
  have HT : Hid (∀ w' cap, Below W1.heap.size W1 w' → Calls Tryz.prog 83 #[.slice (some ⟨g, 0, none⟩) n cap] w' fun e w'' => e = .returned (.string (bs (encs m.ref))) ∧ Below w'.heap.size w' w'') := fun w' cap bw => textOf_any n cap (k1.now.below bw) hnl (by omega)
  have HO : Hid (∀ w', Below W1.heap.size W1 w' → Calls Tryz.prog 82 #[.string (bs (encs m.ref)), .bool (kd != 0)] w' (OneAt w' r 0 nc C)) := fun w' bw => one_at (k1.hi bw) _ (kd != 0) (by
    rw [bs_size]
    have := encs_len m.ref
    omega) r _ nc C hone hnc
  have K1 : Hid (WalkP Z S x (m.fl 0) (ChRow (some ⟨g, 0, none⟩) m.ref) w W1) := by rw [fl_zero]; exact k1
  have HC : Hid (m.oneR.2.2 = C ∧ m.oneR.1 = r ∧ m.ref.length = n ∧ C.length = nc) := ⟨hC, hr, hnl, hnc⟩
  have HL : Hid (m.ref = a0 :: t0) := hl
  have HK : Hid (m.oneR.2.1 = 0) := hk0
  have HN : Hid (∀ i, (m.fl i).tot ≤ 500000000) := fun i => fl_tot m i hn
  have HS : Hid (∀ (U : Nat → Prop) (W : World) (i : Nat) (c : Ch), m.left[i]? = some c → Mach Z U x ((m.left.take i).foldl Mc.take m.mid) W → Calls Tryz.prog 76 #[mp x, cv c] W (Did Z U x ((m.left.take (i + 1)).foldl Mc.take m.mid) W)) := H
  rw [hk0] at hlen
  clear h k1 hl hnl hr hC hnc hone hattr hkd hn H hk0 hmx
  have i2 : (n : Int) ≤ (ca : Int) := by omega
  have hin : Kn x kd W1 W1 := ⟨c8, Below.refl _ _⟩
  go_enter Tryz.func52, Tryz.ntmps52
  go_wp2_with fail
  go_region_held3 (fun w' => w'.cell? ⟨x, 8, none⟩ = some (.int .i64 kd) ∧ Below W1.heap.size W1 w')
    (first | assumption | exact kn_keep (by assumption) hx1 c8 | go_keep)
    (first
      | (go_at_call 83; refine (HT.out _ _ (kn_below (by assumption))).mono ?_; rintro e w' ⟨rfl, hbw⟩; have hkk := kn_step (by assumption) hbw hx1 c8)
      | (go_at_call 82; refine (HO.out _ (kn_below (by assumption))).mono ?_; rintro e w' ⟨ao, cc, rfl, hcc, hC, hfr, hbw⟩; have hkk := kn_step (by assumption) hbw hx1 c8; have hst := IntRow.stays (A := W1.heap.size) hC hfr (kn_below (x := x) (kd := kd) (W0 := W1) (by assumption)).size))
  have K2 : Hid (WalkP Z S x (m.fl 0) (Rp g m.ref ao C) w w') := K1.out.add (kn_below hkk) hst
  clear hst hkk hbw hfr hC K1 HT HO hin c8 hW1
  go_wp2_with fail
  go_loopw [32] (fun iv wr => ∃ i : Nat, iv = .int .i64 i ∧ i ≤ nc ∧ WalkP Z S x (m.fl i) (Rp g m.ref ao C) w wr) (fun iv _ => nc - (intOf iv).toNat)
  case atStart => exact ⟨0, rfl, Nat.zero_le _, K2.out⟩
  case round =>
    obtain ⟨i, rfl, hin, hk⟩ := hrel
    have HR : Hid (WalkP Z S x (m.fl i) (Rp g m.ref ao C) w wr) := hk
    have hxr := hk.lt
    obtain ⟨g', o', eg, hgl, g0, g1, g2⟩ := hk.now.1 0 a0 (by rw [HL.out]; rfl)
    cases eg
    by_cases hlt : i < nc
    · obtain ⟨c, hc⟩ : ∃ c, C[i]? = some c := ⟨_, List.getElem?_eq_getElem (by rw [HC.out.2.2.2]; exact hlt)⟩
      obtain ⟨b, rfl, hb, hcell⟩ := hk.now.2 i c hc
      have hlt' : decide ((i : Int) < (nc : Int)) = true := decide_eq_true (by omega)
      have HF : Hid (m.fl (i + 1) = (m.fl i).fault c (if c = 18 then Mc.toAt m.ref (m.oneR.2.1 - 1) else Mc.frAt m.ref)) := fl_succ m i c (by rw [HC.out.1]; exact hc)
      have HM : Hid (c ∈ m.oneR.2.2) := by rw [HC.out.1]; exact List.mem_of_getElem? hc
      clear hk hc
      have h18 : (c == 18) = false := by
        have := refP_18 _ _ _ HK.out
        cases e : (c == 18) with
        | false => rfl
        | true => simp at e; subst e; exact absurd HM.out this
      have g1' : wr.cell? ⟨g, 1, none⟩ = some (.int .i64 a0.a) := by simpa using g1
      clear g0 g1 g2
      go_wp2_with fail
      refine (HR.out.call (fun U hU => fault_any hU c a0.a (by have := HN.out i; omega))).mono ?_
      rintro e W2 ⟨rfl, k2⟩
      have HR2 : Hid (WalkP Z S x (m.fl (i + 1)) (Rp g m.ref (some ⟨b, 0, none⟩) C) w W2) := by
        show WalkP Z S x (m.fl (i + 1)) _ w W2
        rw [HF.out, if_neg (by simpa using h18), HL.out]
        rw [HL.out] at k2
        exact k2
      clear k2 hcell g1'
      go_wp2_with fail
      go_roundw
      case rel => exact ⟨i + 1, by go_num, by omega, HR2.out⟩
      case measure => simp [intOf]; omega
    · obtain rfl : i = nc := by omega
      have hlt' : decide ((i : Int) < (i : Int)) = false := decide_eq_false (by omega)
      obtain ⟨ra, fa, za⟩ := a0
      simp only at g0 g1 g2
      have g0' : wr.cell? ⟨g, 0, none⟩ = some (.int .i64 ra) := by simpa using g0
      have g1' : wr.cell? ⟨g, 1, none⟩ = some (.int .i64 fa) := by simpa using g1
      have g2' : wr.cell? ⟨g, 2, none⟩ = some (.int .i64 za) := by simpa using g2
      clear hk g0 g1 g2
      go_wp2_with fail
      refine (HR.out.call (fun U hU => put_any hU ⟨ra, fa, za⟩ false (HN.out i))).mono ?_
      rintro e W3 ⟨rfl, k3⟩
      have K3 : Hid (WalkP Z S x m.mid (Rp g m.ref ao C) w W3) := by
        have e1 : m.mid = (m.fl i).put ⟨ra, fa, za⟩ false := by
          unfold Mc.mid Mc.fl
          rw [HK.out, List.take_of_length_le (by rw [HC.out.1, HC.out.2.2.2]; exact Nat.le_refl _)]
          dsimp only
          rw [if_pos rfl, HL.out]
        show WalkP Z S x m.mid _ w W3
        rw [e1]
        exact k3
      clear k3 HR g0' g1' g2'
      have HQ : Hid (m.left = m.ref.drop 1) := by
        show m.left = _
        unfold Mc.left
        rw [HK.out, if_pos rfl]
      by_cases hc1 : ca = 1
      · obtain rfl : n = 1 := by omega
        subst hc1
        have HP : Hid (Post Z S x m.resolve w W3) := by
          have e1 : m.left = [] := by rw [HQ.out]; exact List.drop_eq_nil_of_le (by rw [HC.out.2.2.1]; exact Nat.le_refl _)
          show Post Z S x m.resolve w W3
          rw [resolve_eq, e1]
          exact K3.out.post
        go_wp2_with fail
        go_loopw [80] (fun iv wr => iv = .int .i64 0 ∧ wr = W3) (fun iv _ => 0)
        case atStart => exact ⟨rfl, rfl⟩
        case round =>
          obtain ⟨rfl, rfl⟩ := hrel
          go_wp2_with fail
          refine bodyPost_end (results_none rfl _ _ _) rfl ?_
          exact ⟨rfl, HP.out⟩
      · go_wp2_with fail
        go_loopw [80] (fun iv wr => ∃ i : Nat, iv = .int .i64 i ∧ i ≤ n - 1 ∧ WalkP Z S x ((m.left.take i).foldl Mc.take m.mid) (Rp g m.ref ao C) w wr) (fun iv _ => n - 1 - (intOf iv).toNat)
        case atStart => exact ⟨0, rfl, Nat.zero_le _, K3.out⟩
        case round =>
          obtain ⟨i, rfl, hin, hk⟩ := hrel
          have HR : Hid (WalkP Z S x ((m.left.take i).foldl Mc.take m.mid) (Rp g m.ref ao C) w wr) := hk
          have hxr := hk.lt
          by_cases hlt : i < n - 1
          · obtain ⟨c, hc⟩ : ∃ c, m.ref[1 + i]? = some c := ⟨_, List.getElem?_eq_getElem (by rw [HC.out.2.2.1]; omega)⟩
            have HL2 : Hid (m.left[i]? = some c) := by
              show m.left[i]? = some c
              rw [HQ.out, List.getElem?_drop]
              exact hc
            obtain ⟨g', o', eg, hgl, g0, g1, g2⟩ := hk.now.1 (1 + i) c hc
            cases eg
            obtain ⟨rc, fc, zc⟩ := c
            simp only at g0 g1 g2
            have g0' : wr.cell? ⟨g, 3 + i * 3, none⟩ = some (.int .i64 rc) := by rw [← g0]; congr 2; omega
            have g1' : wr.cell? ⟨g, 3 + i * 3 + 1, none⟩ = some (.int .i64 fc) := by rw [← g1]; congr 2; omega
            have g2' : wr.cell? ⟨g, 3 + i * 3 + 2, none⟩ = some (.int .i64 zc) := by rw [← g2]; congr 2; omega
            have hlt' : decide ((i : Int) < ((n - 1 : Nat) : Int)) = true := decide_eq_true (by omega)
            obtain ⟨W0, hW0⟩ : ∃ W0, wr.alloc (.cells #[.int .i64 rc, .int .i64 fc, .int .i64 zc] 44) = W0 := ⟨_, rfl⟩
            have B0 : Hid (Below wr.heap.size wr W0) := by rw [← hW0]; exact (Below.refl _ _).alloc (Nat.le_refl _) _
            have hnew : W0.heap[wr.heap.size]? = some (.cells #[.int .i64 rc, .int .i64 fc, .int .i64 zc] 44 (0, 0)) := by rw [← hW0]; exact heap_alloc_new _ _
            have d0 : W0.cell? ⟨wr.heap.size, 0, none⟩ = some (.int .i64 rc) := by simp [World.cell?, hnew]
            have d1 : W0.cell? ⟨wr.heap.size, 1, none⟩ = some (.int .i64 fc) := by simp [World.cell?, hnew]
            have d2 : W0.cell? ⟨wr.heap.size, 2, none⟩ = some (.int .i64 zc) := by simp [World.cell?, hnew]
            clear hnew hk hc g0 g1 g2
            go_wp2_with fail
            refine ((HR.out.below B0.out).call (fun U hU => HS.out U _ i _ HL2.out hU)).mono ?_
            rintro e W5 ⟨rfl, k5⟩
            have K5 : Hid (WalkP Z S x ((m.left.take (i + 1)).foldl Mc.take m.mid) (Rp g m.ref ao C) w W5) := k5
            clear k5 hW0 d0 d1 d2 g0' g1' g2'
            go_wp2_with fail
            go_roundw
            case rel => exact ⟨i + 1, by go_num, by omega, K5.out⟩
            case measure => simp [intOf]; omega
          · have hlt' : decide ((i : Int) < ((n - 1 : Nat) : Int)) = false := decide_eq_false (by omega)
            have HP : Hid (Post Z S x m.resolve w wr) := by
              have e1 : m.left.take i = m.left := List.take_of_length_le (by rw [HQ.out, List.length_drop, HC.out.2.2.1]; omega)
              rw [e1, ← resolve_eq] at hk
              exact hk.post
            clear hk
            go_wp2_with fail
            refine bodyPost_end (results_none rfl _ _ _) rfl ?_
            exact ⟨rfl, HP.out⟩
set_option maxHeartbeats 4000000 in
set_option maxRecDepth 20000 in
theorem resolve_2 {Z : Nat → Prop} {S : Nat → Prop} {x : Nat} {m : Mc} {w : World} (h : Mach Z S x m w) (a0 : Ch) (t0 : List Ch) (hl : m.ref = a0 :: t0) (hlen : m.oneR.2.1 ≤ m.ref.length) (hsm : m.ref.length ≤ 20000) (kd : Int) (hkd : m.kind = kd) (hn : m.tot ≤ 400000000)
    (j : Nat) (hk0 : m.oneR.2.1 = j + 1) (H : ∀ (U : Nat → Prop) (W : World) (i : Nat) (c : Ch), m.left[i]? = some c → Mach Z U x ((m.left.take i).foldl Mc.take m.mid) W → Calls Tryz.prog 76 #[mp x, cv c] W (Did Z U x ((m.left.take (i + 1)).foldl Mc.take m.mid) W)) : Calls Tryz.prog 52 #[mp x] w (Did Z S x m.resolve w) := by
  obtain ⟨v, T, h⟩ := h
  have hxw := h.lt
  have f6 := h.free 6
  obtain ⟨g, ca, c6, hca, hmx, k1⟩ := unref h (by rw [hl]; simp)
  obtain ⟨n, hnl⟩ : ∃ n, m.ref.length = n := ⟨_, rfl⟩
  rw [hnl] at c6 hca hlen hsm
  have hn0 : 0 < n := by rw [← hnl, hl]; simp
  obtain ⟨W1, hW1⟩ : ∃ W1, w.setCell ⟨x, 6, none⟩ (.slice none 0 0) = W1 := ⟨_, rfl⟩
  rw [hW1] at k1
  have c8 : W1.cell? ⟨x, 8, none⟩ = some (.int .i64 kd) := by
    obtain ⟨v2, q1, _⟩ := k1.mach
    rw [← hkd]
    exact q1 8 _ rfl
  have hx1 := k1.lt
  obtain ⟨r, hr⟩ : ∃ r, m.oneR.1 = r := ⟨_, rfl⟩
  obtain ⟨C, hC⟩ : ∃ C, m.oneR.2.2 = C := ⟨_, rfl⟩
  obtain ⟨nc, hnc⟩ : ∃ nc, C.length = nc := ⟨_, rfl⟩
  have hattr : decide (m.kind ≠ 0) = (kd != 0) := by
    rw [hkd]
    by_cases e : kd = 0 <;> simp [e]
  have hone : G6.refP G6.refs (kd != 0) (bs (encs m.ref)).data.toList = (r, j + 1, C) := by
    rw [bs_list, ← hattr, ← hr, ← hC, ← hk0]
    rfl
  have hnc3 : nc ≤ 3 := by rw [← hnc, ← hC]; exact codes_len m
  have HT : Hid (∀ w' cap, Below W1.heap.size W1 w' → Calls Tryz.prog 83 #[.slice (some ⟨g, 0, none⟩) n cap] w' fun e w'' => e = .returned (.string (bs (encs m.ref))) ∧ Below w'.heap.size w' w'') := fun w' cap bw => textOf_any n cap (k1.now.below bw) hnl (by omega)
  have HO : Hid (∀ w', Below W1.heap.size W1 w' → Calls Tryz.prog 82 #[.string (bs (encs m.ref)), .bool (kd != 0)] w' (OneAt w' r (j + 1) nc C)) := fun w' bw => one_at (k1.hi bw) _ (kd != 0) (by
    rw [bs_size]
    have := encs_len m.ref
    omega) r _ nc C hone hnc
  have K1 : Hid (WalkP Z S x (m.fl 0) (ChRow (some ⟨g, 0, none⟩) m.ref) w W1) := by rw [fl_zero]; exact k1
  have HC : Hid (m.oneR.2.2 = C ∧ m.oneR.1 = r ∧ m.ref.length = n ∧ C.length = nc) := ⟨hC, hr, hnl, hnc⟩
  have HL : Hid (m.ref = a0 :: t0) := hl
  have HK : Hid (m.oneR.2.1 = j + 1) := hk0
  have HN : Hid (∀ i, (m.fl i).tot ≤ 500000000) := fun i => fl_tot m i hn
  have HS : Hid (∀ (U : Nat → Prop) (W : World) (i : Nat) (c : Ch), m.left[i]? = some c → Mach Z U x ((m.left.take i).foldl Mc.take m.mid) W → Calls Tryz.prog 76 #[mp x, cv c] W (Did Z U x ((m.left.take (i + 1)).foldl Mc.take m.mid) W)) := H
  rw [hk0] at hlen
  clear h k1 hl hnl hr hC hnc hone hattr hkd hn H hk0 hmx
  have i2 : (n : Int) ≤ (ca : Int) := by omega
  have hin : Kn x kd W1 W1 := ⟨c8, Below.refl _ _⟩
  go_enter Tryz.func52, Tryz.ntmps52
  go_wp2_with fail
  go_region_held3 (fun w' => w'.cell? ⟨x, 8, none⟩ = some (.int .i64 kd) ∧ Below W1.heap.size W1 w')
    (first | assumption | exact kn_keep (by assumption) hx1 c8 | go_keep)
    (first
      | (go_at_call 83; refine (HT.out _ _ (kn_below (by assumption))).mono ?_; rintro e w' ⟨rfl, hbw⟩; have hkk := kn_step (by assumption) hbw hx1 c8)
      | (go_at_call 82; refine (HO.out _ (kn_below (by assumption))).mono ?_; rintro e w' ⟨ao, cc, rfl, hcc, hC, hfr, hbw⟩; have hkk := kn_step (by assumption) hbw hx1 c8; have hst := IntRow.stays (A := W1.heap.size) hC hfr (kn_below (x := x) (kd := kd) (W0 := W1) (by assumption)).size))
  have K2 : Hid (WalkP Z S x (m.fl 0) (Rp g m.ref ao C) w w') := K1.out.add (kn_below hkk) hst
  clear hst hkk hbw hfr hC K1 HT HO hin c8 hW1
  go_wp2_with fail
  go_loopw [32] (fun iv wr => ∃ i : Nat, iv = .int .i64 i ∧ i ≤ nc ∧ WalkP Z S x (m.fl i) (Rp g m.ref ao C) w wr) (fun iv _ => nc - (intOf iv).toNat)
  case atStart => exact ⟨0, rfl, Nat.zero_le _, K2.out⟩
  case round =>
    obtain ⟨i, rfl, hin, hk⟩ := hrel
    have HR : Hid (WalkP Z S x (m.fl i) (Rp g m.ref ao C) w wr) := hk
    have hxr := hk.lt
    obtain ⟨g', o', eg, hgl, g0, g1, g2⟩ := hk.now.1 0 a0 (by rw [HL.out]; rfl)
    cases eg
    by_cases hlt : i < nc
    · obtain ⟨c, hc⟩ : ∃ c, C[i]? = some c := ⟨_, List.getElem?_eq_getElem (by rw [HC.out.2.2.2]; exact hlt)⟩
      obtain ⟨b, rfl, hb, hcell⟩ := hk.now.2 i c hc
      have hlt' : decide ((i : Int) < (nc : Int)) = true := decide_eq_true (by omega)
      have HF : Hid (m.fl (i + 1) = (m.fl i).fault c (if c = 18 then Mc.toAt m.ref (m.oneR.2.1 - 1) else Mc.frAt m.ref)) := fl_succ m i c (by rw [HC.out.1]; exact hc)
      have HM : Hid (c ∈ m.oneR.2.2) := by rw [HC.out.1]; exact List.mem_of_getElem? hc
      clear hk hc
      obtain ⟨aj, haj⟩ : ∃ aj, m.ref[j]? = some aj := ⟨_, List.getElem?_eq_getElem (by rw [HC.out.2.2.1]; omega)⟩
      have HJ : Hid (Mc.toAt m.ref j = aj.z) := by
        show Mc.toAt m.ref j = aj.z
        unfold Mc.toAt
        rw [haj]
      obtain ⟨g', o', eg, _, _, _, z2⟩ := HR.out.now.1 j aj haj
      cases eg
      have z2' : wr.cell? ⟨g, j * 3 + 2, none⟩ = some (.int .i64 aj.z) := by simpa using z2
      have g1' : wr.cell? ⟨g, 1, none⟩ = some (.int .i64 a0.a) := by simpa using g1
      clear g0 g1 g2 z2 haj
      obtain ⟨fz, hfz⟩ : ∃ fz, aj.z = fz := ⟨_, rfl⟩
      obtain ⟨fa, hfa⟩ : ∃ fa, a0.a = fa := ⟨_, rfl⟩
      rw [hfz] at z2' HJ
      rw [hfa] at g1'
      have HA : Hid (a0.a = fa) := hfa
      clear hfz hfa
      cases h18 : (c == 18) with
      | false =>
        go_wp2_with fail
        refine (HR.out.call (fun U hU => fault_any hU c fa (by have := HN.out i; omega))).mono ?_
        rintro e W2 ⟨rfl, k2⟩
        have HR2 : Hid (WalkP Z S x (m.fl (i + 1)) (Rp g m.ref (some ⟨b, 0, none⟩) C) w W2) := by
          show WalkP Z S x (m.fl (i + 1)) _ w W2
          have e1 : Mc.frAt m.ref = fa := by rw [HL.out]; exact HA.out
          rw [HF.out, if_neg (by simpa using h18), e1]
          exact k2
        clear k2 hcell g1' z2'
        go_wp2_with fail
        go_roundw
        case rel => exact ⟨i + 1, by go_num, by omega, HR2.out⟩
        case measure => simp [intOf]; omega
      | true =>
        go_wp2_with fail
        refine (HR.out.call (fun U hU => fault_any hU c fz (by have := HN.out i; omega))).mono ?_
        rintro e W2 ⟨rfl, k2⟩
        have HR2 : Hid (WalkP Z S x (m.fl (i + 1)) (Rp g m.ref (some ⟨b, 0, none⟩) C) w W2) := by
          show WalkP Z S x (m.fl (i + 1)) _ w W2
          have e1 : Mc.toAt m.ref (m.oneR.2.1 - 1) = fz := by rw [HK.out]; exact HJ.out
          rw [HF.out, if_pos (by simpa using h18), e1]
          exact k2
        clear k2 hcell g1' z2'
        go_wp2_with fail
        go_roundw
        case rel => exact ⟨i + 1, by go_num, by omega, HR2.out⟩
        case measure => simp [intOf]; omega
    · obtain rfl : i = nc := by omega
      have hlt' : decide ((i : Int) < (i : Int)) = false := decide_eq_false (by omega)
      obtain ⟨aj, haj⟩ : ∃ aj, m.ref[j]? = some aj := ⟨_, List.getElem?_eq_getElem (by rw [HC.out.2.2.1]; omega)⟩
      have HJ : Hid (Mc.toAt m.ref j = aj.z) := by
        show Mc.toAt m.ref j = aj.z
        unfold Mc.toAt
        rw [haj]
      obtain ⟨g', o', eg, _, _, _, z2⟩ := HR.out.now.1 j aj haj
      cases eg
      have z2' : wr.cell? ⟨g, j * 3 + 2, none⟩ = some (.int .i64 aj.z) := by simpa using z2
      have g1' : wr.cell? ⟨g, 1, none⟩ = some (.int .i64 a0.a) := by simpa using g1
      clear g0 g1 g2 z2 haj hk
      obtain ⟨fz, hfz⟩ : ∃ fz, aj.z = fz := ⟨_, rfl⟩
      obtain ⟨fa, hfa⟩ : ∃ fa, a0.a = fa := ⟨_, rfl⟩
      rw [hfz] at z2' HJ
      rw [hfa] at g1'
      have HA : Hid (a0.a = fa) := hfa
      clear hfz hfa
      have hwj : IntKind.i64.wrap (j : Int) = (j : Int) := by rw [IntKind.wrap_i64]; omega
      have hjn : j < n := by omega
      go_wp2_with fail
      go_still_tail 13, (show Tryz.prog.follows .mixedOrders = true by kernel_rfl)
      go_wp2_with fail
      refine (HR.out.drew.call (fun U hU => put_any hU ⟨r, fa, fz⟩ true (HN.out i))).mono ?_
      rintro e W3 ⟨rfl, k3⟩
      have K3 : Hid (WalkP Z S x m.mid (Rp g m.ref ao C) w W3) := by
        have e1 : m.mid = (m.fl i).put ⟨r, fa, fz⟩ true := by
          have e2 : Mc.frAt m.ref = fa := by rw [HL.out]; exact HA.out
          have e3 : j + 1 - 1 = j := by omega
          unfold Mc.mid Mc.fl
          rw [HK.out, List.take_of_length_le (by rw [HC.out.1, HC.out.2.2.2]; exact Nat.le_refl _)]
          dsimp only
          rw [if_neg (by omega), HC.out.2.1, e2, e3, HJ.out]
        show WalkP Z S x m.mid _ w W3
        rw [e1]
        exact k3
      clear k3 HR g1' z2' hwj
      have HQ : Hid (m.left = m.ref.drop (j + 1)) := by
        show m.left = _
        unfold Mc.left
        rw [HK.out, if_neg (by omega)]
      by_cases hc1 : ca = (j + 1)
      · obtain rfl : n = (j + 1) := by omega
        subst hc1
        have HP : Hid (Post Z S x m.resolve w W3) := by
          have e1 : m.left = [] := by rw [HQ.out]; exact List.drop_eq_nil_of_le (by rw [HC.out.2.2.1]; exact Nat.le_refl _)
          show Post Z S x m.resolve w W3
          rw [resolve_eq, e1]
          exact K3.out.post
        go_wp2_with fail
        go_loopw [80] (fun iv wr => iv = .int .i64 0 ∧ wr = W3) (fun iv _ => 0)
        case atStart => exact ⟨rfl, rfl⟩
        case round =>
          obtain ⟨rfl, rfl⟩ := hrel
          go_wp2_with fail
          refine bodyPost_end (results_none rfl _ _ _) rfl ?_
          exact ⟨rfl, HP.out⟩
      · go_wp2_with fail
        go_loopw [80] (fun iv wr => ∃ i : Nat, iv = .int .i64 i ∧ i ≤ n - (j + 1) ∧ WalkP Z S x ((m.left.take i).foldl Mc.take m.mid) (Rp g m.ref ao C) w wr) (fun iv _ => n - (j + 1) - (intOf iv).toNat)
        case atStart => exact ⟨0, rfl, Nat.zero_le _, K3.out⟩
        case round =>
          obtain ⟨i, rfl, hin, hk⟩ := hrel
          have HR : Hid (WalkP Z S x ((m.left.take i).foldl Mc.take m.mid) (Rp g m.ref ao C) w wr) := hk
          have hxr := hk.lt
          by_cases hlt : i < n - (j + 1)
          · obtain ⟨c, hc⟩ : ∃ c, m.ref[(j + 1) + i]? = some c := ⟨_, List.getElem?_eq_getElem (by rw [HC.out.2.2.1]; omega)⟩
            have HL2 : Hid (m.left[i]? = some c) := by
              show m.left[i]? = some c
              rw [HQ.out, List.getElem?_drop]
              exact hc
            obtain ⟨g', o', eg, hgl, g0, g1, g2⟩ := hk.now.1 ((j + 1) + i) c hc
            cases eg
            obtain ⟨rc, fc, zc⟩ := c
            simp only at g0 g1 g2
            have g0' : wr.cell? ⟨g, (j + 1) * 3 + i * 3, none⟩ = some (.int .i64 rc) := by rw [← g0]; congr 2; omega
            have g1' : wr.cell? ⟨g, (j + 1) * 3 + i * 3 + 1, none⟩ = some (.int .i64 fc) := by rw [← g1]; congr 2; omega
            have g2' : wr.cell? ⟨g, (j + 1) * 3 + i * 3 + 2, none⟩ = some (.int .i64 zc) := by rw [← g2]; congr 2; omega
            have hlt' : decide ((i : Int) < ((n - (j + 1) : Nat) : Int)) = true := decide_eq_true (by omega)
            obtain ⟨W0, hW0⟩ : ∃ W0, wr.alloc (.cells #[.int .i64 rc, .int .i64 fc, .int .i64 zc] 44) = W0 := ⟨_, rfl⟩
            have B0 : Hid (Below wr.heap.size wr W0) := by rw [← hW0]; exact (Below.refl _ _).alloc (Nat.le_refl _) _
            have hnew : W0.heap[wr.heap.size]? = some (.cells #[.int .i64 rc, .int .i64 fc, .int .i64 zc] 44 (0, 0)) := by rw [← hW0]; exact heap_alloc_new _ _
            have d0 : W0.cell? ⟨wr.heap.size, 0, none⟩ = some (.int .i64 rc) := by simp [World.cell?, hnew]
            have d1 : W0.cell? ⟨wr.heap.size, 1, none⟩ = some (.int .i64 fc) := by simp [World.cell?, hnew]
            have d2 : W0.cell? ⟨wr.heap.size, 2, none⟩ = some (.int .i64 zc) := by simp [World.cell?, hnew]
            clear hnew hk hc g0 g1 g2
            go_wp2_with fail
            refine ((HR.out.below B0.out).call (fun U hU => HS.out U _ i _ HL2.out hU)).mono ?_
            rintro e W5 ⟨rfl, k5⟩
            have K5 : Hid (WalkP Z S x ((m.left.take (i + 1)).foldl Mc.take m.mid) (Rp g m.ref ao C) w W5) := k5
            clear k5 hW0 d0 d1 d2 g0' g1' g2'
            go_wp2_with fail
            go_roundw
            case rel => exact ⟨i + 1, by go_num, by omega, K5.out⟩
            case measure => simp [intOf]; omega
          · have hlt' : decide ((i : Int) < ((n - (j + 1) : Nat) : Int)) = false := decide_eq_false (by omega)
            have HP : Hid (Post Z S x m.resolve w wr) := by
              have e1 : m.left.take i = m.left := List.take_of_length_le (by rw [HQ.out, List.length_drop, HC.out.2.2.1]; omega)
              rw [e1, ← resolve_eq] at hk
              exact hk.post
            clear hk
            go_wp2_with fail
            refine bodyPost_end (results_none rfl _ _ _) rfl ?_
            exact ⟨rfl, HP.out⟩
end Go.Proofs.YtdiealijjhfhjaaGreatDoor
