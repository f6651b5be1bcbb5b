/- RawName. -/
import Derived.Test.YtdiealijjhfhjaaGreatDoorZs
import Derived.Deep.RegionHeld3
namespace Go.Proofs.YtdiealijjhfhjaaGreatDoor
open Go.RowKit Go.Maps
set_option maxHeartbeats 2000000 in
set_option maxRecDepth 20000 in
theorem rawName_1 {Z : Nat → Prop} {S : Nat → Prop} {x : Nat} {m : Mc} {w : World} (h : Mach Z S x m w) (r p q : Int) (hlt : ltr r = true)  (hn : m.tot ≤ 480000000) : Calls Tryz.prog 155 #[mp x, cv ⟨r, p, q⟩] w (Did Z S x (m.rawName ⟨r, p, q⟩) w) := by
  have HE : Hid ((m.rawName ⟨r, p, q⟩) = (m.hold ⟨r, p, q⟩)) := by
    show (m.rawName ⟨r, p, q⟩) = (m.hold ⟨r, p, q⟩)
    simp [Mc.rawName, hlt]
  obtain ⟨W0, hW0, k0⟩ := Walk.start h ⟨r, p, q⟩
  have hxw := h.low
  obtain ⟨hb0, d0, d1, d2⟩ := k0.box
  have hx0 := k0.lt
  have hne : w.heap.size ≠ x := by omega
  obtain ⟨s0, s1, s2, s3⟩ := k0.st0
  have K0 : Hid (Walk Z S x m w.heap.size ⟨r, p, q⟩ w W0) := k0
  clear h k0
  go_enter Tryz.func155, Tryz.ntmps155
  go_wp2_with (first | (go_at_call 104; refine (letter_as (r) true _ hlt).mono ?_; rintro e w' ⟨rfl, hw'⟩; obtain rfl := hw'.symm; clear hw'))
  refine (K0.out.call (fun U h => hold_any h ⟨r, p, q⟩ (by show m.tot ≤ _; omega))).mono ?_
  rintro e W1 ⟨rfl, k1⟩
  have K1 : Hid (Walk Z S x (m.hold ⟨r, p, q⟩) w.heap.size ⟨r, p, q⟩ w W1) := k1
  clear hb0 d0 d1 d2 hx0 s0 s1 s2 s3
  obtain ⟨hb1, d0, d1, d2⟩ := k1.box
  have hx1 := k1.lt
  obtain ⟨s0, s1, s2, s3⟩ := k1.st0
  clear k1
  go_wp2_with fail
  first
    | refine bodyPost_end (results_none rfl _ _ _) rfl ?_
    | refine bodyPost_ret (results_none rfl _ _ _) rfl ?_
  refine ⟨rfl, ?_⟩
  rw [HE.out]
  exact K1.out.post
set_option maxHeartbeats 4000000 in
set_option maxRecDepth 20000 in
theorem rawName_n {Z : Nat → Prop} {S : Nat → Prop} {x : Nat} {m : Mc} {w : World} (h : Mach Z S x m w) (r p q : Int) (hbl : blk r = false) (hlt : ltr r = false) (h47 : (r == 47) = false) (h62 : (r == 62) = false) (hn : m.tot ≤ 480000000) : Calls Tryz.prog 155 #[mp x, cv ⟨r, p, q⟩] w (Did Z S x (m.dataAgain ⟨r, p, q⟩) w) := by
  obtain ⟨W0, hW0, k0⟩ := Walk.start h ⟨r, p, q⟩
  have hxw := h.low
  obtain ⟨hb0, d0, d1, d2⟩ := k0.box
  have hx0 := k0.lt
  have K0 : Hid (Walk Z S x m w.heap.size ⟨r, p, q⟩ w W0) := k0
  clear h k0
  go_enter Tryz.func155, Tryz.ntmps155
  go_wp2_with (first | (go_at_call 150; refine (blank_as (r) false _ hbl).mono ?_; rintro e w' ⟨rfl, hw'⟩; obtain rfl := hw'.symm; clear hw') | (go_at_call 104; refine (letter_as (r) false _ hlt).mono ?_; rintro e w' ⟨rfl, hw'⟩; obtain rfl := hw'.symm; clear hw'))
  go_quiet ((go_at_call 150; refine Calls.quiet_of_same (blank_as (r) false _ hbl)))
  go_wp2_with fail
  refine ((K0.out.drewN nq).call (fun U h => dataAgain_any h ⟨r, p, q⟩ (by omega))).mono ?_
  rintro e W1 ⟨rfl, k1⟩
  have P1 : Hid (Post Z S x (m.dataAgain ⟨r, p, q⟩) w W1) := k1.post
  clear k1
  go_wp2_with fail
  refine bodyPost_end (results_none rfl _ _ _) rfl ?_
  exact ⟨rfl, P1.out⟩
abbrev Rn (x B : Nat) (r : Int) (sv : Value) (last : ByteArray) (W0 w' : World) : Prop := w'.cell? ⟨B, 0, none⟩ = some (.int .i64 r) ∧ w'.cell? ⟨x, 5, none⟩ = some sv ∧ w'.cell? ⟨x, 4, none⟩ = some (.string last) ∧ Below W0.heap.size W0 w'
theorem rn_below {x B : Nat} {r : Int} {sv : Value} {last : ByteArray} {W0 w' : World} (h : Rn x B r sv last W0 w') : Below W0.heap.size W0 w' := h.2.2.2
theorem rn_step {x B : Nat} {r : Int} {sv : Value} {last : ByteArray} {W0 w' w2 : World} (h : Rn x B r sv last W0 w') (b : Below w'.heap.size w' w2) (hB : B < W0.heap.size) (hx : x < W0.heap.size) (d0 : W0.cell? ⟨B, 0, none⟩ = some (.int .i64 r)) (c5 : W0.cell? ⟨x, 5, none⟩ = some sv) (c4 : W0.cell? ⟨x, 4, none⟩ = some (.string last)) : Rn x B r sv last W0 w2 := by
  have h4 := h.2.2.2
  have hb : Below W0.heap.size W0 w2 := h4.trans (b.mono h4.size)
  exact ⟨(hb.cell (p := ⟨B, 0, none⟩) hB).trans d0, (hb.cell (p := ⟨x, 5, none⟩) hx).trans c5, (hb.cell (p := ⟨x, 4, none⟩) hx).trans c4, hb⟩
theorem rn_keep {x B : Nat} {r : Int} {sv : Value} {last : ByteArray} {W0 w' : World} (h : Rn x B r sv last W0 w') (hB : B < W0.heap.size) (hx : x < W0.heap.size) (d0 : W0.cell? ⟨B, 0, none⟩ = some (.int .i64 r)) (c5 : W0.cell? ⟨x, 5, none⟩ = some sv) (c4 : W0.cell? ⟨x, 4, none⟩ = some (.string last)) : Rn x B r sv last W0 w'.drew := rn_step h ((Below.refl _ _).drew) hB hx d0 c5 c4
theorem Walk.name {Z : Nat → Prop} {S : Nat → Prop} {x : Nat} {m : Mc} {B : Nat} {c : Ch} {w W V : World} {n cp : Nat} {l : List UInt8} (h : Walk Z S x m B c w W) (hb : Below W.heap.size W V) (ho : OwnQ V true 5 1 (.slice (some ⟨W.heap.size, 0, none⟩) n cp) n (Lib.byteCells l)) :
    (∃ u, V.cell? ⟨x, 10, none⟩ = some u) ∧ V.frozen? ⟨x, 10, none⟩ = false ∧ x < V.heap.size ∧ Walk Z S x { m with nm := l } B c w (V.setCell ⟨x, 10, none⟩ (.slice (some ⟨W.heap.size, 0, none⟩) n cp)) := by
  obtain ⟨U, h1, ⟨v, T, h2⟩, h3⟩ := h.ex
  have hn : n = l.length := by
    have := ho.1
    rw [Lib.byteCells_length] at this
    omega
  subst hn
  obtain ⟨q1, q2, q3, q4⟩ := h2.put (m' := { m with nm := l }) (v' := { v with n := .slice (some ⟨W.heap.size, 0, none⟩) l.length cp }) (T' := T) 2 10 _ (rwN (.slice (some ⟨W.heap.size, 0, none⟩) l.length cp) l) rfl ho (fun g hg => by simp [Value.ownBlock] at hg; exact .inr (by omega)) ⟨hb.os, hb.tape, hb.output, hb.size, fun d hd _ => hb.block d hd⟩ (by simp [Mc.rows]) (by simp [Mc.cells]) rfl rfl rfl h2.told h2.toks
  exact ⟨⟨_, q3⟩, q4, Nat.lt_of_lt_of_le h2.lt hb.size, ⟨U, h1, ⟨_, _, q1⟩, h3.keep q2⟩, h.keep.trans (q2.sub h1)⟩
set_option maxHeartbeats 4000000 in
set_option maxRecDepth 20000 in
theorem rawName_t62 {Z : Nat → Prop} {S : Nat → Prop} {x : Nat} {m : Mc} {w : World} (h : Mach Z S x m w) (p q : Int)  (hm : decide (Mc.lowL (encs (m.wait.drop 2)) = m.last.data.toList) = true) (hw : 2 ≤ m.wait.length) (hwl : m.wait.length ≤ 20000) (hls : m.last.size ≤ 1000000) (hn : m.tot ≤ 480000000) : Calls Tryz.prog 155 #[mp x, cv ⟨62, p, q⟩] w (Did Z S x (({ m.beg 3 106 with nm := m.last.data.toList, st := 108 } : Mc).tagName ⟨62, p, q⟩) w) := by
  have hbl : blk 62 = false := rfl
  have hlt : ltr 62 = false := rfl
  obtain ⟨W0, hW0, k0⟩ := Walk.start h ⟨62, p, q⟩
  have hxw := h.low
  obtain ⟨hb0, d0, d1, d2⟩ := k0.box
  have hx0 := k0.lt
  have K0 : Hid (Walk Z S x m w.heap.size ⟨62, p, q⟩ w W0) := k0
  obtain ⟨_, _, c4⟩ := k0.txt
  obtain ⟨U, u1, ⟨v, T, h1⟩, u3⟩ := k0.ex
  have hw0 : m.wait ≠ [] := fun e => by rw [e] at hw; simp at hw
  obtain ⟨g, cap, ew, w1, w2, w3, w4, w5⟩ := wait_row h1 hw0
  have c5 := h1.cells 5 v.w rfl
  obtain ⟨n, hnn⟩ : ∃ n, m.wait.length = n := ⟨_, rfl⟩
  rw [ew, hnn] at c5
  have hrow : ∀ w', Below W0.heap.size W0 w' → ChRow (some ⟨g, 6, none⟩) (m.wait.drop 2) w' ∨ n = 2 := fun w' bw => by
    by_cases h2 : 2 < m.wait.length
    · exact .inl ((w5 2 h2).now.below bw)
    · exact .inr (by omega)
  obtain ⟨A, hA⟩ : ∃ A, (if cap = 2 then some (⟨g, 0, none⟩ : Addr) else some ⟨g, 6, none⟩) = A := ⟨_, rfl⟩
  have hrowA : ∀ w', Below W0.heap.size W0 w' → ChRow A (m.wait.drop 2) w' := fun w' bw => by
    rcases hrow w' bw with h2 | h2
    · by_cases hc : cap = 2
      · intro i c9 hc9
        have h8 := (List.getElem?_eq_some_iff.1 hc9).1
        rw [List.length_drop] at h8
        omega
      · rw [if_neg hc] at hA
        rw [← hA]
        exact h2
    · intro i c9 hc9
      have h8 := (List.getElem?_eq_some_iff.1 hc9).1
      rw [List.length_drop] at h8
      omega
  have HT : Hid (∀ w', Below W0.heap.size W0 w' → Calls Tryz.prog 83 #[.slice A (n - 2) (cap - 2)] w' fun e w'' => e = .returned (.string (bs (encs (m.wait.drop 2)))) ∧ Below w'.heap.size w' w'') := fun w' bw => textOf_any (n - 2) (cap - 2) (hrowA w' bw) (by rw [List.length_drop, hnn]) (by omega)
  have hsz : (bs (encs (m.wait.drop 2))).size ≤ 100000 := by
    rw [bs_size]
    have := encs_len (m.wait.drop 2)
    rw [List.length_drop] at this
    omega
  have HL : Hid (∀ w, Calls Tryz.prog 142 #[.string (bs (encs (m.wait.drop 2)))] w fun e w' => e = .returned (.string (G7.lowP (bs (encs (m.wait.drop 2))))) ∧ Below w.heap.size w w') := fun w => G7.lower_any _ w hsz
  have hq : ((G7.lowP (bs (encs (m.wait.drop 2)))).toList == m.last.toList) = true := by rw [ByteArray.toList_eq m.last]; exact beq_low _ _ _ hm
  obtain ⟨N1, hN1⟩ : ∃ N1, bs (encs (m.wait.drop 2)) = N1 := ⟨_, rfl⟩
  rw [hN1] at hq
  simp only [hN1] at HT HL
  obtain ⟨LP, hLP⟩ : ∃ LP, G7.lowP N1 = LP := ⟨_, rfl⟩
  rw [hLP] at hq
  simp only [hLP] at HL
  rw [hnn] at w1 hw
  have i1 : (2 : Int) ≤ (n : Int) := by omega
  have i2 : (n : Int) ≤ (cap : Int) := by omega
  have HW0 : Hid (m.wait ≠ []) := hw0
  clear h1 u1 u3 w3 w4 w5 hrow hrowA ew hnn hN1 hLP hsz hm hw0
  clear h k0
  go_enter Tryz.func155, Tryz.ntmps155
  go_wp2_with (first | (go_at_call 150; refine (blank_as (62) false _ hbl).mono ?_; rintro e w' ⟨rfl, hw'⟩; obtain rfl := hw'.symm; clear hw') | (go_at_call 104; refine (letter_as (62) false _ hlt).mono ?_; rintro e w' ⟨rfl, hw'⟩; obtain rfl := hw'.symm; clear hw'))
  go_cut [14] (fun s wc => s = .bool true ∧ Walk Z S x m w.heap.size ⟨62, p, q⟩ w wc)
  case first =>
    have hin : W0.cell? ⟨w.heap.size, 0, none⟩ = some (.int .i64 62) ∧ W0.cell? ⟨x, 5, none⟩ = some (.slice (some ⟨g, 0, none⟩) n cap) ∧ W0.cell? ⟨x, 4, none⟩ = some (.string m.last) ∧ Below W0.heap.size W0 W0 := ⟨d0, c5, c4, Below.refl _ _⟩
    first
      | (go_region_held3 (fun w' => w'.cell? ⟨w.heap.size, 0, none⟩ = some (.int .i64 62) ∧ w'.cell? ⟨x, 5, none⟩ = some (.slice (some ⟨g, 0, none⟩) n cap) ∧ w'.cell? ⟨x, 4, none⟩ = some (.string m.last) ∧ Below W0.heap.size W0 w')
          (first | assumption | exact rn_keep (by assumption) hb0 hx0 d0 c5 c4 | go_keep)
          (first
            | (go_at_call 150; refine (blank_as (62) false _ hbl).mono ?_; rintro e w' ⟨rfl, hw'⟩; obtain rfl := hw'.symm; clear hw')
            | (go_at_call 83; refine (HT.out _ (rn_below (by assumption))).mono ?_; rintro e w' ⟨rfl, hbw⟩; have hkk := rn_step (by assumption) hbw hb0 hx0 d0 c5 c4)
            | (go_at_call 142; refine (HL.out _).mono ?_; rintro e w' ⟨rfl, hbw⟩; have hkk := rn_step (by assumption) hbw hb0 hx0 d0 c5 c4)))
      | fail
    all_goals
      go_wp2_with fail
      go_meet
      case rel => exact ⟨rfl, K0.out.below (rn_below (by assumption))⟩
  case rest =>
    obtain ⟨rfl, kc⟩ := hcut
    have KC : Hid (Walk Z S x m w.heap.size ⟨62, p, q⟩ w wc) := kc
    obtain ⟨hb1, z0, z1, z2⟩ := kc.box
    have hx1 := kc.lt
    clear kc HT HL hq d0 d1 d2 c5 c4 hb0 hx0 i1 i2
    go_wp2_with fail
    refine (KC.out.call (fun U h => beg_any h 3 106 HW0.out)).mono ?_
    rintro e W1 ⟨rfl, k1⟩
    clear hb1 z0 z1 z2 hx1
    obtain ⟨_, _, y4⟩ := k1.txt
    have y4' : W1.cell? ⟨x, 4, none⟩ = some (.string m.last) := y4
    obtain ⟨cp, V, hcv, ho, hbV⟩ := conv_str m.last W1 (by omega)
    have K1 := Walk.name k1 hbV ho
    obtain ⟨hV0, hV1, hV2, K2⟩ := K1
    obtain ⟨u10, hV0⟩ := hV0
    have hx1 := k1.lt
    have KK : Hid (Walk Z S x { m.beg 3 106 with nm := m.last.data.toList } w.heap.size ⟨62, p, q⟩ w (V.setCell ⟨x, 10, none⟩ (.slice (some ⟨W1.heap.size, 0, none⟩) m.last.size cp))) := K2
    obtain ⟨hb2, z0, z1, z2⟩ := (k1.below hbV).box
    have hne : w.heap.size ≠ x := by omega
    have HTO : Hid (({ m.beg 3 106 with nm := m.last.data.toList, st := 108 } : Mc).tot ≤ 500000000) := by
      have t1 := tot_beg m 3 106
      have t2 : m.last.data.toList.length = m.last.size := Array.length_toList
      show _ ≤ _
      unfold Mc.tot at t1 hn ⊢
      simp only [t2]
      have t3 : (m.beg 3 106).nm.length = 0 := rfl
      omega
    clear k1 y4 ho hbV K2
    go_wp2_with fail
    refine (KK.out.call (fun U h => again_any 108 en81 h ⟨62, p, q⟩ (fun U W h => tagName_3 h p q HTO.out))).mono ?_
    rintro e W2 ⟨rfl, k2⟩
    have P2 : Hid (Post Z S x (({ m.beg 3 106 with nm := m.last.data.toList, st := 108 } : Mc).tagName ⟨62, p, q⟩) w W2) := k2.post
    clear k2
    go_wp2_with fail
    refine bodyPost_end (results_none rfl _ _ _) rfl ?_
    exact ⟨rfl, P2.out⟩
set_option maxHeartbeats 4000000 in
set_option maxRecDepth 20000 in
theorem rawName_f62 {Z : Nat → Prop} {S : Nat → Prop} {x : Nat} {m : Mc} {w : World} (h : Mach Z S x m w) (p q : Int)  (hm : decide (Mc.lowL (encs (m.wait.drop 2)) = m.last.data.toList) = false) (hw : 2 ≤ m.wait.length) (hwl : m.wait.length ≤ 20000) (hn : m.tot ≤ 480000000) : Calls Tryz.prog 155 #[mp x, cv ⟨62, p, q⟩] w (Did Z S x (m.dataAgain ⟨62, p, q⟩) w) := by
  have hbl : blk 62 = false := rfl
  have hlt : ltr 62 = false := rfl
  obtain ⟨W0, hW0, k0⟩ := Walk.start h ⟨62, p, q⟩
  have hxw := h.low
  obtain ⟨hb0, d0, d1, d2⟩ := k0.box
  have hx0 := k0.lt
  have K0 : Hid (Walk Z S x m w.heap.size ⟨62, p, q⟩ w W0) := k0
  obtain ⟨_, _, c4⟩ := k0.txt
  obtain ⟨U, u1, ⟨v, T, h1⟩, u3⟩ := k0.ex
  have hw0 : m.wait ≠ [] := fun e => by rw [e] at hw; simp at hw
  obtain ⟨g, cap, ew, w1, w2, w3, w4, w5⟩ := wait_row h1 hw0
  have c5 := h1.cells 5 v.w rfl
  obtain ⟨n, hnn⟩ : ∃ n, m.wait.length = n := ⟨_, rfl⟩
  rw [ew, hnn] at c5
  have hrow : ∀ w', Below W0.heap.size W0 w' → ChRow (some ⟨g, 6, none⟩) (m.wait.drop 2) w' ∨ n = 2 := fun w' bw => by
    by_cases h2 : 2 < m.wait.length
    · exact .inl ((w5 2 h2).now.below bw)
    · exact .inr (by omega)
  obtain ⟨A, hA⟩ : ∃ A, (if cap = 2 then some (⟨g, 0, none⟩ : Addr) else some ⟨g, 6, none⟩) = A := ⟨_, rfl⟩
  have hrowA : ∀ w', Below W0.heap.size W0 w' → ChRow A (m.wait.drop 2) w' := fun w' bw => by
    rcases hrow w' bw with h2 | h2
    · by_cases hc : cap = 2
      · intro i c9 hc9
        have h8 := (List.getElem?_eq_some_iff.1 hc9).1
        rw [List.length_drop] at h8
        omega
      · rw [if_neg hc] at hA
        rw [← hA]
        exact h2
    · intro i c9 hc9
      have h8 := (List.getElem?_eq_some_iff.1 hc9).1
      rw [List.length_drop] at h8
      omega
  have HT : Hid (∀ w', Below W0.heap.size W0 w' → Calls Tryz.prog 83 #[.slice A (n - 2) (cap - 2)] w' fun e w'' => e = .returned (.string (bs (encs (m.wait.drop 2)))) ∧ Below w'.heap.size w' w'') := fun w' bw => textOf_any (n - 2) (cap - 2) (hrowA w' bw) (by rw [List.length_drop, hnn]) (by omega)
  have hsz : (bs (encs (m.wait.drop 2))).size ≤ 100000 := by
    rw [bs_size]
    have := encs_len (m.wait.drop 2)
    rw [List.length_drop] at this
    omega
  have HL : Hid (∀ w, Calls Tryz.prog 142 #[.string (bs (encs (m.wait.drop 2)))] w fun e w' => e = .returned (.string (G7.lowP (bs (encs (m.wait.drop 2))))) ∧ Below w.heap.size w w') := fun w => G7.lower_any _ w hsz
  have hq : ((G7.lowP (bs (encs (m.wait.drop 2)))).toList == m.last.toList) = false := by rw [ByteArray.toList_eq m.last]; exact beq_low _ _ _ hm
  obtain ⟨N1, hN1⟩ : ∃ N1, bs (encs (m.wait.drop 2)) = N1 := ⟨_, rfl⟩
  rw [hN1] at hq
  simp only [hN1] at HT HL
  obtain ⟨LP, hLP⟩ : ∃ LP, G7.lowP N1 = LP := ⟨_, rfl⟩
  rw [hLP] at hq
  simp only [hLP] at HL
  rw [hnn] at w1 hw
  have i1 : (2 : Int) ≤ (n : Int) := by omega
  have i2 : (n : Int) ≤ (cap : Int) := by omega
  have HW0 : Hid (m.wait ≠ []) := hw0
  clear h1 u1 u3 w3 w4 w5 hrow hrowA ew hnn hN1 hLP hsz hm hw0
  clear h k0
  go_enter Tryz.func155, Tryz.ntmps155
  go_wp2_with (first | (go_at_call 150; refine (blank_as (62) false _ hbl).mono ?_; rintro e w' ⟨rfl, hw'⟩; obtain rfl := hw'.symm; clear hw') | (go_at_call 104; refine (letter_as (62) false _ hlt).mono ?_; rintro e w' ⟨rfl, hw'⟩; obtain rfl := hw'.symm; clear hw'))
  go_cut [14] (fun s wc => s = .bool false ∧ Walk Z S x m w.heap.size ⟨62, p, q⟩ w wc)
  case first =>
    have hin : W0.cell? ⟨w.heap.size, 0, none⟩ = some (.int .i64 62) ∧ W0.cell? ⟨x, 5, none⟩ = some (.slice (some ⟨g, 0, none⟩) n cap) ∧ W0.cell? ⟨x, 4, none⟩ = some (.string m.last) ∧ Below W0.heap.size W0 W0 := ⟨d0, c5, c4, Below.refl _ _⟩
    first
      | (go_region_held3 (fun w' => w'.cell? ⟨w.heap.size, 0, none⟩ = some (.int .i64 62) ∧ w'.cell? ⟨x, 5, none⟩ = some (.slice (some ⟨g, 0, none⟩) n cap) ∧ w'.cell? ⟨x, 4, none⟩ = some (.string m.last) ∧ Below W0.heap.size W0 w')
          (first | assumption | exact rn_keep (by assumption) hb0 hx0 d0 c5 c4 | go_keep)
          (first
            | (go_at_call 150; refine (blank_as (62) false _ hbl).mono ?_; rintro e w' ⟨rfl, hw'⟩; obtain rfl := hw'.symm; clear hw')
            | (go_at_call 83; refine (HT.out _ (rn_below (by assumption))).mono ?_; rintro e w' ⟨rfl, hbw⟩; have hkk := rn_step (by assumption) hbw hb0 hx0 d0 c5 c4)
            | (go_at_call 142; refine (HL.out _).mono ?_; rintro e w' ⟨rfl, hbw⟩; have hkk := rn_step (by assumption) hbw hb0 hx0 d0 c5 c4)))
      | fail
    all_goals
      go_wp2_with fail
      go_meet
      case rel => exact ⟨rfl, K0.out.below (rn_below (by assumption))⟩
  case rest =>
    obtain ⟨rfl, kc⟩ := hcut
    have KC : Hid (Walk Z S x m w.heap.size ⟨62, p, q⟩ w wc) := kc
    obtain ⟨hb1, z0, z1, z2⟩ := kc.box
    have hx1 := kc.lt
    clear kc HT HL hq d0 d1 d2 c5 c4 hb0 hx0 i1 i2
    go_wp2_with fail
    refine (KC.out.call (fun U h => dataAgain_any h ⟨62, p, q⟩ (by omega))).mono ?_
    rintro e W1 ⟨rfl, k1⟩
    have P1 : Hid (Post Z S x (m.dataAgain ⟨62, p, q⟩) w W1) := k1.post
    clear k1
    go_wp2_with fail
    refine bodyPost_end (results_none rfl _ _ _) rfl ?_
    exact ⟨rfl, P1.out⟩
set_option maxHeartbeats 4000000 in
set_option maxRecDepth 20000 in
theorem rawName_t47 {Z : Nat → Prop} {S : Nat → Prop} {x : Nat} {m : Mc} {w : World} (h : Mach Z S x m w) (p q : Int)  (hm : decide (Mc.lowL (encs (m.wait.drop 2)) = m.last.data.toList) = true) (hw : 2 ≤ m.wait.length) (hwl : m.wait.length ≤ 20000) (hls : m.last.size ≤ 1000000) (hn : m.tot ≤ 480000000) : Calls Tryz.prog 155 #[mp x, cv ⟨47, p, q⟩] w (Did Z S x (({ m.beg 3 106 with nm := m.last.data.toList, st := 108 } : Mc).tagName ⟨47, p, q⟩) w) := by
  have hbl : blk 47 = false := rfl
  have hlt : ltr 47 = false := rfl
  obtain ⟨W0, hW0, k0⟩ := Walk.start h ⟨47, p, q⟩
  have hxw := h.low
  obtain ⟨hb0, d0, d1, d2⟩ := k0.box
  have hx0 := k0.lt
  have K0 : Hid (Walk Z S x m w.heap.size ⟨47, p, q⟩ w W0) := k0
  obtain ⟨_, _, c4⟩ := k0.txt
  obtain ⟨U, u1, ⟨v, T, h1⟩, u3⟩ := k0.ex
  have hw0 : m.wait ≠ [] := fun e => by rw [e] at hw; simp at hw
  obtain ⟨g, cap, ew, w1, w2, w3, w4, w5⟩ := wait_row h1 hw0
  have c5 := h1.cells 5 v.w rfl
  obtain ⟨n, hnn⟩ : ∃ n, m.wait.length = n := ⟨_, rfl⟩
  rw [ew, hnn] at c5
  have hrow : ∀ w', Below W0.heap.size W0 w' → ChRow (some ⟨g, 6, none⟩) (m.wait.drop 2) w' ∨ n = 2 := fun w' bw => by
    by_cases h2 : 2 < m.wait.length
    · exact .inl ((w5 2 h2).now.below bw)
    · exact .inr (by omega)
  obtain ⟨A, hA⟩ : ∃ A, (if cap = 2 then some (⟨g, 0, none⟩ : Addr) else some ⟨g, 6, none⟩) = A := ⟨_, rfl⟩
  have hrowA : ∀ w', Below W0.heap.size W0 w' → ChRow A (m.wait.drop 2) w' := fun w' bw => by
    rcases hrow w' bw with h2 | h2
    · by_cases hc : cap = 2
      · intro i c9 hc9
        have h8 := (List.getElem?_eq_some_iff.1 hc9).1
        rw [List.length_drop] at h8
        omega
      · rw [if_neg hc] at hA
        rw [← hA]
        exact h2
    · intro i c9 hc9
      have h8 := (List.getElem?_eq_some_iff.1 hc9).1
      rw [List.length_drop] at h8
      omega
  have HT : Hid (∀ w', Below W0.heap.size W0 w' → Calls Tryz.prog 83 #[.slice A (n - 2) (cap - 2)] w' fun e w'' => e = .returned (.string (bs (encs (m.wait.drop 2)))) ∧ Below w'.heap.size w' w'') := fun w' bw => textOf_any (n - 2) (cap - 2) (hrowA w' bw) (by rw [List.length_drop, hnn]) (by omega)
  have hsz : (bs (encs (m.wait.drop 2))).size ≤ 100000 := by
    rw [bs_size]
    have := encs_len (m.wait.drop 2)
    rw [List.length_drop] at this
    omega
  have HL : Hid (∀ w, Calls Tryz.prog 142 #[.string (bs (encs (m.wait.drop 2)))] w fun e w' => e = .returned (.string (G7.lowP (bs (encs (m.wait.drop 2))))) ∧ Below w.heap.size w w') := fun w => G7.lower_any _ w hsz
  have hq : ((G7.lowP (bs (encs (m.wait.drop 2)))).toList == m.last.toList) = true := by rw [ByteArray.toList_eq m.last]; exact beq_low _ _ _ hm
  obtain ⟨N1, hN1⟩ : ∃ N1, bs (encs (m.wait.drop 2)) = N1 := ⟨_, rfl⟩
  rw [hN1] at hq
  simp only [hN1] at HT HL
  obtain ⟨LP, hLP⟩ : ∃ LP, G7.lowP N1 = LP := ⟨_, rfl⟩
  rw [hLP] at hq
  simp only [hLP] at HL
  rw [hnn] at w1 hw
  have i1 : (2 : Int) ≤ (n : Int) := by omega
  have i2 : (n : Int) ≤ (cap : Int) := by omega
  have HW0 : Hid (m.wait ≠ []) := hw0
  clear h1 u1 u3 w3 w4 w5 hrow hrowA ew hnn hN1 hLP hsz hm hw0
  clear h k0
  go_enter Tryz.func155, Tryz.ntmps155
  go_wp2_with (first | (go_at_call 150; refine (blank_as (47) false _ hbl).mono ?_; rintro e w' ⟨rfl, hw'⟩; obtain rfl := hw'.symm; clear hw') | (go_at_call 104; refine (letter_as (47) false _ hlt).mono ?_; rintro e w' ⟨rfl, hw'⟩; obtain rfl := hw'.symm; clear hw'))
  go_cut [14] (fun s wc => s = .bool true ∧ Walk Z S x m w.heap.size ⟨47, p, q⟩ w wc)
  case first =>
    first
      | (go_region_with (first
          | (go_at_call 150; refine (blank_as (47) false _ hbl).mono ?_; rintro e w' ⟨rfl, hw'⟩; obtain rfl := hw'.symm; clear hw')
          | (go_at_call 83; refine (HT.out _ ((Below.refl _ _).drew)).mono ?_; rintro e w2 ⟨rfl, hb2⟩; have c4b : w2.cell? ⟨x, 4, none⟩ = some (.string m.last) := (hb2.cell (p := ⟨x, 4, none⟩) hx0).trans c4; have hx2 : x < w2.heap.size := Nat.lt_of_lt_of_le hx0 hb2.size; have B2 : Hid (Below W0.heap.size W0 w2) := ((Below.refl _ _).drew).trans hb2; clear hb2)
          | (go_at_call 142; refine (HL.out _).mono ?_; rintro e w3 ⟨rfl, hb3⟩; have c4c : w3.cell? ⟨x, 4, none⟩ = some (.string m.last) := (hb3.cell (p := ⟨x, 4, none⟩) hx2).trans c4b; have B3 : Hid (Below W0.heap.size W0 w3) := B2.out.trans (hb3.mono B2.out.size); clear hb3)))
      | fail
    all_goals
      go_wp2_with fail
      go_meet
      case rel => exact ⟨rfl, K0.out.below B3.out⟩
  case rest =>
    obtain ⟨rfl, kc⟩ := hcut
    have KC : Hid (Walk Z S x m w.heap.size ⟨47, p, q⟩ w wc) := kc
    obtain ⟨hb1, z0, z1, z2⟩ := kc.box
    have hx1 := kc.lt
    clear kc HT HL hq d0 d1 d2 c5 c4 hb0 hx0 i1 i2
    go_wp2_with fail
    refine (KC.out.call (fun U h => beg_any h 3 106 HW0.out)).mono ?_
    rintro e W1 ⟨rfl, k1⟩
    clear hb1 z0 z1 z2 hx1
    obtain ⟨_, _, y4⟩ := k1.txt
    have y4' : W1.cell? ⟨x, 4, none⟩ = some (.string m.last) := y4
    obtain ⟨cp, V, hcv, ho, hbV⟩ := conv_str m.last W1 (by omega)
    have K1 := Walk.name k1 hbV ho
    obtain ⟨hV0, hV1, hV2, K2⟩ := K1
    obtain ⟨u10, hV0⟩ := hV0
    have hx1 := k1.lt
    have KK : Hid (Walk Z S x { m.beg 3 106 with nm := m.last.data.toList } w.heap.size ⟨47, p, q⟩ w (V.setCell ⟨x, 10, none⟩ (.slice (some ⟨W1.heap.size, 0, none⟩) m.last.size cp))) := K2
    obtain ⟨hb2, z0, z1, z2⟩ := (k1.below hbV).box
    have hne : w.heap.size ≠ x := by omega
    have HTO : Hid (({ m.beg 3 106 with nm := m.last.data.toList, st := 108 } : Mc).tot ≤ 500000000) := by
      have t1 := tot_beg m 3 106
      have t2 : m.last.data.toList.length = m.last.size := Array.length_toList
      show _ ≤ _
      unfold Mc.tot at t1 hn ⊢
      simp only [t2]
      have t3 : (m.beg 3 106).nm.length = 0 := rfl
      omega
    clear k1 y4 ho hbV K2
    go_wp2_with fail
    refine (KK.out.call (fun U h => again_any 108 en81 h ⟨47, p, q⟩ (fun U W h => tagName_2 h p q HTO.out))).mono ?_
    rintro e W2 ⟨rfl, k2⟩
    have P2 : Hid (Post Z S x (({ m.beg 3 106 with nm := m.last.data.toList, st := 108 } : Mc).tagName ⟨47, p, q⟩) w W2) := k2.post
    clear k2
    go_wp2_with fail
    refine bodyPost_end (results_none rfl _ _ _) rfl ?_
    exact ⟨rfl, P2.out⟩
set_option maxHeartbeats 4000000 in
set_option maxRecDepth 20000 in
theorem rawName_f47 {Z : Nat → Prop} {S : Nat → Prop} {x : Nat} {m : Mc} {w : World} (h : Mach Z S x m w) (p q : Int)  (hm : decide (Mc.lowL (encs (m.wait.drop 2)) = m.last.data.toList) = false) (hw : 2 ≤ m.wait.length) (hwl : m.wait.length ≤ 20000) (hn : m.tot ≤ 480000000) : Calls Tryz.prog 155 #[mp x, cv ⟨47, p, q⟩] w (Did Z S x (m.dataAgain ⟨47, p, q⟩) w) := by
  have hbl : blk 47 = false := rfl
  have hlt : ltr 47 = false := rfl
  obtain ⟨W0, hW0, k0⟩ := Walk.start h ⟨47, p, q⟩
  have hxw := h.low
  obtain ⟨hb0, d0, d1, d2⟩ := k0.box
  have hx0 := k0.lt
  have K0 : Hid (Walk Z S x m w.heap.size ⟨47, p, q⟩ w W0) := k0
  obtain ⟨_, _, c4⟩ := k0.txt
  obtain ⟨U, u1, ⟨v, T, h1⟩, u3⟩ := k0.ex
  have hw0 : m.wait ≠ [] := fun e => by rw [e] at hw; simp at hw
  obtain ⟨g, cap, ew, w1, w2, w3, w4, w5⟩ := wait_row h1 hw0
  have c5 := h1.cells 5 v.w rfl
  obtain ⟨n, hnn⟩ : ∃ n, m.wait.length = n := ⟨_, rfl⟩
  rw [ew, hnn] at c5
  have hrow : ∀ w', Below W0.heap.size W0 w' → ChRow (some ⟨g, 6, none⟩) (m.wait.drop 2) w' ∨ n = 2 := fun w' bw => by
    by_cases h2 : 2 < m.wait.length
    · exact .inl ((w5 2 h2).now.below bw)
    · exact .inr (by omega)
  obtain ⟨A, hA⟩ : ∃ A, (if cap = 2 then some (⟨g, 0, none⟩ : Addr) else some ⟨g, 6, none⟩) = A := ⟨_, rfl⟩
  have hrowA : ∀ w', Below W0.heap.size W0 w' → ChRow A (m.wait.drop 2) w' := fun w' bw => by
    rcases hrow w' bw with h2 | h2
    · by_cases hc : cap = 2
      · intro i c9 hc9
        have h8 := (List.getElem?_eq_some_iff.1 hc9).1
        rw [List.length_drop] at h8
        omega
      · rw [if_neg hc] at hA
        rw [← hA]
        exact h2
    · intro i c9 hc9
      have h8 := (List.getElem?_eq_some_iff.1 hc9).1
      rw [List.length_drop] at h8
      omega
  have HT : Hid (∀ w', Below W0.heap.size W0 w' → Calls Tryz.prog 83 #[.slice A (n - 2) (cap - 2)] w' fun e w'' => e = .returned (.string (bs (encs (m.wait.drop 2)))) ∧ Below w'.heap.size w' w'') := fun w' bw => textOf_any (n - 2) (cap - 2) (hrowA w' bw) (by rw [List.length_drop, hnn]) (by omega)
  have hsz : (bs (encs (m.wait.drop 2))).size ≤ 100000 := by
    rw [bs_size]
    have := encs_len (m.wait.drop 2)
    rw [List.length_drop] at this
    omega
  have HL : Hid (∀ w, Calls Tryz.prog 142 #[.string (bs (encs (m.wait.drop 2)))] w fun e w' => e = .returned (.string (G7.lowP (bs (encs (m.wait.drop 2))))) ∧ Below w.heap.size w w') := fun w => G7.lower_any _ w hsz
  have hq : ((G7.lowP (bs (encs (m.wait.drop 2)))).toList == m.last.toList) = false := by rw [ByteArray.toList_eq m.last]; exact beq_low _ _ _ hm
  obtain ⟨N1, hN1⟩ : ∃ N1, bs (encs (m.wait.drop 2)) = N1 := ⟨_, rfl⟩
  rw [hN1] at hq
  simp only [hN1] at HT HL
  obtain ⟨LP, hLP⟩ : ∃ LP, G7.lowP N1 = LP := ⟨_, rfl⟩
  rw [hLP] at hq
  simp only [hLP] at HL
  rw [hnn] at w1 hw
  have i1 : (2 : Int) ≤ (n : Int) := by omega
  have i2 : (n : Int) ≤ (cap : Int) := by omega
  have HW0 : Hid (m.wait ≠ []) := hw0
  clear h1 u1 u3 w3 w4 w5 hrow hrowA ew hnn hN1 hLP hsz hm hw0
  clear h k0
  go_enter Tryz.func155, Tryz.ntmps155
  go_wp2_with (first | (go_at_call 150; refine (blank_as (47) false _ hbl).mono ?_; rintro e w' ⟨rfl, hw'⟩; obtain rfl := hw'.symm; clear hw') | (go_at_call 104; refine (letter_as (47) false _ hlt).mono ?_; rintro e w' ⟨rfl, hw'⟩; obtain rfl := hw'.symm; clear hw'))
  go_cut [14] (fun s wc => s = .bool false ∧ Walk Z S x m w.heap.size ⟨47, p, q⟩ w wc)
  case first =>
    first
      | (go_region_with (first
          | (go_at_call 150; refine (blank_as (47) false _ hbl).mono ?_; rintro e w' ⟨rfl, hw'⟩; obtain rfl := hw'.symm; clear hw')
          | (go_at_call 83; refine (HT.out _ ((Below.refl _ _).drew)).mono ?_; rintro e w2 ⟨rfl, hb2⟩; have c4b : w2.cell? ⟨x, 4, none⟩ = some (.string m.last) := (hb2.cell (p := ⟨x, 4, none⟩) hx0).trans c4; have hx2 : x < w2.heap.size := Nat.lt_of_lt_of_le hx0 hb2.size; have B2 : Hid (Below W0.heap.size W0 w2) := ((Below.refl _ _).drew).trans hb2; clear hb2)
          | (go_at_call 142; refine (HL.out _).mono ?_; rintro e w3 ⟨rfl, hb3⟩; have c4c : w3.cell? ⟨x, 4, none⟩ = some (.string m.last) := (hb3.cell (p := ⟨x, 4, none⟩) hx2).trans c4b; have B3 : Hid (Below W0.heap.size W0 w3) := B2.out.trans (hb3.mono B2.out.size); clear hb3)))
      | fail
    all_goals
      go_wp2_with fail
      go_meet
      case rel => exact ⟨rfl, K0.out.below B3.out⟩
  case rest =>
    obtain ⟨rfl, kc⟩ := hcut
    have KC : Hid (Walk Z S x m w.heap.size ⟨47, p, q⟩ w wc) := kc
    obtain ⟨hb1, z0, z1, z2⟩ := kc.box
    have hx1 := kc.lt
    clear kc HT HL hq d0 d1 d2 c5 c4 hb0 hx0 i1 i2
    go_wp2_with fail
    refine (KC.out.call (fun U h => dataAgain_any h ⟨47, p, q⟩ (by omega))).mono ?_
    rintro e W1 ⟨rfl, k1⟩
    have P1 : Hid (Post Z S x (m.dataAgain ⟨47, p, q⟩) w W1) := k1.post
    clear k1
    go_wp2_with fail
    refine bodyPost_end (results_none rfl _ _ _) rfl ?_
    exact ⟨rfl, P1.out⟩
set_option maxHeartbeats 4000000 in
set_option maxRecDepth 20000 in
theorem rawName_tb {Z : Nat → Prop} {S : Nat → Prop} {x : Nat} {m : Mc} {w : World} (h : Mach Z S x m w) (r p q : Int) (hbl : blk r = true) (hlt : ltr r = false) (hm : decide (Mc.lowL (encs (m.wait.drop 2)) = m.last.data.toList) = true) (hw : 2 ≤ m.wait.length) (hwl : m.wait.length ≤ 20000) (hls : m.last.size ≤ 1000000) (hn : m.tot ≤ 480000000) : Calls Tryz.prog 155 #[mp x, cv ⟨r, p, q⟩] w (Did Z S x (({ m.beg 3 106 with nm := m.last.data.toList, st := 108 } : Mc).tagName ⟨r, p, q⟩) w) := by
  obtain ⟨W0, hW0, k0⟩ := Walk.start h ⟨r, p, q⟩
  have hxw := h.low
  obtain ⟨hb0, d0, d1, d2⟩ := k0.box
  have hx0 := k0.lt
  have K0 : Hid (Walk Z S x m w.heap.size ⟨r, p, q⟩ w W0) := k0
  obtain ⟨_, _, c4⟩ := k0.txt
  obtain ⟨U, u1, ⟨v, T, h1⟩, u3⟩ := k0.ex
  have hw0 : m.wait ≠ [] := fun e => by rw [e] at hw; simp at hw
  obtain ⟨g, cap, ew, w1, w2, w3, w4, w5⟩ := wait_row h1 hw0
  have c5 := h1.cells 5 v.w rfl
  obtain ⟨n, hnn⟩ : ∃ n, m.wait.length = n := ⟨_, rfl⟩
  rw [ew, hnn] at c5
  have hrow : ∀ w', Below W0.heap.size W0 w' → ChRow (some ⟨g, 6, none⟩) (m.wait.drop 2) w' ∨ n = 2 := fun w' bw => by
    by_cases h2 : 2 < m.wait.length
    · exact .inl ((w5 2 h2).now.below bw)
    · exact .inr (by omega)
  obtain ⟨A, hA⟩ : ∃ A, (if cap = 2 then some (⟨g, 0, none⟩ : Addr) else some ⟨g, 6, none⟩) = A := ⟨_, rfl⟩
  have hrowA : ∀ w', Below W0.heap.size W0 w' → ChRow A (m.wait.drop 2) w' := fun w' bw => by
    rcases hrow w' bw with h2 | h2
    · by_cases hc : cap = 2
      · intro i c9 hc9
        have h8 := (List.getElem?_eq_some_iff.1 hc9).1
        rw [List.length_drop] at h8
        omega
      · rw [if_neg hc] at hA
        rw [← hA]
        exact h2
    · intro i c9 hc9
      have h8 := (List.getElem?_eq_some_iff.1 hc9).1
      rw [List.length_drop] at h8
      omega
  have HT : Hid (∀ w', Below W0.heap.size W0 w' → Calls Tryz.prog 83 #[.slice A (n - 2) (cap - 2)] w' fun e w'' => e = .returned (.string (bs (encs (m.wait.drop 2)))) ∧ Below w'.heap.size w' w'') := fun w' bw => textOf_any (n - 2) (cap - 2) (hrowA w' bw) (by rw [List.length_drop, hnn]) (by omega)
  have hsz : (bs (encs (m.wait.drop 2))).size ≤ 100000 := by
    rw [bs_size]
    have := encs_len (m.wait.drop 2)
    rw [List.length_drop] at this
    omega
  have HL : Hid (∀ w, Calls Tryz.prog 142 #[.string (bs (encs (m.wait.drop 2)))] w fun e w' => e = .returned (.string (G7.lowP (bs (encs (m.wait.drop 2))))) ∧ Below w.heap.size w w') := fun w => G7.lower_any _ w hsz
  have hq : ((G7.lowP (bs (encs (m.wait.drop 2)))).toList == m.last.toList) = true := by rw [ByteArray.toList_eq m.last]; exact beq_low _ _ _ hm
  obtain ⟨N1, hN1⟩ : ∃ N1, bs (encs (m.wait.drop 2)) = N1 := ⟨_, rfl⟩
  rw [hN1] at hq
  simp only [hN1] at HT HL
  obtain ⟨LP, hLP⟩ : ∃ LP, G7.lowP N1 = LP := ⟨_, rfl⟩
  rw [hLP] at hq
  simp only [hLP] at HL
  rw [hnn] at w1 hw
  have i1 : (2 : Int) ≤ (n : Int) := by omega
  have i2 : (n : Int) ≤ (cap : Int) := by omega
  have HW0 : Hid (m.wait ≠ []) := hw0
  clear h1 u1 u3 w3 w4 w5 hrow hrowA ew hnn hN1 hLP hsz hm hw0
  clear h k0
  go_enter Tryz.func155, Tryz.ntmps155
  go_wp2_with (first | (go_at_call 150; refine (blank_as (r) true _ hbl).mono ?_; rintro e w' ⟨rfl, hw'⟩; obtain rfl := hw'.symm; clear hw') | (go_at_call 104; refine (letter_as (r) false _ hlt).mono ?_; rintro e w' ⟨rfl, hw'⟩; obtain rfl := hw'.symm; clear hw'))
  go_cut [14] (fun s wc => s = .bool true ∧ Walk Z S x m w.heap.size ⟨r, p, q⟩ w wc)
  case first =>
    first
      | (go_region_with (first
          | (go_at_call 150; refine (blank_as (r) true _ hbl).mono ?_; rintro e w' ⟨rfl, hw'⟩; obtain rfl := hw'.symm; clear hw')
          | (go_at_call 83; refine (HT.out _ ((Below.refl _ _).drew)).mono ?_; rintro e w2 ⟨rfl, hb2⟩; have c4b : w2.cell? ⟨x, 4, none⟩ = some (.string m.last) := (hb2.cell (p := ⟨x, 4, none⟩) hx0).trans c4; have hx2 : x < w2.heap.size := Nat.lt_of_lt_of_le hx0 hb2.size; have B2 : Hid (Below W0.heap.size W0 w2) := ((Below.refl _ _).drew).trans hb2; clear hb2)
          | (go_at_call 142; refine (HL.out _).mono ?_; rintro e w3 ⟨rfl, hb3⟩; have c4c : w3.cell? ⟨x, 4, none⟩ = some (.string m.last) := (hb3.cell (p := ⟨x, 4, none⟩) hx2).trans c4b; have B3 : Hid (Below W0.heap.size W0 w3) := B2.out.trans (hb3.mono B2.out.size); clear hb3)))
      | fail
    all_goals
      go_wp2_with fail
      go_meet
      case rel => exact ⟨rfl, K0.out.below B3.out⟩
  case rest =>
    obtain ⟨rfl, kc⟩ := hcut
    have KC : Hid (Walk Z S x m w.heap.size ⟨r, p, q⟩ w wc) := kc
    obtain ⟨hb1, z0, z1, z2⟩ := kc.box
    have hx1 := kc.lt
    clear kc HT HL hq d0 d1 d2 c5 c4 hb0 hx0 i1 i2
    go_wp2_with fail
    refine (KC.out.call (fun U h => beg_any h 3 106 HW0.out)).mono ?_
    rintro e W1 ⟨rfl, k1⟩
    clear hb1 z0 z1 z2 hx1
    obtain ⟨_, _, y4⟩ := k1.txt
    have y4' : W1.cell? ⟨x, 4, none⟩ = some (.string m.last) := y4
    obtain ⟨cp, V, hcv, ho, hbV⟩ := conv_str m.last W1 (by omega)
    have K1 := Walk.name k1 hbV ho
    obtain ⟨hV0, hV1, hV2, K2⟩ := K1
    obtain ⟨u10, hV0⟩ := hV0
    have hx1 := k1.lt
    have KK : Hid (Walk Z S x { m.beg 3 106 with nm := m.last.data.toList } w.heap.size ⟨r, p, q⟩ w (V.setCell ⟨x, 10, none⟩ (.slice (some ⟨W1.heap.size, 0, none⟩) m.last.size cp))) := K2
    obtain ⟨hb2, z0, z1, z2⟩ := (k1.below hbV).box
    have hne : w.heap.size ≠ x := by omega
    have HTO : Hid (({ m.beg 3 106 with nm := m.last.data.toList, st := 108 } : Mc).tot ≤ 500000000) := by
      have t1 := tot_beg m 3 106
      have t2 : m.last.data.toList.length = m.last.size := Array.length_toList
      show _ ≤ _
      unfold Mc.tot at t1 hn ⊢
      simp only [t2]
      have t3 : (m.beg 3 106).nm.length = 0 := rfl
      omega
    clear k1 y4 ho hbV K2
    go_wp2_with fail
    refine (KK.out.call (fun U h => again_any 108 en81 h ⟨r, p, q⟩ (fun U W h => tagName_1 h r p q hbl HTO.out))).mono ?_
    rintro e W2 ⟨rfl, k2⟩
    have P2 : Hid (Post Z S x (({ m.beg 3 106 with nm := m.last.data.toList, st := 108 } : Mc).tagName ⟨r, p, q⟩) w W2) := k2.post
    clear k2
    go_wp2_with fail
    refine bodyPost_end (results_none rfl _ _ _) rfl ?_
    exact ⟨rfl, P2.out⟩
set_option maxHeartbeats 4000000 in
set_option maxRecDepth 20000 in
theorem rawName_fb {Z : Nat → Prop} {S : Nat → Prop} {x : Nat} {m : Mc} {w : World} (h : Mach Z S x m w) (r p q : Int) (hbl : blk r = true) (hlt : ltr r = false) (hm : decide (Mc.lowL (encs (m.wait.drop 2)) = m.last.data.toList) = false) (hw : 2 ≤ m.wait.length) (hwl : m.wait.length ≤ 20000) (hn : m.tot ≤ 480000000) : Calls Tryz.prog 155 #[mp x, cv ⟨r, p, q⟩] w (Did Z S x (m.dataAgain ⟨r, p, q⟩) w) := by
  obtain ⟨W0, hW0, k0⟩ := Walk.start h ⟨r, p, q⟩
  have hxw := h.low
  obtain ⟨hb0, d0, d1, d2⟩ := k0.box
  have hx0 := k0.lt
  have K0 : Hid (Walk Z S x m w.heap.size ⟨r, p, q⟩ w W0) := k0
  obtain ⟨_, _, c4⟩ := k0.txt
  obtain ⟨U, u1, ⟨v, T, h1⟩, u3⟩ := k0.ex
  have hw0 : m.wait ≠ [] := fun e => by rw [e] at hw; simp at hw
  obtain ⟨g, cap, ew, w1, w2, w3, w4, w5⟩ := wait_row h1 hw0
  have c5 := h1.cells 5 v.w rfl
  obtain ⟨n, hnn⟩ : ∃ n, m.wait.length = n := ⟨_, rfl⟩
  rw [ew, hnn] at c5
  have hrow : ∀ w', Below W0.heap.size W0 w' → ChRow (some ⟨g, 6, none⟩) (m.wait.drop 2) w' ∨ n = 2 := fun w' bw => by
    by_cases h2 : 2 < m.wait.length
    · exact .inl ((w5 2 h2).now.below bw)
    · exact .inr (by omega)
  obtain ⟨A, hA⟩ : ∃ A, (if cap = 2 then some (⟨g, 0, none⟩ : Addr) else some ⟨g, 6, none⟩) = A := ⟨_, rfl⟩
  have hrowA : ∀ w', Below W0.heap.size W0 w' → ChRow A (m.wait.drop 2) w' := fun w' bw => by
    rcases hrow w' bw with h2 | h2
    · by_cases hc : cap = 2
      · intro i c9 hc9
        have h8 := (List.getElem?_eq_some_iff.1 hc9).1
        rw [List.length_drop] at h8
        omega
      · rw [if_neg hc] at hA
        rw [← hA]
        exact h2
    · intro i c9 hc9
      have h8 := (List.getElem?_eq_some_iff.1 hc9).1
      rw [List.length_drop] at h8
      omega
  have HT : Hid (∀ w', Below W0.heap.size W0 w' → Calls Tryz.prog 83 #[.slice A (n - 2) (cap - 2)] w' fun e w'' => e = .returned (.string (bs (encs (m.wait.drop 2)))) ∧ Below w'.heap.size w' w'') := fun w' bw => textOf_any (n - 2) (cap - 2) (hrowA w' bw) (by rw [List.length_drop, hnn]) (by omega)
  have hsz : (bs (encs (m.wait.drop 2))).size ≤ 100000 := by
    rw [bs_size]
    have := encs_len (m.wait.drop 2)
    rw [List.length_drop] at this
    omega
  have HL : Hid (∀ w, Calls Tryz.prog 142 #[.string (bs (encs (m.wait.drop 2)))] w fun e w' => e = .returned (.string (G7.lowP (bs (encs (m.wait.drop 2))))) ∧ Below w.heap.size w w') := fun w => G7.lower_any _ w hsz
  have hq : ((G7.lowP (bs (encs (m.wait.drop 2)))).toList == m.last.toList) = false := by rw [ByteArray.toList_eq m.last]; exact beq_low _ _ _ hm
  obtain ⟨N1, hN1⟩ : ∃ N1, bs (encs (m.wait.drop 2)) = N1 := ⟨_, rfl⟩
  rw [hN1] at hq
  simp only [hN1] at HT HL
  obtain ⟨LP, hLP⟩ : ∃ LP, G7.lowP N1 = LP := ⟨_, rfl⟩
  rw [hLP] at hq
  simp only [hLP] at HL
  rw [hnn] at w1 hw
  have i1 : (2 : Int) ≤ (n : Int) := by omega
  have i2 : (n : Int) ≤ (cap : Int) := by omega
  have HW0 : Hid (m.wait ≠ []) := hw0
  clear h1 u1 u3 w3 w4 w5 hrow hrowA ew hnn hN1 hLP hsz hm hw0
  clear h k0
  go_enter Tryz.func155, Tryz.ntmps155
  go_wp2_with (first | (go_at_call 150; refine (blank_as (r) true _ hbl).mono ?_; rintro e w' ⟨rfl, hw'⟩; obtain rfl := hw'.symm; clear hw') | (go_at_call 104; refine (letter_as (r) false _ hlt).mono ?_; rintro e w' ⟨rfl, hw'⟩; obtain rfl := hw'.symm; clear hw'))
  go_cut [14] (fun s wc => s = .bool false ∧ Walk Z S x m w.heap.size ⟨r, p, q⟩ w wc)
  case first =>
    first
      | (go_region_with (first
          | (go_at_call 150; refine (blank_as (r) true _ hbl).mono ?_; rintro e w' ⟨rfl, hw'⟩; obtain rfl := hw'.symm; clear hw')
          | (go_at_call 83; refine (HT.out _ ((Below.refl _ _).drew)).mono ?_; rintro e w2 ⟨rfl, hb2⟩; have c4b : w2.cell? ⟨x, 4, none⟩ = some (.string m.last) := (hb2.cell (p := ⟨x, 4, none⟩) hx0).trans c4; have hx2 : x < w2.heap.size := Nat.lt_of_lt_of_le hx0 hb2.size; have B2 : Hid (Below W0.heap.size W0 w2) := ((Below.refl _ _).drew).trans hb2; clear hb2)
          | (go_at_call 142; refine (HL.out _).mono ?_; rintro e w3 ⟨rfl, hb3⟩; have c4c : w3.cell? ⟨x, 4, none⟩ = some (.string m.last) := (hb3.cell (p := ⟨x, 4, none⟩) hx2).trans c4b; have B3 : Hid (Below W0.heap.size W0 w3) := B2.out.trans (hb3.mono B2.out.size); clear hb3)))
      | fail
    all_goals
      go_wp2_with fail
      go_meet
      case rel => exact ⟨rfl, K0.out.below B3.out⟩
  case rest =>
    obtain ⟨rfl, kc⟩ := hcut
    have KC : Hid (Walk Z S x m w.heap.size ⟨r, p, q⟩ w wc) := kc
    obtain ⟨hb1, z0, z1, z2⟩ := kc.box
    have hx1 := kc.lt
    clear kc HT HL hq d0 d1 d2 c5 c4 hb0 hx0 i1 i2
    go_wp2_with fail
    refine (KC.out.call (fun U h => dataAgain_any h ⟨r, p, q⟩ (by omega))).mono ?_
    rintro e W1 ⟨rfl, k1⟩
    have P1 : Hid (Post Z S x (m.dataAgain ⟨r, p, q⟩) w W1) := k1.post
    clear k1
    go_wp2_with fail
    refine bodyPost_end (results_none rfl _ _ _) rfl ?_
    exact ⟨rfl, P1.out⟩
theorem rawName_any {Z : Nat → Prop} {S : Nat → Prop} {x : Nat} {m : Mc} {w : World} (h : Mach Z S x m w) (c : Ch) (hw : 2 ≤ m.wait.length) (hwl : m.wait.length ≤ 20000) (hls : m.last.size ≤ 1000000) (hn : m.tot ≤ 480000000) : Calls Tryz.prog 155 #[mp x, cv c] w (Did Z S x (m.rawName c) w) := by
  obtain ⟨r, p, q⟩ := c
  cases hlt : ltr r with
  | true => exact rawName_1 h r p q hlt hn
  | false =>
    by_cases hm : Mc.lowL (encs (m.wait.drop 2)) = m.last.data.toList
    · cases hbl : blk r with
      | true =>
        have e : m.rawName ⟨r, p, q⟩ = ({ m.beg 3 106 with nm := m.last.data.toList, st := 108 } : Mc).tagName ⟨r, p, q⟩ := by unfold Mc.rawName; rw [if_neg (by rw [hlt]; simp), if_pos ⟨.inl hbl, hm⟩]
        rw [e]
        exact rawName_tb h r p q hbl hlt (decide_eq_true hm) hw hwl hls hn
      | false =>
        by_cases h47 : r = 47
        · subst h47
          have e : m.rawName ⟨47, p, q⟩ = ({ m.beg 3 106 with nm := m.last.data.toList, st := 108 } : Mc).tagName ⟨47, p, q⟩ := by unfold Mc.rawName; rw [if_neg (by rw [hlt]; simp), if_pos ⟨.inr (.inl rfl), hm⟩]
          rw [e]
          exact rawName_t47 h p q (decide_eq_true hm) hw hwl hls hn
        by_cases h62 : r = 62
        · subst h62
          have e : m.rawName ⟨62, p, q⟩ = ({ m.beg 3 106 with nm := m.last.data.toList, st := 108 } : Mc).tagName ⟨62, p, q⟩ := by unfold Mc.rawName; rw [if_neg (by rw [hlt]; simp), if_pos ⟨.inr (.inr rfl), hm⟩]
          rw [e]
          exact rawName_t62 h p q (decide_eq_true hm) hw hwl hls hn
        have e : m.rawName ⟨r, p, q⟩ = m.dataAgain ⟨r, p, q⟩ := by unfold Mc.rawName; rw [if_neg (by rw [hlt]; simp), if_neg (fun h => by rcases h.1 with h | h | h; (rw [hbl] at h; cases h); exact h47 h; exact h62 h)]
        rw [e]
        exact rawName_n h r p q hbl hlt (by simpa using h47) (by simpa using h62) hn
    · have e : m.rawName ⟨r, p, q⟩ = m.dataAgain ⟨r, p, q⟩ := by unfold Mc.rawName; rw [if_neg (by rw [hlt]; simp), if_neg (fun h => hm h.2)]
      rw [e]
      cases hbl : blk r with
      | true => exact rawName_fb h r p q hbl hlt (decide_eq_false hm) hw hwl hn
      | false =>
        by_cases h47 : r = 47
        · subst h47
          exact rawName_f47 h p q (decide_eq_false hm) hw hwl hn
        by_cases h62 : r = 62
        · subst h62
          exact rawName_f62 h p q (decide_eq_false hm) hw hwl hn
        exact rawName_n h r p q hbl hlt (by simpa using h47) (by simpa using h62) hn
theorem en123 : Enters 155 := enters_of Tryz.func155 (by kernel_rfl) rfl
set_option maxHeartbeats 2000000 in
set_option maxRecDepth 20000 in
theorem rawSlash_1 {Z : Nat → Prop} {S : Nat → Prop} {x : Nat} {m : Mc} {w : World} (h : Mach Z S x m w) (r p q : Int) (hlt : ltr r = true) (hw : 2 ≤ m.wait.length) (hwl : m.wait.length ≤ 20000) (hls : m.last.size ≤ 1000000) (hn : m.tot ≤ 470000000) : Calls Tryz.prog 111 #[mp x, cv ⟨r, p, q⟩] w (Did Z S x (m.rawSlash ⟨r, p, q⟩) w) := by
  have HE : Hid ((m.rawSlash ⟨r, p, q⟩) = (({ m with st := 155 } : Mc).rawName ⟨r, p, q⟩)) := by
    show (m.rawSlash ⟨r, p, q⟩) = (({ m with st := 155 } : Mc).rawName ⟨r, p, q⟩)
    simp [Mc.rawSlash, hlt]
  obtain ⟨W0, hW0, k0⟩ := Walk.start h ⟨r, p, q⟩
  have hxw := h.low
  obtain ⟨hb0, d0, d1, d2⟩ := k0.box
  have hx0 := k0.lt
  have hne : w.heap.size ≠ x := by omega
  obtain ⟨s0, s1, s2, s3⟩ := k0.st0
  have K0 : Hid (Walk Z S x m w.heap.size ⟨r, p, q⟩ w W0) := k0
  clear h k0
  go_enter Tryz.func111, Tryz.ntmps111
  go_wp2_with (first | (go_at_call 104; refine (letter_as (r) true _ hlt).mono ?_; rintro e w' ⟨rfl, hw'⟩; obtain rfl := hw'.symm; clear hw'))
  refine (K0.out.call (fun U h => again_any 155 en123 h ⟨r, p, q⟩ (fun U W h => rawName_any h ⟨r, p, q⟩ hw hwl hls (by show m.tot ≤ _; omega)))).mono ?_
  rintro e W1 ⟨rfl, k1⟩
  have K1 : Hid (Walk Z S x (({ m with st := 155 } : Mc).rawName ⟨r, p, q⟩) w.heap.size ⟨r, p, q⟩ w W1) := k1
  clear hb0 d0 d1 d2 hx0 s0 s1 s2 s3
  obtain ⟨hb1, d0, d1, d2⟩ := k1.box
  have hx1 := k1.lt
  obtain ⟨s0, s1, s2, s3⟩ := k1.st0
  clear k1
  go_wp2_with fail
  first
    | refine bodyPost_end (results_none rfl _ _ _) rfl ?_
    | refine bodyPost_ret (results_none rfl _ _ _) rfl ?_
  refine ⟨rfl, ?_⟩
  rw [HE.out]
  exact K1.out.post
set_option maxHeartbeats 2000000 in
set_option maxRecDepth 20000 in
theorem rawSlash_2 {Z : Nat → Prop} {S : Nat → Prop} {x : Nat} {m : Mc} {w : World} (h : Mach Z S x m w) (r p q : Int) (hlt : ltr r = false)  (hn : m.tot ≤ 470000000) : Calls Tryz.prog 111 #[mp x, cv ⟨r, p, q⟩] w (Did Z S x (m.rawSlash ⟨r, p, q⟩) w) := by
  have HE : Hid ((m.rawSlash ⟨r, p, q⟩) = (m.dataAgain ⟨r, p, q⟩)) := by
    show (m.rawSlash ⟨r, p, q⟩) = (m.dataAgain ⟨r, p, q⟩)
    simp [Mc.rawSlash, hlt]
  obtain ⟨W0, hW0, k0⟩ := Walk.start h ⟨r, p, q⟩
  have hxw := h.low
  obtain ⟨hb0, d0, d1, d2⟩ := k0.box
  have hx0 := k0.lt
  have hne : w.heap.size ≠ x := by omega
  obtain ⟨s0, s1, s2, s3⟩ := k0.st0
  have K0 : Hid (Walk Z S x m w.heap.size ⟨r, p, q⟩ w W0) := k0
  clear h k0
  go_enter Tryz.func111, Tryz.ntmps111
  go_wp2_with (first | (go_at_call 104; refine (letter_as (r) false _ hlt).mono ?_; rintro e w' ⟨rfl, hw'⟩; obtain rfl := hw'.symm; clear hw'))
  refine (K0.out.call (fun U h => dataAgain_any h ⟨r, p, q⟩ (by show m.tot ≤ _; omega))).mono ?_
  rintro e W1 ⟨rfl, k1⟩
  have K1 : Hid (Walk Z S x (m.dataAgain ⟨r, p, q⟩) w.heap.size ⟨r, p, q⟩ w W1) := k1
  clear hb0 d0 d1 d2 hx0 s0 s1 s2 s3
  obtain ⟨hb1, d0, d1, d2⟩ := k1.box
  have hx1 := k1.lt
  obtain ⟨s0, s1, s2, s3⟩ := k1.st0
  clear k1
  go_wp2_with fail
  first
    | refine bodyPost_end (results_none rfl _ _ _) rfl ?_
    | refine bodyPost_ret (results_none rfl _ _ _) rfl ?_
  refine ⟨rfl, ?_⟩
  rw [HE.out]
  exact K1.out.post
theorem rawSlash_any {Z : Nat → Prop} {S : Nat → Prop} {x : Nat} {m : Mc} {w : World} (h : Mach Z S x m w) (c : Ch) (hw : 2 ≤ m.wait.length) (hwl : m.wait.length ≤ 20000) (hls : m.last.size ≤ 1000000) (hn : m.tot ≤ 470000000) : Calls Tryz.prog 111 #[mp x, cv c] w (Did Z S x (m.rawSlash c) w) := by
  obtain ⟨r, p, q⟩ := c
  cases hlt : ltr r with
  | true => exact rawSlash_1 h r p q hlt hw hwl hls hn
  | false => exact rawSlash_2 h r p q hlt hn
end Go.Proofs.YtdiealijjhfhjaaGreatDoor
