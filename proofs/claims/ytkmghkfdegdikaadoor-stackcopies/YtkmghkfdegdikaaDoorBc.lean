/- The document's Equal of attributes, One. -/
import Derived.Test.YtkmghkfdegdikaaDoorBb
namespace Go.Proofs.YtkmghkfdegdikaaDoor
open Go.RowKit

/-- Two lists of attributes are the same. -/
noncomputable def eqA (A B : List At) : Bool := @decide (A = B) (Classical.propDecidable _)
theorem eqA_iff {A B : List At} : eqA A B = true ↔ A = B := by unfold eqA; exact @decide_eq_true_iff _ (Classical.propDecidable _)
theorem eqA_no {A B : List At} : eqA A B = false ↔ A ≠ B := by unfold eqA; exact @decide_eq_false_iff_not _ (Classical.propDecidable _)
set_option maxHeartbeats 1000000 in
theorem eq_ats {w : World} {ao bo : Option Addr} {A B : List At} (n m ca cb : Nat) (ha : AtRow w ao A) (hb : AtRow w bo B) (hn : A.length = n) (hm : B.length = m) (hn2 : n ≤ 9223372036854775807) :
    Calls Tryd.prog 39 #[.slice ao n ca, .slice bo m cb] w fun e w' => e = .returned (.bool (eqA A B)) ∧ Below w.heap.size w w' := by
  have HA : Hid (AtRow w ao A ∧ AtRow w bo B ∧ A.length = n ∧ B.length = m) := ⟨ha, hb, hn, hm⟩
  clear ha hb hn hm
  by_cases hnm : n = m
  · subst hnm
    go_enter Tryd.func39, Tryd.ntmps39
    go_wp2_with fail
    go_loopg [5] n (fun g2 iv wr => ∃ (i q : Nat), iv = .int .i64 i ∧ i + g2 = n ∧ wr = w.drewN q ∧ Hid (A.take i = B.take i))
    case atStart => exact ⟨0, 0, rfl, by omega, rfl, by simp [Hid]⟩
    case round =>
      obtain ⟨i, q, rfl, hig, rfl, HT⟩ := hrel
      cases gk with
      | zero =>
        obtain rfl : i = n := by omega
        have hg0 : decide ((i : Int) < (i : Int)) = false := decide_eq_false (by omega)
        have HE : Hid (eqA A B = true) := by
          refine eqA_iff.2 ?_
          have := HT.out
          rwa [List.take_of_length_le (by rw [HA.out.2.2.1]; omega), List.take_of_length_le (by rw [HA.out.2.2.2]; omega)] at this
        go_wp2_with fail
        go_ret
        exact ⟨by rw [HE.out]; rfl, below_drewN (Below.refl _ _) _⟩
      | succ k =>
        have hin : i < n := by omega
        obtain ⟨x, hx⟩ : ∃ x, A[i]? = some x := ⟨_, List.getElem?_eq_getElem (by rw [HA.out.2.2.1]; exact hin)⟩
        obtain ⟨y, hy⟩ : ∃ y, B[i]? = some y := ⟨_, List.getElem?_eq_getElem (by rw [HA.out.2.2.2]; exact hin)⟩
        obtain ⟨b1, o1, rfl, h1, c1, c2⟩ := HA.out.1 i x hx
        obtain ⟨b2, o2, rfl, h2, c3, c4⟩ := HA.out.2.1 i y hy
        obtain ⟨nm1, vl1⟩ := x
        obtain ⟨nm2, vl2⟩ := y
        simp only at c1 c2 c3 c4
        cases hq : At.eqb ⟨nm1, vl1⟩ ⟨nm2, vl2⟩ with
        | true =>
          have hne : ∀ w : World, (binOp .neq 71 (.agg #[.string nm1, .string vl1]) (.agg #[.string nm2, .string vl2])).run Tryd.prog w = .ok (.bool false) w := fun w => by
            rw [ne71, hq]; rfl
          have HT2 : Hid (A.take (i + 1) = B.take (i + 1)) := by
            show A.take (i + 1) = B.take (i + 1)
            rw [List.take_add_one, List.take_add_one, hx, hy, HT.out, At.eqb_iff.1 hq]
          clear hq hx hy
          go_wp2_with fail
          go_quiet (fail)
          go_wp2_with fail
          go_roundg k
          case measure => omega
          case rel => exact ⟨i + 1, _, by go_num, by omega, rfl, HT2⟩
        | false =>
          have hne : ∀ w : World, (binOp .neq 71 (.agg #[.string nm1, .string vl1]) (.agg #[.string nm2, .string vl2])).run Tryd.prog w = .ok (.bool true) w := fun w => by
            rw [ne71, hq]; rfl
          have HE : Hid (eqA A B = false) := by
            refine eqA_no.2 fun e => ?_
            rw [e, hy] at hx
            have := At.eqb_iff.2 (Option.some.inj hx).symm
            rw [this] at hq
            exact absurd hq (by decide)
          clear hq hx hy
          go_wp2_with fail
          go_quiet (fail)
          go_wp2_with fail
          go_ret
          exact ⟨by rw [HE.out]; rfl, below_drewN (below_drewN (Below.refl _ _) _) _⟩
  · have h1 : ((n : Int) == (m : Int)) = false := by simp; omega
    have h2 : ¬ (n : Int) = (m : Int) := by omega
    have HE : Hid (eqA A B = false) := eqA_no.2 fun e => hnm (by rw [← HA.out.2.2.1, ← HA.out.2.2.2, e])
    go_enter Tryd.func39, Tryd.ntmps39
    go_wp2_with fail
    go_ret
    exact ⟨by rw [HE.out]; rfl, Below.refl _ _⟩

set_option maxHeartbeats 2000000 in
set_option maxRecDepth 20000 in
theorem one_any {w : World} (c d : El) (hc : Ats w c.av c.al) (hd : Ats w d.av d.al) : Calls Tryd.prog 14 #[.agg c.arr, .agg d.arr] w fun e w' => ∃ b, e = .returned (.bool b) ∧ (c.pu = d.pu → b = true) ∧ Below w.heap.size w w' := by
  obtain ⟨ci, cs, cn, cv, cl⟩ := c
  obtain ⟨di, ds, dn, dv, dl⟩ := d
  obtain ⟨⟨co, cc, hcv, hcr⟩, hcf⟩ := hc
  obtain ⟨⟨o, dc, hdv, hdr⟩, hdf⟩ := hd
  simp only at hcv hcr hcf hdv hdr hdf
  subst hcv
  subst hdv
  obtain ⟨W1, hW1⟩ : ∃ W1, w.alloc (.cells #[iv ci, iv cs, .string cn, .slice co cl.length cc] 34) = W1 := ⟨_, rfl⟩
  have HW1 : Hid (w.alloc (.cells #[iv ci, iv cs, .string cn, .slice co cl.length cc] 34) = W1) := hW1
  have x1 : Bx W1 w.heap.size 34 #[iv ci, iv cs, .string cn, .slice co cl.length cc] := by rw [← hW1]; exact heap_alloc_new w _
  have b1 : Below w.heap.size w W1 := by rw [← hW1]; exact (Below.refl _ _).alloc (Nat.le_refl _) _
  have hs : W1.heap.size = w.heap.size + 1 := by rw [← hW1]; exact World.size_alloc _ _
  clear hW1
  obtain ⟨W2, hW2⟩ : ∃ W2, W1.alloc (.cells #[iv di, iv ds, .string dn, .slice o dl.length dc] 34) = W2 := ⟨_, rfl⟩
  have HW2 : Hid (W1.alloc (.cells #[iv di, iv ds, .string dn, .slice o dl.length dc] 34) = W2) := hW2
  have x2 : Bx W2 (w.heap.size + 1) 34 #[iv di, iv ds, .string dn, .slice o dl.length dc] := by rw [← hW2, ← hs]; exact heap_alloc_new W1 _
  have b2 : Below W1.heap.size W1 W2 := by rw [← hW2]; exact (Below.refl _ _).alloc (Nat.le_refl _) _
  have y1 := x1.old b2
  have bb := b1.trans (b2.mono b1.size)
  clear hW2
  have HB : Hid (Below w.heap.size w W2) := bb
  have ke := eq_ats (w := W2) cl.length dl.length cc dc (hcr.old bb) (hdr.old bb) rfl rfl (by omega)
  obtain ⟨q, hq⟩ : ∃ q, eqA cl dl = q := ⟨_, rfl⟩
  have HQ : Hid (cl = dl → q = true) := fun h => by rw [← hq]; exact eqA_iff.2 h
  rw [hq] at ke
  have c0 : W2.cell? ⟨w.heap.size, 0, none⟩ = some (iv ci) := y1.cell 0
  have c1 : W2.cell? ⟨w.heap.size, 1, none⟩ = some (iv cs) := y1.cell 1
  have c2 : W2.cell? ⟨w.heap.size, 2, none⟩ = some (.string cn) := y1.cell 2
  have c3 : W2.cell? ⟨w.heap.size, 3, none⟩ = some (.slice co cl.length cc) := y1.cell 3
  have d0 : W2.cell? ⟨w.heap.size + 1, 0, none⟩ = some (iv di) := x2.cell 0
  have d1 : W2.cell? ⟨w.heap.size + 1, 1, none⟩ = some (iv ds) := x2.cell 1
  have d2 : W2.cell? ⟨w.heap.size + 1, 2, none⟩ = some (.string dn) := x2.cell 2
  have d3 : W2.cell? ⟨w.heap.size + 1, 3, none⟩ = some (.slice o dl.length dc) := x2.cell 3
  clear hq x1 b1 x2 b2 y1 bb hcr hdr hcf hdf hs
  show Calls Tryd.prog 14 #[.agg #[iv ci, iv cs, .string cn, .slice co cl.length cc], .agg #[iv di, iv ds, .string dn, .slice o dl.length dc]] w _
  go_enter Tryd.func14, Tryd.ntmps14
  go_upto_region 1 with fail
  rw [HW1.out, HW2.out]
  by_cases h0 : ci = di
  · have g0 : (ci == di) = true := beq_iff_eq.2 h0
    by_cases h1 : cs = ds
    · have g1 : (cs == ds) = true := beq_iff_eq.2 h1
      cases h2 : (cn.toList == dn.toList) with
      | true =>
        clear h0 h1
        go_wp2_with fail
        refine ke.mono ?_
        rintro e w3 ⟨rfl, b3⟩
        have HF : Hid (Below w.heap.size w w3) := HB.out.trans (b3.mono HB.out.size)
        clear ke b3 c0 c1 c2 c3 d0 d1 d2 d3
        go_wp2_with fail
        go_ret
        refine ⟨_, rfl, fun h => HQ.out ?_, HF.out⟩
        simp only [El.pu, Prod.mk.injEq] at h
        exact h.2.2.2
      | false =>
        have HN : Hid (¬ cn = dn) := fun e => by rw [e] at h2; simp at h2
        clear h0 h1
        go_wp2_with fail
        go_ret
        refine ⟨_, rfl, fun h => ?_, HB.out⟩
        simp only [El.pu, Prod.mk.injEq] at h
        exact (HN.out h.2.2.1).elim
    · have g1 : (cs == ds) = false := beq_false_of_ne h1
      have HN : Hid (¬ cs = ds) := h1
      clear h0 h1
      go_wp2_with fail
      go_ret
      refine ⟨_, rfl, fun h => ?_, HB.out⟩
      simp only [El.pu, Prod.mk.injEq] at h
      exact (HN.out h.2.1).elim
  · have g0 : (ci == di) = false := beq_false_of_ne h0
    have HN : Hid (¬ ci = di) := h0
    clear h0
    go_wp2_with fail
    go_ret
    refine ⟨_, rfl, fun h => ?_, HB.out⟩
    simp only [El.pu, Prod.mk.injEq] at h
    exact (HN.out h.1).elim
end Go.Proofs.YtkmghkfdegdikaaDoor
