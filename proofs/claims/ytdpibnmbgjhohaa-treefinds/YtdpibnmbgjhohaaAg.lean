/- The document's Equal of attributes, and alike: any two. -/
import Derived.Test.YtdpibnmbgjhohaaAf
import Derived.StillTailTactics
namespace Go.Proofs.Ytdpibnmbgjhohaa
open Go.RowKit

theorem eq24g (a b c d : Int) (w : World) : (binOp .eql 24 (.agg #[iv a, iv b]) (.agg #[iv c, iv d])).run Try.prog w = .ok (.bool (a == c && b == d)) w := by
  have u3 := Try.underlying3
  have a3 := Try.isAgg3
  have z3 := Try.sizeOf3
  have hS : Try.prog.underlying 24 = some (.struct (Try.prog.fieldsOf 24)) := by kernel_rfl
  have hp : Try.prog.stoodInHeld 24 = false := by kernel_rfl
  rw [run_eql_struct, show (10000 : Nat) = 9999 + 1 from rfl, run_equalIn_agg w 9999 24 _ _ hS hp]
  simp only [Program.fieldsOf, Try.underlying24]
  go_simp
  by_cases h1 : a = c <;> by_cases h2 : b = d <;> simp [h1, h2]
theorem ne24g (a b c d : Int) (w : World) : (binOp .neq 24 (.agg #[iv a, iv b]) (.agg #[iv c, iv d])).run Try.prog w = .ok (.bool (!(a == c && b == d))) w := by
  have h := eq24g a b c d w
  rw [run_eql_struct] at h
  rw [run_neq_struct]
  revert h
  generalize (Op.equalIn 10000 24 (.agg #[iv a, iv b]) (.agg #[iv c, iv d])).run Try.prog w = r
  intro h
  cases r with
  | ok x w' => simp [Result.andThen] at h ⊢; obtain ⟨h1, h2⟩ := h; simp [h1, h2]
  | halt x w' => simp [Result.andThen] at h
/-- Two lists of attributes are the same. -/
noncomputable def eqA (A B : List At) : Bool := @decide (A = B) (Classical.propDecidable _)
theorem eqA_iff {A B : List At} : eqA A B = true ↔ A = B := by unfold eqA; exact @decide_eq_true_iff _ (Classical.propDecidable _)
theorem eqA_no {A B : List At} : eqA A B = false ↔ A ≠ B := by unfold eqA; exact @decide_eq_false_iff_not _ (Classical.propDecidable _)
set_option maxHeartbeats 1000000 in
theorem eq_ats {w : World} {ao bo : Option Addr} {A B : List At} (n m ca cb : Nat) (ha : AtRow w ao A) (hb : AtRow w bo B) (hn : A.length = n) (hm : B.length = m) (hn2 : n ≤ 9223372036854775807) :
    Calls Try.prog 28 #[.slice ao n ca, .slice bo m cb] w fun e w' => e = .returned (.bool (eqA A B)) ∧ Below w.heap.size w w' := by
  have HA : Hid (AtRow w ao A ∧ AtRow w bo B ∧ A.length = n ∧ B.length = m) := ⟨ha, hb, hn, hm⟩
  clear ha hb hn hm
  by_cases hnm : n = m
  · subst hnm
    go_enter Try.func28, Try.ntmps28
    go_wp2_with fail
    go_loopg [5] n (fun g2 iv wr => ∃ (i q : Nat), iv = .int .i64 i ∧ i + g2 = n ∧ wr = w.drewN q ∧ Hid (A.take i = B.take i))
    case atStart => exact ⟨0, 0, rfl, by omega, rfl, by simp [Hid]⟩
    case round =>
      obtain ⟨i, q, rfl, hig, rfl, HT⟩ := hrel
      cases gk with
      | zero =>
        obtain rfl : i = n := by omega
        have hg0 : decide ((i : Int) < (i : Int)) = false := decide_eq_false (by omega)
        have HE : Hid (eqA A B = true) := by
          refine eqA_iff.2 ?_
          have := HT.out
          rwa [List.take_of_length_le (by rw [HA.out.2.2.1]; omega), List.take_of_length_le (by rw [HA.out.2.2.2]; omega)] at this
        go_wp2_with fail
        go_ret
        exact ⟨by rw [HE.out]; rfl, below_drewN (Below.refl _ _) _⟩
      | succ k =>
        have hin : i < n := by omega
        obtain ⟨x, hx⟩ : ∃ x, A[i]? = some x := ⟨_, List.getElem?_eq_getElem (by rw [HA.out.2.2.1]; exact hin)⟩
        obtain ⟨y, hy⟩ : ∃ y, B[i]? = some y := ⟨_, List.getElem?_eq_getElem (by rw [HA.out.2.2.2]; exact hin)⟩
        obtain ⟨b1, o1, rfl, h1, c1, c2⟩ := HA.out.1 i x hx
        obtain ⟨b2, o2, rfl, h2, c3, c4⟩ := HA.out.2.1 i y hy
        obtain ⟨nm1, vl1⟩ := x
        obtain ⟨nm2, vl2⟩ := y
        simp only at c1 c2 c3 c4
        cases hq : At.eqb ⟨nm1, vl1⟩ ⟨nm2, vl2⟩ with
        | true =>
          have hne : ∀ w : World, (binOp .neq 53 (.agg #[.string nm1, .string vl1]) (.agg #[.string nm2, .string vl2])).run Try.prog w = .ok (.bool false) w := fun w => by
            rw [ne53, hq]; rfl
          have HT2 : Hid (A.take (i + 1) = B.take (i + 1)) := by
            show A.take (i + 1) = B.take (i + 1)
            rw [List.take_add_one, List.take_add_one, hx, hy, HT.out, At.eqb_iff.1 hq]
          clear hq hx hy
          go_wp2_with fail
          go_quiet (fail)
          go_wp2_with fail
          go_roundg k
          case measure => omega
          case rel => exact ⟨i + 1, _, by go_num, by omega, rfl, HT2⟩
        | false =>
          have hne : ∀ w : World, (binOp .neq 53 (.agg #[.string nm1, .string vl1]) (.agg #[.string nm2, .string vl2])).run Try.prog w = .ok (.bool true) w := fun w => by
            rw [ne53, hq]; rfl
          have HE : Hid (eqA A B = false) := by
            refine eqA_no.2 fun e => ?_
            rw [e, hy] at hx
            have := At.eqb_iff.2 (Option.some.inj hx).symm
            rw [this] at hq
            exact absurd hq (by decide)
          clear hq hx hy
          go_wp2_with fail
          go_quiet (fail)
          go_wp2_with fail
          go_ret
          exact ⟨by rw [HE.out]; rfl, below_drewN (below_drewN (Below.refl _ _) _) _⟩
  · have h1 : ((n : Int) == (m : Int)) = false := by simp; omega
    have h2 : ¬ (n : Int) = (m : Int) := by omega
    have HE : Hid (eqA A B = false) := eqA_no.2 fun e => hnm (by rw [← HA.out.2.2.1, ← HA.out.2.2.2, e])
    go_enter Try.func28, Try.ntmps28
    go_wp2_with fail
    go_ret
    exact ⟨by rw [HE.out]; rfl, Below.refl _ _⟩
/-- What alike asks of two nodes with so many kids. -/
def alk (d : Nd) (n : Nat) (d' : Nd) (m : Nat) : Bool := decide (d.kind = d'.kind) && decide (d.space = d'.space) && decide (d.name.data.toList = d'.name.data.toList) && decide (d.text.data.toList = d'.text.data.toList) && decide (n = m)
set_option maxHeartbeats 2000000 in
theorem ralike_any {w : World} (d d' : Nd) {ao bo kp qp : Option Addr} (an ac bn bc kn kc qn qc : Nat) :
    Calls Try.prog 29 #[.agg #[iv d.id, iv d.kind, iv d.space, .string d.name, .string d.text, .slice ao an ac, iv d.sf, iv d.st, iv d.ef, iv d.et, .slice kp kn kc], .agg #[iv d'.id, iv d'.kind, iv d'.space, .string d'.name, .string d'.text, .slice bo bn bc, iv d'.sf, iv d'.st, iv d'.ef, iv d'.et, .slice qp qn qc]] w fun e w' => e = .returned (.bool (alk d kn d' qn)) ∧ Below w.heap.size w w' := by
  have H : Hid (Below w.heap.size w ((w.alloc (.cells #[iv d.id, iv d.kind, iv d.space, .string d.name, .string d.text, .slice ao an ac, iv d.sf, iv d.st, iv d.ef, iv d.et, .slice kp kn kc] 27)).alloc (.cells #[iv d'.id, iv d'.kind, iv d'.space, .string d'.name, .string d'.text, .slice bo bn bc, iv d'.sf, iv d'.st, iv d'.ef, iv d'.et, .slice qp qn qc] 27))) := ((Below.refl _ _).alloc (Nat.le_refl _) _).alloc (by simp) _
  by_cases h1 : d.kind = d'.kind
  · have g1 : (d.kind == d'.kind) = true := by simp [h1]
    by_cases h2 : d.space = d'.space
    · have g2 : (d.space == d'.space) = true := by simp [h2]
      by_cases h3 : d.name.data.toList = d'.name.data.toList
      · have g3 : (d.name.toList == d'.name.toList) = true := by rw [beq_bytes]; exact decide_eq_true h3
        by_cases h4 : d.text.data.toList = d'.text.data.toList
        · have g4 : (d.text.toList == d'.text.toList) = true := by rw [beq_bytes]; exact decide_eq_true h4
          by_cases h5 : kn = qn
          · have g5 : ((kn : Int) == (qn : Int)) = true := by simp [h5]
            have HN : Hid (alk d kn d' qn = true) := by
              show alk d kn d' qn = true
              simp [alk, h1, h2, h3, h4, h5]
            clear h1 h2 h3 h4 h5
            go_enter Try.func29, Try.ntmps29
            go_wp2_with fail
            go_ret
            exact ⟨by rw [HN.out]; rfl, H.out⟩
          · have g5 : ((kn : Int) == (qn : Int)) = false := by simp; omega
            go_enter Try.func29, Try.ntmps29
            have HN : Hid (alk d kn d' qn = false) := by
              show alk d kn d' qn = false
              simp [alk, h5]
            clear h1
            clear h2
            clear h3
            clear h4
            go_wp2_with fail
            go_ret
            exact ⟨by rw [HN.out]; rfl, H.out⟩

        · have g4 : (d.text.toList == d'.text.toList) = false := by rw [beq_bytes]; exact decide_eq_false h4
          go_enter Try.func29, Try.ntmps29
          have HN : Hid (alk d kn d' qn = false) := by
            show alk d kn d' qn = false
            simp [alk, h4]
          clear h1
          clear h2
          clear h3
          go_wp2_with fail
          go_ret
          exact ⟨by rw [HN.out]; rfl, H.out⟩

      · have g3 : (d.name.toList == d'.name.toList) = false := by rw [beq_bytes]; exact decide_eq_false h3
        go_enter Try.func29, Try.ntmps29
        have HN : Hid (alk d kn d' qn = false) := by
          show alk d kn d' qn = false
          simp [alk, h3]
        clear h1
        clear h2
        go_wp2_with fail
        go_ret
        exact ⟨by rw [HN.out]; rfl, H.out⟩

    · have g2 : (d.space == d'.space) = false := by simp [h2]
      go_enter Try.func29, Try.ntmps29
      have HN : Hid (alk d kn d' qn = false) := by
        show alk d kn d' qn = false
        simp [alk, h2]
      clear h1
      go_wp2_with fail
      go_ret
      exact ⟨by rw [HN.out]; rfl, H.out⟩

  · have g1 : (d.kind == d'.kind) = false := by simp [h1]
    go_enter Try.func29, Try.ntmps29
    have HN : Hid (alk d kn d' qn = false) := by
      show alk d kn d' qn = false
      simp [alk, h1]
    go_wp2_with fail
    go_ret
    exact ⟨by rw [HN.out]; rfl, H.out⟩

end Go.Proofs.Ytdpibnmbgjhohaa
