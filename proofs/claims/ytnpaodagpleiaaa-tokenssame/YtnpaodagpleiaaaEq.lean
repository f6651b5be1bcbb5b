/- slices.Equal of attributes, and the document's Equal: whether two rows are the same. -/
import Derived.Test.YtnpaodagpleiaaaTk
namespace Go.Proofs.Ytnpaodagpleiaaa
open Go.RowKit

set_option maxHeartbeats 1000000 in
theorem equal_any {w : World} {ao bo : Option Addr} {A B : List At} (n m ca cb : Nat) (ha : AtRow w ao A) (hb : AtRow w bo B) (hn : A.length = n) (hm : B.length = m) (hn2 : n ≤ 9223372036854775807) (hm2 : m ≤ 9223372036854775807) :
    Calls Try.prog 25 #[.slice ao n ca, .slice bo m cb] w fun e w' => e = .returned (.bool (eqL A B)) ∧ Below w.heap.size w w' := by
  by_cases hnm : n = m
  · subst hnm
    obtain ⟨g, hg0⟩ : ∃ g, eqL A B = g := ⟨_, rfl⟩
    rw [hg0]
    have HA : Hid (AtRow w ao A ∧ AtRow w bo B ∧ A.length = n ∧ B.length = n ∧ eqL (A.drop 0) (B.drop 0) = g) := ⟨ha, hb, hn, hm, hg0⟩
    clear ha hb hn hm hg0
    go_enter Try.func25, Try.ntmps25
    go_wp2_with fail
    go_loopg [13] n (fun g2 iv wr => ∃ (i q : Nat), iv = .int .i64 i ∧ i + g2 = n ∧ eqL (A.drop i) (B.drop i) = g ∧ wr = w.drewN q)
    case atStart => exact ⟨0, 0, rfl, by omega, HA.out.2.2.2.2, rfl⟩
    case round =>
      obtain ⟨i, q, rfl, hig, hgi, rfl⟩ := hrel
      have HG : Hid (eqL (A.drop i) (B.drop i) = g) := hgi
      clear hgi
      cases gk with
      | zero =>
        obtain rfl : i = n := by omega
        have hg0 : decide ((i : Int) < (i : Int)) = false := decide_eq_false (by omega)
        go_wp2_with fail
        have e : g = true := by
          have h := HG.out
          rw [List.drop_of_length_le (by rw [HA.out.2.2.1]; exact Nat.le_refl _), List.drop_of_length_le (by rw [HA.out.2.2.2.1]; exact Nat.le_refl _)] at h
          exact h.symm
        subst e
        go_ret
        exact ⟨rfl, below_drewN (Below.refl _ _) _⟩
      | succ k =>
        have hin : i < n := by omega
        obtain ⟨x, hx⟩ : ∃ x, A[i]? = some x := ⟨_, List.getElem?_eq_getElem (by rw [HA.out.2.2.1]; exact hin)⟩
        obtain ⟨y, hy⟩ : ∃ y, B[i]? = some y := ⟨_, List.getElem?_eq_getElem (by rw [HA.out.2.2.2.1]; exact hin)⟩
        obtain ⟨b1, o1, rfl, h1, c1, c2⟩ := HA.out.1 i x hx
        obtain ⟨b2, o2, rfl, h2, c3, c4⟩ := HA.out.2.1 i y hy
        have HD : Hid (eqL (A.drop i) (B.drop i) = (At.eqb x y && eqL (A.drop (i + 1)) (B.drop (i + 1)))) := eqL_drop hx hy
        clear hx hy
        obtain ⟨nm1, vl1⟩ := x
        obtain ⟨nm2, vl2⟩ := y
        simp only at c1 c2 c3 c4
        have hne := ne40 nm1 vl1 nm2 vl2
        obtain ⟨r, hr⟩ : ∃ r, At.eqb ⟨nm1, vl1⟩ ⟨nm2, vl2⟩ = r := ⟨_, rfl⟩
        rw [hr] at HD
        simp only [hr] at hne
        clear hr
        cases r with
        | false =>
          have e : g = false := by
            rw [← HG.out, HD.out]
            rfl
          subst e
          simp only [Bool.not_false] at hne
          go_wp2_with fail
          go_quiet (fail)
          go_wp2_with fail
          go_ret
          exact ⟨rfl, below_drewN (below_drewN (Below.refl _ _) _) _⟩
        | true =>
          have HN : Hid (eqL (A.drop (i + 1)) (B.drop (i + 1)) = g) := by
            have h := HD.out
            rw [Bool.true_and] at h
            exact h.symm.trans HG.out
          simp only [Bool.not_true] at hne
          go_wp2_with fail
          go_quiet (fail)
          go_wp2_with fail
          go_roundg k
          case measure => omega
          case rel => exact ⟨i + 1, _, by go_num, by omega, HN.out, rfl⟩
  · rw [eqL_len (by rw [hn, hm]; exact hnm)]
    have hne : ((n : Int) == (m : Int)) = false := by simp; omega
    clear ha hb hn hm
    go_enter Try.func25, Try.ntmps25
    go_wp2_with fail
    go_ret
    exact ⟨rfl, Below.refl _ _⟩

set_option maxHeartbeats 1000000 in
theorem requal_any {w : World} {ao bo : Option Addr} {A B : List At} (n m ca cb : Nat) (ha : AtRow w ao A) (hb : AtRow w bo B) (hn : A.length = n) (hm : B.length = m) (hn2 : n ≤ 9223372036854775807) (hm2 : m ≤ 9223372036854775807) :
    Calls Try.prog 26 #[.slice ao n ca, .slice bo m cb] w fun e w' => e = .returned (.bool (eqL A B)) ∧ Below w.heap.size w w' := by
  by_cases hnm : n = m
  · subst hnm
    obtain ⟨g, hg0⟩ : ∃ g, eqL A B = g := ⟨_, rfl⟩
    rw [hg0]
    have HA : Hid (AtRow w ao A ∧ AtRow w bo B ∧ A.length = n ∧ B.length = n ∧ eqL (A.drop 0) (B.drop 0) = g) := ⟨ha, hb, hn, hm, hg0⟩
    clear ha hb hn hm hg0
    go_enter Try.func26, Try.ntmps26
    go_wp2_with fail
    go_loopg [5] n (fun g2 iv wr => ∃ (i q : Nat), iv = .int .i64 i ∧ i + g2 = n ∧ eqL (A.drop i) (B.drop i) = g ∧ wr = w.drewN q)
    case atStart => exact ⟨0, 0, rfl, by omega, HA.out.2.2.2.2, rfl⟩
    case round =>
      obtain ⟨i, q, rfl, hig, hgi, rfl⟩ := hrel
      have HG : Hid (eqL (A.drop i) (B.drop i) = g) := hgi
      clear hgi
      cases gk with
      | zero =>
        obtain rfl : i = n := by omega
        have hg0 : decide ((i : Int) < (i : Int)) = false := decide_eq_false (by omega)
        go_wp2_with fail
        have e : g = true := by
          have h := HG.out
          rw [List.drop_of_length_le (by rw [HA.out.2.2.1]; exact Nat.le_refl _), List.drop_of_length_le (by rw [HA.out.2.2.2.1]; exact Nat.le_refl _)] at h
          exact h.symm
        subst e
        go_ret
        exact ⟨rfl, below_drewN (Below.refl _ _) _⟩
      | succ k =>
        have hin : i < n := by omega
        obtain ⟨x, hx⟩ : ∃ x, A[i]? = some x := ⟨_, List.getElem?_eq_getElem (by rw [HA.out.2.2.1]; exact hin)⟩
        obtain ⟨y, hy⟩ : ∃ y, B[i]? = some y := ⟨_, List.getElem?_eq_getElem (by rw [HA.out.2.2.2.1]; exact hin)⟩
        obtain ⟨b1, o1, rfl, h1, c1, c2⟩ := HA.out.1 i x hx
        obtain ⟨b2, o2, rfl, h2, c3, c4⟩ := HA.out.2.1 i y hy
        have HD : Hid (eqL (A.drop i) (B.drop i) = (At.eqb x y && eqL (A.drop (i + 1)) (B.drop (i + 1)))) := eqL_drop hx hy
        clear hx hy
        obtain ⟨nm1, vl1⟩ := x
        obtain ⟨nm2, vl2⟩ := y
        simp only at c1 c2 c3 c4
        have hne := ne40 nm1 vl1 nm2 vl2
        obtain ⟨r, hr⟩ : ∃ r, At.eqb ⟨nm1, vl1⟩ ⟨nm2, vl2⟩ = r := ⟨_, rfl⟩
        rw [hr] at HD
        simp only [hr] at hne
        clear hr
        cases r with
        | false =>
          have e : g = false := by
            rw [← HG.out, HD.out]
            rfl
          subst e
          simp only [Bool.not_false] at hne
          go_wp2_with fail
          go_quiet (fail)
          go_wp2_with fail
          go_ret
          exact ⟨rfl, below_drewN (below_drewN (Below.refl _ _) _) _⟩
        | true =>
          have HN : Hid (eqL (A.drop (i + 1)) (B.drop (i + 1)) = g) := by
            have h := HD.out
            rw [Bool.true_and] at h
            exact h.symm.trans HG.out
          simp only [Bool.not_true] at hne
          go_wp2_with fail
          go_quiet (fail)
          go_wp2_with fail
          go_roundg k
          case measure => omega
          case rel => exact ⟨i + 1, _, by go_num, by omega, HN.out, rfl⟩
  · rw [eqL_len (by rw [hn, hm]; exact hnm)]
    have hne : ((n : Int) == (m : Int)) = false := by simp; omega
    clear ha hb hn hm
    go_enter Try.func26, Try.ntmps26
    go_wp2_with fail
    go_ret
    exact ⟨rfl, Below.refl _ _⟩

end Go.Proofs.Ytnpaodagpleiaaa
