/- What names mean: the program's calls and the document's. -/
import Derived.Test.YtmcjohpopfkjfaaDoorAm
namespace Go.Proofs.YtmcjohpopfkjfaaDoor
open Go.RowKit

theorem txt_small (k : Nat) (hk : k < 11) : (txt k).length ≤ 1000 := (show ∀ k, k < 11 → (txt k).length ≤ 1000 by decide +kernel) k hk
theorem among_lit (s t : ByteArray) (w : World) (k : Nat) (hk : k < 11) (h : t.data.toList = txt k) : Calls Tryd.prog 28 #[.string s, .string t] w fun e w' => e = .returned (.bool (has k s)) ∧ w' = w := by
  have hs : t.size ≤ 100000 := by
    rw [← list_len, h]
    exact Nat.le_trans (txt_small k hk) (by decide)
  have := among_any s t w hs
  rw [h, one_words s k hk] at this
  exact this
theorem in_lit (k : Nat) (i : Int) (hi : i = (k : Int)) (hk : k < 11) (s : ByteArray) {w : World} (T : Tb w) : Calls Tryd.prog 27 #[.int .i64 i, .string s] w fun e w' => e = .returned (.bool (has k s)) ∧ w' = w := by
  subst hi
  exact in_any k hk s T

theorem ret_bool {a b : Bool} (h : a = b) : Ending.returned (.bool a) = .returned (.bool b) := by rw [h]
theorem void_any (s : ByteArray) {w : World} (T : Tb w) : Calls Tryd.prog 9 #[.string s] w fun e w' => e = .returned (.bool (has 0 s)) ∧ w' = w := by
  have k1 := in_lit 0 0 rfl (by decide) s T
  go_enter Tryd.func9, Tryd.ntmps9
  go_wp2_with fail
  refine k1.mono ?_
  rintro e w' ⟨rfl, rfl⟩
  go_wp2_with fail
  go_ret
  exact ⟨rfl, rfl⟩
theorem rvoid_any (s : ByteArray) (w : World) : Calls Tryd.prog 10 #[.string s] w fun e w' => e = .returned (.bool (has 0 s)) ∧ w' = w := by
  go_enter Tryd.func10, Tryd.ntmps10
  go_wp2_with fail
  refine (among_lit s _ w 0 (by decide) rfl).mono ?_
  rintro e w' ⟨rfl, rfl⟩
  go_wp2_with fail
  go_ret
  exact ⟨rfl, rfl⟩
theorem formats_any (s : ByteArray) {w : World} (T : Tb w) : Calls Tryd.prog 11 #[.string s] w fun e w' => e = .returned (.bool (has 1 s)) ∧ w' = w := by
  have k1 := in_lit 1 1 rfl (by decide) s T
  go_enter Tryd.func11, Tryd.ntmps11
  go_wp2_with fail
  refine k1.mono ?_
  rintro e w' ⟨rfl, rfl⟩
  go_wp2_with fail
  go_ret
  exact ⟨rfl, rfl⟩
theorem rformats_any (s : ByteArray) (w : World) : Calls Tryd.prog 12 #[.string s] w fun e w' => e = .returned (.bool (has 1 s)) ∧ w' = w := by
  go_enter Tryd.func12, Tryd.ntmps12
  go_wp2_with fail
  refine (among_lit s _ w 1 (by decide) rfl).mono ?_
  rintro e w' ⟨rfl, rfl⟩
  go_wp2_with fail
  go_ret
  exact ⟨rfl, rfl⟩
theorem implied_any (s : ByteArray) {w : World} (T : Tb w) : Calls Tryd.prog 13 #[.string s] w fun e w' => e = .returned (.bool (has 2 s)) ∧ w' = w := by
  have k1 := in_lit 2 2 rfl (by decide) s T
  go_enter Tryd.func13, Tryd.ntmps13
  go_wp2_with fail
  refine k1.mono ?_
  rintro e w' ⟨rfl, rfl⟩
  go_wp2_with fail
  go_ret
  exact ⟨rfl, rfl⟩
theorem rimplied_any (s : ByteArray) (w : World) : Calls Tryd.prog 14 #[.string s] w fun e w' => e = .returned (.bool (has 2 s)) ∧ w' = w := by
  go_enter Tryd.func14, Tryd.ntmps14
  go_wp2_with fail
  refine (among_lit s _ w 2 (by decide) rfl).mono ?_
  rintro e w' ⟨rfl, rfl⟩
  go_wp2_with fail
  go_ret
  exact ⟨rfl, rfl⟩
theorem heading_any (s : ByteArray) {w : World} (T : Tb w) : Calls Tryd.prog 15 #[.string s] w fun e w' => e = .returned (.bool (has 3 s)) ∧ w' = w := by
  have k1 := in_lit 3 3 rfl (by decide) s T
  go_enter Tryd.func15, Tryd.ntmps15
  go_wp2_with fail
  refine k1.mono ?_
  rintro e w' ⟨rfl, rfl⟩
  go_wp2_with fail
  go_ret
  exact ⟨rfl, rfl⟩
theorem rheading_any (s : ByteArray) (w : World) : Calls Tryd.prog 16 #[.string s] w fun e w' => e = .returned (.bool (has 3 s)) ∧ w' = w := by
  go_enter Tryd.func16, Tryd.ntmps16
  go_wp2_with fail
  refine (among_lit s _ w 3 (by decide) rfl).mono ?_
  rintro e w' ⟨rfl, rfl⟩
  go_wp2_with fail
  go_ret
  exact ⟨rfl, rfl⟩
theorem block_any (s : ByteArray) {w : World} (T : Tb w) : Calls Tryd.prog 17 #[.string s] w fun e w' => e = .returned (.bool (has 4 s)) ∧ w' = w := by
  have k1 := in_lit 4 4 rfl (by decide) s T
  go_enter Tryd.func17, Tryd.ntmps17
  go_wp2_with fail
  refine k1.mono ?_
  rintro e w' ⟨rfl, rfl⟩
  go_wp2_with fail
  go_ret
  exact ⟨rfl, rfl⟩
theorem rblock_any (s : ByteArray) (w : World) : Calls Tryd.prog 18 #[.string s] w fun e w' => e = .returned (.bool (has 4 s)) ∧ w' = w := by
  go_enter Tryd.func18, Tryd.ntmps18
  go_wp2_with fail
  refine (among_lit s _ w 4 (by decide) rfl).mono ?_
  rintro e w' ⟨rfl, rfl⟩
  go_wp2_with fail
  go_ret
  exact ⟨rfl, rfl⟩

set_option maxHeartbeats 1000000 in
theorem blank_any (r : Int) (w : World) : Calls Tryd.prog 25 #[.int .i64 r] w fun e w' => e = .returned (.bool (blk r)) ∧ w' = w := by
  go_enter Tryd.func25, Tryd.ntmps25
  go_wp2
  all_goals
    go_ret
    refine ⟨ret_bool ?_, rfl⟩
    unfold blk
    first | (symm; apply decide_eq_true; omega) | (rw [Bool.eq_iff_iff]; simp; omega)
set_option maxHeartbeats 1000000 in
theorem rblank_any (r : Int) (w : World) : Calls Tryd.prog 26 #[.int .i64 r] w fun e w' => e = .returned (.bool (blk r)) ∧ w' = w := by
  go_enter Tryd.func26, Tryd.ntmps26
  go_wp2
  all_goals
    go_ret
    refine ⟨ret_bool ?_, rfl⟩
    unfold blk
    first | (symm; apply decide_eq_true; omega) | (rw [Bool.eq_iff_iff]; simp; omega)

set_option maxHeartbeats 1000000 in
theorem text_any (s : ByteArray) {w : World} (T : Tb w) : Calls Tryd.prog 19 #[.string s] w fun e w' => e = .returned (.int .i64 (textK s)) ∧ w' = w := by
  have k8 := in_lit 8 8 rfl (by decide) s T
  have k9 := in_lit 9 9 rfl (by decide) s T
  have k10 := in_lit 10 10 rfl (by decide) s T
  have HT : Hid (textK s = _) := rfl
  unfold textK at *
  generalize has 8 s = a at *
  generalize has 9 s = b at *
  generalize has 10 s = c at *
  clear HT
  go_enter Tryd.func19, Tryd.ntmps19
  go_wp2_with fail
  refine k8.mono ?_
  rintro e w' ⟨rfl, rfl⟩
  cases a
  · go_wp2_with fail
    refine k9.mono ?_
    rintro e w' ⟨rfl, rfl⟩
    cases b
    · go_wp2_with fail
      refine k10.mono ?_
      rintro e w' ⟨rfl, rfl⟩
      cases c
      · go_wp2_with fail
        go_ret
        exact ⟨rfl, rfl⟩
      · go_wp2_with fail
        go_ret
        exact ⟨rfl, rfl⟩
    · go_wp2_with fail
      go_ret
      exact ⟨rfl, rfl⟩
  · go_wp2_with fail
    go_ret
    exact ⟨rfl, rfl⟩
set_option maxHeartbeats 1000000 in
theorem rtext_any (s : ByteArray) (w : World) : Calls Tryd.prog 20 #[.string s] w fun e w' => e = .returned (.int .i64 (textK s)) ∧ w' = w := by
  have k8 := fun t h => among_lit s t w 8 (by decide) h
  have k9 := fun t h => among_lit s t w 9 (by decide) h
  have hp := has_plain s
  unfold textK
  generalize has 8 s = a at *
  generalize has 9 s = b at *
  generalize has 10 s = c at *
  go_enter Tryd.func20, Tryd.ntmps20
  go_wp2_with fail
  refine (k8 _ rfl).mono ?_
  rintro e w' ⟨rfl, rfl⟩
  cases a
  · go_wp2_with fail
    refine (k9 _ rfl).mono ?_
    rintro e w' ⟨rfl, rfl⟩
    cases b
    · have hc : (s.toList == [112, 108, 97, 105, 110, 116, 101, 120, 116]) = c := by rw [hp, ByteArray.toList_eq]
      clear hp
      cases c
      · go_wp2_with fail
        go_ret
        exact ⟨rfl, rfl⟩
      · go_wp2_with fail
        go_ret
        exact ⟨rfl, rfl⟩
    · go_wp2_with fail
      go_ret
      exact ⟨rfl, rfl⟩
  · go_wp2_with fail
    go_ret
    exact ⟨rfl, rfl⟩
set_option maxHeartbeats 1000000 in
theorem special_any (k : Int) (s : ByteArray) {w : World} (T : Tb w) : Calls Tryd.prog 21 #[.int .i64 k, .string s] w fun e w' => e = .returned (.bool (spc k s)) ∧ w' = w := by
  have k0 := in_lit 0 0 rfl (by decide) s T
  have k3 := in_lit 3 3 rfl (by decide) s T
  have k4 := in_lit 4 4 rfl (by decide) s T
  have k5 := in_lit 5 5 rfl (by decide) s T
  have k6 := in_lit 6 6 rfl (by decide) s T
  have k7 := in_lit 7 7 rfl (by decide) s T
  unfold spc
  generalize has 0 s = a at *
  generalize has 3 s = b at *
  generalize has 4 s = c at *
  generalize has 5 s = d at *
  generalize has 6 s = m at *
  generalize has 7 s = n at *
  by_cases h0 : k = 0
  · subst h0
    go_enter Tryd.func21, Tryd.ntmps21
    go_wp2_with fail
    refine (k5).mono ?_
    rintro e w' ⟨rfl, rfl⟩
    cases d
    · go_wp2_with fail
      refine (k0).mono ?_
      rintro e w' ⟨rfl, rfl⟩
      cases a
      · go_wp2_with fail
        refine (k4).mono ?_
        rintro e w' ⟨rfl, rfl⟩
        cases c
        · go_wp2_with fail
          refine (k3).mono ?_
          rintro e w' ⟨rfl, rfl⟩
          go_wp2_with fail
          go_ret
          exact ⟨rfl, rfl⟩
        · go_wp2_with fail
          go_ret
          exact ⟨rfl, rfl⟩
      · go_wp2_with fail
        go_ret
        exact ⟨rfl, rfl⟩
    · go_wp2_with fail
      go_ret
      exact ⟨rfl, rfl⟩
  have h0' := beq_false_of_ne h0
  rw [if_neg h0]
  by_cases h1 : k = 1
  · subst h1
    go_enter Tryd.func21, Tryd.ntmps21
    go_wp2_with fail
    refine (k6).mono ?_
    rintro e w' ⟨rfl, rfl⟩
    go_wp2_with fail
    go_ret
    exact ⟨rfl, rfl⟩
  have h1' := beq_false_of_ne h1
  rw [if_neg h1]
  by_cases h2 : k = 2
  · subst h2
    go_enter Tryd.func21, Tryd.ntmps21
    go_wp2_with fail
    refine (k7).mono ?_
    rintro e w' ⟨rfl, rfl⟩
    go_wp2_with fail
    go_ret
    exact ⟨rfl, rfl⟩
  have h2' := beq_false_of_ne h2
  rw [if_neg h2]
  go_enter Tryd.func21, Tryd.ntmps21
  go_wp2_with fail
  go_ret
  exact ⟨rfl, rfl⟩
def spc' (k : Int) (s : ByteArray) : Bool := if k = 0 then has 0 s || has 4 s || has 3 s || has 5 s else if k = 1 then has 6 s else if k = 2 then has 7 s else false
theorem spc_eq (k : Int) (s : ByteArray) : spc' k s = spc k s := by
  unfold spc spc'
  generalize has 5 s = a
  generalize has 0 s = b
  generalize has 4 s = c
  generalize has 3 s = d
  congr 1
  cases a <;> cases b <;> cases c <;> cases d <;> rfl
set_option maxHeartbeats 1000000 in
theorem rspecial0_any (k : Int) (s : ByteArray) (w : World) : Calls Tryd.prog 22 #[.int .i64 k, .string s] w fun e w' => e = .returned (.bool (spc' k s)) ∧ w' = w := by
  have k0 := fun t h => among_lit s t w 0 (by decide) h
  have k3 := fun t h => among_lit s t w 3 (by decide) h
  have k4 := fun t h => among_lit s t w 4 (by decide) h
  have k5 := fun t h => among_lit s t w 5 (by decide) h
  have k6 := fun t h => among_lit s t w 6 (by decide) h
  have k7 := fun t h => among_lit s t w 7 (by decide) h
  unfold spc'
  generalize has 0 s = a at *
  generalize has 3 s = b at *
  generalize has 4 s = c at *
  generalize has 5 s = d at *
  generalize has 6 s = m at *
  generalize has 7 s = n at *
  by_cases h0 : k = 0
  · subst h0
    go_enter Tryd.func22, Tryd.ntmps22
    go_wp2_with fail
    refine (k0 _ rfl).mono ?_
    rintro e w' ⟨rfl, rfl⟩
    cases a
    · go_wp2_with fail
      refine (k4 _ rfl).mono ?_
      rintro e w' ⟨rfl, rfl⟩
      cases c
      · go_wp2_with fail
        refine (k3 _ rfl).mono ?_
        rintro e w' ⟨rfl, rfl⟩
        cases b
        · go_wp2_with fail
          refine (k5 _ rfl).mono ?_
          rintro e w' ⟨rfl, rfl⟩
          go_wp2_with fail
          go_ret
          exact ⟨rfl, rfl⟩
        · go_wp2_with fail
          go_ret
          exact ⟨rfl, rfl⟩
      · go_wp2_with fail
        go_ret
        exact ⟨rfl, rfl⟩
    · go_wp2_with fail
      go_ret
      exact ⟨rfl, rfl⟩
  have h0' := beq_false_of_ne h0
  rw [if_neg h0]
  by_cases h1 : k = 1
  · subst h1
    go_enter Tryd.func22, Tryd.ntmps22
    go_wp2_with fail
    refine (k6 _ rfl).mono ?_
    rintro e w' ⟨rfl, rfl⟩
    go_wp2_with fail
    go_ret
    exact ⟨rfl, rfl⟩
  have h1' := beq_false_of_ne h1
  rw [if_neg h1]
  by_cases h2 : k = 2
  · subst h2
    go_enter Tryd.func22, Tryd.ntmps22
    go_wp2_with fail
    refine (k7 _ rfl).mono ?_
    rintro e w' ⟨rfl, rfl⟩
    go_wp2_with fail
    go_ret
    exact ⟨rfl, rfl⟩
  have h2' := beq_false_of_ne h2
  rw [if_neg h2]
  go_enter Tryd.func22, Tryd.ntmps22
  go_wp2_with fail
  go_ret
  exact ⟨rfl, rfl⟩
theorem rspecial_any (k : Int) (s : ByteArray) (w : World) : Calls Tryd.prog 22 #[.int .i64 k, .string s] w fun e w' => e = .returned (.bool (spc k s)) ∧ w' = w := by
  have := rspecial0_any k s w
  rw [spc_eq] at this
  exact this
end Go.Proofs.YtmcjohpopfkjfaaDoor
