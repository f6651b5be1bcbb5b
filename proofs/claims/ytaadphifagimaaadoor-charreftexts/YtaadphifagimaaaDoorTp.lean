/- A text with its references read, purely. -/
import Derived.Test.YtaadphifagimaaaDoorOn
import Derived.Lib.IndexLaws
namespace Go.Proofs.YtaadphifagimaaaDoor
open Go.RowKit

def txF (L : List Rf) (attr : Bool) : Nat → List UInt8 → List UInt8
  | 0, _ => []
  | _ + 1, [] => []
  | f + 1, c :: t => if (refP L attr (c :: t)).2.1 = 0 then c :: txF L attr f t else Lib.encodeRune (refP L attr (c :: t)).1 ++ txF L attr f ((c :: t).drop (refP L attr (c :: t)).2.1)
def textP (L : List Rf) (attr : Bool) (l : List UInt8) : List UInt8 := txF L attr l.length l

theorem txF_more (L : List Rf) (attr : Bool) : ∀ (f : Nat) (l : List UInt8), l.length ≤ f → txF L attr f l = txF L attr l.length l := by
  intro f
  induction f using Nat.strongRecOn with
  | ind f ih =>
    intro l hl
    cases l with
    | nil => cases f <;> rfl
    | cons c t =>
      cases f with
      | zero => simp at hl
      | succ f =>
        simp only [List.length_cons] at hl ⊢
        simp only [txF]
        split
        · rw [ih f (by omega) t (by omega)]
        · rename_i hn
          have hd : ((c :: t).drop (refP L attr (c :: t)).2.1).length ≤ t.length := by rw [List.length_drop, List.length_cons]; omega
          rw [ih f (by omega) _ (by omega)]
          by_cases hf : t.length < f + 1
          · rw [ih t.length (by omega) _ hd]
          · omega
theorem text_nil (L : List Rf) (attr : Bool) : textP L attr [] = [] := rfl
theorem text_cons (L : List Rf) (attr : Bool) (c : UInt8) (t : List UInt8) : textP L attr (c :: t) = if (refP L attr (c :: t)).2.1 = 0 then c :: textP L attr t else Lib.encodeRune (refP L attr (c :: t)).1 ++ textP L attr ((c :: t).drop (refP L attr (c :: t)).2.1) := by
  unfold textP
  rw [List.length_cons, txF]
  split
  · rfl
  · rename_i hn
    rw [txF_more L attr t.length _ (by rw [List.length_drop, List.length_cons]; omega)]

theorem ref_other (L : List Rf) (attr : Bool) (c : UInt8) (t : List UInt8) (h : c ≠ 38) : refP L attr (c :: t) = (0, 0, []) := by
  have e0 : ¬ (38 : UInt8) = c := fun e => h e.symm
  unfold refP
  rw [if_neg (by simp [List.isPrefixOf, e0]), if_neg (by simp [List.isPrefixOf, e0])]
/-- What has no & stands as it is. -/
theorem text_plain (L : List Rf) (attr : Bool) (a : List UInt8) (t : List UInt8) (h : ∀ c ∈ a, c ≠ 38) : textP L attr (a ++ t) = a ++ textP L attr t := by
  induction a with
  | nil => rfl
  | cons c a ih =>
    rw [List.cons_append, text_cons, ref_other L attr c _ (h c (by simp)), if_pos rfl, ih (fun d hd => h d (by simp [hd]))]
    rfl
theorem text_none (L : List Rf) (attr : Bool) (a : List UInt8) (h : ∀ c ∈ a, c ≠ 38) : textP L attr a = a := by
  have := text_plain L attr a [] h
  rw [List.append_nil, text_nil, List.append_nil] at this
  exact this

theorem pre59 {l : List UInt8} (h : [59].isPrefixOf l = true) : 1 ≤ l.length := (List.isPrefixOf_iff_prefix.1 h).length_le
theorem numB_len (k base : Nat) (l : List UInt8) (hk : k ≤ l.length) : (numB k base l).2.1 ≤ l.length := by
  have h1 := digs_le base (l.drop k)
  rw [List.length_drop] at h1
  unfold numB
  split
  · simp
  split
  · rename_i h2
    have := pre59 h2
    rw [List.length_drop] at this
    show k + _ + 1 ≤ _
    omega
  · show k + _ ≤ _
    omega
theorem ref_len (L : List Rf) (attr : Bool) (l : List UInt8) : (refP L attr l).2.1 ≤ l.length := by
  unfold refP
  split
  · rename_i h
    have h2 : 2 ≤ l.length := (List.isPrefixOf_iff_prefix.1 h).length_le
    unfold numbP
    split
    · rename_i hx
      refine numB_len _ _ _ ?_
      by_cases h3 : 3 ≤ l.length
      · exact h3
      · rw [List.getElem?_eq_none (by omega)] at hx; simp at hx
    · exact numB_len _ _ _ h2
  split
  · rename_i h
    have h1 : 1 ≤ l.length := (List.isPrefixOf_iff_prefix.1 h).length_le
    have hb := best_le L (l.drop 1) (l.drop 1).length
    rw [List.length_drop] at hb
    unfold namedP
    rw [List.length_drop]
    repeat' split
    all_goals first | (simp; done) | (show 1 + _ ≤ _; omega)
  · simp
theorem enc_len (r : Int) : (Lib.encodeRune r).length ≤ 4 := by
  have := Lib.runeCells_le r
  rw [Lib.runeCells_length] at this
  exact this.2
theorem text_len (L : List Rf) (attr : Bool) (l : List UInt8) : (textP L attr l).length ≤ 4 * l.length := by
  have key : ∀ n (l : List UInt8), l.length ≤ n → (textP L attr l).length ≤ 4 * l.length := by
    intro n
    induction n with
    | zero => intro l hl; rw [List.eq_nil_of_length_eq_zero (Nat.le_zero.1 hl)]; simp [textP, txF]
    | succ n ih =>
      intro l hl
      cases l with
      | nil => simp [textP, txF]
      | cons c t =>
        rw [text_cons]
        simp only [List.length_cons] at hl ⊢
        split
        · have := ih t (by omega); simp; omega
        · rename_i hn
          have h1 := ih ((c :: t).drop (refP L attr (c :: t)).2.1) (by rw [List.length_drop, List.length_cons]; omega)
          have h2 := enc_len (refP L attr (c :: t)).1
          have h3 := ref_len L attr (c :: t)
          rw [List.length_drop, List.length_cons] at h1
          rw [List.length_cons] at h3
          rw [List.length_append]
          omega
  exact key l.length l (Nat.le_refl _)
end Go.Proofs.YtaadphifagimaaaDoor
