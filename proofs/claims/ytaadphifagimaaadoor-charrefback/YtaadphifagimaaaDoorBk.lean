/- What was escaped is read as it was. -/
import Derived.Test.YtaadphifagimaaaDoorTp
import Derived.Test.YtaadphifagimaaaDoorEp
import Derived.Test.YtaadphifagimaaaDoorAwake
namespace Go.Proofs.YtaadphifagimaaaDoor
open Go.RowKit

/-- A name that is told whole, and that no other name goes on. -/
structure Told (L : List Rf) (n : List UInt8) (r : Int) : Prop where
  is : val L n = some r
  sole : ∀ x ∈ L, n.isPrefixOf x.nm = true → x.nm = n
  pos : 0 < n.length
  semi : n[n.length - 1]? = some 59
  no35 : n[0]? ≠ some 35

theorem told_best {L : List Rf} {n : List UInt8} {r : Int} (T : Told L n r) (t : List UInt8) : best L (n ++ t) (n ++ t).length = (r, n.length) := by
  have h0 : best L (n ++ t) n.length = (r, n.length) := by
    obtain ⟨k, hk⟩ : ∃ k, n.length = k + 1 := ⟨n.length - 1, by have := T.pos; omega⟩
    rw [hk]
    unfold best
    rw [← hk, List.take_left, T.is]
  cases t with
  | nil => rw [List.append_nil] at h0 ⊢; exact h0
  | cons c t =>
    have hp : pre L ((n ++ c :: t).take (n.length + 1)) = false := by
      have e : (n ++ c :: t).take (n.length + 1) = n ++ [c] := by
        rw [List.take_append, List.take_of_length_le (show n.length ≤ n.length + 1 by omega), show n.length + 1 - n.length = 1 by omega]
        rfl
      rw [e]
      cases hq : pre L (n ++ [c]) with
      | false => rfl
      | true =>
        exfalso
        simp only [pre, List.any_eq_true, Bool.and_eq_true, List.isPrefixOf_iff_prefix] at hq
        obtain ⟨x, h1, _, u, h3⟩ := hq
        have := T.sole x h1 (List.isPrefixOf_iff_prefix.2 ⟨[c] ++ u, by rw [← h3, List.append_assoc]⟩)
        have hl := congrArg List.length h3
        rw [this] at hl
        simp at hl
    rw [best_stop hp _ (by rw [List.length_append]; omega)]
    exact h0
theorem Told.ref {L : List Rf} {n : List UInt8} {r : Int} (T : Told L n r) (attr : Bool) (t : List UInt8) : refP L attr (38 :: n ++ t) = (r, 1 + n.length, []) := by
  have hn : n ≠ [] := fun e => by have := T.pos; rw [e] at this; cases this
  obtain ⟨a, n', rfl⟩ := List.exists_cons_of_ne_nil hn
  have ha : ¬ (35 : UInt8) = a := fun e => T.no35 (by rw [← e]; rfl)
  unfold refP
  rw [if_neg (by simp [List.isPrefixOf, ha]), if_pos (by simp [List.isPrefixOf])]
  show namedP L attr (a :: n' ++ t) = _
  unfold namedP
  rw [told_best T t, if_neg (by simp), if_pos]
  have := T.semi
  show (a :: n' ++ t)[(a :: n').length - 1]? = some 59
  rw [List.getElem?_append_left (by simp)]
  exact this

/-- What is asked of api's names here. -/
structure Apy (L : List Rf) : Prop extends Apx L where
  amp : Told L [97, 109, 112, 59] 38
  nbsp : Told L [110, 98, 115, 112, 59] 160
  quot : Told L [113, 117, 111, 116, 59] 34
  lt : Told L [108, 116, 59] 60
  gt : Told L [103, 116, 59] 62
theorem apy_refs : Apy refs where
  toApx := api_refs
  amp := ⟨by decide +kernel, by decide +kernel, by decide, by decide, by decide⟩
  nbsp := ⟨by decide +kernel, by decide +kernel, by decide, by decide, by decide⟩
  quot := ⟨by decide +kernel, by decide +kernel, by decide, by decide, by decide⟩
  lt := ⟨by decide +kernel, by decide +kernel, by decide, by decide, by decide⟩
  gt := ⟨by decide +kernel, by decide +kernel, by decide, by decide, by decide⟩

theorem text_told {L : List Rf} {n : List UInt8} {r : Int} (T : Told L n r) (attr : Bool) (t : List UInt8) : textP L attr (38 :: n ++ t) = Lib.encodeRune r ++ textP L attr t := by
  have h := T.ref attr t
  have hc := text_cons L attr 38 (n ++ t)
  rw [show (38 :: (n ++ t) : List UInt8) = 38 :: n ++ t from rfl, h, if_neg (show ¬ 1 + n.length = 0 by omega)] at hc
  rw [hc]
  have : (38 :: n ++ t).drop (1 + n.length) = t := by
    rw [Nat.add_comm]
    exact List.drop_left (l₁ := 38 :: n)
  rw [this]

theorem text_escB {L : List Rf} (A : Apy L) (attr : Bool) (c : UInt8) (t : List UInt8) : textP L attr (escB attr c ++ t) = c :: textP L attr t := by
  unfold escB
  split
  · rename_i h; rw [h]; exact text_told A.amp attr t
  split
  · rename_i h; rw [h.1]; exact text_told A.quot attr t
  split
  · rename_i h; rw [h.1]; exact text_told A.lt attr t
  split
  · rename_i h; rw [h.1]; exact text_told A.gt attr t
  · rename_i h _ _ _
    have := text_plain L attr [c] t (fun d hd => by simp at hd; rw [hd]; exact h)
    exact this
theorem text_esc {L : List Rf} (A : Apy L) (attr : Bool) (l : List UInt8) : textP L attr (escP attr l) = l := by
  fun_induction escP attr l with
  | case1 => rfl
  | case2 c =>
    have := text_escB A attr c []
    rw [List.append_nil] at this
    exact this
  | case3 c d t h ih =>
    have e := text_told A.nbsp attr (escP attr t)
    rw [h.1, h.2]
    show textP L attr (38 :: [110, 98, 115, 112, 59] ++ escP attr t) = _
    rw [e, ih]
    rfl
  | case4 c d t h ih => rw [text_escB A attr c, ih]
end Go.Proofs.YtaadphifagimaaaDoor
