/- The number that a text begins with: digit, number. -/
import Derived.Test.YtkbakbacomidbaaProg
import Derived.BigQuiet
import Derived.BigRegion
import Derived.Deep.QuietTactic
import Derived.Deep.RegionLaw
import Derived.WalkArith
import Derived.WalkKit
import Derived.WalkLawsBesides
import Derived.WalkMore
import Derived.WalkSpells
import Derived.Test.YtkbakbacomidbaaZe
namespace Go.Proofs.Ytkbakbacomidbaa.G6
open Go.RowKit
/-- What a digit counts; 16, if it is none. -/
def dig (b : Nat) : Nat := if 48 ≤ b ∧ b ≤ 57 then b - 48 else if 97 ≤ b ∧ b ≤ 102 then b - 87 else if 65 ≤ b ∧ b ≤ 70 then b - 55 else 16
def accN (base : Nat) (l : List UInt8) : Nat := l.foldl (fun n b => min (n * base + dig b.toNat) 16777216) 0
def digs (base : Nat) (l : List UInt8) : List UInt8 := l.takeWhile (fun b => decide (dig b.toNat < base))
theorem dig_le (b : Nat) : dig b ≤ 16 := by unfold dig; repeat' split
                                            all_goals omega
theorem accN_le (base : Nat) (l : List UInt8) : accN base l ≤ 16777216 := by
  unfold accN
  rcases List.eq_nil_or_concat l with rfl | ⟨a, b, rfl⟩
  · simp
  · rw [List.concat_eq_append, List.foldl_append]
    exact Nat.min_le_right _ _
theorem accN_snoc (base : Nat) (l : List UInt8) (b : UInt8) : accN base (l ++ [b]) = min (accN base l * base + dig b.toNat) 16777216 := by
  unfold accN
  rw [List.foldl_append]
  rfl
theorem digs_stop {base : Nat} {l : List UInt8} {i : Nat} {b : UInt8} (h : (l.take i).all (fun b => decide (dig b.toNat < base)) = true) (hb : l[i]? = some b) (hd : ¬ dig b.toNat < base) : digs base l = l.take i := by
  induction i generalizing l with
  | zero =>
    cases l with
    | nil => simp at hb
    | cons x l => simp at hb; subst hb; simp [digs, hd]
  | succ i ih =>
    cases l with
    | nil => simp at hb
    | cons x l =>
      simp only [List.take_succ_cons, List.all_cons, Bool.and_eq_true, decide_eq_true_eq] at h
      have := ih h.2 (by simpa using hb)
      unfold digs at this ⊢
      rw [List.takeWhile_cons, if_pos (by simp [h.1]), this, List.take_succ_cons]
theorem digs_all {base : Nat} {l : List UInt8} (h : l.all (fun b => decide (dig b.toNat < base)) = true) : digs base l = l := by
  induction l with
  | nil => rfl
  | cons x l ih =>
    simp only [List.all_cons, Bool.and_eq_true, decide_eq_true_eq] at h
    have := ih h.2
    unfold digs at this ⊢
    rw [List.takeWhile_cons, if_pos (by simp [h.1]), this]
theorem at_i (s : ByteArray) (i : Nat) (h : i < s.size) : s.data.toList[i]? = some s[i] := by
  have h2 : i < s.data.toList.length := by rw [Array.length_toList]; exact h
  rw [List.getElem?_eq_getElem h2]
  rfl
end Go.Proofs.Ytkbakbacomidbaa.G6
