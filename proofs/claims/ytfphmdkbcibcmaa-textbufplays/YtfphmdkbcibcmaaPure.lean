/- What a row of pieces is, as plain lists: where it is cut, what it holds, and that cutting keeps its text. -/
import Derived.WalkKit
namespace Go.Proofs.Ytfphmdkbcibcmaa
open Go.RowKit

/-- One piece: the block, the place in it, the capacity, the bytes. -/
structure Pc where
  g : Nat
  off : Nat
  cap : Nat
  bs : List UInt8

def Pc.val (p : Pc) : Value := .slice (some ⟨p.g, p.off, none⟩) p.bs.length p.cap
def Pc.head (p : Pc) (k : Nat) : Pc := ⟨p.g, p.off, k, p.bs.take k⟩
def Pc.tail (p : Pc) (k : Nat) : Pc := ⟨p.g, p.off + k, p.bs.length - k, p.bs.drop k⟩
def Pc.apart (p q : Pc) : Prop := p.g ≠ q.g ∨ p.off + p.cap ≤ q.off ∨ q.off + q.cap ≤ p.off

theorem Pc.apart.symm {p q : Pc} (h : p.apart q) : q.apart p := by
  rcases h with h | h | h
  · exact .inl (Ne.symm h)
  · exact .inr (.inr h)
  · exact .inr (.inl h)

/-- What the pieces hold together. -/
def text (ps : List Pc) : List UInt8 := ps.flatMap Pc.bs

theorem text_nil : text [] = [] := rfl
theorem text_cons (p : Pc) (r : List Pc) : text (p :: r) = p.bs ++ text r := by simp [text]
theorem text_append (a b : List Pc) : text (a ++ b) = text a ++ text b := by simp [text]

/-- The pieces ahead of a place and those behind it. -/
def cutL : List Pc → Nat → List Pc × List Pc
  | [], _ => ([], [])
  | p :: r, k => if k = 0 then ([], p :: r) else if k < p.bs.length then ([p.head k], p.tail k :: r) else (p :: (cutL r (k - p.bs.length)).1, (cutL r (k - p.bs.length)).2)

theorem cutL_text : ∀ (ps : List Pc) (k : Nat), k ≤ (text ps).length → text (cutL ps k).1 = (text ps).take k ∧ text (cutL ps k).2 = (text ps).drop k
  | [], k, _ => by simp [cutL, text]
  | p :: r, k, h => by
    rw [text_cons, List.length_append] at h
    by_cases h0 : k = 0
    · subst h0; simp [cutL, text]
    · by_cases hl : k < p.bs.length
      · simp only [cutL, h0, hl, if_true, if_false, text_cons, text_nil, Pc.head, Pc.tail]
        rw [List.take_append_of_le_length (by omega), List.drop_append_of_le_length (by omega)]
        simp
      · have ih := cutL_text r (k - p.bs.length) (by omega)
        simp only [cutL, h0, hl, if_false, text_cons, ih.1, ih.2]
        rw [List.take_append, List.drop_append, List.take_of_length_le (by omega : p.bs.length ≤ k), List.drop_of_length_le (by omega : p.bs.length ≤ k)]
        simp

/-- Pieces that are none are nowhere. -/
def Full (ps : List Pc) : Prop := ∀ p ∈ ps, 0 < p.bs.length

theorem Full.cons {p : Pc} {r : List Pc} (h : Full (p :: r)) : 0 < p.bs.length ∧ Full r := ⟨h p (by simp), fun q hq => h q (by simp [hq])⟩

/-- A later cut leaves what is ahead as it is. -/
theorem cutL_ahead : ∀ (a b : List Pc) (k : Nat), Full a → cutL (a ++ b) ((text a).length + k) = (a ++ (cutL b k).1, (cutL b k).2)
  | [], b, k, _ => by simp [text]
  | p :: r, b, k, h => by
    obtain ⟨hp, hr⟩ := h.cons
    have ih := cutL_ahead r b k hr
    rw [text_cons, List.length_append, List.cons_append]
    have h0 : ¬ (p.bs.length + (text r).length + k = 0) := by omega
    have hl : ¬ (p.bs.length + (text r).length + k < p.bs.length) := by omega
    have hs : p.bs.length + (text r).length + k - p.bs.length = (text r).length + k := by omega
    simp only [cutL, h0, hl, if_false, hs, ih, List.cons_append]

theorem cutL_full : ∀ (ps : List Pc) (k : Nat), Full ps → Full (cutL ps k).1 ∧ Full (cutL ps k).2
  | [], _, _ => by simp [cutL, Full]
  | p :: r, k, h => by
    obtain ⟨hp, hr⟩ := h.cons
    by_cases h0 : k = 0
    · subst h0; simp only [cutL, if_true]; exact ⟨by simp [Full], h⟩
    · by_cases hl : k < p.bs.length
      · simp only [cutL, h0, hl, if_true, if_false]
        refine ⟨?_, ?_⟩
        · intro q hq; simp at hq; subst hq; simp [Pc.head]; omega
        · intro q hq; simp at hq; rcases hq with rfl | hq
          · simp [Pc.tail]; omega
          · exact hr q hq
      · have ih := cutL_full r (k - p.bs.length) hr
        simp only [cutL, h0, hl, if_false]
        refine ⟨?_, ih.2⟩
        intro q hq; simp at hq; rcases hq with rfl | hq
        · exact hp
        · exact ih.1 q hq

theorem full_le : ∀ (ps : List Pc), Full ps → ps.length ≤ (text ps).length
  | [], _ => by simp
  | p :: r, h => by
    obtain ⟨hp, hr⟩ := h.cons
    have := full_le r hr
    rw [text_cons, List.length_append, List.length_cons]; omega

/-- How a cut goes on from piece k: nothing was met, so the first k pieces stand ahead. -/
theorem cutL_step (ps : List Pc) (k j : Nat) (p : Pc) (hp : ps[k]? = some p) (h0 : j ≠ 0) (hl : p.bs.length ≤ j) :
    (ps.take k ++ (cutL (ps.drop k) j).1, (cutL (ps.drop k) j).2) = (ps.take (k + 1) ++ (cutL (ps.drop (k + 1)) (j - p.bs.length)).1, (cutL (ps.drop (k + 1)) (j - p.bs.length)).2) := by
  have hk : k < ps.length := (List.getElem?_eq_some_iff.1 hp).1
  have hd : ps.drop k = p :: ps.drop (k + 1) := by
    rw [List.drop_eq_getElem_cons hk]; congr 1; exact (List.getElem?_eq_some_iff.1 hp).2
  have ht : ps.take (k + 1) = ps.take k ++ [p] := by
    rw [List.take_succ_eq_append_getElem hk]; congr 2; exact (List.getElem?_eq_some_iff.1 hp).2
  have hl' : ¬ (j < p.bs.length) := by omega
  rw [hd, ht]
  simp only [cutL, h0, hl', if_false, List.append_assoc, List.singleton_append]

end Go.Proofs.Ytfphmdkbcibcmaa
