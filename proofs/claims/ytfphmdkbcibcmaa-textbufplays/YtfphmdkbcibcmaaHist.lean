/- A buffer with the texts that were: what Splice and Undo make of it. -/
import Derived.Test.YtfphmdkbcibcmaaUndo
namespace Go.Proofs.Ytfphmdkbcibcmaa
open Go.RowKit

/-- A text with an edit done to it. -/
def splT (t : List UInt8) (x y : Nat) (s : ByteArray) : List UInt8 := t.take x ++ s.data.toList ++ t.drop (x + y)

theorem splT_len (t : List UInt8) (x y : Nat) (s : ByteArray) (h : x + y ≤ t.length) : (splT t x y s).length = t.length - y + s.size := by
  have hsl : s.data.toList.length = s.size := Array.length_toList
  unfold splT
  rw [List.length_append, List.length_append, List.length_take, List.length_drop, hsl]; omega

theorem gone_len (t : List UInt8) (x y : Nat) (h : x + y ≤ t.length) : (gone t x y).size = y := by
  show ((t.take (x + y)).drop x).toArray.size = y
  simp; omega

/-- The edit that takes back does so. -/
theorem splT_back (t : List UInt8) (x y : Nat) (s : ByteArray) (h : x + y ≤ t.length) : splT (splT t x y s) x s.size (gone t x y) = t := by
  have hsl : s.data.toList.length = s.size := Array.length_toList
  have h1 : (splT t x y s).take x = t.take x := by
    unfold splT
    rw [List.append_assoc, List.take_append_of_le_length (by simp; omega), List.take_of_length_le (by simp; omega)]
  have h2 : (splT t x y s).drop (x + s.size) = t.drop (x + y) := by
    unfold splT
    have : (t.take x ++ s.data.toList).length = x + s.size := by rw [List.length_append, List.length_take, hsl]; omega
    rw [List.drop_append_of_le_length (by omega), List.drop_of_length_le (by omega), List.nil_append]
  have h3 : (gone t x y).data.toList = (t.take (x + y)).drop x := by simp [gone]
  have h4 : splT (splT t x y s) x s.size (gone t x y) = (splT t x y s).take x ++ (gone t x y).data.toList ++ (splT t x y s).drop (x + s.size) := rfl
  rw [h4, h1, h2, h3]
  have h5 : t.take x ++ (t.take (x + y)).drop x = t.take (x + y) := by
    have : (t.take (x + y)).take x = t.take x := by rw [List.take_take]; congr 1; omega
    rw [← this, List.take_append_drop]
  rw [h5, List.take_append_drop]

/-- The edits that take back lead to the texts that were, the newest first. -/
def HistR : List UInt8 → List Ed → List (List UInt8) → Prop
  | _, [], [] => True
  | t, e :: r, o :: q => (∃ x y : Nat, e.a = (x : Int) ∧ e.d = (y : Int) ∧ x + y ≤ t.length ∧ splT t x y e.s = o) ∧ o.length ≤ 65536 ∧ e.s.size ≤ 65536 ∧ HistR o r q
  | _, _, _ => False

theorem HistR.len : ∀ {t : List UInt8} {r : List Ed} {q : List (List UInt8)}, HistR t r q → r.length = q.length
  | _, [], [], _ => rfl
  | _, e :: r, o :: q, h => by rw [List.length_cons, List.length_cons, HistR.len h.2.2.2]
  | _, [], _ :: _, h => h.elim
  | _, _ :: _, [], h => h.elim

/-- A buffer with text t, and the texts that were. -/
structure BufH (B b : Nat) (most : Int) (t : List UInt8) (olds : List (List UInt8)) (w : World) : Prop where
  is : ∃ r : List Ed, BufT B b most t r.reverse w ∧ HistR t r olds
  le : (t.length : Int) ≤ most
  max : most ≤ 65536
  base : B ≤ w.heap.size
  oldLe : ∀ o ∈ olds, (o.length : Int) ≤ most

theorem BufH.below {B b : Nat} {most : Int} {t : List UInt8} {olds : List (List UInt8)} {w w' : World} (h : BufH B b most t olds w) (k : Below w.heap.size w w') : BufH B b most t olds w' := by
  obtain ⟨r, h1, h2⟩ := h.is
  exact ⟨⟨r, h1.below k, h2⟩, h.le, h.max, Nat.le_trans h.base k.size, h.oldLe⟩

theorem BufH.kept {T : List Nat} {B C b : Nat} {most : Int} {t : List UInt8} {olds : List (List UInt8)} {w w' : World} (h : BufH B b most t olds w) (k : Kept T C w w') (h5 : 5 ∉ T) (h31 : 31 ∉ T) (h54 : 54 ∉ T) (h59 : 59 ∉ T) : BufH B b most t olds w' := by
  obtain ⟨r, h1, h2⟩ := h.is
  exact ⟨⟨r, h1.kept k h5 h31 h54 h59, h2⟩, h.le, h.max, Nat.le_trans h.base k.size, h.oldLe⟩

theorem newH (s : ByteArray) (most : Int) (w : World) (h0 : (s.size : Int) ≤ most) (h1 : most ≤ 65536) :
    Calls Try.prog 8 #[.string s, .int .i64 most] w fun e w' => e = .returned (.tuple #[.pointer (some ⟨w.heap.size, 0, none⟩), .int .i64 0]) ∧ BufH w.heap.size w.heap.size most s.data.toList [] w' ∧ Below w.heap.size w w' := by
  refine (new_ok s most w h0 h1).mono ?_
  rintro e w' ⟨he, hb, hk⟩
  have hsl : s.data.toList.length = s.size := Array.length_toList
  exact ⟨he, ⟨⟨[], hb, trivial⟩, by rw [hsl]; exact h0, h1, hk.size, by simp⟩, hk⟩

theorem textH {B b : Nat} {most : Int} {t : List UInt8} {olds : List (List UInt8)} {w : World} (h : BufH B b most t olds w) :
    Calls Try.prog 14 #[.pointer (some ⟨b, 0, none⟩)] w fun e w' => e = .returned (.string ⟨t.toArray⟩) ∧ Below w.heap.size w w' := by
  obtain ⟨r, h1, h2⟩ := h.is
  have := h.le; have := h.max
  exact text_any B b most t _ w h1 (by omega)

theorem lenH {B b : Nat} {most : Int} {t : List UInt8} {olds : List (List UInt8)} {w : World} (h : BufH B b most t olds w) :
    Calls Try.prog 15 #[.pointer (some ⟨b, 0, none⟩)] w fun e w' => e = .returned (.int .i64 (t.length : Nat)) ∧ w' = w := by
  obtain ⟨r, h1, h2⟩ := h.is
  exact len_any B b most t _ w h1

theorem versionH {B b : Nat} {most : Int} {t : List UInt8} {olds : List (List UInt8)} {w : World} (h : BufH B b most t olds w) :
    Calls Try.prog 16 #[.pointer (some ⟨b, 0, none⟩)] w fun e w' => e = .returned (.int .i64 (olds.length : Nat)) ∧ w' = w := by
  obtain ⟨r, h1, h2⟩ := h.is
  have := version_any B b most t _ w h1
  rw [List.length_reverse, h2.len] at this
  exact this

/-- May the edit be done? -/
def InB (n : Nat) (x y : Int) : Prop := 0 ≤ x ∧ x ≤ (n : Int) ∧ 0 ≤ y ∧ y ≤ (n : Int) - x

theorem spliceH_range {B b : Nat} {most : Int} {t : List UInt8} {olds : List (List UInt8)} {w : World} (h : BufH B b most t olds w) (x y : Int) (s : ByteArray) (hno : ¬ InB t.length x y) :
    Calls Try.prog 12 #[.pointer (some ⟨b, 0, none⟩), .agg #[.int .i64 x, .int .i64 y, .string s]] w fun e w' => e = .returned (.int .i64 1) ∧ Below w.heap.size w w' := by
  obtain ⟨r, ⟨ps, h1, rfl⟩, h2⟩ := h.is
  obtain ⟨pv, bv, k0, k1, k2, k3, hbw, hbk, hp, he⟩ := h1.cells
  have := h.le; have := h.max
  by_cases c1 : x < 0
  · exact splice_range1 b x y s _ w hbw k1 c1
  by_cases c2 : ((text ps).length : Int) < x
  · exact splice_range2 b x y s _ w hbw k1 (by omega) c2
  by_cases c3 : y < 0
  · exact splice_range3 b x y s _ w hbw k1 (by omega) (by omega) c3
  exact splice_range4 b x y s _ w hbw k1 (by omega) (by omega) (by omega) (by omega) (by unfold InB at hno; omega)

theorem spliceH_size {B b : Nat} {most : Int} {t : List UInt8} {olds : List (List UInt8)} {w : World} (h : BufH B b most t olds w) (x y : Int) (s : ByteArray) (hin : InB t.length x y) (hs : most - ((t.length : Int) - y) < (s.size : Int)) :
    Calls Try.prog 12 #[.pointer (some ⟨b, 0, none⟩), .agg #[.int .i64 x, .int .i64 y, .string s]] w fun e w' => e = .returned (.int .i64 2) ∧ Below w.heap.size w w' := by
  obtain ⟨r, ⟨ps, h1, rfl⟩, h2⟩ := h.is
  obtain ⟨pv, bv, k0, k1, k2, k3, hbw, hbk, hp, he⟩ := h1.cells
  have := h.le; have := h.max
  unfold InB at hin
  exact splice_size1 b x y most s _ w hbw k0 k1 (by omega) (by omega) h.max hin.1 hin.2.1 hin.2.2.1 hin.2.2.2 hs

theorem spliceH_ok {B b : Nat} {most : Int} {t : List UInt8} {olds : List (List UInt8)} {w : World} (h : BufH B b most t olds w) (x y : Int) (s : ByteArray) (hin : InB t.length x y) (hs : (s.size : Int) ≤ most - ((t.length : Int) - y)) (ho : olds.length ≤ 900) :
    Calls Try.prog 12 #[.pointer (some ⟨b, 0, none⟩), .agg #[.int .i64 x, .int .i64 y, .string s]] w fun e w' => e = .returned (.int .i64 0) ∧ BufH B b most (splT t x.toNat y.toNat s) (t :: olds) w' ∧ Kept [59, 54, 5, 31] B w w' := by
  obtain ⟨r, ⟨ps, h1, rfl⟩, h2⟩ := h.is
  have hle := h.le; have hmx := h.max
  unfold InB at hin
  have hxy : x.toNat + y.toNat ≤ (text ps).length := by omega
  have hl := splT_len (text ps) x.toNat y.toNat s hxy
  refine (splice_ok1 B b x.toNat y.toNat x y (by omega) (by omega) most s ps r.reverse w h1 (by omega) hmx h.base (by rw [List.length_reverse, h2.len]; omega) hxy hs).mono ?_
  rintro e w' ⟨he, ⟨ps', t', b'⟩, hk⟩
  refine ⟨he, ⟨⟨⟨x, s.size, gone (text ps) x.toNat y.toNat⟩ :: r, ⟨ps', ?_, t'⟩, ⟨x.toNat, s.size, by simp only; omega, rfl, by omega, splT_back _ _ _ _ hxy⟩, by omega, by rw [gone_len _ _ _ hxy]; omega, h2⟩, by omega, hmx, Nat.le_trans h.base hk.size, fun o hm => by
    rcases List.mem_cons.1 hm with rfl | hm
    · exact hle
    · exact h.oldLe o hm⟩, hk⟩
  have e2 : (((text ps).length : Nat) : Int) + ((s.size : Int) - y) = ((splT (text ps) x.toNat y.toNat s).length : Nat) := by omega
  rw [e2, ← List.reverse_cons] at b'
  exact b'

theorem undoH_no {B b : Nat} {most : Int} {t : List UInt8} {w : World} (h : BufH B b most t [] w) :
    Calls Try.prog 10 #[.pointer (some ⟨b, 0, none⟩)] w fun r w' => r = .returned (.bool false) ∧ w' = w := by
  obtain ⟨r, ⟨ps, h1, rfl⟩, h2⟩ := h.is
  obtain rfl : r = [] := List.eq_nil_of_length_eq_zero (by rw [h2.len]; rfl)
  obtain ⟨pv, bv, k0, k1, k2, k3, hbw, hbk, hp, he⟩ := h1.cells
  obtain ⟨ao, c, hbv⟩ := own3_form he
  subst hbv
  exact undo_no1 b ao c w k3

theorem undoH_ok {B b : Nat} {most : Int} {t o : List UInt8} {olds : List (List UInt8)} {w : World} (h : BufH B b most t (o :: olds) w) (ho : olds.length ≤ 900) :
    Calls Try.prog 10 #[.pointer (some ⟨b, 0, none⟩)] w fun r w' => r = .returned (.bool true) ∧ BufH B b most o olds w' ∧ Kept [59, 54, 5, 31] B w w' := by
  obtain ⟨r, ⟨ps, h1, rfl⟩, h2⟩ := h.is
  have hle := h.le; have hmx := h.max
  have hom : (o.length : Int) ≤ most := h.oldLe o (by simp)
  cases r with
  | nil => exact h2.elim
  | cons e r =>
    obtain ⟨⟨x, y, hx, hy, hxy, hsp⟩, hol, hes, h3⟩ := h2
    have hl := splT_len (text ps) x y e.s hxy
    rw [hsp] at hl
    rw [List.reverse_cons] at h1
    refine (undo_ok1 B b x y most _ ps r.reverse e w h1 hx hy (by omega) h.base (by rw [List.length_reverse, h3.len]; omega) hxy (by omega) (by omega)).mono ?_
    rintro e1 w' ⟨he, ⟨ps', t', b'⟩, hk⟩
    refine ⟨he, ⟨⟨r, ⟨ps', ?_, by rw [t']; exact hsp⟩, h3⟩, hom, hmx, Nat.le_trans h.base hk.size, fun p hp => h.oldLe p (by simp [hp])⟩, hk⟩
    have e2 : (((text ps).length : Nat) : Int) + ((e.s.size : Int) - e.d) = (o.length : Nat) := by omega
    rw [e2] at b'
    exact b'
end Go.Proofs.Ytfphmdkbcibcmaa
