/- What an edit or an undo comes to, said once for both buffers. -/
import Derived.Test.YtfphmdkbcibcmaaRefp
namespace Go.Proofs.Ytfphmdkbcibcmaa
open Go.RowKit

/-- What Splice comes to: the answer, the text, the texts that were. -/
def SplOut (most : Int) (t : List UInt8) (olds : List (List UInt8)) (x y : Int) (s : ByteArray) (n : Int) (t' : List UInt8) (olds' : List (List UInt8)) : Prop :=
  (n = 0 ∧ InB t.length x y ∧ (s.size : Int) ≤ most - ((t.length : Int) - y) ∧ t' = splT t x.toNat y.toNat s ∧ olds' = t :: olds) ∨
  (n = 2 ∧ InB t.length x y ∧ most - ((t.length : Int) - y) < (s.size : Int) ∧ t' = t ∧ olds' = olds) ∨
  (n = 1 ∧ ¬ InB t.length x y ∧ t' = t ∧ olds' = olds)

theorem splOut (most : Int) (t : List UInt8) (olds : List (List UInt8)) (x y : Int) (s : ByteArray) : ∃ n t' olds', SplOut most t olds x y s n t' olds' := by
  by_cases hin : InB t.length x y
  · by_cases hs : most - ((t.length : Int) - y) < (s.size : Int)
    · exact ⟨2, t, olds, .inr (.inl ⟨rfl, hin, hs, rfl, rfl⟩)⟩
    · exact ⟨0, _, _, .inl ⟨rfl, hin, by omega, rfl, rfl⟩⟩
  · exact ⟨1, t, olds, .inr (.inr ⟨rfl, hin, rfl, rfl⟩)⟩

theorem SplOut.len {most : Int} {t : List UInt8} {olds : List (List UInt8)} {x y : Int} {s : ByteArray} {n : Int} {t' : List UInt8} {olds' : List (List UInt8)} (h : SplOut most t olds x y s n t' olds') : olds'.length ≤ olds.length + 1 := by
  rcases h with ⟨_, _, _, _, rfl⟩ | ⟨_, _, _, _, rfl⟩ | ⟨_, _, _, rfl⟩ <;> simp

/-- What Undo comes to. -/
def UndOut (t : List UInt8) (olds : List (List UInt8)) (r : Bool) (t' : List UInt8) (olds' : List (List UInt8)) : Prop :=
  (r = false ∧ olds = [] ∧ t' = t ∧ olds' = []) ∨ (r = true ∧ olds = t' :: olds')

theorem undOut (t : List UInt8) (olds : List (List UInt8)) : ∃ r t' olds', UndOut t olds r t' olds' := by
  cases olds with
  | nil => exact ⟨false, t, [], .inl ⟨rfl, rfl, rfl, rfl⟩⟩
  | cons o q => exact ⟨true, o, q, .inr ⟨rfl, rfl⟩⟩

theorem UndOut.len {t : List UInt8} {olds : List (List UInt8)} {r : Bool} {t' : List UInt8} {olds' : List (List UInt8)} (h : UndOut t olds r t' olds') : olds'.length ≤ olds.length := by
  rcases h with ⟨_, rfl, _, rfl⟩ | ⟨_, rfl⟩ <;> simp

/-- Four cells of old memory that stay. -/
theorem old4 {B : Nat} {w w' : World} (h : Below B w w') {p0 p1 p2 p3 : Addr} {v0 v1 v2 v3 : Value} (b : p0.block < B ∧ p1.block < B ∧ p2.block < B ∧ p3.block < B) (c : w.cell? p0 = some v0 ∧ w.cell? p1 = some v1 ∧ w.cell? p2 = some v2 ∧ w.cell? p3 = some v3) :
    w'.cell? p0 = some v0 ∧ w'.cell? p1 = some v1 ∧ w'.cell? p2 = some v2 ∧ w'.cell? p3 = some v3 :=
  ⟨(h.cell b.1).trans c.1, (h.cell b.2.1).trans c.2.1, (h.cell b.2.2.1).trans c.2.2.1, (h.cell b.2.2.2).trans c.2.2.2⟩

/-- Both buffers, and the deeds' cells, in one world. -/
structure Both (B b x : Nat) (most : Int) (tb : List UInt8) (ob : List (List UInt8)) (tx : List UInt8) (ox : List (List UInt8)) (w0 w : World) : Prop where
  buf : BufH B b most tb ob w
  plain : PlainIs B x most tx ox w
  old : Below B w0 w
  size : B ≤ w.heap.size
  pos : 0 ≤ most

theorem Both.below {B b x : Nat} {most : Int} {tb : List UInt8} {ob : List (List UInt8)} {tx : List UInt8} {ox : List (List UInt8)} {w0 w w' : World} (h : Both B b x most tb ob tx ox w0 w) (k : Below w.heap.size w w') : Both B b x most tb ob tx ox w0 w' :=
  ⟨h.buf.below k, h.plain.below k, h.old.trans (k.mono h.size), Nat.le_trans h.size k.size, h.pos⟩
theorem Both.bufTurn {B b x : Nat} {most : Int} {tb tb' : List UInt8} {ob ob' : List (List UInt8)} {tx : List UInt8} {ox : List (List UInt8)} {w0 w w' : World} (h : Both B b x most tb ob tx ox w0 w) (k : Kept [59, 54, 5, 31] B w w') (hb : BufH B b most tb' ob' w') : Both B b x most tb' ob' tx ox w0 w' :=
  ⟨hb, h.plain.kept k (by simp) (by simp), h.old.trans (k.below h.size), Nat.le_trans h.size k.size, h.pos⟩
theorem Both.plainTurn {B b x : Nat} {most : Int} {tb : List UInt8} {ob : List (List UInt8)} {tx tx' : List UInt8} {ox ox' : List (List UInt8)} {w0 w w' : World} (h : Both B b x most tb ob tx ox w0 w) (k : Kept [40] B w w') (hp : PlainIs B x most tx' ox' w') : Both B b x most tb ob tx' ox' w0 w' :=
  ⟨h.buf.kept k (by simp) (by simp) (by simp) (by simp), hp, h.old.trans (k.below h.size), Nat.le_trans h.size k.size, h.pos⟩

theorem bspl {B b x : Nat} {most : Int} {tb : List UInt8} {ob : List (List UInt8)} {tx : List UInt8} {ox : List (List UInt8)} {w0 w : World} (h : Both B b x most tb ob tx ox w0 w) {xa y : Int} {s : ByteArray} {n : Int} {t' : List UInt8} {o' : List (List UInt8)} (ho : SplOut most tb ob xa y s n t' o') (hl : ob.length ≤ 900) :
    Calls Try.prog 12 #[.pointer (some ⟨b, 0, none⟩), .agg #[.int .i64 xa, .int .i64 y, .string s]] w fun e w' => e = .returned (.int .i64 n) ∧ Both B b x most t' o' tx ox w0 w' := by
  rcases ho with ⟨rfl, hin, hs, rfl, rfl⟩ | ⟨rfl, hin, hs, rfl, rfl⟩ | ⟨rfl, hin, rfl, rfl⟩
  · refine (spliceH_ok h.buf xa y s hin hs hl).mono ?_
    rintro e w' ⟨he, hb, hk⟩
    exact ⟨he, h.bufTurn hk hb⟩
  · refine (spliceH_size h.buf xa y s hin hs).mono ?_
    rintro e w' ⟨he, hb⟩
    exact ⟨he, h.below hb⟩
  · refine (spliceH_range h.buf xa y s hin).mono ?_
    rintro e w' ⟨he, hb⟩
    exact ⟨he, h.below hb⟩

theorem xspl {B b x : Nat} {most : Int} {tb : List UInt8} {ob : List (List UInt8)} {tx : List UInt8} {ox : List (List UInt8)} {w0 w : World} (h : Both B b x most tb ob tx ox w0 w) {xa y : Int} {s : ByteArray} {n : Int} {t' : List UInt8} {o' : List (List UInt8)} (ho : SplOut most tx ox xa y s n t' o') (hl : ox.length ≤ 900) (hx : tx.length ≤ 65536) (hbig : s.size ≤ maxLen) :
    Calls Try.prog 13 #[.pointer (some ⟨x, 0, none⟩), .agg #[.int .i64 xa, .int .i64 y, .string s]] w fun e w' => e = .returned (.int .i64 n) ∧ Both B b x most tb ob t' o' w0 w' := by
  have hm := h.buf.max
  rcases ho with ⟨rfl, hin, hs, rfl, rfl⟩ | ⟨rfl, hin, hs, rfl, rfl⟩ | ⟨rfl, hin, rfl, rfl⟩
  · refine (rspl_ok h.plain xa y s hx h.pos hm hin hs (by omega) h.size).mono ?_
    rintro e w' ⟨he, hb, hk⟩
    exact ⟨he, h.plainTurn hk hb⟩
  · refine (rspl_size h.plain xa y s hx h.pos hm hin hs hbig).mono ?_
    rintro e w' ⟨he, hb⟩
    exact ⟨he, h.below hb⟩
  · refine (rspl_range h.plain xa y s hx hin).mono ?_
    rintro e w' ⟨he, hb⟩
    exact ⟨he, h.below hb⟩

theorem bund {B b x : Nat} {most : Int} {tb : List UInt8} {ob : List (List UInt8)} {tx : List UInt8} {ox : List (List UInt8)} {w0 w : World} (h : Both B b x most tb ob tx ox w0 w) {r : Bool} {t' : List UInt8} {o' : List (List UInt8)} (ho : UndOut tb ob r t' o') (hl : ob.length ≤ 900) :
    Calls Try.prog 10 #[.pointer (some ⟨b, 0, none⟩)] w fun e w' => e = .returned (.bool r) ∧ Both B b x most t' o' tx ox w0 w' := by
  rcases ho with ⟨rfl, rfl, rfl, rfl⟩ | ⟨rfl, rfl⟩
  · refine (undoH_no h.buf).mono ?_
    rintro e w' ⟨he, hw⟩
    subst hw
    exact ⟨he, h⟩
  · refine (undoH_ok h.buf (by simp at hl; omega)).mono ?_
    rintro e w' ⟨he, hb, hk⟩
    exact ⟨he, h.bufTurn hk hb⟩

theorem xund {B b x : Nat} {most : Int} {tb : List UInt8} {ob : List (List UInt8)} {tx : List UInt8} {ox : List (List UInt8)} {w0 w : World} (h : Both B b x most tb ob tx ox w0 w) {r : Bool} {t' : List UInt8} {o' : List (List UInt8)} (ho : UndOut tx ox r t' o') (hl : ox.length ≤ 900) :
    Calls Try.prog 11 #[.pointer (some ⟨x, 0, none⟩)] w fun e w' => e = .returned (.bool r) ∧ Both B b x most tb ob t' o' w0 w' := by
  rcases ho with ⟨rfl, rfl, rfl, rfl⟩ | ⟨rfl, rfl⟩
  · refine (rundo_no h.plain).mono ?_
    rintro e w' ⟨he, hw⟩
    subst hw
    exact ⟨he, h⟩
  · refine (rundo_ok h.plain (by simp at hl; omega)).mono ?_
    rintro e w' ⟨he, hb, hk⟩
    exact ⟨he, h.plainTurn hk hb⟩
end Go.Proofs.Ytfphmdkbcibcmaa
