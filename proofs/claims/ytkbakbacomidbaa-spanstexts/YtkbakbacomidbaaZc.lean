/- Characters of bytes, pure. -/
import Derived.Test.YtkbakbacomidbaaProg
import Derived.BigQuiet
import Derived.BigRegion
import Derived.Deep.DeepCutAuto
import Derived.Deep.QuietTactic
import Derived.Deep.RegionHeld3
import Derived.Deep.RegionLaw
import Derived.Maps.AppendAt
import Derived.ScopeJumps
import Derived.WalkKit
import Derived.WalkLawsBesides
import Derived.WalkMore
import Derived.WalkSpells
namespace Go.Proofs.Ytkbakbacomidbaa.G4
open Go.RowKit
/-- How many bytes a character has that begins with byte n. -/
def need (n : Nat) : Nat := if n < 128 then 1 else if 194 ≤ n ∧ n ≤ 223 then 2 else if 224 ≤ n ∧ n ≤ 239 then 3 else if 240 ≤ n ∧ n ≤ 244 then 4 else 0
def lo2 (n : Nat) : Nat := if n = 224 then 160 else if n = 240 then 144 else 128
def hi2 (n : Nat) : Nat := if n = 237 then 159 else if n = 244 then 143 else 191
/-- May byte c stand at place k of a character that begins with a? -/
def okc (k : Nat) (a c : Nat) : Bool := if k = 1 then decide (lo2 a ≤ c ∧ c ≤ hi2 a) else decide (128 ≤ c ∧ c ≤ 191)
def ext (n a : Nat) : Nat → List UInt8 → Nat
  | k, [] => k
  | k, b :: t => if k < n ∧ okc k a b.toNat = true then ext n a (k + 1) t else k
def mask (n a : Nat) : Nat := if n = 2 then a % 32 else if n = 3 then a % 16 else if n = 4 then a % 8 else a
def add6 (r : Int) (b : UInt8) : Int := r * 64 + (b.toNat % 64 : Nat)
def val (r : Int) (l : List UInt8) : Int := l.foldl add6 r
/-- The first character of a text: its number (-1: none), how many bytes, whether more may belong to it. -/
def one : List UInt8 → Int × Nat × Bool
  | [] => (-1, 1, false)
  | a :: t => if need a.toNat = 0 then (-1, 1, false) else if ext (need a.toNat) a.toNat 1 t < need a.toNat then (-1, ext (need a.toNat) a.toNat 1 t, decide (ext (need a.toNat) a.toNat 1 t = t.length + 1))
    else (val (mask (need a.toNat) a.toNat) (t.take (need a.toNat - 1)), need a.toNat, false)
theorem one_cons (a : UInt8) (t : List UInt8) : one (a :: t) = if need a.toNat = 0 then (-1, 1, false) else if ext (need a.toNat) a.toNat 1 t < need a.toNat then (-1, ext (need a.toNat) a.toNat 1 t, decide (ext (need a.toNat) a.toNat 1 t = t.length + 1))
    else (val (mask (need a.toNat) a.toNat) (t.take (need a.toNat - 1)), need a.toNat, false) := rfl
def itemsF : Nat → List UInt8 → List (Int × Nat)
  | 0, _ => []
  | _ + 1, [] => []
  | k + 1, a :: t => ((one (a :: t)).1, (one (a :: t)).2.1) :: itemsF k ((a :: t).drop (one (a :: t)).2.1)
def items (s : List UInt8) : List (Int × Nat) := itemsF s.length s
def sureF : Nat → List UInt8 → Nat
  | 0, _ => 0
  | _ + 1, [] => 0
  | k + 1, a :: t => if (one (a :: t)).2.2 then 0 else (one (a :: t)).2.1 + sureF k ((a :: t).drop (one (a :: t)).2.1)
def sure (s : List UInt8) : Nat := sureF s.length s
theorem ext_ge (n a : Nat) : ∀ (t : List UInt8) (k : Nat), k ≤ ext n a k t
  | [], _ => Nat.le_refl _
  | b :: t, k => by
    unfold ext
    split
    · have := ext_ge n a t (k + 1); omega
    · exact Nat.le_refl _
theorem ext_le (n a : Nat) : ∀ (t : List UInt8) (k : Nat), ext n a k t ≤ k + t.length
  | [], _ => Nat.le_refl _
  | b :: t, k => by
    unfold ext
    split
    · have := ext_le n a t (k + 1); simp; omega
    · simp
theorem ext_top (n a : Nat) : ∀ (t : List UInt8) (k : Nat), k ≤ n → ext n a k t ≤ n
  | [], _, h => h
  | b :: t, k, h => by
    unfold ext
    split
    · exact ext_top n a t (k + 1) (by omega)
    · exact h
theorem ext_append (n a : Nat) : ∀ (t r : List UInt8) (k : Nat), ext n a k t = k + t.length → ext n a k (t ++ r) = ext n a (k + t.length) r
  | [], _, _, _ => by simp
  | b :: t, r, k, h => by
    rw [List.cons_append, ext]
    rw [ext] at h
    split at h
    · rename_i hc
      rw [if_pos hc, ext_append n a t r (k + 1) (by simp at h ⊢; omega)]
      congr 1; simp; omega
    · simp at h
theorem need_le (a : Nat) : need a ≤ 4 := by unfold need; split; omega; split; omega; split; omega; split <;> omega
theorem one_pos : ∀ s : List UInt8, 1 ≤ (one s).2.1
  | [] => Nat.le_refl _
  | a :: t => by
    have h := ext_ge (need a.toNat) a.toNat t 1
    rw [one_cons]
    split
    · exact Nat.le_refl _
    · split
      · exact h
      · show 1 ≤ need a.toNat; omega
theorem one_len : ∀ s : List UInt8, s ≠ [] → (one s).2.1 ≤ s.length
  | [], h => absurd rfl h
  | a :: t, _ => by
    have h := ext_le (need a.toNat) a.toNat t 1
    rw [one_cons]
    split
    · simp
    · split
      · show ext _ _ _ _ ≤ _; simp; omega
      · show need a.toNat ≤ _; simp; omega
theorem itemsF_enough : ∀ (k : Nat) (s : List UInt8), s.length ≤ k → itemsF k s = itemsF s.length s
  | 0, s, h => by
    have : s = [] := List.eq_nil_of_length_eq_zero (by omega)
    subst this; rfl
  | k + 1, [], _ => rfl
  | k + 1, a :: t, h => by
    have hp := one_pos (a :: t)
    simp only [List.length_cons, itemsF]
    rw [itemsF_enough k _ (by simp at h ⊢; omega), itemsF_enough t.length _ (by simp; omega)]
theorem sureF_enough : ∀ (k : Nat) (s : List UInt8), s.length ≤ k → sureF k s = sureF s.length s
  | 0, s, h => by
    have : s = [] := List.eq_nil_of_length_eq_zero (by omega)
    subst this; rfl
  | k + 1, [], _ => rfl
  | k + 1, a :: t, h => by
    have hp := one_pos (a :: t)
    simp only [List.length_cons, sureF]
    rw [sureF_enough k _ (by simp at h ⊢; omega), sureF_enough t.length _ (by simp; omega)]
theorem items_nil : items [] = [] := rfl
theorem items_cons (s : List UInt8) (h : s ≠ []) : items s = ((one s).1, (one s).2.1) :: items (s.drop (one s).2.1) := by
  cases s with
  | nil => exact absurd rfl h
  | cons a t =>
    have hp := one_pos (a :: t)
    show itemsF (t.length + 1) (a :: t) = _
    rw [itemsF, itemsF_enough t.length _ (by simp; omega)]; rfl
theorem sure_cons (s : List UInt8) (h : s ≠ []) : sure s = if (one s).2.2 then 0 else (one s).2.1 + sure (s.drop (one s).2.1) := by
  cases s with
  | nil => exact absurd rfl h
  | cons a t =>
    have hp := one_pos (a :: t)
    show sureF (t.length + 1) (a :: t) = _
    rw [sureF, sureF_enough t.length _ (by simp; omega)]; rfl
/-- What the decoder keeps of the bytes that wait. -/
structure F where
  bits : Int
  more : Int
  lo : Nat
  hi : Nat
def F0 : F := ⟨0, 0, 0, 0⟩
def begF (n : Nat) : F :=
  if n < 128 then ⟨n, 0, 0, 0⟩ else if n < 194 ∨ 244 < n then ⟨-1, 0, 0, 0⟩ else if n < 224 then ⟨(n % 32 : Nat), 1, 128, 191⟩ else if n = 224 then ⟨0, 2, 160, 191⟩ else if n = 237 then ⟨13, 2, 128, 159⟩
  else if n < 240 then ⟨(n % 16 : Nat), 2, 128, 191⟩ else if n = 240 then ⟨0, 3, 144, 191⟩ else if n = 244 then ⟨4, 3, 128, 143⟩ else ⟨(n % 8 : Nat), 3, 128, 191⟩
def withF (f : F) (b : UInt8) : F := ⟨add6 f.bits b, f.more - 1, 128, 191⟩
def fitsF (f : F) (b : Nat) : Bool := decide (f.lo ≤ b ∧ b ≤ f.hi)
def formL : List UInt8 → F
  | [] => F0
  | a :: t => t.foldl withF (begF a.toNat)
theorem beg_all : ∀ n, n < 256 → (need n = 0 → (begF n).bits = -1 ∧ (begF n).more = 0) ∧ (need n = 1 → (begF n).bits = n ∧ (begF n).more = 0) ∧
    (2 ≤ need n → (begF n).bits = mask (need n) n ∧ (begF n).more = (need n : Int) - 1 ∧ (begF n).lo = lo2 n ∧ (begF n).hi = hi2 n) := by decide +kernel
theorem fold_with : ∀ (t : List UInt8) (f : F), (t.foldl withF f).bits = val f.bits t ∧ (t.foldl withF f).more = f.more - t.length ∧ (t ≠ [] → (t.foldl withF f).lo = 128 ∧ (t.foldl withF f).hi = 191)
  | [], f => ⟨rfl, by simp, fun h => absurd rfl h⟩
  | b :: t, f => by
    obtain ⟨h1, h2, h3⟩ := fold_with t (withF f b)
    refine ⟨h1, ?_, fun _ => ?_⟩
    · rw [List.foldl_cons, h2]; simp [withF]; omega
    · by_cases ht : t = []
      · subst ht; exact ⟨rfl, rfl⟩
      · exact h3 ht
/-- Bytes that wait: they begin a character, and are none yet. -/
def pend : List UInt8 → Prop
  | [] => True
  | a :: t => ext (need a.toNat) a.toNat 1 t = t.length + 1 ∧ t.length + 1 < need a.toNat
theorem pend_form (a : UInt8) (t : List UInt8) (h : pend (a :: t)) : (formL (a :: t)).more = (need a.toNat : Int) - (t.length + 1 : Nat) ∧ (formL (a :: t)).bits = val (mask (need a.toNat) a.toNat) t ∧
    ∀ c, fitsF (formL (a :: t)) c = okc (t.length + 1) a.toNat c := by
  obtain ⟨_, h2⟩ := h
  obtain ⟨_, _, h5⟩ := beg_all a.toNat (UInt8.toNat_lt a)
  obtain ⟨b1, b2, b3, b4⟩ := h5 (by omega)
  obtain ⟨f1, f2, f3⟩ := fold_with t (begF a.toNat)
  refine ⟨?_, ?_, fun c => ?_⟩
  · show (t.foldl withF (begF a.toNat)).more = _
    rw [f2, b2]; omega
  · show (t.foldl withF (begF a.toNat)).bits = _
    rw [f1, b1]
  · show decide ((t.foldl withF (begF a.toNat)).lo ≤ c ∧ c ≤ (t.foldl withF (begF a.toNat)).hi) = _
    unfold okc
    by_cases ht : t = []
    · subst ht
      rw [if_pos (by rfl)]
      show decide ((begF a.toNat).lo ≤ c ∧ c ≤ (begF a.toNat).hi) = _
      rw [b3, b4]
    · obtain ⟨g1, g2⟩ := f3 ht
      rw [if_neg (fun e => ht (List.eq_nil_of_length_eq_zero (by omega))), g1, g2]
theorem form_snoc (a : UInt8) (t : List UInt8) (b : UInt8) : formL (a :: (t ++ [b])) = withF (formL (a :: t)) b := by
  show (t ++ [b]).foldl withF _ = _
  rw [List.foldl_append]; rfl
/-- One byte at a state that waits for nothing. -/
def start (b : UInt8) : List UInt8 × List (Int × Nat) := if (begF b.toNat).more = 0 then ([], [((begF b.toNat).bits, 1)]) else ([b], [])
/-- One byte. -/
def step : List UInt8 → UInt8 → List UInt8 × List (Int × Nat)
  | [], b => start b
  | a :: t, b => if fitsF (formL (a :: t)) b.toNat then (if (formL (a :: (t ++ [b]))).more = 0 then ([], [((formL (a :: (t ++ [b]))).bits, t.length + 2)]) else (a :: (t ++ [b]), []))
    else ((start b).1, (-1, t.length + 1) :: (start b).2)
theorem step_cons (a : UInt8) (t : List UInt8) (b : UInt8) : step (a :: t) b = if fitsF (formL (a :: t)) b.toNat then (if (formL (a :: (t ++ [b]))).more = 0 then ([], [((formL (a :: (t ++ [b]))).bits, t.length + 2)]) else (a :: (t ++ [b]), []))
    else ((start b).1, (-1, t.length + 1) :: (start b).2) := rfl
def run : List UInt8 → List UInt8 → List UInt8 × List (Int × Nat)
  | u, [] => (u, [])
  | u, b :: s => ((run (step u b).1 s).1, (step u b).2 ++ (run (step u b).1 s).2)
def fin (u : List UInt8) : List (Int × Nat) := if u = [] then [] else [(-1, u.length)]
def tot (l : List (Int × Nat)) : Nat := (l.map (·.2)).sum
theorem tot_append (a b : List (Int × Nat)) : tot (a ++ b) = tot a + tot b := by simp [tot]
theorem tot_nil : tot [] = 0 := rfl
theorem tot_cons (x : Int × Nat) (l : List (Int × Nat)) : tot (x :: l) = x.2 + tot l := by simp [tot]
/-- A state that waits for nothing, at a byte. -/
theorem start_ok (b : UInt8) (s : List UInt8) : ((start b).1 = [b] ∧ (start b).2 = [] ∧ pend [b]) ∨ (∃ r, (start b).1 = [] ∧ (start b).2 = [(r, 1)] ∧ one (b :: s) = (r, 1, false)) := by
  obtain ⟨h0, h1, h2⟩ := beg_all b.toNat (UInt8.toNat_lt b)
  unfold start
  by_cases c0 : need b.toNat = 0
  · obtain ⟨x, y⟩ := h0 c0
    rw [if_pos y, x]
    exact .inr ⟨-1, rfl, rfl, by rw [one_cons, if_pos c0]⟩
  · by_cases c1 : need b.toNat = 1
    · obtain ⟨x, y⟩ := h1 c1
      rw [if_pos y, x]
      refine .inr ⟨_, rfl, rfl, ?_⟩
      have he := ext_ge 1 b.toNat s 1
      rw [one_cons]
      rw [if_neg c0, c1, if_neg (by omega)]
      rfl
    · obtain ⟨_, y, _⟩ := h2 (by omega)
      rw [if_neg (by rw [y]; omega)]
      exact .inl ⟨rfl, rfl, rfl, by simp; omega⟩
theorem one_pend (a : UInt8) (t : List UInt8) (h : pend (a :: t)) : one (a :: t) = (-1, t.length + 1, true) := by
  obtain ⟨h1, h2⟩ := h
  rw [one_cons]
  rw [if_neg (by omega), h1, if_pos h2]; simp
/-- Items and what is sure, ahead of what comes: a first character that is done. -/
theorem front_done {s : List UInt8} {r : Int} {n : Nat} (h : one s = (r, n, false)) (hs : s ≠ []) : items s = (r, n) :: items (s.drop n) ∧ sure s = n + sure (s.drop n) := by
  rw [items_cons s hs, sure_cons s hs, h]; exact ⟨rfl, rfl⟩
theorem step_ok (u : List UInt8) (b : UInt8) (s : List UInt8) (h : pend u) : pend (step u b).1 ∧ items (u ++ b :: s) = (step u b).2 ++ items ((step u b).1 ++ s) ∧ sure (u ++ b :: s) = tot (step u b).2 + sure ((step u b).1 ++ s) ∧
    tot (step u b).2 + (step u b).1.length = u.length + 1 := by
  have hst : pend (start b).1 ∧ items (b :: s) = (start b).2 ++ items ((start b).1 ++ s) ∧ sure (b :: s) = tot (start b).2 + sure ((start b).1 ++ s) ∧ tot (start b).2 + (start b).1.length = 1 := by
    rcases start_ok b s with ⟨x, y, z⟩ | ⟨r, x, y, z⟩
    · rw [x, y]; exact ⟨z, rfl, by rw [tot_nil, Nat.zero_add]; rfl, rfl⟩
    · rw [x, y]
      obtain ⟨g1, g2⟩ := front_done z (by simp)
      exact ⟨trivial, by rw [g1]; rfl, by rw [g2]; rfl, rfl⟩
  match u, h with
  | [], _ =>
    obtain ⟨g1, g2, g3, g4⟩ := hst
    exact ⟨g1, g2, g3, by rw [List.length_nil, Nat.zero_add]; exact g4⟩
  | a :: t, h =>
    obtain ⟨m1, m2, m3⟩ := pend_form a t h
    obtain ⟨p1, p2⟩ := h
    have hx : ext (need a.toNat) a.toNat 1 (t ++ b :: s) = ext (need a.toNat) a.toNat (1 + t.length) (b :: s) := ext_append _ _ t (b :: s) 1 (by omega)
    have hfs := form_snoc a t b
    rw [step_cons, m3]
    by_cases hf : okc (t.length + 1) a.toNat b.toNat = true
    · rw [if_pos hf]
      have hmore : (formL (a :: (t ++ [b]))).more = (need a.toNat : Int) - (t.length + 2 : Nat) := by rw [hfs]; simp [withF, m1]; omega
      rw [ext, if_pos ⟨by omega, by rw [Nat.add_comm 1]; exact hf⟩] at hx
      by_cases hm : need a.toNat = t.length + 2
      · rw [if_pos (by rw [hmore, hm]; omega)]
        have hxt := ext_ge (need a.toNat) a.toNat s (1 + t.length + 1)
        have hone : one (a :: t ++ b :: s) = ((formL (a :: (t ++ [b]))).bits, t.length + 2, false) := by
          rw [List.cons_append]
          rw [one_cons]
          rw [if_neg (by omega), hx, if_neg (by omega), hfs]
          have e1 : (t ++ b :: s).take (need a.toNat - 1) = t ++ [b] := by
            rw [hm]
            have : t ++ b :: s = (t ++ [b]) ++ s := by simp
            rw [this, List.take_append_of_le_length (by simp), List.take_of_length_le (by simp)]
          rw [e1]
          show (val _ (t ++ [b]), _, _) = (add6 (formL (a :: t)).bits b, _, _)
          rw [m2, val, List.foldl_append, hm]; rfl
        obtain ⟨g1, g2⟩ := front_done hone (by simp)
        have hd : (a :: t ++ b :: s).drop (t.length + 2) = s := by
          have : a :: t ++ b :: s = (a :: t ++ [b]) ++ s := by simp
          rw [this, List.drop_append_of_le_length (by simp), List.drop_of_length_le (by simp)]; rfl
        rw [hd] at g1 g2
        refine ⟨trivial, g1, ?_, ?_⟩
        · rw [g2]; simp [tot]
        · simp [tot]
      · rw [if_neg (by rw [hmore]; omega)]
        refine ⟨⟨?_, by simp; omega⟩, by simp, by simp [tot], by simp [tot]⟩
        rw [ext_append _ _ t [b] 1 (by omega), ext, if_pos ⟨by omega, by rw [Nat.add_comm 1]; exact hf⟩]
        simp [ext]; omega
    · rw [if_neg hf]
      rw [ext, if_neg (fun c => hf (by have := c.2; rw [Nat.add_comm 1] at this; exact this))] at hx
      have hone : one (a :: t ++ b :: s) = (-1, t.length + 1, false) := by
        rw [List.cons_append]
        rw [one_cons]
        rw [if_neg (by omega), hx, if_pos (by omega)]
        simp; omega
      obtain ⟨g1, g2⟩ := front_done hone (by simp)
      have hd : (a :: t ++ b :: s).drop (t.length + 1) = b :: s := by
        rw [show t.length + 1 = (a :: t).length from rfl, List.drop_left]
      rw [hd] at g1 g2
      obtain ⟨q1, q2, q3, q4⟩ := hst
      refine ⟨q1, by rw [g1, q2]; rfl, by rw [g2, q3, tot_cons]; simp; omega, by rw [tot_cons]; simp; omega⟩
theorem run_ok : ∀ (s u : List UInt8), pend u → pend (run u s).1 ∧ items (u ++ s) = (run u s).2 ++ fin (run u s).1 ∧ sure (u ++ s) = tot (run u s).2 ∧ tot (run u s).2 + (run u s).1.length = u.length + s.length
  | [], u, h => by
    refine ⟨h, ?_, ?_, by simp [run, tot]⟩
    · rw [List.append_nil]
      match u, h with
      | [], _ => rfl
      | a :: t, h =>
        rw [items_cons _ (by simp), one_pend a t h]
        have : (a :: t).drop (t.length + 1) = [] := List.drop_of_length_le (by simp)
        show (-1, t.length + 1) :: items ((a :: t).drop (t.length + 1)) = _
        rw [this]; rfl
    · rw [List.append_nil]
      match u, h with
      | [], _ => rfl
      | a :: t, h => rw [sure_cons _ (by simp), one_pend a t h]; rfl
  | b :: s, u, h => by
    obtain ⟨g1, g2, g3, g4⟩ := step_ok u b s h
    obtain ⟨i1, i2, i3, i4⟩ := run_ok s (step u b).1 g1
    refine ⟨i1, ?_, ?_, ?_⟩
    · rw [g2, i2]; simp [run]
    · rw [g3, i3]; simp [run, tot_append]
    · simp only [run, tot_append, List.length_cons]; omega
/-- A character with its span. -/
structure Ch where
  r : Int
  a : Int
  z : Int
/-- The characters and the faults' places of items that begin at p. -/
def chs : Int → List (Int × Nat) → List Ch
  | _, [] => []
  | p, (r, n) :: l => ⟨if r = -1 then 65533 else r, p, p + (n : Int)⟩ :: chs (p + (n : Int)) l
def fls : Int → List (Int × Nat) → List Int
  | _, [] => []
  | p, (r, n) :: l => (if r = -1 then [p] else []) ++ fls (p + (n : Int)) l
theorem chs_append : ∀ (a b : List (Int × Nat)) (p : Int), chs p (a ++ b) = chs p a ++ chs (p + (tot a : Nat)) b
  | [], b, p => by simp [tot, chs]
  | (r, n) :: a, b, p => by
    rw [List.cons_append, chs, chs_append a b, chs, List.cons_append, tot_cons]
    congr 3; push_cast; omega
theorem fls_append : ∀ (a b : List (Int × Nat)) (p : Int), fls p (a ++ b) = fls p a ++ fls (p + (tot a : Nat)) b
  | [], b, p => by simp [tot, fls]
  | (r, n) :: a, b, p => by
    rw [List.cons_append, fls, fls_append a b, fls, List.append_assoc, tot_cons]
    congr 3; push_cast; omega
theorem chs_length : ∀ (l : List (Int × Nat)) (p : Int), (chs p l).length = l.length
  | [], _ => rfl
  | (r, n) :: l, p => by simp [chs, chs_length l]
theorem fls_length : ∀ (l : List (Int × Nat)) (p : Int), (fls p l).length ≤ l.length
  | [], _ => Nat.le_refl _
  | (r, n) :: l, p => by
    have := fls_length l (p + (n : Int))
    simp only [fls, List.length_append, List.length_cons]
    split <;> simp <;> omega
/-- The fault of a character (4.1), for characters from 0 on. -/
def badN (r : Int) : Int := if r = 0 then 2 else if r = 9 ∨ r = 10 ∨ r = 12 ∨ r = 13 then 0 else if (1 ≤ r ∧ r ≤ 31) ∨ (127 ≤ r ∧ r ≤ 159) then 3 else if (64976 ≤ r ∧ r ≤ 65007) ∨ 65534 ≤ r % 65536 then 4 else 0
/-- The fault of an item: -1 stands for bytes that are no character. -/
def cod (r : Int) : Int := if r = -1 then 1 else badN r
/-- The faults, with their codes, of items that begin at p. -/
def fcs : Int → List (Int × Nat) → List (Int × Int)
  | _, [] => []
  | p, (r, n) :: l => (if cod r = 0 then [] else [(cod r, p)]) ++ fcs (p + (n : Int)) l
theorem fcs_append : ∀ (a b : List (Int × Nat)) (p : Int), fcs p (a ++ b) = fcs p a ++ fcs (p + (tot a : Nat)) b
  | [], b, p => by simp [tot, fcs]
  | (r, n) :: a, b, p => by
    rw [List.cons_append, fcs, fcs_append a b, fcs, List.append_assoc, tot_cons]
    congr 3; push_cast; omega
theorem fcs_length : ∀ (l : List (Int × Nat)) (p : Int), (fcs p l).length ≤ l.length
  | [], _ => Nat.le_refl _
  | (r, n) :: l, p => by
    have := fcs_length l (p + (n : Int))
    simp only [fcs, List.length_append, List.length_cons]
    split <;> simp <;> omega
theorem fls_ge : ∀ (l : List (Int × Nat)) (p x : Int), x ∈ fls p l → p ≤ x
  | [], _, _, h => by simp [fls] at h
  | (r, n) :: l, p, x, h => by
    simp only [fls, List.mem_append] at h
    rcases h with h | h
    · split at h
      · simp at h; omega
      · simp at h
    · have := fls_ge l _ x h; omega
def rel (w : Ch) : List Ch := if w.a < w.z then [w] else []
/-- The document's way. -/
def fix (c : Ch) : Ch := ⟨if c.r = 0 then 65533 else if c.r = 13 then 10 else c.r, c.a, c.z⟩
def rfs : List Ch → List Ch
  | [] => []
  | [c] => [fix c]
  | c :: d :: l => if c.r = 13 ∧ d.r = 10 then ⟨10, c.a, d.z⟩ :: rfs l else fix c :: rfs (d :: l)
/-- Items are of at least one byte; their numbers are those of characters. -/
theorem step_pos (u : List UInt8) (b : UInt8) : ∀ x ∈ (step u b).2, 1 ≤ x.2 := by
  have hs : ∀ x ∈ (start b).2, 1 ≤ x.2 := by
    unfold start; intro x hx
    split at hx
    · simp at hx; subst hx; exact Nat.le_refl _
    · simp at hx
  match u with
  | [] => exact hs
  | a :: t =>
    intro x hx
    rw [step_cons] at hx
    split at hx
    · split at hx
      · simp at hx; subst hx; show 1 ≤ t.length + 2; omega
      · simp at hx
    · simp only [List.mem_cons] at hx
      rcases hx with rfl | hx
      · show 1 ≤ t.length + 1; omega
      · exact hs x hx
theorem run_pos : ∀ (s u : List UInt8), ∀ x ∈ (run u s).2, 1 ≤ x.2
  | [], u => by simp [run]
  | b :: s, u => by
    intro x hx
    rw [run] at hx
    simp only [List.mem_append] at hx
    rcases hx with hx | hx
    · exact step_pos u b x hx
    · exact run_pos s _ x hx
theorem fin_pos (u : List UInt8) : ∀ x ∈ fin u, 1 ≤ x.2 := by
  intro x hx
  unfold fin at hx
  split at hx
  · simp at hx
  · rename_i h
    simp at hx; subst hx
    cases u with
    | nil => exact absurd rfl h
    | cons a t => simp
theorem items_pos (s : List UInt8) : ∀ x ∈ items s, 1 ≤ x.2 := by
  obtain ⟨_, r2, _, _⟩ := run_ok s [] trivial
  rw [List.nil_append] at r2
  intro x hx
  rw [r2, List.mem_append] at hx
  rcases hx with hx | hx
  · exact run_pos s [] x hx
  · exact fin_pos _ x hx
theorem val_bd : ∀ (l : List UInt8) (r : Int), 0 ≤ r → r * 64 ^ l.length ≤ val r l ∧ 0 ≤ val r l ∧ val r l < (r + 1) * 64 ^ l.length
  | [], r, h0 => ⟨by simp [val], h0, by simp [val]; omega⟩
  | b :: t, r, h0 => by
    have e : val r (b :: t) = val (add6 r b) t := rfl
    have ha : 0 ≤ add6 r b ∧ add6 r b + 1 ≤ (r + 1) * 64 ∧ r * 64 ≤ add6 r b := by unfold add6; omega
    obtain ⟨i0, i1, i2⟩ := val_bd t (add6 r b) ha.1
    have hp : (0 : Int) ≤ 64 ^ t.length := Int.pow_nonneg (by omega)
    refine ⟨?_, by rw [e]; exact i1, ?_⟩
    · rw [e, List.length_cons, Int.pow_succ]
      have : (r * 64) * 64 ^ t.length ≤ add6 r b * 64 ^ t.length := Int.mul_le_mul_of_nonneg_right ha.2.2 hp
      rw [Int.mul_comm ((64 : Int) ^ t.length) 64, ← Int.mul_assoc]
      omega
    · rw [e, List.length_cons, Int.pow_succ]
      have : (add6 r b + 1) * 64 ^ t.length ≤ ((r + 1) * 64) * 64 ^ t.length := Int.mul_le_mul_of_nonneg_right ha.2.1 hp
      rw [Int.mul_comm ((64 : Int) ^ t.length) 64, ← Int.mul_assoc]
      omega
theorem mask_bd (n a : Nat) (ha : a < 256) : mask n a ≤ 255 := by
  unfold mask
  repeat' split
  all_goals omega
theorem pow_le3 {k : Nat} (h : k ≤ 3) : (64 : Int) ^ k ≤ 262144 := by
  match k, h with
  | 0, _ => decide
  | 1, _ => decide
  | 2, _ => decide
  | 3, _ => decide
theorem one_range (s : List UInt8) : (one s).1 = -1 ∨ (0 ≤ (one s).1 ∧ (one s).1 ≤ 1000000000) := by
  cases s with
  | nil => exact .inl rfl
  | cons a t =>
    rw [one_cons]
    repeat' split
    · exact .inl rfl
    · exact .inl rfl
    · right
      have hn := need_le a.toNat
      have hm := mask_bd (need a.toNat) a.toNat (UInt8.toNat_lt a)
      obtain ⟨_, v1, v2⟩ := val_bd (t.take (need a.toNat - 1)) (mask (need a.toNat) a.toNat : Nat) (by omega)
      have hl := pow_le3 (k := (t.take (need a.toNat - 1)).length) (by rw [List.length_take]; omega)
      have : ((mask (need a.toNat) a.toNat : Nat) + 1 : Int) * 64 ^ (t.take (need a.toNat - 1)).length ≤ 256 * 262144 := Int.mul_le_mul (by omega) hl (Int.pow_nonneg (by omega)) (by omega)
      exact ⟨v1, by show val _ _ ≤ _; omega⟩
theorem items_range : ∀ (k : Nat) (s : List UInt8), s.length ≤ k → ∀ x ∈ items s, x.1 = -1 ∨ (0 ≤ x.1 ∧ x.1 ≤ 1000000000)
  | 0, s, h => by
    have : s = [] := List.eq_nil_of_length_eq_zero (by omega)
    subst this; simp [items_nil]
  | k + 1, [], _ => by simp [items_nil]
  | k + 1, a :: t, h => by
    intro x hx
    rw [items_cons _ (by simp)] at hx
    have hp := one_pos (a :: t)
    simp only [List.mem_cons] at hx
    rcases hx with rfl | hx
    · exact one_range _
    · exact items_range k _ (by simp at h ⊢; omega) x hx
end Go.Proofs.Ytkbakbacomidbaa.G4
