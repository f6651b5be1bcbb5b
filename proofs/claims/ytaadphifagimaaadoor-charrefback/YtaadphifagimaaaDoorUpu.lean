/- A text's first character, purely. -/
import Init.Data.List.Lemmas
namespace Go.Proofs.YtaadphifagimaaaDoor
namespace Utf

/-- How many bytes a character has that begins with byte n. -/
def need (n : Nat) : Nat := if n < 128 then 1 else if 194 ≤ n ∧ n ≤ 223 then 2 else if 224 ≤ n ∧ n ≤ 239 then 3 else if 240 ≤ n ∧ n ≤ 244 then 4 else 0
def lo2 (n : Nat) : Nat := if n = 224 then 160 else if n = 240 then 144 else 128
def hi2 (n : Nat) : Nat := if n = 237 then 159 else if n = 244 then 143 else 191
/-- May byte c stand at place k of a character that begins with a? -/
def okc (k : Nat) (a c : Nat) : Bool := if k = 1 then decide (lo2 a ≤ c ∧ c ≤ hi2 a) else decide (128 ≤ c ∧ c ≤ 191)

def ext (n a : Nat) : Nat → List UInt8 → Nat
  | k, [] => k
  | k, b :: t => if k < n ∧ okc k a b.toNat = true then ext n a (k + 1) t else k

def mask (n a : Nat) : Nat := if n = 2 then a % 32 else if n = 3 then a % 16 else if n = 4 then a % 8 else a
def add6 (r : Int) (b : UInt8) : Int := r * 64 + (b.toNat % 64 : Nat)
def val (r : Int) (l : List UInt8) : Int := l.foldl add6 r

/-- The first character of a text: its number (-1: none), how many bytes, whether more may belong to it. -/
def one : List UInt8 → Int × Nat × Bool
  | [] => (-1, 1, false)
  | a :: t => if need a.toNat = 0 then (-1, 1, false) else if ext (need a.toNat) a.toNat 1 t < need a.toNat then (-1, ext (need a.toNat) a.toNat 1 t, decide (ext (need a.toNat) a.toNat 1 t = t.length + 1))
    else (val (mask (need a.toNat) a.toNat) (t.take (need a.toNat - 1)), need a.toNat, false)

theorem one_cons (a : UInt8) (t : List UInt8) : one (a :: t) = if need a.toNat = 0 then (-1, 1, false) else if ext (need a.toNat) a.toNat 1 t < need a.toNat then (-1, ext (need a.toNat) a.toNat 1 t, decide (ext (need a.toNat) a.toNat 1 t = t.length + 1))
    else (val (mask (need a.toNat) a.toNat) (t.take (need a.toNat - 1)), need a.toNat, false) := rfl

def itemsF : Nat → List UInt8 → List (Int × Nat)
  | 0, _ => []
  | _ + 1, [] => []
  | k + 1, a :: t => ((one (a :: t)).1, (one (a :: t)).2.1) :: itemsF k ((a :: t).drop (one (a :: t)).2.1)
def items (s : List UInt8) : List (Int × Nat) := itemsF s.length s
def sureF : Nat → List UInt8 → Nat
  | 0, _ => 0
  | _ + 1, [] => 0
  | k + 1, a :: t => if (one (a :: t)).2.2 then 0 else (one (a :: t)).2.1 + sureF k ((a :: t).drop (one (a :: t)).2.1)
def sure (s : List UInt8) : Nat := sureF s.length s

theorem ext_ge (n a : Nat) : ∀ (t : List UInt8) (k : Nat), k ≤ ext n a k t
  | [], _ => Nat.le_refl _
  | b :: t, k => by
    unfold ext
    split
    · have := ext_ge n a t (k + 1); omega
    · exact Nat.le_refl _
theorem ext_le (n a : Nat) : ∀ (t : List UInt8) (k : Nat), ext n a k t ≤ k + t.length
  | [], _ => Nat.le_refl _
  | b :: t, k => by
    unfold ext
    split
    · have := ext_le n a t (k + 1); simp; omega
    · simp
theorem ext_top (n a : Nat) : ∀ (t : List UInt8) (k : Nat), k ≤ n → ext n a k t ≤ n
  | [], _, h => h
  | b :: t, k, h => by
    unfold ext
    split
    · exact ext_top n a t (k + 1) (by omega)
    · exact h
theorem ext_append (n a : Nat) : ∀ (t r : List UInt8) (k : Nat), ext n a k t = k + t.length → ext n a k (t ++ r) = ext n a (k + t.length) r
  | [], _, _, _ => by simp
  | b :: t, r, k, h => by
    rw [List.cons_append, ext]
    rw [ext] at h
    split at h
    · rename_i hc
      rw [if_pos hc, ext_append n a t r (k + 1) (by simp at h ⊢; omega)]
      congr 1; simp; omega
    · simp at h

theorem need_le (a : Nat) : need a ≤ 4 := by unfold need; split; omega; split; omega; split; omega; split <;> omega

theorem one_pos : ∀ s : List UInt8, 1 ≤ (one s).2.1
  | [] => Nat.le_refl _
  | a :: t => by
    have h := ext_ge (need a.toNat) a.toNat t 1
    rw [one_cons]
    split
    · exact Nat.le_refl _
    · split
      · exact h
      · show 1 ≤ need a.toNat; omega
theorem one_len : ∀ s : List UInt8, s ≠ [] → (one s).2.1 ≤ s.length
  | [], h => absurd rfl h
  | a :: t, _ => by
    have h := ext_le (need a.toNat) a.toNat t 1
    rw [one_cons]
    split
    · simp
    · split
      · show ext _ _ _ _ ≤ _; simp; omega
      · show need a.toNat ≤ _; simp; omega

end Utf
end Go.Proofs.YtaadphifagimaaaDoor
