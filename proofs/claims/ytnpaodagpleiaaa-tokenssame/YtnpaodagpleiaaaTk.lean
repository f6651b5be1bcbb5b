/- Tokens in memory: their fields, their attributes, a row of them; two of them compared (pure). -/
import Derived.Test.YtnpaodagpleiaaaMem
namespace Go.Proofs.Ytnpaodagpleiaaa
open Go.RowKit

/-- A token: its fields; its attributes as a slice. -/
structure Tk where
  k : Int
  r : Int
  nm : ByteArray
  tx : ByteArray
  ao : Option Addr
  n : Nat
  cap : Nat
  s : Bool
  f : Int
  t : Int

abbrev Tk.arr (T : Tk) : Array Value := #[.int .i64 T.k, .int .i64 T.r, .string T.nm, .string T.tx, .slice T.ao T.n T.cap, .bool T.s, .int .i64 T.f, .int .i64 T.t]
abbrev Tk.val (T : Tk) : Value := .agg T.arr

def eqL : List At → List At → Bool
  | [], [] => true
  | x :: A, y :: B => At.eqb x y && eqL A B
  | _, _ => false
theorem eqL_iff : ∀ {A B : List At}, eqL A B = true ↔ A = B
  | [], [] => by simp [eqL]
  | [], y :: B => by simp [eqL]
  | x :: A, [] => by simp [eqL]
  | x :: A, y :: B => by
    unfold eqL
    rw [Bool.and_eq_true, At.eqb_iff, eqL_iff, List.cons.injEq]
theorem eqL_refl (A : List At) : eqL A A = true := eqL_iff.2 rfl
theorem eqL_len {A B : List At} (h : A.length ≠ B.length) : eqL A B = false := by
  cases e : eqL A B with
  | false => rfl
  | true => exact absurd (congrArg List.length (eqL_iff.1 e)) h
theorem eqL_comm (A B : List At) : eqL A B = eqL B A := by
  rw [Bool.eq_iff_iff, eqL_iff, eqL_iff]
  exact ⟨Eq.symm, Eq.symm⟩

theorem drop_at {α : Type} {L : List α} {i : Nat} {x : α} (h : L[i]? = some x) : L.drop i = x :: L.drop (i + 1) := by
  obtain ⟨h1, rfl⟩ := List.getElem?_eq_some_iff.1 h
  exact List.drop_eq_getElem_cons h1
theorem eqL_drop {A B : List At} {i : Nat} {x y : At} (hx : A[i]? = some x) (hy : B[i]? = some y) : eqL (A.drop i) (B.drop i) = (At.eqb x y && eqL (A.drop (i + 1)) (B.drop (i + 1))) := by
  rw [drop_at hx, drop_at hy]
  rfl

theorem beq_yes {a b : ByteArray} (h : a.data.toList = b.data.toList) : (a.toList == b.toList) = true := by rw [beq_bytes]; exact decide_eq_true h
theorem beq_no {a b : ByteArray} (h : ¬ a.data.toList = b.data.toList) : (a.toList == b.toList) = false := by rw [beq_bytes]; exact decide_eq_false h

theorem eq24 (a b c d : Int) (w : World) : (binOp .eql 24 (.agg #[.int .i64 a, .int .i64 b]) (.agg #[.int .i64 c, .int .i64 d])).run Try.prog w = .ok (.bool (decide (a = c) && decide (b = d))) w := by
  have u3 := Try.underlying3
  have a3 := Try.isAgg3
  have z3 := Try.sizeOf3
  have hS : Try.prog.underlying 24 = some (.struct (Try.prog.fieldsOf 24)) := by kernel_rfl
  have hp : Try.prog.stoodInHeld 24 = false := by kernel_rfl
  rw [run_eql_struct, show (10000 : Nat) = 9999 + 1 from rfl, run_equalIn_agg w 9999 24 _ _ hS hp]
  simp only [Program.fieldsOf, Try.underlying24]
  go_simp
  by_cases h1 : a = c <;> by_cases h2 : b = d <;> simp [h1, h2]

/-- What a token's attributes are in this memory. -/
structure TkOk (w : World) (T : Tk) (L : List At) : Prop where
  len : L.length = T.n
  row : AtRow w T.ao L
  small : T.n ≤ 9223372036854775807
theorem TkOk.below {w w' : World} {T : Tk} {L : List At} (h : TkOk w T L) (b : Below w.heap.size w w') : TkOk w' T L := ⟨h.len, h.row.below b, h.small⟩

/-- Whether two tokens are the same, by their fields and attributes. -/
def Tk.eqb (T U : Tk) (A B : List At) : Bool :=
  decide (T.k = U.k) && decide (T.r = U.r) && decide (T.nm.data.toList = U.nm.data.toList) && decide (T.tx.data.toList = U.tx.data.toList) && decide (T.s = U.s) && (decide (T.f = U.f) && decide (T.t = U.t)) && eqL A B

/-- A row of tokens that lies in memory, with each one's attributes. -/
def TkRow (w : World) (lo : Option Addr) (l : List (Tk × List At)) : Prop :=
  ∀ i x, l[i]? = some x → (∃ b off, lo = some ⟨b, off, none⟩ ∧ b < w.heap.size ∧ (∀ j u, x.1.arr[j]? = some u → w.cell? ⟨b, off + i * 8 + j, none⟩ = some u)) ∧ TkOk w x.1 x.2
theorem TkRow.below {w w' : World} {lo : Option Addr} {l : List (Tk × List At)} (h : TkRow w lo l) (b : Below w.heap.size w w') : TkRow w' lo l := fun i x hx => by
  obtain ⟨⟨k, off, h1, h2, h3⟩, ok⟩ := h i x hx
  exact ⟨⟨k, off, h1, Nat.lt_of_lt_of_le h2 b.size, fun j u hj => (b.cell (p := ⟨k, off + i * 8 + j, none⟩) h2).trans (h3 j u hj)⟩, ok.below b⟩
end Go.Proofs.Ytnpaodagpleiaaa
