/- Short names. -/
import Derived.WalkKit
import Derived.WalkSpells
import Derived.WalkLawsBesides
import Derived.WalkMore
import Derived.WalkArith
import Derived.OwnWalk
import Derived.Below
import Derived.Maps.AppendAt
namespace Go.Proofs.YtjjfalbngcbfaaaGreatDoor
open Go.RowKit
abbrev jn : Value := .slice none 0 0
abbrev js : Value := .string ⟨#[]⟩
abbrev ji (n : Int) : Value := .int .i64 n
abbrev jr (v : Value) : Ending := .returned v
abbrev jl : Type := List UInt8
theorem jq.{u} {c : Prop} {h : Decidable c} (k : ¬ c) {α : Sort u} {a b : α} : (ite c a b) = b := if_neg k
theorem jp.{u} {c : Prop} {h : Decidable c} (k : c) {α : Sort u} {a b : α} : (ite c a b) = a := if_pos k
abbrev jd (b o : Nat) : Addr := ⟨b,o,none⟩
theorem zb (n : Nat) : n ≤ n := Nat.le_refl n
theorem ze (w : World) (o : Obj) : Below w.heap.size w (w.alloc o) := (Below.refl _ _).alloc (Nat.le_refl _) _
theorem zf {α : Type} {s : Array α} {i : Nat} {a : α} (h : s[i]? = some a) : i < s.size := (Array.getElem?_eq_some_iff.1 h).1
theorem zg {α : Type} {s : List α} {i : Nat} {a : α} (h : s[i]? = some a) : i < s.length := (List.getElem?_eq_some_iff.1 h).1
theorem zh {α : Type} {a b : List α} : (a ++ b).length = a.length + b.length := List.length_append
theorem zi {α : Type} {a : α} {b : List α} : (a :: b).length = b.length + 1 := List.length_cons
theorem zj {α : Type} : ([] : List α).length = 0 := rfl
theorem zk {α : Type} {n : Nat} {a : List α} : (a.drop n).length = a.length - n := List.length_drop
theorem zl {α : Type} (a : α) (b : List α) : b <:+ a :: b := List.suffix_cons a b
theorem zm {p : Prop} [d : Decidable p] (h : p) : decide p = true := decide_eq_true h
theorem zn {p : Prop} [d : Decidable p] (h : ¬ p) : decide p = false := decide_eq_false h
theorem zo {a b c : Nat} (h : a < b) (k : b ≤ c) : a < c := Nat.lt_of_lt_of_le h k
theorem zq {fn : Func} {t : Array Value} {P : Program} {w : World} (h : fn.results = #[]) : (results fn t).run P w = .ok (.tuple #[]) w := results_none h t P w
theorem zr {a b c : Nat} (h : a ≤ b) (k : b ≤ c) : a ≤ c := Nat.le_trans h k
theorem zu {α : Type} (a : List α) : a ++ [] = a := List.append_nil a
theorem zw {α : Type} {a : Array α} : a.toList.length = a.size := Array.length_toList
theorem zx (w : World) (o : Obj) : (w.alloc o).heap[w.heap.size]? = some o := heap_alloc_new w o
theorem zy {α : Type} {s : List α} {i : Nat} (h : i < s.length) : s[i]? = some s[i] := List.getElem?_eq_getElem h
theorem ya {a b : Nat} (h : a < b) : a ≤ b := Nat.le_of_lt h
theorem yc {p q : Prop} (a : p) (b : q) : Hid (p ∧ q) := ⟨a,b⟩
theorem yd {p q r : Prop} (a : p) (b : q) (c : r) : Hid (p ∧ q ∧ r) := ⟨a,b,c⟩
theorem ye {p q r s : Prop} (a : p) (b : q) (c : r) (d : s) : Hid (p ∧ q ∧ r ∧ s) := ⟨a,b,c,d⟩
theorem yf {p q r s t : Prop} (a : p) (b : q) (c : r) (d : s) (e : t) : Hid (p ∧ q ∧ r ∧ s ∧ t) := ⟨a,b,c,d,e⟩
theorem yg {p q r s t u : Prop} (a : p) (b : q) (c : r) (d : s) (e : t) (f : u) : Hid (p ∧ q ∧ r ∧ s ∧ t ∧ u) := ⟨a,b,c,d,e,f⟩
theorem yb {α : Type} {a : List α} (h : a.length = 0) : a = [] := List.eq_nil_of_length_eq_zero h
theorem hid {p : Prop} (h : p) : Hid p := h
theorem ex {α : Type} (a : α) : ∃ b,a = b := ⟨a,rfl⟩
theorem smx {P : Program} {f : FuncId} {a : Array Value} {w : World} {v : Ending} {Q : Ending → World → Prop} (c : Calls P f a w fun e w' => e = v ∧ w' = w) (h : Q v w) : Calls P f a w Q := c.mono fun _ _ k => by
  rw [k.1,k.2]
  exact h
end Go.Proofs.YtjjfalbngcbfaaaGreatDoor
