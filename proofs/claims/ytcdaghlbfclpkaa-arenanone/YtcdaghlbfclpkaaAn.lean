/- Calls on nil. -/
import Derived.Test.YtcdaghlbfclpkaaAb
import Derived.Handy
namespace Go.Proofs.Ytcdaghlbfclpkaa
open Go.RowKit
theorem det_nil (w : World) (i : Int) : Calls Try.prog 26 #[.pointer none, iv i] w (Rd (iv 3) w) := by
  go_enter Try.func26, Try.ntmps26
  go_wp2_with fail
  go_ret
  exact ⟨rfl, rfl⟩
theorem par_nil (w : World) (i : Int) : Calls Try.prog 14 #[.pointer none, iv i] w (Rd (iv (-1)) w) := by
  have k := has_nil w i
  go_enter Try.func14, Try.ntmps14
  go_wp2_with fail
  refine k.mono ?_
  rintro e w' ⟨rfl, rfl⟩
  go_wp2_with fail
  go_ret
  exact ⟨rfl, rfl⟩
theorem kids_nil (w : World) (i : Int) : Calls Try.prog 17 #[.pointer none, iv i] w (Rd (.slice none 0 0) w) := by
  have k := has_nil w i
  go_enter Try.func17, Try.ntmps17
  go_wp2_with fail
  refine k.mono ?_
  rintro e w' ⟨rfl, rfl⟩
  go_wp2_with fail
  go_ret
  exact ⟨rfl, rfl⟩
theorem wants_nil (w : World) (i a b : Int) : Calls Try.prog 49 #[.pointer none, iv i, iv a, iv b] w (Rd (iv 3) w) := by
  go_enter Try.func49, Try.ntmps49
  go_wp2_with fail
  go_ret
  exact ⟨rfl, rfl⟩
theorem text_nil (w : World) (i : Int) (s : ByteArray) : Calls Try.prog 27 #[.pointer none, iv i, .string s] w (Rd (iv 3) w) := by
  have k := wants_nil w i 2 3
  go_enter Try.func27, Try.ntmps27
  go_wp2_with fail
  refine k.mono ?_
  rintro e w' ⟨rfl, rfl⟩
  go_wp2_with fail
  go_ret
  exact ⟨rfl, rfl⟩
theorem attrs_nil (w : World) (i : Int) (ao : Option Addr) (n c : Nat) : Calls Try.prog 28 #[.pointer none, iv i, .slice ao n c] w (Rd (iv 3) w) := by
  have k := wants_nil w i 1 1
  go_enter Try.func28, Try.ntmps28
  go_wp2_with fail
  refine k.mono ?_
  rintro e w' ⟨rfl, rfl⟩
  go_wp2_with fail
  go_ret
  exact ⟨rfl, rfl⟩
theorem end_nil (w : World) (i a b : Int) : Calls Try.prog 29 #[.pointer none, iv i, .agg #[iv a, iv b]] w (fun e w' => e = .returned (iv 3) ∧ Below w.heap.size w w') := by
  have b0 : Below w.heap.size w (w.alloc (.cells #[iv a, iv b] 32)) := (Below.refl _ _).alloc (Nat.le_refl _) _
  have k := wants_nil (w.alloc (.cells #[iv a, iv b] 32)) i 1 1
  have HB : Hid (Below w.heap.size w (w.alloc (.cells #[iv a, iv b] 32))) := b0
  clear b0
  go_enter Try.func29, Try.ntmps29
  go_wp2_with fail
  refine k.mono ?_
  rintro e w' ⟨rfl, rfl⟩
  go_wp2_with fail
  go_ret
  exact ⟨rfl, HB.out⟩
theorem copy_nil (w : World) : Calls Try.prog 22 #[.pointer none] w (Rd (.pointer none) w) := by
  go_enter Try.func22, Try.ntmps22
  go_wp2_with fail
  go_ret
  exact ⟨rfl, rfl⟩
theorem tree_nil (w : World) (i : Int) : Calls Try.prog 20 #[.pointer none, iv i] w (fun e w' => e = .returned (.agg #[Value.int IntKind.i64 (-1), Value.int IntKind.i64 0, Value.int IntKind.i64 0, Value.string { data := #[] }, Value.string { data := #[] }, Value.slice none 0 0, Value.int IntKind.i64 0, Value.int IntKind.i64 0, Value.int IntKind.i64 0, Value.int IntKind.i64 0, Value.slice none 0 0]) ∧ Below w.heap.size w w') := by
  have k := fun w => has_nil w i
  have b0 : Below w.heap.size w (w.alloc (.cells #[Value.int IntKind.i64 (-1), Value.int IntKind.i64 0, Value.int IntKind.i64 0, Value.string { data := #[] }, Value.string { data := #[] }, Value.slice none 0 0, Value.int IntKind.i64 0, Value.int IntKind.i64 0, Value.int IntKind.i64 0, Value.int IntKind.i64 0, Value.slice none 0 0] 35)) := (Below.refl _ _).alloc (Nat.le_refl _) _
  have HB : Hid (Below w.heap.size w (w.alloc (.cells #[Value.int IntKind.i64 (-1), Value.int IntKind.i64 0, Value.int IntKind.i64 0, Value.string { data := #[] }, Value.string { data := #[] }, Value.slice none 0 0, Value.int IntKind.i64 0, Value.int IntKind.i64 0, Value.int IntKind.i64 0, Value.int IntKind.i64 0, Value.slice none 0 0] 35))) := b0
  clear b0
  go_enter Try.func20, Try.ntmps20
  go_wp2_with fail
  refine (k _).mono ?_
  rintro e w' ⟨rfl, rfl⟩
  go_wp2_with fail
  go_returns
  exact ⟨rfl, HB.out⟩
end Go.Proofs.Ytcdaghlbfclpkaa
