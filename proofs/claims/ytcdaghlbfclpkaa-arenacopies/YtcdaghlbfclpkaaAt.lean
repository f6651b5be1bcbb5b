/- Get of a number that is no node's. -/
import Derived.Test.YtcdaghlbfclpkaaAm
namespace Go.Proofs.Ytcdaghlbfclpkaa
open Go.RowKit
theorem get_no {S : Nat → Prop} {w : World} {x g n cn h cs k ce : Nat} {N : List Nd} {P : List Sp} {E : List En} (o : Op3 S w x g n cn h cs k ce N P E) {i : Int} (hi : isN n i = false) :
    Calls Try.prog 25 #[ptr x, iv i] w (fun e w' => e = .returned (.tuple #[.agg #[Value.int IntKind.i64 0, Value.int IntKind.i64 0, Value.int IntKind.i64 0, Value.string { data := #[] }, Value.string { data := #[] }, Value.slice none 0 0, Value.int IntKind.i64 0, Value.int IntKind.i64 0, Value.int IntKind.i64 0, Value.int IntKind.i64 0, Value.slice none 0 0], iv 4]) ∧ Below w.heap.size w w') := by
  have b0 : Below w.heap.size w (w.alloc (.cells #[Value.int IntKind.i64 0, Value.int IntKind.i64 0, Value.int IntKind.i64 0, Value.string { data := #[] }, Value.string { data := #[] }, Value.slice none 0 0, Value.int IntKind.i64 0, Value.int IntKind.i64 0, Value.int IntKind.i64 0, Value.int IntKind.i64 0, Value.slice none 0 0] 35)) := (Below.refl _ _).alloc (Nat.le_refl _) _
  have k1 := has_any (o.old b0) i
  rw [hi] at k1
  have HB : Hid (Below w.heap.size w (w.alloc (.cells #[Value.int IntKind.i64 0, Value.int IntKind.i64 0, Value.int IntKind.i64 0, Value.string { data := #[] }, Value.string { data := #[] }, Value.slice none 0 0, Value.int IntKind.i64 0, Value.int IntKind.i64 0, Value.int IntKind.i64 0, Value.int IntKind.i64 0, Value.slice none 0 0] 35))) := b0
  clear o hi b0
  go_enter Try.func25, Try.ntmps25
  go_wp2_with fail
  refine k1.mono ?_
  rintro e w' ⟨rfl, rfl⟩
  go_wp2_with fail
  go_returns
  exact ⟨rfl, HB.out⟩
end Go.Proofs.Ytcdaghlbfclpkaa
