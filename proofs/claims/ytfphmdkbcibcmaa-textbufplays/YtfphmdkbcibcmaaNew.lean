/- textbuf.New. -/
import Derived.Test.YtfphmdkbcibcmaaMeth
namespace Go.Proofs.Ytfphmdkbcibcmaa
open Go.RowKit

theorem apply_as (B b : Nat) (most len : Int) (ps : List Pc) (es : List Ed) (w : World) (k m : Nat) (kz mz : Int) (hkz : kz = (k : Int)) (hmz : mz = (m : Int)) (s : ByteArray) (h : BufIs B b most len ps es w) (hkm : k + m ≤ (text ps).length) (hsz : (text ps).length + s.size ≤ 500000) (hB : B ≤ w.heap.size)
    (hl0 : 0 ≤ len) (hl1 : len ≤ 500000) :
    Calls Try.prog 20 #[.pointer (some ⟨b, 0, none⟩), .agg #[.int .i64 kz, .int .i64 mz, .string s]] w fun e w' => e = .returned (.tuple #[]) ∧ ∃ ps', text ps' = (text ps).take k ++ s.data.toList ++ (text ps).drop (k + m) ∧
      BufIs B b most (len + ((s.size : Int) - mz)) ps' es w' ∧ Kept [59, 54, 5] B w w' := by
  subst hkz; subst hmz
  exact apply_any B b most len ps es w k m s h hkm hsz hB hl0 hl1

theorem start_is (most : Int) (w : World) : BufIs w.heap.size w.heap.size most 0 [] [] (w.alloc (.cells #[.int .i64 most, .int .i64 0, .slice none 0 0, .slice none 0 0] 54)) :=
  ⟨Nat.le_refl _, ⟨_, _, heap_alloc_new _ _, World.ownsRow_nil _ _ _ _, World.ownsRow_nil _ _ _ _⟩, fun p hp => by simp at hp, List.Pairwise.nil⟩

set_option maxHeartbeats 400000 in
theorem new_ok (s : ByteArray) (most : Int) (w : World) (h0 : (s.size : Int) ≤ most) (h1 : most ≤ 65536) :
    Calls Try.prog 8 #[.string s, .int .i64 most] w fun e w' => e = .returned (.tuple #[.pointer (some ⟨w.heap.size, 0, none⟩), .int .i64 0]) ∧ BufT w.heap.size w.heap.size most s.data.toList [] w' ∧ Below w.heap.size w w' := by
  have hst := start_is most w
  have hbe : Below w.heap.size w (w.alloc (.cells #[.int .i64 most, .int .i64 0, .slice none 0 0, .slice none 0 0] 54)) := (Below.refl _ _).alloc (Nat.le_refl _) _
  have hsz : (w.alloc (.cells #[.int .i64 most, .int .i64 0, .slice none 0 0, .slice none 0 0] 54)).heap.size = w.heap.size + 1 := by simp
  have HZ : Hid ((w.alloc (.cells #[.int .i64 most, .int .i64 0, .slice none 0 0, .slice none 0 0] 54)).heap.size = w.heap.size + 1) := hsz
  clear hsz
  go_enter Try.func8, Try.ntmps8
  go_wp2_with (go_at_call 20; refine (apply_as w.heap.size w.heap.size most 0 [] [] _ 0 0 _ _ rfl rfl s hst (Nat.le_refl _) (by simp [text]; omega) (by have := HZ.out; omega) (by omega) (by omega)).mono ?_; rintro e w1 ⟨rfl, ps', t1, b1, K1⟩)
  go_ret2
  have hsl : s.data.toList.length = s.size := Array.length_toList
  refine ⟨rfl, ⟨ps', ?_, ?_⟩, hbe.trans (K1.below (by have := HZ.out; omega))⟩
  · have e : (0 : Int) + ((s.size : Int) - 0) = (s.data.toList.length : Nat) := by rw [hsl]; omega
    rw [← e]; exact b1
  · simpa [text] using t1

set_option maxHeartbeats 400000 in
theorem new_arg (s : ByteArray) (most : Int) (w : World) (h0 : most < 0 ∨ 65536 < most) :
    Calls Try.prog 8 #[.string s, .int .i64 most] w fun e w' => e = .returned (.tuple #[.pointer none, .int .i64 3]) ∧ w' = w := by
  rcases h0 with h0 | h0
  · go_enter Try.func8, Try.ntmps8
    go_wp2_with fail
    go_ret2
    exact ⟨rfl, rfl⟩
  · go_enter Try.func8, Try.ntmps8
    go_wp2_with fail
    all_goals (go_ret2; exact ⟨rfl, rfl⟩)

set_option maxHeartbeats 400000 in
theorem new_size (s : ByteArray) (most : Int) (w : World) (h0 : 0 ≤ most) (h1 : most ≤ 65536) (h2 : most < (s.size : Int)) :
    Calls Try.prog 8 #[.string s, .int .i64 most] w fun e w' => e = .returned (.tuple #[.pointer none, .int .i64 2]) ∧ w' = w := by
  go_enter Try.func8, Try.ntmps8
  go_wp2_with fail
  all_goals (go_ret2; exact ⟨rfl, rfl⟩)
end Go.Proofs.Ytfphmdkbcibcmaa
