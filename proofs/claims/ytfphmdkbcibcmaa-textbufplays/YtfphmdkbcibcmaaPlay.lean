/- The law TextbufPlays, as the program runs it. -/
import Derived.Test.YtfphmdkbcibcmaaOut
namespace Go.Proofs.Ytfphmdkbcibcmaa
open Go.RowKit

/-- A deed: an edit, or an undo. -/
structure De where
  e : Ed
  u : Bool

/-- A row of deeds that came in. -/
def DeRow (w : World) (lo : Option Addr) (len : Nat) (f : Nat → De) : Prop :=
  ∀ i, i < len → (f i).e.s.size ≤ maxLen ∧ ∃ b off, lo = some ⟨b, off, none⟩ ∧ b < w.heap.size ∧ w.cell? ⟨b, off + i * 4, none⟩ = some (.int .i64 (f i).e.a) ∧ w.cell? ⟨b, off + i * 4 + 1, none⟩ = some (.int .i64 (f i).e.d) ∧ w.cell? ⟨b, off + i * 4 + 2, none⟩ = some (.string (f i).e.s) ∧ w.cell? ⟨b, off + i * 4 + 3, none⟩ = some (.bool (f i).u)

set_option maxRecDepth 100000 in
set_option maxHeartbeats 1000000 in
theorem play_no (s : ByteArray) (most : Int) (lo : Option Addr) (len cap : Nat) (w : World) (h : (most < 0 ∨ 65536 < most) ∨ 0 ≤ most ∧ most ≤ 65536 ∧ most < (s.size : Int)) :
    Calls Try.prog 3 #[.string s, .int .i64 most, .slice lo len cap] w fun e w' => e = .returned (.bool true) ∧ Below w.heap.size w w' := by
  obtain ⟨n, hb, hx⟩ : ∃ n : Int, (∀ w, Calls Try.prog 8 #[.string s, .int .i64 most] w fun e w' => e = .returned (.tuple #[.pointer none, .int .i64 n]) ∧ w' = w) ∧ (∀ w, Calls Try.prog 9 #[.string s, .int .i64 most] w fun e w' => e = .returned (.tuple #[.pointer none, .int .i64 n]) ∧ w' = w) := by
    rcases h with h | ⟨h1, h2, h3⟩
    · exact ⟨3, fun w => new_arg s most w h, fun w => rnew_arg s most w h⟩
    · exact ⟨2, fun w => new_size s most w h1 h2 h3, fun w => rnew_size s most w h1 h2 h3⟩
  have HB : Hid (∀ w, Calls Try.prog 8 #[.string s, .int .i64 most] w fun e w' => e = .returned (.tuple #[.pointer none, .int .i64 n]) ∧ w' = w) := hb
  have HX : Hid (∀ w, Calls Try.prog 9 #[.string s, .int .i64 most] w fun e w' => e = .returned (.tuple #[.pointer none, .int .i64 n]) ∧ w' = w) := hx
  clear hb hx h
  go_enter Try.func3, Try.ntmps3
  go_wp2_with fail
  refine Calls.mono (HB.out w) ?_
  rintro e w1 ⟨rfl, hw⟩
  subst hw
  go_wp2_with fail
  refine Calls.mono (HX.out w1) ?_
  rintro e w2 ⟨rfl, hw⟩
  subst hw
  go_wp2_with fail
  go_loop [11] (fun i => ∃ k : Nat, k = 0 ∧ i = .int .i64 k) (fun _ => 0)
  case atStart => exact ⟨0, rfl, rfl⟩
  case round =>
    obtain ⟨k, rfl, rfl⟩ := hrel
    go_wp2_with fail
    all_goals
      refine (awake_any _).mono ?_
      rintro e w3 ⟨rfl, b3⟩
      go_wp2_with fail
      go_ret
      exact ⟨rfl, b3⟩
end Go.Proofs.Ytfphmdkbcibcmaa
