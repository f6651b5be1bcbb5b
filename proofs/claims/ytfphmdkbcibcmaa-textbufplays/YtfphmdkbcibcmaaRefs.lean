/- The document's own Splice. -/
import Derived.Test.YtfphmdkbcibcmaaRefm
import Derived.Deep.RegionHeld3
namespace Go.Proofs.Ytfphmdkbcibcmaa
open Go.RowKit

set_option maxHeartbeats 400000 in
theorem rspl_range {B b : Nat} {most : Int} {t : List UInt8} {olds : List (List UInt8)} {w : World} (h : PlainIs B b most t olds w) (x y : Int) (s : ByteArray) (ht : t.length ≤ 65536) (hno : ¬ InB t.length x y) :
    Calls Try.prog 13 #[.pointer (some ⟨b, 0, none⟩), .agg #[.int .i64 x, .int .i64 y, .string s]] w fun e w' => e = .returned (.int .i64 1) ∧ Below w.heap.size w w' := by
  obtain ⟨vo, vc, hx, hb, ho, hc1, hc2, c0, c1, c2, hf⟩ := h.cells
  have hb0 : Below w.heap.size w (w.alloc (.cells #[.int .i64 x, .int .i64 y, .string s] 31)) := (Below.refl _ _).alloc (Nat.le_refl _) _
  clear hb ho hf h c1 c2
  go_enter Try.func13, Try.ntmps13
  go_wp2_with fail
  go_region_with (go_at_call 19; refine (may_no x y s t.length _ ht hno).mono ?_; rintro e w2 ⟨rfl, b2⟩)
  all_goals
    go_wp2_with fail
    go_ret
    exact ⟨rfl, hb0.drew.trans (b2.mono (by simp))⟩

/-- May, with four cells of the world that stay. -/
theorem may_yesX (x y : Int) (s : ByteArray) (n : Nat) (w : World) (hn : n ≤ 65536) (h : InB n x y) (p0 p1 p2 p3 : Addr) (v0 v1 v2 v3 : Value) (c0 : w.cell? p0 = some v0) (c1 : w.cell? p1 = some v1) (c2 : w.cell? p2 = some v2) (c3 : w.cell? p3 = some v3) :
    Calls Try.prog 19 #[.agg #[.int .i64 x, .int .i64 y, .string s], .int .i64 n] w fun e w' => e = .returned (.bool true) ∧ Below w.heap.size w w' ∧ w'.cell? p0 = some v0 ∧ w'.cell? p1 = some v1 ∧ w'.cell? p2 = some v2 ∧ w'.cell? p3 = some v3 := by
  refine (may_yes x y s n w hn h).mono ?_
  rintro e w' ⟨he, hb⟩
  have hc : ∀ (p : Addr) v, w.cell? p = some v → w'.cell? p = some v := fun p v hp => by rw [hb.cell (World.block_lt_of_cell? w p hp)]; exact hp
  exact ⟨he, hb, hc _ _ c0, hc _ _ c1, hc _ _ c2, hc _ _ c3⟩

set_option maxHeartbeats 1000000 in
theorem rspl_size {B b : Nat} {most : Int} {t : List UInt8} {olds : List (List UInt8)} {w : World} (h : PlainIs B b most t olds w) (x y : Int) (s : ByteArray) (ht : t.length ≤ 65536) (hm0 : 0 ≤ most) (hm : most ≤ 65536) (hin : InB t.length x y) (hs : most - ((t.length : Int) - y) < (s.size : Int)) (hbig : s.size ≤ maxLen) :
    Calls Try.prog 13 #[.pointer (some ⟨b, 0, none⟩), .agg #[.int .i64 x, .int .i64 y, .string s]] w fun e w' => e = .returned (.int .i64 2) ∧ Below w.heap.size w w' := by
  obtain ⟨vo, vc, hx, hb, ho, hc1, hc2, c0, c1, c2, hf⟩ := h.cells
  have hb0 : Below w.heap.size w (w.alloc (.cells #[.int .i64 x, .int .i64 y, .string s] 31)) := (Below.refl _ _).alloc (Nat.le_refl _) _
  have hE0 : (w.alloc (.cells #[.int .i64 x, .int .i64 y, .string s] 31)).heap[w.heap.size]? = some (.cells #[.int .i64 x, .int .i64 y, .string s] 31 (0, 0)) := heap_alloc_new _ _
  obtain ⟨n, hn⟩ : ∃ n, t.length = n := ⟨_, rfl⟩
  have hin2 := hin
  unfold InB at hin2
  rw [hn] at hs ht hin2
  unfold maxLen at hbig
  have hw1 : IntKind.i64.wrap ((n : Int) - y) = (n : Int) - y := by rw [IntKind.wrap_i64]; omega
  have hw2 : IntKind.i64.wrap (most - (s.size : Int)) = most - (s.size : Int) := by rw [IntKind.wrap_i64]; omega
  have HN : Hid (t.length = n) := hn
  have HIN : Hid (InB t.length x y) := hin
  have HT : Hid (t.length ≤ 65536) := by have := hn; show _ ≤ _; omega
  have F0 : Hid ((w.alloc (.cells #[.int .i64 x, .int .i64 y, .string s] 31)).drew.cell? ⟨b, 0, none⟩ = some (.string ⟨t.toArray⟩)) := (hb0.cell (p := ⟨b, 0, none⟩) hx).trans c0
  have F1 : Hid ((w.alloc (.cells #[.int .i64 x, .int .i64 y, .string s] 31)).drew.cell? ⟨w.heap.size, 0, none⟩ = some (.int .i64 x)) := (ed_cells hE0).1
  have F2 : Hid ((w.alloc (.cells #[.int .i64 x, .int .i64 y, .string s] 31)).drew.cell? ⟨w.heap.size, 1, none⟩ = some (.int .i64 y)) := (ed_cells hE0).2.1
  have F3 : Hid ((w.alloc (.cells #[.int .i64 x, .int .i64 y, .string s] 31)).drew.cell? ⟨w.heap.size, 2, none⟩ = some (.string s)) := (ed_cells hE0).2.2
  clear hb ho hf h hn hin
  by_cases hc : most < (s.size : Int)
  · have d1 : decide (most < (s.size : Int)) = true := decide_eq_true hc
    go_enter Try.func13, Try.ntmps13
    go_wp2_with fail
    go_region_held3 (fun w' => w'.cell? ⟨b, 0, none⟩ = some (.string ⟨t.toArray⟩) ∧ w'.cell? ⟨w.heap.size, 0, none⟩ = some (.int .i64 x) ∧ w'.cell? ⟨w.heap.size, 1, none⟩ = some (.int .i64 y) ∧ w'.cell? ⟨w.heap.size, 2, none⟩ = some (.string s)) (go_keep)
      (first | (go_at_call 19; refine (may_yesX x y s t.length _ HT.out HIN.out _ _ _ _ _ _ _ _ F0.out F1.out F2.out F3.out).mono ?_; rintro e w2 ⟨rfl, b2, g0, g1, g2, g3⟩))
    all_goals
      have hbw2 : Below w.heap.size w w2 := hb0.drew.trans (b2.mono (by simp))
      have k1 : w2.cell? ⟨b, 1, none⟩ = some (.int .i64 most) := (hbw2.cell (p := ⟨b, 1, none⟩) hx).trans c1
      go_wp2_with fail
      go_quiet (fail)
      go_wp2_with fail
      go_ret
      exact ⟨rfl, below_drewN hbw2 _⟩
  · have d1 : decide (most < (s.size : Int)) = false := decide_eq_false hc
    have d2 : decide (most - (s.size : Int) < (n : Int) - y) = true := decide_eq_true (by omega)
    go_enter Try.func13, Try.ntmps13
    go_wp2_with fail
    go_region_held3 (fun w' => w'.cell? ⟨b, 0, none⟩ = some (.string ⟨t.toArray⟩) ∧ w'.cell? ⟨w.heap.size, 0, none⟩ = some (.int .i64 x) ∧ w'.cell? ⟨w.heap.size, 1, none⟩ = some (.int .i64 y) ∧ w'.cell? ⟨w.heap.size, 2, none⟩ = some (.string s)) (go_keep)
      (first | (go_at_call 19; refine (may_yesX x y s t.length _ HT.out HIN.out _ _ _ _ _ _ _ _ F0.out F1.out F2.out F3.out).mono ?_; rintro e w2 ⟨rfl, b2, g0, g1, g2, g3⟩))
    all_goals
      have hbw2 : Below w.heap.size w w2 := hb0.drew.trans (b2.mono (by simp))
      have k1 : w2.cell? ⟨b, 1, none⟩ = some (.int .i64 most) := (hbw2.cell (p := ⟨b, 1, none⟩) hx).trans c1
      have hn2 := HN.out
      go_wp2_with fail
      go_quiet (fail)
      go_wp2_with fail
      go_ret
      exact ⟨rfl, below_drewN hbw2 _⟩
end Go.Proofs.Ytfphmdkbcibcmaa
