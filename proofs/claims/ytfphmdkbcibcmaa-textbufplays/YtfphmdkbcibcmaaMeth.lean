/- The buffer's methods that do not edit, New, and every method on no buffer. -/
import Derived.Test.YtfphmdkbcibcmaaApply
namespace Go.Proofs.Ytfphmdkbcibcmaa
open Go.RowKit

/-- A buffer that holds text t and takes back by es. -/
def BufT (B b : Nat) (most : Int) (t : List UInt8) (es : List Ed) (w : World) : Prop := ∃ ps, BufIs B b most (t.length : Nat) ps es w ∧ text ps = t

theorem BufT.below {B b : Nat} {most : Int} {t : List UInt8} {es : List Ed} {w w' : World} (h : BufT B b most t es w) (k : Below w.heap.size w w') : BufT B b most t es w' := by
  obtain ⟨ps, h1, h2⟩ := h
  exact ⟨ps, h1.below k, h2⟩

theorem BufT.kept {T : List Nat} {B C b : Nat} {most : Int} {t : List UInt8} {es : List Ed} {w w' : World} (h : BufT B b most t es w) (k : Kept T C w w') (h5 : 5 ∉ T) (h31 : 31 ∉ T) (h54 : 54 ∉ T) (h59 : 59 ∉ T) : BufT B b most t es w' := by
  obtain ⟨ps, h1, h2⟩ := h
  exact ⟨ps, h1.kept k h5 h31 h54 h59, h2⟩

set_option maxHeartbeats 400000 in
theorem len_any (B b : Nat) (most : Int) (t : List UInt8) (es : List Ed) (w : World) (h : BufT B b most t es w) :
    Calls Try.prog 15 #[.pointer (some ⟨b, 0, none⟩)] w fun e w' => e = .returned (.int .i64 (t.length : Nat)) ∧ w' = w := by
  obtain ⟨ps, h1, -⟩ := h
  obtain ⟨pv, bv, k0, k1, k2, k3, hbw, hbk, hp, he⟩ := h1.cells
  clear hp he hbk h1
  go_enter Try.func15, Try.ntmps15
  go_wp2
  go_ret
  exact ⟨rfl, rfl⟩

theorem part_as (B b : Nat) (most len : Int) (ps : List Pc) (es : List Ed) (w : World) (f t : Nat) (fz tz : Int) (hfz : fz = (f : Int)) (htz : tz = (t : Int)) (h : BufIs B b most len ps es w) (hft : f ≤ t) (ht : t ≤ (text ps).length) (hsz : (text ps).length ≤ 1000000) :
    Calls Try.prog 21 #[.pointer (some ⟨b, 0, none⟩), .int .i64 fz, .int .i64 tz] w fun e w' => e = .returned (.string ⟨(((text ps).take t).drop f).toArray⟩) ∧ Below w.heap.size w w' := by
  subst hfz; subst htz
  exact part_any B b most len ps es w f t h hft ht hsz

set_option maxHeartbeats 400000 in
theorem text_any (B b : Nat) (most : Int) (t : List UInt8) (es : List Ed) (w : World) (h : BufT B b most t es w) (hs : t.length ≤ 1000000) :
    Calls Try.prog 14 #[.pointer (some ⟨b, 0, none⟩)] w fun e w' => e = .returned (.string ⟨t.toArray⟩) ∧ Below w.heap.size w w' := by
  obtain ⟨ps, h1, rfl⟩ := h
  obtain ⟨pv, bv, k0, k1, k2, k3, hbw, hbk, hp, he⟩ := h1.cells
  clear hp he hbk
  go_enter Try.func14, Try.ntmps14
  go_wp2_with (go_at_call 21; refine (part_as B b most _ ps es _ 0 (text ps).length _ _ rfl rfl h1 (Nat.zero_le _) (Nat.le_refl _) hs).mono ?_; rintro e w1 ⟨rfl, hb⟩)
  go_ret
  exact ⟨rfl, hb⟩

set_option maxHeartbeats 400000 in
theorem version_any (B b : Nat) (most : Int) (t : List UInt8) (es : List Ed) (w : World) (h : BufT B b most t es w) :
    Calls Try.prog 16 #[.pointer (some ⟨b, 0, none⟩)] w fun e w' => e = .returned (.int .i64 (es.length : Nat)) ∧ w' = w := by
  obtain ⟨ps, h1, -⟩ := h
  obtain ⟨pv, bv, k0, k1, k2, k3, hbw, hbk, hp, he⟩ := h1.cells
  obtain ⟨ao, c, hbv⟩ : ∃ ao c, bv = .slice ao es.length c := by
    rcases he.2 with ⟨hv, h0⟩ | ⟨g, cap, cur, hv, _⟩
    · exact ⟨none, 0, by rw [hv, h0]⟩
    · exact ⟨_, _, hv⟩
  subst hbv
  clear hp he hbk h1
  go_enter Try.func16, Try.ntmps16
  go_wp2
  go_ret
  exact ⟨rfl, rfl⟩

set_option maxHeartbeats 400000 in
theorem slice_ok (B b : Nat) (most : Int) (t : List UInt8) (es : List Ed) (w : World) (h : BufT B b most t es w) (hs : t.length ≤ 1000000) (f k : Nat) (hf : f ≤ k) (hk : k ≤ t.length) :
    Calls Try.prog 17 #[.pointer (some ⟨b, 0, none⟩), .int .i64 f, .int .i64 k] w fun e w' => e = .returned (.tuple #[.string ⟨((t.take k).drop f).toArray⟩, .int .i64 0]) ∧ Below w.heap.size w w' := by
  obtain ⟨ps, h1, rfl⟩ := h
  obtain ⟨pv, bv, k0, k1, k2, k3, hbw, hbk, hp, he⟩ := h1.cells
  clear hp he hbk
  go_enter Try.func17, Try.ntmps17
  go_wp2_with (go_at_call 21; refine (part_any B b most _ ps es _ f k h1 hf hk hs).mono ?_; rintro e w1 ⟨rfl, hb⟩)
  all_goals (go_ret2; exact ⟨rfl, hb⟩)

set_option maxHeartbeats 400000 in
theorem slice_no (B b : Nat) (most : Int) (t : List UInt8) (es : List Ed) (w : World) (h : BufT B b most t es w) (_hs : t.length ≤ 1000000) (f k : Int) (hno : ¬ (0 ≤ f ∧ f ≤ k ∧ k ≤ (t.length : Nat))) :
    Calls Try.prog 17 #[.pointer (some ⟨b, 0, none⟩), .int .i64 f, .int .i64 k] w fun e w' => e = .returned (.tuple #[.string ⟨#[]⟩, .int .i64 1]) ∧ w' = w := by
  obtain ⟨ps, h1, -⟩ := h
  obtain ⟨pv, bv, k0, k1, k2, k3, hbw, hbk, hp, he⟩ := h1.cells
  clear hp he hbk h1
  go_enter Try.func17, Try.ntmps17
  go_wp2_with fail
  all_goals (go_ret2; exact ⟨rfl, rfl⟩)

set_option maxHeartbeats 400000 in
theorem nil_len (w : World) : Calls Try.prog 15 #[.pointer none] w fun e w' => e = .returned (.int .i64 0) ∧ w' = w := by
  go_enter Try.func15, Try.ntmps15
  go_wp2
  go_ret
  exact ⟨rfl, rfl⟩
set_option maxHeartbeats 400000 in
theorem nil_text (w : World) : Calls Try.prog 14 #[.pointer none] w fun e w' => e = .returned (.string ⟨#[]⟩) ∧ w' = w := by
  go_enter Try.func14, Try.ntmps14
  go_wp2
  go_ret
  exact ⟨rfl, rfl⟩
set_option maxHeartbeats 400000 in
theorem nil_version (w : World) : Calls Try.prog 16 #[.pointer none] w fun e w' => e = .returned (.int .i64 0) ∧ w' = w := by
  go_enter Try.func16, Try.ntmps16
  go_wp2
  go_ret
  exact ⟨rfl, rfl⟩
set_option maxHeartbeats 400000 in
theorem nil_slice (f k : Int) (w : World) : Calls Try.prog 17 #[.pointer none, .int .i64 f, .int .i64 k] w fun e w' => e = .returned (.tuple #[.string ⟨#[]⟩, .int .i64 3]) ∧ w' = w := by
  go_enter Try.func17, Try.ntmps17
  go_wp2
  go_ret2
  exact ⟨rfl, rfl⟩
set_option maxHeartbeats 400000 in
theorem nil_undo (w : World) : Calls Try.prog 10 #[.pointer none] w fun e w' => e = .returned (.bool false) ∧ w' = w := by
  go_enter Try.func10, Try.ntmps10
  go_wp2
  go_ret
  exact ⟨rfl, rfl⟩
set_option maxHeartbeats 400000 in
theorem nil_splice (x y : Int) (s : ByteArray) (w : World) : Calls Try.prog 12 #[.pointer none, .agg #[.int .i64 x, .int .i64 y, .string s]] w fun e w' => e = .returned (.int .i64 3) ∧ Below w.heap.size w w' := by
  go_enter Try.func12, Try.ntmps12
  go_wp2
  go_ret
  exact ⟨rfl, (Below.refl _ _).alloc (Nat.le_refl _) _⟩
end Go.Proofs.Ytfphmdkbcibcmaa
