/- The document's own buffer, as the law keeps it: a text and the texts that were. -/
import Derived.Test.YtfphmdkbcibcmaaRef
import Derived.Test.YtfphmdkbcibcmaaBackw
import Derived.BigRegion
namespace Go.Proofs.Ytfphmdkbcibcmaa
open Go.RowKit

/-- The plain buffer at block x. -/
structure PlainIs (B x : Nat) (most : Int) (t : List UInt8) (olds : List (List UInt8)) (w : World) : Prop where
  hB : B ≤ x
  blk : ∃ ov, w.heap[x]? = some (.cells #[strV t, .int .i64 most, ov] 40 (0, 0)) ∧ WasRow B ov olds w

theorem PlainIs.kept {T : List Nat} {B C x : Nat} {most : Int} {t : List UInt8} {olds : List (List UInt8)} {w w' : World} (h : PlainIs B x most t olds w) (k : Kept T C w w') (h9 : 9 ∉ T) (h40 : 40 ∉ T) : PlainIs B x most t olds w' := by
  obtain ⟨ov, hb, ho⟩ := h.blk
  exact ⟨h.hB, ov, k.at hb h40, was_kept ho k h9⟩
theorem PlainIs.below {B x : Nat} {most : Int} {t : List UInt8} {olds : List (List UInt8)} {w w' : World} (h : PlainIs B x most t olds w) (k : Below w.heap.size w w') : PlainIs B x most t olds w' :=
  h.kept (T := []) (C := 0) (Kept.ofBelow k) (by simp) (by simp)

theorem PlainIs.cells {B x : Nat} {most : Int} {t : List UInt8} {olds : List (List UInt8)} {w : World} (h : PlainIs B x most t olds w) :
    ∃ vo vc, x < w.heap.size ∧ w.heap[x]? = some (.cells #[strV t, .int .i64 most, .slice vo olds.length vc] 40 (0, 0)) ∧ WasRow B (.slice vo olds.length vc) olds w ∧ olds.length ≤ vc ∧ vc ≤ maxLen ∧
      w.cell? ⟨x, 0, none⟩ = some (.string ⟨t.toArray⟩) ∧ w.cell? ⟨x, 1, none⟩ = some (.int .i64 most) ∧ w.cell? ⟨x, 2, none⟩ = some (.slice vo olds.length vc) ∧ (∀ i, w.frozen? ⟨x, i, none⟩ = false) := by
  obtain ⟨ov, hb, ho⟩ := h.blk
  obtain ⟨vo, vc, hv, h1, h2⟩ : ∃ vo vc, ov = .slice vo olds.length vc ∧ olds.length ≤ vc ∧ vc ≤ maxLen := by
    rcases ho.2 with ⟨hv, h0⟩ | ⟨g, cap, cur, hv, _, _, h1, h2, _⟩
    · exact ⟨none, 0, by rw [hv, h0], by omega, Nat.zero_le _⟩
    · exact ⟨_, _, hv, h1, h2⟩
  subst hv
  refine ⟨vo, vc, (Array.getElem?_eq_some_iff.1 hb).1, hb, ho, h1, h2, ?_, ?_, ?_, ?_⟩
  · simp [World.cell?, hb, strV]
  · simp [World.cell?, hb]
  · simp [World.cell?, hb]
  · intro i; simp [World.frozen?, hb]

set_option maxHeartbeats 400000 in
theorem rnew_ok (s : ByteArray) (most : Int) (w : World) (B : Nat) (hB : B ≤ w.heap.size) (t : List UInt8) (ht : s.data.toList = t) (h0 : (s.size : Int) ≤ most) (h1 : most ≤ 65536) :
    Calls Try.prog 9 #[.string s, .int .i64 most] w fun e w' => e = .returned (.tuple #[.pointer (some ⟨w.heap.size, 0, none⟩), .int .i64 0]) ∧ PlainIs B w.heap.size most t [] w' ∧ Below w.heap.size w w' := by
  have hs : strV t = .string s := by rw [← ht]; unfold strV; cases s; simp
  have HS : Hid (strV t = .string s) := hs
  clear hs ht
  go_enter Try.func9, Try.ntmps9
  go_wp2_with fail
  go_ret2
  refine ⟨rfl, ⟨hB, .slice none 0 0, ?_, World.ownsRow_nil _ _ _ _⟩, (Below.refl _ _).alloc (Nat.le_refl _) _⟩
  rw [HS.out]; exact heap_alloc_new _ _

set_option maxHeartbeats 400000 in
theorem rnew_arg (s : ByteArray) (most : Int) (w : World) (h0 : most < 0 ∨ 65536 < most) :
    Calls Try.prog 9 #[.string s, .int .i64 most] w fun e w' => e = .returned (.tuple #[.pointer none, .int .i64 3]) ∧ w' = w := by
  rcases h0 with h0 | h0
  · go_enter Try.func9, Try.ntmps9
    go_wp2_with fail
    go_ret2
    exact ⟨rfl, rfl⟩
  · go_enter Try.func9, Try.ntmps9
    go_wp2_with fail
    all_goals (go_ret2; exact ⟨rfl, rfl⟩)

set_option maxHeartbeats 400000 in
theorem rnew_size (s : ByteArray) (most : Int) (w : World) (h0 : 0 ≤ most) (h1 : most ≤ 65536) (h2 : most < (s.size : Int)) :
    Calls Try.prog 9 #[.string s, .int .i64 most] w fun e w' => e = .returned (.tuple #[.pointer none, .int .i64 2]) ∧ w' = w := by
  go_enter Try.func9, Try.ntmps9
  go_wp2_with fail
  all_goals (go_ret2; exact ⟨rfl, rfl⟩)

set_option maxHeartbeats 400000 in
theorem rundo_no {B x : Nat} {most : Int} {t : List UInt8} {w : World} (h : PlainIs B x most t [] w) :
    Calls Try.prog 11 #[.pointer (some ⟨x, 0, none⟩)] w fun e w' => e = .returned (.bool false) ∧ w' = w := by
  obtain ⟨vo, vc, hx, hb, ho, hc1, hc2, c0, c1, c2, hf⟩ := h.cells
  rw [List.length_nil] at c2
  clear hb ho hf h
  go_enter Try.func11, Try.ntmps11
  go_wp2_with fail
  go_ret
  exact ⟨rfl, rfl⟩

/-- What the plain Undo leaves. -/
theorem rundo_mem {B x g vc : Nat} {most : Int} {t o : List UInt8} {olds : List (List UInt8)} {w : World} (h : PlainIs B x most t (o :: olds) w) (hb : w.heap[x]? = some (.cells #[strV t, .int .i64 most, .slice (some ⟨g, 0, none⟩) (olds.length + 1) vc] 40 (0, 0)))
    (ho : WasRow B (.slice (some ⟨g, 0, none⟩) (olds.length + 1) vc) (o :: olds) w) :
    PlainIs B x most o olds ((w.setCell ⟨x, 0, none⟩ (strV o)).setCell ⟨x, 2, none⟩ (.slice (some ⟨g, 0, none⟩) olds.length vc)) ∧ Kept [40] B w ((w.setCell ⟨x, 0, none⟩ (strV o)).setCell ⟨x, 2, none⟩ (.slice (some ⟨g, 0, none⟩) olds.length vc)) := by
  have h1 : (w.setCell ⟨x, 0, none⟩ (strV o)).heap[x]? = some (.cells #[strV o, .int .i64 most, .slice (some ⟨g, 0, none⟩) (olds.length + 1) vc] 40 (0, 0)) := by simp [World.setCell, Array.getElem?_modify, hb]
  have h2 : ((w.setCell ⟨x, 0, none⟩ (strV o)).setCell ⟨x, 2, none⟩ (.slice (some ⟨g, 0, none⟩) olds.length vc)).heap[x]? = some (.cells #[strV o, .int .i64 most, .slice (some ⟨g, 0, none⟩) olds.length vc] 40 (0, 0)) := by simp [World.setCell, Array.getElem?_modify, hb]
  have K : Kept [40] B w ((w.setCell ⟨x, 0, none⟩ (strV o)).setCell ⟨x, 2, none⟩ (.slice (some ⟨g, 0, none⟩) olds.length vc)) := ((Kept.refl _ _ _).setCell (p := ⟨x, 0, none⟩) hb (by simp) h.hB _).setCell (p := ⟨x, 2, none⟩) h1 (by simp) h.hB _
  refine ⟨⟨h.hB, _, h2, ?_⟩, K⟩
  have h3 := was_kept ho K (by simp)
  refine ⟨by simp, ?_⟩
  rcases h3.2 with ⟨hv, _⟩ | ⟨g', cap, cur, hv, hB, hgb, hn, hm, hs, htk⟩
  · cases hv
  · simp only [Value.slice.injEq, Option.some.injEq, Addr.mk.injEq, and_true] at hv
    obtain ⟨rfl, _, rfl⟩ := hv
    rw [List.length_cons] at hn htk
    refine .inr ⟨g, vc, cur, rfl, hB, hgb, by omega, hm, hs, ?_⟩
    have e : cur.toList.take (olds.length * 1) = (cur.toList.take ((olds.length + 1) * 1)).take olds.length := by rw [List.take_take]; congr 1; omega
    rw [e, htk, List.reverse_cons, List.map_append, List.take_append_of_le_length (by simp), List.take_of_length_le (by simp)]

set_option maxHeartbeats 1000000 in
theorem rundo_ok {B x : Nat} {most : Int} {t o : List UInt8} {olds : List (List UInt8)} {w : World} (h : PlainIs B x most t (o :: olds) w) (hl : olds.length ≤ 1000) :
    Calls Try.prog 11 #[.pointer (some ⟨x, 0, none⟩)] w fun e w' => e = .returned (.bool true) ∧ PlainIs B x most o olds w' ∧ Kept [40] B w w' := by
  obtain ⟨vo, vc, hx, hb, ho, hc1, hc2, c0, c1, c2, hf⟩ := h.cells
  rw [List.length_cons] at c2 hb ho hc1
  obtain ⟨n, hn⟩ : ∃ n, olds.length = n := ⟨_, rfl⟩
  obtain ⟨g, hvo, hcell, hgx⟩ : ∃ g, vo = some ⟨g, 0, none⟩ ∧ w.cell? ⟨g, n, none⟩ = some (.string ⟨o.toArray⟩) ∧ ¬ (x = g) := by
    rcases (own_open ho).2 with ⟨hv, h0⟩ | ⟨g, cp, cur, hv, _, hgb, _, _, _, hc5, _⟩
    · simp at h0
    · simp only [Value.slice.injEq] at hv
      refine ⟨g, hv.1, hc5 n (strV o) ?_, fun e => by rw [e, hgb] at hb; simp at hb⟩
      rw [List.reverse_cons, List.map_append, List.getElem?_append_right (by simp; omega)]
      simp [hn]
  subst hvo
  obtain ⟨m1, m2⟩ := rundo_mem h hb ho
  rw [hn] at c2 hl m1 m2 hc1
  have HM1 : Hid (PlainIs B x most o olds ((w.setCell ⟨x, 0, none⟩ (.string ⟨o.toArray⟩)).setCell ⟨x, 2, none⟩ (.slice (some ⟨g, 0, none⟩) n vc))) := m1
  have HM2 : Hid (Kept [40] B w ((w.setCell ⟨x, 0, none⟩ (.string ⟨o.toArray⟩)).setCell ⟨x, 2, none⟩ (.slice (some ⟨g, 0, none⟩) n vc))) := m2
  have hw1 : IntKind.i64.wrap ((n : Int) + 1 - 1) = (n : Int) := by rw [IntKind.wrap_i64]; omega
  have hw2 : IntKind.i64.wrap (n : Int) = (n : Int) := by rw [IntKind.wrap_i64]; omega
  have hn0 : (((n : Int) + 1) == 0) = false := by rw [beq_eq_false_iff_ne]; omega
  have f0 := hf 0
  have f2 := hf 2
  unfold maxLen at hc2
  clear hb ho h m1 m2 hn hf
  go_enter Try.func11, Try.ntmps11
  go_wp2_with fail
  go_region
  go_wp2_with fail
  go_region
  go_wp2_with fail
  go_ret
  exact ⟨rfl, HM1.out.below ((Below.refl _ _).drew.drew), HM2.out.drew.drew⟩
end Go.Proofs.Ytfphmdkbcibcmaa
