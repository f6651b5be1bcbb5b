/- The decoder's Feed, End. -/
import Derived.Test.YtkphiopeclgffaaRead
namespace Go.Proofs.Ytkphiopeclgffaa
open Go.RowKit

/-- A row of characters, of faults, in memory of its own. -/
def Chars (B : Nat) (v : Value) (cs : List Ch) (w : World) : Prop := w.ownsRow B 37 3 v cs.length (cs.flatMap Ch.cells)
def Faults (B : Nat) (v : Value) (fs : List Int) (w : World) : Prop := w.ownsRow B 39 2 v fs.length (fs.flatMap fcells)

theorem told_new {w : World} {C : Nat} (hC : C ≤ w.heap.size) : Told C w.heap.size [] [] (w.alloc (.cells #[.slice none 0 0, .slice none 0 0] 63)) :=
  ⟨hC, _, _, heap_alloc_new _ _, World.ownsRow_nil _ _ _ _, World.ownsRow_nil _ _ _ _⟩

set_option maxHeartbeats 1000000 in
theorem feed_any {d : Nat} {p : Int} {u : List UInt8} {w : World} (s : ByteArray) (hu : pend u) (hp0 : 0 ≤ p) (hp1 : p ≤ 1400000000000) (hd : Dec d p u w) (hs : s.size ≤ 100000) :
    Calls Try.prog 22 #[.pointer (some ⟨d, 0, none⟩), .string s] w fun e w' => ∃ ca cn cc fa fn fc, e = .returned (.tuple #[.slice ca cn cc, .slice fa fn fc]) ∧ Dec d (p + (tot (run u s.data.toList).2 : Nat)) (run u s.data.toList).1 w' ∧
      Chars w.heap.size (.slice ca cn cc) (chs p (run u s.data.toList).2) w' ∧ Faults w.heap.size (.slice fa fn fc) (fls p (run u s.data.toList).2) w' ∧ Turn w.heap.size d w w' := by
  have hb0 : Below w.heap.size w (w.alloc (.cells #[.slice none 0 0, .slice none 0 0] 63)) := (Below.refl _ _).alloc (Nat.le_refl _) _
  have HD : Hid (Dec d p u (w.alloc (.cells #[.slice none 0 0, .slice none 0 0] 63))) := dec_below hd hb0
  have hdw := (dec_cells hd).1
  have HU : Hid (pend u) := hu
  clear hd hu
  go_enter Try.func22, Try.ntmps22
  go_wp2_with fail
  refine (read_any s HU.out hp0 hp1 HD.out (told_new (Nat.le_refl _)) (by simp) (by simp) hs).mono ?_
  rintro e w1 ⟨rfl, h1, h2, h3⟩
  obtain ⟨ao, c, ao2, c2, htw, hb, o1, o2, t0, t1, hc1, hc2⟩ := told_cells h2
  have H1 : Hid (Dec d (p + (tot (run u s.data.toList).2 : Nat)) (run u s.data.toList).1 w1) := h1
  have H3 : Hid (Turn w.heap.size d w w1) := (Turn.ofOld hb0).trans h3
  have O1 : Hid (Chars w.heap.size (.slice ao (chs p (run u s.data.toList).2).length c) (chs p (run u s.data.toList).2) w1) := o1
  have O2 : Hid (Faults w.heap.size (.slice ao2 (fls p (run u s.data.toList).2).length c2) (fls p (run u s.data.toList).2) w1) := o2
  clear h1 h2 h3 hb o1 o2
  rw [List.nil_append] at t0 t1
  go_wp2_with fail
  go_quiet (fail)
  go_wp2_with fail
  go_ret2
  have hb := below_drewN (Below.refl w1.heap.size w1) nq
  exact ⟨_, _, _, _, _, _, rfl, dec_below H1.out hb, own_below O1.out hb, own_below O2.out hb, H3.out.trans (Turn.ofOld hb)⟩

set_option maxHeartbeats 1000000 in
theorem end_any {d : Nat} {p : Int} {u : List UInt8} {w : World} (hd : Dec d p u w) :
    Calls Try.prog 25 #[.pointer (some ⟨d, 0, none⟩)] w fun e w' => ∃ ca cn cc fa fn fc, e = .returned (.tuple #[.slice ca cn cc, .slice fa fn fc]) ∧ Dec d (p + (u.length : Nat)) [] w' ∧
      Chars w.heap.size (.slice ca cn cc) (chs p (fin u)) w' ∧ Faults w.heap.size (.slice fa fn fc) (fls p (fin u)) w' ∧ Turn w.heap.size d w w' := by
  have hb0 : Below w.heap.size w (w.alloc (.cells #[.slice none 0 0, .slice none 0 0] 63)) := (Below.refl _ _).alloc (Nat.le_refl _) _
  have HD : Hid (Dec d p u (w.alloc (.cells #[.slice none 0 0, .slice none 0 0] 63))) := dec_below hd hb0
  have hdw := (dec_cells hd).1
  clear hd
  go_enter Try.func25, Try.ntmps25
  go_wp2_with fail
  refine (finish_any HD.out (told_new (Nat.le_refl _)) (by simp) (by simp)).mono ?_
  rintro e w1 ⟨rfl, h1, h2, h3⟩
  obtain ⟨ao, c, ao2, c2, htw, hb, o1, o2, t0, t1, hc1, hc2⟩ := told_cells h2
  have H1 : Hid (Dec d (p + (u.length : Nat)) [] w1) := h1
  have H3 : Hid (Turn w.heap.size d w w1) := (Turn.ofOld hb0).trans h3
  have O1 : Hid (Chars w.heap.size (.slice ao (chs p (fin u)).length c) (chs p (fin u)) w1) := o1
  have O2 : Hid (Faults w.heap.size (.slice ao2 (fls p (fin u)).length c2) (fls p (fin u)) w1) := o2
  clear h1 h2 h3 hb o1 o2
  rw [List.nil_append] at t0 t1
  go_wp2_with fail
  go_quiet (fail)
  go_wp2_with fail
  go_ret2
  have hb := below_drewN (Below.refl w1.heap.size w1) nq
  exact ⟨_, _, _, _, _, _, rfl, dec_below H1.out hb, own_below O1.out hb, own_below O2.out hb, H3.out.trans (Turn.ofOld hb)⟩

end Go.Proofs.Ytkphiopeclgffaa
