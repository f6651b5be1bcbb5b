/- Decode, Feed, End. -/
import Derived.Test.YteonfhgcjcpfkaaRead
namespace Go.Proofs.Yteonfhgcjcpfkaa
open Go.RowKit

/-- A row of characters, of faults, in memory of its own. -/
def Chars (B : Nat) (v : Value) (cs : List Ch) (w : World) : Prop := w.ownsRow B 34 3 v cs.length (cs.flatMap Ch.cells)
def Faults (B : Nat) (v : Value) (fs : List Int) (w : World) : Prop := w.ownsRow B 52 2 v fs.length (fs.flatMap fcells)

theorem told_new {w : World} {C : Nat} (hC : C ≤ w.heap.size) : Told C w.heap.size [] [] (w.alloc (.cells #[.slice none 0 0, .slice none 0 0] 45)) :=
  ⟨hC, _, _, heap_alloc_new _ _, World.ownsRow_nil _ _ _ _, World.ownsRow_nil _ _ _ _⟩

set_option maxHeartbeats 1000000 in
theorem feed_any {d : Nat} {p : Int} {u : List UInt8} {w : World} (s : ByteArray) (hu : pend u) (hp0 : 0 ≤ p) (hp1 : p ≤ 1400000000000) (hd : Dec d p u w) (hs : s.size ≤ 100000) :
    Calls Try.prog 17 #[.pointer (some ⟨d, 0, none⟩), .string s] w fun e w' => ∃ ca cn cc fa fn fc, e = .returned (.tuple #[.slice ca cn cc, .slice fa fn fc]) ∧ Dec d (p + (tot (run u s.data.toList).2 : Nat)) (run u s.data.toList).1 w' ∧
      Chars w.heap.size (.slice ca cn cc) (chs p (run u s.data.toList).2) w' ∧ Faults w.heap.size (.slice fa fn fc) (fls p (run u s.data.toList).2) w' ∧ Turn w.heap.size d w w' := by
  have hb0 : Below w.heap.size w (w.alloc (.cells #[.slice none 0 0, .slice none 0 0] 45)) := (Below.refl _ _).alloc (Nat.le_refl _) _
  have HD : Hid (Dec d p u (w.alloc (.cells #[.slice none 0 0, .slice none 0 0] 45))) := dec_below hd hb0
  have hdw := (dec_cells hd).1
  have HU : Hid (pend u) := hu
  clear hd hu
  go_enter Try.func17, Try.ntmps17
  go_wp2_with fail
  refine (read_any s HU.out hp0 hp1 HD.out (told_new (Nat.le_refl _)) (by simp) (by simp) hs).mono ?_
  rintro e w1 ⟨rfl, h1, h2, h3⟩
  obtain ⟨ao, c, ao2, c2, htw, hb, o1, o2, t0, t1, hc1, hc2⟩ := told_cells h2
  have H1 : Hid (Dec d (p + (tot (run u s.data.toList).2 : Nat)) (run u s.data.toList).1 w1) := h1
  have H3 : Hid (Turn w.heap.size d w w1) := (Turn.ofOld hb0).trans h3
  have O1 : Hid (Chars w.heap.size (.slice ao (chs p (run u s.data.toList).2).length c) (chs p (run u s.data.toList).2) w1) := o1
  have O2 : Hid (Faults w.heap.size (.slice ao2 (fls p (run u s.data.toList).2).length c2) (fls p (run u s.data.toList).2) w1) := o2
  clear h1 h2 h3 hb o1 o2
  rw [List.nil_append] at t0 t1
  go_wp2_with fail
  go_quiet (fail)
  go_wp2_with fail
  go_ret2
  have hb := below_drewN (Below.refl w1.heap.size w1) nq
  exact ⟨_, _, _, _, _, _, rfl, dec_below H1.out hb, own_below O1.out hb, own_below O2.out hb, H3.out.trans (Turn.ofOld hb)⟩

set_option maxHeartbeats 1000000 in
theorem end_any {d : Nat} {p : Int} {u : List UInt8} {w : World} (hd : Dec d p u w) :
    Calls Try.prog 20 #[.pointer (some ⟨d, 0, none⟩)] w fun e w' => ∃ ca cn cc fa fn fc, e = .returned (.tuple #[.slice ca cn cc, .slice fa fn fc]) ∧ Dec d (p + (u.length : Nat)) [] w' ∧
      Chars w.heap.size (.slice ca cn cc) (chs p (fin u)) w' ∧ Faults w.heap.size (.slice fa fn fc) (fls p (fin u)) w' ∧ Turn w.heap.size d w w' := by
  have hb0 : Below w.heap.size w (w.alloc (.cells #[.slice none 0 0, .slice none 0 0] 45)) := (Below.refl _ _).alloc (Nat.le_refl _) _
  have HD : Hid (Dec d p u (w.alloc (.cells #[.slice none 0 0, .slice none 0 0] 45))) := dec_below hd hb0
  have hdw := (dec_cells hd).1
  clear hd
  go_enter Try.func20, Try.ntmps20
  go_wp2_with fail
  refine (finish_any HD.out (told_new (Nat.le_refl _)) (by simp) (by simp)).mono ?_
  rintro e w1 ⟨rfl, h1, h2, h3⟩
  obtain ⟨ao, c, ao2, c2, htw, hb, o1, o2, t0, t1, hc1, hc2⟩ := told_cells h2
  have H1 : Hid (Dec d (p + (u.length : Nat)) [] w1) := h1
  have H3 : Hid (Turn w.heap.size d w w1) := (Turn.ofOld hb0).trans h3
  have O1 : Hid (Chars w.heap.size (.slice ao (chs p (fin u)).length c) (chs p (fin u)) w1) := o1
  have O2 : Hid (Faults w.heap.size (.slice ao2 (fls p (fin u)).length c2) (fls p (fin u)) w1) := o2
  clear h1 h2 h3 hb o1 o2
  rw [List.nil_append] at t0 t1
  go_wp2_with fail
  go_quiet (fail)
  go_wp2_with fail
  go_ret2
  have hb := below_drewN (Below.refl w1.heap.size w1) nq
  exact ⟨_, _, _, _, _, _, rfl, dec_below H1.out hb, own_below O1.out hb, own_below O2.out hb, H3.out.trans (Turn.ofOld hb)⟩

set_option maxHeartbeats 1000000 in
theorem decode_any {w : World} (s : ByteArray) (hs : s.size ≤ 100000) :
    Calls Try.prog 9 #[.string s] w fun e w' => ∃ ca cn cc fa fn fc, e = .returned (.tuple #[.slice ca cn cc, .slice fa fn fc]) ∧
      Chars w.heap.size (.slice ca cn cc) (chs 0 (items s.data.toList)) w' ∧ Faults w.heap.size (.slice fa fn fc) (fls 0 (items s.data.toList)) w' ∧ Below w.heap.size w w' := by
  obtain ⟨r1, r2, r3, r4⟩ := run_ok s.data.toList [] trivial
  rw [List.nil_append] at r2
  have hsl : s.data.toList.length = s.size := Array.length_toList
  rw [hsl, List.length_nil] at r4
  have hfew := run_few s.data.toList []
  rw [hsl] at hfew
  have R2 : Hid (items s.data.toList = (run [] s.data.toList).2 ++ fin (run [] s.data.toList).1) := r2
  clear r1 r2 r3 hsl
  go_enter Try.func9, Try.ntmps9
  go_wp2_with fail
  refine (new_ok 0 (by omega) (by omega) _).mono ?_
  rintro e w1 ⟨rfl, n1, n2, n3⟩
  have hb0 : Below w1.heap.size w1 (w1.alloc (.cells #[.slice none 0 0, .slice none 0 0] 45)) := (Below.refl _ _).alloc (Nat.le_refl _) _
  have HD : Hid (Dec w.heap.size 0 [] (w1.alloc (.cells #[.slice none 0 0, .slice none 0 0] 45))) := dec_below n1 hb0
  have HB1 : Hid (Below w.heap.size w (w1.alloc (.cells #[.slice none 0 0, .slice none 0 0] 45))) := n2.trans (hb0.mono (by omega))
  have HN : Hid (w1.heap.size = w.heap.size + 1) := n3
  clear n1 n2 n3 hb0
  go_wp2_with fail
  refine (read_any (u := []) s trivial (Int.le_refl 0) (by omega) HD.out (told_new (C := w.heap.size) (by have := HN.out; omega)) (by simp) (by simp) hs).mono ?_
  rintro e w2 ⟨rfl, h1, h2, h3⟩
  rw [List.nil_append, List.nil_append] at h2
  have H1 : Hid (Dec w.heap.size (0 + (tot (run [] s.data.toList).2 : Nat)) (run [] s.data.toList).1 w2) := h1
  have H2 : Hid (Told w.heap.size w1.heap.size (chs 0 (run [] s.data.toList).2) (fls 0 (run [] s.data.toList).2) w2) := h2
  have H3 : Hid (Below w.heap.size w w2) := HB1.out.trans (h3.below (Nat.le_refl _) HB1.out.size (Nat.le_refl _))
  clear h1 h2 h3
  go_wp2_with fail
  refine (finish_any H1.out H2.out (by rw [chs_length]; omega) (by have := fls_length (run [] s.data.toList).2 0; omega)).mono ?_
  rintro e w3 ⟨rfl, h1, h2, h3⟩
  rw [← chs_append, ← fls_append, ← R2.out] at h2
  obtain ⟨ao, c, ao2, c2, htw, hb, o1, o2, t0, t1, hc1, hc2⟩ := told_cells h2
  have G3 : Hid (Below w.heap.size w w3) := H3.out.trans (h3.below (Nat.le_refl _) H3.out.size (Nat.le_refl _))
  have O1 : Hid (Chars w.heap.size (.slice ao (chs 0 (items s.data.toList)).length c) (chs 0 (items s.data.toList)) w3) := o1
  have O2 : Hid (Faults w.heap.size (.slice ao2 (fls 0 (items s.data.toList)).length c2) (fls 0 (items s.data.toList)) w3) := o2
  clear h1 h2 h3 hb o1 o2
  go_wp2_with fail
  go_quiet (fail)
  go_wp2_with fail
  go_ret2
  have hb := below_drewN (Below.refl w3.heap.size w3) nq
  exact ⟨_, _, _, _, _, _, rfl, own_below O1.out hb, own_below O2.out hb, below_drewN G3.out nq⟩
end Go.Proofs.Yteonfhgcjcpfkaa
