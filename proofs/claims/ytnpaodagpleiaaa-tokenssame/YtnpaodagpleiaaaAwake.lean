/- The law's own look at chapter 9's examples is true. -/
import Derived.Test.YtnpaodagpleiaaaSw
namespace Go.Proofs.Ytnpaodagpleiaaa
open Go.RowKit

def exA : List At := [⟨⟨#[104, 114, 101, 102]⟩, ⟨#[49]⟩⟩]
abbrev exT (b : Nat) : Tk := ⟨2, 0, ⟨#[97]⟩, ⟨#[]⟩, some ⟨b, 0, none⟩, 1, 1, false, 0, 0⟩
abbrev exU : Tk := ⟨1, 60, ⟨#[]⟩, ⟨#[]⟩, none, 0, 0, true, 0, 0⟩
theorem ex1 (b : Nat) : (⟨(shP (exT b) exA).toArray⟩ : ByteArray) = ⟨#[60, 97, 32, 104, 114, 101, 102, 61, 34, 49, 34, 62]⟩ := rfl
theorem ex2 : (⟨(shP exU []).toArray⟩ : ByteArray) = ⟨#[91, 108, 116, 93]⟩ := rfl
theorem ex3 (b : Nat) : (⟨(txP [(exU, []), (exT b, exA)]).toArray⟩ : ByteArray) = ⟨#[60]⟩ := by
  have h : txP [(exU, []), (exT b, exA)] = Lib.encodeRune (chr 60) := by
    show Lib.encodeRune (chr 60) ++ ([] ++ []) = _
    simp
  rw [h]
  have h2 : chr 60 = 60 := by decide
  rw [h2, show Lib.encodeRune 60 = [60] by decide]
theorem ex4 (b : Nat) : Tk.eqb (exT b) exU exA [] = false := by
  unfold Tk.eqb
  simp
theorem few_ex (b : Nat) : Few (exT b) exA ∧ Few exU [] := by
  refine ⟨⟨?_, ?_, ?_⟩, ⟨?_, ?_, ?_⟩⟩
  · show 1 ≤ _; decide
  · show 0 ≤ _; decide
  all_goals decide

theorem tk_two {w : World} {b : Nat} {X Y : TL} (h : w.heap[b]? = some (.cells (X.1.arr ++ Y.1.arr) 26 (0, 0))) (hx : TkOk w X.1 X.2) (hy : TkOk w Y.1 Y.2) : TkRow w (some ⟨b, 0, none⟩) [X, Y] := fun i z hz => by
  have hb := (Array.getElem?_eq_some_iff.1 h).1
  match i, hz with
  | 0, hz =>
    simp at hz
    subst hz
    refine ⟨⟨b, 0, rfl, hb, fun j u hj => ?_⟩, hx⟩
    have hj8 : j < 8 := by have := (Array.getElem?_eq_some_iff.1 hj).1; simpa using this
    simp only [World.cell?, h]
    simp only [Nat.zero_mul, Nat.zero_add]
    rw [Array.getElem?_append_left (by simpa using hj8)]
    exact hj
  | 1, hz =>
    simp at hz
    subst hz
    refine ⟨⟨b, 0, rfl, hb, fun j u hj => ?_⟩, hy⟩
    simp only [World.cell?, h]
    rw [Array.getElem?_append_right (by simp)]
    simp only [List.size_toArray, List.length_cons, List.length_nil]
    rw [show 0 + 1 * 8 + j - (0 + 1 + 1 + 1 + 1 + 1 + 1 + 1 + 1) = j by omega]
    exact hj

set_option maxHeartbeats 2000000 in
set_option maxRecDepth 10000 in
theorem awake_any (w : World) : Calls Try.prog 8 #[] w fun e w' => e = .returned (.bool true) ∧ Below w.heap.size w w' := by
  obtain ⟨W, hW⟩ : ∃ W, ((w.alloc (.cells #[.string ⟨#[104, 114, 101, 102]⟩, .string ⟨#[49]⟩] 40)).alloc (.cells #[.int .i64 2, .int .i64 0, .string ⟨#[97]⟩, .string ⟨#[]⟩, .slice (some ⟨w.heap.size, 0, none⟩) 1 1, .bool false, .int .i64 0, .int .i64 0] 26)).alloc (.cells #[.int .i64 1, .int .i64 60, .string ⟨#[]⟩, .string ⟨#[]⟩, .slice none 0 0, .bool true, .int .i64 0, .int .i64 0] 26) = W := ⟨_, rfl⟩
  have bW : Below w.heap.size w W := by rw [← hW]; exact (((Below.refl _ _).alloc (Nat.le_refl _) _).alloc (by simp) _).alloc (by simp; omega) _
  have x0 : W.heap[w.heap.size]? = some (.cells #[.string ⟨#[104, 114, 101, 102]⟩, .string ⟨#[49]⟩] 40 (0, 0)) := by
    rw [← hW, Below.heap_alloc _ _ _ (by simp; omega), Below.heap_alloc _ _ _ (by simp)]; exact heap_alloc_new _ _
  have x1 : W.heap[w.heap.size + 1]? = some (.cells (exT w.heap.size).arr 26 (0, 0)) := by
    rw [← hW, Below.heap_alloc _ _ _ (by simp)]
    have := heap_alloc_new (w.alloc (.cells #[.string ⟨#[104, 114, 101, 102]⟩, .string ⟨#[49]⟩] 40)) (.cells #[.int .i64 2, .int .i64 0, .string ⟨#[97]⟩, .string ⟨#[]⟩, .slice (some ⟨w.heap.size, 0, none⟩) 1 1, .bool false, .int .i64 0, .int .i64 0] 26)
    rw [show (w.alloc (.cells #[.string ⟨#[104, 114, 101, 102]⟩, .string ⟨#[49]⟩] 40)).heap.size = w.heap.size + 1 by simp] at this
    exact this
  have x2 : W.heap[w.heap.size + 1 + 1]? = some (.cells exU.arr 26 (0, 0)) := by
    rw [← hW]
    have := heap_alloc_new ((w.alloc (.cells #[.string ⟨#[104, 114, 101, 102]⟩, .string ⟨#[49]⟩] 40)).alloc (.cells #[.int .i64 2, .int .i64 0, .string ⟨#[97]⟩, .string ⟨#[]⟩, .slice (some ⟨w.heap.size, 0, none⟩) 1 1, .bool false, .int .i64 0, .int .i64 0] 26)) (.cells #[.int .i64 1, .int .i64 60, .string ⟨#[]⟩, .string ⟨#[]⟩, .slice none 0 0, .bool true, .int .i64 0, .int .i64 0] 26)
    rw [show ((w.alloc (.cells #[.string ⟨#[104, 114, 101, 102]⟩, .string ⟨#[49]⟩] 40)).alloc (.cells #[.int .i64 2, .int .i64 0, .string ⟨#[97]⟩, .string ⟨#[]⟩, .slice (some ⟨w.heap.size, 0, none⟩) 1 1, .bool false, .int .i64 0, .int .i64 0] 26)).heap.size = w.heap.size + 1 + 1 by simp] at this
    exact this
  have l0 := (Array.getElem?_eq_some_iff.1 x0).1
  have l1 := (Array.getElem?_eq_some_iff.1 x1).1
  have l2 := (Array.getElem?_eq_some_iff.1 x2).1
  have ok1 : TkOk W (exT w.heap.size) exA := by
    refine ⟨rfl, fun i x hx => ?_, by show 1 ≤ _; decide⟩
    match i, hx with
    | 0, hx =>
      have e : x = ⟨⟨#[104, 114, 101, 102]⟩, ⟨#[49]⟩⟩ := by simpa [exA] using hx.symm
      subst e
      exact ⟨_, _, rfl, l0, by simp [World.cell?, x0], by simp [World.cell?, x0]⟩
  have ok2 : TkOk W exU [] := ⟨rfl, AtRow.nil _ _, by decide⟩
  have HW : Hid (Below w.heap.size w W ∧ TkOk W (exT w.heap.size) exA ∧ TkOk W exU []) := ⟨bW, ok1, ok2⟩
  have HE : Hid (_ = W) := hW
  clear hW
  have s1 := TkBox.of x1
  have s2 := TkBox.of x2
  clear x0 x1 x2 l0 ok1 ok2 bW
  have k1 := show_any HW.out.2.1 (few_ex _).1
  rw [ex1] at k1
  simp only [Tk.val, Tk.arr] at k1
  obtain ⟨c0, c1, c2, c3, c4, c5, c6, c7⟩ := s1
  obtain ⟨d0, d1, d2, d3, d4, d5, d6, d7⟩ := s2
  simp only at c0 c1 c2 c3 c4 c5 c6 c7 d0 d1 d2 d3 d4 d5 d6 d7
  have HC : Hid (TkBox W (w.heap.size + 1) (exT w.heap.size) ∧ TkBox W (w.heap.size + 1 + 1) exU) := ⟨⟨c0, c1, c2, c3, c4, c5, c6, c7⟩, ⟨d0, d1, d2, d3, d4, d5, d6, d7⟩⟩
  go_enter Try.func8, Try.ntmps8
  go_wp2_with fail
  rw [HE.out]
  refine k1.mono ?_
  rintro e w1 ⟨rfl, b1⟩
  clear k1 HE c0 c1 c2 c3 c4 c5 c6 c7 d0 d1 d2 d3 d4 d5 d6 d7
  have H1 : Hid (Below w.heap.size w w1 ∧ TkOk w1 (exT w.heap.size) exA ∧ TkOk w1 exU [] ∧ TkBox w1 (w.heap.size + 1) (exT w.heap.size) ∧ TkBox w1 (w.heap.size + 1 + 1) exU ∧ w.heap.size + 1 < w1.heap.size ∧ w.heap.size + 1 + 1 < w1.heap.size) := ⟨HW.out.1.trans (b1.mono HW.out.1.size), HW.out.2.1.below b1, HW.out.2.2.below b1, HC.out.1.below b1 l1, HC.out.2.below b1 l2, Nat.lt_of_lt_of_le l1 b1.size, Nat.lt_of_lt_of_le l2 b1.size⟩
  obtain ⟨c0, c1, c2, c3, c4, c5, c6, c7⟩ := H1.out.2.2.2.1
  obtain ⟨d0, d1, d2, d3, d4, d5, d6, d7⟩ := H1.out.2.2.2.2.1
  simp only at c0 c1 c2 c3 c4 c5 c6 c7 d0 d1 d2 d3 d4 d5 d6 d7
  clear b1 l1 l2 HW HC
  have k := show_any H1.out.2.2.1 (few_ex 0).2
  rw [ex2] at k
  simp only [Tk.val, Tk.arr] at k
  go_wp2_with fail
  refine k.mono ?_
  rintro e w2 ⟨rfl, b2⟩
  clear c0 c1 c2 c3 c4 c5 c6 c7 d0 d1 d2 d3 d4 d5 d6 d7 k
  have H2 : Hid (Below w.heap.size w w2 ∧ TkOk w2 (exT w.heap.size) exA ∧ TkOk w2 exU [] ∧ TkBox w2 (w.heap.size + 1) (exT w.heap.size) ∧ TkBox w2 (w.heap.size + 1 + 1) exU ∧ w.heap.size + 1 < w2.heap.size ∧ w.heap.size + 1 + 1 < w2.heap.size) := ⟨H1.out.1.trans (b2.mono H1.out.1.size), H1.out.2.1.below b2, H1.out.2.2.1.below b2, H1.out.2.2.2.1.below b2 H1.out.2.2.2.2.2.1, H1.out.2.2.2.2.1.below b2 H1.out.2.2.2.2.2.2, Nat.lt_of_lt_of_le H1.out.2.2.2.2.2.1 b2.size, Nat.lt_of_lt_of_le H1.out.2.2.2.2.2.2 b2.size⟩
  obtain ⟨c0, c1, c2, c3, c4, c5, c6, c7⟩ := H2.out.2.2.2.1
  obtain ⟨d0, d1, d2, d3, d4, d5, d6, d7⟩ := H2.out.2.2.2.2.1
  simp only at c0 c1 c2 c3 c4 c5 c6 c7 d0 d1 d2 d3 d4 d5 d6 d7
  clear b2 H1
  have k := class_any exU w2
  simp only [Tk.val, Tk.arr] at k
  rw [show clsP 1 true = 5 from rfl] at k
  go_wp2_with fail
  refine k.mono ?_
  rintro e w3 ⟨rfl, b3⟩
  clear c0 c1 c2 c3 c4 c5 c6 c7 d0 d1 d2 d3 d4 d5 d6 d7 k
  have H3 : Hid (Below w.heap.size w w3 ∧ TkOk w3 (exT w.heap.size) exA ∧ TkOk w3 exU [] ∧ TkBox w3 (w.heap.size + 1) (exT w.heap.size) ∧ TkBox w3 (w.heap.size + 1 + 1) exU ∧ w.heap.size + 1 < w3.heap.size ∧ w.heap.size + 1 + 1 < w3.heap.size) := ⟨H2.out.1.trans (b3.mono H2.out.1.size), H2.out.2.1.below b3, H2.out.2.2.1.below b3, H2.out.2.2.2.1.below b3 H2.out.2.2.2.2.2.1, H2.out.2.2.2.2.1.below b3 H2.out.2.2.2.2.2.2, Nat.lt_of_lt_of_le H2.out.2.2.2.2.2.1 b3.size, Nat.lt_of_lt_of_le H2.out.2.2.2.2.2.2 b3.size⟩
  obtain ⟨c0, c1, c2, c3, c4, c5, c6, c7⟩ := H3.out.2.2.2.1
  obtain ⟨d0, d1, d2, d3, d4, d5, d6, d7⟩ := H3.out.2.2.2.2.1
  simp only at c0 c1 c2 c3 c4 c5 c6 c7 d0 d1 d2 d3 d4 d5 d6 d7
  clear b3 H2
  have k := class_any (exT w.heap.size) w3
  simp only [Tk.val, Tk.arr] at k
  rw [show clsP 2 false = 2 from rfl] at k
  go_wp2_with fail
  refine k.mono ?_
  rintro e w4 ⟨rfl, b4⟩
  clear c0 c1 c2 c3 c4 c5 c6 c7 d0 d1 d2 d3 d4 d5 d6 d7 k
  have H4 : Hid (Below w.heap.size w w4 ∧ TkOk w4 (exT w.heap.size) exA ∧ TkOk w4 exU [] ∧ TkBox w4 (w.heap.size + 1) (exT w.heap.size) ∧ TkBox w4 (w.heap.size + 1 + 1) exU ∧ w.heap.size + 1 < w4.heap.size ∧ w.heap.size + 1 + 1 < w4.heap.size) := ⟨H3.out.1.trans (b4.mono H3.out.1.size), H3.out.2.1.below b4, H3.out.2.2.1.below b4, H3.out.2.2.2.1.below b4 H3.out.2.2.2.2.2.1, H3.out.2.2.2.2.1.below b4 H3.out.2.2.2.2.2.2, Nat.lt_of_lt_of_le H3.out.2.2.2.2.2.1 b4.size, Nat.lt_of_lt_of_le H3.out.2.2.2.2.2.2 b4.size⟩
  obtain ⟨c0, c1, c2, c3, c4, c5, c6, c7⟩ := H4.out.2.2.2.1
  obtain ⟨d0, d1, d2, d3, d4, d5, d6, d7⟩ := H4.out.2.2.2.2.1
  simp only at c0 c1 c2 c3 c4 c5 c6 c7 d0 d1 d2 d3 d4 d5 d6 d7
  clear b4 H3
  obtain ⟨Z, hZ⟩ : ∃ Z, w4.alloc (.cells #[.int .i64 1, .int .i64 60, .string ⟨#[]⟩, .string ⟨#[]⟩, .slice none 0 0, .bool true, .int .i64 0, .int .i64 0, .int .i64 2, .int .i64 0, .string ⟨#[97]⟩, .string ⟨#[]⟩, .slice (some ⟨w.heap.size, 0, none⟩) 1 1, .bool false, .int .i64 0, .int .i64 0] 26) = Z := ⟨_, rfl⟩
  have bZ : Below w4.heap.size w4 Z := by rw [← hZ]; exact (Below.refl _ _).alloc (Nat.le_refl _) _
  have hz : Z.heap[w4.heap.size]? = some (.cells (exU.arr ++ (exT w.heap.size).arr) 26 (0, 0)) := by rw [← hZ]; exact heap_alloc_new _ _
  have hrow := tk_two (X := (exU, [])) (Y := (exT w.heap.size, exA)) hz (H4.out.2.2.1.below bZ) (H4.out.2.1.below bZ)
  have k := text_any 2 2 hrow rfl (by omega)
  rw [ex3] at k
  have HZ : Hid (Below w4.heap.size w4 Z) := bZ
  clear hz hrow bZ
  go_wp2_with fail
  refine k.mono ?_
  rintro e w5 ⟨rfl, b5⟩
  have b5' : Below w4.heap.size w4 w5 := HZ.out.trans (b5.mono HZ.out.size)
  clear c0 c1 c2 c3 c4 c5 c6 c7 d0 d1 d2 d3 d4 d5 d6 d7 k hZ b5
  have H5 : Hid (Below w.heap.size w w5 ∧ TkOk w5 (exT w.heap.size) exA ∧ TkOk w5 exU [] ∧ TkBox w5 (w.heap.size + 1) (exT w.heap.size) ∧ TkBox w5 (w.heap.size + 1 + 1) exU ∧ w.heap.size + 1 < w5.heap.size ∧ w.heap.size + 1 + 1 < w5.heap.size) := ⟨H4.out.1.trans (b5'.mono H4.out.1.size), H4.out.2.1.below b5', H4.out.2.2.1.below b5', H4.out.2.2.2.1.below b5' H4.out.2.2.2.2.2.1, H4.out.2.2.2.2.1.below b5' H4.out.2.2.2.2.2.2, Nat.lt_of_lt_of_le H4.out.2.2.2.2.2.1 b5'.size, Nat.lt_of_lt_of_le H4.out.2.2.2.2.2.2 b5'.size⟩
  obtain ⟨c0, c1, c2, c3, c4, c5, c6, c7⟩ := H5.out.2.2.2.1
  obtain ⟨d0, d1, d2, d3, d4, d5, d6, d7⟩ := H5.out.2.2.2.2.1
  simp only at c0 c1 c2 c3 c4 c5 c6 c7 d0 d1 d2 d3 d4 d5 d6 d7
  clear b5' H4 HZ
  have k := same_any H5.out.2.1 H5.out.2.1
  rw [Tk.eqb_refl] at k
  simp only [Tk.val, Tk.arr] at k
  go_wp2_with fail
  refine k.mono ?_
  rintro e w6 ⟨rfl, b6⟩
  clear c0 c1 c2 c3 c4 c5 c6 c7 d0 d1 d2 d3 d4 d5 d6 d7 k
  have H6 : Hid (Below w.heap.size w w6 ∧ TkOk w6 (exT w.heap.size) exA ∧ TkOk w6 exU [] ∧ TkBox w6 (w.heap.size + 1) (exT w.heap.size) ∧ TkBox w6 (w.heap.size + 1 + 1) exU ∧ w.heap.size + 1 < w6.heap.size ∧ w.heap.size + 1 + 1 < w6.heap.size) := ⟨H5.out.1.trans (b6.mono H5.out.1.size), H5.out.2.1.below b6, H5.out.2.2.1.below b6, H5.out.2.2.2.1.below b6 H5.out.2.2.2.2.2.1, H5.out.2.2.2.2.1.below b6 H5.out.2.2.2.2.2.2, Nat.lt_of_lt_of_le H5.out.2.2.2.2.2.1 b6.size, Nat.lt_of_lt_of_le H5.out.2.2.2.2.2.2 b6.size⟩
  obtain ⟨c0, c1, c2, c3, c4, c5, c6, c7⟩ := H6.out.2.2.2.1
  obtain ⟨d0, d1, d2, d3, d4, d5, d6, d7⟩ := H6.out.2.2.2.2.1
  simp only at c0 c1 c2 c3 c4 c5 c6 c7 d0 d1 d2 d3 d4 d5 d6 d7
  clear b6 H5
  have k := same_any H6.out.2.1 H6.out.2.2.1
  rw [ex4] at k
  simp only [Tk.val, Tk.arr] at k
  go_wp2_with fail
  refine k.mono ?_
  rintro e w7 ⟨rfl, b7⟩
  clear c0 c1 c2 c3 c4 c5 c6 c7 d0 d1 d2 d3 d4 d5 d6 d7 k
  have H7 : Hid (Below w.heap.size w w7) := H6.out.1.trans (b7.mono H6.out.1.size)
  clear b7 H6
  go_wp2_with fail
  go_ret
  exact ⟨rfl, H7.out⟩
end Go.Proofs.Ytnpaodagpleiaaa
