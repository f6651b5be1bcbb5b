/- Shift, the program's and the document's: the span moved, the attributes in new memory. -/
import Derived.Test.YtnpaodagpleiaaaLi
namespace Go.Proofs.Ytnpaodagpleiaaa
open Go.RowKit

theorem nil_row (w : World) (B : Nat) : RowIs w B (.slice none 0 0) [] := World.ownsRow_nil _ _ _ _

/-- A token in a block of its own. -/
structure TkBox (w : World) (b : Nat) (T : Tk) : Prop where
  c0 : w.cell? ⟨b, 0, none⟩ = some (.int .i64 T.k)
  c1 : w.cell? ⟨b, 1, none⟩ = some (.int .i64 T.r)
  c2 : w.cell? ⟨b, 2, none⟩ = some (.string T.nm)
  c3 : w.cell? ⟨b, 3, none⟩ = some (.string T.tx)
  c4 : w.cell? ⟨b, 4, none⟩ = some (.slice T.ao T.n T.cap)
  c5 : w.cell? ⟨b, 5, none⟩ = some (.bool T.s)
  c6 : w.cell? ⟨b, 6, none⟩ = some (.int .i64 T.f)
  c7 : w.cell? ⟨b, 7, none⟩ = some (.int .i64 T.t)
theorem TkBox.of {w : World} {b : Nat} {T : Tk} (h : w.heap[b]? = some (.cells T.arr 26 (0, 0))) : TkBox w b T := by
  constructor <;> simp [World.cell?, h]
theorem unfrozen {w : World} {b e : Nat} {cs : Array Value} (h : w.heap[b]? = some (.cells cs e (0, 0))) (j : Nat) : w.frozen? ⟨b, j, none⟩ = false := by
  simp [World.frozen?, h]
def tk0 : Tk := ⟨0, 0, ⟨#[]⟩, ⟨#[]⟩, none, 0, 0, false, 0, 0⟩

theorem load26 {w : World} {R : Nat} {T : Tk} (h : TkBox w R T) : (loadVar 26 ⟨R, 0, none⟩).run Try.prog w = .ok T.val w := by
  have a26 := Try.isAgg26
  have z26 := Try.sizeOf26
  obtain ⟨c0, c1, c2, c3, c4, c5, c6, c7⟩ := h
  go_simp
theorem results26 {fn : Func} {p : Tmp} (hf : fn.results = #[.cell p 26]) {tmps : Array Value} {w : World} {R : Nat} {T : Tk} (hp : tmps.getD p undef = .pointer (some ⟨R, 0, none⟩)) (h : TkBox w R T) : (results fn tmps).run Try.prog w = .ok T.val w := by
  have hp' : tmps[p]?.getD undef = .pointer (some ⟨R, 0, none⟩) := by simpa using hp
  simp [results, hf, hp', asAddr, load26 h]
theorem cell_ne {W : World} {R i j : Nat} {u : Value} (h : i ≠ j) : (W.setCell ⟨R, i, none⟩ u).cell? ⟨R, j, none⟩ = W.cell? ⟨R, j, none⟩ := World.cell?_setCell_other _ _ _ _ (by simp)
theorem cell_off {W : World} {R Q i j : Nat} {u : Value} (h : R ≠ Q) : (W.setCell ⟨R, i, none⟩ u).cell? ⟨Q, j, none⟩ = W.cell? ⟨Q, j, none⟩ := World.cell?_setCell_other _ _ _ _ (by simp)
theorem TkBox.off {W : World} {R Q i : Nat} {u : Value} {T : Tk} (h : TkBox W Q T) (hn : R ≠ Q) : TkBox (W.setCell ⟨R, i, none⟩ u) Q T :=
  ⟨(cell_off hn).trans h.c0, (cell_off hn).trans h.c1, (cell_off hn).trans h.c2, (cell_off hn).trans h.c3, (cell_off hn).trans h.c4, (cell_off hn).trans h.c5, (cell_off hn).trans h.c6, (cell_off hn).trans h.c7⟩
/-- All but the blocks from lo up to hi is as it was. -/
structure Mid (lo hi : Nat) (w w' : World) : Prop where
  os : w'.os = w.os
  tape : w'.tape = w.tape
  output : w'.output = w.output
  size : w.heap.size ≤ w'.heap.size
  block : ∀ k, k < lo ∨ hi ≤ k → w'.heap[k]? = w.heap[k]?
theorem Mid.refl (lo hi : Nat) (w : World) : Mid lo hi w w := ⟨rfl, rfl, rfl, Nat.le_refl _, fun _ _ => rfl⟩
theorem Mid.setCell {lo hi : Nat} {a w : World} (h : Mid lo hi a w) {p : Addr} (h1 : lo ≤ p.block) (h2 : p.block < hi) (u : Value) : Mid lo hi a (w.setCell p u) := by
  have b := Below.setCell (Below.refl lo w) h1 u
  exact ⟨b.os.trans h.os, b.tape.trans h.tape, b.output.trans h.output, Nat.le_trans h.size b.size, fun k hk => (Below.heap_setCell w p u k (by omega)).trans (h.block k hk)⟩
theorem Mid.below {lo hi : Nat} {w w' : World} (h : Mid lo hi w w') : Below lo w w' := ⟨h.os, h.tape, h.output, h.size, fun k hk => h.block k (.inl hk)⟩
theorem Mid.row {lo hi : Nat} {w w' : World} {v : Value} {L : List At} (h : Mid lo hi w w') (r : RowIs w hi v L) : RowIs w' hi v L := own_mv r fun g hg => h.block g (.inr (own_blk r hg).1)
theorem tk_stored {w : World} {R : Nat} {U : Tk} (h : TkBox w R U) (T : Tk) : TkBox ((((((((w.setCell ⟨R, 0, none⟩ (.int .i64 T.k)).setCell ⟨R, 1, none⟩ (.int .i64 T.r)).setCell ⟨R, 2, none⟩ (.string T.nm)).setCell ⟨R, 3, none⟩ (.string T.tx)).setCell ⟨R, 4, none⟩ (.slice T.ao T.n T.cap)).setCell ⟨R, 5, none⟩ (.bool T.s)).setCell ⟨R, 6, none⟩ (.int .i64 T.f)).setCell ⟨R, 7, none⟩ (.int .i64 T.t)) R T := by
  constructor
  · rw [cell_ne (by decide), cell_ne (by decide), cell_ne (by decide), cell_ne (by decide), cell_ne (by decide), cell_ne (by decide), cell_ne (by decide)]; exact World.cell?_setCell_same _ _ _ h.c0
  · rw [cell_ne (by decide), cell_ne (by decide), cell_ne (by decide), cell_ne (by decide), cell_ne (by decide), cell_ne (by decide)]; exact World.cell?_setCell_same _ _ _ (by rw [cell_ne (by decide)]; exact h.c1)
  · rw [cell_ne (by decide), cell_ne (by decide), cell_ne (by decide), cell_ne (by decide), cell_ne (by decide)]; exact World.cell?_setCell_same _ _ _ (by rw [cell_ne (by decide), cell_ne (by decide)]; exact h.c2)
  · rw [cell_ne (by decide), cell_ne (by decide), cell_ne (by decide), cell_ne (by decide)]; exact World.cell?_setCell_same _ _ _ (by rw [cell_ne (by decide), cell_ne (by decide), cell_ne (by decide)]; exact h.c3)
  · rw [cell_ne (by decide), cell_ne (by decide), cell_ne (by decide)]; exact World.cell?_setCell_same _ _ _ (by rw [cell_ne (by decide), cell_ne (by decide), cell_ne (by decide), cell_ne (by decide)]; exact h.c4)
  · rw [cell_ne (by decide), cell_ne (by decide)]; exact World.cell?_setCell_same _ _ _ (by rw [cell_ne (by decide), cell_ne (by decide), cell_ne (by decide), cell_ne (by decide), cell_ne (by decide)]; exact h.c5)
  · rw [cell_ne (by decide)]; exact World.cell?_setCell_same _ _ _ (by rw [cell_ne (by decide), cell_ne (by decide), cell_ne (by decide), cell_ne (by decide), cell_ne (by decide), cell_ne (by decide)]; exact h.c6)
  · exact World.cell?_setCell_same _ _ _ (by rw [cell_ne (by decide), cell_ne (by decide), cell_ne (by decide), cell_ne (by decide), cell_ne (by decide), cell_ne (by decide), cell_ne (by decide)]; exact h.c7)

theorem TkBox.keep {w w' : World} {b : Nat} {T : Tk} (h : TkBox w b T) (e : w'.heap[b]? = w.heap[b]?) : TkBox w' b T :=
  ⟨(World.cell?_of_block (a := ⟨b, 0, none⟩) e).trans h.c0, (World.cell?_of_block (a := ⟨b, 1, none⟩) e).trans h.c1, (World.cell?_of_block (a := ⟨b, 2, none⟩) e).trans h.c2, (World.cell?_of_block (a := ⟨b, 3, none⟩) e).trans h.c3, (World.cell?_of_block (a := ⟨b, 4, none⟩) e).trans h.c4, (World.cell?_of_block (a := ⟨b, 5, none⟩) e).trans h.c5, (World.cell?_of_block (a := ⟨b, 6, none⟩) e).trans h.c6, (World.cell?_of_block (a := ⟨b, 7, none⟩) e).trans h.c7⟩
theorem TkBox.below {w w' : World} {b : Nat} {T : Tk} (h : TkBox w b T) (k : Below w.heap.size w w') (hb : b < w.heap.size) : TkBox w' b T := h.keep (k.block b hb)
/-- The span's two cells written. -/
theorem TkBox.span {w : World} {b : Nat} {T : Tk} (h : TkBox w b T) (f t : Int) : TkBox ((w.setCell ⟨b, 6, none⟩ (.int .i64 f)).setCell ⟨b, 7, none⟩ (.int .i64 t)) b ⟨T.k, T.r, T.nm, T.tx, T.ao, T.n, T.cap, T.s, f, t⟩ := by
  constructor
  · rw [cell_ne (by decide), cell_ne (by decide)]; exact h.c0
  · rw [cell_ne (by decide), cell_ne (by decide)]; exact h.c1
  · rw [cell_ne (by decide), cell_ne (by decide)]; exact h.c2
  · rw [cell_ne (by decide), cell_ne (by decide)]; exact h.c3
  · rw [cell_ne (by decide), cell_ne (by decide)]; exact h.c4
  · rw [cell_ne (by decide), cell_ne (by decide)]; exact h.c5
  · rw [cell_ne (by decide)]; exact World.cell?_setCell_same _ _ _ h.c6
  · exact World.cell?_setCell_same _ _ _ (by rw [cell_ne (by decide)]; exact h.c7)

set_option maxHeartbeats 2000000 in
set_option maxRecDepth 10000 in
theorem shift_neg {w : World} (k r : Int) (nm tx : ByteArray) (ao : Option Addr) (n cap : Nat) (s : Bool) (f t d : Int) {A : List At} (hT : TkOk w ⟨k, r, nm, tx, ao, n, cap, s, f, t⟩ A) (hA : A.length ≤ 4398046511104) (hf : f < 0) :
    Calls Try.prog 19 #[.agg #[.int .i64 k, .int .i64 r, .string nm, .string tx, .slice ao n cap, .bool s, .int .i64 f, .int .i64 t], .int .i64 d] w
      fun e w' => ∃ bo c, e = .returned (Tk.val ⟨k, r, nm, tx, bo, n, c, s, f, t⟩) ∧ TkOk w' ⟨k, r, nm, tx, bo, n, c, s, f, t⟩ A ∧ Below w.heap.size w w' := by
  obtain ⟨V, hV⟩ : ∃ V, (w.alloc (.cells #[.int .i64 k, .int .i64 r, .string nm, .string tx, .slice ao n cap, .bool s, .int .i64 f, .int .i64 t] 26)).alloc (.cells #[.int .i64 0, .int .i64 0, .string ⟨#[]⟩, .string ⟨#[]⟩, .slice none 0 0, .bool false, .int .i64 0, .int .i64 0] 26) = V := ⟨_, rfl⟩
  have bV : Below w.heap.size w V := by rw [← hV]; exact ((Below.refl _ _).alloc (Nat.le_refl _) _).alloc (by simp) _
  have x1 : V.heap[w.heap.size]? = some (.cells (Tk.arr ⟨k, r, nm, tx, ao, n, cap, s, f, t⟩) 26 (0, 0)) := by
    rw [← hV, Below.heap_alloc _ _ _ (by simp)]; exact heap_alloc_new _ _
  have x2 : V.heap[w.heap.size + 1]? = some (.cells tk0.arr 26 (0, 0)) := by
    rw [← hV]
    have := heap_alloc_new (w.alloc (.cells #[.int .i64 k, .int .i64 r, .string nm, .string tx, .slice ao n cap, .bool s, .int .i64 f, .int .i64 t] 26)) (.cells #[.int .i64 0, .int .i64 0, .string ⟨#[]⟩, .string ⟨#[]⟩, .slice none 0 0, .bool false, .int .i64 0, .int .i64 0] 26)
    rw [show (w.alloc (.cells #[.int .i64 k, .int .i64 r, .string nm, .string tx, .slice ao n cap, .bool s, .int .i64 f, .int .i64 t] 26)).heap.size = w.heap.size + 1 by simp] at this
    exact this
  have l1 := (Array.getElem?_eq_some_iff.1 x1).1
  have l2 := (Array.getElem?_eq_some_iff.1 x2).1
  have t1 := TkBox.of x1
  have t2 := TkBox.of x2
  have z1 := unfrozen x1
  have z2 := unfrozen x2
  clear x1 x2
  have hT2 := hT.below bV
  obtain ⟨v2, w2, e2, r2, f2⟩ := row_more (nil_row V V.heap.size) ao cap hT2.row (Nat.le_refl _) (by simpa using hA)
  rw [hT2.len] at e2
  simp only at e2
  rw [List.nil_append] at r2
  obtain ⟨bo, c, hv2, _, _, _⟩ := row_at r2
  rw [hT2.len] at hv2
  simp only at hv2
  subst hv2
  have g1 := f2.block _ l1 (by simp [Value.ownBlock])
  have g2 := f2.block _ l2 (by simp [Value.ownBlock])
  have y1 : ∀ j, w2.frozen? ⟨w.heap.size, j, none⟩ = false := fun j => (World.frozen?_of_block (a := ⟨w.heap.size, j, none⟩) g1).trans (z1 j)
  have y2 : ∀ j, w2.frozen? ⟨w.heap.size + 1, j, none⟩ = false := fun j => (World.frozen?_of_block (a := ⟨w.heap.size + 1, j, none⟩) g2).trans (z2 j)
  have HR : Hid (RowIs w2 V.heap.size (.slice bo n c) A ∧ Below w.heap.size w w2 ∧ A.length = n ∧ n ≤ 9223372036854775807) := ⟨r2, bV.trans ((lfr_below f2 (nil_row V V.heap.size) (Nat.le_refl _)).mono bV.size), hT.len, hT.small⟩
  have HB : Hid (TkBox w2 (w.heap.size + 1) tk0) := t2.keep g2
  obtain ⟨c0, c1, c2, c3, c4, c5, c6, c7⟩ := t1.keep g1
  obtain ⟨d0, d1, d2, d3, d4, d5, d6, d7⟩ := t2.keep g2
  obtain ⟨p0, p1, p2, p3, p4, p5, p6, p7⟩ := t1
  simp only [tk0] at c0 c1 c2 c3 c4 c5 c6 c7 d0 d1 d2 d3 d4 d5 d6 d7 p4 p6 p7 
  have l0 := l1
  have l3 := l2
  have q1 := Nat.lt_of_lt_of_le l0 f2.size
  have q2 := Nat.lt_of_lt_of_le l3 f2.size
  clear r2 f2 bV hT2 hT g1 g2 p0 p1 p2 p3 p5 t2
  go_enter Try.func19, Try.ntmps19
  go_wp2_with (at_builtin; refine list_append_eq rfl _ _ 22 22 rfl _ _ rfl rfl e2 ?_)
  refine bodyPost_ret (results26 Try.results19 rfl (tk_stored (TkBox.off HB.out (by omega)) ⟨k, r, nm, tx, bo, n, c, s, f, t⟩)) rfl ?_
  have hm : Mid w.heap.size V.heap.size w2 _ := ((((((((((Mid.refl w.heap.size V.heap.size w2).setCell (p := ⟨w.heap.size, 4, none⟩) (Nat.le_refl _) l0 (.slice bo n c)).setCell (p := ⟨w.heap.size + 1, 0, none⟩) (Nat.le_succ _) l3 (.int .i64 k)).setCell (p := ⟨w.heap.size + 1, 1, none⟩) (Nat.le_succ _) l3 (.int .i64 r)).setCell (p := ⟨w.heap.size + 1, 2, none⟩) (Nat.le_succ _) l3 (.string nm)).setCell (p := ⟨w.heap.size + 1, 3, none⟩) (Nat.le_succ _) l3 (.string tx)).setCell (p := ⟨w.heap.size + 1, 4, none⟩) (Nat.le_succ _) l3 (.slice bo n c)).setCell (p := ⟨w.heap.size + 1, 5, none⟩) (Nat.le_succ _) l3 (.bool s)).setCell (p := ⟨w.heap.size + 1, 6, none⟩) (Nat.le_succ _) l3 (.int .i64 f)).setCell (p := ⟨w.heap.size + 1, 7, none⟩) (Nat.le_succ _) l3 (.int .i64 t))
  obtain ⟨ao', c', e', ar, _, _⟩ := row_at (hm.row HR.out.1)
  rw [HR.out.2.2.1] at e'
  simp only [Value.slice.injEq, true_and] at e'
  obtain ⟨rfl, rfl⟩ := e'
  exact ⟨bo, c, rfl, ⟨HR.out.2.2.1, ar, HR.out.2.2.2⟩, HR.out.2.1.trans hm.below⟩

set_option maxHeartbeats 2000000 in
set_option maxRecDepth 10000 in
theorem shift_pos {w : World} (k r : Int) (nm tx : ByteArray) (ao : Option Addr) (n cap : Nat) (s : Bool) (f t d : Int) {A : List At} (hT : TkOk w ⟨k, r, nm, tx, ao, n, cap, s, f, t⟩ A) (hA : A.length ≤ 4398046511104) (hf : 0 ≤ f) (hf2 : f ≤ 4398046511104) (ht1 : -4398046511104 ≤ t) (ht2 : t ≤ 4398046511104) (hd1 : -4398046511104 ≤ d) (hd2 : d ≤ 4398046511104) :
    Calls Try.prog 19 #[.agg #[.int .i64 k, .int .i64 r, .string nm, .string tx, .slice ao n cap, .bool s, .int .i64 f, .int .i64 t], .int .i64 d] w
      fun e w' => ∃ bo c, e = .returned (Tk.val ⟨k, r, nm, tx, bo, n, c, s, (f + d), (t + d)⟩) ∧ TkOk w' ⟨k, r, nm, tx, bo, n, c, s, (f + d), (t + d)⟩ A ∧ Below w.heap.size w w' := by
  obtain ⟨V, hV⟩ : ∃ V, (w.alloc (.cells #[.int .i64 k, .int .i64 r, .string nm, .string tx, .slice ao n cap, .bool s, .int .i64 f, .int .i64 t] 26)).alloc (.cells #[.int .i64 0, .int .i64 0, .string ⟨#[]⟩, .string ⟨#[]⟩, .slice none 0 0, .bool false, .int .i64 0, .int .i64 0] 26) = V := ⟨_, rfl⟩
  have bV : Below w.heap.size w V := by rw [← hV]; exact ((Below.refl _ _).alloc (Nat.le_refl _) _).alloc (by simp) _
  have x1 : V.heap[w.heap.size]? = some (.cells (Tk.arr ⟨k, r, nm, tx, ao, n, cap, s, f, t⟩) 26 (0, 0)) := by
    rw [← hV, Below.heap_alloc _ _ _ (by simp)]; exact heap_alloc_new _ _
  have x2 : V.heap[w.heap.size + 1]? = some (.cells tk0.arr 26 (0, 0)) := by
    rw [← hV]
    have := heap_alloc_new (w.alloc (.cells #[.int .i64 k, .int .i64 r, .string nm, .string tx, .slice ao n cap, .bool s, .int .i64 f, .int .i64 t] 26)) (.cells #[.int .i64 0, .int .i64 0, .string ⟨#[]⟩, .string ⟨#[]⟩, .slice none 0 0, .bool false, .int .i64 0, .int .i64 0] 26)
    rw [show (w.alloc (.cells #[.int .i64 k, .int .i64 r, .string nm, .string tx, .slice ao n cap, .bool s, .int .i64 f, .int .i64 t] 26)).heap.size = w.heap.size + 1 by simp] at this
    exact this
  have l1 := (Array.getElem?_eq_some_iff.1 x1).1
  have l2 := (Array.getElem?_eq_some_iff.1 x2).1
  have t1 := TkBox.of x1
  have t2 := TkBox.of x2
  have z1 := unfrozen x1
  have z2 := unfrozen x2
  clear x1 x2
  have hT2 := hT.below bV
  obtain ⟨v2, w2, e2, r2, f2⟩ := row_more (nil_row V V.heap.size) ao cap hT2.row (Nat.le_refl _) (by simpa using hA)
  rw [hT2.len] at e2
  simp only at e2
  rw [List.nil_append] at r2
  obtain ⟨bo, c, hv2, _, _, _⟩ := row_at r2
  rw [hT2.len] at hv2
  simp only at hv2
  subst hv2
  have g1 := f2.block _ l1 (by simp [Value.ownBlock])
  have g2 := f2.block _ l2 (by simp [Value.ownBlock])
  have y1 : ∀ j, w2.frozen? ⟨w.heap.size, j, none⟩ = false := fun j => (World.frozen?_of_block (a := ⟨w.heap.size, j, none⟩) g1).trans (z1 j)
  have y2 : ∀ j, w2.frozen? ⟨w.heap.size + 1, j, none⟩ = false := fun j => (World.frozen?_of_block (a := ⟨w.heap.size + 1, j, none⟩) g2).trans (z2 j)
  have HR : Hid (RowIs w2 V.heap.size (.slice bo n c) A ∧ Below w.heap.size w w2 ∧ A.length = n ∧ n ≤ 9223372036854775807) := ⟨r2, bV.trans ((lfr_below f2 (nil_row V V.heap.size) (Nat.le_refl _)).mono bV.size), hT.len, hT.small⟩
  have HB : Hid (TkBox w2 (w.heap.size + 1) tk0) := t2.keep g2
  obtain ⟨c0, c1, c2, c3, c4, c5, c6, c7⟩ := t1.keep g1
  obtain ⟨d0, d1, d2, d3, d4, d5, d6, d7⟩ := t2.keep g2
  obtain ⟨p0, p1, p2, p3, p4, p5, p6, p7⟩ := t1
  simp only [tk0] at c0 c1 c2 c3 c4 c5 c6 c7 d0 d1 d2 d3 d4 d5 d6 d7 p4 p6 p7 
  have l0 := l1
  have l3 := l2
  have q1 := Nat.lt_of_lt_of_le l0 f2.size
  have q2 := Nat.lt_of_lt_of_le l3 f2.size
  clear r2 f2 bV hT2 hT g1 g2 p0 p1 p2 p3 p5 t2
  go_enter Try.func19, Try.ntmps19
  go_wp2_with (at_builtin; refine list_append_eq rfl _ _ 22 22 rfl _ _ rfl rfl e2 ?_)
  refine bodyPost_ret (results26 Try.results19 rfl (tk_stored (TkBox.off (TkBox.off (TkBox.off HB.out (by omega)) (by omega)) (by omega)) ⟨k, r, nm, tx, bo, n, c, s, (f + d), (t + d)⟩)) rfl ?_
  have hm : Mid w.heap.size V.heap.size w2 _ := ((((((((((((Mid.refl w.heap.size V.heap.size w2).setCell (p := ⟨w.heap.size, 4, none⟩) (Nat.le_refl _) l0 (.slice bo n c)).setCell (p := ⟨w.heap.size, 6, none⟩) (Nat.le_refl _) l0 (.int .i64 (f + d))).setCell (p := ⟨w.heap.size, 7, none⟩) (Nat.le_refl _) l0 (.int .i64 (t + d))).setCell (p := ⟨w.heap.size + 1, 0, none⟩) (Nat.le_succ _) l3 (.int .i64 k)).setCell (p := ⟨w.heap.size + 1, 1, none⟩) (Nat.le_succ _) l3 (.int .i64 r)).setCell (p := ⟨w.heap.size + 1, 2, none⟩) (Nat.le_succ _) l3 (.string nm)).setCell (p := ⟨w.heap.size + 1, 3, none⟩) (Nat.le_succ _) l3 (.string tx)).setCell (p := ⟨w.heap.size + 1, 4, none⟩) (Nat.le_succ _) l3 (.slice bo n c)).setCell (p := ⟨w.heap.size + 1, 5, none⟩) (Nat.le_succ _) l3 (.bool s)).setCell (p := ⟨w.heap.size + 1, 6, none⟩) (Nat.le_succ _) l3 (.int .i64 (f + d))).setCell (p := ⟨w.heap.size + 1, 7, none⟩) (Nat.le_succ _) l3 (.int .i64 (t + d)))
  obtain ⟨ao', c', e', ar, _, _⟩ := row_at (hm.row HR.out.1)
  rw [HR.out.2.2.1] at e'
  simp only [Value.slice.injEq, true_and] at e'
  obtain ⟨rfl, rfl⟩ := e'
  exact ⟨bo, c, rfl, ⟨HR.out.2.2.1, ar, HR.out.2.2.2⟩, HR.out.2.1.trans hm.below⟩

set_option maxHeartbeats 2000000 in
set_option maxRecDepth 10000 in
theorem rshift_neg {w : World} (k r : Int) (nm tx : ByteArray) (ao : Option Addr) (n cap : Nat) (s : Bool) (f t d : Int) {A : List At} (hT : TkOk w ⟨k, r, nm, tx, ao, n, cap, s, f, t⟩ A) (hA : A.length ≤ 4398046511104) (hf : f < 0) :
    Calls Try.prog 20 #[.agg #[.int .i64 k, .int .i64 r, .string nm, .string tx, .slice ao n cap, .bool s, .int .i64 f, .int .i64 t], .int .i64 d] w
      fun e w' => ∃ bo c, e = .returned (Tk.val ⟨k, r, nm, tx, bo, n, c, s, f, t⟩) ∧ TkOk w' ⟨k, r, nm, tx, bo, n, c, s, f, t⟩ A ∧ Below w.heap.size w w' := by
  obtain ⟨V, hV⟩ : ∃ V, (w.alloc (.cells #[.int .i64 k, .int .i64 r, .string nm, .string tx, .slice ao n cap, .bool s, .int .i64 f, .int .i64 t] 26)).alloc (.cells #[.int .i64 0, .int .i64 0, .string ⟨#[]⟩, .string ⟨#[]⟩, .slice none 0 0, .bool false, .int .i64 0, .int .i64 0] 26) = V := ⟨_, rfl⟩
  have bV : Below w.heap.size w V := by rw [← hV]; exact ((Below.refl _ _).alloc (Nat.le_refl _) _).alloc (by simp) _
  have x1 : V.heap[w.heap.size]? = some (.cells (Tk.arr ⟨k, r, nm, tx, ao, n, cap, s, f, t⟩) 26 (0, 0)) := by
    rw [← hV, Below.heap_alloc _ _ _ (by simp)]; exact heap_alloc_new _ _
  have x2 : V.heap[w.heap.size + 1]? = some (.cells tk0.arr 26 (0, 0)) := by
    rw [← hV]
    have := heap_alloc_new (w.alloc (.cells #[.int .i64 k, .int .i64 r, .string nm, .string tx, .slice ao n cap, .bool s, .int .i64 f, .int .i64 t] 26)) (.cells #[.int .i64 0, .int .i64 0, .string ⟨#[]⟩, .string ⟨#[]⟩, .slice none 0 0, .bool false, .int .i64 0, .int .i64 0] 26)
    rw [show (w.alloc (.cells #[.int .i64 k, .int .i64 r, .string nm, .string tx, .slice ao n cap, .bool s, .int .i64 f, .int .i64 t] 26)).heap.size = w.heap.size + 1 by simp] at this
    exact this
  have l1 := (Array.getElem?_eq_some_iff.1 x1).1
  have l2 := (Array.getElem?_eq_some_iff.1 x2).1
  have t1 := TkBox.of x1
  have t2 := TkBox.of x2
  have z1 := unfrozen x1
  have z2 := unfrozen x2
  clear x1 x2
  have hT2 := hT.below bV
  obtain ⟨v2, w2, e2, r2, f2⟩ := row_more (nil_row V V.heap.size) ao cap hT2.row (Nat.le_refl _) (by simpa using hA)
  rw [hT2.len] at e2
  simp only at e2
  rw [List.nil_append] at r2
  obtain ⟨bo, c, hv2, _, _, _⟩ := row_at r2
  rw [hT2.len] at hv2
  simp only at hv2
  subst hv2
  have g1 := f2.block _ l1 (by simp [Value.ownBlock])
  have g2 := f2.block _ l2 (by simp [Value.ownBlock])
  have y1 : ∀ j, w2.frozen? ⟨w.heap.size, j, none⟩ = false := fun j => (World.frozen?_of_block (a := ⟨w.heap.size, j, none⟩) g1).trans (z1 j)
  have y2 : ∀ j, w2.frozen? ⟨w.heap.size + 1, j, none⟩ = false := fun j => (World.frozen?_of_block (a := ⟨w.heap.size + 1, j, none⟩) g2).trans (z2 j)
  have HR : Hid (RowIs w2 V.heap.size (.slice bo n c) A ∧ Below w.heap.size w w2 ∧ A.length = n ∧ n ≤ 9223372036854775807) := ⟨r2, bV.trans ((lfr_below f2 (nil_row V V.heap.size) (Nat.le_refl _)).mono bV.size), hT.len, hT.small⟩
  have HB : Hid (TkBox w2 (w.heap.size + 1) tk0) := t2.keep g2
  obtain ⟨c0, c1, c2, c3, c4, c5, c6, c7⟩ := t1.keep g1
  obtain ⟨d0, d1, d2, d3, d4, d5, d6, d7⟩ := t2.keep g2
  obtain ⟨p0, p1, p2, p3, p4, p5, p6, p7⟩ := t1
  simp only [tk0] at c0 c1 c2 c3 c4 c5 c6 c7 d0 d1 d2 d3 d4 d5 d6 d7 p4 p6 p7 
  have l0 := l1
  have l3 := l2
  have q1 := Nat.lt_of_lt_of_le l0 f2.size
  have q2 := Nat.lt_of_lt_of_le l3 f2.size
  clear r2 f2 bV hT2 hT g1 g2 p0 p1 p2 p3 p5 t2
  go_enter Try.func20, Try.ntmps20
  go_wp2_with (at_builtin; refine list_append_eq rfl _ _ 22 22 rfl _ _ rfl rfl e2 ?_)
  refine bodyPost_ret (results26 Try.results20 rfl (tk_stored (TkBox.off HB.out (by omega)) ⟨k, r, nm, tx, bo, n, c, s, f, t⟩)) rfl ?_
  have hm : Mid w.heap.size V.heap.size w2 _ := ((((((((((Mid.refl w.heap.size V.heap.size w2).setCell (p := ⟨w.heap.size, 4, none⟩) (Nat.le_refl _) l0 (.slice bo n c)).setCell (p := ⟨w.heap.size + 1, 0, none⟩) (Nat.le_succ _) l3 (.int .i64 k)).setCell (p := ⟨w.heap.size + 1, 1, none⟩) (Nat.le_succ _) l3 (.int .i64 r)).setCell (p := ⟨w.heap.size + 1, 2, none⟩) (Nat.le_succ _) l3 (.string nm)).setCell (p := ⟨w.heap.size + 1, 3, none⟩) (Nat.le_succ _) l3 (.string tx)).setCell (p := ⟨w.heap.size + 1, 4, none⟩) (Nat.le_succ _) l3 (.slice bo n c)).setCell (p := ⟨w.heap.size + 1, 5, none⟩) (Nat.le_succ _) l3 (.bool s)).setCell (p := ⟨w.heap.size + 1, 6, none⟩) (Nat.le_succ _) l3 (.int .i64 f)).setCell (p := ⟨w.heap.size + 1, 7, none⟩) (Nat.le_succ _) l3 (.int .i64 t))
  obtain ⟨ao', c', e', ar, _, _⟩ := row_at (hm.row HR.out.1)
  rw [HR.out.2.2.1] at e'
  simp only [Value.slice.injEq, true_and] at e'
  obtain ⟨rfl, rfl⟩ := e'
  exact ⟨bo, c, rfl, ⟨HR.out.2.2.1, ar, HR.out.2.2.2⟩, HR.out.2.1.trans hm.below⟩

set_option maxHeartbeats 2000000 in
set_option maxRecDepth 10000 in
theorem rshift_pos {w : World} (k r : Int) (nm tx : ByteArray) (ao : Option Addr) (n cap : Nat) (s : Bool) (f t d : Int) {A : List At} (hT : TkOk w ⟨k, r, nm, tx, ao, n, cap, s, f, t⟩ A) (hA : A.length ≤ 4398046511104) (hf : 0 ≤ f) (hf2 : f ≤ 4398046511104) (ht1 : -4398046511104 ≤ t) (ht2 : t ≤ 4398046511104) (hd1 : -4398046511104 ≤ d) (hd2 : d ≤ 4398046511104) :
    Calls Try.prog 20 #[.agg #[.int .i64 k, .int .i64 r, .string nm, .string tx, .slice ao n cap, .bool s, .int .i64 f, .int .i64 t], .int .i64 d] w
      fun e w' => ∃ bo c, e = .returned (Tk.val ⟨k, r, nm, tx, bo, n, c, s, (f + d), (t + d)⟩) ∧ TkOk w' ⟨k, r, nm, tx, bo, n, c, s, (f + d), (t + d)⟩ A ∧ Below w.heap.size w w' := by
  obtain ⟨V, hV⟩ : ∃ V, (w.alloc (.cells #[.int .i64 k, .int .i64 r, .string nm, .string tx, .slice ao n cap, .bool s, .int .i64 f, .int .i64 t] 26)).alloc (.cells #[.int .i64 0, .int .i64 0, .string ⟨#[]⟩, .string ⟨#[]⟩, .slice none 0 0, .bool false, .int .i64 0, .int .i64 0] 26) = V := ⟨_, rfl⟩
  have bV : Below w.heap.size w V := by rw [← hV]; exact ((Below.refl _ _).alloc (Nat.le_refl _) _).alloc (by simp) _
  have x1 : V.heap[w.heap.size]? = some (.cells (Tk.arr ⟨k, r, nm, tx, ao, n, cap, s, f, t⟩) 26 (0, 0)) := by
    rw [← hV, Below.heap_alloc _ _ _ (by simp)]; exact heap_alloc_new _ _
  have x2 : V.heap[w.heap.size + 1]? = some (.cells tk0.arr 26 (0, 0)) := by
    rw [← hV]
    have := heap_alloc_new (w.alloc (.cells #[.int .i64 k, .int .i64 r, .string nm, .string tx, .slice ao n cap, .bool s, .int .i64 f, .int .i64 t] 26)) (.cells #[.int .i64 0, .int .i64 0, .string ⟨#[]⟩, .string ⟨#[]⟩, .slice none 0 0, .bool false, .int .i64 0, .int .i64 0] 26)
    rw [show (w.alloc (.cells #[.int .i64 k, .int .i64 r, .string nm, .string tx, .slice ao n cap, .bool s, .int .i64 f, .int .i64 t] 26)).heap.size = w.heap.size + 1 by simp] at this
    exact this
  have l1 := (Array.getElem?_eq_some_iff.1 x1).1
  have l2 := (Array.getElem?_eq_some_iff.1 x2).1
  have t1 := TkBox.of x1
  have t2 := TkBox.of x2
  have z1 := unfrozen x1
  have z2 := unfrozen x2
  clear x1 x2
  obtain ⟨X, hX⟩ : ∃ X, (V.setCell ⟨w.heap.size, 6, none⟩ (.int .i64 (f + d))).setCell ⟨w.heap.size, 7, none⟩ (.int .i64 (t + d)) = X := ⟨_, rfl⟩
  have bX : Below w.heap.size w X := by rw [← hX]; exact (bV.setCell (p := ⟨w.heap.size, 6, none⟩) (Nat.le_refl _) _).setCell (p := ⟨w.heap.size, 7, none⟩) (Nat.le_refl _) _
  have hXs : X.heap.size = V.heap.size := by rw [← hX]; simp
  have t1' : TkBox X w.heap.size ⟨k, r, nm, tx, ao, n, cap, s, f + d, t + d⟩ := by rw [← hX]; exact t1.span _ _
  have t2' : TkBox X (w.heap.size + 1) tk0 := by rw [← hX]; exact (t2.off (by omega)).off (by omega)
  have z1' : ∀ j, X.frozen? ⟨w.heap.size, j, none⟩ = false := fun j => by rw [← hX]; simp [z1]
  have z2' : ∀ j, X.frozen? ⟨w.heap.size + 1, j, none⟩ = false := fun j => by rw [← hX]; simp [z2]
  have hXl1 : w.heap.size < X.heap.size := by omega
  have hXl2 : w.heap.size + 1 < X.heap.size := by omega
  have hT2 := hT.below bX
  obtain ⟨v2, w2, e2, r2, f2⟩ := row_more (nil_row X X.heap.size) ao cap hT2.row (Nat.le_refl _) (by simpa using hA)
  rw [hT2.len] at e2
  simp only at e2
  rw [List.nil_append] at r2
  obtain ⟨bo, c, hv2, _, _, _⟩ := row_at r2
  rw [hT2.len] at hv2
  simp only at hv2
  subst hv2
  have g1 := f2.block _ hXl1 (by simp [Value.ownBlock])
  have g2 := f2.block _ hXl2 (by simp [Value.ownBlock])
  have y1 : ∀ j, w2.frozen? ⟨w.heap.size, j, none⟩ = false := fun j => (World.frozen?_of_block (a := ⟨w.heap.size, j, none⟩) g1).trans (z1' j)
  have y2 : ∀ j, w2.frozen? ⟨w.heap.size + 1, j, none⟩ = false := fun j => (World.frozen?_of_block (a := ⟨w.heap.size + 1, j, none⟩) g2).trans (z2' j)
  have HR : Hid (RowIs w2 X.heap.size (.slice bo n c) A ∧ Below w.heap.size w w2 ∧ A.length = n ∧ n ≤ 9223372036854775807) := ⟨r2, bX.trans ((lfr_below f2 (nil_row X X.heap.size) (Nat.le_refl _)).mono bX.size), hT.len, hT.small⟩
  have HB : Hid (TkBox w2 (w.heap.size + 1) tk0) := t2'.keep g2
  obtain ⟨c0, c1, c2, c3, c4, c5, c6, c7⟩ := t1'.keep g1
  obtain ⟨d0, d1, d2, d3, d4, d5, d6, d7⟩ := t2'.keep g2
  obtain ⟨p0, p1, p2, p3, p4, p5, p6, p7⟩ := t1
  have m4 := t1'.c4
  clear t1' t2' bX hXs
  simp only [tk0] at c0 c1 c2 c3 c4 c5 c6 c7 d0 d1 d2 d3 d4 d5 d6 d7 p4 p6 p7 m4
  have l0 := hXl1
  have l3 := hXl2
  have q1 := Nat.lt_of_lt_of_le l0 f2.size
  have q2 := Nat.lt_of_lt_of_le l3 f2.size
  clear r2 f2 bV hT2 hT g1 g2 p0 p1 p2 p3 p5 t2
  go_enter Try.func20, Try.ntmps20
  go_wp2_with (at_builtin; refine list_append_eq rfl _ _ 22 22 rfl _ _ rfl rfl e2 ?_)
  refine bodyPost_ret (results26 Try.results20 rfl (tk_stored (TkBox.off HB.out (by omega)) ⟨k, r, nm, tx, bo, n, c, s, (f + d), (t + d)⟩)) rfl ?_
  have hm : Mid w.heap.size X.heap.size w2 _ := ((((((((((Mid.refl w.heap.size X.heap.size w2).setCell (p := ⟨w.heap.size, 4, none⟩) (Nat.le_refl _) l0 (.slice bo n c)).setCell (p := ⟨w.heap.size + 1, 0, none⟩) (Nat.le_succ _) l3 (.int .i64 k)).setCell (p := ⟨w.heap.size + 1, 1, none⟩) (Nat.le_succ _) l3 (.int .i64 r)).setCell (p := ⟨w.heap.size + 1, 2, none⟩) (Nat.le_succ _) l3 (.string nm)).setCell (p := ⟨w.heap.size + 1, 3, none⟩) (Nat.le_succ _) l3 (.string tx)).setCell (p := ⟨w.heap.size + 1, 4, none⟩) (Nat.le_succ _) l3 (.slice bo n c)).setCell (p := ⟨w.heap.size + 1, 5, none⟩) (Nat.le_succ _) l3 (.bool s)).setCell (p := ⟨w.heap.size + 1, 6, none⟩) (Nat.le_succ _) l3 (.int .i64 (f + d))).setCell (p := ⟨w.heap.size + 1, 7, none⟩) (Nat.le_succ _) l3 (.int .i64 (t + d)))
  obtain ⟨ao', c', e', ar, _, _⟩ := row_at (hm.row HR.out.1)
  rw [HR.out.2.2.1] at e'
  simp only [Value.slice.injEq, true_and] at e'
  obtain ⟨rfl, rfl⟩ := e'
  exact ⟨bo, c, rfl, ⟨HR.out.2.2.1, ar, HR.out.2.2.2⟩, HR.out.2.1.trans hm.below⟩

/-- A span moved: one whose From is below 0 stays. -/
def mv (f x d : Int) : Int := if f < 0 then x else x + d

theorem shift {w : World} (T : Tk) (d : Int) {A : List At} (hT : TkOk w T A) (hA : A.length ≤ 4398046511104) (h : T.f < 0 ∨ (0 ≤ T.f ∧ T.f ≤ 4398046511104 ∧ -4398046511104 ≤ T.t ∧ T.t ≤ 4398046511104 ∧ -4398046511104 ≤ d ∧ d ≤ 4398046511104)) :
    Calls Try.prog 19 #[T.val, .int .i64 d] w fun e w' => ∃ bo c, e = .returned (Tk.val ⟨T.k, T.r, T.nm, T.tx, bo, T.n, c, T.s, mv T.f T.f d, mv T.f T.t d⟩) ∧ TkOk w' ⟨T.k, T.r, T.nm, T.tx, bo, T.n, c, T.s, mv T.f T.f d, mv T.f T.t d⟩ A ∧ Below w.heap.size w w' := by
  obtain ⟨k, r, nm, tx, ao, n, cap, s, f, t⟩ := T
  simp only at h ⊢
  rcases h with h | ⟨h1, h2, h3, h4, h5, h6⟩
  · have e1 : mv f f d = f := by unfold mv; rw [if_pos h]
    have e2 : mv f t d = t := by unfold mv; rw [if_pos h]
    rw [e1, e2]
    exact shift_neg k r nm tx ao n cap s f t d hT hA h
  · have e1 : mv f f d = f + d := by unfold mv; rw [if_neg (by omega)]
    have e2 : mv f t d = t + d := by unfold mv; rw [if_neg (by omega)]
    rw [e1, e2]
    exact shift_pos k r nm tx ao n cap s f t d hT hA h1 h2 h3 h4 h5 h6

theorem rshift {w : World} (T : Tk) (d : Int) {A : List At} (hT : TkOk w T A) (hA : A.length ≤ 4398046511104) (h : T.f < 0 ∨ (0 ≤ T.f ∧ T.f ≤ 4398046511104 ∧ -4398046511104 ≤ T.t ∧ T.t ≤ 4398046511104 ∧ -4398046511104 ≤ d ∧ d ≤ 4398046511104)) :
    Calls Try.prog 20 #[T.val, .int .i64 d] w fun e w' => ∃ bo c, e = .returned (Tk.val ⟨T.k, T.r, T.nm, T.tx, bo, T.n, c, T.s, mv T.f T.f d, mv T.f T.t d⟩) ∧ TkOk w' ⟨T.k, T.r, T.nm, T.tx, bo, T.n, c, T.s, mv T.f T.f d, mv T.f T.t d⟩ A ∧ Below w.heap.size w w' := by
  obtain ⟨k, r, nm, tx, ao, n, cap, s, f, t⟩ := T
  simp only at h ⊢
  rcases h with h | ⟨h1, h2, h3, h4, h5, h6⟩
  · have e1 : mv f f d = f := by unfold mv; rw [if_pos h]
    have e2 : mv f t d = t := by unfold mv; rw [if_pos h]
    rw [e1, e2]
    exact rshift_neg k r nm tx ao n cap s f t d hT hA h
  · have e1 : mv f f d = f + d := by unfold mv; rw [if_neg (by omega)]
    have e2 : mv f t d = t + d := by unfold mv; rw [if_neg (by omega)]
    rw [e1, e2]
    exact rshift_pos k r nm tx ao n cap s f t d hT hA h1 h2 h3 h4 h5 h6

end Go.Proofs.Ytnpaodagpleiaaa
