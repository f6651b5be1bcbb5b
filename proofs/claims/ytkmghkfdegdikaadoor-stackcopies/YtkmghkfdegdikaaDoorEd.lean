/- A stack, the document's, and two copies of the first: what each does leaves the others. -/
import Derived.Test.YtkmghkfdegdikaaDoorEc
namespace Go.Proofs.YtkmghkfdegdikaaDoor
open Go.ChangeShapes Go.WideShapes Go.ChangeAt Go.RowKit Go.Joins

/-- A stack and the document's, a copy that stands, a copy that is at work. -/
structure Tri (w wr : World) (s x c d : Nat) (rv lv dv cv : Value) (M N D C : List El) : Prop where
  t : Two (fun k => k < w.heap.size) wr s x rv lv M N
  u : Two (fun k => k < w.heap.size) wr d x dv lv D N
  v : Stk (fun k => k < w.heap.size) wr c cv C
  b : Below w.heap.size w wr
  sc : s ≠ c
  dc : d ≠ c
  ap : ∀ g, cv.ownBlock = some g → rv.ownBlock ≠ some g ∧ lv.ownBlock ≠ some g ∧ dv.ownBlock ≠ some g
theorem Tri.step {w wr w' : World} {s x c d : Nat} {rv lv dv cv cv' : Value} {M N D C C' : List El} (h : Tri w wr s x c d rv lv dv cv M N D C) (k : Keep (Rest wr c cv) wr w') (s' : Stk (Rest wr c cv) w' c cv' C') : Tri w w' s x c d rv lv dv cv' M N D C' := by
  have hc := h.v.blk
  have hs := h.t.p.blk
  have hd := h.u.p.blk
  have hx := h.t.q.blk
  unfold Bx at hc hs hd hx
  have how : ∀ (g : Nat) (cu : Array Value) (T : Nat), wr.heap[g]? = some (.cells cu T (0, 0)) → T ≠ 34 → cv.ownBlock ≠ some g := fun g cu T hg hT e => by
    obtain ⟨_, c, h5⟩ := own_blk h.v.row.own e
    rw [hg] at h5
    simp at h5
    exact hT h5.2
  have hne : ∀ (g : Nat) (cu : Array Value) (T : Nat), wr.heap[g]? = some (.cells cu T (0, 0)) → T ≠ 55 → g ≠ c := fun g cu T hg hT e => by
    rw [e, hc] at hg
    simp at hg
    exact hT hg.2.symm
  have rs : Rest wr c cv s := ⟨h.t.p.lt, h.sc, how s _ 55 hs (by decide)⟩
  have rd : Rest wr c cv d := ⟨h.u.p.lt, h.dc, how d _ 55 hd (by decide)⟩
  have rx : Rest wr c cv x := ⟨h.t.q.lt, hne x _ 28 hx (by decide), how x _ 28 hx (by decide)⟩
  have h71 : ∀ g cu, wr.heap[g]? = some (.cells cu 71 (0, 0)) → Rest wr c cv g := fun g cu hg => h.v.rest71 g cu hg
  have or : ∀ g, rv.ownBlock = some g → Rest wr c cv g := fun g hg => by
    obtain ⟨h1, cu, h2⟩ := own_blk h.t.p.row.own hg
    exact ⟨h1, hne g cu 34 h2 (by decide), fun e => (h.ap g e).1 hg⟩
  have ol : ∀ g, lv.ownBlock = some g → Rest wr c cv g := fun g hg => by
    obtain ⟨h1, cu, h2⟩ := own_blk h.t.q.row.own hg
    exact ⟨h1, hne g cu 34 h2 (by decide), fun e => (h.ap g e).2.1 hg⟩
  have od : ∀ g, dv.ownBlock = some g → Rest wr c cv g := fun g hg => by
    obtain ⟨h1, cu, h2⟩ := own_blk h.u.p.row.own hg
    exact ⟨h1, hne g cu 34 h2 (by decide), fun e => (h.ap g e).2.2 hg⟩
  have q' := h.t.q.kept k rx ol h71
  exact ⟨⟨h.t.p.kept k rs or h71, q', h.t.ap⟩, ⟨h.u.p.kept k rd od h71, q', h.u.ap⟩, s'.sub fun i hi => h.v.in_rest i hi, h.b.trans (k.below (fun i hi => h.v.in_rest i hi) h.b.size), h.sc, h.dc,
    fun g hg => ⟨fun e => s'.row.out g hg (or g e), fun e => s'.row.out g hg (ol g e), fun e => s'.row.out g hg (od g e)⟩⟩
def Trio (w wr : World) (s x c d i j : Nat) : Prop := ∃ rv lv dv cv M N D C, Tri w wr s x c d rv lv dv cv M N D C ∧ M.map El.pu = N.map El.pu ∧ D.map El.pu = N.map El.pu ∧ M.length ≤ i ∧ C.length ≤ j
theorem Trio.first {w wr : World} {s x c d i j : Nat} (h : Trio w wr s x c d i j) : Duo w wr s x i := by
  obtain ⟨rv, lv, dv, cv, M, N, D, C, h, e1, e2, l1, l2⟩ := h
  exact ⟨rv, lv, M, N, h.t, h.b, e1, l1⟩
theorem Trio.last {w wr : World} {s x c d i j : Nat} (h : Trio w wr s x c d i j) : Duo w wr d x i := by
  obtain ⟨rv, lv, dv, cv, M, N, D, C, h, e1, e2, l1, l2⟩ := h
  exact ⟨dv, lv, D, N, h.u, h.b, e2, by rw [len_pu e2, ← len_pu e1]; exact l1⟩
theorem Trio.below {w wr : World} {s x c d i j : Nat} (h : Trio w wr s x c d i j) : Below w.heap.size w wr := h.first.below
theorem Duo.copies {w W : World} {s x i : Nat} (h : Duo w W s x i) (hi : i ≤ 1000000) : Calls Tryd.prog 17 #[ptr s] W fun e w5 => ∃ c, e = .returned (ptr c) ∧ Calls Tryd.prog 17 #[ptr s] w5 fun e w6 => ∃ d, e = .returned (ptr d) ∧ Trio w w6 s x c d i i := by
  obtain ⟨rv, lv, M, N, t, b0, e, l⟩ := h
  refine (copy_any t.p (by omega)).mono ?_
  rintro e1 w5 ⟨c, cv, C, rfl, sc, hc, b5⟩
  have t5 := t.old b5
  refine ⟨c, rfl, (copy_any t5.p (by omega)).mono ?_⟩
  rintro e2 w6 ⟨d, dv, D, rfl, sd, hd, b6⟩
  have t6 := t5.old b6
  have z0 := b0.size
  have z5 := b5.size
  refine ⟨d, rfl, rv, lv, dv, cv, M, N, D, C, ⟨t6, ⟨sd.sub fun k hk => by omega, t6.q, fun g hg e3 => sd.row.out g hg (own_blk t5.q.row.own e3).1⟩, (sc.old b6).sub fun k hk => by omega, (b0.trans (b5.mono z0)).trans (b6.mono (by omega)), fun e3 => ?_, fun e3 => ?_, fun g hg => ⟨fun e3 => ?_, fun e3 => ?_, fun e3 => ?_⟩⟩, e, hd.trans e, l, by rw [len_pu hc]; exact l⟩
  · have := sc.out
    have := t.p.lt
    omega
  · have := sd.out
    have := sc.lt
    omega
  · exact sc.row.out g hg (own_blk t.p.row.own e3).1
  · exact sc.row.out g hg (own_blk t.q.row.own e3).1
  · exact sd.row.out g e3 (own_blk sc.row.own hg).1
theorem Trio.next {w wr : World} {s x c d i j : Nat} (h : Trio w wr s x c d i j) (hj : j ≤ 800000) (T : Dd) (hI : DdIn w T) (hf : T.e.al.length ≤ 4398046511104) (hT : Tb w) {W1 : World} (hW : wr.alloc (.cells #[.slice none 0 0] 28) = W1) :
    Calls Tryd.prog 11 #[ptr c, ptr wr.heap.size, .agg T.arr] W1 fun e w' => ∃ r, e = .returned (iv r) ∧ Trio w w' s x c d i (j + 1) := by
  obtain ⟨rv, lv, dv, cv, M, N, D, C, h, e1, e2, l1, l2⟩ := h
  have b1 : Below wr.heap.size wr W1 := by rw [← hW]; exact (Below.refl _ _).alloc (Nat.le_refl _) _
  have two : Two (Rest wr c cv) W1 c wr.heap.size cv (.slice none 0 0) C [] := ⟨h.v.rest.old b1, ⟨fun k hk => Nat.lt_of_lt_of_le hk.1 b1.size, by rw [← hW]; exact heap_alloc_new wr _, fun hk => Nat.lt_irrefl _ hk.1, Rw.nil _ _ _ _, fun d hd => by simp at hd⟩, fun g _ hg => by simp [Value.ownBlock] at hg⟩
  have bb : ∀ V, Keep (Rest wr c cv) W1 V → Below w.heap.size w V := fun V k => h.b.trans (((Keep.old b1).trans k).below (fun i hi => h.v.in_rest i hi) h.b.size)
  refine (do_any two (by omega) (by simp) T (fun V k => hI.old (bb V k)) hf (fun V k => hT.below (bb V k))).mono ?_
  rintro e w' ⟨r, rfl, cv', lv', C', N', t', k', l3, _, _⟩
  exact ⟨r, rfl, rv, lv, dv, cv', M, N, D, C', h.step ((Keep.old b1).trans k') t'.p, e1, e2, l1, by omega⟩
/-- All and Same, and then chapter 16's examples. -/
theorem Duo.same2 {w W : World} {x y i : Nat} (h : Duo w W x y i) (hT : Tb w) (hi : i ≤ 1000000) {yo : Option Addr} {ym yc : Nat} (f : W.cell? ⟨y, 0, none⟩ = some (.slice yo ym yc)) :
    Calls Tryd.prog 16 #[ptr x] W fun e w8 => ∃ so m sc, e = .returned (.slice so m sc) ∧ w8.cell? ⟨y, 0, none⟩ = some (.slice yo ym yc) ∧ Hid (Calls Tryd.prog 15 #[.slice so m sc, .slice yo ym yc] w8 fun e w9 => e = .returned (.bool true) ∧ w9.cell? ⟨y, 0, none⟩ = some (.slice yo ym yc) ∧ Hid (Below W.heap.size W w9) ∧ Hid (Calls Tryd.prog 10 #[] w9 fun e w10 => e = .returned (.bool true) ∧ w10.cell? ⟨y, 0, none⟩ = some (.slice yo ym yc) ∧ Hid (Below w.heap.size w w10))) := by
  have mv : ∀ {V V' : World} {p : Addr} {u : Value}, Below V.heap.size V V' → V.cell? p = some u → V'.cell? p = some u := fun {V V' p u} b hp => (b.cell (p := p) (World.block_lt_of_cell? V _ hp)).trans hp
  have b0 := h.below
  refine (h.all hi).mono ?_
  rintro e w8 ⟨so, m, sc, rfl, b8, hs⟩
  have f8 := mv b8 f
  refine ⟨so, m, sc, rfl, f8, (hs _ _ _ f8).mono ?_⟩
  rintro e w9 ⟨rfl, b9⟩
  have f9 := mv b9 f8
  have b89 := b8.trans (b9.mono b8.size)
  have b09 := b0.trans (b89.mono b0.size)
  refine ⟨rfl, f9, b89, (awake_any (hT.below b09)).mono ?_⟩
  rintro e w10 ⟨rfl, b10⟩
  exact ⟨rfl, mv b10 f9, b09.trans (b10.mono b09.size)⟩
end Go.Proofs.YtkmghkfdegdikaaDoor
