/- Both stacks, the same: Do, Top, All. -/
import Derived.Test.YtkmghkfdegdikaaDoorEb
namespace Go.Proofs.YtkmghkfdegdikaaDoor
open Go.ChangeShapes Go.WideShapes Go.ChangeAt Go.RowKit Go.Joins

/-- Both stacks, the same, of at most so many. -/
def Duo (w wr : World) (x y i : Nat) : Prop := ∃ rv lv M N, Two (fun k => k < w.heap.size) wr x y rv lv M N ∧ Below w.heap.size w wr ∧ M.map El.pu = N.map El.pu ∧ M.length ≤ i
theorem Duo.old {w wr V : World} {x y i : Nat} (h : Duo w wr x y i) (b : Below wr.heap.size wr V) : Duo w V x y i := by
  obtain ⟨rv, lv, M, N, t, b0, e, l⟩ := h
  exact ⟨rv, lv, M, N, t.old b, b0.trans (b.mono b0.size), e, l⟩
theorem Duo.below {w wr : World} {x y i : Nat} (h : Duo w wr x y i) : Below w.heap.size w wr := by
  obtain ⟨_, _, _, _, _, b0, _, _⟩ := h
  exact b0
theorem Duo.cell {w wr : World} {x y i : Nat} (h : Duo w wr x y i) : ∃ yo m yc, wr.cell? ⟨y, 0, none⟩ = some (.slice yo m yc) := by
  obtain ⟨rv, lv, M, N, t, b0, e, l⟩ := h
  obtain ⟨yo, yc, hlv, _⟩ := t.q.row.slice
  have h0 : wr.cell? ⟨y, 0, none⟩ = some lv := t.q.blk.cell 0
  rw [hlv] at h0
  exact ⟨yo, _, yc, h0⟩
theorem Duo.ylt {w wr : World} {x y i : Nat} (h : Duo w wr x y i) : y < wr.heap.size := by
  obtain ⟨rv, lv, M, N, t, b0, e, l⟩ := h
  exact t.q.lt
/-- The deed at a place, in a later world. -/
theorem DdsIn.at2 {w wr : World} {lo : Option Addr} {len : Nat} {l : List Dd} (h : DdsIn w lo len l) (b : Below w.heap.size w wr) {i : Nat} (hi : i < len) :
    ∃ (d : Dd) (b off : Nat) (ao : Option Addr) (ac : Nat), lo = some ⟨b, off, none⟩ ∧ wr.cell? ⟨b, off + i * 8, none⟩ = some (iv d.k) ∧ wr.cell? ⟨b, off + i * 8 + 1, none⟩ = some (iv d.a) ∧ wr.cell? ⟨b, off + i * 8 + 2, none⟩ = some (iv d.s) ∧ wr.cell? ⟨b, off + i * 8 + 3, none⟩ = some (iv d.e.id) ∧ wr.cell? ⟨b, off + i * 8 + 4, none⟩ = some (iv d.e.sp) ∧ wr.cell? ⟨b, off + i * 8 + 5, none⟩ = some (.string d.e.nm) ∧ wr.cell? ⟨b, off + i * 8 + 6, none⟩ = some d.e.av ∧ wr.cell? ⟨b, off + i * 8 + 7, none⟩ = some (.slice d.no d.nl.length d.nc) ∧ d.e.av = .slice ao d.e.al.length ac ∧ DdIn w d ∧ d.e.al.length ≤ 4398046511104 := by
  obtain ⟨d, k, off, ao, ac, h1, q0, q1, q2, q3, q4, q5, q6, q7, h2⟩ := h.at hi
  have mv : ∀ {p : Addr} {u : Value}, w.cell? p = some u → wr.cell? p = some u := fun {p u} hp => (b.cell (p := p) (World.block_lt_of_cell? w _ hp)).trans hp
  exact ⟨d, k, off, ao, ac, h1, mv q0, mv q1, mv q2, mv q3, mv q4, mv q5, mv q6, mv q7, h2⟩
theorem Duo.next {w wr : World} {x y i : Nat} (h : Duo w wr x y i) (hi : i ≤ 800000) (T : Dd) (hI : DdIn w T) (hf : T.e.al.length ≤ 4398046511104) (hT : Tb w) : Calls Tryd.prog 11 #[ptr x, ptr y, .agg T.arr] wr fun e w' => e = .returned (iv 1) ∧ Duo w w' x y (i + 1) := by
  obtain ⟨rv, lv, M, N, t, b0, e, l⟩ := h
  have hl := len_pu e
  have bb : ∀ V, Keep (fun k => k < w.heap.size) wr V → Below w.heap.size w V := fun V k => b0.trans (k.below (fun _ h => h) b0.size)
  refine (do_any t (by omega) (by omega) T (fun V k => hI.old (bb V k)) hf (fun V k => hT.below (bb V k))).mono ?_
  rintro e' w' ⟨r, rfl, rv', lv', M', N', t', k', l1, l2, h'⟩
  obtain ⟨rfl, hp⟩ := h' e
  exact ⟨rfl, rv', lv', M', N', t', bb _ k', hp, by omega⟩
theorem top_pr {S : Nat → Prop} {w : World} {x : Nat} {rv : Value} {M : List El} (h : Stk S w x rv M) (hM : M.length ≤ 1000000) : Calls Tryd.prog 12 #[ptr x] w fun e w' => ∃ v, e = .returned v ∧ PopR M w v w' ∧ Below w.heap.size w w' := by
  cases hl : M.length with
  | zero =>
    obtain rfl := List.eq_nil_of_length_eq_zero hl
    refine (top_none h).mono ?_
    rintro e V' ⟨rfl, b⟩
    exact ⟨_, rfl, ⟨⟨0, 0, ⟨#[]⟩, .slice none 0 0, []⟩, false, rfl, Own.nil _, rfl, rfl⟩, b⟩
  | succ m =>
    obtain ⟨d, hd⟩ : ∃ d, M[m]? = some d := ⟨_, List.getElem?_eq_getElem (by omega)⟩
    refine (top_any h hl hd (by omega)).mono ?_
    rintro e V' ⟨v, rfl, o, b⟩
    obtain ⟨q1, q2⟩ := popR_last hl hd
    exact ⟨_, rfl, ⟨⟨d.id, d.sp, d.nm, v, d.al⟩, true, rfl, o, q1, q2⟩, b⟩
theorem rtop_pr {S : Nat → Prop} {w : World} {y : Nat} {lv : Value} {N : List El} (h : RStk S w y lv N) (hN : N.length ≤ 1000000) : Calls Tryd.prog 13 #[ptr y] w fun e w' => ∃ v, e = .returned v ∧ PopR N w v w' ∧ Below w.heap.size w w' := by
  cases hl : N.length with
  | zero =>
    obtain rfl := List.eq_nil_of_length_eq_zero hl
    refine (rtop_none h).mono ?_
    rintro e V' ⟨rfl, b⟩
    exact ⟨_, rfl, ⟨⟨0, 0, ⟨#[]⟩, .slice none 0 0, []⟩, false, rfl, Own.nil _, rfl, rfl⟩, b⟩
  | succ m =>
    obtain ⟨d, hd⟩ : ∃ d, N[m]? = some d := ⟨_, List.getElem?_eq_getElem (by omega)⟩
    refine (rtop_any h hl hd (by omega)).mono ?_
    rintro e V' ⟨rfl, b⟩
    obtain ⟨q1, q2⟩ := popR_last hl hd
    exact ⟨_, rfl, ⟨d, true, rfl, (h.own d (List.mem_of_getElem? hd)).old b, q1, q2⟩, b⟩
theorem Duo.tops {w wr : World} {x y i : Nat} (h : Duo w wr x y i) (hi : i ≤ 1000000) : Calls Tryd.prog 12 #[ptr x] wr fun e w4 => ∃ (id sp : Int) (nm : ByteArray) (ao : Option Addr) (ac : Nat) (al : List At) (b : Bool), e = .returned (.tuple #[.agg #[iv id, iv sp, .string nm, .slice ao al.length ac], .bool b]) ∧ Own w4 (.slice ao al.length ac) al ∧ Below wr.heap.size wr w4 ∧
    ∀ V, Below w4.heap.size w4 V → Calls Tryd.prog 13 #[ptr y] V fun e w6 => ∃ (ao' : Option Addr) (ac' : Nat), e = .returned (.tuple #[.agg #[iv id, iv sp, .string nm, .slice ao' al.length ac'], .bool b]) ∧ Own w6 (.slice ao' al.length ac') al ∧ Below V.heap.size V w6 := by
  obtain ⟨rv, lv, M, N, t, b0, e, l⟩ := h
  have hl := len_pu e
  refine (top_pr t.p (by omega)).mono ?_
  rintro e1 w4 ⟨v, rfl, ⟨d, b, rfl, o, hp, hb⟩, b4⟩
  obtain ⟨ao, ac, hav, _⟩ := o.1.slice
  obtain ⟨id, sp, nm, av, al⟩ := d
  simp only at hav
  subst hav
  refine ⟨id, sp, nm, ao, ac, al, b, rfl, o, b4, fun V bV => ?_⟩
  refine (rtop_pr (t.q.old (b4.trans (bV.mono b4.size))) (by omega)).mono ?_
  rintro e2 w6 ⟨v, rfl, ⟨d', b', rfl, o', hp', hb'⟩, b6⟩
  obtain ⟨ao', ac', hav', _⟩ := o'.1.slice
  obtain ⟨id', sp', nm', av', al'⟩ := d'
  simp only at hav'
  subst hav'
  have hpp := hp.trans ((congrArg (fun q => (q.getLast?).getD (0, 0, ⟨#[]⟩, [])) e).trans hp'.symm)
  simp only [El.pu, Prod.mk.injEq] at hpp
  obtain ⟨rfl, rfl, rfl, rfl⟩ := hpp
  have hbb : b = b' := by
    rw [hb, hb']
    cases M <;> cases N <;> first | rfl | (simp at hl)
  subst hbb
  exact ⟨ao', ac', rfl, o', b6⟩
theorem Duo.all {w wr : World} {x y i : Nat} (h : Duo w wr x y i) (hi : i ≤ 1000000) : Calls Tryd.prog 16 #[ptr x] wr fun e w8 => ∃ ao m ac, e = .returned (.slice ao m ac) ∧ Below wr.heap.size wr w8 ∧ ∀ yo ym yc, w8.cell? ⟨y, 0, none⟩ = some (.slice yo ym yc) → Calls Tryd.prog 15 #[.slice ao m ac, .slice yo ym yc] w8 fun e w9 => e = .returned (.bool true) ∧ Below w8.heap.size w8 w9 := by
  obtain ⟨rv, lv, M, N, t, b0, e, l⟩ := h
  have hl := len_pu e
  refine (all_any t.p (by omega)).mono ?_
  rintro e' w8 ⟨v, A, rfl, r, pu, o, b⟩
  have hA : A.length = M.length := len_pu pu
  obtain ⟨ao, ac, rfl, _⟩ := r.slice
  refine ⟨ao, _, ac, rfl, b, fun yo ym yc hc => ?_⟩
  have tq := t.q.old b
  obtain rfl : lv = .slice yo ym yc := by
    have h0 : w8.cell? ⟨y, 0, none⟩ = some lv := tq.blk.cell 0
    rw [hc] at h0
    exact (Option.some.inj h0).symm
  obtain ⟨_, _, e2, _⟩ := tq.row.slice
  have hm : N.length = ym := by
    simp only [Value.slice.injEq] at e2
    exact e2.2.1.symm
  refine (same_any M.length ym ac yc ⟨by rw [hA]; exact r.sub (fun _ h => h.elim), o⟩ ⟨tq.row.sub (fun _ h => h.elim), tq.own⟩ hA hm (by omega)).mono ?_
  rintro e3 w9 ⟨b3, rfl, h3, b9⟩
  exact ⟨by rw [h3 (pu.trans e)], b9⟩
end Go.Proofs.YtkmghkfdegdikaaDoor
