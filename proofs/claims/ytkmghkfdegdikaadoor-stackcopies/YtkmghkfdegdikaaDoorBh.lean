/- Above. -/
import Derived.Test.YtkmghkfdegdikaaDoorBg
namespace Go.Proofs.YtkmghkfdegdikaaDoor
open Go.RowKit

/-- A call of a function of three arguments by its contract, as one step of a region that draws. -/
theorem step_call3 {P : Program} {ops : Array Oper} {o : Oper} {a : Act} {w : World} {K : Act → World → Prop} {Q : Exit → Act → World → Prop} {E : Prop} (f : FuncId) (x y z : Operand) (ts : Array TypeId)
    (hg : o.guard = none) (hop : o.op = Op.call { callee := Callee.value (.func f), args := #[x, y, z], argTypes := ts }) (henter : ∀ args w, (callFunc f args).run P w = .ok (.enter f args) w)
    (u v t : Value) (hx : a.eval x = u) (hy : a.eval y = v) (hz : a.eval z = t) {R : Ending → World → Prop} (hc : Calls P f #[u, v, t] w R) (hK : ∀ e w', R e w' → ∃ r, e = .returned r ∧ K (a.put o.dst r) w') :
    if Region.wanted o (yielded ops a.tmps) = true then Oper.wp P o a w K Q else E := by
  have hw : Region.wanted o (yielded ops a.tmps) = true := by simp [Region.wanted, hg]
  rw [if_pos hw]
  unfold Oper.wp
  have he : a.eval (.func f) = .func (.func f) #[] #[] := rfl
  have hrun : (execOp a.eval o).run P w = .ok (.enter f #[u, v, t]) w := by
    simp [execOp, hop, resolve, Deferred.ofValue, he, hx, hy, hz, invoke, henter]
  rw [hrun]
  refine Calls.mono (show Calls P f _ w R from hc) ?_
  intro e w' h
  obtain ⟨r, rfl, hk⟩ := hK e w' h
  exact hk
theorem enters47 : ∀ args w, (callFunc 47 args).run Tryd.prog w = .ok (.enter 47 args) w := enters_of Tryd.func47 (by kernel_rfl) rfl
/-- The row of a stack is laid anew. -/
theorem Stk.laid2 {S : Nat → Prop} {w W : World} {x g n c : Nat} {V : Value} {M N : List El} (h : Stk S w x (.slice (some ⟨g, 0, none⟩) n c) M) (hg : w.grownBy W (some g)) (hr : Rw S W 34 4 V N.length (N.flatMap El.cs)) (ho : ∀ d ∈ N, Own w d.av d.al) :
    W.cell? ⟨x, 0, none⟩ = some (.slice (some ⟨g, 0, none⟩) n c) ∧ W.frozen? ⟨x, 0, none⟩ = false ∧ Stk S (W.setCell ⟨x, 0, none⟩ V) x V N ∧ Keep S w (W.setCell ⟨x, 0, none⟩ V) := by
  have hgx : g ≠ x := fun e => by
    obtain ⟨_, c', h5⟩ := own_blk h.row.own (show (Value.slice (some ⟨g, 0, none⟩) n c).ownBlock = some g from rfl)
    have := h.blk
    unfold Bx at this
    rw [e, this] at h5
    simp at h5
  have x3 : Bx W x 55 #[.slice (some ⟨g, 0, none⟩) n c] := (hg.block x h.lt (fun e => hgx (by simpa using e.symm))).trans h.blk
  have sz : (W.setCell ⟨x, 0, none⟩ V).heap.size = W.heap.size := World.size_setCell _ _ _
  have kk : ∀ k, k < w.heap.size → k ≠ g → k ≠ x → (W.setCell ⟨x, 0, none⟩ V).heap[k]? = w.heap[k]? := fun k h1 h2 h3 =>
    (heap_setCell_other W ⟨x, 0, none⟩ k _ h3).trans (hg.block k h1 (fun e => h2 (by simpa using e)))
  refine ⟨x3.cell 0, x3.frozen 0, ⟨fun k hk => ?_, by have := x3.set 0 V; exact this, h.out, hr.mv fun k hk => ?_, fun d hd => (ho d hd).mv fun k cu hk => ?_⟩, ⟨hg.os, hg.tape, hg.output, by rw [sz]; exact hg.size, fun k h1 h2 => kk k h2 (fun e => h.row.out g rfl (e ▸ h1)) (fun e => h.out (e ▸ h1))⟩⟩
  · rw [sz]
    exact Nat.lt_of_lt_of_le (h.low k hk) hg.size
  · refine heap_setCell_other W ⟨x, 0, none⟩ k _ (fun e => ?_)
    obtain ⟨_, c', h5⟩ := own_blk hr.own hk
    unfold Bx at x3
    rw [show k = x from e, x3] at h5
    simp at h5
  · refine kk k (Array.getElem?_eq_some_iff.1 hk).1 (fun e => ?_) (fun e => ?_)
    · obtain ⟨_, c', h5⟩ := own_blk h.row.own (show (Value.slice (some ⟨g, 0, none⟩) n c).ownBlock = some g from rfl)
      rw [e, h5] at hk
      simp at hk
    · have := h.blk
      unfold Bx at this
      rw [e, this] at hk
      simp at hk
/-- What is left behind Above. -/
def abvP (id : Int) (M : List El) (d : El) : List El := if fnd id M M.length < 0 then M else M.take ((fnd id M M.length).toNat + 1) ++ [d] ++ M.drop ((fnd id M M.length).toNat + 1)
/-- What Above answers. -/
def Abv (S : Nat → Prop) (x : Nat) (id : Int) (M : List El) (d : El) (w : World) (e : Ending) (w' : World) : Prop := e = .returned (.bool (decide (0 ≤ fnd id M M.length))) ∧ (∃ v, StkE S w' x (abvP id M { d with av := v })) ∧ Keep S w w'
set_option linter.unusedSimpArgs false in
set_option maxHeartbeats 4000000 in
set_option maxRecDepth 20000 in
theorem above_any {S : Nat → Prop} {w : World} {x : Nat} {rv : Value} {M : List El} (h : Stk S w x rv M) (hM : M.length ≤ 100000000) (id : Int) (d : El) (ha : Ats w d.av d.al) :
    Calls Tryd.prog 26 #[ptr x, iv id, .agg d.arr] w (Abv S x id M d w) := by
  obtain ⟨did, dsp, dnm, dav, dal⟩ := d
  obtain ⟨ao2, ac2, hav, _⟩ := ha.ex
  simp only at hav
  subst hav
  obtain ⟨W1, hW1⟩ : ∃ W1, w.alloc (.cells #[iv did, iv dsp, .string dnm, .slice ao2 dal.length ac2] 34) = W1 := ⟨_, rfl⟩
  have HW1 : Hid (w.alloc (.cells #[iv did, iv dsp, .string dnm, .slice ao2 dal.length ac2] 34) = W1) := hW1
  have x1 : Bx W1 w.heap.size 34 #[iv did, iv dsp, .string dnm, .slice ao2 dal.length ac2] := by rw [← hW1]; exact heap_alloc_new w _
  have b1 : Below w.heap.size w W1 := by rw [← hW1]; exact (Below.refl _ _).alloc (Nat.le_refl _) _
  clear hW1
  have h1 := h.old b1
  have kf := find_any h1 (by omega) id
  have hb := fnd_le id M M.length
  obtain ⟨z, hz⟩ : ∃ z, fnd id M M.length = z := ⟨_, rfl⟩
  have HP : Hid (∀ d, abvP id M d = if z < 0 then M else M.take (z.toNat + 1) ++ [d] ++ M.drop (z.toNat + 1)) := fun d => by rw [abvP, hz]
  have HZ : Hid (fnd id M M.length = z) := hz
  rw [hz] at kf hb
  show Calls Tryd.prog 26 #[ptr x, iv id, .agg #[iv did, iv dsp, .string dnm, .slice ao2 dal.length ac2]] w _
  by_cases h0 : z < 0
  · obtain rfl : z = -1 := by omega
    have HF : Hid (Abv S x id M ⟨did, dsp, dnm, .slice ao2 dal.length ac2, dal⟩ w (.returned (.bool false)) W1) := ⟨by rw [HZ.out]; rfl, ⟨.slice none 0 0, rv, by rw [HP.out, if_pos (by decide)]; exact h1⟩, Keep.old b1⟩
    clear h h1 hM hb hz h0 HP HZ x1 b1 ha
    go_enter Tryd.func26, Tryd.ntmps26
    go_upto_region 1 with fail
    rw [HW1.out]
    go_wp2_with fail
    refine kf.mono ?_
    rintro e w' ⟨rfl, hw'⟩
    rw [hw']
    clear hw' kf
    go_wp2_with fail
    go_ret
    exact HF.out
  · obtain ⟨k, rfl⟩ : ∃ k : Nat, z = (k : Int) := ⟨z.toNat, by omega⟩
    obtain ⟨n, hn⟩ : ∃ n, M.length = n := ⟨_, rfl⟩
    rw [hn] at hb hM
    obtain ⟨g, c, cur, hrv, _⟩ := h.row.form (by omega)
    subst hrv
    rw [hn] at h h1
    obtain ⟨i, hi⟩ : ∃ i, i = k + 1 := ⟨_, rfl⟩
    have hki : (k : Int) + 1 = (i : Int) := by omega
    have hwi : IntKind.i64.wrap (i : Int) = (i : Int) := by rw [IntKind.wrap_i64]; omega
    have hib : i ≤ 100000000 := by omega
    have hne : ((k : Int) == -1) = false := beq_false_of_ne (by omega)
    have cx : W1.cell? ⟨x, 0, none⟩ = some (.slice (some ⟨g, 0, none⟩) n c) := h1.blk.cell 0
    have e0 : W1.cell? ⟨w.heap.size, 0, none⟩ = some (iv did) := x1.cell 0
    have e1 : W1.cell? ⟨w.heap.size, 1, none⟩ = some (iv dsp) := x1.cell 1
    have e2 : W1.cell? ⟨w.heap.size, 2, none⟩ = some (.string dnm) := x1.cell 2
    have e3 : W1.cell? ⟨w.heap.size, 3, none⟩ = some (.slice ao2 dal.length ac2) := x1.cell 3
    have kc := copied_any (w := W1.drew) (d := ⟨did, dsp, dnm, .slice ao2 dal.length ac2, dal⟩) (ha.old (b1.trans ((Below.refl W1.heap.size W1).drew.mono b1.size)))
    have HC : Hid (Calls Tryd.prog 38 #[.agg #[iv did, iv dsp, .string dnm, .slice ao2 dal.length ac2]] W1.drew (Cpd ⟨did, dsp, dnm, .slice ao2 dal.length ac2, dal⟩ W1.drew)) := kc
    have HH : Hid (∀ w1 e, Cpd ⟨did, dsp, dnm, .slice ao2 dal.length ac2, dal⟩ W1.drew e w1 → ∃ ao5 an5 ac5, e = .returned (.agg #[iv did, iv dsp, .string dnm, .slice ao5 an5 ac5]) ∧ w1.cell? ⟨x, 0, none⟩ = some (.slice (some ⟨g, 0, none⟩) n c) ∧ (w1.alloc (.cells #[iv did, iv dsp, .string dnm, .slice ao5 an5 ac5] 34)).cell? ⟨x, 0, none⟩ = some (.slice (some ⟨g, 0, none⟩) n c) ∧
        Hid (Calls Tryd.prog 47 #[.slice (some ⟨g, 0, none⟩) n c, iv (i : Int), .slice (some ⟨w1.heap.size, 0, none⟩) 1 1] (w1.alloc (.cells #[iv did, iv dsp, .string dnm, .slice ao5 an5 ac5] 34)) fun e' w2 => ∃ o6 n6 c6, e' = .returned (.slice o6 n6 c6) ∧ w2.cell? ⟨x, 0, none⟩ = some (.slice (some ⟨g, 0, none⟩) n c) ∧ w2.frozen? ⟨x, 0, none⟩ = false ∧ Hid (Abv S x id M ⟨did, dsp, dnm, .slice ao2 dal.length ac2, dal⟩ w (.returned (.bool true)) (w2.setCell ⟨x, 0, none⟩ (.slice o6 n6 c6))))) := by
      rintro w1 e ⟨v, rfl, o1, _, b2⟩
      have hb2 : Below W1.heap.size W1 w1 := (Below.refl W1.heap.size W1).drew.trans b2
      obtain ⟨ao5, ac5, hv, _⟩ := o1.1.slice
      simp only at hv o1
      subst hv
      have h2 := h1.old hb2
      have bn : Below w1.heap.size w1 (w1.alloc (.cells #[iv did, iv dsp, .string dnm, .slice ao5 dal.length ac5] 34)) := (Below.refl _ _).alloc (Nat.le_refl _) _
      have xn : Bx (w1.alloc (.cells #[iv did, iv dsp, .string dnm, .slice ao5 dal.length ac5] 34)) w1.heap.size 34 #[iv did, iv dsp, .string dnm, .slice ao5 dal.length ac5] := heap_alloc_new w1 _
      obtain ⟨W3, hW3⟩ : ∃ W3, w1.alloc (.cells #[iv did, iv dsp, .string dnm, .slice ao5 dal.length ac5] 34) = W3 := ⟨_, rfl⟩
      rw [hW3] at bn xn
      have h3 := h2.old bn
      have o3 := o1.old bn
      have hr3 := h3.row
      rw [hn] at hr3
      have hgw : w1.heap.size ≠ g := fun e => by
        obtain ⟨q, _⟩ := own_blk h2.row.own (show (Value.slice (some ⟨g, 0, none⟩) n c).ownBlock = some g from rfl)
        omega
      have kI := insert_any (w := W3) h3.low hr3 hn (by omega) (by omega) (fun e he => (h3.own e he).one) i (by omega) ⟨did, dsp, dnm, .slice ao5 dal.length ac5, dal⟩ rfl (vb := w1.heap.size) xn hgw
      refine ⟨_, _, _, rfl, h2.blk.cell 0, by rw [hW3]; exact h3.blk.cell 0, ?_⟩
      rw [hW3]
      show Calls _ _ _ _ _
      refine kI.mono ?_
      rintro e w2 ⟨V, rfl, r2, g2⟩
      have hlen : (M.take i ++ [(⟨did, dsp, dnm, .slice ao5 dal.length ac5, dal⟩ : El)] ++ M.drop i).length = n + 1 := by
        rw [List.length_append, List.length_append, List.length_take, List.length_drop, hn]
        simp
        omega
      rw [← hlen] at r2
      obtain ⟨y2, f2, s4, k4⟩ := h3.laid2 g2 r2 (fun e he => by
        rcases List.mem_append.1 he with he | he
        · rcases List.mem_append.1 he with he | he
          · exact h3.own e (List.take_subset _ _ he)
          · simp at he
            subst he
            exact o3
        · exact h3.own e (List.drop_subset _ _ he))
      obtain ⟨o6, c6, rfl, _⟩ := r2.slice
      refine ⟨_, _, _, rfl, y2, f2, ?_⟩
      refine ⟨by rw [HZ.out]; simp, ⟨.slice ao5 dal.length ac5, ?_⟩, (Keep.old (b1.trans ((hb2.trans (bn.mono hb2.size)).mono b1.size))).trans k4⟩
      rw [HP.out, if_neg (by omega)]
      rw [show (k : Int).toNat + 1 = i by omega]
      exact ⟨_, s4⟩
    clear h h1 hz HP HZ x1 b1 ha kc hb hn hi
    go_enter Tryd.func26, Tryd.ntmps26
    go_upto_region 1 with fail
    rw [HW1.out]
    go_wp2_with fail
    refine kf.mono ?_
    rintro e w' ⟨rfl, hw'⟩
    rw [hw']
    clear hw' kf w'
    go_upto_region 4 with fail
    go_region_law (first
      | (refine step_call1 38 _ _ rfl rfl enters38 _ (by first | (simp [Act.eval]; done) | simp [Act.eval, Act.put]) HC.out ?_; rintro e w1 hh; obtain ⟨ao5, an5, ac5, rfl, y0, y1, hcall⟩ := HH.out w1 e hh; clear hh; refine ⟨_, rfl, ?_⟩)
      | (refine step_call3 47 _ _ _ _ rfl rfl enters47 _ _ _ (by first | (simp [Act.eval]; done) | simp [Act.eval, Act.put]) (by first | (simp [Act.eval]; done) | simp [Act.eval, Act.put]) (by first | (simp [Act.eval]; done) | simp [Act.eval, Act.put]) hcall.out ?_; rintro e w2 ⟨o6, n6, c6, rfl, y2, f2, HPU⟩; refine ⟨_, rfl, ?_⟩))
    all_goals
      go_wp2_with fail
      go_ret
      exact HPU.out
end Go.Proofs.YtkmghkfdegdikaaDoor
