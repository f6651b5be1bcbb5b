/- The program's stack in memory; New, size, Push. -/
import Derived.Test.YtkmghkfdegdikaaDoorAc
import Derived.Shelf.Abstract
namespace Go.Proofs.YtkmghkfdegdikaaDoor
open Go.RowKit

theorem el_len (M : List El) : (M.flatMap El.cs).length = M.length * 4 := fl_len El.cs 4 (fun _ => rfl) M
/-- Block x holds a stack of these elements, in no block of S. -/
structure Stk (S : Nat → Prop) (w : World) (x : Nat) (rv : Value) (M : List El) : Prop where
  low : ∀ k, S k → k < w.heap.size
  blk : Bx w x 55 #[rv]
  out : ¬ S x
  row : Rw S w 34 4 rv M.length (M.flatMap El.cs)
  own : ∀ d ∈ M, Own w d.av d.al
theorem Stk.old {S : Nat → Prop} {w w' : World} {x : Nat} {rv : Value} {M : List El} (h : Stk S w x rv M) (b : Below w.heap.size w w') : Stk S w' x rv M :=
  ⟨fun k hk => Nat.lt_of_lt_of_le (h.low k hk) b.size, h.blk.old b, h.out, h.row.old b, fun d hd => (h.own d hd).old b⟩
theorem Stk.lt {S : Nat → Prop} {w : World} {x : Nat} {rv : Value} {M : List El} (h : Stk S w x rv M) : x < w.heap.size := h.blk.lt
/-- The element at a place. -/
theorem Stk.at {S : Nat → Prop} {w : World} {x : Nat} {rv : Value} {M : List El} (h : Stk S w x rv M) {i : Nat} {d : El} (hi : M[i]? = some d) :
    ∃ g c, rv = .slice (some ⟨g, 0, none⟩) M.length c ∧ M.length ≤ c ∧ c ≤ maxLen ∧ w.cell? ⟨g, i * 4, none⟩ = some (iv d.id) ∧ w.cell? ⟨g, i * 4 + 1, none⟩ = some (iv d.sp) ∧ w.cell? ⟨g, i * 4 + 2, none⟩ = some (.string d.nm) ∧ w.cell? ⟨g, i * 4 + 3, none⟩ = some d.av ∧ Own w d.av d.al := by
  have hl := (List.getElem?_eq_some_iff.1 hi).1
  have hr := h.row
  obtain ⟨g, c, cur, rfl, _, _, _, h1, h2, _⟩ := hr.form (by omega)
  have k := fun (j : Nat) (hj : j < 4) => fl_at El.cs 4 (fun _ => rfl) M i j d hi hj
  exact ⟨g, c, rfl, h1, h2, hr.cell (k 0 (by decide)), hr.cell (k 1 (by decide)), hr.cell (k 2 (by decide)), hr.cell (k 3 (by decide)), h.own d (List.mem_of_getElem? hi)⟩

theorem size_nil (w : World) : Calls Tryd.prog 37 #[.pointer none] w fun e w' => e = .returned (iv 0) ∧ w' = w := by
  go_enter Tryd.func37, Tryd.ntmps37
  go_wp2_with fail
  go_ret
  exact ⟨rfl, rfl⟩
theorem size_any {S : Nat → Prop} {w : World} {x : Nat} {rv : Value} {M : List El} (h : Stk S w x rv M) : Calls Tryd.prog 37 #[ptr x] w fun e w' => e = .returned (iv (M.length : Int)) ∧ w' = w := by
  obtain ⟨ao, c, rfl, _⟩ := h.row.slice
  have c0 : w.cell? ⟨x, 0, none⟩ = some (.slice ao M.length c) := h.blk.cell 0
  clear h
  go_enter Tryd.func37, Tryd.ntmps37
  go_wp2_with fail
  go_ret
  exact ⟨rfl, rfl⟩
theorem new_any (w : World) : Calls Tryd.prog 8 #[] w fun e w' => e = .returned (ptr w.heap.size) ∧ Below w.heap.size w w' ∧ Stk (fun k => k < w.heap.size) w' w.heap.size (.slice none 0 0) [] := by
  obtain ⟨W1, hW1⟩ : ∃ W1, w.alloc (.cells #[.slice none 0 0] 55) = W1 := ⟨_, rfl⟩
  have HW1 : Hid (w.alloc (.cells #[.slice none 0 0] 55) = W1) := hW1
  have x1 : Bx W1 w.heap.size 55 #[.slice none 0 0] := by rw [← hW1]; exact heap_alloc_new w _
  have b1 : Below w.heap.size w W1 := by rw [← hW1]; exact (Below.refl _ _).alloc (Nat.le_refl _) _
  have HB : Hid (Below w.heap.size w W1 ∧ Stk (fun k => k < w.heap.size) W1 w.heap.size (.slice none 0 0) []) := ⟨b1, fun k hk => Nat.lt_of_lt_of_le hk b1.size, x1, Nat.lt_irrefl _, Rw.nil _ _ _ _, fun d hd => by simp at hd⟩
  clear hW1 x1 b1
  go_enter Tryd.func8, Tryd.ntmps8
  go_wp2_with fail
  rw [HW1.out]
  go_ret
  exact ⟨rfl, HB.out⟩

/-- What Push leaves. -/
abbrev Pushed (S : Nat → Prop) (x : Nat) (M : List El) (d : El) (w : World) (e : Ending) (w' : World) : Prop := e = .returned (.tuple #[]) ∧ ∃ rv v, Stk S w' x rv (M ++ [{ d with av := v }]) ∧ Keep S w w'
/-- One element more behind the row. -/
theorem Stk.more {S : Nat → Prop} {w : World} {x : Nat} {rv : Value} {M : List El} (h : Stk S w x rv M) (hM : M.length ≤ 1000000000) (d : El) {v : Value} (ho : Own w v d.al) :
    ∃ V W, (Builtin.append_ #[26, 26] 26 #[rv, .slice (some ⟨w.heap.size, 0, none⟩) 1 1]).run Tryd.prog (w.alloc (.cells #[iv d.id, iv d.sp, .string d.nm, v] 34)) = .ok V W ∧ W.frozen? ⟨x, 0, none⟩ = false ∧ W.cell? ⟨x, 0, none⟩ = some rv ∧ V.oneCell' = true ∧ Stk S (W.setCell ⟨x, 0, none⟩ V) x V (M ++ [{ d with av := v }]) ∧ Keep S w (W.setCell ⟨x, 0, none⟩ V) := by
  obtain ⟨o1, n1, rfl⟩ : ∃ o1 c1, v = .slice o1 d.al.length c1 := by
    obtain ⟨o1, c1, e, _⟩ := ho.1.slice
    exact ⟨o1, c1, e⟩
  obtain ⟨U, hU⟩ : ∃ U, w.alloc (.cells #[iv d.id, iv d.sp, .string d.nm, .slice o1 d.al.length n1] 34) = U := ⟨_, rfl⟩
  have xU : Bx U w.heap.size 34 #[iv d.id, iv d.sp, .string d.nm, .slice o1 d.al.length n1] := by rw [← hU]; exact heap_alloc_new w _
  have bU : Below w.heap.size w U := by rw [← hU]; exact (Below.refl _ _).alloc (Nat.le_refl _) _
  rw [hU]
  clear hU
  have hU := h.old bU
  have oU := ho.old bU
  obtain ⟨V, W, h1, h2, h3, h4⟩ := Rw.app (t := 26) (e := 34) (S := S) Tryd.underlying26 info34 rfl (by decide) hU.row hU.low w.heap.size 0 1 1 [iv d.id, iv d.sp, .string d.nm, .slice o1 d.al.length n1] rfl
    (fun j u hj => by rw [Nat.zero_add, xU.cell j, ← hj]; simp) (by intro u hu; simp only [List.mem_cons, List.not_mem_nil, or_false] at hu; rcases hu with rfl | rfl | rfl | rfl <;> rfl) (by omega) (by omega)
  have hxr : some x ≠ rv.ownBlock := fun q => by
    obtain ⟨_, c', h5⟩ := own_blk hU.row.own q.symm
    have := hU.blk
    unfold Bx at this
    rw [this] at h5
    simp at h5
  have hx1 : Bx W x 55 #[rv] := (h3.block x hU.lt hxr).trans hU.blk
  have kW : Keep S w W := (Keep.old bU).trans (hU.row.keep h3)
  have hxV : V.ownBlock ≠ some x := fun q => by
    obtain ⟨_, c', h5⟩ := own_blk h2.own q
    unfold Bx at hx1
    rw [hx1] at h5
    simp at h5
  have kS : Keep S W (W.setCell ⟨x, 0, none⟩ V) := ⟨rfl, rfl, rfl, by rw [World.size_setCell]; exact Nat.le_refl _, fun k hk _ => heap_setCell_other W ⟨x, 0, none⟩ k V (fun e => hU.out ((show k = x from e) ▸ hk))⟩
  have own : ∀ {v : Value} {A : List At}, Own U v A → Own (W.setCell ⟨x, 0, none⟩ V) v A := fun {v A} q => q.mv fun g cur hg => by
    have n1 : g ≠ x := fun e => by
      have := hU.blk
      unfold Bx at this
      rw [e, this] at hg
      simp at hg
    refine (heap_setCell_other W ⟨x, 0, none⟩ g V n1).trans (h3.block g (Array.getElem?_eq_some_iff.1 hg).1 (fun e => ?_))
    obtain ⟨_, c', h5⟩ := own_blk hU.row.own e.symm
    rw [hg] at h5
    simp at h5
  refine ⟨V, W, h1, hx1.frozen 0, hx1.cell 0, h2.one, ⟨fun k hk => Nat.lt_of_lt_of_le (h.low k hk) (kW.trans kS).size, by have := hx1.set 0 V; exact this, h.out, ?_, fun q hq => ?_⟩, kW.trans kS⟩
  · rw [List.length_append, List.flatMap_append]
    exact (h2.mv fun g hg => heap_setCell_other W ⟨x, 0, none⟩ g V (fun e => hxV ((show g = x from e) ▸ hg)))
  · rcases List.mem_append.1 hq with hq | hq
    · exact own (hU.own q hq)
    · simp at hq
      subst hq
      exact own oU
theorem enters38 : ∀ args w, (callFunc 38 args).run Tryd.prog w = .ok (.enter 38 args) w := enters_of Tryd.func38 (by kernel_rfl) rfl
/-- A call of a function of one argument by its contract, as one step of a region that draws. -/
theorem step_call1 {P : Program} {ops : Array Oper} {o : Oper} {a : Act} {w : World} {K : Act → World → Prop} {Q : Exit → Act → World → Prop} {E : Prop} (f : FuncId) (x : Operand) (ts : Array TypeId)
    (hg : o.guard = none) (hop : o.op = Op.call { callee := Callee.value (.func f), args := #[x], argTypes := ts }) (henter : ∀ args w, (callFunc f args).run P w = .ok (.enter f args) w)
    (u : Value) (hx : a.eval x = u) {R : Ending → World → Prop} (hc : Calls P f #[u] w R) (hK : ∀ e w', R e w' → ∃ r, e = .returned r ∧ K (a.put o.dst r) w') :
    if Region.wanted o (yielded ops a.tmps) = true then Oper.wp P o a w K Q else E := by
  have hw : Region.wanted o (yielded ops a.tmps) = true := by simp [Region.wanted, hg]
  rw [if_pos hw]
  unfold Oper.wp
  have he : a.eval (.func f) = .func (.func f) #[] #[] := rfl
  have hrun : (execOp a.eval o).run P w = .ok (.enter f #[u]) w := by
    simp [execOp, hop, resolve, Deferred.ofValue, he, hx, invoke, henter]
  rw [hrun]
  refine Calls.mono (show Calls P f _ w R from hc) ?_
  intro e w' h
  obtain ⟨r, rfl, hk⟩ := hK e w' h
  exact hk
set_option maxHeartbeats 1000000 in
theorem push_nil (w : World) (id sp : Int) (nm : ByteArray) (ao : Option Addr) (an ac : Nat) : Calls Tryd.prog 18 #[.pointer none, .agg #[iv id, iv sp, .string nm, .slice ao an ac]] w fun e w' => e = .returned (.tuple #[]) ∧ Below w.heap.size w w' := by
  go_enter Tryd.func18, Tryd.ntmps18
  go_wp2_with fail
  refine bodyPost_end (results_none rfl _ _ _) rfl ?_
  exact ⟨rfl, (Below.refl _ _).alloc (Nat.le_refl _) _⟩
set_option linter.unusedSimpArgs false in
set_option maxHeartbeats 4000000 in
set_option maxRecDepth 20000 in
theorem push_any {S : Nat → Prop} {w : World} {x : Nat} {rv : Value} {M : List El} (h : Stk S w x rv M) (hM : M.length ≤ 1000000000) (d : El) (ha : Ats w d.av d.al) : Calls Tryd.prog 18 #[ptr x, .agg d.arr] w (Pushed S x M d w) := by
  obtain ⟨id, sp, nm, av, al⟩ := d
  obtain ⟨ao, c, rfl, _⟩ := h.row.slice
  obtain ⟨W1, hW1⟩ : ∃ W1, w.alloc (.cells #[iv id, iv sp, .string nm, av] 34) = W1 := ⟨_, rfl⟩
  have HW1 : Hid (w.alloc (.cells #[iv id, iv sp, .string nm, av] 34) = W1) := hW1
  have x1 : Bx W1 w.heap.size 34 #[iv id, iv sp, .string nm, av] := by rw [← hW1]; exact heap_alloc_new w _
  have b1 : Below w.heap.size w W1 := by rw [← hW1]; exact (Below.refl _ _).alloc (Nat.le_refl _) _
  clear hW1
  have kc := copied_any (d := ⟨id, sp, nm, av, al⟩) (ha.old (b1.trans ((Below.refl W1.heap.size W1).drew.mono b1.size)))
  obtain ⟨ao2, ac2, hav, _⟩ := ha.ex
  simp only at hav
  subst hav
  have h1 := h.old b1
  have c0 : W1.cell? ⟨x, 0, none⟩ = some (.slice ao M.length c) := h1.blk.cell 0
  have e0 : W1.cell? ⟨w.heap.size, 0, none⟩ = some (iv id) := x1.cell 0
  have e1 : W1.cell? ⟨w.heap.size, 1, none⟩ = some (iv sp) := x1.cell 1
  have e2 : W1.cell? ⟨w.heap.size, 2, none⟩ = some (.string nm) := x1.cell 2
  have e3 : W1.cell? ⟨w.heap.size, 3, none⟩ = some (.slice ao2 al.length ac2) := x1.cell 3
  have HP : Hid (∀ w1 e, Cpd ⟨id, sp, nm, .slice ao2 al.length ac2, al⟩ W1.drew e w1 → ∃ ao5 an5 ac5, e = .returned (.agg #[iv id, iv sp, .string nm, .slice ao5 an5 ac5]) ∧ w1.cell? ⟨x, 0, none⟩ = some (.slice ao M.length c) ∧ (w1.alloc (.cells #[iv id, iv sp, .string nm, .slice ao5 an5 ac5] 34)).cell? ⟨x, 0, none⟩ = some (.slice ao M.length c) ∧ ∃ ao6 an6 ac6 W, (Builtin.append_ #[26, 26] 26 #[.slice ao M.length c, .slice (some ⟨w1.heap.size, 0, none⟩) 1 1]).run Tryd.prog (w1.alloc (.cells #[iv id, iv sp, .string nm, .slice ao5 an5 ac5] 34)) = .ok (.slice ao6 an6 ac6) W ∧ W.frozen? ⟨x, 0, none⟩ = false ∧ W.cell? ⟨x, 0, none⟩ = some (.slice ao M.length c) ∧ Pushed S x M ⟨id, sp, nm, .slice ao2 al.length ac2, al⟩ w (.returned (.tuple #[])) (W.setCell ⟨x, 0, none⟩ (.slice ao6 an6 ac6))) := by
    rintro w1 e ⟨v, rfl, o1, _, b2⟩
    have hb2 : Below W1.heap.size W1 w1 := (Below.refl W1.heap.size W1).drew.trans b2
    have h2 := h1.old hb2
    obtain ⟨ao5, ac5, hv, _⟩ := o1.1.slice
    subst hv
    obtain ⟨V, W, q1, q2, q3, q4, q5, q6⟩ := h2.more hM ⟨id, sp, nm, .slice ao2 al.length ac2, al⟩ o1
    obtain ⟨ao6, ac6, rfl, _⟩ := q5.row.slice
    exact ⟨_, _, _, rfl, h2.blk.cell 0, (h2.blk.old ((Below.refl _ _).alloc (Nat.le_refl _) _)).cell 0, _, _, _, W, q1, q2, q3, rfl, _, _, q5, (Keep.old (b1.trans (hb2.mono b1.size))).trans q6⟩
  have HC : Hid (Calls Tryd.prog 38 #[.agg #[iv id, iv sp, .string nm, .slice ao2 al.length ac2]] W1.drew (Cpd ⟨id, sp, nm, .slice ao2 al.length ac2, al⟩ W1.drew)) := kc
  clear kc ha h h1 x1 b1 hM
  show Calls Tryd.prog 18 #[ptr x, .agg #[iv id, iv sp, .string nm, .slice ao2 al.length ac2]] w _
  go_enter Tryd.func18, Tryd.ntmps18
  go_upto_region 1 with fail
  rw [HW1.out]
  go_upto_region 2 with fail
  go_region_law (first
    | (refine step_call1 38 _ _ rfl rfl enters38 _ (by first | (simp [Act.eval]; done) | simp [Act.eval, Act.put]) HC.out ?_; rintro e w1 hh; obtain ⟨ao5, an5, ac5, rfl, y0, y1, ao6, an6, ac6, W, hr, hfz, hcl, hpu⟩ := HP.out w1 e hh; clear hh; have HPU : Hid _ := hpu; clear hpu; refine ⟨_, rfl, ?_⟩)
    | refine step_append_eq rfl _ _ 26 26 rfl _ _ (by first | (simp [Act.eval]; done) | simp [Act.eval, Act.put]) (by first | (simp [Act.eval]; done) | simp [Act.eval, Act.put]) hr ?_)
  all_goals
    go_wp2_with fail
    refine bodyPost_ret (results_none rfl _ _ _) rfl ?_
    exact ⟨rfl, HPU.out.2⟩
end Go.Proofs.YtkmghkfdegdikaaDoor
