/- Ids. -/
import Derived.Test.YtdpibnmbgjhohaaBd
namespace Go.Proofs.Ytdpibnmbgjhohaa
open Go.RowKit
attribute [local go_sem] Oper.semAt_some
attribute [local go_sem] wide_fn wide_depth round_fn round_depth

mutual
theorem vT_ids : ∀ (t : Tr) (lv : Nat), (vT t lv).map (fun x => x.1.d.id) = iT t
  | .mk d ks, lv => by rw [vT, iT, List.map_cons, vL_ids ks]; rfl
theorem vL_ids : ∀ (l : List Tr) (lv : Nat), (vL l lv).map (fun x => x.1.d.id) = iL l
  | [], _ => rfl
  | t :: ts, lv => by rw [vL, iL, List.map_append, vT_ids t, vL_ids ts]
end
/-- 'append' where its run is known by an equation, as one step of a region that draws, inside a fence. -/
theorem step_append_eqIn {F : Fence} {n : Nat} {P : Program} {ops : Array Oper} {o : Oper} {a : Act} {w : World} {K : Act → World → Prop} {Q : Exit → Act → World → Prop} {E : Prop}
    (hg : o.guard = none) (d x : Operand) (dT sT T : TypeId) (D : Option Tmp) (hop : o.op = Op.call { callee := Callee.builtin Builtin.append, args := #[d, x], argTypes := #[dT, sT] }) (hT : o.type = T) (hD : o.dst = D)
    (v u : Value) (hd : a.eval d = v) (hx : a.eval x = u) {v' : Value} {w' : World} (hr : (Builtin.append_ #[dT, sT] T #[v, u]).run P w = .ok v' w') (hK : K (a.put D v') w') :
    if Region.wanted o (yielded ops a.tmps) = true then Oper.wpIn F n P o a w K Q else E := by
  have hw : Region.wanted o (yielded ops a.tmps) = true := by simp [Region.wanted, hg]
  subst hT hD
  rw [if_pos hw]
  unfold Oper.wpIn
  refine ⟨?_, ?_⟩
  · simp [Oper.about, hop, resolve, Target.leads, Sem.run_pure]
  · rw [Oper.semAt_plain F _ _ (by rw [hop]; intro c hc; cases hc)]
    simp [execOp, hop, resolve, invoke, builtin, hd, hx, hr, Result.andThen]
    exact hK
set_option maxRecDepth 20000 in
set_option maxHeartbeats 2000000 in
theorem ids_in (n : Nat) {w : World} {t : Tr} {av kv : Value} (ht : TrC w t av kv) (hn : cT t ≤ 900000) :
    CallsIn Fence.wide n Try.prog 13 #[nv t.d av kv] w fun e w' => Idd (iT t) w e w' := by
  obtain ⟨d, ks⟩ := t
  have ht' : ∃ s1 s2 : Sl, av = slv s1 ∧ kv = slv s2 := by
    cases ht
    exact ⟨(_, _, _), (_, _, _), rfl, rfl⟩
  obtain ⟨⟨ao, an, ac⟩, ⟨kp, kn, kc⟩, rfl, rfl⟩ := ht'
  simp only [slv] at ht
  simp only [Tr.d, slv]
  refine callsIn_of_wp_marks Try.func13 rfl trivial ?_ rfl
  simp only [Try.ntmps13, List.size_toArray, List.length_cons, List.length_nil, Nat.reduceAdd, Nat.reduceSub, Array.replicate_succ, Array.replicate_zero, List.push_toArray, List.append_toArray, List.nil_append, List.cons_append]
  gi_wp2_with (gi_at_call 32; refine wide_call (nodes_any _ _ _ _) ?_; rintro e w' ⟨rfl, rfl⟩)
  have hq := als_spec w [na d (.slice ao an ac) (.slice kp kn kc), .cells #[.slice none 0 0] 31, na d (.slice ao an ac) (.slice kp kn kc), .cells #[.slice (some ⟨w.heap.size + 1 + 1, 0, none⟩) 1 1] 25]
  simp only [als, List.length_cons, List.length_nil] at hq
  revert hq
  generalize World.alloc (World.alloc (World.alloc (World.alloc w _) _) _) _ = w2
  rintro ⟨b2, s2, h2⟩
  have q1 : w2.heap[w.heap.size + 1]? = some (.cells #[.slice none 0 0] 31 (0, 0)) := h2 1 _ rfl
  have q2 : w2.heap[w.heap.size + 1 + 1]? = some (na d (.slice ao an ac) (.slice kp kn kc)) := h2 2 _ rfl
  have q3 : w2.heap[w.heap.size + 1 + 1 + 1]? = some (.cells #[.slice (some ⟨w.heap.size + 1 + 1, 0, none⟩) 1 1] 25 (0, 0)) := h2 3 _ rfl
  clear h2
  refine walk_law (r := w.heap.size + 1 + 1) (bx := w.heap.size + 1 + 1 + 1) ht hn b2 (na_cells q2) (by omega) (one_cell q3).1 rfl
    (fun pre W => Below w.heap.size w W ∧ W.heap[w.heap.size + 1 + 1]? = some (na d (.slice ao an ac) (.slice kp kn kc)) ∧ ∃ v, W.heap[w.heap.size + 1]? = some (.cells #[v] 31 (0, 0)) ∧ Rw (fun k => k < w.heap.size) W 3 1 v pre.length (ivs (pre.map fun x => x.1.d.id)))
    (fun _ _ => False) ?_ (fun _ _ _ h _ => h) (fun pre W h => ⟨h.1, h.2.1.trans q2.symm⟩) ⟨b2, q2, _, q1, Rw.nil _ _ _ _⟩
    (fun x y => { tmps := #[nv d (.slice ao an ac) (.slice kp kn kc), ptr w.heap.size, .slice none 0 0, ptr (w.heap.size + 1), x, nv d (.slice ao an ac) (.slice kp kn kc), .slice (some ⟨w.heap.size + 1 + 1, 0, none⟩) 1 1, .func (.func 48) #[] #[ptr (w.heap.size + 1 + 1 + 1)], x, y, undef, undef, undef, undef, undef, undef, undef, undef], defers := [] }) ?_ ?_ ?_ (fun _ _ _ _ h => h.elim)
  · rintro pre W1 W2 ⟨h1, h2, v, h3, h4⟩ ho
    exact ⟨h1.trans (ho.below.mono (by omega)), (ho.low _ (by omega)).trans h2, v, (ho.low _ (by omega)).trans h3, h4.mv fun g hg => by
      obtain ⟨_, cur, hc⟩ := own_blk h4.own hg
      rw [hc]
      exact ho.oth _ _ hc rfl⟩
  · intro l x y W K hK
    simp only [List.setIfInBounds_toArray, List.set_cons_succ, List.set_cons_zero]
    gi_wp2
    exact hK
  · rintro l pre u lv rest b off av' kv' W heq ⟨h1, h2, v, h3, h4⟩ hc hu
    have c3 := (one_cell h3).1
    have f3 := (one_cell h3).2
    have c0 : W.cell? ⟨b, off, none⟩ = some (iv u.d.id) := hc 0 _ rfl
    have hlen : pre.length ≤ 900000 := by
      have := congrArg List.length heq
      rw [vT_len] at this
      simp at this
      omega
    have hwz : w.heap.size ≤ W.heap.size := h1.size
    have r1 := h4.old (w' := W.alloc (.cells #[iv u.d.id] 3)) ((Below.refl _ _).alloc (Nat.le_refl _) _)
    have n1 := heap_alloc_new W (.cells #[iv u.d.id] 3)
    have z1 : (W.alloc (.cells #[iv u.d.id] 3)).heap.size = W.heap.size + 1 := by simp
    have z2 : Below W.heap.size W (W.alloc (.cells #[iv u.d.id] 3)) := (Below.refl _ _).alloc (Nat.le_refl _) _
    obtain ⟨V, hV⟩ : ∃ V, W.alloc (.cells #[iv u.d.id] 3) = V := ⟨_, rfl⟩
    rw [hV] at r1 n1 z1 z2
    obtain ⟨v4, V4, p1, p2, p3, p4⟩ := Rw.app (W := V.drew) (t := 31) (e := 3) Try.underlying31 info3 rfl (by decide) (by decide) (r1.mv (w' := V.drew) fun _ _ => rfl) (fun i hi => by
        show i < V.heap.size
        omega) W.heap.size 0 1 1 [iv u.d.id] rfl
      (fun j x hj => by
        cases j with
        | zero => simp at hj; subst hj; show V.cell? ⟨W.heap.size, 0 + 0, none⟩ = _; simp [World.cell?, n1]
        | succ j => simp at hj)
      (fun x hx => by simp at hx; subst hx; rfl) (by omega)
    have c4 : V.cell? ⟨w.heap.size + 1, 0, none⟩ = some v := cell_below z2 c3
    have hg4 : V4.heap[w.heap.size + 1]? = some (.cells #[v] 31 (0, 0)) := (p3.block (w.heap.size + 1) (by show w.heap.size + 1 < V.heap.size; have := (Array.getElem?_eq_some_iff.1 h3).1; omega) (fun e => by
      obtain ⟨_, cur, hcc⟩ := own_blk h4.own e.symm
      rw [h3] at hcc
      simp at hcc)).trans ((z2.block _ (Array.getElem?_eq_some_iff.1 h3).1).trans h3)
    obtain ⟨a4, k4, rfl, _, _⟩ := p2.slice
    have c5 := (one_cell hg4).1
    have f5 := (one_cell hg4).2
    have hwV : w.heap.size ≤ V.heap.size := by omega
    have k1 : Kp 25 W V.drew := (Kp.old z2).trans (Kp.drew V)
    have k2 : Kp 25 V.drew V4 := Kp.grown p3 (fun g hg => by
      obtain ⟨_, cur, hcc⟩ := own_blk r1.own hg
      exact ⟨_, hcc, rfl⟩)
    have z3 : Below w.heap.size V V4 := Keep.below (S := fun k => k < w.heap.size) (Keep.grown (show V.drew.grownBy V4 _ from p3) (fun g hg => h4.out g hg)) (fun k hk => hk) hwV |> fun h => ⟨h.os, h.tape, h.output, h.size, h.block⟩
    have hr4 : V4.heap[w.heap.size + 1 + 1]? = some (na d (.slice ao an ac) (.slice kp kn kc)) := (p3.block (w.heap.size + 1 + 1) (by show w.heap.size + 1 + 1 < V.heap.size; have := (Array.getElem?_eq_some_iff.1 h2).1; omega) (fun e => by
      obtain ⟨_, cur, hcc⟩ := own_blk h4.own e.symm
      rw [h2] at hcc
      simp at hcc)).trans ((z2.block _ (Array.getElem?_eq_some_iff.1 h2).1).trans h2)
    have HF : Hid (Kp 25 W (V4.setCell ⟨w.heap.size + 1, 0, none⟩ (.slice a4 (pre.length + 1) k4)) ∧ Below w.heap.size w (V4.setCell ⟨w.heap.size + 1, 0, none⟩ (.slice a4 (pre.length + 1) k4)) ∧
        (V4.setCell ⟨w.heap.size + 1, 0, none⟩ (.slice a4 (pre.length + 1) k4)).heap[w.heap.size + 1 + 1]? = some (na d (.slice ao an ac) (.slice kp kn kc)) ∧ ∃ v, (V4.setCell ⟨w.heap.size + 1, 0, none⟩ (.slice a4 (pre.length + 1) k4)).heap[w.heap.size + 1]? = some (.cells #[v] 31 (0, 0)) ∧
        Rw (fun k => k < w.heap.size) (V4.setCell ⟨w.heap.size + 1, 0, none⟩ (.slice a4 (pre.length + 1) k4)) 3 1 v (pre ++ [(u, lv)]).length (ivs ((pre ++ [(u, lv)]).map fun x => x.1.d.id))) := by
      refine ⟨(k1.trans k2).trans (Kp.set _ hg4 (by decide)), (h1.trans ((z2.mono hwz).trans z3)).trans ((Below.refl w.heap.size V4).setCell (p := ⟨w.heap.size + 1, 0, none⟩) (by simp) _), (Below.heap_setCell V4 _ _ _ (by simp)).trans hr4, _, one_set _ hg4, ?_⟩
      rw [List.length_append, List.map_append, ivs, List.map_append]
      exact p2.off (b := w.heap.size + 1) (fun g _ hg => Below.heap_setCell V4 _ _ _ hg) hg4 (by decide)
    clear k1 k2 z3 hr4 p2 p3 p4 r1 n1 z1 z2 hg4 hwV hc hu h2 heq
    gi_wp2
    refine wpIn_region_any (by kernel_rfl) ?_
    refine wpAnyIn_ready (rs := [0, 1]) (by kernel_rfl) (by simp) (AllReadyIn.cons rfl (fun K hK => ?_) (AllReadyIn.cons rfl (fun K hK => ?_) AllReadyIn.nil))
    · go_simp; refine hK _ _ ?_; clear hK K
      refine wpAnyIn_ready (rs := [1]) (by kernel_rfl) (by simp) (AllReadyIn.cons rfl (fun K hK => ?_) AllReadyIn.nil)
      go_simp; refine hK _ _ ?_; clear hK K
      refine wpAnyIn_ready (rs := [2]) (by kernel_rfl) (by simp) (AllReadyIn.cons rfl (fun K hK => ?_) AllReadyIn.nil)
      go_simp; refine hK _ _ ?_; clear hK K
      refine wpAnyIn_ready (rs := [3]) (by kernel_rfl) (by simp) (AllReadyIn.cons rfl (fun K hK => ?_) AllReadyIn.nil)
      go_simp; refine hK _ _ ?_; clear hK K
      refine wpAnyIn_ready (rs := [4]) (by kernel_rfl) (by simp) (AllReadyIn.cons rfl (fun K hK => ?_) AllReadyIn.nil)
      go_simp; refine hK _ _ ?_; clear hK K
      refine wpAnyIn_ready (rs := [5]) (by kernel_rfl) (by simp) (AllReadyIn.cons rfl (fun K hK => ?_) AllReadyIn.nil)
      go_simp; refine hK _ _ ?_; clear hK K
      refine wpAnyIn_ready (rs := [6]) (by kernel_rfl) (by simp) (AllReadyIn.cons rfl (fun K hK => ?_) AllReadyIn.nil)
      refine step_append_eqIn rfl _ _ 31 31 31 (some 16) rfl rfl rfl v (.slice (some ⟨W.heap.size, 0, none⟩) 1 1) rfl rfl p1 ?_; refine hK _ _ ?_; clear hK K
      refine wpAnyIn_ready (rs := [7]) (by kernel_rfl) (by simp) (AllReadyIn.cons rfl (fun K hK => ?_) AllReadyIn.nil)
      go_simp; refine hK _ _ ?_; clear hK K
      refine wpAnyIn_done (by kernel_rfl) ?_ _
      exact HF.out
    · go_simp; refine hK _ _ ?_; clear hK K
      refine wpAnyIn_ready (rs := [0, 2]) (by kernel_rfl) (by simp) (AllReadyIn.cons rfl (fun K hK => ?_) (AllReadyIn.cons rfl (fun K hK => ?_) AllReadyIn.nil))
      · go_simp; refine hK _ _ ?_; clear hK K
        refine wpAnyIn_ready (rs := [2]) (by kernel_rfl) (by simp) (AllReadyIn.cons rfl (fun K hK => ?_) AllReadyIn.nil)
        go_simp; refine hK _ _ ?_; clear hK K
        refine wpAnyIn_ready (rs := [3]) (by kernel_rfl) (by simp) (AllReadyIn.cons rfl (fun K hK => ?_) AllReadyIn.nil)
        go_simp; refine hK _ _ ?_; clear hK K
        refine wpAnyIn_ready (rs := [4]) (by kernel_rfl) (by simp) (AllReadyIn.cons rfl (fun K hK => ?_) AllReadyIn.nil)
        go_simp; refine hK _ _ ?_; clear hK K
        refine wpAnyIn_ready (rs := [5]) (by kernel_rfl) (by simp) (AllReadyIn.cons rfl (fun K hK => ?_) AllReadyIn.nil)
        go_simp; refine hK _ _ ?_; clear hK K
        refine wpAnyIn_ready (rs := [6]) (by kernel_rfl) (by simp) (AllReadyIn.cons rfl (fun K hK => ?_) AllReadyIn.nil)
        refine step_append_eqIn rfl _ _ 31 31 31 (some 16) rfl rfl rfl v (.slice (some ⟨W.heap.size, 0, none⟩) 1 1) rfl rfl p1 ?_; refine hK _ _ ?_; clear hK K
        refine wpAnyIn_ready (rs := [7]) (by kernel_rfl) (by simp) (AllReadyIn.cons rfl (fun K hK => ?_) AllReadyIn.nil)
        go_simp; refine hK _ _ ?_; clear hK K
        refine wpAnyIn_done (by kernel_rfl) ?_ _
        exact HF.out
      · go_simp; refine hK _ _ ?_; clear hK K
        refine wpAnyIn_ready (rs := [0, 3]) (by kernel_rfl) (by simp) (AllReadyIn.cons rfl (fun K hK => ?_) (AllReadyIn.cons rfl (fun K hK => ?_) AllReadyIn.nil))
        · go_simp; refine hK _ _ ?_; clear hK K
          refine wpAnyIn_ready (rs := [3]) (by kernel_rfl) (by simp) (AllReadyIn.cons rfl (fun K hK => ?_) AllReadyIn.nil)
          go_simp; refine hK _ _ ?_; clear hK K
          refine wpAnyIn_ready (rs := [4]) (by kernel_rfl) (by simp) (AllReadyIn.cons rfl (fun K hK => ?_) AllReadyIn.nil)
          go_simp; refine hK _ _ ?_; clear hK K
          refine wpAnyIn_ready (rs := [5]) (by kernel_rfl) (by simp) (AllReadyIn.cons rfl (fun K hK => ?_) AllReadyIn.nil)
          go_simp; refine hK _ _ ?_; clear hK K
          refine wpAnyIn_ready (rs := [6]) (by kernel_rfl) (by simp) (AllReadyIn.cons rfl (fun K hK => ?_) AllReadyIn.nil)
          refine step_append_eqIn rfl _ _ 31 31 31 (some 16) rfl rfl rfl v (.slice (some ⟨W.heap.size, 0, none⟩) 1 1) rfl rfl p1 ?_; refine hK _ _ ?_; clear hK K
          refine wpAnyIn_ready (rs := [7]) (by kernel_rfl) (by simp) (AllReadyIn.cons rfl (fun K hK => ?_) AllReadyIn.nil)
          go_simp; refine hK _ _ ?_; clear hK K
          refine wpAnyIn_done (by kernel_rfl) ?_ _
          exact HF.out
        · go_simp; refine hK _ _ ?_; clear hK K
          refine wpAnyIn_ready (rs := [0, 4]) (by kernel_rfl) (by simp) (AllReadyIn.cons rfl (fun K hK => ?_) (AllReadyIn.cons rfl (fun K hK => ?_) AllReadyIn.nil))
          · go_simp; refine hK _ _ ?_; clear hK K
            refine wpAnyIn_ready (rs := [4]) (by kernel_rfl) (by simp) (AllReadyIn.cons rfl (fun K hK => ?_) AllReadyIn.nil)
            go_simp; refine hK _ _ ?_; clear hK K
            refine wpAnyIn_ready (rs := [5]) (by kernel_rfl) (by simp) (AllReadyIn.cons rfl (fun K hK => ?_) AllReadyIn.nil)
            go_simp; refine hK _ _ ?_; clear hK K
            refine wpAnyIn_ready (rs := [6]) (by kernel_rfl) (by simp) (AllReadyIn.cons rfl (fun K hK => ?_) AllReadyIn.nil)
            refine step_append_eqIn rfl _ _ 31 31 31 (some 16) rfl rfl rfl v (.slice (some ⟨W.heap.size, 0, none⟩) 1 1) rfl rfl p1 ?_; refine hK _ _ ?_; clear hK K
            refine wpAnyIn_ready (rs := [7]) (by kernel_rfl) (by simp) (AllReadyIn.cons rfl (fun K hK => ?_) AllReadyIn.nil)
            go_simp; refine hK _ _ ?_; clear hK K
            refine wpAnyIn_done (by kernel_rfl) ?_ _
            exact HF.out
          · go_simp; refine hK _ _ ?_; clear hK K
            refine wpAnyIn_ready (rs := [0, 5]) (by kernel_rfl) (by simp) (AllReadyIn.cons rfl (fun K hK => ?_) (AllReadyIn.cons rfl (fun K hK => ?_) AllReadyIn.nil))
            · go_simp; refine hK _ _ ?_; clear hK K
              refine wpAnyIn_ready (rs := [5]) (by kernel_rfl) (by simp) (AllReadyIn.cons rfl (fun K hK => ?_) AllReadyIn.nil)
              go_simp; refine hK _ _ ?_; clear hK K
              refine wpAnyIn_ready (rs := [6]) (by kernel_rfl) (by simp) (AllReadyIn.cons rfl (fun K hK => ?_) AllReadyIn.nil)
              refine step_append_eqIn rfl _ _ 31 31 31 (some 16) rfl rfl rfl v (.slice (some ⟨W.heap.size, 0, none⟩) 1 1) rfl rfl p1 ?_; refine hK _ _ ?_; clear hK K
              refine wpAnyIn_ready (rs := [7]) (by kernel_rfl) (by simp) (AllReadyIn.cons rfl (fun K hK => ?_) AllReadyIn.nil)
              go_simp; refine hK _ _ ?_; clear hK K
              refine wpAnyIn_done (by kernel_rfl) ?_ _
              exact HF.out
            · go_simp; refine hK _ _ ?_; clear hK K
              refine wpAnyIn_ready (rs := [0]) (by kernel_rfl) (by simp) (AllReadyIn.cons rfl (fun K hK => ?_) AllReadyIn.nil)
              go_simp; refine hK _ _ ?_; clear hK K
              refine wpAnyIn_ready (rs := [6]) (by kernel_rfl) (by simp) (AllReadyIn.cons rfl (fun K hK => ?_) AllReadyIn.nil)
              refine step_append_eqIn rfl _ _ 31 31 31 (some 16) rfl rfl rfl v (.slice (some ⟨W.heap.size, 0, none⟩) 1 1) rfl rfl p1 ?_; refine hK _ _ ?_; clear hK K
              refine wpAnyIn_ready (rs := [7]) (by kernel_rfl) (by simp) (AllReadyIn.cons rfl (fun K hK => ?_) AllReadyIn.nil)
              go_simp; refine hK _ _ ?_; clear hK K
              refine wpAnyIn_done (by kernel_rfl) ?_ _
              exact HF.out
  · rintro D W hD ⟨h1, h2, v, h3, h4⟩ hd
    have c3 := (one_cell h3).1
    gi_wp2
    refine ⟨by simp, .inl ⟨_, _, rfl, run_takeDeferred hd, ?_⟩⟩
    refine ⟨_, results_tmp rfl _ _ _, _, rfl, h1.trans (Off.put (q := 25) _ (by omega) hd rfl).below, ?_⟩
    rw [vT_ids, vT_len, ← iT_len] at h4
    exact h4.mv fun g hg => World.putObj_heap_other (fun e => by
      obtain ⟨_, cur, hc⟩ := own_blk h4.own hg
      rw [e, hd] at hc
      cases hc)
end Go.Proofs.Ytdpibnmbgjhohaa
