/- A name in the making, a row of names in the making: how they grow by one, and what else stands. -/
import Derived.Test.YtfkhpcgccjlpgaaFind
import Derived.Test.YtfkhpcgccjlpgaaSo
namespace Go.Proofs.Ytfkhpcgccjlpgaa
open Go.RowKit

theorem info36 : (Try.prog.info? 36).map (fun i => (i.zero, i.size, i.bytes)) = some (some (.agg #[.string ByteArray.empty, .int .i64 0]), 2, 24) := by kernel_rfl

abbrev NameIs (w : World) (B : Nat) (v : Value) (p : Path) : Prop := w.ownsRow B 5 1 v p.length (p.map eu)
abbrev RowIs (w : World) (B : Nat) (v : Value) (L : List Rf) : Prop := w.ownsRow B 36 2 v L.length (L.flatMap Rf.cells)

/-- The first n bytes in v's own block stand. -/
def NmKeep (v : Value) (n : Nat) (w w' : World) : Prop := ∀ g, v.ownBlock = some g → ∀ cur, w.heap[g]? = some (.cells cur 5 (0, 0)) → ∃ cur' : Array Value, w'.heap[g]? = some (.cells cur' 5 (0, 0)) ∧ cur'.size = cur.size ∧ cur'.toList.take n = cur.toList.take n

theorem NameIs.keep {w w' : World} {B : Nat} {v : Value} {p : Path} (h : NameIs w B v p) (k : NmKeep v p.length w w') : NameIs w' B v p := by
  refine ⟨h.1, ?_⟩
  rcases h.2 with hn | ⟨g, cap, cur, rfl, hB, hg, h1, h2, h3, h4⟩
  · exact .inl hn
  · obtain ⟨cur', c1, c2, c3⟩ := k g rfl cur hg
    exact .inr ⟨g, cap, cur', rfl, hB, c1, h1, h2, by rw [c2]; exact h3, by rw [Nat.mul_one] at h4 ⊢; rw [c3]; exact h4⟩

/-- Nothing that was there has turned but v's and l's own blocks. -/
structure LFr (v l : Value) (w w' : World) : Prop where
  os : w'.os = w.os
  tape : w'.tape = w.tape
  output : w'.output = w.output
  size : w.heap.size ≤ w'.heap.size
  block : ∀ d, d < w.heap.size → some d ≠ v.ownBlock → some d ≠ l.ownBlock → w'.heap[d]? = w.heap[d]?

theorem own_blk {w : World} {B e s n : Nat} {v : Value} {xs : List Value} (h : w.ownsRow B e s v n xs) {g : Nat} (hg : v.ownBlock = some g) : B ≤ g ∧ g < w.heap.size ∧ ∃ cur, w.heap[g]? = some (.cells cur e (0, 0)) := by
  rcases h.2 with ⟨rfl, _⟩ | ⟨g', cap, cur, rfl, hB, hgb, _⟩
  · simp [Value.ownBlock] at hg
  · simp [Value.ownBlock] at hg; subst hg
    exact ⟨hB, (Array.getElem?_eq_some_iff.1 hgb).1, cur, hgb⟩

theorem apart {w : World} {B : Nat} {v l : Value} {p : Path} {L : List Rf} (h1 : NameIs w B v p) (h2 : RowIs w B l L) {g : Nat} (hv : v.ownBlock = some g) : l.ownBlock ≠ some g := fun hl => by
  obtain ⟨_, _, c1, e1⟩ := own_blk h1 hv
  obtain ⟨_, _, c2, e2⟩ := own_blk h2 hl
  rw [e1] at e2
  simp at e2

/-- A byte behind a name. -/
theorem name_app {w : World} {B : Nat} {v : Value} {p : Path} (h : NameIs w B v p) (x : UInt8) (hB : B ≤ w.heap.size) (hp : p.length ≤ 1000) :
    ∃ v' w', (Builtin.append_ #[38, 38] 38 #[v, .slice (some ⟨w.heap.size, 0, none⟩) 1 1]).run Try.prog (w.alloc (.cells #[eu x] 5)).drew = .ok v' w' ∧ NameIs w' B v' (p ++ [x]) ∧
      (v'.ownBlock = v.ownBlock ∨ ∃ g, v'.ownBlock = some g ∧ w.heap.size ≤ g) ∧ NmKeep v p.length w w' ∧ LFr v (.slice none 0 0) w w' := by
  obtain ⟨i0, hi, hz0, hz1, hz2⟩ := info_parts info5
  obtain ⟨W, hW⟩ : ∃ W, W = (w.alloc (.cells #[eu x] 5)).drew := ⟨_, rfl⟩
  have hnew : W.heap[w.heap.size]? = some (.cells #[eu x] 5 (0, 0)) := by rw [hW]; exact heap_alloc_new _ _
  have hold : ∀ d, d < w.heap.size → W.heap[d]? = w.heap[d]? := fun d hd => by rw [hW]; exact Below.heap_alloc w _ d hd
  have hsz : W.heap.size = w.heap.size + 1 := by rw [hW]; simp [World.drew]
  have hos : W.os = w.os ∧ W.tape = w.tape ∧ W.output = w.output := by rw [hW]; exact ⟨rfl, rfl, rfl⟩
  have hnews : ∀ j u, [eu x][j]? = some u → W.cell? ((⟨w.heap.size, 0, none⟩ : Addr).add j) = some u := fun j u hj => by
    rw [Addr.add_lit, Nat.zero_add]
    simp [World.cell?, hnew]
    exact hj
  rw [← hW]
  have hlen : (p ++ [x]).length = p.length + 1 := by simp
  have hmap : (p ++ [x]).map eu = p.map eu ++ [eu x] := by simp
  have hcap : ∀ c, grownCap W (p.length + 1) c 5 ≤ maxLen := fun c => grownCap_le_maxLen W (p.length + 1) c 5 (by unfold maxLen; omega)
  rcases h.2 with ⟨rfl, h0⟩ | ⟨g, cap, cur, rfl, hBg, hg, h1, h2, h3, h4⟩
  · have hp0 : p = [] := List.eq_nil_of_length_eq_zero h0
    subst hp0
    have hr := run_append_nil (P := Try.prog) W 38 38 5 i0 (.int .u8 0) Try.underlying38 hi hz0 ⟨w.heap.size, 0, none⟩ 1 1 [eu x] (by rw [hz1]; rfl) hnews (by omega) (by omega) (by rw [hz2]; omega)
    refine ⟨_, _, hr, ⟨by simp, .inr ⟨W.heap.size, _, _, rfl, by omega, heap_alloc_new W.drew _, grownCap_ge W 1 0 5, hcap 0, ?_, ?_⟩⟩, .inr ⟨W.heap.size, rfl, by omega⟩, fun g hg => by simp [Value.ownBlock] at hg, ?_⟩
    · simp only [Array.size_append, List.size_toArray, size_zeroCells]
      have := grownCap_ge W 1 0 5
      simp [Value.cells]
      omega
    · simp
    · exact ⟨hos.1, hos.2.1, hos.2.2, by show w.heap.size ≤ (W.drew.heap.push _).size; rw [Array.size_push]; show w.heap.size ≤ W.heap.size + 1; omega, fun d hd _ _ => (Below.heap_alloc W.drew _ d (by show d < W.heap.size; omega)).trans (hold d hd)⟩
  · have hgl : g < w.heap.size := (Array.getElem?_eq_some_iff.1 hg).1
    have hgW : W.heap[g]? = some (.cells cur 5 (0, 0)) := (hold g hgl).trans hg
    rw [Nat.mul_one] at h3 h4
    by_cases hroom : p.length + 1 ≤ cap
    · have hr := run_append_room (P := Try.prog) W 38 38 5 i0 Try.underlying38 hi g p.length cap cur hgW ⟨w.heap.size, 0, none⟩ 1 1 [eu x] (by rw [hz1]; rfl) hnews (by simp [Value.oneCell']) hroom (by rw [hz1, h3]; simp; omega)
      rw [hz1, Nat.mul_one] at hr
      refine ⟨_, _, hr, ⟨by simp, .inr ⟨g, cap, _, by rw [hlen], hBg, setRow_heap W g cur _ 5 _ hgW, by simp; omega, h2, ?_, ?_⟩⟩, .inl rfl, ?_, ?_⟩
      · simp only [List.size_toArray, List.length_append, List.length_take, List.length_drop, Array.length_toList, List.length_cons, List.length_nil]
        omega
      · rw [h4, hmap, hlen]
        have : (p.map eu ++ [eu x]).length = (p.length + 1) * 1 := by simp
        rw [← this]
        exact List.take_left
      · intro g' hg' cur' hc'
        simp [Value.ownBlock] at hg'
        subst hg'
        rw [hg] at hc'
        simp at hc'
        subst hc'
        refine ⟨_, setRow_heap W g cur _ 5 _ hgW, ?_, ?_⟩
        · simp only [List.size_toArray, List.length_append, List.length_take, List.length_drop, Array.length_toList, List.length_cons, List.length_nil]
          omega
        · rw [h4]
          have : (p.map eu).length = p.length := by simp
          simp [this]
      · exact ⟨hos.1, hos.2.1, hos.2.2, by simp [World.setRow]; omega, fun d hd hne _ => (setRow_other W g d _ (fun e => hne (by rw [e]; rfl))).trans (hold d hd)⟩
    · have holds : ∀ j u, (p.map eu)[j]? = some u → W.cell? ((⟨g, 0, none⟩ : Addr).add j) = some u := fun j u hj => by
        rw [Addr.add_lit, Nat.zero_add]
        rw [← h4, List.getElem?_take] at hj
        split at hj
        · simp [World.cell?, hgW]; rw [Array.getElem?_toList] at hj; exact hj
        · cases hj
      have hr := run_append_grow (P := Try.prog) W 38 38 5 i0 (.int .u8 0) Try.underlying38 hi hz0 ⟨g, 0, none⟩ p.length cap (p.map eu) (by rw [hz1]; simp) holds ⟨w.heap.size, 0, none⟩ 1 1 [eu x] (by rw [hz1]; rfl) hnews (by omega) (by omega) (growslice_fits (by omega) (by rw [hz2]; omega))
      refine ⟨_, _, hr, ⟨by simp, .inr ⟨W.heap.size, _, _, by rw [hlen], by omega, heap_alloc_new W.drew _, by rw [hlen]; exact grownCap_ge W (p.length + 1) cap 5, hcap cap, ?_, ?_⟩⟩, .inr ⟨W.heap.size, rfl, by omega⟩, ?_, ?_⟩
      · simp only [Array.size_append, List.size_toArray, size_zeroCells]
        have := grownCap_ge W (p.length + 1) cap 5
        simp [Value.cells]
        omega
      · rw [hlen, hmap]
        simp only [Array.toList_append, List.append_assoc]
        have : (p.map eu ++ [eu x]).length = (p.length + 1) * 1 := by simp
        rw [← List.append_assoc, ← this]
        exact List.take_left
      · intro g' hg' cur' hc'
        simp [Value.ownBlock] at hg'
        subst hg'
        exact ⟨cur', (Below.heap_alloc W.drew _ g (by show g < W.heap.size; omega)).trans ((hold g hgl).trans hc'), rfl, rfl⟩
      · exact ⟨hos.1, hos.2.1, hos.2.2, by show w.heap.size ≤ (W.drew.heap.push _).size; rw [Array.size_push]; show w.heap.size ≤ W.heap.size + 1; omega, fun d hd _ _ => (Below.heap_alloc W.drew _ d (by show d < W.heap.size; omega)).trans (hold d hd)⟩

/-- A name more in a row. -/
theorem row_app {w : World} {B : Nat} {l : Value} {L : List Rf} (h : RowIs w B l L) (x : Rf) (hB : B ≤ w.heap.size) (hL : L.length ≤ 1000) :
    ∃ l' w', (Builtin.append_ #[22, 22] 22 #[l, .slice (some ⟨w.heap.size, 0, none⟩) 1 1]).run Try.prog (w.alloc (.cells #[.string x.n, .int .i64 x.r] 36)).drew = .ok l' w' ∧ RowIs w' B l' (L ++ [x]) ∧
      (l'.ownBlock = l.ownBlock ∨ ∃ g, l'.ownBlock = some g ∧ w.heap.size ≤ g) ∧ LFr (.slice none 0 0) l w w' := by
  obtain ⟨i0, hi, hz0, hz1, hz2⟩ := info_parts info36
  obtain ⟨W, hW⟩ : ∃ W, W = (w.alloc (.cells #[.string x.n, .int .i64 x.r] 36)).drew := ⟨_, rfl⟩
  have hnew : W.heap[w.heap.size]? = some (.cells #[.string x.n, .int .i64 x.r] 36 (0, 0)) := by rw [hW]; exact heap_alloc_new _ _
  have hold : ∀ d, d < w.heap.size → W.heap[d]? = w.heap[d]? := fun d hd => by rw [hW]; exact Below.heap_alloc w _ d hd
  have hsz : W.heap.size = w.heap.size + 1 := by rw [hW]; simp [World.drew]
  have hos : W.os = w.os ∧ W.tape = w.tape ∧ W.output = w.output := by rw [hW]; exact ⟨rfl, rfl, rfl⟩
  rw [← hW]
  have hown : W.ownsRow B 36 2 l L.length (L.flatMap Rf.cells) := by
    refine ⟨h.1, ?_⟩
    rcases h.2 with hn | ⟨g, cap, cur, hv, hBg, hg, rest⟩
    · exact .inl hn
    · exact .inr ⟨g, cap, cur, hv, hBg, (hold g (Array.getElem?_eq_some_iff.1 hg).1).trans hg, rest⟩
  obtain ⟨l', w', hr, ho, hg, _, hloc⟩ := run_append_own_at (P := Try.prog) W B 22 22 36 i0 _ 2 24 Try.underlying22 hi hz0 hz1 hz2 rfl (by decide) l L.length _ hown ⟨w.heap.size, 0, none⟩ 1 1 [.string x.n, .int .i64 x.r] rfl
    (fun j u hj => by
      rw [Addr.add_lit, Nat.zero_add]
      simp [World.cell?, hnew]
      exact hj) (by simp [Value.oneCell']) (by unfold maxLen; omega) (by omega) (by omega)
  refine ⟨l', w', hr, ?_, ?_, ?_⟩
  · show w'.ownsRow B 36 2 l' (L ++ [x]).length ((L ++ [x]).flatMap Rf.cells)
    rw [List.length_append, List.flatMap_append]
    exact ho
  · rcases hloc with e | e
    · exact .inl e
    · exact .inr ⟨_, e, by omega⟩
  · refine ⟨hg.os.trans hos.1, hg.tape.trans hos.2.1, hg.output.trans hos.2.2, by have := hg.size; omega, fun d hd _ hne => (hg.block d (by omega) hne).trans (hold d hd)⟩

/-- 'append' where its run is known by an equation, as one step of a region that draws. -/
theorem step_append_eq {P : Program} {ops : Array Oper} {o : Oper} {a : Act} {w : World} {K : Act → World → Prop} {Q : Exit → Act → World → Prop} {E : Prop}
    (hg : o.guard = none) (d x : Operand) (dT sT : TypeId) (hop : o.op = Op.call { callee := Callee.builtin Builtin.append, args := #[d, x], argTypes := #[dT, sT] })
    (v u : Value) (hd : a.eval d = v) (hx : a.eval x = u) {v' : Value} {w' : World} (hr : (Builtin.append_ #[dT, sT] o.type #[v, u]).run P w = .ok v' w') (hK : K (a.put o.dst v') w') :
    if Region.wanted o (yielded ops a.tmps) = true then Oper.wp P o a w K Q else E := by
  have hw : Region.wanted o (yielded ops a.tmps) = true := by simp [Region.wanted, hg]
  rw [if_pos hw]
  unfold Oper.wp
  simp [execOp, hop, resolve, invoke, builtin, hd, hx, hr, Result.andThen]
  exact hK

/-- A call of a function by its contract, as one step of a region that draws. -/
theorem step_call_eq {P : Program} {ops : Array Oper} {o : Oper} {a : Act} {w : World} {K : Act → World → Prop} {Q : Exit → Act → World → Prop} {E : Prop} (f : FuncId) (x y z : Operand) (ts : Array TypeId)
    (hg : o.guard = none) (hop : o.op = Op.call { callee := Callee.value (.func f), args := #[x, y, z], argTypes := ts }) (henter : ∀ args w, (callFunc f args).run P w = .ok (.enter f args) w)
    (u v t : Value) (hx : a.eval x = u) (hy : a.eval y = v) (hz : a.eval z = t) {R : Ending → World → Prop} (hc : Calls P f #[u, v, t] w R) (hK : ∀ e w', R e w' → ∃ r, e = .returned r ∧ K (a.put o.dst r) w') :
    if Region.wanted o (yielded ops a.tmps) = true then Oper.wp P o a w K Q else E := by
  have hw : Region.wanted o (yielded ops a.tmps) = true := by simp [Region.wanted, hg]
  rw [if_pos hw]
  unfold Oper.wp
  have he : a.eval (.func f) = .func (.func f) #[] #[] := rfl
  have hrun : (execOp a.eval o).run P w = .ok (.enter f #[u, v, t]) w := by
    simp [execOp, hop, resolve, Deferred.ofValue, he, hx, hy, hz, invoke, henter]
  rw [hrun]
  refine Calls.mono (show Calls P f _ w R from hc) ?_
  intro e w' h
  obtain ⟨r, rfl, hk⟩ := hK e w' h
  exact hk
end Go.Proofs.Ytfkhpcgccjlpgaa
