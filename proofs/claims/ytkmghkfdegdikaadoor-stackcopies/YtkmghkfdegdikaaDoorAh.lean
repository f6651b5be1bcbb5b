/- What is popped: cut; Implied, Until. -/
import Derived.Test.YtkmghkfdegdikaaDoorAg
namespace Go.Proofs.YtkmghkfdegdikaaDoor
open Go.RowKit

theorem fl_take {α : Type} (f : α → List Value) (s : Nat) (hf : ∀ x, (f x).length = s) : ∀ (M : List α) (k : Nat), (M.take k).flatMap f = (M.flatMap f).take (k * s)
  | [], k => by simp
  | x :: M, 0 => by simp
  | x :: M, k + 1 => by
    rw [List.take_succ_cons, List.flatMap_cons, List.flatMap_cons, fl_take f s hf M k, Nat.add_mul, Nat.one_mul, List.take_append, hf, Nat.add_sub_cancel, List.take_of_length_le (l := f x) (by rw [hf]; omega)]
theorem fl_drop {α : Type} (f : α → List Value) (s : Nat) (hf : ∀ x, (f x).length = s) : ∀ (M : List α) (k : Nat), (M.drop k).flatMap f = (M.flatMap f).drop (k * s)
  | [], k => by simp
  | x :: M, 0 => by simp
  | x :: M, k + 1 => by
    rw [List.drop_succ_cons, List.flatMap_cons, fl_drop f s hf M k, Nat.add_mul, Nat.one_mul, List.drop_append, hf, Nat.add_sub_cancel, List.drop_of_length_le (l := f x) (by rw [hf]; omega), List.nil_append]
/-- 'clear' where its run is known by an equation. -/
theorem list_clear_eq {P : Program} {ops : Array Oper} {rest : List Oper} {o : Oper} {a : Act} {w : World} {Q : Exit → Act → World → Prop}
    (hg : o.guard = none) (d : Operand) (dT : TypeId) (hop : o.op = Op.call { callee := Callee.builtin Builtin.clear, args := #[d], argTypes := #[dT] })
    (v : Value) (hd : a.eval d = v) {v' : Value} {w' : World} (hr : (Builtin.clear_ #[dT] o.type #[v]).run P w = .ok v' w') (hK : wpList P ops Q rest (a.put o.dst v') w') :
    wpList P ops Q (o :: rest) a w :=
  wpList_plain hg fun K hK2 => by
    unfold Oper.wp
    simp [execOp, hop, resolve, invoke, builtin, hd, hr, Result.andThen]
    exact hK2 _ _ hK
theorem run_clear_s {w : World} {g : Nat} {cur : Array Value} (o n c ty : Nat) (hg : w.heap[g]? = some (.cells cur 34 (0, 0))) (h0 : 0 < n) (hfit : o + n * 4 ≤ cur.size) :
    ∃ W cur', (Builtin.clear_ #[26] ty #[.slice (some ⟨g, o, none⟩) n c]).run Tryd.prog w = .ok (.tuple #[]) W ∧ w.grownBy W (some g) ∧ W.heap[g]? = some (.cells cur' 34 (0, 0)) ∧ cur'.size = cur.size ∧ ∀ j, j < o → cur'[j]? = cur[j]? := by
  obtain ⟨z, hz⟩ : ∃ z : Array Value, Builtin.zeroCells (Value.agg #[.int .i64 0, .int .i64 0, .string ⟨#[]⟩, .slice none 0 0]).cells n = z := ⟨_, rfl⟩
  have hsz : z.toList.length = n * 4 := by
    rw [← hz, Array.length_toList, size_zeroCells]
    rfl
  have h1 : ∀ v ∈ z.toList, v.oneCell' = true := fun v hv => by
    rw [← hz, Builtin.zeroCells, Array.toList_map, List.mem_map] at hv
    obtain ⟨i, _, rfl⟩ := hv
    have hm : i % (Value.agg #[.int .i64 0, .int .i64 0, .string ⟨#[]⟩, .slice none 0 0]).cells.size < 4 := Nat.mod_lt _ (by decide)
    generalize i % (Value.agg #[.int .i64 0, .int .i64 0, .string ⟨#[]⟩, .slice none 0 0]).cells.size = r at hm
    match r, hm with
    | 0, _ => rfl
    | 1, _ => rfl
    | 2, _ => rfl
    | 3, _ => rfl
  have hst := run_storeCells_at (P := Tryd.prog) g o 34 z.toList 0 cur w hg (by rw [hsz]; omega) h1
  refine ⟨w.setRow g (cur.toList.take (o + 0) ++ z.toList ++ cur.toList.drop (o + 0 + z.toList.length)).toArray, (cur.toList.take (o + 0) ++ z.toList ++ cur.toList.drop (o + 0 + z.toList.length)).toArray, ?_, ?_, setRow_heap w g cur _ 34 (0, 0) hg, ?_, fun j hj => ?_⟩
  · cases n with
    | zero => omega
    | succ n =>
      simp only [Builtin.clear_]
      simp [run_underlying Tryd.underlying26, hz, hst]
  · exact ⟨by simp, by simp, by simp, by simp, fun k hk hne => setRow_other w g k _ (fun e => hne (by rw [e]))⟩
  · simp only [List.size_toArray, List.length_append, List.length_take, List.length_drop, Array.length_toList, hsz]
    omega
  · have hl : j < cur.size := by omega
    rw [List.getElem?_toArray, List.append_assoc, List.getElem?_append_left (by rw [List.length_take, Array.length_toList]; omega), List.getElem?_take, if_pos (by omega), Array.getElem?_toList]

theorem cut_neg (w : World) (p : Value) (left : Int) (h : left < 0) : Calls Tryd.prog 44 #[p, iv left] w fun e w' => e = .returned (.slice none 0 0) ∧ w' = w := by
  have hd : decide (left < 0) = true := decide_eq_true h
  go_enter Tryd.func44, Tryd.ntmps44
  go_wp2_with fail
  go_ret
  exact ⟨rfl, rfl⟩
/-- What cut leaves and answers. -/
abbrev Popped (S : Nat → Prop) (x : Nat) (M : List El) (left : Nat) (w : World) (e : Ending) (w' : World) : Prop := ∃ v rv, e = .returned v ∧ Stk S w' x rv (M.take left) ∧ Keep S w w' ∧ Rw (fun k => k < w.heap.size) w' 34 4 v (M.length - left) ((M.drop left).reverse.flatMap El.cs) ∧ ∀ d ∈ M, Own w' d.av d.al
set_option maxHeartbeats 4000000 in
set_option maxRecDepth 20000 in
theorem cut_any {S : Nat → Prop} {w : World} {x : Nat} {rv : Value} {M : List El} (h : Stk S w x rv M) (hM : M.length ≤ 1000000000) (left : Nat) (hleft : left ≤ M.length) : Calls Tryd.prog 44 #[ptr x, iv (left : Int)] w (Popped S x M left w) := by
  have ks := size_any h
  obtain ⟨n, hn⟩ : ∃ n, M.length = n := ⟨_, rfl⟩
  have HN : Hid (M.length = n) := hn
  by_cases hlt : left < n
  · obtain ⟨g, c, cur, hrv, hgS, hgl, hgb, hc1, hc2, hc3, hc4⟩ := h.row.form (by omega)
    subst hrv
    rw [hn] at ks hM hleft hc1 hc4
    have hmem : ∀ d ∈ M, ∃ ao an ac, d.av = .slice ao an ac := fun d hd => by
      obtain ⟨ao, ac, e, _⟩ := (h.own d hd).1.slice
      exact ⟨_, _, _, e⟩
    have hxs : ((M.drop left).flatMap El.cs).length = (n - left) * 4 := by rw [el_len, List.length_drop, hn]
    have kc := clone_any (w := w) (g := g) (o := left * 4) (n := n - left) (c := c - left) (xs := (M.drop left).flatMap El.cs) hxs (fun j u hj => by
      rw [fl_drop El.cs 4 (fun _ => rfl), List.getElem?_drop] at hj
      exact h.row.cell hj) hgl (el_one _ fun d hd => (h.own d (List.drop_subset _ _ hd)).one) (by omega)
    have hgx : g ≠ x := fun e => by
      have := h.blk
      unfold Bx at this
      rw [← e, hgb] at this
      simp at this
    have HH : Hid (Stk S w x (.slice (some ⟨g, 0, none⟩) M.length c) M ∧ (∀ d ∈ M, ∃ ao an ac, d.av = .slice ao an ac) ∧ w.heap[g]? = some (.cells cur 34 (0, 0)) ∧ cur.size = c * 4 ∧ cur.toList.take (n * 4) = M.flatMap El.cs ∧ ¬ S g ∧ g ≠ x ∧ left < n ∧ n ≤ c ∧ c ≤ maxLen ∧ g < w.heap.size) := ⟨h, hmem, hgb, hc3, hc4, hgS, hgx, hlt, hc1, hc2, hgl⟩
    have cx : w.cell? ⟨x, 0, none⟩ = some (.slice (some ⟨g, 0, none⟩) n c) := by rw [h.blk.cell 0, hn]; rfl
    clear h hmem hgb hc3 hc4 hgS hxs hgx hn
    have d0 : decide ((left : Int) < 0) = false := decide_eq_false (by omega)
    have d1 : ((left : Int) == (n : Int)) = false := beq_false_of_ne (by omega)
    have d2 : ¬ c = left := by omega
    have d3 : (left : Int) ≤ (n : Int) := by omega
    have d4 : left ≤ n := by omega
    have d5 : left ≤ c := by omega
    have hcm : c ≤ 9223372036854775807 := by unfold maxLen at hc2; omega
    clear hc2
    go_enter Tryd.func44, Tryd.ntmps44
    go_wp2_with fail
    refine ks.mono ?_
    rintro e w' ⟨rfl, hw'⟩
    rw [hw']
    clear hw' ks w'
    go_wp2_with fail
    refine kc.mono ?_
    rintro e w1 ⟨v, rfl, r1, b1⟩
    obtain ⟨g2, c2, cur2, rfl, hg2, _, hg2b, _⟩ := r1.form (by omega)
    have kr := reverse_any r1 (by rw [List.length_drop, HN.out]) (by omega) (by omega) (fun d hd => HH.out.2.1 d (List.drop_subset _ _ hd))
    have HB : Hid (Below w.heap.size w w1 ∧ w.heap.size ≤ g2) := ⟨b1, Nat.not_lt.1 hg2⟩
    clear kc r1 b1 cx hg2b hg2
    go_upto_region 4 with fail
    go_wp2_with fail
    refine kr.mono ?_
    rintro e w2 ⟨rfl, r2, g2'⟩
    clear kr
    have b2 : Below w.heap.size w w2 := HB.out.1.trans ⟨g2'.os, g2'.tape, g2'.output, g2'.size, fun k hk => g2'.block k (Nat.lt_of_lt_of_le hk HB.out.1.size) (fun e => by
      have := HB.out.2
      simp at e
      omega)⟩
    have s2 := HH.out.1.old b2
    have gb2 : w2.heap[g]? = some (.cells cur 34 (0, 0)) := (b2.block g HH.out.2.2.2.2.2.2.2.2.2.2).trans HH.out.2.2.1
    have cx : w2.cell? ⟨x, 0, none⟩ = some (.slice (some ⟨g, 0, none⟩) n c) := by rw [s2.blk.cell 0, HN.out]; rfl
    obtain ⟨W3, cur3, hrun, hgr, hg3, hs3, hsame⟩ := run_clear_s (w := w2) (left * 4) (n - left) (c - left) 0 gb2 (by omega) (by rw [HH.out.2.2.2.1]; omega)
    have x3 : Bx W3 x 55 #[.slice (some ⟨g, 0, none⟩) n c] := (hgr.block x s2.lt (fun e => HH.out.2.2.2.2.2.2.1 (by simpa using e.symm))).trans (by have := s2.blk; rw [HN.out] at this; exact this)
    have m3 := x3.set 0 (.slice (some ⟨g, 0, none⟩) left c)
    have HF : Hid (Popped S x M left w (.returned (.slice (some ⟨g2, 0, none⟩) (n - left) c2)) (W3.setCell ⟨x, 0, none⟩ (.slice (some ⟨g, 0, none⟩) left c))) := by
      have hg2 := HB.out.2
      have hgw := HH.out.2.2.2.2.2.2.2.2.2.2
      have kk : ∀ k, k < w2.heap.size → k ≠ g → k ≠ x → (W3.setCell ⟨x, 0, none⟩ (.slice (some ⟨g, 0, none⟩) left c)).heap[k]? = w2.heap[k]? := fun k h1 h2 h3 =>
        (heap_setCell_other W3 ⟨x, 0, none⟩ k _ h3).trans (hgr.block k h1 (fun e => h2 (by simpa using e)))
      have sz : (W3.setCell ⟨x, 0, none⟩ (.slice (some ⟨g, 0, none⟩) left c)).heap.size = W3.heap.size := World.size_setCell _ _ _
      have hown : ∀ d ∈ M, Own (W3.setCell ⟨x, 0, none⟩ (.slice (some ⟨g, 0, none⟩) left c)) d.av d.al := fun d hd => (s2.own d hd).mv fun k cu hk => kk k (Array.getElem?_eq_some_iff.1 hk).1 (fun e => by rw [e, gb2] at hk; simp at hk) (fun e => by
        have := s2.blk
        unfold Bx at this
        rw [e, this] at hk
        simp at hk)
      refine ⟨_, .slice (some ⟨g, 0, none⟩) left c, rfl, ⟨fun k hk => ?_, m3, s2.out, ?_, fun d hd => hown d (List.take_subset _ _ hd)⟩, ?_, ?_, hown⟩
      · rw [sz]
        exact Nat.lt_of_lt_of_le (s2.low k hk) hgr.size
      · have hlen : (M.take left).length = left := by rw [List.length_take, HN.out]; omega
        rw [hlen]
        refine ⟨⟨by rw [el_len, hlen], .inr ⟨g, c, cur3, rfl, Nat.zero_le _, (heap_setCell_other W3 ⟨x, 0, none⟩ g _ HH.out.2.2.2.2.2.2.1).trans hg3, d5, HH.out.2.2.2.2.2.2.2.2.2.1, by rw [hs3]; exact HH.out.2.2.2.1, ?_⟩⟩, fun k hk => ?_⟩
        · rw [fl_take El.cs 4 (fun _ => rfl), ← HH.out.2.2.2.2.1, List.take_take, Nat.min_eq_left (by omega)]
          apply List.ext_getElem?
          intro t
          by_cases ht : t < left * 4
          · rw [List.getElem?_take_of_lt ht, List.getElem?_take_of_lt ht, Array.getElem?_toList, Array.getElem?_toList]
            exact hsame t ht
          · rw [List.getElem?_take_eq_none (by omega), List.getElem?_take_eq_none (by omega)]
        · simp [Value.ownBlock] at hk
          subst hk
          exact HH.out.2.2.2.2.2.1
      · refine (Keep.old b2).trans ⟨hgr.os, hgr.tape, hgr.output, by rw [sz]; exact hgr.size, fun k h1 h2 => kk k h2 (fun e => HH.out.2.2.2.2.2.1 (e ▸ h1)) (fun e => s2.out (e ▸ h1))⟩
      · rw [HN.out]
        refine r2.mv fun k hk => ?_
        simp [Value.ownBlock] at hk
        subst hk
        obtain ⟨hl2, _⟩ := own_blk r2.own rfl
        exact kk _ hl2 (by omega) (fun e => by
          have := HH.out.1.lt
          omega)
    have c3 : W3.cell? ⟨x, 0, none⟩ = some (.slice (some ⟨g, 0, none⟩) n c) := x3.cell 0
    have f3 := x3.frozen 0
    clear s2 b2 r2 g2' gb2 hgr hg3 hs3 hsame x3 m3
    go_upto_region 6 with (at_builtin; refine list_clear_eq rfl _ 26 rfl _ rfl hrun ?_)
    go_wp2_with fail
    go_ret
    exact HF.out
  · have hln : left = n := by omega
    subst hln
    have HF : Hid (Popped S x M left w (.returned (.slice none 0 0)) w) := by
      refine ⟨_, rv, rfl, ?_, Keep.refl _ _, ?_, h.own⟩
      · rw [List.take_of_length_le (by omega)]
        exact h
      · rw [List.drop_of_length_le (by omega), hn, Nat.sub_self]
        exact Rw.nil _ _ _ _
    rw [hn] at ks
    clear h hn hM hleft hlt HN
    have d0 : decide ((left : Int) < 0) = false := decide_eq_false (by omega)
    go_enter Tryd.func44, Tryd.ntmps44
    go_wp2_with fail
    refine ks.mono ?_
    rintro e w' ⟨rfl, hw'⟩
    rw [hw']
    clear hw' ks
    go_wp2_with fail
    go_ret
    exact HF.out
end Go.Proofs.YtkmghkfdegdikaaDoor
