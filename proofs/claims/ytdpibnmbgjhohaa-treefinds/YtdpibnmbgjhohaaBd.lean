/- Count, Depth. -/
import Derived.Test.YtdpibnmbgjhohaaBc
namespace Go.Proofs.Ytdpibnmbgjhohaa
open Go.RowKit
attribute [local go_sem] Oper.semAt_some

abbrev nv (d : Nd) (av kv : Value) : Value := .agg #[iv d.id, iv d.kind, iv d.space, .string d.name, .string d.text, av, iv d.sf, iv d.st, iv d.ef, iv d.et, kv]
abbrev na (d : Nd) (av kv : Value) : Obj := .cells #[iv d.id, iv d.kind, iv d.space, .string d.name, .string d.text, av, iv d.sf, iv d.st, iv d.ef, iv d.et, kv] 27
theorem na_cells {W : World} {r : Nat} {d : Nd} {av kv : Value} (h : W.heap[r]? = some (na d av kv)) : CellsAt W r 0 (d.cs av kv) := fun j u hj => by
  simp only [World.cell?, h, Nat.zero_add]
  rw [← hj, Nd.cs]
  simp
theorem wide_fn (f : FuncId) : Fence.wide.fn f = True := rfl
theorem wide_depth : Fence.wide.depth = none := rfl
theorem round_fn (l : Nat) (f : FuncId) : (Fence.wide.inRound l).fn f = True := rfl
theorem round_depth (l : Nat) : (Fence.wide.inRound l).depth = none := rfl
attribute [local go_sem] wide_fn wide_depth round_fn round_depth
theorem wide_call {n : Nat} {P : Program} {f : FuncId} {args : Array Value} {w : World} {R R' : Ending → World → Prop} (h : Calls P f args w R) (k : ∀ e w', R e w' → R' e w') :
    CallsIn Fence.wide n P f args w R' := (callsIn_wide.2 h).mono k
theorem round_call {n l : Nat} {P : Program} {f : FuncId} {args : Array Value} {w : World} {R R' : Ending → World → Prop} (h : Calls P f args w R) (k : ∀ e w', R e w' → R' e w') :
    CallsIn (Fence.wide.inRound l) n P f args w R' := CallsIn.inRound l ((callsIn_wide.2 h).mono k)
/-- Blocks laid one behind the other. -/
def als (w : World) : List Obj → World
  | [] => w
  | o :: l => als (w.alloc o) l
theorem als_spec (w : World) (l : List Obj) : Below w.heap.size w (als w l) ∧ (als w l).heap.size = w.heap.size + l.length ∧ ∀ (i : Nat) o, l[i]? = some o → (als w l).heap[w.heap.size + i]? = some o := by
  induction l generalizing w with
  | nil => exact ⟨Below.refl _ _, rfl, fun i o h => by simp at h⟩
  | cons a l ih =>
    obtain ⟨h1, h2, h3⟩ := ih (w.alloc a)
    have hb : Below w.heap.size w (w.alloc a) := (Below.refl _ _).alloc (Nat.le_refl _) _
    refine ⟨hb.trans (h1.mono (by simp)), by rw [als, h2]; simp; omega, fun i o h => ?_⟩
    cases i with
    | zero =>
      simp at h
      subst h
      rw [als]
      exact (h1.block _ (by simp)).trans (World.alloc_heap_new w a)
    | succ i =>
      have := h3 i o (by simpa using h)
      rw [als]
      rw [World.size_alloc] at this
      rw [show w.heap.size + (i + 1) = w.heap.size + 1 + i by omega]
      exact this
theorem one_cell {W : World} {b t : Nat} {v : Value} (h : W.heap[b]? = some (.cells #[v] t (0, 0))) : W.cell? ⟨b, 0, none⟩ = some v ∧ W.frozen? ⟨b, 0, none⟩ = false := by
  constructor <;> simp [World.cell?, World.frozen?, h]
theorem one_set {W : World} {b t : Nat} {v : Value} (u : Value) (h : W.heap[b]? = some (.cells #[v] t (0, 0))) : (W.setCell ⟨b, 0, none⟩ u).heap[b]? = some (.cells #[u] t (0, 0)) := by
  rw [heap_setCell_same W b 0 _ _ u h]
  rfl
set_option maxRecDepth 20000 in
set_option maxHeartbeats 2000000 in
theorem count_in (n : Nat) {w : World} {t : Tr} {av kv : Value} (ht : TrC w t av kv) (hn : cT t ≤ 900000) :
    CallsIn Fence.wide n Try.prog 15 #[nv t.d av kv] w fun e w' => e = .returned (iv (cT t)) ∧ Below w.heap.size w w' := by
  obtain ⟨d, ks⟩ := t
  have ht' : ∃ s1 s2 : Sl, av = slv s1 ∧ kv = slv s2 := by
    cases ht
    exact ⟨(_, _, _), (_, _, _), rfl, rfl⟩
  obtain ⟨⟨ao, an, ac⟩, ⟨kp, kn, kc⟩, rfl, rfl⟩ := ht'
  simp only [slv] at ht
  simp only [Tr.d, slv]
  refine callsIn_of_wp_marks Try.func15 rfl trivial ?_ rfl
  simp only [Try.ntmps15, List.size_toArray, List.length_cons, List.length_nil, Nat.reduceAdd, Nat.reduceSub, Array.replicate_succ, Array.replicate_zero, List.push_toArray, List.append_toArray, List.nil_append, List.cons_append]
  gi_wp2_with (gi_at_call 32; refine wide_call (nodes_any _ _ _ _) ?_; rintro e w' ⟨rfl, rfl⟩)
  have hq := als_spec w [na d (.slice ao an ac) (.slice kp kn kc), .cells #[iv 0] 3, na d (.slice ao an ac) (.slice kp kn kc), .cells #[.slice (some ⟨w.heap.size + 1 + 1, 0, none⟩) 1 1] 25]
  simp only [als, List.length_cons, List.length_nil] at hq
  revert hq
  generalize World.alloc (World.alloc (World.alloc (World.alloc w _) _) _) _ = w2
  rintro ⟨b2, s2, h2⟩
  have q1 : w2.heap[w.heap.size + 1]? = some (.cells #[iv 0] 3 (0, 0)) := h2 1 _ rfl
  have q2 : w2.heap[w.heap.size + 1 + 1]? = some (na d (.slice ao an ac) (.slice kp kn kc)) := h2 2 _ rfl
  have q3 : w2.heap[w.heap.size + 1 + 1 + 1]? = some (.cells #[.slice (some ⟨w.heap.size + 1 + 1, 0, none⟩) 1 1] 25 (0, 0)) := h2 3 _ rfl
  clear h2
  refine walk_law (r := w.heap.size + 1 + 1) (bx := w.heap.size + 1 + 1 + 1) ht hn b2 (na_cells q2) (by omega) (one_cell q3).1 rfl
    (fun pre W => Below w.heap.size w W ∧ W.heap[w.heap.size + 1 + 1]? = some (na d (.slice ao an ac) (.slice kp kn kc)) ∧ W.heap[w.heap.size + 1]? = some (.cells #[iv pre.length] 3 (0, 0)))
    (fun _ _ => False) ?_ (fun _ _ _ h _ => h) (fun pre W h => ⟨h.1, h.2.1.trans q2.symm⟩) ⟨b2, q2, q1⟩
    (fun x y => { tmps := #[nv d (.slice ao an ac) (.slice kp kn kc), ptr w.heap.size, iv 0, ptr (w.heap.size + 1), nv d (.slice ao an ac) (.slice kp kn kc), .slice (some ⟨w.heap.size + 1 + 1, 0, none⟩) 1 1, .func (.func 48) #[] #[ptr (w.heap.size + 1 + 1 + 1)], x, y, undef, undef, undef], defers := [] }) ?_ ?_ ?_ (fun _ _ _ _ h => h.elim)
  · rintro pre W1 W2 ⟨h1, h2, h3⟩ ho
    exact ⟨h1.trans (ho.below.mono (by omega)), (ho.low _ (by omega)).trans h2, (ho.low _ (by omega)).trans h3⟩
  · intro l x y W K hK
    simp only [List.setIfInBounds_toArray, List.set_cons_succ, List.set_cons_zero]
    gi_wp2
    exact hK
  · rintro l pre u lv rest b off av' kv' W heq ⟨h1, h2, h3⟩ hc hu
    have c3 := (one_cell h3).1
    have f3 := (one_cell h3).2
    have hlen : pre.length ≤ 900000 := by
      have := congrArg List.length heq
      rw [vT_len] at this
      simp at this
      omega
    have wv : IntKind.i64.wrap ((pre.length : Int) + 1) = (pre.length : Int) + 1 := by rw [IntKind.wrap_i64]; omega
    gi_wp2
    refine ⟨Kp.set _ h3 (by decide), h1.trans ((Below.refl w.heap.size W).setCell (p := ⟨w.heap.size + 1, 0, none⟩) (by simp) _), ?_, ?_⟩
    · exact (Below.heap_setCell W _ _ _ (by simp)).trans h2
    · rw [List.length_append, List.length_singleton]
      exact one_set _ h3
  · rintro D W hD ⟨h1, h2, h3⟩ hd
    have c3 := (one_cell h3).1
    gi_wp2
    refine ⟨by simp, .inl ⟨_, _, rfl, run_takeDeferred hd, ?_⟩⟩
    refine ⟨_, results_tmp rfl _ _ _, by rw [vT_len]; rfl, h1.trans (Off.put (q := 25) _ (by omega) hd rfl).below⟩
/-- The deepest level there is. -/
def mx (l : List (Tr × Nat)) : Nat := l.foldl (fun m x => max m x.2) 0
mutual
theorem mx_T : ∀ (t : Tr) (m lv : Nat), 1 ≤ lv → (vT t lv).foldl (fun m x => max m x.2) m = max m (lv + dT t - 1)
  | .mk d ks, m, lv, h => by
    rw [vT, List.foldl_cons, mx_L ks _ (lv + 1) (by omega) (by simp only []; omega), dT]
    simp only []
    omega
theorem mx_L : ∀ (l : List Tr) (m lv : Nat), 1 ≤ lv → lv ≤ m + 1 → (vL l lv).foldl (fun m x => max m x.2) m = max m (lv + dL l - 1)
  | [], m, lv, _, h => by rw [vL, dL]; simp only [List.foldl_nil]; omega
  | t :: ts, m, lv, h0, h => by
    rw [vL, List.foldl_append, dL, mx_T t m lv h0, mx_L ts _ lv h0 (by omega)]
    omega
end
theorem mx_vT (t : Tr) : mx (vT t 1) = dT t := by
  rw [mx, mx_T t 0 1 (Nat.le_refl _)]
  omega
theorem mx_snoc (l : List (Tr × Nat)) (x : Tr × Nat) : mx (l ++ [x]) = max (mx l) x.2 := by simp [mx]
set_option maxRecDepth 20000 in
set_option maxHeartbeats 2000000 in
theorem depth_in (n : Nat) {w : World} {t : Tr} {av kv : Value} (ht : TrC w t av kv) (hn : cT t ≤ 900000) :
    CallsIn Fence.wide n Try.prog 16 #[nv t.d av kv] w fun e w' => e = .returned (iv (dT t)) ∧ Below w.heap.size w w' := by
  obtain ⟨d, ks⟩ := t
  have ht' : ∃ s1 s2 : Sl, av = slv s1 ∧ kv = slv s2 := by
    cases ht
    exact ⟨(_, _, _), (_, _, _), rfl, rfl⟩
  obtain ⟨⟨ao, an, ac⟩, ⟨kp, kn, kc⟩, rfl, rfl⟩ := ht'
  simp only [slv] at ht
  simp only [Tr.d, slv]
  refine callsIn_of_wp_marks Try.func16 rfl trivial ?_ rfl
  simp only [Try.ntmps16, List.size_toArray, List.length_cons, List.length_nil, Nat.reduceAdd, Nat.reduceSub, Array.replicate_succ, Array.replicate_zero, List.push_toArray, List.append_toArray, List.nil_append, List.cons_append]
  gi_wp2_with (gi_at_call 32; refine wide_call (nodes_any _ _ _ _) ?_; rintro e w' ⟨rfl, rfl⟩)
  have hq := als_spec w [na d (.slice ao an ac) (.slice kp kn kc), .cells #[iv 0] 3, na d (.slice ao an ac) (.slice kp kn kc), .cells #[.slice (some ⟨w.heap.size + 1 + 1, 0, none⟩) 1 1] 25]
  simp only [als, List.length_cons, List.length_nil] at hq
  revert hq
  generalize World.alloc (World.alloc (World.alloc (World.alloc w _) _) _) _ = w2
  rintro ⟨b2, s2, h2⟩
  have q1 : w2.heap[w.heap.size + 1]? = some (.cells #[iv 0] 3 (0, 0)) := h2 1 _ rfl
  have q2 : w2.heap[w.heap.size + 1 + 1]? = some (na d (.slice ao an ac) (.slice kp kn kc)) := h2 2 _ rfl
  have q3 : w2.heap[w.heap.size + 1 + 1 + 1]? = some (.cells #[.slice (some ⟨w.heap.size + 1 + 1, 0, none⟩) 1 1] 25 (0, 0)) := h2 3 _ rfl
  clear h2
  refine walk_law (r := w.heap.size + 1 + 1) (bx := w.heap.size + 1 + 1 + 1) ht hn b2 (na_cells q2) (by omega) (one_cell q3).1 rfl
    (fun pre W => Below w.heap.size w W ∧ W.heap[w.heap.size + 1 + 1]? = some (na d (.slice ao an ac) (.slice kp kn kc)) ∧ W.heap[w.heap.size + 1]? = some (.cells #[iv (mx pre)] 3 (0, 0)))
    (fun _ _ => False) ?_ (fun _ _ _ h _ => h) (fun pre W h => ⟨h.1, h.2.1.trans q2.symm⟩) ⟨b2, q2, q1⟩
    (fun x y => { tmps := #[nv d (.slice ao an ac) (.slice kp kn kc), ptr w.heap.size, iv 0, ptr (w.heap.size + 1), undef, y, nv d (.slice ao an ac) (.slice kp kn kc), .slice (some ⟨w.heap.size + 1 + 1, 0, none⟩) 1 1, .func (.func 48) #[] #[ptr (w.heap.size + 1 + 1 + 1)], x, y, undef, undef, undef, undef], defers := [] }) ?_ ?_ ?_ (fun _ _ _ _ h => h.elim)
  · rintro pre W1 W2 ⟨h1, h2, h3⟩ ho
    exact ⟨h1.trans (ho.below.mono (by omega)), (ho.low _ (by omega)).trans h2, (ho.low _ (by omega)).trans h3⟩
  · intro l x y W K hK
    simp only [List.setIfInBounds_toArray, List.set_cons_succ, List.set_cons_zero]
    gi_wp2
    exact hK
  · rintro l pre u lv rest b off av' kv' W heq ⟨h1, h2, h3⟩ hc hu
    have c3 := (one_cell h3).1
    have f3 := (one_cell h3).2
    gi_wp2
    · rename_i hcmp
      refine ⟨Kp.set _ h3 (by decide), h1.trans ((Below.refl w.heap.size W).setCell (p := ⟨w.heap.size + 1, 0, none⟩) (by simp) _), (Below.heap_setCell W _ _ _ (by simp)).trans h2, ?_⟩
      have e : mx (pre ++ [(u, lv)]) = lv := by rw [mx_snoc]; simp only []; omega
      rw [e]
      exact one_set _ h3
    · rename_i hcmp
      refine ⟨Kp.set _ h3 (by decide), h1.trans ((Below.refl w.heap.size W).setCell (p := ⟨w.heap.size + 1, 0, none⟩) (by simp) _), (Below.heap_setCell W _ _ _ (by simp)).trans h2, ?_⟩
      have e : mx (pre ++ [(u, lv)]) = mx pre := by rw [mx_snoc]; simp only []; omega
      rw [e]
      exact one_set _ h3
  · rintro D W hD ⟨h1, h2, h3⟩ hd
    have c3 := (one_cell h3).1
    gi_wp2
    refine ⟨by simp, .inl ⟨_, _, rfl, run_takeDeferred hd, ?_⟩⟩
    refine ⟨_, results_tmp rfl _ _ _, by rw [mx_vT]; rfl, h1.trans (Off.put (q := 25) _ (by omega) hd rfl).below⟩
end Go.Proofs.Ytdpibnmbgjhohaa
