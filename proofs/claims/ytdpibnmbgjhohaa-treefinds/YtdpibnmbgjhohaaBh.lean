/- A copy of a tree: what a round does. -/
import Derived.Test.YtdpibnmbgjhohaaBg
namespace Go.Proofs.Ytdpibnmbgjhohaa
open Go.RowKit
attribute [local go_sem] Oper.semAt_some
attribute [local go_sem] wide_fn wide_depth round_fn round_depth

theorem CellsAt.set_out {W : World} {b off j : Nat} {l : List Value} (h : CellsAt W b off l) (v : Value) (hj : j < off ∨ off + l.length ≤ j) : CellsAt (W.setCell ⟨b, j, none⟩ v) b off l := fun i u hi => by
  have := (List.getElem?_eq_some_iff.1 hi).1
  rw [World.cell?_setCell_other _ _ _ _ (fun e => by have := congrArg Addr.off e; simp only [] at this; omega)]
  exact h i u hi
theorem CellsAt.set_in {W : World} {b off i : Nat} {l : List Value} (h : CellsAt W b off l) (v : Value) (hi : i < l.length) : CellsAt (W.setCell ⟨b, off + i, none⟩ v) b off (l.set i v) := fun j u hj => by
  rw [List.getElem?_set] at hj
  by_cases hij : i = j
  · subst hij
    simp [hi] at hj
    subst hj
    exact World.cell?_setCell_same _ _ _ (h i _ (List.getElem?_eq_getElem hi))
  · rw [if_neg hij] at hj
    rw [World.cell?_setCell_other _ _ _ _ (fun e => by have := congrArg Addr.off e; simp only [] at this; omega)]
    exact h j u hj
theorem at_cells' (M : List At) : ∀ (j : Nat) u, (M.flatMap At.cells)[j]? = some u → ∃ i x, M[i]? = some x ∧ ((j = i * 2 ∧ u = .string x.n) ∨ (j = i * 2 + 1 ∧ u = .string x.v)) := by
  induction M with
  | nil => intro j u h; simp at h
  | cons x M ih =>
    intro j u h
    rw [List.flatMap_cons] at h
    match j, h with
    | 0, h => simp [At.cells] at h; exact ⟨0, x, rfl, .inl ⟨rfl, h.symm⟩⟩
    | 1, h => simp [At.cells] at h; exact ⟨0, x, rfl, .inr ⟨rfl, h.symm⟩⟩
    | j + 2, h =>
      have : (M.flatMap At.cells)[j]? = some u := by simpa [At.cells] using h
      obtain ⟨i, y, h1, h2⟩ := ih j u this
      refine ⟨i + 1, y, by simpa using h1, ?_⟩
      rcases h2 with ⟨h2, h3⟩ | ⟨h2, h3⟩
      · exact .inl ⟨by omega, h3⟩
      · exact .inr ⟨by omega, h3⟩
theorem at_src {w V : World} {ao : Option Addr} {l : List At} (h : AtRow w ao l) (b : Below w.heap.size w V) : ∀ (j : Nat) u, (l.flatMap At.cells)[j]? = some u → ∃ g off, ao = some ⟨g, off, none⟩ ∧ g < V.heap.size ∧ V.cell? ⟨g, off + j, none⟩ = some u := fun j u hj => by
  obtain ⟨i, x, h1, h2⟩ := at_cells' l j u hj
  obtain ⟨g, off, h3, h4, h5, h6⟩ := h i x h1
  refine ⟨g, off, h3, Nat.lt_of_lt_of_le h4 b.size, ?_⟩
  rw [b.cell (p := ⟨g, off + j, none⟩) h4]
  rcases h2 with ⟨rfl, rfl⟩ | ⟨rfl, rfl⟩
  · exact h5
  · exact h6
/-- The cells of a row of nodes. -/
def kcells : List Tr → (Nat → Value) → (Nat → Value) → List Value
  | [], _, _ => []
  | t :: ts, f, k => t.d.cs (f 0) (k 0) ++ kcells ts (fun j => f (j + 1)) (fun j => k (j + 1))
theorem kcells_len : ∀ (l : List Tr) (f k : Nat → Value), (kcells l f k).length = l.length * 11
  | [], _, _ => rfl
  | t :: ts, f, k => by rw [kcells, List.length_append, kcells_len ts, List.length_cons]; simp [Nd.cs]; omega
theorem kcells_at : ∀ (l : List Tr) (f k : Nat → Value) (j i : Nat) (t : Tr) (u : Value), l[j]? = some t → (t.d.cs (f j) (k j))[i]? = some u → (kcells l f k)[j * 11 + i]? = some u
  | [], _, _, j, _, _, _, h, _ => by simp at h
  | a :: ts, f, k, 0, i, t, u, h, hi => by
    simp at h
    subst h
    have := (List.getElem?_eq_some_iff.1 hi).1
    rw [kcells, List.getElem?_append_left (by omega), Nat.zero_mul, Nat.zero_add]
    exact hi
  | a :: ts, f, k, j + 1, i, t, u, h, hi => by
    have := kcells_at ts (fun j => f (j + 1)) (fun j => k (j + 1)) j i t u (by simpa using h) hi
    rw [kcells, List.getElem?_append_right (by simp [Nd.cs]; omega)]
    rw [← this]
    congr 1
    simp [Nd.cs]
    omega
theorem kcells_inv : ∀ (l : List Tr) (f k : Nat → Value) (q : Nat) (u : Value), (kcells l f k)[q]? = some u → ∃ j i t, l[j]? = some t ∧ q = j * 11 + i ∧ (t.d.cs (f j) (k j))[i]? = some u
  | [], _, _, _, _, h => by simp [kcells] at h
  | a :: ts, f, k, q, u, h => by
    rw [kcells, List.getElem?_append] at h
    split at h
    · exact ⟨0, q, a, rfl, by omega, h⟩
    · rename_i hq
      obtain ⟨j, i, t, h1, h2, h3⟩ := kcells_inv ts _ _ _ u h
      refine ⟨j + 1, i, t, by simpa using h1, ?_, h3⟩
      simp [Nd.cs] at hq h2
      omega
theorem cs_one {d : Nd} {av kv u : Value} (ha : av.oneCell' = true) (hk : kv.oneCell' = true) (h : u ∈ d.cs av kv) : u.oneCell' = true := by
  simp only [Nd.cs, List.mem_cons, List.not_mem_nil, or_false] at h
  rcases h with rfl | rfl | rfl | rfl | rfl | rfl | rfl | rfl | rfl | rfl | rfl <;> first | rfl | exact ha | exact hk
theorem kcells_one : ∀ (l : List Tr) (f k : Nat → Value), (∀ j t, l[j]? = some t → (f j).oneCell' = true ∧ (k j).oneCell' = true) → ∀ u ∈ kcells l f k, u.oneCell' = true
  | [], _, _, _, u, h => by simp [kcells] at h
  | a :: ts, f, k, hh, u, h => by
    rw [kcells, List.mem_append] at h
    rcases h with h | h
    · exact cs_one (hh 0 a rfl).1 (hh 0 a rfl).2 h
    · exact kcells_one ts _ _ (fun j t hj => hh (j + 1) t (by simpa using hj)) u h
theorem TrC.one {w : World} {t : Tr} {av kv : Value} (h : TrC w t av kv) : av.oneCell' = true ∧ kv.oneCell' = true := by
  cases h
  exact ⟨rfl, rfl⟩
theorem slot1 {w : World} (x : Value) (t : Nat) {V : World} (hV : w.alloc (.cells #[x] t) = V) : w.heap.size < V.heap.size ∧ V.cell? ⟨w.heap.size, 0, none⟩ = some x ∧ Below w.heap.size w V := by
  have hVn : V.heap[w.heap.size]? = some (.cells #[x] t (0, 0)) := by rw [← hV]; exact heap_alloc_new _ _
  exact ⟨(Array.getElem?_eq_some_iff.1 hVn).1, by simp [World.cell?, hVn], by rw [← hV]; exact (Below.refl _ _).alloc (Nat.le_refl _) _⟩
theorem cell_frozen {W : World} {b t : Nat} {cur : Array Value} (h : W.heap[b]? = some (.cells cur t (0, 0))) (j : Nat) : W.frozen? ⟨b, j, none⟩ = false := frozen_of_row W b j cur t h
/-- What a round of the copy leaves. -/
structure Cpd (W W' : World) (b off : Nat) (al : List At) (ks : List Tr) (avs kvs : Nat → Value) (v1 : Value) (kp : Option Addr) (kc : Nat) : Prop where
  grow : W.heap.size ≤ W'.heap.size
  os : W'.os = W.os
  tape : W'.tape = W.tape
  output : W'.output = W.output
  hold : ∀ (g : Nat), g < W.heap.size → g ≠ b → W'.heap[g]? = W.heap[g]?
  blk : ∃ cur, W'.heap[b]? = some (.cells cur 27 (0, 0))
  out : ∀ o l, CellsAt W b o l → (o + l.length ≤ off ∨ off + 11 ≤ o) → CellsAt W' b o l
  mine : ∀ d av kv, CellsAt W b off (Nd.cs d av kv) → CellsAt W' b off (d.cs v1 (.slice kp ks.length kc))
  v1 : Rw (fun k => k < W.heap.size) W' 53 2 v1 al.length (al.flatMap At.cells)
  kcap : ks.length ≤ kc ∧ kc ≤ maxLen
  knew : ∀ b, (Value.slice kp ks.length kc).ownBlock = some b → W.heap.size ≤ b ∧ b < W'.heap.size
  kids : ks ≠ [] → ∃ g2, W.heap.size ≤ g2 ∧ kp = some ⟨g2, 0, none⟩ ∧ (∃ cur, W'.heap[g2]? = some (.cells cur 27 (0, 0))) ∧ ∀ (j : Nat) t, ks[j]? = some t → CellsAt W' g2 (j * 11) (t.d.cs (avs j) (kvs j))
theorem Cpd.of {W V1 W1 V2 W3 : World} {b off : Nat} {al : List At} {ks : List Tr} {avs kvs : Nat → Value} {v1 : Value} {kp : Option Addr} {kc : Nat} {x y : Value} {cur : Array Value}
    (hb : W.heap[b]? = some (.cells cur 27 (0, 0))) (hV1 : W.alloc (.cells #[x] 22) = V1) (h1 : Below V1.heap.size V1 W1) (r1 : Rw (fun k => k < V1.heap.size) W1 53 2 v1 al.length (al.flatMap At.cells))
    (hV2 : (W1.setCell ⟨b, off + 5, none⟩ v1).alloc (.cells #[y] 25) = V2) (h2 : Below V2.heap.size V2 W3) (r2 : Rw (fun k => k < V2.heap.size) W3 27 11 (.slice kp ks.length kc) ks.length (kcells ks avs kvs)) : Cpd W (W3.setCell ⟨b, off + 10, none⟩ (.slice kp ks.length kc)) b off al ks avs kvs v1 kp kc := by
  have hbl := (Array.getElem?_eq_some_iff.1 hb).1
  have z1 : W.heap.size + 1 = V1.heap.size := by rw [← hV1]; simp
  have b1 : Below W.heap.size W V1 := by rw [← hV1]; exact (Below.refl _ _).alloc (Nat.le_refl _) _
  have b2 : Below W.heap.size W W1 := b1.trans (h1.mono b1.size)
  have s2 : (W1.setCell ⟨b, off + 5, none⟩ v1).heap.size = W1.heap.size := by simp [World.setCell]
  have z2 : W1.heap.size + 1 = V2.heap.size := by rw [← hV2]; simp
  have b3 : Below (W1.setCell ⟨b, off + 5, none⟩ v1).heap.size (W1.setCell ⟨b, off + 5, none⟩ v1) V2 := by rw [← hV2]; exact (Below.refl _ _).alloc (Nat.le_refl _) _
  have b4 : Below (W1.setCell ⟨b, off + 5, none⟩ v1).heap.size (W1.setCell ⟨b, off + 5, none⟩ v1) W3 := b3.trans (h2.mono (by omega))
  have hl1 := b2.size
  have hl3 := b4.size
  have e1 : W1.heap[b]? = some (.cells cur 27 (0, 0)) := (b2.block b hbl).trans hb
  have e2 := heap_setCell_same W1 b (off + 5) cur 27 v1 e1
  have e3 : W3.heap[b]? = some (.cells (cur.setIfInBounds (off + 5) v1) 27 (0, 0)) := (b4.block b (by omega)).trans e2
  have e4 := heap_setCell_same W3 b (off + 10) _ 27 (.slice kp ks.length kc) e3
  have s4 : (W3.setCell ⟨b, off + 10, none⟩ (.slice kp ks.length kc)).heap.size = W3.heap.size := by simp [World.setCell]
  refine ⟨by omega, ?_, ?_, ?_, fun g hg hne => ?_, ⟨_, e4⟩, fun o l hl ho => ?_, fun d av kv hd => ?_, ?_, ⟨?_, ?_⟩, fun b' hb' => ?_, fun hne => ?_⟩
  · exact (b4.os).trans b2.os
  · exact (b4.tape).trans b2.tape
  · exact (b4.output).trans b2.output
  · rw [Below.heap_setCell W3 _ _ g hne, b4.block g (by omega), Below.heap_setCell W1 _ _ g hne]
    exact b2.block g hg
  · refine CellsAt.set_out ?_ _ (by omega)
    refine CellsAt.mv ?_ (b4.block b (by omega))
    refine CellsAt.set_out ?_ _ (by omega)
    exact hl.mv (b2.block b hbl)
  · have k1 := (hd.mv (b2.block b hbl)).set_in (i := 5) v1 (by simp [Nd.cs])
    have k2 := (k1.mv (b4.block b (by omega))).set_in (i := 10) (.slice kp ks.length kc) (by simp [Nd.cs])
    simpa [Nd.cs] using k2
  · refine (r1.mv (w' := W3.setCell ⟨b, off + 10, none⟩ (.slice kp ks.length kc)) fun g hg => ?_).sub (fun i hi => by omega)
    obtain ⟨q1, cur', q2⟩ := own_blk r1.own hg
    have hgb : g ≠ b := fun e => by rw [e, e1] at q2; simp at q2
    rw [Below.heap_setCell W3 _ _ g hgb, b4.block g (by omega), Below.heap_setCell W1 _ _ g hgb]
  · obtain ⟨ao, cap, e, q1, q2⟩ := r2.slice
    cases e
    exact q1
  · obtain ⟨ao, cap, e, q1, q2⟩ := r2.slice
    cases e
    exact q2
  · have q1 := (own_blk r2.own hb').1
    have q2 := r2.out b' hb'
    omega
  · have hpos : 0 < ks.length := by
      cases ks with
      | nil => exact absurd rfl hne
      | cons _ _ => simp
    obtain ⟨g2, cap, cur2, e, hout, q1, q2, _⟩ := r2.form hpos
    simp only [Value.slice.injEq] at e
    obtain ⟨rfl, _, rfl⟩ := e
    have hgb : g2 ≠ b := fun e => hout (by rw [e]; omega)
    refine ⟨g2, by omega, rfl, ⟨cur2, (Below.heap_setCell W3 _ _ g2 hgb).trans q2⟩, fun j t hj i u hi => ?_⟩
    have := r2.cell (kcells_at ks avs kvs j i t u hj hi)
    rw [← this]
    exact World.cell?_of_block (Below.heap_setCell W3 _ _ g2 hgb)
end Go.Proofs.Ytdpibnmbgjhohaa
