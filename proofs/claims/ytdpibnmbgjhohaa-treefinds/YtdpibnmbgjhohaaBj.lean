/- A copy as a tree; Find. -/
import Derived.Test.YtdpibnmbgjhohaaBi
namespace Go.Proofs.Ytdpibnmbgjhohaa
open Go.RowKit
attribute [local go_sem] Oper.semAt_some
attribute [local go_sem] wide_fn wide_depth round_fn round_depth

theorem Rw.atrow {S : Nat → Prop} {W : World} {a : Option Addr} {k : Nat} {l : List At} (h : Rw S W 53 2 (.slice a l.length k) l.length (l.flatMap At.cells)) : AtRow W a l := fun i x hx => by
  obtain ⟨g, cap, cur, e, _, hg, _⟩ := h.form (by have := (List.getElem?_eq_some_iff.1 hx).1; omega)
  cases e
  have c0 := h.cell (j := i * 2 + 0) (u := .string x.n) (by rw [fl_at At.cells 2 (fun _ => rfl) l i 0 x hx (by omega)]; rfl)
  have c1 := h.cell (j := i * 2 + 1) (u := .string x.v) (by rw [fl_at At.cells 2 (fun _ => rfl) l i 1 x hx (by omega)]; rfl)
  exact ⟨g, 0, rfl, hg, by rw [Nat.zero_add]; exact c0, by rw [Nat.zero_add]; exact c1⟩
theorem St.all_done {w W : World} {N lo m M : Nat} {t0 : Tr} {All : List (En × Nat)} (h : St w N lo m M t0 W [] [] All) {p : En × Nat} (hp : p ∈ All) : p.2 = p.1.ts.length := by
  have h1 := (h.ok p hp).le
  by_cases h2 : p.2 < p.1.ts.length
  · have := h.all p hp h2
    simp at this
  · omega
mutual
theorem St.trc {w W : World} {N lo m M : Nat} {t0 : Tr} {All : List (En × Nat)} (h : St w N lo m M t0 W [] [] All) : ∀ (t : Tr) (p : En × Nat) (j : Nat), p ∈ All → p.1.ts[j]? = some t → TrC W t (p.1.av j) (p.1.kv j)
  | .mk d ks, p, j, hp, hj => by
    have ok := h.ok p hp
    have hlt : j < p.2 := by rw [h.all_done hp]; exact (List.getElem?_eq_some_iff.1 hj).1
    obtain ⟨r1, kp, kc, h2, h3, h4, h5, _⟩ := ok.dn j _ hj hlt
    obtain ⟨a1, k1, hav, _, _⟩ := r1.slice
    rw [hav] at r1
    rw [hav, h2]
    by_cases hne : ks = []
    · subst hne
      exact .mk (kb := 0) (ko := 0) (avs := fun _ => undef) (kvs := fun _ => undef) r1.atrow (fun h => absurd rfl h) (fun j t hj => by simp at hj) (fun j t hj => by simp at hj) ⟨h3, h4⟩
    · obtain ⟨q, hq, e1, _, e3⟩ := h5 hne
      simp only [Tr.k] at e1
      obtain ⟨cur, hcur⟩ := (h.ok q hq).blk
      exact .mk (kb := q.1.g) (ko := 0) (avs := q.1.av) (kvs := q.1.kv) r1.atrow (fun _ => e3) (fun j t hj => ⟨(Array.getElem?_eq_some_iff.1 hcur).1, by rw [Nat.zero_add]; exact (h.ok q hq).cs j t (by rw [e1]; exact hj)⟩)
        (fun j t hj => h.trcl ks q 0 hq (fun i u hi => by rw [e1, Nat.zero_add]; exact hi) j t hj |> fun x => by rw [Nat.zero_add] at x; exact x) ⟨h3, h4⟩
theorem St.trcl {w W : World} {N lo m M : Nat} {t0 : Tr} {All : List (En × Nat)} (h : St w N lo m M t0 W [] [] All) : ∀ (l : List Tr) (p : En × Nat) (j0 : Nat), p ∈ All → (∀ (i : Nat) u, l[i]? = some u → p.1.ts[j0 + i]? = some u) → ∀ (i : Nat) u, l[i]? = some u → TrC W u (p.1.av (j0 + i)) (p.1.kv (j0 + i))
  | [], _, _, _, _, i, u, hi => by simp at hi
  | t :: ts, p, j0, hp, hl, 0, u, hi => by
    simp at hi
    subst hi
    exact h.trc t p j0 hp (hl 0 t rfl)
  | t :: ts, p, j0, hp, hl, i + 1, u, hi => by
    have := h.trcl ts p (j0 + 1) hp (fun i u hi => by have := hl (i + 1) u (by simpa using hi); rwa [show j0 + 1 + i = j0 + (i + 1) by omega]) i u (by simpa using hi)
    rwa [show j0 + 1 + i = j0 + (i + 1) by omega] at this
end
theorem Made.tree {w w' : World} {t : Tr} {av kv : Value} (h : Made w t av kv w') : TrC w' t av kv := by
  obtain ⟨lo, M, All, _, h1, _, e, h2, _, h4, h5, h6⟩ := h
  rw [← h5, ← h6]
  exact h1.trc t (e, 1) 0 h2 (by rw [h4]; rfl)
theorem Made.mv {w W W' : World} {t : Tr} {av kv : Value} (h : Made w t av kv W)
    (hb : ∀ (g : Nat) (cur : Array Value), W.heap[g]? = some (.cells cur 53 (0, 0)) → W'.heap[g]? = W.heap[g]?) (hn : ∀ (g : Nat) (cur : Array Value), W.heap[g]? = some (.cells cur 27 (0, 0)) → w.heap.size ≤ g → W'.heap[g]? = W.heap[g]?) (hs : W.heap.size ≤ W'.heap.size) : Made w t av kv W' := by
  obtain ⟨lo, M, All, h0, h1, hc, e, h2, h3, h4, h5, h6⟩ := h
  obtain ⟨cur, hcur⟩ := (h1.ok _ h2).blk
  simp only [h3] at hcur
  exact ⟨lo, M, All, h0, h1.mv hb (fun g cur hg hge => hn g cur hg (by omega)) hs, hc.mv (hn lo cur hcur h0), e, h2, h3, h4, h5, h6⟩
theorem Made.off {w W W' : World} {t : Tr} {av kv : Value} {B : Nat} (h : Made w t av kv W) (ho : Off 25 B W W') : Made w t av kv W' :=
  h.mv (fun g _ hg => (ho.oth g _ hg rfl).trans hg.symm) (fun g _ hg _ => (ho.oth g _ hg rfl).trans hg.symm) ho.size
mutual
theorem vT_sml : ∀ (t : Tr) (lv : Nat), Sml t → ∀ x ∈ vT t lv, Sml x.1 ∧ cT x.1 ≤ cT t
  | .mk d ks, lv, h, x, hx => by
    rw [vT] at hx
    simp only [List.mem_cons] at hx
    rcases hx with rfl | hx
    · exact ⟨h, Nat.le_refl _⟩
    · cases h with
      | mk ha hn hk =>
        have := vL_sml ks (lv + 1) hk x hx
        exact ⟨this.1, by rw [cT]; omega⟩
theorem vL_sml : ∀ (l : List Tr) (lv : Nat), (∀ t ∈ l, Sml t) → ∀ x ∈ vL l lv, Sml x.1 ∧ cT x.1 ≤ cL l
  | [], _, _, x, hx => by simp [vL] at hx
  | t :: ts, lv, h, x, hx => by
    rw [vL, List.mem_append] at hx
    rw [cL]
    rcases hx with hx | hx
    · have := vT_sml t lv (h t (by simp)) x hx
      exact ⟨this.1, by omega⟩
    · have := vL_sml ts lv (fun u hu => h u (by simp [hu])) x hx
      exact ⟨this.1, by omega⟩
end
mutual
theorem vT_find : ∀ (t : Tr) (lv : Nat) (i : Int), fT t i = ((vT t lv).find? fun x => decide (x.1.d.id = i)).map Prod.fst
  | .mk d ks, lv, i => by
    rw [vT, fT]
    by_cases h : d.id = i
    · simp [h, Tr.d]
    · rw [if_neg h, vL_find ks (lv + 1) i]
      simp [h, Tr.d]
theorem vL_find : ∀ (l : List Tr) (lv : Nat) (i : Int), fL l i = ((vL l lv).find? fun x => decide (x.1.d.id = i)).map Prod.fst
  | [], _, _ => rfl
  | t :: ts, lv, i => by
    rw [vL, fL, vT_find t lv i, vL_find ts lv i, List.find?_append]
    cases (vT t lv).find? _ <;> rfl
end
theorem results27c {fn : Func} {p q : Tmp} (hf : fn.results = #[.cell p 27, .cell q 4]) {tmps : Array Value} {w : World} {y z : Nat} {c0 c1 c2 c3 c4 c5 c6 c7 c8 c9 c10 : Value} {b : Bool} (hp : tmps.getD p undef = .pointer (some ⟨y, 0, none⟩)) (hq : tmps.getD q undef = .pointer (some ⟨z, 0, none⟩)) (h : Bx w y #[c0, c1, c2, c3, c4, c5, c6, c7, c8, c9, c10]) (hz : w.heap[z]? = some (.cells #[.bool b] 4 (0, 0))) : (results fn tmps).run Try.prog w = .ok (.tuple #[.agg #[c0, c1, c2, c3, c4, c5, c6, c7, c8, c9, c10], .bool b]) w := by
  have hp' : tmps[p]?.getD undef = .pointer (some ⟨y, 0, none⟩) := by simpa using hp
  have hq' : tmps[q]?.getD undef = .pointer (some ⟨z, 0, none⟩) := by simpa using hq
  have hl : (loadVar 4 ⟨z, 0, none⟩).run Try.prog w = .ok (.bool b) w := by
    have x0 := (one_cell hz).1
    have u4 := Try.underlying4
    have a4 := Try.isAgg4
    go_simp
  simp [results, hf, hp', hq', asAddr, load27 h, hl]
/-- What the program's Find answers: the node in new memory. -/
def FindC (w : World) (o : Option Tr) (e : Ending) : Prop := match o with
  | some x => ∃ av kv, TrC w x av kv ∧ e = .returned (.tuple #[.agg #[iv x.d.id, iv x.d.kind, iv x.d.space, .string x.d.name, .string x.d.text, av, iv x.d.sf, iv x.d.st, iv x.d.ef, iv x.d.et, kv], .bool true])
  | none => e = .returned (.tuple #[.agg #[iv 0, iv 0, iv 0, .string { data := #[] }, .string { data := #[] }, .slice none 0 0, iv 0, iv 0, iv 0, iv 0, .slice none 0 0], .bool false])
/-- A node and a sign, stored. -/
structure Put2 (W W' : World) (y z : Nat) (a : Array Value) (b : Bool) : Prop where
  node : W'.heap[y]? = some (.cells a 27 (0, 0))
  sign : W'.heap[z]? = some (.cells #[.bool b] 4 (0, 0))
  os : W'.os = W.os
  tape : W'.tape = W.tape
  output : W'.output = W.output
  size : W.heap.size ≤ W'.heap.size
  hold : ∀ g, g < W.heap.size → g ≠ y → g ≠ z → W'.heap[g]? = W.heap[g]?
theorem put2 {W : World} {y z : Nat} {z0 z1 z2 z3 z4 z5 z6 z7 z8 z9 z10 : Value} {b0 : Bool} (h : W.heap[y]? = some (.cells #[z0, z1, z2, z3, z4, z5, z6, z7, z8, z9, z10] 27 (0, 0))) (hz : W.heap[z]? = some (.cells #[.bool b0] 4 (0, 0))) (u0 u1 u2 u3 u4 u5 u6 u7 u8 u9 u10 : Value) (b : Bool) :
    Put2 W ((((((((((((W.setCell ⟨y, 0, none⟩ u0).setCell ⟨y, 1, none⟩ u1).setCell ⟨y, 2, none⟩ u2).setCell ⟨y, 3, none⟩ u3).setCell ⟨y, 4, none⟩ u4).setCell ⟨y, 5, none⟩ u5).setCell ⟨y, 6, none⟩ u6).setCell ⟨y, 7, none⟩ u7).setCell ⟨y, 8, none⟩ u8).setCell ⟨y, 9, none⟩ u9).setCell ⟨y, 10, none⟩ u10).setCell ⟨z, 0, none⟩ (.bool b)) y z #[u0, u1, u2, u3, u4, u5, u6, u7, u8, u9, u10] b := by
  have hne : z ≠ y := fun e => by rw [e, h] at hz; simp at hz
  have sp := sets11 h u0 u1 u2 u3 u4 u5 u6 u7 u8 u9 u10
  revert sp
  generalize (((((((((((W.setCell ⟨y, 0, none⟩ u0).setCell ⟨y, 1, none⟩ u1).setCell ⟨y, 2, none⟩ u2).setCell ⟨y, 3, none⟩ u3).setCell ⟨y, 4, none⟩ u4).setCell ⟨y, 5, none⟩ u5).setCell ⟨y, 6, none⟩ u6).setCell ⟨y, 7, none⟩ u7).setCell ⟨y, 8, none⟩ u8).setCell ⟨y, 9, none⟩ u9).setCell ⟨y, 10, none⟩ u10) = V
  rintro ⟨e1, e2, e3⟩
  have t1 : V.heap[z]? = some (.cells #[.bool b0] 4 (0, 0)) := (e2.block z (Array.getElem?_eq_some_iff.1 hz).1 (fun e => by simp at e; omega)).trans hz
  have g := e2
  have k := grown_set V ⟨z, 0, none⟩ (.bool b)
  refine ⟨(Below.heap_setCell V _ _ _ (fun e => hne e.symm)).trans e1, one_set _ t1, k.os.trans g.os, k.tape.trans g.tape, k.output.trans g.output, Nat.le_trans g.size k.size, fun i hi h1 h2 => ?_⟩
  exact (Below.heap_setCell V _ _ _ h2).trans (g.block i hi (fun e => by simp at e; exact h1 e))
theorem Put2.below {W W' : World} {y z B : Nat} {a : Array Value} {b : Bool} (h : Put2 W W' y z a b) (hy : B ≤ y) (hz : B ≤ z) (hB : B ≤ W.heap.size) : Below B W W' := ⟨h.os, h.tape, h.output, h.size, fun k hk => h.hold k (by omega) (by omega) (by omega)⟩
theorem Put2.kp {W W' : World} {y z : Nat} {a : Array Value} {b b0 : Bool} {c : Array Value} (h : Put2 W W' y z a b) (h1 : W.heap[y]? = some (.cells c 27 (0, 0))) (h2 : W.heap[z]? = some (.cells #[.bool b0] 4 (0, 0))) : Kp 25 W W' := ⟨h.size, fun k o hk ho => by
  refine (h.hold k (Array.getElem?_eq_some_iff.1 hk).1 (fun e => ?_) (fun e => ?_)).trans hk
  · rw [e, h1] at hk; cases hk; simp [Mine] at ho
  · rw [e, h2] at hk; cases hk; simp [Mine] at ho⟩
set_option maxRecDepth 20000 in
set_option maxHeartbeats 4000000 in
theorem find_in (n : Nat) {w : World} {t : Tr} {av kv : Value} (ht : TrC w t av kv) (hs : Sml t) (hn : cT t ≤ 900000) (i : Int) :
    CallsIn Fence.wide n Try.prog 20 #[nv t.d av kv, iv i] w fun e w' => Below w.heap.size w w' ∧ FindC w' (fT t i) e := by
  obtain ⟨d, ks⟩ := t
  have ht' : ∃ s1 s2 : Sl, av = slv s1 ∧ kv = slv s2 := by
    cases ht
    exact ⟨(_, _, _), (_, _, _), rfl, rfl⟩
  obtain ⟨⟨ao, an, ac⟩, ⟨kp, kn, kc⟩, rfl, rfl⟩ := ht'
  simp only [slv] at ht
  simp only [Tr.d, slv]
  refine callsIn_of_wp_marks Try.func20 rfl trivial ?_ rfl
  simp only [Try.ntmps20, List.size_toArray, List.length_cons, List.length_nil, Nat.reduceAdd, Nat.reduceSub, Array.replicate_succ, Array.replicate_zero, List.push_toArray, List.append_toArray, List.nil_append, List.cons_append]
  gi_wp2_with (gi_at_call 32; refine wide_call (nodes_any _ _ _ _) ?_; rintro e w' ⟨rfl, rfl⟩)
  have hq := als_spec w [na d (.slice ao an ac) (.slice kp kn kc), .cells #[iv i] 3, .cells #[iv 0, iv 0, iv 0, .string { data := #[] }, .string { data := #[] }, .slice none 0 0, iv 0, iv 0, iv 0, iv 0, .slice none 0 0] 27, .cells #[.bool false] 4, na d (.slice ao an ac) (.slice kp kn kc), .cells #[.slice (some ⟨w.heap.size + 1 + 1 + 1 + 1, 0, none⟩) 1 1] 25]
  simp only [als, List.length_cons, List.length_nil] at hq
  revert hq
  generalize World.alloc (World.alloc (World.alloc (World.alloc (World.alloc (World.alloc w _) _) _) _) _) _ = w2
  rintro ⟨b2, s2, h2⟩
  have q1 : w2.heap[w.heap.size + 1]? = some (.cells #[iv i] 3 (0, 0)) := h2 1 _ rfl
  have q2 : w2.heap[w.heap.size + 1 + 1]? = some (.cells #[iv 0, iv 0, iv 0, .string { data := #[] }, .string { data := #[] }, .slice none 0 0, iv 0, iv 0, iv 0, iv 0, .slice none 0 0] 27 (0, 0)) := h2 2 _ rfl
  have q3 : w2.heap[w.heap.size + 1 + 1 + 1]? = some (.cells #[.bool false] 4 (0, 0)) := h2 3 _ rfl
  have q4 : w2.heap[w.heap.size + 1 + 1 + 1 + 1]? = some (na d (.slice ao an ac) (.slice kp kn kc)) := h2 4 _ rfl
  have q5 : w2.heap[w.heap.size + 1 + 1 + 1 + 1 + 1]? = some (.cells #[.slice (some ⟨w.heap.size + 1 + 1 + 1 + 1, 0, none⟩) 1 1] 25 (0, 0)) := h2 5 _ rfl
  clear h2
  have hfd := vT_find (.mk d ks) 1 i
  refine walk_law (r := w.heap.size + 1 + 1 + 1 + 1) (bx := w.heap.size + 1 + 1 + 1 + 1 + 1) ht hn b2 (na_cells q4) (by omega) (one_cell q5).1 rfl
    (fun pre W => (Below w.heap.size w W ∧ W.heap[w.heap.size + 1 + 1 + 1 + 1]? = some (na d (.slice ao an ac) (.slice kp kn kc))) ∧ W.heap[w.heap.size + 1]? = some (.cells #[iv i] 3 (0, 0)) ∧ W.heap[w.heap.size + 1 + 1]? = some (.cells #[iv 0, iv 0, iv 0, .string { data := #[] }, .string { data := #[] }, .slice none 0 0, iv 0, iv 0, iv 0, iv 0, .slice none 0 0] 27 (0, 0)) ∧ W.heap[w.heap.size + 1 + 1 + 1]? = some (.cells #[.bool false] 4 (0, 0)) ∧ ∀ x ∈ pre, x.1.d.id ≠ i)
    (fun c W => c = .ret ∧ ∃ (u : Tr) (a1 : Option Addr) (k1 : Nat) (kp1 : Option Addr) (kc1 : Nat) (w0 : World), fT (.mk d ks) i = some u ∧ Below w.heap.size w W ∧ W.heap[w.heap.size + 1 + 1]? = some (na u.d (.slice a1 u.d.al.length k1) (.slice kp1 u.k.length kc1)) ∧ W.heap[w.heap.size + 1 + 1 + 1]? = some (.cells #[.bool true] 4 (0, 0)) ∧ Made w0 u (.slice a1 u.d.al.length k1) (.slice kp1 u.k.length kc1) W)
    ?_ ?_ (fun pre W h => ⟨h.1.1, h.1.2.trans q4.symm⟩) ⟨⟨b2, q4⟩, q1, q2, q3, fun x hx => by simp at hx⟩
    (fun x y => { tmps := #[nv d (.slice ao an ac) (.slice kp kn kc), iv i, ptr w.heap.size, ptr (w.heap.size + 1), ptr (w.heap.size + 1 + 1), ptr (w.heap.size + 1 + 1 + 1), x, nv d (.slice ao an ac) (.slice kp kn kc), .slice (some ⟨w.heap.size + 1 + 1 + 1 + 1, 0, none⟩) 1 1, .func (.func 48) #[] #[ptr (w.heap.size + 1 + 1 + 1 + 1 + 1)], x, y, undef, undef, undef, undef, undef, undef, undef, undef, undef, undef, undef], defers := [] }) ?_ ?_ ?_ ?_
  · rintro pre W1 W2 ⟨⟨h1, h2⟩, h3, h4, h5, h6⟩ ho
    exact ⟨⟨h1.trans (ho.below.mono (by omega)), (ho.low _ (by omega)).trans h2⟩, (ho.low _ (by omega)).trans h3, (ho.low _ (by omega)).trans h4, (ho.low _ (by omega)).trans h5, h6⟩
  · rintro c W1 W2 ⟨hc, u, a1, k1, kp1, kc1, w0, h0, h1, h2, h3, h4⟩ ho
    exact ⟨hc, u, a1, k1, kp1, kc1, w0, h0, h1.trans (ho.below.mono (by omega)), (ho.low _ (by omega)).trans h2, (ho.low _ (by omega)).trans h3, h4.off ho⟩
  · intro l x y W K hK
    simp only [List.setIfInBounds_toArray, List.set_cons_succ, List.set_cons_zero]
    gi_wp2
    exact hK
  · rintro l pre u lv rest b off av' kv' W heq ⟨⟨h1, hr⟩, h2, h3, h4, h5⟩ hc hu
    obtain ⟨hu1, hu2⟩ := vT_sml (.mk d ks) 1 hs (u, lv) (by rw [heq]; simp)
    have c2 := (one_cell h2).1
    have l0 : W.cell? ⟨b, off, none⟩ = some (iv u.d.id) := hc 0 _ rfl
    by_cases hid : u.d.id = i
    · subst hid
      obtain ⟨a1, k1, kp1, kc1, hav, hkv⟩ := hu.v.form
      subst hav hkv
      have l0 : W.cell? ⟨b, off, none⟩ = some (iv u.d.id) := hc 0 _ rfl
      have l1 : W.cell? ⟨b, off + 1, none⟩ = some (iv u.d.kind) := hc 1 _ rfl
      have l2 : W.cell? ⟨b, off + 2, none⟩ = some (iv u.d.space) := hc 2 _ rfl
      have l3 : W.cell? ⟨b, off + 3, none⟩ = some (.string u.d.name) := hc 3 _ rfl
      have l4 : W.cell? ⟨b, off + 4, none⟩ = some (.string u.d.text) := hc 4 _ rfl
      have l5 : W.cell? ⟨b, off + 5, none⟩ = some (.slice a1 u.d.al.length k1) := hc 5 _ rfl
      have l6 : W.cell? ⟨b, off + 6, none⟩ = some (iv u.d.sf) := hc 6 _ rfl
      have l7 : W.cell? ⟨b, off + 7, none⟩ = some (iv u.d.st) := hc 7 _ rfl
      have l8 : W.cell? ⟨b, off + 8, none⟩ = some (iv u.d.ef) := hc 8 _ rfl
      have l9 : W.cell? ⟨b, off + 9, none⟩ = some (iv u.d.et) := hc 9 _ rfl
      have l10 : W.cell? ⟨b, off + 10, none⟩ = some (.slice kp1 u.k.length kc1) := hc 10 _ rfl
      have hcp := CallsIn.inRound l (copied_in (n - 1 - 1 - 1) (w := W.drew) (hu.mv h1.size (fun k hk => h1.block k hk)) hu1 (by simp only [] at hu2; omega))
      clear hc
      gi_wp2_with fail
      gi_region_with fail
      all_goals
        gi_wp2_with fail
        refine hcp.mono ?_
        rintro e W1 ⟨b1, av2, kv2, rfl, hm⟩
        obtain ⟨a2, k2, kp2, kc2, hav, hkv⟩ := hm.tree.v.form
        subst hav hkv
        have hsz : w.heap.size ≤ W.heap.size := h1.size
        have hB2 := (b1.block _ (Array.getElem?_eq_some_iff.1 h3).1).trans h3
        have hB3 := (b1.block _ (Array.getElem?_eq_some_iff.1 h4).1).trans h4
        have hW : Below w.heap.size w W1 := h1.trans ⟨b1.os, b1.tape, b1.output, b1.size, fun k hk => b1.block k (Nat.lt_of_lt_of_le hk hsz)⟩
        have hK1 : Kp 25 W W1 := (Kp.drew W).trans (Kp.old b1)
        have HM : Hid (Made W.drew u (.slice a2 u.d.al.length k2) (.slice kp2 u.k.length kc2) W1) := hm
        have z0 : W1.cell? ⟨w.heap.size + 1 + 1, 0, none⟩ = some (iv 0) := Bx.cell hB2 0
        have y0 : W1.frozen? ⟨w.heap.size + 1 + 1, 0, none⟩ = false := Bx.frozen hB2 _
        have z1 : W1.cell? ⟨w.heap.size + 1 + 1, 1, none⟩ = some (iv 0) := Bx.cell hB2 1
        have y1 : W1.frozen? ⟨w.heap.size + 1 + 1, 1, none⟩ = false := Bx.frozen hB2 _
        have z2 : W1.cell? ⟨w.heap.size + 1 + 1, 2, none⟩ = some (iv 0) := Bx.cell hB2 2
        have y2 : W1.frozen? ⟨w.heap.size + 1 + 1, 2, none⟩ = false := Bx.frozen hB2 _
        have z3 : W1.cell? ⟨w.heap.size + 1 + 1, 3, none⟩ = some (.string { data := #[] }) := Bx.cell hB2 3
        have y3 : W1.frozen? ⟨w.heap.size + 1 + 1, 3, none⟩ = false := Bx.frozen hB2 _
        have z4 : W1.cell? ⟨w.heap.size + 1 + 1, 4, none⟩ = some (.string { data := #[] }) := Bx.cell hB2 4
        have y4 : W1.frozen? ⟨w.heap.size + 1 + 1, 4, none⟩ = false := Bx.frozen hB2 _
        have z5 : W1.cell? ⟨w.heap.size + 1 + 1, 5, none⟩ = some (.slice none 0 0) := Bx.cell hB2 5
        have y5 : W1.frozen? ⟨w.heap.size + 1 + 1, 5, none⟩ = false := Bx.frozen hB2 _
        have z6 : W1.cell? ⟨w.heap.size + 1 + 1, 6, none⟩ = some (iv 0) := Bx.cell hB2 6
        have y6 : W1.frozen? ⟨w.heap.size + 1 + 1, 6, none⟩ = false := Bx.frozen hB2 _
        have z7 : W1.cell? ⟨w.heap.size + 1 + 1, 7, none⟩ = some (iv 0) := Bx.cell hB2 7
        have y7 : W1.frozen? ⟨w.heap.size + 1 + 1, 7, none⟩ = false := Bx.frozen hB2 _
        have z8 : W1.cell? ⟨w.heap.size + 1 + 1, 8, none⟩ = some (iv 0) := Bx.cell hB2 8
        have y8 : W1.frozen? ⟨w.heap.size + 1 + 1, 8, none⟩ = false := Bx.frozen hB2 _
        have z9 : W1.cell? ⟨w.heap.size + 1 + 1, 9, none⟩ = some (iv 0) := Bx.cell hB2 9
        have y9 : W1.frozen? ⟨w.heap.size + 1 + 1, 9, none⟩ = false := Bx.frozen hB2 _
        have z10 : W1.cell? ⟨w.heap.size + 1 + 1, 10, none⟩ = some (.slice none 0 0) := Bx.cell hB2 10
        have y10 : W1.frozen? ⟨w.heap.size + 1 + 1, 10, none⟩ = false := Bx.frozen hB2 _
        have zb := one_cell hB3
        obtain ⟨zb1, zb2⟩ := zb
        clear hcp
        gi_wp2_with fail
        have sp := put2 hB2 hB3 (.int .i64 u.d.id) (.int .i64 u.d.kind) (.int .i64 u.d.space) (.string u.d.name) (.string u.d.text) (.slice a2 u.d.al.length k2) (.int .i64 u.d.sf) (.int .i64 u.d.st) (.int .i64 u.d.ef) (.int .i64 u.d.et) (.slice kp2 u.k.length kc2) true
        revert sp
        generalize World.setCell _ _ _ = W'
        intro sp
        have hfd' : fT (.mk d ks) u.d.id = some u := by
          rw [hfd, heq, List.find?_append, List.find?_eq_none.2 (fun x hx => by simpa using h5 x hx)]
          simp
        refine ⟨hK1.trans (sp.kp hB2 hB3), rfl, u, a2, k2, kp2, kc2, W.drew, hfd', hW.trans (sp.below (by omega) (by omega) (by have := hW.size; omega)), sp.node, sp.sign, HM.out.mv (fun g cur hg => sp.hold g (Array.getElem?_eq_some_iff.1 hg).1 (fun e => ?_) (fun e => ?_)) (fun g cur hg hge => sp.hold g (Array.getElem?_eq_some_iff.1 hg).1 (fun e => ?_) (fun e => ?_)) sp.size⟩
        · rw [e, hB2] at hg; simp at hg
        · rw [e, hB3] at hg; simp at hg
        · have := (Array.getElem?_eq_some_iff.1 h3).1
          rw [e] at hge
          exact absurd this (by show ¬ _ < W.heap.size; have : W.drew.heap.size = W.heap.size := rfl; omega)
        · rw [e, hB3] at hg; simp at hg
    · have g1 : (u.d.id == i) = false := by simpa using hid
      gi_wp2
      gi_region_with fail
      all_goals
        gi_wp2
        exact ⟨Kp.drew W, ⟨h1.drew, hr⟩, h2, h3, h4, fun x hx => by
          rw [List.mem_append, List.mem_singleton] at hx
          rcases hx with hx | rfl
          · exact h5 x hx
          · exact hid⟩
  · rintro D W hD ⟨⟨h1, hr⟩, h2, h3, h4, h5⟩ hd
    obtain ⟨zb1, zb2⟩ := one_cell h4
    have z0 : W.cell? ⟨w.heap.size + 1 + 1, 0, none⟩ = some (iv 0) := Bx.cell h3 0
    have y0 : W.frozen? ⟨w.heap.size + 1 + 1, 0, none⟩ = false := Bx.frozen h3 _
    have z1 : W.cell? ⟨w.heap.size + 1 + 1, 1, none⟩ = some (iv 0) := Bx.cell h3 1
    have y1 : W.frozen? ⟨w.heap.size + 1 + 1, 1, none⟩ = false := Bx.frozen h3 _
    have z2 : W.cell? ⟨w.heap.size + 1 + 1, 2, none⟩ = some (iv 0) := Bx.cell h3 2
    have y2 : W.frozen? ⟨w.heap.size + 1 + 1, 2, none⟩ = false := Bx.frozen h3 _
    have z3 : W.cell? ⟨w.heap.size + 1 + 1, 3, none⟩ = some (.string { data := #[] }) := Bx.cell h3 3
    have y3 : W.frozen? ⟨w.heap.size + 1 + 1, 3, none⟩ = false := Bx.frozen h3 _
    have z4 : W.cell? ⟨w.heap.size + 1 + 1, 4, none⟩ = some (.string { data := #[] }) := Bx.cell h3 4
    have y4 : W.frozen? ⟨w.heap.size + 1 + 1, 4, none⟩ = false := Bx.frozen h3 _
    have z5 : W.cell? ⟨w.heap.size + 1 + 1, 5, none⟩ = some (.slice none 0 0) := Bx.cell h3 5
    have y5 : W.frozen? ⟨w.heap.size + 1 + 1, 5, none⟩ = false := Bx.frozen h3 _
    have z6 : W.cell? ⟨w.heap.size + 1 + 1, 6, none⟩ = some (iv 0) := Bx.cell h3 6
    have y6 : W.frozen? ⟨w.heap.size + 1 + 1, 6, none⟩ = false := Bx.frozen h3 _
    have z7 : W.cell? ⟨w.heap.size + 1 + 1, 7, none⟩ = some (iv 0) := Bx.cell h3 7
    have y7 : W.frozen? ⟨w.heap.size + 1 + 1, 7, none⟩ = false := Bx.frozen h3 _
    have z8 : W.cell? ⟨w.heap.size + 1 + 1, 8, none⟩ = some (iv 0) := Bx.cell h3 8
    have y8 : W.frozen? ⟨w.heap.size + 1 + 1, 8, none⟩ = false := Bx.frozen h3 _
    have z9 : W.cell? ⟨w.heap.size + 1 + 1, 9, none⟩ = some (iv 0) := Bx.cell h3 9
    have y9 : W.frozen? ⟨w.heap.size + 1 + 1, 9, none⟩ = false := Bx.frozen h3 _
    have z10 : W.cell? ⟨w.heap.size + 1 + 1, 10, none⟩ = some (.slice none 0 0) := Bx.cell h3 10
    have y10 : W.frozen? ⟨w.heap.size + 1 + 1, 10, none⟩ = false := Bx.frozen h3 _
    gi_wp2
    have sp := put2 h3 h4 (.int .i64 0) (.int .i64 0) (.int .i64 0) (.string { data := #[] }) (.string { data := #[] }) (.slice none 0 0) (.int .i64 0) (.int .i64 0) (.int .i64 0) (.int .i64 0) (.slice none 0 0) false
    revert sp
    generalize World.setCell _ _ _ = W'
    intro sp
    have hD' : W'.heap[D]? = some (.deferred (some [])) := (sp.hold D (Array.getElem?_eq_some_iff.1 hd).1 (by omega) (by omega)).trans hd
    have hf : Below w.heap.size W' (W'.putObj D (.deferred none)) := (Off.put (q := 25) _ (by omega) hD' rfl).below
    refine ⟨by simp, .inl ⟨_, _, rfl, run_takeDeferred hD', ?_⟩⟩
    refine ⟨_, results27c rfl rfl rfl ((World.putObj_heap_other (by omega)).trans sp.node) ((World.putObj_heap_other (by omega)).trans sp.sign), (h1.trans (sp.below (by omega) (by omega) h1.size)).trans hf, ?_⟩
    have hfd' : fT (.mk d ks) i = none := by
      rw [hfd, List.find?_eq_none.2 (fun x hx => by simpa using h5 x hx)]
      rfl
    rw [hfd']
    rfl
  · rintro D c W hD ⟨rfl, u, a1, k1, kp1, kc1, w0, h0, h1, h2, h3, h4⟩ hd
    gi_wp2
    have ho : Off 25 0 W (W.putObj D (.deferred none)) := Off.put (q := 25) _ (Nat.zero_le _) hd rfl
    have hf : Below w.heap.size W (W.putObj D (.deferred none)) := (Off.put (q := 25) _ (by omega) hd rfl).below
    refine ⟨by simp, .inl ⟨_, _, rfl, run_takeDeferred hd, ?_⟩⟩
    refine ⟨_, results27c rfl rfl rfl ((World.putObj_heap_other (by omega)).trans h2) ((World.putObj_heap_other (by omega)).trans h3), h1.trans hf, ?_⟩
    rw [h0]
    exact ⟨_, _, (h4.off ho).tree, rfl⟩
end Go.Proofs.Ytdpibnmbgjhohaa
