/- What holds of all pairs of two trees. -/
import Derived.Test.YtdpibnmbgjhohaaCa
namespace Go.Proofs.Ytdpibnmbgjhohaa
open Go.RowKit
attribute [local go_sem] Oper.semAt_some
attribute [local go_sem] wide_fn wide_depth round_fn round_depth

mutual
/-- All pairs of nodes at the same places, as far as both have one. -/
def pT : Tr → Tr → List (Tr × Tr)
  | .mk d ks, u => (.mk d ks, u) :: pL ks u.k
def pL : List Tr → List Tr → List (Tr × Tr)
  | x :: xs, y :: ys => pT x y ++ pL xs ys
  | [], _ => []
  | _ :: _, [] => []
end
theorem pT_eq (t u : Tr) : pT t u = (t, u) :: pL t.k u.k := by
  obtain ⟨d, ks⟩ := t
  rw [pT]; rfl
theorem pL_nil (l : List Tr) : pL l [] = [] := by
  cases l <;> rw [pL]
mutual
theorem pT_len : ∀ (t u : Tr), (pT t u).length ≤ cT t
  | .mk d ks, u => by
    have := pL_len ks u.k
    rw [pT, cT, List.length_cons]
    omega
theorem pL_len : ∀ (l m : List Tr), (pL l m).length ≤ cL l
  | [], _ => by rw [pL]; exact Nat.zero_le _
  | x :: xs, [] => by rw [pL]; exact Nat.zero_le _
  | x :: xs, y :: ys => by
    have h1 := pT_len x y
    have h2 := pL_len xs ys
    rw [pL, cL, List.length_append]
    omega
end
def remP : List (List Tr × List Tr) → List (Tr × Tr)
  | [] => []
  | p :: ls => pL p.1 p.2 ++ remP ls
def measP : List (List Tr × List Tr) → Nat
  | [] => 0
  | p :: ls => 1 + 2 * cL p.1 + measP ls
/-- A level's slice. -/
def Lq (w W : World) (s : Sl) (l : List Tr) : Prop :=
  s.2.1 = l.length ∧ s.2.1 ≤ s.2.2 ∧ s.2.2 ≤ maxLen ∧ (0 < s.2.1 → ∃ b off, s.1 = some ⟨b, off, none⟩ ∧ ((∃ cur, W.heap[b]? = some (.cells cur 27 (0, 0))) ∨ b < w.heap.size) ∧ ∀ (j : Nat) u, l[j]? = some u → ∃ av kv, CellsAt W b (off + j * 11) (u.d.cs av kv) ∧ TrC w u av kv)
/-- What a level hangs on stands. -/
structure Hs (w W W' : World) : Prop where
  kind : ∀ (g : Nat) (cur : Array Value), W.heap[g]? = some (.cells cur 27 (0, 0)) → W'.heap[g]? = W.heap[g]?
  low : ∀ g, g < w.heap.size → W'.heap[g]? = W.heap[g]?
theorem Lq.mv {w W W' : World} {s : Sl} {l : List Tr} (h : Lq w W s l) (k : Hs w W W') : Lq w W' s l := by
  obtain ⟨h1, h2, h3, h4⟩ := h
  refine ⟨h1, h2, h3, fun h0 => ?_⟩
  obtain ⟨b, off, e, hb, hj⟩ := h4 h0
  have hbb : W'.heap[b]? = W.heap[b]? := by
    rcases hb with ⟨cur, hc⟩ | hb
    · exact k.kind b cur hc
    · exact k.low b hb
  refine ⟨b, off, e, ?_, fun j u hu => ?_⟩
  · rcases hb with ⟨cur, hc⟩ | hb
    · exact .inl ⟨cur, hbb.trans hc⟩
    · exact .inr hb
  · obtain ⟨av, kv, q1, q2⟩ := hj j u hu
    exact ⟨av, kv, q1.mv hbb, q2⟩
theorem Lq.tail {w W : World} {n c : Nat} {a : Addr} {u : Tr} {l : List Tr} (h : Lq w W (some a, n + 1, c) (u :: l)) : Lq w W (some (nx a c), n, c - 1) l := by
  obtain ⟨h1, h2, h3, h4⟩ := h
  simp only [List.length_cons] at h1 h2 h3 h4
  obtain ⟨b, off, e, hb, hj⟩ := h4 (by omega)
  cases e
  refine ⟨by simp; omega, by simp; omega, by simp; omega, fun h0 => ?_⟩
  simp only [] at h0
  refine ⟨b, off + 11, ?_, hb, fun j u' hu => ?_⟩
  · rw [nx, if_neg (by omega)]
  · obtain ⟨av, kv, q1, q2⟩ := hj (j + 1) u' (by simpa using hu)
    refine ⟨av, kv, ?_, q2⟩
    rw [show off + 11 + j * 11 = off + (j + 1) * 11 by omega]
    exact q1
theorem Lq.kids {w W : World} {t : Tr} {av kv : Value} (h : TrC w t av kv) (b : Below w.heap.size w W) : ∃ s : Sl, kv = slv s ∧ Lq w W s t.k := by
  obtain ⟨s, h1, h2, h3, h4, h5⟩ := h.kids
  refine ⟨s, h1, h2, h3, h4, fun h0 => ?_⟩
  obtain ⟨u0, hu0⟩ : ∃ u0, t.k[0]? = some u0 := ⟨_, List.getElem?_eq_getElem (by omega)⟩
  obtain ⟨g, off, _, _, e, hg, _⟩ := h5 0 u0 hu0
  refine ⟨g, off, e, .inr hg, fun j u hu => ?_⟩
  obtain ⟨g2, off2, av2, kv2, e2, hg2, hc, ht⟩ := h5 j u hu
  rw [e] at e2
  cases e2
  exact ⟨av2, kv2, hc.mv (b.block _ hg), ht⟩
theorem Lq.okS {w W : World} {s : Sl} {l : List Tr} (h : Lq w W s l) : okS s := ⟨h.2.1, h.2.2.1, fun h0 => by obtain ⟨b, off, e, _⟩ := h.2.2.2 h0; exact ⟨b, off, e⟩⟩
inductive Lqs (w W : World) : List Sp → List (List Tr × List Tr) → Prop
  | nil : Lqs w W [] []
  | cons {s : Sp} {l : List Tr × List Tr} {ss : List Sp} {ls : List (List Tr × List Tr)} (h : Lq w W s.1 l.1) (k : Lq w W s.2 l.2) (t : Lqs w W ss ls) : Lqs w W (s :: ss) (l :: ls)
theorem Lqs.mv {w W W' : World} {s : List Sp} {l : List (List Tr × List Tr)} (h : Lqs w W s l) (k : Hs w W W') : Lqs w W' s l := by
  induction h with
  | nil => exact .nil
  | cons h1 h2 _ ih => exact .cons (h1.mv k) (h2.mv k) ih
theorem Lqs.fit {w W : World} {s : List Sp} {l : List (List Tr × List Tr)} (h : Lqs w W s l) : ∀ x ∈ s, Ytdpibnmbgjhohaa.okS x.1 ∧ Ytdpibnmbgjhohaa.okS x.2 := by
  induction h with
  | nil => intro x hx; simp at hx
  | cons h1 h2 _ ih =>
    intro x hx
    simp only [List.mem_cons] at hx
    rcases hx with rfl | hx
    · exact ⟨h1.okS, h2.okS⟩
    · exact ih x hx
def pAll (P : Tr → Tr → Bool) (t u : Tr) : Bool := (pT t u).all fun p => P p.1 p.2
theorem pairs_any (d d' : Nd) (av kv av' kv' : Value) (w : World) : Calls Try.prog 43 #[nv d av kv, nv d' av' kv'] w fun e w' => e = .returned (.func (.func 58) #[] #[ptr w.heap.size, ptr (w.heap.size + 1)]) ∧ w' = (w.alloc (na d av kv)).alloc (na d' av' kv') := by
  go_enter Try.func43, Try.ntmps43
  go_wp2
  go_ret
  exact ⟨rfl, rfl⟩
theorem Off.hs {w W W' : World} {B : Nat} (h : Off 72 B W W') (hB : w.heap.size ≤ B) : Hs w W W' := ⟨fun g _ hg => (h.oth g _ hg rfl).trans hg.symm, fun g hg => h.low g (Nat.lt_of_lt_of_le hg hB)⟩
theorem hs_below {w W W' : World} (h : Below W.heap.size W W') (hw : w.heap.size ≤ W.heap.size) : Hs w W W' := ⟨fun g _ hg => h.block g (Array.getElem?_eq_some_iff.1 hg).1, fun g hg => h.block g (Nat.lt_of_lt_of_le hg hw)⟩
theorem results4 {fn : Func} {q : Tmp} (hf : fn.results = #[.cell q 4]) {tmps : Array Value} {w : World} {z : Nat} {b : Bool} (hq : tmps.getD q undef = .pointer (some ⟨z, 0, none⟩)) (hz : w.heap[z]? = some (.cells #[.bool b] 4 (0, 0))) : (results fn tmps).run Try.prog w = .ok (.bool b) w := by
  have hq' : tmps[q]?.getD undef = .pointer (some ⟨z, 0, none⟩) := by simpa using hq
  have hl : (loadVar 4 ⟨z, 0, none⟩).run Try.prog w = .ok (.bool b) w := by
    have x0 := (one_cell hz).1
    have u4 := Try.underlying4
    have a4 := Try.isAgg4
    go_simp
  simp [results, hf, hq', asAddr, hl]
set_option maxRecDepth 20000 in
set_option maxHeartbeats 4000000 in
theorem everywhere_in (n : Nat) {w : World} {t u : Tr} {av kv av' kv' : Value} (ht : TrC w t av kv) (hu : TrC w u av' kv') (hn : cT t ≤ 900000) (f : Nat) (eg : ∀ args w, (callFunc f args).run Try.prog w = .ok (.enter f args) w) (P : Tr → Tr → Bool)
    (hf : ∀ (W : World) (x y : Tr) (b off b' off' : Nat) (av kv av' kv' : Value), (x, y) ∈ pT t u → CellsAt W b off (x.d.cs av kv) → CellsAt W b' off' (y.d.cs av' kv') → TrC W x av kv → TrC W y av' kv' → Calls Try.prog f #[.pointer (some ⟨b, off, none⟩), .pointer (some ⟨b', off', none⟩)] W fun e W' => e = .returned (.bool (P x y)) ∧ Below W.heap.size W W') :
    CallsIn Fence.wide n Try.prog 26 #[nv t.d av kv, nv u.d av' kv', .func (.func f) #[] #[]] w fun e w' => e = .returned (.bool (pAll P t u)) ∧ Below w.heap.size w w' := by
  obtain ⟨d, ks⟩ := t
  obtain ⟨d', ks'⟩ := u
  have ht' : ∃ s1 s2 : Sl, av = slv s1 ∧ kv = slv s2 := by
    cases ht
    exact ⟨(_, _, _), (_, _, _), rfl, rfl⟩
  obtain ⟨⟨ao, an, ac⟩, ⟨kp, kn, kc⟩, rfl, rfl⟩ := ht'
  have hu' : ∃ s1 s2 : Sl, av' = slv s1 ∧ kv' = slv s2 := by
    cases hu
    exact ⟨(_, _, _), (_, _, _), rfl, rfl⟩
  obtain ⟨⟨ao', an', ac'⟩, ⟨kp', kn', kc'⟩, rfl, rfl⟩ := hu'
  simp only [slv] at ht hu
  simp only [Tr.d, slv]
  refine callsIn_of_wp_marks Try.func26 rfl trivial ?_ rfl
  simp only [Try.ntmps26, List.size_toArray, List.length_cons, List.length_nil, Nat.reduceAdd, Nat.reduceSub, Array.replicate_succ, Array.replicate_zero, List.push_toArray, List.append_toArray, List.nil_append, List.cons_append]
  gi_wp2_with (gi_at_call 43; refine wide_call (pairs_any _ _ _ _ _ _ _) ?_; rintro e w' ⟨rfl, rfl⟩)
  have hq := als_spec w [na d (.slice ao an ac) (.slice kp kn kc), na d' (.slice ao' an' ac') (.slice kp' kn' kc'), .cells #[.func (.func f) #[] #[]] 42, .cells #[.bool false] 4, na d (.slice ao an ac) (.slice kp kn kc), na d' (.slice ao' an' ac') (.slice kp' kn' kc')]
  simp only [als, List.length_cons, List.length_nil] at hq
  revert hq
  generalize World.alloc (World.alloc (World.alloc (World.alloc (World.alloc (World.alloc w _) _) _) _) _) _ = w2
  rintro ⟨b2, s2, h2⟩
  have q2 : w2.heap[w.heap.size + 1 + 1]? = some (.cells #[.func (.func f) #[] #[]] 42 (0, 0)) := h2 2 _ rfl
  have q3 : w2.heap[w.heap.size + 1 + 1 + 1]? = some (.cells #[.bool false] 4 (0, 0)) := h2 3 _ rfl
  have q4 : w2.heap[w.heap.size + 1 + 1 + 1 + 1]? = some (na d (.slice ao an ac) (.slice kp kn kc)) := h2 4 _ rfl
  have q5 : w2.heap[w.heap.size + 1 + 1 + 1 + 1 + 1]? = some (na d' (.slice ao' an' ac') (.slice kp' kn' kc')) := h2 5 _ rfl
  clear h2
  refine range_law (pairs_seq (n - 1) (w.heap.size + 1 + 1 + 1 + 1) (w.heap.size + 1 + 1 + 1 + 1 + 1) w2.heap.size d d' ao kp ao' kp' an ac kn kc an' ac' kn' kc' w2 (by omega) (by omega) (na_cells q4) (na_cells q5)) (Nat.le_refl _) rfl (enters_of Try.func58 (by kernel_rfl) rfl) ?_ ?_
    (fun g s W => ∃ F pre, Lqs w W s F ∧ measP F ≤ g ∧ s.length ≤ pre.length + 1 ∧ pT (.mk d ks) (.mk d' ks') = pre ++ remP F ∧ (∀ p ∈ pre, P p.1 p.2 = true) ∧ Below w.heap.size w W ∧ w2.heap.size ≤ W.heap.size ∧ W.heap[w.heap.size + 1 + 1]? = some (.cells #[.func (.func f) #[] #[]] 42 (0, 0)) ∧ W.heap[w.heap.size + 1 + 1 + 1]? = some (.cells #[.bool false] 4 (0, 0)))
    (fun c W => c = .ret ∧ pAll P (.mk d ks) (.mk d' ks') = false ∧ Below w.heap.size w W ∧ W.heap[w.heap.size + 1 + 1 + 1]? = some (.cells #[.bool false] 4 (0, 0))) (1 + 2 * cT (.mk d ks)) ?_ ?_ ?_ ?_ ?_ ?_
    (fun x => { tmps := #[nv d (.slice ao an ac) (.slice kp kn kc), nv d' (.slice ao' an' ac') (.slice kp' kn' kc'), .func (.func f) #[] #[], ptr (w.heap.size), ptr (w.heap.size + 1), ptr (w.heap.size + 1 + 1), ptr (w.heap.size + 1 + 1 + 1), x.getD 0 undef, x.getD 1 undef, nv d (.slice ao an ac) (.slice kp kn kc), nv d' (.slice ao' an' ac') (.slice kp' kn' kc'), .func (.func 58) #[] #[ptr (w.heap.size + 1 + 1 + 1 + 1), ptr (w.heap.size + 1 + 1 + 1 + 1 + 1)], x.getD 0 undef, x.getD 1 undef, undef, undef, undef, undef, undef], defers := [] }) ?_ ?_ ?_ ?_
  · intro s x hx
    unfold encP at hx
    split at hx
    · cases hx; rfl
    · cases hx
  · rintro s W l o o' s' hl ho ⟨a, n, c, b, m, k, st, ks, ls, rfl, hc, hc', rfl⟩
    have hne : ∀ (g : Addr) v, W.cell? g = some v → (W.putObj l o').cell? g = some v := fun g v hg => by
      rw [← hg]
      refine World.cell?_of_block (World.putObj_heap_other (fun e => ?_))
      obtain ⟨u, h1, h2⟩ := cells_of_cell hg
      rw [e, hl] at h1
      cases h1
      rw [ho] at h2
      cases h2
    exact ⟨a, n, c, b, m, k, st, ks, ls, rfl, hne _ _ hc, hne _ _ hc', rfl⟩
  · rintro g s W1 W2 ⟨F, pre, h1, h2, h3, h4, h5, h6, h7, h8, h9⟩ ho
    exact ⟨F, pre, h1.mv (ho.hs (by omega)), h2, h3, h4, h5, h6.trans (ho.below.mono (by omega)), Nat.le_trans h7 ho.size, (ho.low _ (by omega)).trans h8, (ho.low _ (by omega)).trans h9⟩
  · rintro c W1 W2 ⟨h1, h2, h3, h4⟩ ho
    exact ⟨h1, h2, h3.trans (ho.below.mono (by omega)), (ho.low _ (by omega)).trans h4⟩
  · rintro g s s' W1 hs ⟨F, pre, h1, h2, h3, h4, h5, h6⟩
    cases h1 with
    | nil => cases hs
    | cons hl hr ht =>
      rename_i x l ss ls
      obtain ⟨⟨xa, xn, xc⟩, ⟨ya, yn, yc⟩⟩ := x
      obtain ⟨l1, l2⟩ := l
      have hpl : pL l1 l2 = [] ∧ s' = ss := by
        cases xn with
        | zero =>
          cases hs
          have : l1 = [] := List.eq_nil_of_length_eq_zero hl.1.symm
          subst this
          rw [pL]
          exact ⟨rfl, rfl⟩
        | succ m =>
          cases yn with
          | zero =>
            cases hs
            have : l2 = [] := List.eq_nil_of_length_eq_zero hr.1.symm
            subst this
            exact ⟨pL_nil _, rfl⟩
          | succ m' => cases hs
      obtain ⟨hpl, rfl⟩ := hpl
      refine ⟨ls, pre, ht, ?_, ?_, ?_, h5, h6⟩
      · simp only [measP] at h2; omega
      · simp only [List.length_cons] at h3; omega
      · rw [h4, remP, hpl]; rfl
  · rintro s W ⟨F, pre, h1, h2, _⟩
    cases h1 with
    | nil => rfl
    | cons _ _ _ => simp only [measP] at h2; omega
  · rintro g s W ⟨F, pre, h1, h2, h3, h4, _⟩
    refine ⟨?_, h1.fit⟩
    have := congrArg List.length h4
    have h5 := pT_len (.mk d ks) (.mk d' ks')
    rw [List.length_append] at this
    omega
  · rintro Wc W1 s h1 h2 ⟨rfl, h3, h4⟩
    have ho := h1.trans (h2.mono h1.size)
    refine ⟨[([.mk d ks], [.mk d' ks'])], [], .cons ⟨rfl, Nat.le_refl _, by simp [maxLen], fun _ => ⟨Wc.heap.size, 0, rfl, .inl ⟨_, h3⟩, fun j u hj => ?_⟩⟩ ⟨rfl, Nat.le_refl _, by simp [maxLen], fun _ => ⟨Wc.heap.size + 1, 0, rfl, .inl ⟨_, h4⟩, fun j u hj => ?_⟩⟩ .nil, ?_, Nat.le_refl _, ?_, fun p hp => by simp at hp, b2.trans (ho.below.mono (by omega)), ho.size, (ho.low _ (by omega)).trans q2, (ho.low _ (by omega)).trans q3⟩
    · cases j with
      | zero => simp at hj; subst hj; exact ⟨_, _, by rw [Nat.zero_mul, Nat.add_zero]; exact na_cells h3, ht⟩
      | succ j => simp at hj
    · cases j with
      | zero => simp at hj; subst hj; exact ⟨_, _, by rw [Nat.zero_mul, Nat.add_zero]; exact na_cells h4, hu⟩
      | succ j => simp at hj
    · simp only [measP, cL]; omega
    · simp [remP, pL]
  · intro l s x W K hx hK
    unfold encP at hx
    split at hx
    · cases hx
      rw [fold2]
      simp only [List.setIfInBounds_toArray, List.set_cons_succ, List.set_cons_zero]
      gi_wp2
      exact hK
    · cases hx
  · rintro l g s x W hx ⟨F, pre, h1, h2, h3, h4, h5, h6, h7, h8, h9⟩
    unfold encP at hx
    split at hx
    · rename_i a m c b' m' c' st
      cases hx
      cases h1 with
      | cons hl hr hst =>
        rename_i lp ls
        obtain ⟨l1, l2⟩ := lp
        cases l1 with
        | nil => have := hl.1; simp at this
        | cons x l1 =>
          cases l2 with
          | nil => have := hr.1; simp at this
          | cons y l2 =>
            obtain ⟨g1, off, e1, _, hj1⟩ := hl.2.2.2 (by simp)
            obtain ⟨g2, off', e2, _, hj2⟩ := hr.2.2.2 (by simp)
            cases e1
            cases e2
            obtain ⟨xa, xk, xc, hx⟩ := hj1 0 x rfl
            obtain ⟨ya, yk, yc, hy⟩ := hj2 0 y rfl
            rw [Nat.zero_mul, Nat.add_zero] at xc yc
            have heq : pT (.mk d ks) (.mk d' ks') = pre ++ (x, y) :: (pL x.k y.k ++ pL l1 l2 ++ remP ls) := by
              rw [h4, remP, pL, pT_eq]
              simp
            have hwW : w.heap.size ≤ W.heap.size := h6.size
            have hcf := hf W x y g1 off g2 off' xa xk ya yk (by rw [heq]; simp) xc yc (hx.old h6) (hy.old h6)
            obtain ⟨sx, hsx, hkx⟩ := Lq.kids hx h6
            obtain ⟨sy, hsy, hky⟩ := Lq.kids hy h6
            have c8 := (one_cell h8).1
            have c9 := (one_cell h9).1
            have f9 := (one_cell h9).2
            have hbt : (P x y = true ∨ P x y = false) := by cases P x y <;> simp
            rcases hbt with hP | hP
            · rw [hP] at hcf
              gi_wp2_with fail
              refine round_call hcf ?_
              rintro e W1 ⟨rfl, b1⟩
              gi_wp2
              refine ⟨Kp.old b1, _, ⟨⟨g1, off, none⟩, m, c, ⟨g2, off', none⟩, m', c', st, sx, sy, rfl, ?_, ?_, rfl⟩, (x.k, y.k) :: (l1, l2) :: ls, pre ++ [(x, y)], .cons (hkx.mv (hs_below b1 hwW)) (hky.mv (hs_below b1 hwW)) (.cons (hl.tail.mv (hs_below b1 hwW)) (hr.tail.mv (hs_below b1 hwW)) (hst.mv (hs_below b1 hwW))), ?_, ?_, ?_, fun p hp => ?_, h6.trans (b1.mono hwW), Nat.le_trans h7 b1.size, (b1.block _ (Array.getElem?_eq_some_iff.1 h8).1).trans h8, (b1.block _ (Array.getElem?_eq_some_iff.1 h9).1).trans h9⟩
              · rw [← hsx]
                exact cell_below b1 (xc 10 _ rfl)
              · rw [← hsy]
                exact cell_below b1 (yc 10 _ rfl)
              · obtain ⟨dx, kx⟩ := x
                simp only [measP, cL, cT, Tr.k] at h2 ⊢
                omega
              · simp only [List.length_cons, List.length_append, List.length_nil] at h3 ⊢
                omega
              · rw [heq]
                simp [remP]
              · rw [List.mem_append, List.mem_singleton] at hp
                rcases hp with hp | rfl
                · exact h5 p hp
                · exact hP
            · rw [hP] at hcf
              gi_wp2_with fail
              refine round_call hcf ?_
              rintro e W1 ⟨rfl, b1⟩
              have h9' := (b1.block _ (Array.getElem?_eq_some_iff.1 h9).1).trans h9
              have c9' := (one_cell h9').1
              have f9' := (one_cell h9').2
              gi_wp2
              refine ⟨(Kp.old b1).trans (Kp.set _ h9' (by decide)), rfl, ?_, (h6.trans (b1.mono hwW)).trans ((Below.refl w.heap.size W1).setCell (p := ⟨w.heap.size + 1 + 1 + 1, 0, none⟩) (by simp only []; omega) _), one_set _ h9'⟩
              rw [pAll, List.all_eq_false]
              exact ⟨(x, y), by rw [heq]; simp, by simp [hP]⟩
    · cases hx
  · rintro D g s W hD hs ⟨F, pre, h1, h2, h3, h4, h5, h6, h7, h8, h9⟩ hd
    subst hs
    cases h1
    rw [remP, List.append_nil] at h4
    have hA : pAll P (.mk d ks) (.mk d' ks') = true := by
      rw [pAll, List.all_eq_true, h4]
      exact h5
    have c9 := (one_cell h9).1
    have f9 := (one_cell h9).2
    gi_wp2
    have h9' := one_set (.bool true) h9
    have hb : Below w.heap.size W (W.setCell ⟨w.heap.size + 1 + 1 + 1, 0, none⟩ (.bool true)) := (Below.refl w.heap.size W).setCell (p := ⟨w.heap.size + 1 + 1 + 1, 0, none⟩) (by simp only []; omega) _
    have hd' : (W.setCell ⟨w.heap.size + 1 + 1 + 1, 0, none⟩ (.bool true)).heap[D]? = some (.deferred (some [])) := (Below.heap_setCell W _ _ _ (by simp; omega)).trans hd
    revert h9' hb hd'
    generalize World.setCell _ _ _ = W'
    intro h9' hb hd'
    refine ⟨by simp, .inl ⟨_, _, rfl, run_takeDeferred hd', ?_⟩⟩
    refine ⟨_, results4 rfl rfl ((World.putObj_heap_other (by omega)).trans h9'), by rw [hA], (h6.trans hb).trans (Off.put (q := 25) _ (by omega) hd' rfl).below⟩
  · rintro D c W hD ⟨rfl, h1, h2, h3⟩ hd
    gi_wp2
    refine ⟨by simp, .inl ⟨_, _, rfl, run_takeDeferred hd, ?_⟩⟩
    refine ⟨_, results4 rfl rfl ((World.putObj_heap_other (by omega)).trans h3), by rw [h1], h2.trans (Off.put (q := 25) _ (by omega) hd rfl).below⟩
end Go.Proofs.Ytdpibnmbgjhohaa
