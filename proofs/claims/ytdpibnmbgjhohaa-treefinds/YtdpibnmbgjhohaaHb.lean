/- A copy, stripped in place: a step, the beginning, the end. -/
import Derived.Test.YtdpibnmbgjhohaaHa
namespace Go.Proofs.Ytdpibnmbgjhohaa
open Go.RowKit

theorem Ms.next {N : Nat} {W W' : World} {Es : List En} {c : Nat → Nat} {e : En} {k : Nat} {u : Tr} (hf : Fix N Es) (h : Ms N W Es c) (he : e ∈ Es) (hck : k = c e.g) (hu : e.ts[k]? = some u)
    (hblk : ∃ cur, W'.heap[e.g]? = some (.cells cur 27 (0, 0)))
    (hcs : ∀ o l, CellsAt W e.g o l → (o + l.length ≤ k * 11 ∨ k * 11 + 11 ≤ o) → CellsAt W' e.g o l) (hck' : CellsAt W' e.g (k * 11) ((sD u.d).cs (e.av k) (e.kv k)))
    (hrow : Rw (fun k => k < N) W' 53 2 (e.av k) u.d.al.length ((sortP u.d.al).flatMap At.cells))
    (hold : ∀ g, g < W.heap.size → g ≠ e.g → (∀ b, (e.av k).ownBlock = some b → g ≠ b) → W'.heap[g]? = W.heap[g]?) : Ms N W' Es (upd c e.g (k + 1)) := by
  have ue : upd c e.g (k + 1) e.g = k + 1 := by simp [upd]
  have uo : ∀ i, i ≠ e.g → upd c e.g (k + 1) i = c i := fun i hi => by simp [upd, hi]
  have hkl : k < e.ts.length := (List.getElem?_eq_some_iff.1 hu).1
  have nb : ∀ b, (e.av k).ownBlock = some b → ∃ cur, W.heap[b]? = some (.cells cur 53 (0, 0)) := fun b hb => (own_blk (h.row e he k u hu).own hb).2
  have oth : ∀ e1 ∈ Es, e1.g ≠ e.g → W'.heap[e1.g]? = W.heap[e1.g]? := fun e1 he1 hne => by
    obtain ⟨cur, hc⟩ := h.blk e1 he1
    refine hold _ (Array.getElem?_eq_some_iff.1 hc).1 hne fun b hb e0 => ?_
    obtain ⟨cur2, hc2⟩ := nb b hb
    rw [← e0, hc] at hc2
    simp at hc2
  refine ⟨fun e1 he1 => ?_, fun e1 he1 j t hj => ?_, fun e1 he1 j t hj => ?_⟩
  · by_cases e0 : e1.g = e.g
    · rw [e0]; exact hblk
    · obtain ⟨cur, hc⟩ := h.blk e1 he1
      exact ⟨cur, (oth e1 he1 e0).trans hc⟩
  · by_cases e0 : e1.g = e.g
    · have : e1 = e := hf.gs e1 he1 e he e0
      subst this
      rw [ue]
      by_cases hjk : j = k
      · subst hjk
        rw [hu] at hj
        cases hj
        rw [if_pos (by omega)]
        exact hck'
      · have h1 := h.cs e1 he1 j t hj
        rw [← hck] at h1
        have : (if j < k + 1 then sD t.d else t.d) = (if j < k then sD t.d else t.d) := by
          by_cases h2 : j < k
          · rw [if_pos h2, if_pos (by omega)]
          · rw [if_neg h2, if_neg (by omega)]
        rw [this]
        refine hcs _ _ h1 ?_
        simp only [Nd.cs, List.length_cons, List.length_nil]
        omega
    · rw [uo _ e0]
      exact (h.cs e1 he1 j t hj).mv (oth e1 he1 e0)
  · have hjl : j < e1.ts.length := (List.getElem?_eq_some_iff.1 hj).1
    by_cases hnew : e1 = e ∧ j = k
    · obtain ⟨rfl, rfl⟩ := hnew
      rw [hu] at hj
      cases hj
      rw [ue, if_pos (by omega)]
      exact hrow
    · have h1 := h.row e1 he1 j t hj
      have : (if j < upd c e.g (k + 1) e1.g then sortP t.d.al else t.d.al) = (if j < c e1.g then sortP t.d.al else t.d.al) := by
        by_cases e0 : e1.g = e.g
        · have e2 : e1 = e := hf.gs e1 he1 e he e0
          have hjk : j ≠ k := fun h => hnew ⟨e2, h⟩
          rw [e0, ue, ← hck]
          by_cases h2 : j < k
          · rw [if_pos h2, if_pos (by omega)]
          · rw [if_neg h2, if_neg (by omega)]
        · rw [uo _ e0]
      rw [this]
      refine h1.mv fun g hg => ?_
      obtain ⟨hgl, cur, hc⟩ := own_blk h1.own hg
      refine hold g hgl (fun e0 => ?_) fun b hb e0 => ?_
      · obtain ⟨cur2, hc2⟩ := h.blk e he
        rw [← e0, hc] at hc2
        simp at hc2
      · subst e0
        exact hnew (hf.ap e1 he1 e he j k hjl hkl g hg hb)
mutual
theorem strip_end {N : Nat} {W : World} {Es : List En} {root : En} {c : Nat → Nat} {m M : Nat} (hf : Fix N Es) (hm : Ms N W Es c) (hw : Wk Es root c m M [] []) : ∀ (t : Tr) (e : En) (j : Nat), e ∈ Es → c e.g = e.ts.length → e.ts[j]? = some t → TrC W (sT t) (e.av j) (e.kv j)
  | .mk d ks, e, j, he, hce, hj => by
    have hjl : j < e.ts.length := (List.getElem?_eq_some_iff.1 hj).1
    have hr := hm.row e he j _ hj
    rw [if_pos (by omega)] at hr
    obtain ⟨a1, k1, hav, _, _⟩ := hr.slice
    obtain ⟨kp, kc, hkv, q1, q2, q3⟩ := hf.kd e he j _ hj
    rw [hav] at hr
    rw [hav, hkv, sT]
    simp only [Tr.k, Tr.d] at hr q1 q2 q3 ⊢
    have hlen : (sortP d.al).length = d.al.length := sort_len _
    rw [← hlen, ← sL_len ks]
    rw [← hlen] at hr
    by_cases hne : ks = []
    · subst hne
      exact .mk (kb := 0) (ko := 0) (avs := fun _ => undef) (kvs := fun _ => undef) hr.atrow (fun h => absurd (by rw [sL]) h) (fun j t hj => by simp [sL] at hj) (fun j t hj => by simp [sL] at hj) ⟨by rw [sL]; exact Nat.zero_le _, q2⟩
    · obtain ⟨f, hfE, hft, hfp⟩ := q3 hne
      have hcf : c f.g = f.ts.length := by
        rcases hw.vis e he j _ hj (by omega) hne f hfE (by rw [hkv, hfp]; rfl) with h1 | h1
        · exact h1
        · simp at h1
      obtain ⟨cur, hcur⟩ := hm.blk f hfE
      have hk := strip_endl hf hm hw ks f 0 hfE hcf (fun i u hi => by rw [hft, Nat.zero_add]; exact hi)
      refine .mk (kb := f.g) (ko := 0) (avs := f.av) (kvs := f.kv) hr.atrow (fun _ => hfp) (fun i t hi => ⟨(Array.getElem?_eq_some_iff.1 hcur).1, ?_⟩) (fun i t hi => ?_) ⟨by rw [sL_len]; exact q1, q2⟩
      · rw [sL_at] at hi
        obtain ⟨u, hu, rfl⟩ := Option.map_eq_some_iff.1 hi
        have := hm.cs f hfE i u (by rw [hft]; exact hu)
        rw [if_pos (by rw [hcf, hft]; exact (List.getElem?_eq_some_iff.1 hu).1)] at this
        rw [Nat.zero_add]
        obtain ⟨du, ku⟩ := u
        rw [sT]
        exact this
      · rw [sL_at] at hi
        obtain ⟨u, hu, rfl⟩ := Option.map_eq_some_iff.1 hi
        have := hk i u hu
        rwa [Nat.zero_add] at this
theorem strip_endl {N : Nat} {W : World} {Es : List En} {root : En} {c : Nat → Nat} {m M : Nat} (hf : Fix N Es) (hm : Ms N W Es c) (hw : Wk Es root c m M [] []) : ∀ (l : List Tr) (e : En) (j0 : Nat), e ∈ Es → c e.g = e.ts.length → (∀ (i : Nat) u, l[i]? = some u → e.ts[j0 + i]? = some u) → ∀ (i : Nat) u, l[i]? = some u → TrC W (sT u) (e.av (j0 + i)) (e.kv (j0 + i))
  | [], _, _, _, _, _, i, u, hi => by simp at hi
  | t :: ts, e, j0, he, hce, hl, 0, u, hi => by
    simp at hi
    subst hi
    exact strip_end hf hm hw t e j0 he hce (hl 0 t rfl)
  | t :: ts, e, j0, he, hce, hl, i + 1, u, hi => by
    have := strip_endl hf hm hw ts e (j0 + 1) he hce (fun i u hi => by have := hl (i + 1) u (by simpa using hi); rwa [show j0 + 1 + i = j0 + (i + 1) by omega]) i u (by simpa using hi)
    rwa [show j0 + 1 + i = j0 + (i + 1) by omega] at this
end
/-- The beginning: the copy's blocks, its root in a new one. -/
theorem strip_start {w W V : World} {t : Tr} {av kv : Value} (h : Made w t av kv W) (hb : Below W.heap.size W V) (hr : V.heap[W.heap.size]? = some (na t.d av kv)) :
    ∃ Es, ∃ root : En, root.g = W.heap.size ∧ root.ts = [t] ∧ root.av 0 = av ∧ root.kv 0 = kv ∧ Fix w.heap.size Es ∧ Ms w.heap.size V Es (fun _ => 0) ∧ Wk Es root (fun _ => 0) (1 + 2 * cT t) (1 + cT t) [(some ⟨W.heap.size, 0, none⟩, 1, 1)] [(root, 0)] ∧ ∀ e ∈ Es, ∀ u ∈ e.ts, Sml u := by
  obtain ⟨lo, M0, All, hlo, hS, hc, e0, h0, h1, h2, h3, h4⟩ := h
  obtain ⟨root, hroot⟩ : ∃ e : En, e = ⟨W.heap.size, [t], fun _ => av, fun _ => kv⟩ := ⟨_, rfl⟩
  have rg : root.g = W.heap.size := by rw [hroot]
  have rt : root.ts = [t] := by rw [hroot]
  have ra : ∀ j, root.av j = av := fun j => by rw [hroot]
  have rk : ∀ j, root.kv j = kv := fun j => by rw [hroot]
  have blkW : ∀ p ∈ All, p.1.g < W.heap.size := fun p hp => by
    obtain ⟨cur, hc⟩ := (hS.ok p hp).blk
    exact (Array.getElem?_eq_some_iff.1 hc).1
  have dn : ∀ p ∈ All, ∀ (j : Nat) u, p.1.ts[j]? = some u → Dn w.heap.size lo W All u.d.al u.k (p.1.av j) (p.1.kv j) := fun p hp j u hj => (hS.ok p hp).dn j u hj (by rw [hS.all_done hp]; exact (List.getElem?_eq_some_iff.1 hj).1)
  obtain ⟨Es, hEs⟩ : ∃ Es, Es = root :: (All.map Prod.fst).filter (fun e => decide (e.g ≠ lo)) := ⟨_, rfl⟩
  have mem : ∀ e, e ∈ Es ↔ e = root ∨ ∃ p ∈ All, p.1 = e ∧ e.g ≠ lo := fun e => by
    rw [hEs, List.mem_cons, List.mem_filter, List.mem_map]
    simp only [decide_eq_true_eq]
    constructor
    · rintro (h | ⟨⟨p, hp, rfl⟩, hne⟩)
      · exact .inl h
      · exact .inr ⟨p, hp, rfl, hne⟩
    · rintro (h | ⟨p, hp, rfl, hne⟩)
      · exact .inl h
      · exact .inr ⟨⟨p, hp, rfl⟩, hne⟩
  -- each one stands for an entry of the copy
  have rep : ∀ e ∈ Es, ∃ p ∈ All, e.ts = p.1.ts ∧ (∀ j, j < e.ts.length → e.av j = p.1.av j ∧ e.kv j = p.1.kv j) ∧ (e = root → p = (e0, 1)) ∧ (e ≠ root → p.1 = e ∧ e.g ≠ lo) := fun e he => by
    by_cases hr0 : e = root
    · subst hr0
      refine ⟨(e0, 1), h0, by rw [rt, h2], fun j hj => ?_, fun _ => rfl, fun h => absurd rfl h⟩
      rw [rt] at hj
      simp at hj
      subst hj
      exact ⟨by rw [ra, h3], by rw [rk, h4]⟩
    · rcases (mem e).1 he with h | ⟨p, hp, rfl, hne⟩
      · exact absurd h hr0
      · exact ⟨p, hp, rfl, fun _ _ => ⟨rfl, rfl⟩, fun h => absurd h hr0, fun _ => ⟨rfl, hne⟩⟩
  have same : ∀ e ∈ Es, ∀ f ∈ Es, ∀ p ∈ All, ∀ q ∈ All, (e = root → p = (e0, 1)) → (e ≠ root → p.1 = e ∧ e.g ≠ lo) → (f = root → q = (e0, 1)) → (f ≠ root → q.1 = f ∧ f.g ≠ lo) → p.1.g = q.1.g → e = f := fun e he f hf p hp q hq a1 a2 b1 b2 hg => by
    by_cases er : e = root <;> by_cases fr : f = root
    · rw [er, fr]
    · have := b2 fr
      rw [a1 er] at hg
      simp only [] at hg
      rw [this.1, h1] at hg
      exact absurd hg.symm this.2
    · have := a2 er
      rw [b1 fr] at hg
      simp only [] at hg
      rw [this.1, h1] at hg
      exact absurd hg this.2
    · have h5 := hS.gs p q hp hq hg
      rw [← (a2 er).1, ← (b2 fr).1, h5]
  have kid : ∀ e ∈ Es, ∀ (j : Nat) u, e.ts[j]? = some u → ∃ kp kc, e.kv j = .slice kp u.k.length kc ∧ u.k.length ≤ kc ∧ kc ≤ maxLen ∧ (u.k ≠ [] → ∃ f ∈ Es, f.ts = u.k ∧ kp = some ⟨f.g, 0, none⟩) ∧ ∀ b, (e.kv j).ownBlock = some b → b < W.heap.size := fun e he j u hj => by
    obtain ⟨p, hp, p1, p2, _, _⟩ := rep e he
    have hjl := (List.getElem?_eq_some_iff.1 hj).1
    obtain ⟨_, kp, kc, d1, d2, d3, d4, d5⟩ := dn p hp j u (by rw [← p1]; exact hj)
    rw [(p2 j hjl).2]
    refine ⟨kp, kc, d1, d2, d3, fun hne => ?_, d5⟩
    obtain ⟨q, hq, q1, q2, q3⟩ := d4 hne
    exact ⟨q.1, (mem _).2 (.inr ⟨q, hq, rfl, by omega⟩), q1, q3⟩
  refine ⟨Es, root, rg, rt, ra 0, rk 0, ⟨fun e he f hf hg => ?_, fun e he j u hj => ?_, fun e he f hf i j hi hj b b1 b2 => ?_, fun e he f hf i j hi hj b b1 b2 => ?_, fun e he => ?_⟩, ⟨fun e he => ?_, fun e he j u hj => ?_, fun e he j u hj => ?_⟩, ⟨?_, ?_, ?_, ?_, ?_, ?_, ?_, ?_⟩, fun e he u hu => ?_⟩
  · -- gs
    by_cases er : e = root <;> by_cases fr : f = root
    · rw [er, fr]
    · rcases (mem f).1 hf with h | ⟨q, hq, rfl, _⟩
      · exact absurd h fr
      · have := blkW q hq
        rw [er, rg] at hg
        omega
    · rcases (mem e).1 he with h | ⟨q, hq, rfl, _⟩
      · exact absurd h er
      · have := blkW q hq
        rw [fr, rg] at hg
        omega
    · rcases (mem e).1 he with h | ⟨p, hp, rfl, _⟩
      · exact absurd h er
      · rcases (mem f).1 hf with h | ⟨q, hq, rfl, _⟩
        · exact absurd h fr
        · rw [hS.gs p q hp hq hg]
  · obtain ⟨kp, kc, k1, k2, k3, k4, _⟩ := kid e he j u hj
    exact ⟨kp, kc, k1, k2, k3, k4⟩
  · obtain ⟨p, hp, p1, p2, p3, p4⟩ := rep e he
    obtain ⟨q, hq, q1, q2, q3, q4⟩ := rep f hf
    rw [(p2 i hi).1] at b1
    rw [(q2 j hj).1] at b2
    obtain ⟨g1, g2⟩ := hS.ap p q hp hq i j b (by rw [hS.all_done hp, ← p1]; exact hi) (by rw [hS.all_done hq, ← q1]; exact hj) b1 b2
    exact ⟨same e he f hf p hp q hq p3 p4 q3 q4 g1, g2⟩
  · obtain ⟨p, hp, p1, p2, p3, p4⟩ := rep e he
    obtain ⟨q, hq, q1, q2, q3, q4⟩ := rep f hf
    rw [(p2 i hi).2] at b1
    rw [(q2 j hj).2] at b2
    obtain ⟨g1, g2⟩ := hS.kap p q hp hq i j b (by rw [hS.all_done hp, ← p1]; exact hi) (by rw [hS.all_done hq, ← q1]; exact hj) b1 b2
    exact ⟨same e he f hf p hp q hq p3 p4 q3 q4 g1, g2⟩
  · rcases (mem e).1 he with rfl | ⟨p, hp, rfl, _⟩
    · rw [rg]
      have := blkW (e0, 1) h0
      have := (hS.ok _ h0).ge
      omega
    · have := (hS.ok p hp).ge
      omega
  · rcases (mem e).1 he with rfl | ⟨p, hp, rfl, _⟩
    · rw [rg]; exact ⟨_, hr⟩
    · obtain ⟨cur, hc⟩ := (hS.ok p hp).blk
      exact ⟨cur, (hb.block _ (blkW p hp)).trans hc⟩
  · rw [if_neg (Nat.not_lt_zero _)]
    rcases (mem e).1 he with rfl | ⟨p, hp, rfl, _⟩
    · rw [rt] at hj
      cases j with
      | zero =>
        simp at hj
        subst hj
        rw [rg, ra, rk, Nat.zero_mul]
        exact na_cells hr
      | succ j => simp at hj
    · exact ((hS.ok p hp).cs j u hj).mv (hb.block _ (blkW p hp))
  · rw [if_neg (Nat.not_lt_zero _)]
    obtain ⟨p, hp, p1, p2, _, _⟩ := rep e he
    have hjl := (List.getElem?_eq_some_iff.1 hj).1
    rw [(p2 j hjl).1]
    obtain ⟨r1, _⟩ := dn p hp j u (by rw [← p1]; exact hj)
    exact r1.old hb
  · exact .cons ⟨by simp only [rt]; rfl, Nat.le_refl _, by simp [maxLen], fun _ => by simp [rg]⟩ .nil
  · intro p hp _
    simp only [List.mem_singleton] at hp
    subst hp
    exact ⟨(mem _).2 (.inl rfl), rfl⟩
  · simp
  · intro e he j u hj _ hk f hf hbk
    refine ⟨rfl, fun p hp _ => ?_⟩
    simp only [List.mem_singleton] at hp
    subst hp
    obtain ⟨_, _, _, _, _, _, k5⟩ := kid e he j u hj
    have := k5 _ hbk
    simp only [rg]
    omega
  · intro e he j u hj hc0
    exact absurd hc0 (Nat.not_lt_zero _)
  · exact ⟨(mem _).2 (.inl rfl), .inr (by simp)⟩
  · have hlf : lft (root, 0) = [t] := by rw [lft, rt]; rfl
    simp only [msr, hlf, cL]; omega
  · have hlf : lft (root, 0) = [t] := by rw [lft, rt]; rfl
    simp only [cnt, hlf, cL, List.length_cons, List.length_nil]; omega
  · obtain ⟨p, hp, p1, _, _, _⟩ := rep e he
    exact hS.sml p hp u (by rw [← p1]; exact hu)
end Go.Proofs.Ytdpibnmbgjhohaa
