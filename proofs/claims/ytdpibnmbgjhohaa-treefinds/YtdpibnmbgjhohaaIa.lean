/- A node's kids in the making, as trees; a tree whose memory lies in certain blocks. -/
import Derived.Test.YtdpibnmbgjhohaaAk
import Derived.Test.YtdpibnmbgjhohaaBj
namespace Go.Proofs.Ytdpibnmbgjhohaa
open Go.RowKit

/-- What a world keeps besides its blocks. -/
structure Sm (w w' : World) : Prop where
  os : w'.os = w.os
  tape : w'.tape = w.tape
  output : w'.output = w.output
  size : w.heap.size ≤ w'.heap.size
theorem Sm.refl (w : World) : Sm w w := ⟨rfl, rfl, rfl, Nat.le_refl _⟩
/-- A tree as values that lie in blocks of Q. -/
inductive TQ (Q : Nat → Prop) (w : World) : Tr → Value → Value → Prop
  | mk {d : Nd} {ks : List Tr} {ac kc kb ko : Nat} {ao kp : Option Addr} {avs kvs : Nat → Value} (ha : AtRow w ao d.al) (hqa : d.al ≠ [] → ∀ a, ao = some a → Q a.block) (hp : ks ≠ [] → kp = some ⟨kb, ko, none⟩ ∧ Q kb) (hc : ∀ (j : Nat) t, ks[j]? = some t → kb < w.heap.size ∧ CellsAt w kb (ko + j * 11) (t.d.cs (avs j) (kvs j))) (hk : ∀ (j : Nat) t, ks[j]? = some t → TQ Q w t (avs j) (kvs j)) : TQ Q w (.mk d ks) (.slice ao d.al.length ac) (.slice kp ks.length kc)
theorem TQ.mv {Q : Nat → Prop} {w w' : World} {t : Tr} {av kv : Value} (h : TQ Q w t av kv) (hs : w.heap.size ≤ w'.heap.size) (b : ∀ k, Q k → k < w.heap.size → w'.heap[k]? = w.heap[k]?) : TQ Q w' t av kv := by
  induction h with
  | mk ha hqa hp hc _ ih =>
    refine .mk (fun j x hj => ?_) hqa hp (fun j k hj => ⟨Nat.lt_of_lt_of_le (hc j k hj).1 hs, (hc j k hj).2.mv (b _ (hp (fun e => by rw [e] at hj; simp at hj)).2 (hc j k hj).1)⟩) ih
    obtain ⟨g, off, h1, h2, h3, h4⟩ := ha j x hj
    have e := b g (hqa (fun e => by rw [e] at hj; simp at hj) _ h1) h2
    exact ⟨g, off, h1, Nat.lt_of_lt_of_le h2 hs, by rw [← h3]; simp [World.cell?, e], by rw [← h4]; simp [World.cell?, e]⟩
theorem TQ.old {Q : Nat → Prop} {w w' : World} {t : Tr} {av kv : Value} (h : TQ Q w t av kv) (b : Below w.heap.size w w') : TQ Q w' t av kv :=
  h.mv b.size fun k _ hk => b.block k hk
theorem TQ.sub {Q U : Nat → Prop} {w : World} {t : Tr} {av kv : Value} (h : TQ Q w t av kv) (b : ∀ k, Q k → U k) : TQ U w t av kv := by
  induction h with
  | mk ha hqa hp hc _ ih => exact .mk ha (fun e a ea => b _ (hqa e a ea)) (fun e => ⟨(hp e).1, b _ (hp e).2⟩) hc ih
theorem TQ.trv {Q : Nat → Prop} {w : World} {t : Tr} {av kv : Value} (h : TQ Q w t av kv) : TrV w t av kv := by
  induction h with
  | mk ha _ hp hc _ ih => exact .mk ha (fun e => (hp e).1) hc ih
/-- A kid: its own, its attributes, its kids. -/
abbrev Nk := Nd × Value × Value
def nkc (q : Nk) : List Value := q.1.cs q.2.1 q.2.2
/-- While a node's kids are gathered: all that was there stands but for one cell of block b, which holds the row of kids. -/
structure KT (w1 wr : World) (b : Nat) (cur : Array Value) (M : List Nk) (v : Value) : Prop where
  sm : Sm w1 wr
  oth : ∀ k, k < w1.heap.size → k ≠ b → wr.heap[k]? = w1.heap[k]?
  blk : wr.heap[b]? = some (.cells (cur.setIfInBounds 10 v) 27 (0, 0))
  was : w1.heap[b]? = some (.cells cur 27 (0, 0))
  ho : 10 < cur.size
  row : Rw (fun k => k < w1.heap.size) wr 27 11 v M.length (M.flatMap nkc)
theorem KT.hb {w1 wr : World} {b : Nat} {cur : Array Value} {M : List Nk} {v : Value} (h : KT w1 wr b cur M v) : b < w1.heap.size := (Array.getElem?_eq_some_iff.1 h.was).1
theorem KT.old {w1 wr w' : World} {b : Nat} {cur : Array Value} {M : List Nk} {v : Value} (h : KT w1 wr b cur M v) (k : Below wr.heap.size wr w') : KT w1 w' b cur M v :=
  ⟨⟨k.os.trans h.sm.os, k.tape.trans h.sm.tape, k.output.trans h.sm.output, Nat.le_trans h.sm.size k.size⟩, fun i hi hn => (k.block i (Nat.lt_of_lt_of_le hi h.sm.size)).trans (h.oth i hi hn), (k.block b (Nat.lt_of_lt_of_le h.hb h.sm.size)).trans h.blk, h.was, h.ho, h.row.old k⟩
theorem KT.start {w1 : World} {b : Nat} {cur : Array Value} (h : w1.heap[b]? = some (.cells cur 27 (0, 0))) (hc : cur[10]? = some (.slice none 0 0)) : KT w1 w1 b cur [] (.slice none 0 0) := by
  have ho := (Array.getElem?_eq_some_iff.1 hc).1
  have hs : cur.setIfInBounds 10 (.slice none 0 0) = cur := by
    apply Array.ext_getElem?
    intro i
    rw [Array.getElem?_setIfInBounds]
    by_cases e : 10 = i
    · subst e
      simp [ho]
      exact (Array.getElem?_eq_some_iff.1 hc).2.symm
    · simp [e]
  exact ⟨Sm.refl _, fun _ _ _ => rfl, by rw [hs]; exact h, h, ho, Rw.nil _ _ _ _⟩
theorem KT.cell {w1 wr : World} {b : Nat} {cur : Array Value} {M : List Nk} {v : Value} (h : KT w1 wr b cur M v) : wr.cell? ⟨b, 10, none⟩ = some v := by
  have := h.ho
  simp [World.cell?, h.blk, this]
theorem KT.cells {w1 wr : World} {b : Nat} {cur : Array Value} {M : List Nk} {v : Value} (h : KT w1 wr b cur M v) (j : Nat) (hj : j ≠ 10) : wr.cell? ⟨b, j, none⟩ = cur[j]? := by
  have e : ¬ 10 = j := fun e => hj e.symm
  simp [World.cell?, h.blk, e]
theorem KT.below {B : Nat} {w0 w1 wr : World} {b : Nat} {cur : Array Value} {M : List Nk} {v : Value} (h : KT w1 wr b cur M v) (k : Below B w0 w1) (hB : B ≤ b) (hs : B ≤ w0.heap.size) : Below B w0 wr :=
  k.trans ⟨h.sm.os, h.sm.tape, h.sm.output, h.sm.size, fun i hi => h.oth i (by have := k.size; omega) (by omega)⟩
theorem KT.app {w1 wr : World} {b : Nat} {cur : Array Value} {M : List Nk} {v : Value} (h : KT w1 wr b cur M v) {n : Nat} (hn : M.length = n) (hP : n ≤ 1000000000) (q : Nk) (arr : Array Value) (harr : arr.toList = nkc q) (h1c : ∀ u ∈ nkc q, u.oneCell' = true) :
    ∃ g c W, (Builtin.append_ #[25, 25] 25 #[v, .slice (some ⟨wr.heap.size, 0, none⟩) 1 1]).run Try.prog (wr.alloc (.cells arr 27)) = .ok (.slice (some ⟨g, 0, none⟩) (n + 1) c) W ∧ W.cell? ⟨b, 10, none⟩ = some v ∧ W.frozen? ⟨b, 10, none⟩ = false ∧
      KT w1 (W.setCell ⟨b, 10, none⟩ (.slice (some ⟨g, 0, none⟩) (n + 1) c)) b cur (M ++ [q]) (.slice (some ⟨g, 0, none⟩) (n + 1) c) ∧ (some g = v.ownBlock ∨ wr.heap.size < g) ∧
      (∀ k, k < wr.heap.size → k ≠ b → some k ≠ v.ownBlock → (W.setCell ⟨b, 10, none⟩ (.slice (some ⟨g, 0, none⟩) (n + 1) c)).heap[k]? = wr.heap[k]?) ∧ wr.heap.size ≤ (W.setCell ⟨b, 10, none⟩ (.slice (some ⟨g, 0, none⟩) (n + 1) c)).heap.size := by
  have b1 : Below wr.heap.size wr (wr.alloc (.cells arr 27)) := (Below.refl _ _).alloc (Nat.le_refl _) _
  have h' := h.old b1
  have hlow : ∀ k, k < w1.heap.size → k < (wr.alloc (.cells arr 27)).heap.size := fun k hk => Nat.lt_of_lt_of_le hk h'.sm.size
  obtain ⟨v', W, h1, h2, h3, h4⟩ := Rw.app (t := 25) (e := 27) (S := fun k => k < w1.heap.size) Try.underlying25 info27 rfl (by decide) (by decide) h'.row hlow wr.heap.size 0 1 1 (nkc q) rfl
    (fun j u hj => by rw [Nat.zero_add, World.cell?_alloc_at _ _ _ _ rfl, ← hj, ← harr]; simp) h1c (by omega)
  obtain ⟨g, c, cg, rfl, hgS, _, hgb, _⟩ := h2.form (by omega)
  rw [hn] at h1 h2
  have hv : ∀ k, k < w1.heap.size → some k ≠ v.ownBlock := fun k hk e => h'.row.out k e.symm hk
  have hold : ∀ k, k < w1.heap.size → W.heap[k]? = (wr.alloc (.cells arr 27)).heap[k]? := fun k hk => h3.block k (hlow k hk) (hv k hk)
  have hbg : b ≠ g := fun e => hgS (e ▸ h.hb)
  have hbW : W.heap[b]? = some (.cells (cur.setIfInBounds 10 v) 27 (0, 0)) := (hold b h.hb).trans h'.blk
  have hset : (cur.setIfInBounds 10 v).setIfInBounds 10 (.slice (some ⟨g, 0, none⟩) (n + 1) c) = cur.setIfInBounds 10 (.slice (some ⟨g, 0, none⟩) (n + 1) c) := by simp
  have hsz : (wr.alloc (.cells arr 27)).heap.size = wr.heap.size + 1 := by simp
  have hnl : (M ++ [q]).length = n + 1 := by rw [List.length_append, hn]; rfl
  have hnd : (M ++ [q]).flatMap nkc = M.flatMap nkc ++ nkc q := by rw [List.flatMap_append]; simp
  have hge : some g = v.ownBlock ∨ wr.heap.size < g := by
    rcases h4 with q | q
    · exact .inl q
    · simp [Value.ownBlock] at q
      rw [q]
      exact .inr (Nat.lt_succ_self _)
  refine ⟨g, c, W, h1, ?_, frozen_of_row W b 10 _ 27 hbW, ⟨⟨?_, ?_, ?_, ?_⟩, fun k hk hkb => ?_, ?_, h.was, h.ho, ?_⟩, hge, fun k hk hkb hkv => ?_, ?_⟩
  · have := h.ho
    simp [World.cell?, hbW, this]
  · exact h3.os.trans h'.sm.os
  · exact h3.tape.trans h'.sm.tape
  · exact h3.output.trans h'.sm.output
  · have := h3.size
    have := h'.sm.size
    simp
    simp at *
    omega
  · exact (heap_setCell_other W ⟨b, 10, none⟩ k _ hkb).trans ((hold k hk).trans (h'.oth k hk hkb))
  · rw [← hset]
    exact heap_setCell_same W b 10 _ 27 _ hbW
  · rw [hnl, hnd]
    exact h2.mv fun k hk => by
      simp [Value.ownBlock] at hk
      subst hk
      exact heap_setCell_other W ⟨b, 10, none⟩ g _ (fun e => hbg e.symm)
  · exact (heap_setCell_other W ⟨b, 10, none⟩ k _ hkb).trans ((h3.block k (by omega) hkv).trans (b1.block k hk))
  · have := h3.size
    simp
    simp at *
    omega
/-- The kids gathered so far lie there as trees. -/
def KL (w1 wr : World) (b : Nat) (cur : Array Value) (l : List Tr) (j : Nat) (v : Value) : Prop :=
  ∃ M : List Nk, M.length = j ∧ KT w1 wr b cur M v ∧ ∀ t k, t < j → l[t]? = some k → ∃ av kv, M[t]? = some (k.d, av, kv) ∧ TQ (fun k => w1.heap.size ≤ k ∧ k < wr.heap.size ∧ some k ≠ v.ownBlock) wr k av kv
theorem KL.old {w1 wr w' : World} {b : Nat} {cur : Array Value} {l : List Tr} {j : Nat} {v : Value} (h : KL w1 wr b cur l j v) (k : Below wr.heap.size wr w') : KL w1 w' b cur l j v := by
  obtain ⟨M, h1, h2, h3⟩ := h
  refine ⟨M, h1, h2.old k, fun t i ht hi => ?_⟩
  obtain ⟨av, kv, q1, q2⟩ := h3 t i ht hi
  exact ⟨av, kv, q1, (q2.old k).sub fun i hi => ⟨hi.1, Nat.lt_of_lt_of_le hi.2.1 k.size, hi.2.2⟩⟩
theorem KL.start {w1 : World} {b : Nat} {cur : Array Value} {l : List Tr} (h : w1.heap[b]? = some (.cells cur 27 (0, 0))) (hc : cur[10]? = some (.slice none 0 0)) : KL w1 w1 b cur l 0 (.slice none 0 0) :=
  ⟨[], rfl, KT.start h hc, fun _ _ h => absurd h (Nat.not_lt_zero _)⟩
theorem KL.next {w1 wr : World} {b : Nat} {cur : Array Value} {l : List Tr} {j : Nat} {v : Value} (h : KL w1 wr b cur l j v) (hj : j ≤ 1000000000) {k0 : Tr} (hk : l[j]? = some k0) {w2 : World} (b2 : Below wr.heap.size wr w2) {ao kp : Option Addr} {al ac kl kc : Nat}
    (ht : TQ (fun k => wr.heap.size ≤ k ∧ k < w2.heap.size) w2 k0 (.slice ao al ac) (.slice kp kl kc)) (arr : Array Value) (harr : arr.toList = k0.d.cs (.slice ao al ac) (.slice kp kl kc)) :
    ∃ g c W, (Builtin.append_ #[25, 25] 25 #[v, .slice (some ⟨w2.heap.size, 0, none⟩) 1 1]).run Try.prog (w2.alloc (.cells arr 27)) = .ok (.slice (some ⟨g, 0, none⟩) (j + 1) c) W ∧ W.cell? ⟨b, 10, none⟩ = some v ∧ W.frozen? ⟨b, 10, none⟩ = false ∧
      Hid (KL w1 (W.setCell ⟨b, 10, none⟩ (.slice (some ⟨g, 0, none⟩) (j + 1) c)) b cur l (j + 1) (.slice (some ⟨g, 0, none⟩) (j + 1) c)) := by
  have h' := h.old b2
  obtain ⟨M, m1, m2, m3⟩ := h'
  obtain ⟨_, _, n2, _⟩ := h
  obtain ⟨g, c, W, a1, a2, a3, a4, a5, a6, a7⟩ := m2.app m1 hj (k0.d, .slice ao al ac, .slice kp kl kc) arr harr (by
    intro u hu
    simp only [nkc, Nd.cs, List.mem_cons, List.not_mem_nil, or_false] at hu
    rcases hu with rfl | rfl | rfl | rfl | rfl | rfl | rfl | rfl | rfl | rfl | rfl <;> rfl)
  have hvb : ∀ k, some k = v.ownBlock → k < wr.heap.size := fun k hk => (own_blk n2.row.own hk.symm).1
  have hbl : b < w1.heap.size := m2.hb
  refine ⟨g, c, W, a1, a2, a3, M ++ [(k0.d, .slice ao al ac, .slice kp kl kc)], by rw [List.length_append, m1]; rfl, a4, fun t k ht' hk' => ?_⟩
  by_cases e : t = j
  · subst e
    rw [hk] at hk'
    simp at hk'
    subst hk'
    refine ⟨.slice ao al ac, .slice kp kl kc, by rw [List.getElem?_append_right (by omega), m1]; simp, ?_⟩
    refine (ht.mv a7 fun k hk hl => a6 k hl (fun e => ?_) (fun e => ?_)).sub fun k hk => ⟨Nat.le_trans n2.sm.size hk.1, Nat.lt_of_lt_of_le hk.2 a7, fun e => ?_⟩
    · have := n2.sm.size
      have := hk.1
      omega
    · have := hvb k e
      have := hk.1
      omega
    · simp [Value.ownBlock] at e
      subst e
      rcases a5 with q | q
      · have := hvb _ q
        have := hk.1
        omega
      · have := hk.2
        omega
  · obtain ⟨av, kv, q1, q2⟩ := m3 t k (by omega) hk'
    refine ⟨av, kv, by rw [List.getElem?_append_left (by rw [m1]; omega)]; exact q1, ?_⟩
    refine (q2.mv a7 fun i hi hl => a6 i hl (fun e => ?_) hi.2.2).sub fun i hi => ⟨hi.1, Nat.lt_of_lt_of_le hi.2.1 a7, fun e => ?_⟩
    · have := hi.1
      omega
    · simp [Value.ownBlock] at e
      subst e
      rcases a5 with q | q
      · exact hi.2.2 q
      · have := hi.2.1
        omega
/-- All kids are gathered. -/
theorem KL.done {w3 wr W' : World} {b j kc ac : Nat} {cur : Array Value} {d : Nd} {ks : List Tr} {kp ao : Option Addr} (h : KL w3 wr b cur ks j (.slice kp j kc)) (hj : ks.length = j) (hs : wr.heap.size ≤ W'.heap.size) (x : Nat) (hx : x < w3.heap.size) (hW : ∀ k, k ≠ x → W'.heap[k]? = wr.heap[k]?) (B : Nat) (hB : B ≤ w3.heap.size)
    (ha : AtRow W' ao d.al) (hqa : d.al ≠ [] → ∀ a, ao = some a → B ≤ a.block ∧ a.block < W'.heap.size) : TQ (fun k => B ≤ k ∧ k < W'.heap.size) W' (.mk d ks) (.slice ao d.al.length ac) (.slice kp ks.length kc) := by
  obtain ⟨M, m1, m2, m3⟩ := h
  by_cases hK : ks = []
  · exact .mk (kb := 0) (ko := 0) (avs := fun _ => iv 0) (kvs := fun _ => iv 0) ha hqa (fun e => absurd hK e) (fun j k e => by rw [hK] at e; simp at e) (fun j k e => by rw [hK] at e; simp at e)
  · have hj0 : 0 < j := by rw [← hj]; exact List.length_pos_iff.2 hK
    have hr := m2.row
    rw [m1] at hr
    obtain ⟨kb, kc', _, he, hkS, hkl, _⟩ := hr.form hj0
    simp only [Value.slice.injEq, true_and] at he
    obtain ⟨rfl, rfl⟩ := he
    have hkx : ∀ k, w3.heap.size ≤ k → k ≠ x := fun k hk e => by omega
    refine .mk (kb := kb) (ko := 0) (avs := fun t => (M[t]?.map fun q => q.2.1).getD (iv 0)) (kvs := fun t => (M[t]?.map fun q => q.2.2).getD (iv 0)) ha hqa (fun _ => ⟨rfl, by have := Nat.le_of_not_lt hkS; omega, by omega⟩) (fun t k ht => ?_) (fun t k ht => ?_)
    · obtain ⟨av, kv, q1, _⟩ := m3 t k (by rw [← hj]; exact (List.getElem?_eq_some_iff.1 ht).1) ht
      refine ⟨by omega, fun u x' hu => ?_⟩
      have hu11 : u < 11 := (List.getElem?_eq_some_iff.1 hu).1
      rw [q1] at hu
      have hc := hr.cell ((fl_at nkc 11 (fun _ => rfl) M t u _ q1 hu11).trans hu)
      rw [Nat.zero_add, ← hc]
      simp [World.cell?, hW kb (hkx kb (Nat.le_of_not_lt hkS))]
    · obtain ⟨av, kv, q1, q2⟩ := m3 t k (by rw [← hj]; exact (List.getElem?_eq_some_iff.1 ht).1) ht
      rw [q1]
      exact (q2.mv hs fun k hk _ => hW k (hkx k hk.1)).sub fun k hk => ⟨Nat.le_trans hB hk.1, Nat.lt_of_lt_of_le hk.2.1 hs⟩
end Go.Proofs.Ytdpibnmbgjhohaa
