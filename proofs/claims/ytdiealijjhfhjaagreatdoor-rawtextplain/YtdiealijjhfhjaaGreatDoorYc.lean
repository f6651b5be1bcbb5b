/- The law's feed: characters fed one after the other, the tokens gathered. -/
import Derived.Test.YtdiealijjhfhjaaGreatDoorYb
import Derived.Test.YtdiealijjhfhjaaGreatDoorZj
namespace Go.Proofs.YtdiealijjhfhjaaGreatDoor
open Go.RowKit
def lastStart (L : List Pt) : Option ByteArray := match L.getLast? with
  | some t => if t.k = 2 then some t.nm else none
  | none => none
def Mc.auto (b : Bool) (L : List Pt) (m : Mc) : Mc := if b = true then (match lastStart L with | some nm => m.set (G7.textK nm) | none => m) else m
def fdStep (b : Bool) (p : List Pt × Mc) (c : Ch) : List Pt × Mc := (p.1 ++ (p.2.feed c).1, Mc.auto b (p.2.feed c).1 (p.2.feed c).2)
def Mc.feeds (b : Bool) (l : List Ch) (m : Mc) : List Pt × Mc := l.foldl (fdStep b) ([], m)
theorem auto_good {n : Nat} {m : Mc} (b : Bool) (L : List Pt) (h : Good n m) : Good n (Mc.auto b L m) := by
  unfold Mc.auto
  split
  · split
    · exact set_good h _
    · exact h
  · exact h
theorem feed_len {n : Nat} {m : Mc} (h : Good n m) (c : Ch) (hn : n < 20000) : (m.feed c).1.length ≤ 300000 := by
  have h1 := (step_good h c).w.mu
  have : (m.step c).out.length ≤ (m.step c).mu := by unfold Mc.mu; omega
  show (m.step c).out.length ≤ _
  omega
theorem feeds_snoc (b : Bool) (l : List Ch) (c : Ch) (m : Mc) : Mc.feeds b (l ++ [c]) m = fdStep b (Mc.feeds b l m) c := by simp [Mc.feeds, List.foldl_append]
theorem feedsF_good (b : Bool) : ∀ (l : List Ch) (n : Nat) (p : List Pt × Mc), Good n p.2 → Good (n + l.length) (l.foldl (fdStep b) p).2
  | [], n, p, h => h
  | c :: l, n, p, h => by
    have := feedsF_good b l (n + 1) (fdStep b p c) (auto_good b (p.2.feed c).1 (feed_good h c))
    rw [List.length_cons, show n + (l.length + 1) = n + 1 + l.length by omega]
    exact this
theorem feeds_good {n : Nat} {m : Mc} (b : Bool) (h : Good n m) (l : List Ch) : Good (n + l.length) (Mc.feeds b l m).2 := feedsF_good b l n ([], m) h
end Go.Proofs.YtdiealijjhfhjaaGreatDoor
namespace Go.Proofs.YtdiealijjhfhjaaGreatDoor
open Go.RowKit Go.Maps Go.WideElems
theorem set_ne_map {w : World} {b k n : Nat} {f : Value → Prop} {g : UInt8 → Option Nat} (h : SetIs 9 w b k f) (s : ByteArray) (hs : f (.string s)) (hk : s.size ≤ maxLen) (h2 : G6.MapIs w b n g) : False := by
  obtain ⟨D, ⟨es, clock, hb, hf, _, hD⟩, hh⟩ := h
  obtain ⟨D2, ⟨es2, clock2, hb2, hf2, _, _⟩, _⟩ := h2
  rw [hb] at hb2
  simp at hb2
  obtain ⟨rfl, rfl⟩ := hb2
  cases he : es.toList with
  | nil =>
    have h1 := (hh (.string s) _ (WideMaps.keyOf_string_mk Tryz.underlying9 hk)).2 hs
    rw [hD, he] at h1
    simp [has] at h1
  | cons x l =>
    obtain ⟨y, hy⟩ := hf.reads x (by rw [he]; simp)
    obtain ⟨z, hz⟩ := hf2.reads x (by rw [he]; simp)
    obtain ⟨p1, q1, _⟩ := rd_val hy
    obtain ⟨p2, q2, _⟩ := rd_val hz
    have e1 := (unitElem_inv q1).1
    rw [e1] at q2
    simp [G6.pElem] at q2
def Foot (x : Nat) (m : Mc) (v : Vs) (T : List TL) (k : Nat) : Prop := k = x ∨ (∃ (i : Nat) (r : Rw), (m.rows v T)[i]? = some r ∧ r.v.ownBlock = some k) ∨ v.m = .map (some k)
theorem foot_out {Z : Nat → Prop} {S : Nat → Prop} {x : Nat} {m : Mc} {v : Vs} {T : List TL} {w : World} (h : MachV Z S x m v T w) {k : Nat} (hk : Foot x m v T k) : ¬ S k ∧ k < w.heap.size := by
  rcases hk with rfl | ⟨i, r, hr, hg⟩ | hm
  · exact ⟨h.hx, h.lt⟩
  · exact ⟨h.bag.out i r hr k hg, (own_blk (h.bag.own i r hr) hg).1⟩
  · have hn := h.names
    rw [hm] at hn
    refine ⟨?_, hn.lt⟩
    rcases hn.2 with ⟨_, e⟩ | ⟨_, b, e, hb, _⟩
    · cases e
    · cases e
      exact hb
def NoTr (a : World) (k : Nat) : Prop := (∀ o v, ¬ G6.NodeIs a k o v) ∧ ∀ n g, ¬ G6.MapIs a k n g
theorem foot_no {Z : Nat → Prop} {S : Nat → Prop} {x : Nat} {m : Mc} {v : Vs} {T : List TL} {a : World} (h : MachV Z S x m v T a) {d : Nat} (hf : Foot x m v T d) : NoTr a d := by
  have rows : ∀ (i : Nat) (r : Rw), (m.rows v T)[i]? = some r → r.e ≠ 189 ∧ r.e ≠ 191 := fun i r hr => by
    have := List.mem_of_getElem? hr
    simp only [Mc.rows, List.mem_cons, List.not_mem_nil, or_false] at this
    rcases this with rfl | rfl | rfl | rfl | rfl | rfl | rfl | rfl | rfl <;> simp
  refine ⟨fun o u nd => ?_, fun n g md => ?_⟩
  · rcases hf with rfl | ⟨i, r, hr, hg⟩ | hm
    · rcases nd.tg _ _ _ h.blk with e | e <;> exact absurd e (by decide)
    · obtain ⟨_, cur, z, hc⟩ := own_blk (h.bag.own i r hr) hg
      have := rows i r hr
      rcases nd.tg _ _ _ hc with e | e
      · exact this.1 e
      · exact this.2 e
    · have hq := h.names
      rw [hm] at hq
      rcases hq.2 with ⟨_, e⟩ | ⟨_, b', e, _, D, ⟨es, clock, hb, _⟩, _⟩
      · cases e
      · cases e
        have := nd.c0
        simp [World.cell?, hb] at this
  · rcases hf with rfl | ⟨i, r, hr, hg⟩ | hm
    · obtain ⟨D, ⟨es, clock, hb, _⟩, _⟩ := md
      rw [h.blk] at hb
      cases hb
    · obtain ⟨_, cur, z, hc⟩ := own_blk (h.bag.own i r hr) hg
      obtain ⟨D, ⟨es, clock, hb, _⟩, _⟩ := md
      rw [hc] at hb
      cases hb
    · have hq := h.names
      rw [hm] at hq
      obtain ⟨h0, hq⟩ := hq
      rcases hq with ⟨_, e⟩ | ⟨h8, b', e, _, hset⟩
      · cases e
      · cases e
        cases hA : m.attrs with
        | nil => rw [hA] at h8; simp at h8
        | cons y l =>
          have hy := h0 y (by rw [hA]; simp)
          exact set_ne_map hset y.n ⟨y, by rw [hA]; simp, rfl⟩ (by unfold maxLen; omega) md
theorem trie_off {a b : World} (hab : ∀ k, k < a.heap.size → ¬ NoTr a k → b.heap[k]? = a.heap[k]?) {t : Nat} (Tr : G6.TrieIs a 0 t G6.refs) : G6.TrieIs b 0 t G6.refs := by
  obtain ⟨N, M, k, Tr, h2⟩ := Tr
  have hn : ∀ p d, N p = some d → b.heap[d]? = a.heap[d]? := fun p d hp => hab d (Tr.node p d hp).lt fun h => h.1 _ _ (Tr.node p d hp)
  have hm : ∀ p d, M p = some d → b.heap[d]? = a.heap[d]? := fun p d hp => hab d (Tr.maps p d hp).lt fun h => h.2 _ _ (Tr.maps p d hp)
  exact ⟨N, M, k, ⟨Tr.root, Tr.hB, Tr.hM, Tr.inj, Tr.minj, Tr.up, Tr.mup, Tr.vup, fun p d hp => (Tr.node p d hp).same (hn p d hp), fun p d hp => (Tr.maps p d hp).same (hm p d hp), (World.cell?_of_block (a := ⟨t, 3, none⟩) (hn _ _ Tr.root)).trans Tr.count⟩, h2⟩
def Rest (x : Nat) (m : Mc) (v : Vs) (w : World) (k : Nat) : Prop := k < w.heap.size ∧ ¬ Foot x m v [] k
theorem MachV.over {Z S G : Nat → Prop} {x : Nat} {m : Mc} {v : Vs} {w w' : World} (h : MachV Z S x m v [] w) (h1 : S 1) (hG : ∀ k, G k → k < w.heap.size → ¬ Foot x m v [] k ∧ k ≠ 1 ∧ NoTr w k) (hk : Keep (fun k => ¬ G k) w w') :
    MachV NoZ (Rest x m v w') x m v [] w' := by
  have kept : ∀ k, Foot x m v [] k → w'.heap[k]? = w.heap[k]? := fun k hf => hk.block k (fun hg => (hG k hg (foot_out h hf).2).1 hf) (foot_out h hf).2
  have z1 : ¬ Foot x m v [] 1 := fun hf => (foot_out h hf).1 h1
  have hs1 := h.low 1 h1
  have lt' : ∀ k, k < w.heap.size → k < w'.heap.size := fun k h => Nat.lt_of_lt_of_le h hk.size
  refine ⟨fun k hk => hk.1, ⟨fun hx => hx.2 (.inl rfl), fun _ h => h.elim⟩, fun w2 k2 => ?_, (kept x (.inl rfl)).trans h.blk, ⟨fun i r hr => own_mv (h.bag.own i r hr) fun g hg => kept g (.inr (.inl ⟨i, r, hr, hg⟩)), fun i r hr g hg hR => hR.2 (.inr (.inl ⟨i, r, hr, hg⟩)), h.bag.apart⟩, h.names.mv (fun b e _ hR => hR.2 (.inr (.inr e))) (fun b e _ => kept b (.inr (.inr e))), ?_, h.told, fun t ht => by cases ht⟩
  · have e : w2.heap[1]? = w.heap[1]? := (k2.block 1 ⟨lt' 1 hs1, z1⟩ (lt' 1 hs1)).trans (hk.block 1 (fun hg => (hG 1 hg hs1).2.1 rfl) hs1)
    intro i hi
    rw [← h.hi.now i hi]
    simp [World.cell?, e]
  · rcases h.trie with e | ⟨t, e, ht⟩
    · exact .inl e
    · refine .inr ⟨t, e, fun w2 k2 => trie_off (a := w) (fun k hkl hno => ?_) ht.now⟩
      have n1 : ¬ Foot x m v [] k := fun hf => hno (foot_no h hf)
      exact (k2.block k ⟨lt' k hkl, n1⟩ (lt' k hkl)).trans (hk.block k (fun hg => hno (hG k hg hkl).2.2) hkl)
end Go.Proofs.YtdiealijjhfhjaaGreatDoor
