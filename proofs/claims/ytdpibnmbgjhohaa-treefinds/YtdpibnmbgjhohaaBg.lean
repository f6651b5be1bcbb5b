/- A tree on its way into memory of its own. -/
import Derived.Test.YtdpibnmbgjhohaaBf
namespace Go.Proofs.Ytdpibnmbgjhohaa
open Go.RowKit

/-- A block of nodes: what stands there, with each one's two slices. -/
structure En where
  g : Nat
  ts : List Tr
  av : Nat → Value
  kv : Nat → Value
/-- A node that lies in memory of its own. -/
def Dn (N lo : Nat) (W : World) (All : List (En × Nat)) (al : List At) (ks : List Tr) (av kv : Value) : Prop :=
  Rw (fun k => k < N) W 53 2 av al.length (al.flatMap At.cells) ∧
  ∃ kp kc, kv = .slice kp ks.length kc ∧ ks.length ≤ kc ∧ kc ≤ maxLen ∧ (ks ≠ [] → ∃ p ∈ All, p.1.ts = ks ∧ lo < p.1.g ∧ kp = some ⟨p.1.g, 0, none⟩) ∧ ∀ b, kv.ownBlock = some b → b < W.heap.size
/-- A block of which k nodes are done. -/
structure EnOk (w : World) (N lo : Nat) (W : World) (All : List (En × Nat)) (p : En × Nat) : Prop where
  ge : lo ≤ p.1.g
  blk : ∃ cur, W.heap[p.1.g]? = some (.cells cur 27 (0, 0))
  le : p.2 ≤ p.1.ts.length
  cs : ∀ (j : Nat) t, p.1.ts[j]? = some t → CellsAt W p.1.g (j * 11) (t.d.cs (p.1.av j) (p.1.kv j))
  dn : ∀ (j : Nat) t, p.1.ts[j]? = some t → j < p.2 → Dn N lo W All t.d.al t.k (p.1.av j) (p.1.kv j)
  un : ∀ (j : Nat) t, p.1.ts[j]? = some t → p.2 ≤ j → TrC w t (p.1.av j) (p.1.kv j)
/-- No two nodes that are done share a row of attributes. -/
def Apart (All : List (En × Nat)) : Prop := ∀ p q, p ∈ All → q ∈ All → ∀ i j b, i < p.2 → j < q.2 → (p.1.av i).ownBlock = some b → (q.1.av j).ownBlock = some b → p.1.g = q.1.g ∧ i = j
/-- Nor a row of kids. -/
def ApartK (All : List (En × Nat)) : Prop := ∀ p q, p ∈ All → q ∈ All → ∀ i j b, i < p.2 → j < q.2 → (p.1.kv i).ownBlock = some b → (q.1.kv j).ownBlock = some b → p.1.g = q.1.g ∧ i = j
/-- A level's slice says what is left of a block. -/
def Ls (s : Sl) (p : En × Nat) : Prop := s.2.1 + p.2 = p.1.ts.length ∧ s.2.1 ≤ s.2.2 ∧ s.2.2 ≤ maxLen ∧ (0 < s.2.1 → s.1 = some ⟨p.1.g, p.2 * 11, none⟩)
inductive Lr : List Sl → List (En × Nat) → Prop
  | nil : Lr [] []
  | cons {s : Sl} {p : En × Nat} {ss : List Sl} {ps : List (En × Nat)} (h : Ls s p) (t : Lr ss ps) : Lr (s :: ss) (p :: ps)
theorem Lr.len {s : List Sl} {l : List (En × Nat)} (h : Lr s l) : s.length = l.length := by
  induction h with
  | nil => rfl
  | cons _ _ ih => simp [ih]
theorem Lr.fit {s : List Sl} {l : List (En × Nat)} (h : Lr s l) : ∀ x ∈ s, x.2.1 ≤ x.2.2 ∧ x.2.2 ≤ maxLen ∧ (0 < x.2.1 → ∃ b off, x.1 = some ⟨b, off, none⟩) := by
  induction h with
  | nil => intro x hx; simp at hx
  | cons h _ ih =>
    intro x hx
    simp only [List.mem_cons] at hx
    rcases hx with rfl | hx
    · exact ⟨h.2.1, h.2.2.1, fun h0 => ⟨_, _, h.2.2.2 h0⟩⟩
    · exact ih x hx
/-- Nodes few enough to be copied. -/
inductive Sml : Tr → Prop
  | mk {d : Nd} {ks : List Tr} (ha : d.al.length ≤ 4000) (hn : ks.length ≤ 4000) (hk : ∀ t ∈ ks, Sml t) : Sml (.mk d ks)
def lft (p : En × Nat) : List Tr := p.1.ts.drop p.2
def cnt : List (En × Nat) → Nat
  | [] => 0
  | p :: ps => cL (lft p) + cnt ps
def msr : List (En × Nat) → Nat
  | [] => 0
  | p :: ps => 1 + 2 * cL (lft p) + msr ps
/-- A copy in the making. -/
structure St (w : World) (N lo m M : Nat) (t0 : Tr) (W : World) (st : List Sl) (Op All : List (En × Nat)) : Prop where
  rel : Lr st Op
  op : ∀ p ∈ Op, p.2 < p.1.ts.length → p ∈ All
  opd : Op.Pairwise (fun p q => p.2 < p.1.ts.length → q.2 < q.1.ts.length → p.1.g ≠ q.1.g)
  all : ∀ p ∈ All, p.2 < p.1.ts.length → p ∈ Op
  gs : ∀ p q, p ∈ All → q ∈ All → p.1.g = q.1.g → p = q
  ok : ∀ p ∈ All, EnOk w N lo W All p
  ap : Apart All
  kap : ApartK All
  root : ∃ p ∈ All, p.1.g = lo ∧ p.1.ts = [t0]
  sml : ∀ p ∈ All, ∀ t ∈ p.1.ts, Sml t
  ms : m = msr Op
  dep : st.length + cnt Op ≤ M
theorem Dn.mv {N lo : Nat} {W W' : World} {All All' : List (En × Nat)} {al : List At} {ks : List Tr} {av kv : Value} (h : Dn N lo W All al ks av kv) (hb : ∀ (g : Nat) (cur : Array Value), W.heap[g]? = some (.cells cur 53 (0, 0)) → W'.heap[g]? = W.heap[g]?)
    (ha : ∀ p ∈ All, ∃ q ∈ All', q.1.g = p.1.g ∧ q.1.ts = p.1.ts) (hs : W.heap.size ≤ W'.heap.size) : Dn N lo W' All' al ks av kv := by
  obtain ⟨h1, kp, kc, h2, h3, h4, h5, h6⟩ := h
  refine ⟨h1.mv fun g hg => ?_, kp, kc, h2, h3, h4, fun hn => ?_, fun b hb' => Nat.lt_of_lt_of_le (h6 b hb') hs⟩
  · obtain ⟨_, cur, hc⟩ := own_blk h1.own hg
    exact hb g cur hc
  · obtain ⟨p, hp, e1, e2, e3⟩ := h5 hn
    obtain ⟨q, hq, q1, q2⟩ := ha p hp
    exact ⟨q, hq, q2.trans e1, by rw [q1]; exact e2, by rw [q1]; exact e3⟩
/-- Nothing has turned but blocks that no row of attributes and no block of the copy lies in. -/
theorem St.mv {w : World} {N lo m M : Nat} {t0 : Tr} {W W' : World} {st : List Sl} {Op All : List (En × Nat)} (h : St w N lo m M t0 W st Op All)
    (hb : ∀ (g : Nat) (cur : Array Value), W.heap[g]? = some (.cells cur 53 (0, 0)) → W'.heap[g]? = W.heap[g]?) (hn : ∀ (g : Nat) (cur : Array Value), W.heap[g]? = some (.cells cur 27 (0, 0)) → lo ≤ g → W'.heap[g]? = W.heap[g]?) (hs : W.heap.size ≤ W'.heap.size) : St w N lo m M t0 W' st Op All :=
  ⟨h.rel, h.op, h.opd, h.all, h.gs, fun p hp => by
    have k := h.ok p hp
    obtain ⟨cur, hc⟩ := k.blk
    have e := hn _ _ hc k.ge
    exact ⟨k.ge, ⟨cur, e.trans hc⟩, k.le, fun j t hj => (k.cs j t hj).mv e, fun j t hj hk => (k.dn j t hj hk).mv hb (fun p hp => ⟨p, hp, rfl, rfl⟩) hs, k.un⟩,
  h.ap, h.kap, h.root, h.sml, h.ms, h.dep⟩
theorem lft_next {e e' : En} {k : Nat} {u : Tr} (hu : e.ts[k]? = some u) (he : e'.ts = e.ts) : lft (e, k) = u :: lft (e', k + 1) := by
  unfold lft
  simp only [he]
  rw [← List.getElem_cons_drop (h := (List.getElem?_eq_some_iff.1 hu).1), (List.getElem?_eq_some_iff.1 hu).2]
/-- One node more is done: its slices, and a block for its kids. -/
theorem St.next {w : World} {N lo m M : Nat} {t0 : Tr} {W W' : World} {st : List Sl} {e : En} {k n c : Nat} {a : Addr} {u : Tr} {Op All : List (En × Nat)}
    (h : St w N lo (m + 1) M t0 W ((some a, n + 1, c) :: st) ((e, k) :: Op) All) (hlo : lo < W.heap.size) (hN : N ≤ W.heap.size) (hu : e.ts[k]? = some u) {v1 : Value} {kp : Option Addr} {kc : Nat} {avs kvs : Nat → Value}
    (hold : ∀ (g : Nat), g < W.heap.size → g ≠ e.g → W'.heap[g]? = W.heap[g]?) (hblk : ∃ cur, W'.heap[e.g]? = some (.cells cur 27 (0, 0)))
    (hcs : ∀ (j : Nat) t, e.ts[j]? = some t → j ≠ k → CellsAt W' e.g (j * 11) (t.d.cs (e.av j) (e.kv j))) (hck : CellsAt W' e.g (k * 11) (u.d.cs v1 (.slice kp u.k.length kc)))
    (hv1 : Rw (fun k => k < W.heap.size) W' 53 2 v1 u.d.al.length (u.d.al.flatMap At.cells)) (hkc : u.k.length ≤ kc ∧ kc ≤ maxLen) (hgr : W.heap.size ≤ W'.heap.size) (hkn : ∀ b, (Value.slice kp u.k.length kc).ownBlock = some b → W.heap.size ≤ b ∧ b < W'.heap.size)
    (hkp : u.k ≠ [] → ∃ g2, W.heap.size ≤ g2 ∧ kp = some ⟨g2, 0, none⟩ ∧ (∃ cur, W'.heap[g2]? = some (.cells cur 27 (0, 0))) ∧ ∀ (j : Nat) t, u.k[j]? = some t → CellsAt W' g2 (j * 11) (t.d.cs (avs j) (kvs j)) ∧ TrC w t (avs j) (kvs j)) :
    ∃ Op' All', St w N lo m M t0 W' ((kp, u.k.length, kc) :: (some (nx a c), n, c - 1) :: st) Op' All' := by
  have hin : (e, k) ∈ All := h.op (e, k) (by simp) (List.getElem?_eq_some_iff.1 hu).1
  have hk := h.ok _ hin
  obtain ⟨cur0, hcur0⟩ := hk.blk
  have hel : e.g < W.heap.size := (Array.getElem?_eq_some_iff.1 hcur0).1
  cases h.rel with
  | cons hl ht =>
    obtain ⟨e', he'⟩ : ∃ e' : En, e' = { e with av := fun j => if j = k then v1 else e.av j, kv := fun j => if j = k then .slice kp u.k.length kc else e.kv j } := ⟨_, rfl⟩
    have eg : e'.g = e.g := by rw [he']
    have et : e'.ts = e.ts := by rw [he']
    have eav : ∀ j, e'.av j = if j = k then v1 else e.av j := fun j => by rw [he']
    have ekv : ∀ j, e'.kv j = if j = k then .slice kp u.k.length kc else e.kv j := fun j => by rw [he']
    obtain ⟨g2, hg2⟩ : ∃ g2, (u.k ≠ [] → W.heap.size ≤ g2 ∧ kp = some ⟨g2, 0, none⟩ ∧ (∃ cur, W'.heap[g2]? = some (.cells cur 27 (0, 0))) ∧ ∀ (j : Nat) t, u.k[j]? = some t → CellsAt W' g2 (j * 11) (t.d.cs (avs j) (kvs j)) ∧ TrC w t (avs j) (kvs j)) := by
      by_cases hne : u.k = []
      · exact ⟨0, fun h => absurd hne h⟩
      · obtain ⟨g2, h1⟩ := hkp hne
        exact ⟨g2, fun _ => h1⟩
    obtain ⟨e2, he2⟩ : ∃ e2 : En, e2 = { g := g2, ts := u.k, av := avs, kv := kvs } := ⟨_, rfl⟩
    have mg : ∀ p ∈ All, p.1.g < W.heap.size := fun p hp => by
      obtain ⟨cur, hc⟩ := (h.ok p hp).blk
      exact (Array.getElem?_eq_some_iff.1 hc).1
    -- the new table
    obtain ⟨up, hup⟩ : ∃ up : En × Nat → En × Nat, up = fun p => if p.1.g = e.g then (e', k + 1) else p := ⟨_, rfl⟩
    have upe : ∀ p, p ∈ All → p.1.g = e.g → up p = (e', k + 1) := fun p _ hp => by rw [hup]; simp [hp]
    have upo : ∀ p, p.1.g ≠ e.g → up p = p := fun p hp => by rw [hup]; simp [hp]
    have upg : ∀ p ∈ All, (up p).1.g = p.1.g ∧ (up p).1.ts = p.1.ts := fun p hp => by
      by_cases hpe : p.1.g = e.g
      · have : p = (e, k) := h.gs p _ hp hin hpe
        rw [upe p hp hpe, this]
        exact ⟨eg, et⟩
      · rw [upo p hpe]
        exact ⟨rfl, rfl⟩
    obtain ⟨A2, hA2⟩ : ∃ A2 : List (En × Nat), A2 = (if u.k = [] then [] else [(e2, 0)]) ++ All.map up := ⟨_, rfl⟩
    have memA : ∀ q, q ∈ A2 ↔ (u.k ≠ [] ∧ q = (e2, 0)) ∨ ∃ p ∈ All, q = up p := fun q => by
      rw [hA2, List.mem_append, List.mem_map]
      by_cases hne : u.k = []
      · simp [hne, eq_comm]
      · simp [hne, eq_comm]
    have sub : ∀ p ∈ All, ∃ q ∈ A2, q.1.g = p.1.g ∧ q.1.ts = p.1.ts := fun p hp => ⟨up p, (memA _).2 (.inr ⟨p, hp, rfl⟩), upg p hp⟩
    have h53 : ∀ (g : Nat) (cur : Array Value), W.heap[g]? = some (.cells cur 53 (0, 0)) → W'.heap[g]? = W.heap[g]? := fun g cur hg => hold g (Array.getElem?_eq_some_iff.1 hg).1 (fun e' => by rw [e', hcur0] at hg; simp at hg)
    have hnext := lft_next (e' := e') hu et
    refine ⟨(e2, 0) :: (e', k + 1) :: Op, A2, ?_⟩
    have hl1 := hl.1
    simp only [] at hl1
    have ha : a = ⟨e.g, k * 11, none⟩ := by
      have := hl.2.2.2 (by simp)
      simp at this
      exact this
    have hc2 : n + 1 ≤ c := hl.2.1
    have hkl : k < e.ts.length := (List.getElem?_eq_some_iff.1 hu).1
    refine ⟨.cons ⟨?_, hkc.1, hkc.2, fun h0 => ?_⟩ (.cons ⟨?_, ?_, ?_, fun h0 => ?_⟩ ht), ?_, ?_, ?_, ?_, ?_, ?_, ?_, ?_, ?_, ?_, ?_⟩
    · rw [he2]; simp
    · simp only [] at h0
      have hne : u.k ≠ [] := fun e0 => by rw [e0] at h0; simp at h0
      rw [he2]
      simpa using (hg2 hne).2.1
    · simp only [et]; omega
    · simp only []; omega
    · have := hl.2.2.1; simp only [] at this ⊢; omega
    · simp only [] at h0 ⊢
      rw [nx, if_neg (by omega), ha, eg]
      simp only [Option.some.injEq, Addr.mk.injEq, and_true, true_and]
      omega
    · -- op
      intro p hp hlt
      simp only [List.mem_cons] at hp
      rcases hp with rfl | rfl | hp
      · refine (memA _).2 (.inl ⟨fun e0 => ?_, rfl⟩)
        rw [he2] at hlt
        simp [e0] at hlt
      · exact (memA _).2 (.inr ⟨(e, k), hin, (upe _ hin rfl).symm⟩)
      · have hpA := h.op p (by simp [hp]) hlt
        have hne : p.1.g ≠ e.g := fun e0 => (List.pairwise_cons.1 h.opd).1 p hp hkl hlt e0.symm
        exact (memA _).2 (.inr ⟨p, hpA, (upo p hne).symm⟩)
    · -- opd
      rw [List.pairwise_cons, List.pairwise_cons]
      refine ⟨fun q hq h1 h2 => ?_, fun q hq h1 h2 => ?_, (List.pairwise_cons.1 h.opd).2⟩
      · have hne : u.k ≠ [] := fun e0 => by rw [he2] at h1; simp [e0] at h1
        have hge := (hg2 hne).1
        rw [he2]
        simp only [List.mem_cons] at hq
        rcases hq with rfl | hq
        · simp only [eg]; omega
        · have := mg q (h.op q (by simp [hq]) h2)
          simp only []; omega
      · rw [eg]
        exact (List.pairwise_cons.1 h.opd).1 q hq hkl h2
    · -- all
      intro q hq hlt
      rcases (memA q).1 hq with ⟨_, rfl⟩ | ⟨p, hp, rfl⟩
      · simp
      · by_cases hpe : p.1.g = e.g
        · rw [upe p hp hpe]; simp
        · rw [upo p hpe] at hlt ⊢
          have := h.all p hp hlt
          simp only [List.mem_cons] at this ⊢
          rcases this with rfl | hin2
          · exact absurd rfl hpe
          · exact .inr (.inr hin2)
    · -- gs
      intro p q hp hq hpq
      rcases (memA p).1 hp with ⟨hne, rfl⟩ | ⟨p', hp', rfl⟩ <;> rcases (memA q).1 hq with ⟨hne', rfl⟩ | ⟨q', hq', rfl⟩
      · rfl
      · have h1 := (hg2 hne).1
        have h2 := mg q' hq'
        rw [(upg q' hq').1, he2] at hpq
        simp only [] at hpq
        omega
      · have h1 := (hg2 hne').1
        have h2 := mg p' hp'
        rw [(upg p' hp').1, he2] at hpq
        simp only [] at hpq
        omega
      · rw [(upg p' hp').1, (upg q' hq').1] at hpq
        rw [h.gs p' q' hp' hq' hpq]
    · -- ok
      intro q hq
      rcases (memA q).1 hq with ⟨hne, rfl⟩ | ⟨p, hp, rfl⟩
      · obtain ⟨h1, h2, h3, h4⟩ := hg2 hne
        rw [he2]
        exact ⟨by simp only []; omega, h3, Nat.zero_le _, fun j t hj => (h4 j t hj).1, fun j t _ hj0 => absurd hj0 (Nat.not_lt_zero _), fun j t hj _ => (h4 j t hj).2⟩
      · by_cases hpe : p.1.g = e.g
        · rw [upe p hp hpe]
          refine ⟨by simp only [eg]; exact hk.ge, by simp only [eg]; exact hblk, by simp only [et]; omega, fun j t hj => ?_, fun j t hj hlt => ?_, fun j t hj hle => ?_⟩
          · simp only [et] at hj
            simp only [eg, eav, ekv]
            by_cases hjk : j = k
            · subst hjk
              rw [hu] at hj
              cases hj
              simpa using hck
            · rw [if_neg hjk, if_neg hjk]
              exact hcs j t hj hjk
          · simp only [et] at hj
            simp only [eav, ekv]
            simp only [] at hlt
            by_cases hjk : j = k
            · subst hjk
              rw [hu] at hj
              cases hj
              simp only [if_true]
              refine ⟨hv1.sub fun i hi => by omega, kp, kc, rfl, hkc.1, hkc.2, fun hne => ?_, fun b hb => (hkn b hb).2⟩
              obtain ⟨h1, h2, h3, h4⟩ := hg2 hne
              exact ⟨(e2, 0), (memA _).2 (.inl ⟨hne, rfl⟩), by rw [he2], by rw [he2]; simp only []; omega, by rw [he2]; exact h2⟩
            · rw [if_neg hjk, if_neg hjk]
              exact (hk.dn j t hj (by simp only []; omega)).mv h53 sub hgr
          · simp only [et] at hj
            simp only [eav, ekv]
            simp only [] at hle
            rw [if_neg (by omega), if_neg (by omega)]
            exact hk.un j t hj (by simp only []; omega)
        · rw [upo p hpe]
          have kp' := h.ok p hp
          obtain ⟨cur, hc⟩ := kp'.blk
          have e0 := hold p.1.g (mg p hp) hpe
          exact ⟨kp'.ge, ⟨cur, e0.trans hc⟩, kp'.le, fun j t hj => (kp'.cs j t hj).mv e0, fun j t hj hlt => (kp'.dn j t hj hlt).mv h53 sub hgr, kp'.un⟩
    · -- ap
      have old : ∀ p ∈ All, ∀ i b, i < p.2 → (p.1.av i).ownBlock = some b → b < W.heap.size := fun p hp i b hi hb => by
        have kp' := h.ok p hp
        obtain ⟨t, hti⟩ : ∃ t, p.1.ts[i]? = some t := ⟨_, List.getElem?_eq_getElem (Nat.lt_of_lt_of_le hi kp'.le)⟩
        exact (own_blk (kp'.dn i t hti hi).1.own hb).1
      have new : ∀ b, v1.ownBlock = some b → W.heap.size ≤ b := fun b hb => by
        have := hv1.out b hb
        omega
      -- what stands at (q, j) is what stood there, or the new one
      have inv : ∀ q ∈ A2, ∀ j b, j < q.2 → (q.1.av j).ownBlock = some b → (q.1.g = e.g ∧ j = k ∧ W.heap.size ≤ b) ∨ ∃ p ∈ All, p.1.g = q.1.g ∧ j < p.2 ∧ (p.1.av j).ownBlock = some b := fun q hq j b hj hb => by
        rcases (memA q).1 hq with ⟨hne, rfl⟩ | ⟨p, hp, rfl⟩
        · exact absurd hj (Nat.not_lt_zero _)
        · by_cases hpe : p.1.g = e.g
          · rw [upe p hp hpe] at hj hb ⊢
            simp only [] at hj
            simp only [eav] at hb
            by_cases hjk : j = k
            · subst hjk
              simp only [if_true] at hb
              exact .inl ⟨eg, rfl, new b hb⟩
            · rw [if_neg hjk] at hb
              exact .inr ⟨(e, k), hin, eg.symm, by simp only []; omega, hb⟩
          · rw [upo p hpe] at hj hb ⊢
            exact .inr ⟨p, hp, rfl, hj, hb⟩
      intro p q hp hq i j b hi hj hbi hbj
      rcases inv p hp i b hi hbi with ⟨a1, a2, a3⟩ | ⟨p', hp', a1, a2, a3⟩ <;> rcases inv q hq j b hj hbj with ⟨b1, b2, b3⟩ | ⟨q', hq', b1, b2, b3⟩
      · exact ⟨a1.trans b1.symm, a2.trans b2.symm⟩
      · have := old q' hq' j b b2 b3; omega
      · have := old p' hp' i b a2 a3; omega
      · obtain ⟨c1, c2⟩ := h.ap p' q' hp' hq' i j b a2 b2 a3 b3
        exact ⟨by rw [← a1, ← b1]; exact c1, c2⟩
    · -- kap
      have old : ∀ p ∈ All, ∀ i b, i < p.2 → (p.1.kv i).ownBlock = some b → b < W.heap.size := fun p hp i b hi hb => by
        have kp' := h.ok p hp
        obtain ⟨t, hti⟩ : ∃ t, p.1.ts[i]? = some t := ⟨_, List.getElem?_eq_getElem (Nat.lt_of_lt_of_le hi kp'.le)⟩
        exact (by obtain ⟨_, _, _, _, _, _, _, h6⟩ := kp'.dn i t hti hi; exact h6 b hb)
      have new : ∀ b, (Value.slice kp u.k.length kc).ownBlock = some b → W.heap.size ≤ b := fun b hb => (hkn b hb).1
      -- what stands at (q, j) is what stood there, or the new one
      have inv : ∀ q ∈ A2, ∀ j b, j < q.2 → (q.1.kv j).ownBlock = some b → (q.1.g = e.g ∧ j = k ∧ W.heap.size ≤ b) ∨ ∃ p ∈ All, p.1.g = q.1.g ∧ j < p.2 ∧ (p.1.kv j).ownBlock = some b := fun q hq j b hj hb => by
        rcases (memA q).1 hq with ⟨hne, rfl⟩ | ⟨p, hp, rfl⟩
        · exact absurd hj (Nat.not_lt_zero _)
        · by_cases hpe : p.1.g = e.g
          · rw [upe p hp hpe] at hj hb ⊢
            simp only [] at hj
            simp only [ekv] at hb
            by_cases hjk : j = k
            · subst hjk
              simp only [if_true] at hb
              exact .inl ⟨eg, rfl, new b hb⟩
            · rw [if_neg hjk] at hb
              exact .inr ⟨(e, k), hin, eg.symm, by simp only []; omega, hb⟩
          · rw [upo p hpe] at hj hb ⊢
            exact .inr ⟨p, hp, rfl, hj, hb⟩
      intro p q hp hq i j b hi hj hbi hbj
      rcases inv p hp i b hi hbi with ⟨a1, a2, a3⟩ | ⟨p', hp', a1, a2, a3⟩ <;> rcases inv q hq j b hj hbj with ⟨b1, b2, b3⟩ | ⟨q', hq', b1, b2, b3⟩
      · exact ⟨a1.trans b1.symm, a2.trans b2.symm⟩
      · have := old q' hq' j b b2 b3; omega
      · have := old p' hp' i b a2 a3; omega
      · obtain ⟨c1, c2⟩ := h.kap p' q' hp' hq' i j b a2 b2 a3 b3
        exact ⟨by rw [← a1, ← b1]; exact c1, c2⟩
    · -- root
      obtain ⟨p, hp, r1, r2⟩ := h.root
      obtain ⟨q, hq, q1, q2⟩ := sub p hp
      exact ⟨q, hq, q1.trans r1, q2.trans r2⟩
    · -- sml
      intro q hq t htq
      rcases (memA q).1 hq with ⟨hne, rfl⟩ | ⟨p, hp, rfl⟩
      · have hsu := h.sml _ hin u (List.mem_of_getElem? hu)
        rw [he2] at htq
        cases hsu with
        | mk ha hn hk => exact hk t htq
      · rw [(upg p hp).2] at htq
        exact h.sml p hp t htq
    · have := h.ms
      simp only [msr, hnext, cL] at this ⊢
      have e3 : lft (e2, 0) = u.k := by rw [he2]; rfl
      rw [e3]
      obtain ⟨d, ks⟩ := u
      simp only [cT, Tr.k] at this ⊢
      omega
    · have := h.dep
      simp only [cnt, hnext, cL, List.length_cons] at this ⊢
      have e3 : lft (e2, 0) = u.k := by rw [he2]; rfl
      rw [e3]
      obtain ⟨d, ks⟩ := u
      simp only [cT, Tr.k] at this ⊢
      omega
theorem St.pop {w : World} {N lo m M : Nat} {t0 : Tr} {W : World} {a : Option Addr} {c : Nat} {st : List Sl} {Op All : List (En × Nat)}
    (h : St w N lo (m + 1) M t0 W ((a, 0, c) :: st) Op All) : ∃ Op', St w N lo m M t0 W st Op' All := by
  cases hr : h.rel with
  | cons hl ht =>
    rename_i p ps
    have hp0 : lft p = [] := by
      have := hl.1
      unfold lft
      exact List.drop_eq_nil_of_le (by simp only [] at this; omega)
    refine ⟨ps, { h with rel := ht, op := fun q hq => h.op q (by simp [hq]), opd := (List.pairwise_cons.1 h.opd).2, all := fun q hq hlt => ?_, ms := ?_, dep := ?_ }⟩
    · have := h.all q hq hlt
      simp only [List.mem_cons] at this
      rcases this with rfl | h2
      · have := hl.1
        simp only [] at this
        omega
      · exact h2
    · have := h.ms
      simp only [msr, hp0, cL] at this
      omega
    · have := h.dep
      simp only [cnt, hp0, cL, List.length_cons] at this
      omega
end Go.Proofs.Ytdpibnmbgjhohaa
