/- A tree in the making: what is laid out, what is left. -/
import Derived.Test.YtcdaghlbfclpkaaBa
namespace Go.Proofs.Ytcdaghlbfclpkaa
open Go.RowKit

/-- A node's cells at a place, all of it in blocks from B on. -/
structure NAt (B : Nat) (w : World) (d : Nd) (b off : Nat) (kv : Value) : Prop where
  low : B ≤ b
  ty : ∃ cur, w.heap[b]? = some (.cells cur 35 (0, 0))
  cs : ∀ j, j < 10 → j ≠ 5 → w.cell? ⟨b, off + j, none⟩ = d.cells[j]?
  c10 : w.cell? ⟨b, off + 10, none⟩ = some kv
  at5 : ∃ ao ac, w.cell? ⟨b, off + 5, none⟩ = some (.slice ao d.al.length ac) ∧ Rw (fun k => k < B) w 53 2 (.slice ao d.al.length ac) d.al.length (d.al.flatMap At.cells)
theorem cell_same {w w' : World} {b : Nat} (h : w'.heap[b]? = w.heap[b]?) (j : Nat) : w'.cell? ⟨b, j, none⟩ = w.cell? ⟨b, j, none⟩ := by
  simp [World.cell?, h]
theorem NAt.same {B : Nat} {w w' : World} {d : Nd} {b off : Nat} {kv : Value} (h : NAt B w d b off kv) (hk : ∀ k cur t, w.heap[k]? = some (.cells cur t (0, 0)) → B ≤ k → t ≠ 81 → w'.heap[k]? = w.heap[k]?) : NAt B w' d b off kv := by
  obtain ⟨cur, hc⟩ := h.ty
  have e := hk b cur 35 hc h.low (by decide)
  obtain ⟨ao, ac, h5, hr⟩ := h.at5
  exact ⟨h.low, ⟨cur, e.trans hc⟩, fun j h1 h2 => (cell_same e _).trans (h.cs j h1 h2), (cell_same e _).trans h.c10, ao, ac, (cell_same e _).trans h5, hr.mv fun g hg => by
    obtain ⟨_, c, h2⟩ := own_blk hr.own hg
    exact hk g c 53 h2 (Nat.le_of_not_lt (hr.out g hg)) (by decide)⟩
theorem NAt.old {B : Nat} {w w' : World} {d : Nd} {b off : Nat} {kv : Value} (h : NAt B w d b off kv) (k : Below w.heap.size w w') : NAt B w' d b off kv :=
  h.same fun i _ _ hi _ _ => k.block i (Array.getElem?_eq_some_iff.1 hi).1
theorem NAt.kr {B : Nat} {w1 wr : World} {d : Nd} {b off b' o : Nat} {kv v : Value} {cur : Array Value} {M : List Nd} (h : NAt B w1 d b off kv) (k : KR w1 wr b' o cur M v) (hne : ∀ j, j < 11 → b = b' → off + j ≠ o) : NAt B wr d b off kv := by
  obtain ⟨cu, hc⟩ := h.ty
  have hb := (Array.getElem?_eq_some_iff.1 hc).1
  obtain ⟨ao, ac, h5, hr⟩ := h.at5
  have hr' : Rw (fun k => k < B) wr 53 2 (.slice ao d.al.length ac) d.al.length (d.al.flatMap At.cells) := hr.mv fun g hg => by
    obtain ⟨h1, c, h2⟩ := own_blk hr.own hg
    refine k.oth g h1 (fun e => ?_)
    rw [e, k.was] at h2
    simp at h2
  by_cases e : b = b'
  · subst e
    have hcur : ∀ j, w1.cell? ⟨b, j, none⟩ = cur[j]? := fun j => by simp [World.cell?, k.was]
    have hs : ∀ j, j < 11 → wr.cell? ⟨b, off + j, none⟩ = w1.cell? ⟨b, off + j, none⟩ := fun j hj => (k.cells _ (hne j hj rfl)).trans (hcur _).symm
    exact ⟨h.low, ⟨_, k.blk⟩, fun j h1 h2 => (hs j (by omega)).trans (h.cs j h1 h2), (hs 10 (by decide)).trans h.c10, ao, ac, (hs 5 (by decide)).trans h5, hr'⟩
  · have e' := k.oth b hb e
    exact ⟨h.low, ⟨cu, e'.trans hc⟩, fun j h1 h2 => (cell_same e' _).trans (h.cs j h1 h2), (cell_same e' _).trans h.c10, ao, ac, (cell_same e' _).trans h5, hr'⟩
/-- The node itself, its kids laid. -/
theorem NAt.done {B : Nat} {w1 wr : World} {d : Nd} {b off : Nat} {kv v : Value} {cur : Array Value} {M : List Nd} (h : NAt B w1 d b off kv) (k : KR w1 wr b (off + 10) cur M v) : NAt B wr d b off v := by
  obtain ⟨ao, ac, h5, hr⟩ := h.at5
  have hr' : Rw (fun k => k < B) wr 53 2 (.slice ao d.al.length ac) d.al.length (d.al.flatMap At.cells) := hr.mv fun g hg => by
    obtain ⟨h1, c, h2⟩ := own_blk hr.own hg
    refine k.oth g h1 (fun e => ?_)
    rw [e, k.was] at h2
    simp at h2
  have hcur : ∀ j, w1.cell? ⟨b, j, none⟩ = cur[j]? := fun j => by simp [World.cell?, k.was]
  have hs : ∀ j, j < 10 → wr.cell? ⟨b, off + j, none⟩ = w1.cell? ⟨b, off + j, none⟩ := fun j hj => (k.cells _ (by omega)).trans (hcur _).symm
  exact ⟨h.low, ⟨_, k.blk⟩, fun j h1 h2 => (hs j h1).trans (h.cs j h1 h2), k.cell, ao, ac, (hs 5 (by decide)).trans h5, hr'⟩
/-- A new kid. -/
theorem KR.kid {B : Nat} {w1 wr : World} {b o g c n : Nat} {cur : Array Value} {M : List Nd} (k : KR w1 wr b o cur M (.slice (some ⟨g, 0, none⟩) n c)) (hB : B ≤ w1.heap.size) (hn : M.length = n) {t : Nat} {d : Nd} {av : Value} (ht : M[t]? = some { d with av := av }) : NAt B wr d g (t * 11) (.slice none 0 0) := by
  have hr := k.row
  rw [hn] at hr
  have hc : ∀ j, j < 11 → wr.cell? ⟨g, t * 11 + j, none⟩ = ({ d with av := av } : Nd).cells[j]? := fun j hj => by
    have a := fl_at Nd.cells 11 (fun _ => rfl) M t j _ ht hj
    obtain ⟨u, hu⟩ : ∃ u, ({ d with av := av } : Nd).cells[j]? = some u := ⟨_, List.getElem?_eq_getElem (show j < ({ d with av := av } : Nd).cells.length from hj)⟩
    rw [hu]
    exact hr.cell (a.trans hu)
  have ha := k.ats _ (List.mem_of_getElem? ht)
  obtain ⟨ao, ac, hav, _⟩ := ha.slice
  have hav' : av = .slice ao d.al.length ac := hav
  subst hav'
  have hg : ¬ g < w1.heap.size := k.row.out g rfl
  refine ⟨by omega, ?_, fun j h1 h2 => ?_, hc 10 (by decide), ao, ac, hc 5 (by decide), ha.sub (fun i hi => by have hi' : i < B := hi; show i < w1.heap.size; omega)⟩
  · obtain ⟨_, cu, h2⟩ := own_blk k.row.own (g := g) rfl
    exact ⟨cu, h2⟩
  · rw [hc j (by omega)]
    match j, h1, h2 with
    | 0, _, _ => rfl
    | 1, _, _ => rfl
    | 2, _, _ => rfl
    | 3, _, _ => rfl
    | 4, _, _ => rfl
    | 6, _, _ => rfl
    | 7, _, _ => rfl
    | 8, _, _ => rfl
    | 9, _, _ => rfl

abbrev Spt := Nat × Nat × Nat
/-- What is left to be laid out, as pointers. -/
def qv (q : Spt) : Value := .pointer (some ⟨q.2.1, q.2.2, none⟩)
def news (kb : Nat) (L : List Nat) (m : Nat) : List Spt := (List.range m).map fun j => (L.getD j 0, kb, j * 11)
theorem news_succ (kb : Nat) (L : List Nat) (m : Nat) : news kb L (m + 1) = news kb L m ++ [(L.getD m 0, kb, m * 11)] := by simp [news, List.range_succ]
theorem news_mem {kb : Nat} {L : List Nat} {m : Nat} {q : Spt} (h : q ∈ news kb L m) : ∃ j, j < m ∧ q = (L.getD j 0, kb, j * 11) := by
  simp only [news, List.mem_map, List.mem_range] at h
  obtain ⟨j, h1, h2⟩ := h
  exact ⟨j, h1, h2.symm⟩
theorem news_get {kb : Nat} {L : List Nat} {j k : Nat} (h : L[j]? = some k) : (k, kb, j * 11) ∈ news kb L L.length := by
  have hj := (List.getElem?_eq_some_iff.1 h).1
  simp only [news, List.mem_map, List.mem_range]
  exact ⟨j, hj, by simp [List.getD, h]⟩
theorem news_nodup (kb : Nat) (L : List Nat) (m : Nat) : ((news kb L m).map Prod.snd).Nodup := by
  rw [news, List.map_map]
  unfold List.Nodup
  rw [List.pairwise_map]
  refine List.Pairwise.imp ?_ (List.nodup_range (n := m))
  intro a b h e
  simp at e
  omega
theorem news_len (kb : Nat) (L : List Nat) (m : Nat) : (news kb L m).length = m := by simp [news]
def szs (sz : Nat → Nat) (Q : List Spt) : Nat := (Q.map fun q => sz q.1).sum
theorem szs_app (sz : Nat → Nat) (A B : List Spt) : szs sz (A ++ B) = szs sz A + szs sz B := by simp [szs]
theorem szs_news (sz : Nat → Nat) (kb : Nat) (L : List Nat) : szs sz (news kb L L.length) = (L.map sz).sum := by
  have : (news kb L L.length).map (fun q => sz q.1) = L.map sz := by
    apply List.ext_getElem?
    intro j
    simp only [news, List.map_map, List.getElem?_map]
    by_cases hj : j < L.length
    · rw [List.getElem?_range hj, List.getElem?_eq_getElem hj]
      simp [List.getD, List.getElem?_eq_getElem hj]
    · rw [List.getElem?_eq_none (by simp; omega), List.getElem?_eq_none (by omega)]
      rfl
  rw [szs, this]
theorem szs_len {sz : Nat → Nat} {Q : List Spt} (h : ∀ q ∈ Q, 1 ≤ sz q.1) : Q.length ≤ szs sz Q := by
  induction Q with
  | nil => simp
  | cons a Q ih =>
    have h1 := h a (by simp)
    have h2 := ih (fun q hq => h q (by simp [hq]))
    simp only [szs, List.map_cons, List.sum_cons, List.length_cons] at h2 ⊢
    omega

/-- The tree in the making: Dn is laid out, Q is left. -/
structure TI (B : Nat) (w : World) (N : List Nd) (K : Nat → List Nat) (r id : Nat) (Dn : Nat → Nat → Nat → Prop) (Q : List Spt) : Prop where
  dn : ∀ i b off, Dn i b off → ∃ d kp kc kb, N[i]? = some d ∧ NAt B w d b off (.slice kp (K i).length kc) ∧ off % 11 = 0 ∧ (K i ≠ [] → kp = some ⟨kb, 0, none⟩) ∧ ∀ j k, (K i)[j]? = some k → Dn k kb (j * 11) ∨ (k, kb, j * 11) ∈ Q
  pn : ∀ i b off, (i, b, off) ∈ Q → ∃ d, N[i]? = some d ∧ NAt B w d b off (.slice none 0 0) ∧ off % 11 = 0
  un : (Q.map Prod.snd).Nodup
  ap : ∀ i b off i', Dn i b off → (i', b, off) ∉ Q
  rt : Dn id r 0 ∨ (id, r, 0) ∈ Q
theorem TI.same {B : Nat} {w w' : World} {N : List Nd} {K : Nat → List Nat} {r id : Nat} {Dn : Nat → Nat → Nat → Prop} {Q : List Spt} (h : TI B w N K r id Dn Q) (hk : ∀ k cur t, w.heap[k]? = some (.cells cur t (0, 0)) → B ≤ k → t ≠ 81 → w'.heap[k]? = w.heap[k]?) : TI B w' N K r id Dn Q := by
  refine ⟨fun i b off hd => ?_, fun i b off hq => ?_, h.un, h.ap, h.rt⟩
  · obtain ⟨d, kp, kc, kb, h1, h2, h3⟩ := h.dn i b off hd
    exact ⟨d, kp, kc, kb, h1, h2.same hk, h3⟩
  · obtain ⟨d, h1, h2, h3⟩ := h.pn i b off hq
    exact ⟨d, h1, h2.same hk, h3⟩
theorem TI.old {B : Nat} {w w' : World} {N : List Nd} {K : Nat → List Nat} {r id : Nat} {Dn : Nat → Nat → Nat → Prop} {Q : List Spt} (h : TI B w N K r id Dn Q) (k : Below w.heap.size w w') : TI B w' N K r id Dn Q :=
  h.same fun i _ _ hi _ _ => k.block i (Array.getElem?_eq_some_iff.1 hi).1
/-- One node more is laid out. -/
theorem TI.step {B : Nat} {w1 wr : World} {N : List Nd} {K : Nat → List Nat} {r id i b off : Nat} {Dn : Nat → Nat → Nat → Prop} {Q : List Spt} {cur : Array Value} {M : List Nd} {v : Value} (h : TI B w1 N K r id Dn (Q ++ [(i, b, off)])) (hB : B ≤ w1.heap.size) (k : KR w1 wr b (off + 10) cur M v) (hl : M.length = (K i).length) (hM : ∀ t k : Nat, (K i)[t]? = some k → ∃ (d : Nd) (av : Value), N[k]? = some d ∧ M[t]? = some { d with av := av }) :
    ∃ kb, (∀ j, j < (K i).length → ∃ cap, v = .slice (some ⟨kb, 0, none⟩) (K i).length cap) ∧ TI B wr N K r id (fun i' b' off' => Dn i' b' off' ∨ (i' = i ∧ b' = b ∧ off' = off)) (Q ++ news kb (K i) (K i).length) := by
  obtain ⟨d0, hd0, n0, ho0⟩ := h.pn i b off (by simp)
  obtain ⟨ao, cap, hv, _⟩ := k.row.slice
  obtain ⟨kb, hkb⟩ : ∃ kb, K i ≠ [] → v = .slice (some ⟨kb, 0, none⟩) (K i).length cap := by
    by_cases hK : K i = []
    · exact ⟨0, fun e => absurd hK e⟩
    · obtain ⟨g, cap', _, hv', _⟩ := k.row.form (by rw [hl]; exact List.length_pos_iff.2 hK)
      rw [hv] at hv'
      simp at hv'
      exact ⟨g, fun _ => by rw [hv, hv'.1, hl]⟩
  have hne : ∀ j, j < (K i).length → K i ≠ [] := fun j hj e => by rw [e] at hj; simp at hj
  have hnew : ∀ j, j < (K i).length → ¬ kb < w1.heap.size := fun j hj => k.row.out kb (by rw [hkb (hne j hj)]; rfl)
  have hfar : ∀ {d : Nd} {b' off' : Nat} {kv : Value}, NAt B w1 d b' off' kv → off' % 11 = 0 → (b', off') ≠ (b, off) → NAt B wr d b' off' kv := fun hn hm he => hn.kr k fun j hj e e2 => he (by subst e; simp; omega)
  have hbelow : ∀ {d : Nd} {b' off' : Nat} {kv : Value}, NAt B w1 d b' off' kv → b' < w1.heap.size := fun hn => by
    obtain ⟨c, hc⟩ := hn.ty
    exact (Array.getElem?_eq_some_iff.1 hc).1
  have hun := h.un
  rw [List.map_append, List.nodup_append] at hun
  obtain ⟨un1, _, un3⟩ := hun
  have hq : ∀ i' b' off', (i', b', off') ∈ Q → (b', off') ≠ (b, off) := fun i' b' off' hm e => un3 (b', off') (List.mem_map.2 ⟨(i', b', off'), hm, rfl⟩) (b, off) (by simp) e
  refine ⟨kb, fun j hj => ⟨cap, hkb (hne j hj)⟩, ⟨fun i' b' off' hd => ?_, fun i' b' off' hm => ?_, ?_, ?_, ?_⟩⟩
  · rcases hd with hd | ⟨rfl, rfl, rfl⟩
    · obtain ⟨d, kp, kc, kb', h1, h2, h3, h4, h5⟩ := h.dn i' b' off' hd
      refine ⟨d, kp, kc, kb', h1, hfar h2 h3 (fun e => ?_), h3, h4, fun j q hj => ?_⟩
      · simp at e
        exact h.ap i' b' off' i hd (by rw [e.1, e.2]; simp)
      · rcases h5 j q hj with h6 | h6
        · exact .inl (.inl h6)
        · rcases List.mem_append.1 h6 with h6 | h6
          · exact .inr (List.mem_append_left _ h6)
          · simp at h6
            exact .inl (.inr ⟨h6.1, h6.2.1, h6.2.2⟩)
    · have hdn := n0.done k
      rw [hv, hl] at hdn
      refine ⟨d0, ao, cap, kb, hd0, hdn, ho0, fun hK => ?_, fun j q hj => .inr (List.mem_append_right _ (news_get hj))⟩
      have := hkb hK
      rw [hv] at this
      simp at this
      exact this.1
  · rcases List.mem_append.1 hm with hm | hm
    · obtain ⟨d, h1, h2, h3⟩ := h.pn i' b' off' (List.mem_append_left _ hm)
      exact ⟨d, h1, hfar h2 h3 (hq i' b' off' hm), h3⟩
    · obtain ⟨j, hj, e⟩ := news_mem hm
      simp at e
      obtain ⟨rfl, rfl, rfl⟩ := e
      obtain ⟨q, hq'⟩ : ∃ q, (K i)[j]? = some q := ⟨_, List.getElem?_eq_getElem hj⟩
      obtain ⟨d, av, h1, h2⟩ := hM j q hq'
      have k' := k
      rw [hkb (hne j hj)] at k'
      have e0 : (K i)[j]?.getD 0 = q := by rw [hq']; rfl
      exact ⟨d, by rw [e0]; exact h1, k'.kid hB hl h2, by omega⟩
  · rw [List.map_append, List.nodup_append]
    refine ⟨un1, news_nodup _ _ _, fun a ha c hc e => ?_⟩
    obtain ⟨⟨i1, b1, o1⟩, m1, rfl⟩ := List.mem_map.1 ha
    obtain ⟨⟨i2, b2, o2⟩, m2, rfl⟩ := List.mem_map.1 hc
    obtain ⟨d, _, h2, _⟩ := h.pn i1 b1 o1 (List.mem_append_left _ m1)
    obtain ⟨j, hj, e2⟩ := news_mem m2
    simp at e e2
    have := hnew j hj
    have := hbelow h2
    omega
  · intro i' b' off' i2 hd hm
    rcases List.mem_append.1 hm with hm | hm
    · rcases hd with hd | ⟨_, rfl, rfl⟩
      · exact h.ap i' b' off' i2 hd (List.mem_append_left _ hm)
      · exact hq i2 b' off' hm rfl
    · obtain ⟨j, hj, e⟩ := news_mem hm
      simp at e
      have h9 := hnew j hj
      rcases hd with hd | ⟨_, rfl, rfl⟩
      · obtain ⟨d, kp, kc, kb', h1, h2, _⟩ := h.dn i' b' off' hd
        have := hbelow h2
        omega
      · have := hbelow n0
        omega
  · rcases h.rt with h6 | h6
    · exact .inl (.inl h6)
    · rcases List.mem_append.1 h6 with h6 | h6
      · exact .inr (List.mem_append_left _ h6)
      · simp at h6
        exact .inl (.inr ⟨h6.1, h6.2.1, h6.2.2⟩)

/-- A tree that lies at a place. -/
inductive TAt (B : Nat) (w : World) (N : List Nd) (K : Nat → List Nat) : Nat → Nat → Nat → Prop
  | mk {i b off kc kb ko : Nat} {d : Nd} {kp : Option Addr} (hd : N[i]? = some d) (h : NAt B w d b off (.slice kp (K i).length kc)) (hp : K i ≠ [] → kp = some ⟨kb, ko, none⟩) (hk : ∀ j k, (K i)[j]? = some k → TAt B w N K k kb (ko + j * 11)) : TAt B w N K i b off
theorem TI.tree {B : Nat} {w : World} {N : List Nd} {K : Nat → List Nat} {r id : Nat} {Dn : Nat → Nat → Nat → Prop} (h : TI B w N K r id Dn []) {sz : Nat → Nat} (hsz : ∀ i k, k ∈ K i → sz k < sz i) : ∀ (n i b off : Nat), sz i < n → Dn i b off → TAt B w N K i b off
  | 0, _, _, _, hn, _ => absurd hn (Nat.not_lt_zero _)
  | n + 1, i, b, off, hn, hd => by
    obtain ⟨d, kp, kc, kb, h1, h2, h3, h4, h5⟩ := h.dn i b off hd
    refine .mk (kb := kb) (ko := 0) h1 h2 h4 fun j k hj => ?_
    rw [Nat.zero_add]
    refine TI.tree h hsz n k kb (j * 11) (by have := hsz i k (List.mem_of_getElem? hj); omega) ?_
    rcases h5 j k hj with h6 | h6
    · exact h6
    · simp at h6
theorem TAt.mv {B : Nat} {w w' : World} {N : List Nd} {K : Nat → List Nat} {i b off : Nat} (h : TAt B w N K i b off) (hk : ∀ k cur t, w.heap[k]? = some (.cells cur t (0, 0)) → B ≤ k → t ≠ 81 → w'.heap[k]? = w.heap[k]?) : TAt B w' N K i b off := by
  induction h with
  | mk hd h hp _ ih => exact .mk hd (h.same hk) hp ih
theorem NAt.low' {B B' : Nat} {w : World} {d : Nd} {b off : Nat} {kv : Value} (h : NAt B w d b off kv) (hB : B' ≤ B) : NAt B' w d b off kv := by
  obtain ⟨ao, ac, h5, hr⟩ := h.at5
  exact ⟨Nat.le_trans hB h.low, h.ty, h.cs, h.c10, ao, ac, h5, hr.sub fun i hi => Nat.lt_of_lt_of_le hi hB⟩
theorem TAt.low {B B' : Nat} {w : World} {N : List Nd} {K : Nat → List Nat} {i b off : Nat} (h : TAt B w N K i b off) (hB : B' ≤ B) : TAt B' w N K i b off := by
  induction h with
  | mk hd h hp _ ih => exact .mk hd (h.low' hB) hp ih
end Go.Proofs.Ytcdaghlbfclpkaa
