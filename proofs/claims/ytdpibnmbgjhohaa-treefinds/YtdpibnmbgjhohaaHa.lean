/- A copy, stripped in place: what stands on the way. -/
import Derived.Test.YtdpibnmbgjhohaaAk
import Derived.Test.YtdpibnmbgjhohaaBj
namespace Go.Proofs.Ytdpibnmbgjhohaa
open Go.RowKit

/-- A node without number and spans, its attributes in order. -/
def sD (d : Nd) : Nd := { d with id := 0, al := sortP d.al, sf := -1, st := -1, ef := -1, et := -1 }
mutual
def sT : Tr → Tr
  | .mk d ks => .mk (sD d) (sL ks)
def sL : List Tr → List Tr
  | [] => []
  | t :: ts => sT t :: sL ts
end
theorem sL_at : ∀ (l : List Tr) (j : Nat), (sL l)[j]? = (l[j]?).map sT
  | [], j => by rw [sL]; simp
  | t :: ts, 0 => by rw [sL]; rfl
  | t :: ts, j + 1 => by rw [sL]; simpa using sL_at ts j
theorem sL_len : ∀ (l : List Tr), (sL l).length = l.length
  | [] => by rw [sL]
  | t :: ts => by rw [sL, List.length_cons, sL_len ts, List.length_cons]
/-- What does not turn: the blocks, whose kids lie where. -/
structure Fix (N : Nat) (Es : List En) : Prop where
  gs : ∀ e ∈ Es, ∀ f ∈ Es, e.g = f.g → e = f
  kd : ∀ e ∈ Es, ∀ (j : Nat) t, e.ts[j]? = some t → ∃ kp kc, e.kv j = .slice kp t.k.length kc ∧ t.k.length ≤ kc ∧ kc ≤ maxLen ∧ (t.k ≠ [] → ∃ f ∈ Es, f.ts = t.k ∧ kp = some ⟨f.g, 0, none⟩)
  ap : ∀ e ∈ Es, ∀ f ∈ Es, ∀ (i j : Nat), i < e.ts.length → j < f.ts.length → ∀ b, (e.av i).ownBlock = some b → (f.av j).ownBlock = some b → e = f ∧ i = j
  kap : ∀ e ∈ Es, ∀ f ∈ Es, ∀ (i j : Nat), i < e.ts.length → j < f.ts.length → ∀ b, (e.kv i).ownBlock = some b → (f.kv j).ownBlock = some b → e = f ∧ i = j
  ge : ∀ e ∈ Es, N ≤ e.g
/-- What lies there: of the block g the first c g nodes are stripped. -/
structure Ms (N : Nat) (W : World) (Es : List En) (c : Nat → Nat) : Prop where
  blk : ∀ e ∈ Es, ∃ cur, W.heap[e.g]? = some (.cells cur 27 (0, 0))
  cs : ∀ e ∈ Es, ∀ (j : Nat) t, e.ts[j]? = some t → CellsAt W e.g (j * 11) ((if j < c e.g then sD t.d else t.d).cs (e.av j) (e.kv j))
  row : ∀ e ∈ Es, ∀ (j : Nat) t, e.ts[j]? = some t → Rw (fun k => k < N) W 53 2 (e.av j) t.d.al.length ((if j < c e.g then sortP t.d.al else t.d.al).flatMap At.cells)
/-- How far the walk is. -/
structure Wk (Es : List En) (root : En) (c : Nat → Nat) (m M : Nat) (st : List Sl) (Op : List (En × Nat)) : Prop where
  rel : Lr st Op
  op : ∀ p ∈ Op, p.2 < p.1.ts.length → p.1 ∈ Es ∧ p.2 = c p.1.g
  opd : Op.Pairwise (fun p q => p.2 < p.1.ts.length → q.2 < q.1.ts.length → p.1.g ≠ q.1.g)
  fresh : ∀ e ∈ Es, ∀ (j : Nat) t, e.ts[j]? = some t → c e.g ≤ j → t.k ≠ [] → ∀ f ∈ Es, (e.kv j).ownBlock = some f.g → c f.g = 0 ∧ ∀ p ∈ Op, p.2 < p.1.ts.length → p.1.g ≠ f.g
  vis : ∀ e ∈ Es, ∀ (j : Nat) t, e.ts[j]? = some t → j < c e.g → t.k ≠ [] → ∀ f ∈ Es, (e.kv j).ownBlock = some f.g → c f.g = f.ts.length ∨ (f, c f.g) ∈ Op
  rt : root ∈ Es ∧ (c root.g = root.ts.length ∨ (root, c root.g) ∈ Op)
  ms : m = msr Op
  dep : st.length + cnt Op ≤ M
theorem Ms.mv {N : Nat} {W W' : World} {Es : List En} {c : Nat → Nat} (h : Ms N W Es c)
    (hb : ∀ (g : Nat) (cur : Array Value), W.heap[g]? = some (.cells cur 53 (0, 0)) → W'.heap[g]? = W.heap[g]?) (hn : ∀ (g : Nat) (cur : Array Value), W.heap[g]? = some (.cells cur 27 (0, 0)) → N ≤ g → W'.heap[g]? = W.heap[g]?) (hf : Fix N Es) : Ms N W' Es c :=
  ⟨fun e he => by obtain ⟨cur, hc⟩ := h.blk e he; exact ⟨cur, (hn _ _ hc (hf.ge e he)).trans hc⟩,
  fun e he j t hj => by obtain ⟨cur, hc⟩ := h.blk e he; exact (h.cs e he j t hj).mv (hn _ _ hc (hf.ge e he)),
  fun e he j t hj => (h.row e he j t hj).mv fun g hg => by obtain ⟨_, cur, hc⟩ := own_blk (h.row e he j t hj).own hg; exact hb g cur hc⟩
theorem Wk.pop {Es : List En} {root : En} {c : Nat → Nat} {m M : Nat} {a : Option Addr} {cc : Nat} {st : List Sl} {Op : List (En × Nat)} (h : Wk Es root c (m + 1) M ((a, 0, cc) :: st) Op) : ∃ Op', Wk Es root c m M st Op' := by
  cases hr : h.rel with
  | cons hl ht =>
    rename_i p ps
    have hp0 : p.2 = p.1.ts.length := by have := hl.1; simp only [] at this; omega
    have hlf : lft p = [] := by unfold lft; exact List.drop_eq_nil_of_le (by omega)
    refine ⟨ps, ht, fun q hq => h.op q (by simp [hq]), (List.pairwise_cons.1 h.opd).2, fun e he j t hj hc hk f hf hb => ⟨(h.fresh e he j t hj hc hk f hf hb).1, fun q hq => (h.fresh e he j t hj hc hk f hf hb).2 q (by simp [hq])⟩, fun e he j t hj hc hk f hf hb => ?_, ⟨h.rt.1, ?_⟩, ?_, ?_⟩
    · rcases h.vis e he j t hj hc hk f hf hb with h1 | h1
      · exact .inl h1
      · rw [List.mem_cons] at h1
        rcases h1 with h1 | h1
        · rw [← h1] at hp0
          exact .inl hp0
        · exact .inr h1
    · rcases h.rt.2 with h1 | h1
      · exact .inl h1
      · rw [List.mem_cons] at h1
        rcases h1 with h1 | h1
        · rw [← h1] at hp0
          exact .inl hp0
        · exact .inr h1
    · have := h.ms
      simp only [msr, hlf, cL] at this
      omega
    · have := h.dep
      simp only [cnt, hlf, cL, List.length_cons] at this
      omega
theorem Wk.top {Es : List En} {root : En} {c : Nat → Nat} {m M n cc : Nat} {a : Addr} {st : List Sl} {Op : List (En × Nat)} (h : Wk Es root c m M ((some a, n + 1, cc) :: st) Op) :
    ∃ e k Op' u, Op = (e, k) :: Op' ∧ e ∈ Es ∧ k = c e.g ∧ e.ts[k]? = some u ∧ a = ⟨e.g, k * 11, none⟩ := by
  cases hr : h.rel with
  | cons hl ht =>
    rename_i p ps
    obtain ⟨e, k⟩ := p
    have hl1 := hl.1
    simp only [] at hl1
    have hk : k < e.ts.length := by omega
    obtain ⟨u, hu⟩ : ∃ u, e.ts[k]? = some u := ⟨_, List.getElem?_eq_getElem hk⟩
    obtain ⟨h1, h2⟩ := h.op (e, k) (by simp) hk
    refine ⟨e, k, ps, u, rfl, h1, h2, hu, ?_⟩
    have := hl.2.2.2 (by simp)
    simpa using this
/-- One node more is stripped. -/
def upd (c : Nat → Nat) (g k : Nat) : Nat → Nat := fun i => if i = g then k else c i
theorem Wk.next {N : Nat} {Es : List En} {root : En} {c : Nat → Nat} {m M n cc : Nat} {a : Addr} {st : List Sl} {e : En} {k : Nat} {u : Tr} {Op : List (En × Nat)} (hf : Fix N Es) (h : Wk Es root c (m + 1) M ((some a, n + 1, cc) :: st) ((e, k) :: Op)) (he : e ∈ Es) (hck : k = c e.g) (hu : e.ts[k]? = some u) :
    ∃ kp kc Op', e.kv k = .slice kp u.k.length kc ∧ Wk Es root (upd c e.g (k + 1)) m M ((kp, u.k.length, kc) :: (some (nx a cc), n, cc - 1) :: st) Op' := by
  obtain ⟨kp, kc, hkv, hk1, hk2, hk3⟩ := hf.kd e he k u hu
  have hkl : k < e.ts.length := (List.getElem?_eq_some_iff.1 hu).1
  cases h.rel with
  | cons hl ht =>
    have hl1 := hl.1
    simp only [] at hl1
    have ha : a = ⟨e.g, k * 11, none⟩ := by
      have := hl.2.2.2 (by simp)
      simpa using this
    have hcc : n + 1 ≤ cc := hl.2.1
    obtain ⟨f, hfk⟩ : ∃ f : En, (u.k ≠ [] → f ∈ Es ∧ kp = some ⟨f.g, 0, none⟩) ∧ f.ts = u.k := by
      by_cases hne : u.k = []
      · exact ⟨⟨0, u.k, fun _ => undef, fun _ => undef⟩, fun h => absurd hne h, rfl⟩
      · obtain ⟨f, h1, h2, h3⟩ := hk3 hne
        exact ⟨f, fun _ => ⟨h1, h3⟩, h2⟩
    obtain ⟨hfk, hft⟩ := hfk
    have hown : u.k ≠ [] → (e.kv k).ownBlock = some f.g := fun hne => by
      rw [hkv, (hfk hne).2]
      rfl
    have hfr : u.k ≠ [] → c f.g = 0 ∧ f.g ≠ e.g ∧ ∀ p ∈ Op, p.2 < p.1.ts.length → p.1.g ≠ f.g := fun hne => by
      obtain ⟨h1, h2⟩ := h.fresh e he k u hu (by omega) hne f (hfk hne).1 (hown hne)
      exact ⟨h1, fun e' => h2 (e, k) (by simp) hkl e'.symm, fun p hp => h2 p (by simp [hp])⟩
    have ue : upd c e.g (k + 1) e.g = k + 1 := by simp [upd]
    have uo : ∀ i, i ≠ e.g → upd c e.g (k + 1) i = c i := fun i hi => by simp [upd, hi]
    have tl : ∀ p ∈ Op, p.2 < p.1.ts.length → p.1.g ≠ e.g := fun p hp hlt e' => (List.pairwise_cons.1 h.opd).1 p hp hkl hlt e'.symm
    have hfne : f.ts.length ≠ 0 → u.k ≠ [] := fun h1 h2 => by rw [hft, h2] at h1; exact h1 rfl
    have hnext := lft_next (e := e) (e' := e) hu rfl
    refine ⟨kp, kc, (f, 0) :: (e, k + 1) :: Op, hkv, .cons ⟨?_, hk1, hk2, fun h0 => ?_⟩ (.cons ⟨?_, ?_, ?_, fun h0 => ?_⟩ ht), ?_, ?_, ?_, ?_, ⟨h.rt.1, ?_⟩, ?_, ?_⟩
    · rw [hft]; simp
    · simp only [] at h0
      have hne : u.k ≠ [] := fun e0 => by rw [e0] at h0; simp at h0
      simpa using (hfk hne).2
    · simp only []; omega
    · simp only []; omega
    · have := hl.2.2.1; simp only [] at this ⊢; omega
    · simp only [] at h0 ⊢
      rw [nx, if_neg (by omega), ha]
      simp only [Option.some.injEq, Addr.mk.injEq, and_true, true_and]
      omega
    · -- op
      intro p hp hlt
      simp only [List.mem_cons] at hp
      rcases hp with rfl | rfl | hp
      · have hne := hfne (by simp only [] at hlt; omega)
        exact ⟨(hfk hne).1, by rw [uo _ (hfr hne).2.1, (hfr hne).1]⟩
      · exact ⟨he, ue.symm⟩
      · obtain ⟨h1, h2⟩ := h.op p (by simp [hp]) hlt
        exact ⟨h1, by rw [uo _ (tl p hp hlt)]; exact h2⟩
    · -- opd
      rw [List.pairwise_cons, List.pairwise_cons]
      refine ⟨fun q hq h1 h2 => ?_, fun q hq h1 h2 => ?_, (List.pairwise_cons.1 h.opd).2⟩
      · have hne := hfne (by simp only [] at h1; omega)
        simp only [List.mem_cons] at hq
        rcases hq with rfl | hq
        · exact (hfr hne).2.1
        · exact fun e' => (hfr hne).2.2 q hq h2 e'.symm
      · exact fun e' => tl q hq h2 e'.symm
    · -- fresh
      intro e1 he1 j t hj hc hk f1 hf1 hb
      have hjl : j < e1.ts.length := (List.getElem?_eq_some_iff.1 hj).1
      have hold : c e1.g ≤ j := by
        by_cases e0 : e1.g = e.g
        · rw [e0, ue] at hc
          rw [e0]; omega
        · rw [uo _ e0] at hc; exact hc
      obtain ⟨h1, h2⟩ := h.fresh e1 he1 j t hj hold hk f1 hf1 hb
      have hne1 : f1.g ≠ e.g := fun e' => h2 (e, k) (by simp) hkl e'.symm
      refine ⟨by rw [uo _ hne1]; exact h1, fun p hp hlt => ?_⟩
      simp only [List.mem_cons] at hp
      rcases hp with rfl | rfl | hp
      · have hne := hfne (by simp only [] at hlt; omega)
        intro e0
        simp only [] at e0
        have := hf.kap e1 he1 e he j k hjl hkl f1.g hb (by rw [hown hne, e0])
        obtain ⟨rfl, rfl⟩ := this
        rw [ue] at hc
        omega
      · exact fun e' => hne1 e'.symm
      · exact h2 p (by simp [hp]) hlt
    · -- vis
      intro e1 he1 j t hj hc hk f1 hf1 hb
      by_cases hnew : e1 = e ∧ j = k
      · obtain ⟨rfl, rfl⟩ := hnew
        rw [hu] at hj
        cases hj
        have hff : f1 = f := hf.gs f1 hf1 f (hfk hk).1 (by
          have := hown hk
          rw [hb] at this
          exact Option.some.inj this)
        subst hff
        right
        rw [uo _ (hfr hk).2.1, (hfr hk).1]
        simp
      · have hold : j < c e1.g := by
          by_cases e0 : e1.g = e.g
          · have : e1 = e := hf.gs e1 he1 e he e0
            subst this
            rw [ue] at hc
            have : j ≠ k := fun h => hnew ⟨rfl, h⟩
            omega
          · rw [uo _ e0] at hc; exact hc
        rcases h.vis e1 he1 j t hj hold hk f1 hf1 hb with h1 | h1
        · left
          rw [uo]
          · exact h1
          · intro e0
            have : f1 = e := hf.gs f1 hf1 e he e0
            subst this
            omega
        · rw [List.mem_cons] at h1
          rcases h1 with h1 | h1
          · have : f1 = e := congrArg Prod.fst h1
            subst this
            right
            rw [ue]
            simp
          · by_cases hfl : c f1.g = f1.ts.length
            · left
              rw [uo]
              · exact hfl
              · intro e0
                have : f1 = e := hf.gs f1 hf1 e he e0
                subst this
                omega
            · right
              by_cases e0 : f1.g = e.g
              · have : f1 = e := hf.gs f1 hf1 e he e0
                subst this
                exact absurd rfl (tl (f1, c f1.g) h1 (by simp only []; omega))
              · rw [uo _ e0]
                simp [h1]
    · -- rt
      have hr := h.rt.1
      rcases h.rt.2 with h1 | h1
      · left
        rw [uo]
        · exact h1
        · intro e0
          have : root = e := hf.gs root hr e he e0
          subst this
          omega
      · rw [List.mem_cons] at h1
        rcases h1 with h1 | h1
        · have : root = e := congrArg Prod.fst h1
          subst this
          right
          rw [ue]
          simp
        · by_cases hfl : c root.g = root.ts.length
          · left
            rw [uo]
            · exact hfl
            · intro e0
              have : root = e := hf.gs root hr e he e0
              subst this
              omega
          · right
            by_cases e0 : root.g = e.g
            · have : root = e := hf.gs root hr e he e0
              subst this
              exact absurd rfl (tl (root, c root.g) h1 (by simp only []; omega))
            · rw [uo _ e0]
              simp [h1]
    · have := h.ms
      have e3 : lft (f, 0) = u.k := by unfold lft; simp only [hft]; rfl
      simp only [msr, hnext, cL, e3] at this ⊢
      obtain ⟨d, ks⟩ := u
      simp only [cT, Tr.k] at this ⊢
      omega
    · have := h.dep
      have e3 : lft (f, 0) = u.k := by unfold lft; simp only [hft]; rfl
      simp only [cnt, hnext, cL, List.length_cons, e3] at this ⊢
      obtain ⟨d, ks⟩ := u
      simp only [cT, Tr.k] at this ⊢
      omega
end Go.Proofs.Ytdpibnmbgjhohaa
