/- Two machines: each stands while the other goes on, and so do the tokens that were told. -/
import Derived.Test.YtjjfalbngcbfaaaGreatDoorWa
import Derived.Test.YtjjfalbngcbfaaaGreatDoorYc
import Derived.Test.YtjjfalbngcbfaaaGreatDoorVc
namespace Go.Proofs.YtjjfalbngcbfaaaGreatDoor
open Go.RowKit Go.Maps

/-- What is kept just as long as U is, and speaks of a cell of a block, speaks of a block of U. -/
theorem stays_in {U : Nat → Prop} {P : World → Prop} {w : World} {b : Nat} (h : Stays U w P) (hb : b < w.heap.size) (hP : ∀ a : World, P a → ∃ off u, a.cell? ⟨b, off, none⟩ = some u) : U b := by
  apply Classical.byContradiction
  intro hU
  have hk : Keep U w { w with heap := w.heap.set b (.cells #[] 0 (0, 0)) hb } := ⟨rfl, rfl, rfl, by simp, fun k hk _ => by
    have : b ≠ k := fun e => hU (e ▸ hk)
    simp [Array.getElem?_set_ne, this]⟩
  obtain ⟨off, u, e⟩ := hP _ (h _ hk)
  simp [World.cell?] at e

/-- Tokens that lie in blocks of P. -/
structure Held (P : Nat → Prop) (ao : Option Addr) (T : List TL) (w : World) : Prop where
  row : G9.TkRow w ao T
  rb : T ≠ [] → ∀ b off, ao = some ⟨b, off, none⟩ → P b
  ab : ∀ t ∈ T, t.2 ≠ [] → ∀ b off, t.1.ao = some ⟨b, off, none⟩ → P b
theorem Held.keep {P Q : Nat → Prop} {ao : Option Addr} {T : List TL} {w w' : World} (h : Held P ao T w) (hk : ∀ k, P k → k < w.heap.size → w'.heap[k]? = w.heap[k]?) (hs : w.heap.size ≤ w'.heap.size) (hQ : ∀ k, P k → k < w.heap.size → Q k) : Held Q ao T w' := by
  refine ⟨fun i t ht => ?_, fun hT b off e => ?_, fun t ht hL b off e => ?_⟩
  · obtain ⟨⟨b, off, e, hb, hc⟩, ok⟩ := h.row i t ht
    have hne : T ≠ [] := fun e => by rw [e] at ht; simp at ht
    have hbb := hk b (h.rb hne b off e) hb
    refine ⟨⟨b, off, e, Nat.lt_of_lt_of_le hb hs, fun j u hj => ?_⟩, ok.len, fun j a ha => ?_, ok.small⟩
    · rw [← hc j u hj]
      simp [World.cell?, hbb]
    · obtain ⟨b', off', e', hb', c1, c2⟩ := ok.row j a ha
      have hne' : t.2 ≠ [] := fun e => by rw [e] at ha; simp at ha
      have hbb' := hk b' (h.ab t (List.mem_of_getElem? ht) hne' b' off' e') hb'
      refine ⟨b', off', e', Nat.lt_of_lt_of_le hb' hs, ?_, ?_⟩
      · rw [← c1]; simp [World.cell?, hbb']
      · rw [← c2]; simp [World.cell?, hbb']
  · cases T with
    | nil => exact absurd rfl hT
    | cons t T =>
      obtain ⟨⟨b', off', e', hb, _⟩, _⟩ := h.row 0 t rfl
      rw [e] at e'
      cases e'
      exact hQ b (h.rb hT b off e) hb
  · obtain ⟨i, hi⟩ := List.getElem?_of_mem ht
    obtain ⟨_, ok⟩ := h.row i t hi
    cases hA : t.2 with
    | nil => exact absurd hA hL
    | cons a A =>
      obtain ⟨b', off', e', hb, _⟩ := ok.row 0 a (by rw [hA]; rfl)
      rw [e] at e'
      cases e'
      exact hQ b (h.ab t ht hL b off e) hb
theorem Held.below {P : Nat → Prop} {ao : Option Addr} {T : List TL} {w w' : World} (h : Held P ao T w) (b : Below w.heap.size w w') : Held P ao T w' := h.keep (fun k _ hk => b.block k hk) b.size fun _ h _ => h
theorem held_of {Z U : Nat → Prop} {ao : Option Addr} {T : List TL} {w : World} (hr : G9.TkRow w ao T) (ht : ∀ t ∈ T, Stays U w fun w => TkS Z w t.1 t.2) (hb : T ≠ [] → ∀ b off, ao = some ⟨b, off, none⟩ → U b ∧ ¬ Z b) : Held (fun k => U k ∧ ¬ Z k) ao T w := by
  refine ⟨hr, hb, fun t hm hL b off e => ?_⟩
  have hs := ht t hm
  obtain ⟨d, cur, z, e1, e2, e3⟩ := hs.now.2 hL
  rw [e] at e1
  cases e1
  refine ⟨stays_in hs (Array.getElem?_eq_some_iff.1 e2).1 fun a ha => ?_, e3⟩
  cases hA : t.2 with
  | nil => exact absurd hA hL
  | cons x A =>
    obtain ⟨b', off', e', _, c1, _⟩ := ha.1.row 0 x (by rw [hA]; rfl)
    rw [e] at e'
    cases e'
    exact ⟨_, _, c1⟩

/-- A machine that has told all, all but its own held fast. -/
structure St (x : Nat) (m : Mc) (v : Vs) (w : World) : Prop where
  mach : MachV NoZ (Rest x m v w) x m v [] w
  o : v.o = .slice none 0 0
  z0 : Rest x m v w 0
theorem St.of {Z S : Nat → Prop} {x : Nat} {m : Mc} {v : Vs} {w : World} (h : MachV Z S x m v [] w) (h0 : S 0) (ho : v.o = .slice none 0 0) : St x m v w := by
  have z0 : ¬ Foot x m v [] 0 := fun hf => (foot_out h hf).1 h0
  have hs0 := h.low 0 h0
  refine ⟨⟨fun k hk => hk.1, ⟨fun hx => hx.2 (.inl rfl), fun _ h => h.elim⟩, fun w2 k2 => ?_, h.blk, ⟨h.bag.own, fun i r hr g hg hR => hR.2 (.inr (.inl ⟨i, r, hr, hg⟩)), h.bag.apart⟩, h.names.mv (fun b e _ hR => hR.2 (.inr (.inr e))) (fun b e _ => rfl), ?_, h.told, fun t ht => by cases ht⟩, ho, hs0, z0⟩
  · have e : w2.heap[0]? = w.heap[0]? := k2.block 0 ⟨hs0, z0⟩ hs0
    intro i hi
    rw [← h.hi.now i hi]
    simp [World.cell?, e]
  · rcases h.trie with e | ⟨t, e, ht⟩
    · exact .inl e
    · refine .inr ⟨t, e, fun w2 k2 => trie_off (a := w) (fun k hkl hno => ?_) ht.now⟩
      exact k2.block k ⟨hkl, fun hf => hno (foot_no h hf)⟩ hkl
theorem St.below {x : Nat} {m : Mc} {v : Vs} {w w' : World} (h : St x m v w) (b : Below w.heap.size w w') : St x m v w' := St.of (h.mach.below b) h.z0 h.o
theorem St.past {x y : Nat} {m md : Mc} {v vd : Vs} {w w' : World} (h : St x m v w) (hd : St y md vd w) (hdis : ∀ k, Foot x m v [] k → ¬ Foot y md vd [] k) (hk : Keep (Rest y md vd w) w w') : St x m v w' := by
  refine ⟨h.mach.past h.z0 hd.mach hd.z0 hdis hk, h.o, Nat.lt_of_lt_of_le h.z0.1 hk.size, h.z0.2⟩
theorem St.lt {x : Nat} {m : Mc} {v : Vs} {w : World} (h : St x m v w) {k : Nat} (hk : Foot x m v [] k) : k < w.heap.size := (foot_out h.mach hk).2

theorem ended_len {n : Nat} {m : Mc} (h : Good n m) (hn : n < 20000) (at' : Int) : (m.ended at').1.length ≤ 300000 := by
  have key : ∀ r : Mc, Good n r → ((r.endS at').out ++ [(⟨6, 0, ByteArray.empty, ByteArray.empty, [], false, at', at'⟩ : Pt)]).length ≤ 300000 := fun r hr => by
    have h1 := (gr_endS r at').2.1
    have h2 := hr.w.mu
    have : (r.endS at').out.length ≤ (r.endS at').mu := by unfold Mc.mu; omega
    simp
    omega
  unfold Mc.ended
  dsimp only
  split
  · next hr => exact key _ (resolve_good h.w (.inl (h.ref.resolve_left hr)))
  · exact key _ h
/-- A machine went on, and told tokens. -/
structure Went (Z : Nat → Prop) (x : Nat) (m : Mc) (v : Vs) (w : World) (m' : Mc) (v' : Vs) (ao : Option Addr) (T : List TL) (w' : World) : Prop where
  st : St x m' v' w'
  keep : Keep (Rest x m v w) w w'
  foot : ∀ k, Foot x m' v' [] k → ¬ Rest x m v w k
  held : Held (fun k => ¬ Foot x m' v' [] k ∧ ¬ Z k) ao T w'
/-- What a call of a machine gives that tells tokens. -/
def Tells (Z : Nat → Prop) (x : Nat) (m : Mc) (v : Vs) (w : World) (m' : Mc) (L : List Pt) (e : Ending) (w' : World) : Prop :=
  ∃ v' ao T c, e = .returned (.slice ao T.length c) ∧ T.map ptOf = L ∧ T.length ≤ c ∧ T.length ≤ 10000000000 ∧ Went Z x m v w m' v' ao T w'

theorem St.feed {Z : Nat → Prop} {x : Nat} {m : Mc} {v : Vs} {w : World} (h : St x m v w) (hz : ∀ k, Z k → Rest x m v w k) {n0 : Nat} (hg : Good n0 m) {lo : Option Addr} {L : List Ch} (hrow : Stays (Rest x m v w) w (ChRow lo L)) (k cap : Nat) (hk : L.length = k) (hn : n0 + k ≤ 20000) (auto : Bool) :
    Calls Tryz.prog 16 #[mp x, .slice lo k cap, .bool auto] w (Tells Z x m v w (Mc.feeds auto L m).2 (Mc.feeds auto L m).1) := by
  refine (feedL_any (Z := Z) ⟨v, h.mach.rez hz, h.o⟩ hg hrow k cap hk hn auto).mono ?_
  rintro e w' ⟨ov, T, rfl, hT, hTl, hs⟩
  obtain ⟨U, v', s1, h1, hv, ho, hb, hT0, ht⟩ := hs.ex
  obtain ⟨ao, c, e1, hc, _⟩ := own_form ho
  simp only at e1 hc
  subst e1
  have hf : ∀ k, Foot x (Mc.feeds auto L m).2 v' [] k → ¬ U k := fun k hk => (foot_out h1 hk).1
  have hrow2 : G9.TkRow w' ao T := by
    rcases ho.2 with ⟨e, h0⟩ | ⟨g, cap, cur, z, e, hg, _, _, _, _, h4⟩
    · simp only at h0
      have : T = [] := List.eq_nil_of_length_eq_zero h0
      subst this
      exact G9.TkRow.nil _ _
    · simp only [Value.slice.injEq] at e
      obtain ⟨rfl, _, _⟩ := e
      exact (own_row hg h4 fun t hm => (ht t hm).now).1
  have hh := held_of hrow2 ht fun hne b off e => by
    rcases ho.2 with ⟨e2, h0⟩ | ⟨g, cap, cur, z, e2, _⟩
    · simp only at h0
      exact absurd (List.eq_nil_of_length_eq_zero h0) hne
    · simp only [Value.slice.injEq] at e2
      obtain ⟨rfl, _, _⟩ := e2
      cases e
      have := hb b rfl
      exact ⟨this.1, fun hz2 => this.2 (hz b hz2)⟩
  exact ⟨v', ao, T, c, rfl, hT, hc, hTl, St.of h1 (s1 0 h.z0) hv, hs.keep, fun k hk hR => hf k hk (s1 k hR), hh.keep (fun _ _ _ => rfl) (Nat.le_refl _) fun k hk _ => ⟨fun hfk => hf k hfk hk.1, hk.2⟩⟩
theorem St.fin {Z : Nat → Prop} {x : Nat} {m : Mc} {v : Vs} {w : World} (h : St x m v w) (hz : ∀ k, Z k → Rest x m v w k) {n : Nat} (hg : Good n m) (hn : n < 20000) (at' : Int) :
    Calls Tryz.prog 18 #[mp x, .int .i64 at'] w (Tells Z x m v w (m.ended at').2 (m.ended at').1) := by
  refine (end_any (Z := Z) ⟨v, [], h.mach.rez hz⟩ hg (by omega) at').mono ?_
  rintro e w' ⟨U, T, ao, c, rfl, hT, hc, s1, ⟨v', h1, hv⟩, hk, hs, hb⟩
  have hf : ∀ k, Foot x (m.ended at').2 v' [] k → ¬ U k := fun k hk => (foot_out h1 hk).1
  have hh := held_of hs.now.1 (fun t hm => hs.imp fun w' h => h.2 t hm) fun hne b off e => by
    refine ⟨?_, fun hz2 => hb b off e (hz b hz2)⟩
    cases T with
    | nil => exact absurd rfl hne
    | cons t T =>
      obtain ⟨⟨b', off', e', hbl, _⟩, _⟩ := hs.now.1 0 t rfl
      rw [e] at e'
      cases e'
      refine stays_in hs hbl fun a ha => ?_
      obtain ⟨⟨b2, off2, e2, _, hc2⟩, _⟩ := ha.1 0 t rfl
      rw [e] at e2
      cases e2
      exact ⟨_, _, hc2 0 (.int .i64 t.1.k) rfl⟩
  have hTl : T.length ≤ 10000000000 := by
    have := ended_len hg hn at'
    rw [← hT, List.length_map] at this
    omega
  exact ⟨v', ao, T, c, rfl, hT, hc, hTl, St.of h1 (s1 0 h.z0) hv, hk, fun k hk hR => hf k hk (s1 k hR), hh.keep (fun _ _ _ => rfl) (Nat.le_refl _) fun k hk _ => ⟨fun hfk => hf k hfk hk.1, hk.2⟩⟩
theorem St.copy {x : Nat} {m : Mc} {v : Vs} {w : World} (h : St x m v w) (hn : m.tot ≤ 1000000000) : Calls Tryz.prog 17 #[mp x] w fun e w' => ∃ v', e = .returned (mp w.heap.size) ∧ St w.heap.size m v' w' ∧ (∀ k, Foot w.heap.size m v' [] k → w.heap.size ≤ k) ∧ Below w.heap.size w w' := by
  refine (copy_any h.mach h.o hn).mono ?_
  rintro e w' ⟨v', rfl, h1, hv, _, b⟩
  exact ⟨v', rfl, St.of h1 h.z0.1 hv, fun k hk => Nat.le_of_not_lt (foot_out h1 hk).1, b⟩

/-- Two machines, apart, and blocks of neither that stay. -/
structure Duo (Q : Nat → Prop) (x z : Nat) (mx mz : Mc) (vx vz : Vs) (w : World) : Prop where
  sx : St x mx vx w
  sz : St z mz vz w
  dis : ∀ k, Foot x mx vx [] k → ¬ Foot z mz vz [] k
  qx : ∀ k, Q k → ¬ Foot x mx vx [] k
  qz : ∀ k, Q k → ¬ Foot z mz vz [] k
  ql : ∀ k, Q k → k < w.heap.size
/-- Blocks of neither of two machines. -/
abbrev Nor (x z : Nat) (mx mz : Mc) (vx vz : Vs) (k : Nat) : Prop := ¬ Foot x mx vx [] k ∧ ¬ Foot z mz vz [] k
theorem Duo.flip {Q : Nat → Prop} {x z : Nat} {mx mz : Mc} {vx vz : Vs} {w : World} (h : Duo Q x z mx mz vx vz w) : Duo Q z x mz mx vz vx w := ⟨h.sz, h.sx, fun k h1 h2 => h.dis k h2 h1, h.qz, h.qx, h.ql⟩
theorem Held.flip {x z : Nat} {mx mz : Mc} {vx vz : Vs} {ao : Option Addr} {T : List TL} {w : World} (h : Held (Nor x z mx mz vx vz) ao T w) : Held (Nor z x mz mx vz vx) ao T w := h.keep (fun _ _ _ => rfl) (Nat.le_refl _) fun _ h _ => ⟨h.2, h.1⟩
theorem Duo.below {Q : Nat → Prop} {x z : Nat} {mx mz : Mc} {vx vz : Vs} {w w' : World} (h : Duo Q x z mx mz vx vz w) (b : Below w.heap.size w w') : Duo Q x z mx mz vx vz w' := ⟨h.sx.below b, h.sz.below b, h.dis, h.qx, h.qz, fun k hk => Nat.lt_of_lt_of_le (h.ql k hk) b.size⟩
theorem Duo.far {Q : Nat → Prop} {x z : Nat} {mx mz : Mc} {vx vz : Vs} {w : World} (h : Duo Q x z mx mz vx vz w) : ∀ k, Foot z mz vz [] k → Rest x mx vx w k := fun k hk => ⟨h.sz.lt hk, fun hf => h.dis k hf hk⟩
/-- One of the two went on. -/
theorem Duo.step {Q : Nat → Prop} {x z : Nat} {mx mz m' : Mc} {vx vz v' : Vs} {w w' : World} {ao : Option Addr} {T : List TL} (h : Duo Q x z mx mz vx vz w) (k : Went (Foot z mz vz []) x mx vx w m' v' ao T w') :
    Duo Q x z m' mz v' vz w' ∧ Keep Q w w' ∧ Held (Nor x z m' mz v' vz) ao T w' ∧ ∀ bo U, Held (Nor x z mx mz vx vz) bo U w → Held (Nor x z m' mz v' vz) bo U w' := by
  have hf : ∀ i, Foot x m' v' [] i → ¬ Foot z mz vz [] i := fun i h1 h2 => k.foot i h1 (h.far i h2)
  have hq : ∀ i, Q i → Rest x mx vx w i := fun i hi => ⟨h.ql i hi, h.qx i hi⟩
  refine ⟨⟨k.st, h.sz.past h.sx (fun i h1 h2 => h.dis i h2 h1) k.keep, hf, fun i hi h1 => k.foot i h1 (hq i hi), h.qz, fun i hi => Nat.lt_of_lt_of_le (h.ql i hi) k.keep.size⟩, k.keep.sub hq, k.held, fun bo U hU => ?_⟩
  exact hU.keep (fun i hi hl => k.keep.block i ⟨hl, hi.1⟩ hl) k.keep.size fun i hi hl => ⟨fun h1 => k.foot i h1 ⟨hl, hi.1⟩, hi.2⟩

/-- Like tokens are the same. -/
theorem eqL_self (A : List At) : G9.eqL A A = true := G9.eqL_iff.2 rfl
theorem lsP_of : ∀ {A B : List TL}, A.map ptOf = B.map ptOf → G9.lsP A B = true
  | [], [], _ => rfl
  | [], _ :: _, h => by simp at h
  | _ :: _, [], h => by simp at h
  | x :: A, y :: B, h => by
    simp only [List.map_cons, List.cons.injEq] at h
    have ih := lsP_of h.2
    obtain ⟨⟨k, r, nm, tx, ao, n, cap, s, f, t⟩, L⟩ := x
    obtain ⟨⟨k', r', nm', tx', ao', n', cap', s', f', t'⟩, L'⟩ := y
    have h1 := h.1
    simp only [ptOf, Pt.mk.injEq] at h1
    obtain ⟨rfl, rfl, rfl, rfl, rfl, rfl, rfl, rfl⟩ := h1
    unfold G9.lsP G9.Tk.eqb
    simp [ih, eqL_self]
end Go.Proofs.YtjjfalbngcbfaaaGreatDoor
