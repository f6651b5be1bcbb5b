/- Pure: both arenas say the same: what else is done. -/
import Derived.Test.YtcdaghlbfclpkaaDb
import Derived.Test.YtcdaghlbfclpkaaCi
import Derived.Test.YtcdaghlbfclpkaaAm
namespace Go.Proofs.Ytcdaghlbfclpkaa

/-- All but the number and where the attributes lie. -/
structure Alike (d e : Nd) : Prop where
  kind : d.kind = e.kind
  space : d.space = e.space
  name : d.name = e.name
  text : d.text = e.text
  al : d.al = e.al
  sf : d.sf = e.sf
  st : d.st = e.st
  ef : d.ef = e.ef
  et : d.et = e.et
structure Rel (N : List Nd) (P : List Sp) (E : List En) (L : List RN) : Prop where
  n0 : 0 < L.length
  nl : N.length = L.length
  pl : P.length = L.length
  el : E.length = L.length
  nd : ∀ (i : Nat) d r, N[i]? = some d → L[i]? = some r → d.id = (i : Int) ∧ Alike d r.d
  up : ∀ (i : Nat) s r, P[i]? = some s → L[i]? = some r → r.p = if s.i then (s.p : Int) else -1
  kd : ∀ (p : Nat) e r, E[p]? = some e → L[p]? = some r → Kd P p e r.ks
  ap : ∀ (p : Nat) r, L[p]? = some r → r.ks.Nodup
  kp : ∀ (k : Nat) r, L[k]? = some r → r.p ≠ -1 → ∃ (p : Nat) (rp : RN), r.p = (p : Int) ∧ L[p]? = some rp ∧ k ∈ rp.ks
  dp : ∃ dp : Nat → Nat, ∀ (k : Nat) r (p : Nat), L[k]? = some r → r.p = (p : Int) → dp p < dp k
  al : ∀ r ∈ L, r.d.al.length ≤ 1000000000
theorem Rel.atL {N : List Nd} {P : List Sp} {E : List En} {L : List RN} (h : Rel N P E L) {i : Nat} (hi : i < L.length) : ∃ d s e r, N[i]? = some d ∧ P[i]? = some s ∧ E[i]? = some e ∧ L[i]? = some r :=
  ⟨_, _, _, _, List.getElem?_eq_getElem (by rw [h.nl]; exact hi), List.getElem?_eq_getElem (by rw [h.pl]; exact hi), List.getElem?_eq_getElem (by rw [h.el]; exact hi), List.getElem?_eq_getElem hi⟩
theorem lt_of {α : Type} {l : List α} {i : Nat} {a : α} (h : l[i]? = some a) : i < l.length := (List.getElem?_eq_some_iff.1 h).1
theorem Rel.pk {N : List Nd} {P : List Sp} {E : List En} {L : List RN} (h : Rel N P E L) {p k : Nat} {r : RN} (hr : L[p]? = some r) (hk : k ∈ r.ks) : k ≠ 0 ∧ ∃ r', L[k]? = some r' ∧ r'.p = (p : Int) := by
  obtain ⟨_, _, e, _, _, _, he, _⟩ := h.atL (lt_of hr)
  obtain ⟨k0, s, hs, h1, h2⟩ := (h.kd p e r he hr).1.mem k hk
  obtain ⟨_, _, _, r', _, _, _, hr'⟩ := h.atL (by rw [← h.pl]; exact lt_of hs)
  refine ⟨k0, r', hr', ?_⟩
  rw [h.up k s r' hs hr', h1, h2]
  rfl
theorem Rel.root {N : List Nd} {P : List Sp} {E : List En} {L : List RN} (h : Rel N P E L) {r : RN} (hr : L[0]? = some r) : r.p = -1 := by
  by_cases q : r.p = -1
  · exact q
  · obtain ⟨p, rp, _, h2, h3⟩ := h.kp 0 r hr q
    exact absurd rfl (h.pk h2 h3).1
theorem Rel.one {N : List Nd} {P : List Sp} {E : List En} {L : List RN} (h : Rel N P E L) {p q k : Nat} {rp rq : RN} (h1 : L[p]? = some rp) (h2 : L[q]? = some rq) (k1 : k ∈ rp.ks) (k2 : k ∈ rq.ks) : p = q := by
  obtain ⟨_, r1, a1, b1⟩ := h.pk h1 k1
  obtain ⟨_, r2, a2, b2⟩ := h.pk h2 k2
  rw [a1] at a2
  simp at a2
  subst a2
  rw [b1] at b2
  omega
theorem URp.det {L : List RN} {t : Nat} {m : Nat} {q : Int} {b : Bool} (h : URp L t m q b) : ∀ {m' : Nat} {b' : Bool}, URp L t m' q b' → b = b' := by
  induction h with
  | out =>
    intro m' b' h'
    rcases h'.way with ⟨_, h2⟩ | ⟨h1, _⟩ | ⟨_, k, _, _, h1, _⟩
    · exact h2.symm
    · omega
    · omega
  | here =>
    intro m' b' h'
    rcases h'.way with ⟨h1, _⟩ | ⟨_, h2⟩ | ⟨_, k, _, _, h1, h2, _⟩
    · omega
    · exact h2.symm
    · omega
  | @up _ k0 _ _ hk hr _ ih =>
    intro m' b' h'
    rcases h'.way with ⟨h1, _⟩ | ⟨h1, _⟩ | ⟨_, k, r', _, h1, _, h3, h4⟩
    · omega
    · omega
    · have e : k = k0 := by omega
      subst e
      rw [hr] at h3
      simp at h3
      subst h3
      exact ih h4
/-- Going up ends. -/
theorem Rel.ups {N : List Nd} {P : List Sp} {E : List En} {L : List RN} (h : Rel N P E L) (t : Nat) : ∀ q, q < L.length → ∃ m m' b, URp L t m (q : Int) b ∧ Up P t m' q b := by
  obtain ⟨dp, hdp⟩ := h.dp
  have go : ∀ n q, dp q < n → q < L.length → ∃ m m' b, URp L t m (q : Int) b ∧ Up P t m' q b := by
    intro n
    induction n with
    | zero => intro q h; omega
    | succ n ih =>
      intro q hq hl
      by_cases e : q = t
      · subst e
        exact ⟨0, 0, true, .here, .here⟩
      · obtain ⟨_, s, _, r, _, hs, _, hr⟩ := h.atL hl
        have hu := h.up q s r hs hr
        cases hsi : s.i with
        | false =>
          rw [hsi] at hu
          exact ⟨1, 0, false, .up e hr (by rw [hu]; exact .out), .out e hs hsi⟩
        | true =>
          rw [hsi] at hu
          have hu : r.p = (s.p : Int) := hu
          obtain ⟨p, rp, h1, h2, _⟩ := h.kp q r hr (by rw [hu]; omega)
          have hsp : s.p = p := by omega
          obtain ⟨m, m', b, a1, a2⟩ := ih p (by have := hdp q r p hr h1; omega) (lt_of h2)
          exact ⟨m + 1, m' + 1, b, .up e hr (by rw [h1]; exact a1), .up e hs hsi (by rw [hsp]; exact a2)⟩
  exact fun q hq => go (dp q + 1) q (Nat.lt_succ_self _) hq
theorem URp.kid {L : List RN} {t m : Nat} {q : Int} {b : Bool} (h : URp L t m q b) : b = true → q = (t : Int) ∨ ∃ (k : Nat) (r : RN), L[k]? = some r ∧ r.p = (t : Int) := by
  induction h with
  | out => intro h; cases h
  | here => exact fun _ => .inl rfl
  | up hk hr _ ih =>
    intro hb
    rcases ih hb with h | h
    · exact .inr ⟨_, _, hr, h⟩
    · exact .inr h

theorem set2 {L : List RN} {p i : Nat} {rp' r' : RN} (hip : i ≠ p) (hp : p < L.length) (hi : i < L.length) (k : Nat) : ((L.set p rp').set i r')[k]? = if k = i then some r' else if k = p then some rp' else L[k]? := by
  by_cases h1 : k = i
  · subst h1
    rw [if_pos rfl, List.getElem?_set_self (by rw [List.length_set]; exact hi)]
  · rw [if_neg h1, List.getElem?_set_ne (fun e => h1 e.symm)]
    by_cases h2 : k = p
    · subst h2
      rw [if_pos rfl, List.getElem?_set_self hp]
    · rw [if_neg h2, List.getElem?_set_ne (fun e => h2 e.symm)]
theorem Kd.same {P P' : List Sp} {p : Nat} {e : En} {K : List Nat} (h : Kd P p e K) (q : ∀ k ∈ K, P'[k]? = P[k]?) : Kd P' p e K := ⟨h.1.same q, h.2⟩

open Classical in
theorem rel_link {N : List Nd} {P : List Sp} {E : List En} {L : List RN} (h : Rel N P E L) {p i : Nat} {rp r : RN} {D T : List Nat} (hrp : L[p]? = some rp) (hr : L[i]? = some r) (hK : rp.ks = D ++ T) (hp : r.p = -1) (hi0 : i ≠ 0) {m : Nat} (hu : URp L i m (p : Int) false) (kv : Value) :
    Rel N (linkS P p i (lastOr 0 D) (headOr 0 T)) (linkE E p i (lastOr 0 D) (headOr 0 T)) ((L.set p (rp.kids kv (D ++ i :: T))).set i (r.par (p : Int))) := by
  have hip : i ≠ p := fun e => by
    subst e
    have := hu.det .here
    cases this
  have hi := lt_of hr
  have hpl := lt_of hrp
  obtain ⟨_, _, ep, _, _, _, hep, _⟩ := h.atL hpl
  have hkp := h.kd p ep rp hep hrp
  have hni : i ∉ rp.ks := fun hm => by
    obtain ⟨_, r2, a1, a2⟩ := h.pk hrp hm
    rw [hr] at a1
    simp at a1
    subst a1
    omega
  rw [hK] at hkp hni
  have hA : Apt P p i ep D T := ⟨by rw [h.pl]; exact hi, hi0, by rw [← hK]; exact h.ap p rp hrp, hni⟩
  obtain ⟨l1, l2⟩ := kd_link hkp hA
  have hat := fun k => linkS_at P p i (lastOr 0 D) (headOr 0 T) k hA.hi hA.i0 hA.a hA.b hA.ab
  have hset := fun k => set2 (rp' := rp.kids kv (D ++ i :: T)) (r' := r.par (p : Int)) hip hpl hi k
  have hlen : ((L.set p (rp.kids kv (D ++ i :: T))).set i (r.par (p : Int))).length = L.length := by simp
  -- what stays of a place
  have hsame : ∀ k s', k ≠ i → (linkS P p i (lastOr 0 D) (headOr 0 T))[k]? = some s' → ∃ s, P[k]? = some s ∧ s'.i = s.i ∧ s'.p = s.p := fun k s' hk hs' => by
    rw [hat, if_neg hk] at hs'
    split at hs'
    · cases hq : P[k]? with
      | none => rw [hq] at hs'; simp at hs'
      | some s => rw [hq] at hs'; simp at hs'; subst hs'; exact ⟨s, rfl, rfl, rfl⟩
    · split at hs'
      · cases hq : P[k]? with
        | none => rw [hq] at hs'; simp at hs'
        | some s => rw [hq] at hs'; simp at hs'; subst hs'; exact ⟨s, rfl, rfl, rfl⟩
      · exact ⟨s', hs', rfl, rfl⟩
  obtain ⟨dp, hdp⟩ := h.dp
  have hnAn : ¬ ∃ m, URp L i m (p : Int) true := fun ⟨m', q⟩ => by
    have := hu.det q
    cases this
  refine ⟨by rw [hlen]; exact h.n0, by rw [hlen]; exact h.nl, ?_, ?_, fun k d r' hd hr' => ?_, fun k s r' hs hr' => ?_, fun q e r' he hr' => ?_, fun q r' hr' => ?_, fun k r' hr' hne => ?_, ⟨fun k => dp k + (if ∃ m, URp L i m (k : Int) true then dp p + 1 else 0), fun k r' q hr' hq => ?_⟩, fun r' hr' => ?_⟩
  · rw [hlen, ← h.pl]
    apply Nat.le_antisymm
    · refine Nat.le_of_not_lt fun hlt => ?_
      have e1 := hat P.length
      rw [List.getElem?_eq_getElem hlt] at e1
      have hlast : P[P.length]? = none := List.getElem?_eq_none (Nat.le_refl _)
      rw [hlast, if_neg (by have := hA.hi; omega)] at e1
      split at e1
      · simp at e1
      · split at e1 <;> simp at e1
    · refine Nat.le_of_not_lt fun hlt => ?_
      have e1 := hat (linkS P p i (lastOr 0 D) (headOr 0 T)).length
      rw [List.getElem?_eq_none (Nat.le_refl _), List.getElem?_eq_getElem hlt] at e1
      split at e1
      · simp at e1
      · split at e1
        · simp at e1
        · split at e1 <;> simp at e1
  · rw [hlen, ← h.el]
    have hE := fun k => linkE_at E p i (lastOr 0 D) (headOr 0 T) k hi0
    apply Nat.le_antisymm
    · refine Nat.le_of_not_lt fun hlt => ?_
      have e1 := hE E.length
      rw [List.getElem?_eq_getElem hlt, List.getElem?_eq_none (Nat.le_refl _)] at e1
      split at e1 <;> simp at e1
    · refine Nat.le_of_not_lt fun hlt => ?_
      have e1 := hE (linkE E p i (lastOr 0 D) (headOr 0 T)).length
      rw [List.getElem?_eq_none (Nat.le_refl _), List.getElem?_eq_getElem hlt] at e1
      split at e1 <;> simp at e1
  · rw [hset] at hr'
    split at hr'
    · rename_i e; subst e; simp at hr'; subst hr'; exact h.nd _ d r hd hr
    · split at hr'
      · rename_i e; subst e; simp at hr'; subst hr'; exact h.nd _ d rp hd hrp
      · exact h.nd _ d r' hd hr'
  · rw [hset] at hr'
    by_cases hki : k = i
    · subst hki
      rw [if_pos rfl] at hr'
      simp at hr'
      subst hr'
      rw [hat, if_pos rfl] at hs
      simp at hs
      subst hs
      rfl
    · obtain ⟨s0, q1, q2, q3⟩ := hsame k s hki hs
      rw [if_neg hki] at hr'
      rw [q2, q3]
      split at hr'
      · rename_i e; subst e; simp at hr'; subst hr'; exact h.up _ s0 rp q1 hrp
      · exact h.up _ s0 r' q1 hr'
  · rw [linkE_at E p i _ _ q hi0] at he
    rw [hset] at hr'
    by_cases hqp : q = p
    · subst hqp
      rw [if_neg (fun e => hip e.symm), if_pos rfl] at hr'
      simp at hr'
      subst hr'
      rw [if_pos rfl, hep] at he
      simp at he
      subst he
      exact l1
    · rw [if_neg hqp] at he
      have hold : ∃ r0, L[q]? = some r0 ∧ r'.ks = r0.ks := by
        by_cases hqi : q = i
        · subst hqi
          rw [if_pos rfl] at hr'
          simp at hr'
          subst hr'
          exact ⟨r, hr, rfl⟩
        · rw [if_neg hqi, if_neg hqp] at hr'
          exact ⟨r', hr', rfl⟩
      obtain ⟨r0, h0, hk0⟩ := hold
      rw [hk0]
      refine (h.kd q e r0 he h0).same fun k hk => l2 k (fun e => ?_) (fun hm => ?_)
      · subst e
        obtain ⟨_, r2, a1, a2⟩ := h.pk h0 hk
        rw [hr] at a1
        simp at a1
        subst a1
        omega
      · exact hqp (h.one h0 hrp hk (by rw [hK]; exact hm))
  · rw [hset] at hr'
    split at hr'
    · rename_i e; subst e; simp at hr'; subst hr'; exact h.ap _ r hr
    · split at hr'
      · rename_i e
        simp at hr'
        subst hr'
        have hnd := hA.nd
        show (D ++ i :: T).Nodup
        rw [List.nodup_append] at hnd ⊢
        refine ⟨hnd.1, List.nodup_cons.2 ⟨fun hm => hni (List.mem_append_right _ hm), hnd.2.1⟩, fun a ha b hb => ?_⟩
        rcases List.mem_cons.1 hb with rfl | hb
        · exact fun e => hni (by rw [← e]; exact List.mem_append_left _ ha)
        · exact hnd.2.2 a ha b hb
      · exact h.ap _ r' hr'
  · rw [hset] at hr'
    by_cases hki : k = i
    · subst hki
      rw [if_pos rfl] at hr'
      simp at hr'
      subst hr'
      exact ⟨p, rp.kids kv (D ++ k :: T), rfl, by rw [hset, if_neg (fun e => hip e.symm), if_pos rfl], by simp⟩
    · have hold : ∃ r0, L[k]? = some r0 ∧ r'.p = r0.p := by
        rw [if_neg hki] at hr'
        split at hr'
        · rename_i e; subst e; simp at hr'; subst hr'; exact ⟨rp, hrp, rfl⟩
        · exact ⟨r', hr', rfl⟩
      obtain ⟨r0, h0, hp0⟩ := hold
      rw [hp0] at hne
      obtain ⟨q, rq, a1, a2, a3⟩ := h.kp k r0 h0 hne
      rw [hp0]
      by_cases hqi : q = i
      · subst hqi
        rw [hr] at a2
        simp at a2
        subst a2
        exact ⟨q, r.par (p : Int), a1, by rw [hset, if_pos rfl], a3⟩
      · by_cases hqp : q = p
        · subst hqp
          rw [hrp] at a2
          simp at a2
          subst a2
          refine ⟨q, rp.kids kv (D ++ i :: T), a1, by rw [hset, if_neg hqi, if_pos rfl], ?_⟩
          rw [hK] at a3
          show k ∈ D ++ i :: T
          rcases List.mem_append.1 a3 with z | z
          · exact List.mem_append_left _ z
          · exact List.mem_append_right _ (List.mem_cons_of_mem _ z)
        · exact ⟨q, rq, a1, by rw [hset, if_neg hqi, if_neg hqp]; exact a2, a3⟩
  · rw [hset] at hr'
    by_cases hki : k = i
    · subst hki
      rw [if_pos rfl] at hr'
      simp at hr'
      subst hr'
      have hqp : q = p := by
        have e : (p : Int) = (q : Int) := hq
        omega
      subst hqp
      show dp q + (if _ then _ else _) < dp k + (if _ then _ else _)
      rw [if_neg hnAn, if_pos ⟨0, .here⟩]
      omega
    · have hold : ∃ r0, L[k]? = some r0 ∧ r'.p = r0.p := by
        rw [if_neg hki] at hr'
        split at hr'
        · rename_i e; subst e; simp at hr'; subst hr'; exact ⟨rp, hrp, rfl⟩
        · exact ⟨r', hr', rfl⟩
      obtain ⟨r0, h0, hp0⟩ := hold
      rw [hp0] at hq
      have hlt := hdp k r0 q h0 hq
      have hiff : (∃ m, URp L i m (k : Int) true) ↔ (∃ m, URp L i m (q : Int) true) := by
        constructor
        · rintro ⟨m, z⟩
          rcases z.way with ⟨_, z2⟩ | ⟨z1, _⟩ | ⟨m', k', r2, _, z1, _, z3, z4⟩
          · cases z2
          · exact absurd (by omega) hki
          · have e : k' = k := by omega
            subst e
            rw [h0] at z3
            simp at z3
            subst z3
            rw [hq] at z4
            exact ⟨m', z4⟩
        · rintro ⟨m, z⟩
          exact ⟨m + 1, .up hki h0 (by rw [hq]; exact z)⟩
      show dp q + (if _ then _ else _) < dp k + (if _ then _ else _)
      by_cases hAn : ∃ m, URp L i m (q : Int) true
      · rw [if_pos hAn, if_pos (hiff.2 hAn)]
        omega
      · rw [if_neg hAn, if_neg (fun z => hAn (hiff.1 z))]
        omega
  · rcases List.mem_or_eq_of_mem_set hr' with z | rfl
    · rcases List.mem_or_eq_of_mem_set z with z | rfl
      · exact h.al r' z
      · exact h.al rp (List.mem_of_getElem? hrp)
    · exact h.al r (List.mem_of_getElem? hr)
end Go.Proofs.Ytcdaghlbfclpkaa
namespace Go.Proofs.Ytcdaghlbfclpkaa

theorem len_of {α : Type} {A B : List α} (h1 : ∀ k : Nat, A[k]? = none → B[k]? = none) (h2 : ∀ k : Nat, B[k]? = none → A[k]? = none) : A.length = B.length := by
  apply Nat.le_antisymm
  · refine Nat.le_of_not_lt fun hlt => ?_
    have := h2 B.length (List.getElem?_eq_none (Nat.le_refl _))
    rw [List.getElem?_eq_getElem hlt] at this
    simp at this
  · refine Nat.le_of_not_lt fun hlt => ?_
    have := h1 A.length (List.getElem?_eq_none (Nat.le_refl _))
    rw [List.getElem?_eq_getElem hlt] at this
    simp at this
theorem rel_unlink {N : List Nd} {P : List Sp} {E : List En} {L : List RN} (h : Rel N P E L) {p i : Nat} {rp r : RN} {s : Sp} {D T : List Nat} (hrp : L[p]? = some rp) (hr : L[i]? = some r) (hs : P[i]? = some s) (hK : rp.ks = D ++ i :: T) (kv : Value) :
    s.p = p ∧ s.i = true ∧ s.a < L.length ∧ s.b < L.length ∧ Rel N (unlinkS P i s) (unlinkE E s) ((L.set p (rp.kids kv (D ++ T))).set i (r.par (-1))) := by
  have hmem : i ∈ rp.ks := by rw [hK]; simp
  obtain ⟨hi0, r2, a1, a2⟩ := h.pk hrp hmem
  rw [hr] at a1
  simp at a1
  subst a1
  obtain ⟨dp, hdp⟩ := h.dp
  have hip : i ≠ p := fun e => by
    have := hdp i r p hr a2
    rw [e] at this
    omega
  have hi := lt_of hr
  have hpl := lt_of hrp
  obtain ⟨_, _, ep, _, _, _, hep, _⟩ := h.atL hpl
  have hkp := h.kd p ep rp hep hrp
  rw [hK] at hkp
  have hnd := h.ap p rp hrp
  rw [hK] at hnd
  have hnd2 := List.nodup_append.1 hnd
  have hniT := (List.nodup_cons.1 hnd2.2.1).1
  have hni : i ∉ D ++ T := fun hm => by
    rcases List.mem_append.1 hm with z | z
    · exact hnd2.2.2 i z i (by simp) rfl
    · exact hniT z
  have hA : Apt P p i ep D T := ⟨by rw [h.pl]; exact hi, hi0, List.nodup_append.2 ⟨hnd2.1, (List.nodup_cons.1 hnd2.2.1).2, fun a ha b hb => hnd2.2.2 a ha b (List.mem_cons_of_mem _ hb)⟩, hni⟩
  obtain ⟨u1, u2, u3, l1, l2, l3⟩ := kd_unlink hkp hs hA
  have hat := fun k => unlinkS_at P i k s hA.hi (by rw [u1]; exact hA.a) (by rw [u2]; exact hA.b) (by rw [u1, u2]; exact hA.ab)
  have hset := fun k => set2 (rp' := rp.kids kv (D ++ T)) (r' := r.par (-1)) hip hpl hi k
  have hlen : ((L.set p (rp.kids kv (D ++ T))).set i (r.par (-1))).length = L.length := by simp
  have hsi : s.i = true := by
    obtain ⟨_, s', q1, q2, _⟩ := hkp.1.mem i (by simp)
    rw [hs] at q1
    simp at q1
    rw [q1]
    exact q2
  have hin : ∀ k, k ∈ rp.ks → k < L.length := fun k hk => by
    obtain ⟨_, r', q, _⟩ := h.pk hrp hk
    exact lt_of q
  have hal : s.a < L.length := by
    rw [u1]
    rcases lastOr_mem 0 D with z | z
    · rw [z]; exact h.n0
    · exact hin _ (by rw [hK]; exact List.mem_append_left _ z)
  have hbl : s.b < L.length := by
    rw [u2]
    cases T with
    | nil => exact h.n0
    | cons y T => exact hin y (by rw [hK]; simp)
  have hsame : ∀ k s', k ≠ i → (unlinkS P i s)[k]? = some s' → ∃ s, P[k]? = some s ∧ s'.i = s.i ∧ s'.p = s.p := fun k s' hk hs' => by
    rw [hat, if_neg hk] at hs'
    split at hs'
    · cases hq : P[k]? with
      | none => rw [hq] at hs'; simp at hs'
      | some s => rw [hq] at hs'; simp at hs'; subst hs'; exact ⟨s, rfl, rfl, rfl⟩
    · split at hs'
      · cases hq : P[k]? with
        | none => rw [hq] at hs'; simp at hs'
        | some s => rw [hq] at hs'; simp at hs'; subst hs'; exact ⟨s, rfl, rfl, rfl⟩
      · exact ⟨s', hs', rfl, rfl⟩
  refine ⟨u3, hsi, hal, hbl, by rw [hlen]; exact h.n0, by rw [hlen]; exact h.nl, ?_, ?_, fun k d r' hd hr' => ?_, fun k s' r' hs' hr' => ?_, fun q e r' he hr' => ?_, fun q r' hr' => ?_, fun k r' hr' hne => ?_, ⟨dp, fun k r' q hr' hq => ?_⟩, fun r' hr' => ?_⟩
  · rw [hlen, ← h.pl]
    refine (len_of (fun k hk => ?_) (fun k hk => ?_)).symm
    · rw [hat, if_neg (fun e => by rw [e, hs] at hk; simp at hk), hk]
      simp
    · rw [hat] at hk
      split at hk
      · simp at hk
      · split at hk
        · simpa using hk
        · split at hk
          · simpa using hk
          · exact hk
  · rw [hlen, ← h.el]
    have hE := fun k => unlinkE_at E s k
    refine (len_of (fun k hk => ?_) (fun k hk => ?_)).symm
    · rw [hE, hk]
      simp
    · rw [hE] at hk
      split at hk
      · simpa using hk
      · exact hk
  · rw [hset] at hr'
    split at hr'
    · rename_i e; subst e; simp at hr'; subst hr'; exact h.nd _ d r hd hr
    · split at hr'
      · rename_i e; subst e; simp at hr'; subst hr'; exact h.nd _ d rp hd hrp
      · exact h.nd _ d r' hd hr'
  · rw [hset] at hr'
    by_cases hki : k = i
    · subst hki
      rw [if_pos rfl] at hr'
      simp at hr'
      subst hr'
      rw [hat, if_pos rfl] at hs'
      simp at hs'
      subst hs'
      rfl
    · obtain ⟨s0, q1, q2, q3⟩ := hsame k s' hki hs'
      rw [if_neg hki] at hr'
      rw [q2, q3]
      split at hr'
      · rename_i e; subst e; simp at hr'; subst hr'; exact h.up _ s0 rp q1 hrp
      · exact h.up _ s0 r' q1 hr'
  · rw [unlinkE_at E s q, u3] at he
    rw [hset] at hr'
    by_cases hqp : q = p
    · subst hqp
      rw [if_neg (fun e => hip e.symm), if_pos rfl] at hr'
      simp at hr'
      subst hr'
      rw [if_pos rfl, hep] at he
      simp at he
      subst he
      exact l1
    · rw [if_neg hqp] at he
      have hold : ∃ r0, L[q]? = some r0 ∧ r'.ks = r0.ks := by
        by_cases hqi : q = i
        · subst hqi
          rw [if_pos rfl] at hr'
          simp at hr'
          subst hr'
          exact ⟨r, hr, rfl⟩
        · rw [if_neg hqi, if_neg hqp] at hr'
          exact ⟨r', hr', rfl⟩
      obtain ⟨r0, h0, hk0⟩ := hold
      rw [hk0]
      refine (h.kd q e r0 he h0).same fun k hk => l2 k (fun e => ?_) (fun hm => ?_)
      · subst e
        exact hqp (h.one h0 hrp hk hmem)
      · refine hqp (h.one h0 hrp hk ?_)
        rw [hK]
        rcases List.mem_append.1 hm with z | z
        · exact List.mem_append_left _ z
        · exact List.mem_append_right _ (List.mem_cons_of_mem _ z)
  · rw [hset] at hr'
    split at hr'
    · rename_i e; subst e; simp at hr'; subst hr'; exact h.ap _ r hr
    · split at hr'
      · simp at hr'
        subst hr'
        exact hA.nd
      · exact h.ap _ r' hr'
  · rw [hset] at hr'
    by_cases hki : k = i
    · subst hki
      rw [if_pos rfl] at hr'
      simp at hr'
      subst hr'
      exact absurd rfl hne
    · have hold : ∃ r0, L[k]? = some r0 ∧ r'.p = r0.p := by
        rw [if_neg hki] at hr'
        split at hr'
        · rename_i e; subst e; simp at hr'; subst hr'; exact ⟨rp, hrp, rfl⟩
        · exact ⟨r', hr', rfl⟩
      obtain ⟨r0, h0, hp0⟩ := hold
      rw [hp0] at hne
      obtain ⟨q, rq, b1, b2, b3⟩ := h.kp k r0 h0 hne
      rw [hp0]
      by_cases hqi : q = i
      · subst hqi
        rw [hr] at b2
        simp at b2
        subst b2
        exact ⟨q, r.par (-1), b1, by rw [hset, if_pos rfl], b3⟩
      · by_cases hqp : q = p
        · subst hqp
          rw [hrp] at b2
          simp at b2
          subst b2
          refine ⟨q, rp.kids kv (D ++ T), b1, by rw [hset, if_neg hqi, if_pos rfl], ?_⟩
          rw [hK] at b3
          show k ∈ D ++ T
          rcases List.mem_append.1 b3 with z | z
          · exact List.mem_append_left _ z
          · rcases List.mem_cons.1 z with z | z
            · exact absurd z hki
            · exact List.mem_append_right _ z
        · exact ⟨q, rq, b1, by rw [hset, if_neg hqi, if_neg hqp]; exact b2, b3⟩
  · rw [hset] at hr'
    by_cases hki : k = i
    · subst hki
      rw [if_pos rfl] at hr'
      simp at hr'
      subst hr'
      have e : (-1 : Int) = (q : Int) := hq
      omega
    · rw [if_neg hki] at hr'
      split at hr'
      · rename_i e; subst e; simp at hr'; subst hr'; exact hdp _ rp q hrp hq
      · exact hdp k r' q hr' hq
  · rcases List.mem_or_eq_of_mem_set hr' with z | rfl
    · rcases List.mem_or_eq_of_mem_set z with z | rfl
      · exact h.al r' z
      · exact h.al rp (List.mem_of_getElem? hrp)
    · exact h.al r (List.mem_of_getElem? hr)
/-- A node's own is set. -/
theorem rel_set {N : List Nd} {P : List Sp} {E : List En} {L : List RN} (h : Rel N P E L) {i : Nat} {d d' : Nd} {r r' : RN} (hd : N[i]? = some d) (hr : L[i]? = some r) (hid : d'.id = d.id) (hA : Alike d' r'.d) (hp : r'.p = r.p) (hk : r'.ks = r.ks) (hal : r'.d.al.length ≤ 1000000000) :
    Rel (N.set i d') P E (L.set i r') := by
  have hl : ∀ (k : Nat) (q : RN), (L.set i r')[k]? = some q → ∃ q0, L[k]? = some q0 ∧ q.p = q0.p ∧ q.ks = q0.ks := fun k q hq => by
    by_cases e : k = i
    · subst e
      rw [List.getElem?_set_self (lt_of hr)] at hq
      simp at hq
      subst hq
      exact ⟨r, hr, hp, hk⟩
    · rw [List.getElem?_set_ne (fun z => e z.symm)] at hq
      exact ⟨q, hq, rfl, rfl⟩
  have hl2 : ∀ (k : Nat) (q0 : RN), L[k]? = some q0 → ∃ q, (L.set i r')[k]? = some q ∧ q.p = q0.p ∧ q.ks = q0.ks := fun k q0 hq => by
    by_cases e : k = i
    · subst e
      rw [hr] at hq
      simp at hq
      subst hq
      exact ⟨r', List.getElem?_set_self (lt_of hr), hp, hk⟩
    · exact ⟨q0, by rw [List.getElem?_set_ne (fun z => e z.symm)]; exact hq, rfl, rfl⟩
  obtain ⟨dp, hdp⟩ := h.dp
  refine ⟨by rw [List.length_set]; exact h.n0, by rw [List.length_set, List.length_set]; exact h.nl, by rw [List.length_set]; exact h.pl, by rw [List.length_set]; exact h.el, fun k e q he hq => ?_, fun k s q hs hq => ?_, fun k e q he hq => ?_, fun k q hq => ?_, fun k q hq hne => ?_, ⟨dp, fun k q j hq hj => ?_⟩, fun q hq => ?_⟩
  · by_cases z : k = i
    · subst z
      rw [List.getElem?_set_self (lt_of hr)] at hq
      rw [List.getElem?_set_self (lt_of hd)] at he
      simp at hq he
      subst hq he
      exact ⟨by rw [hid]; exact (h.nd k d r hd hr).1, hA⟩
    · rw [List.getElem?_set_ne (fun y => z y.symm)] at hq he
      exact h.nd k e q he hq
  · obtain ⟨q0, h1, h2, _⟩ := hl k q hq
    rw [h2]
    exact h.up k s q0 hs h1
  · obtain ⟨q0, h1, _, h3⟩ := hl k q hq
    rw [h3]
    exact h.kd k e q0 he h1
  · obtain ⟨q0, h1, _, h3⟩ := hl k q hq
    rw [h3]
    exact h.ap k q0 h1
  · obtain ⟨q0, h1, h2, _⟩ := hl k q hq
    rw [h2] at hne ⊢
    obtain ⟨p, rp, a1, a2, a3⟩ := h.kp k q0 h1 hne
    obtain ⟨rp', b1, _, b3⟩ := hl2 p rp a2
    exact ⟨p, rp', a1, b1, by rw [b3]; exact a3⟩
  · obtain ⟨q0, h1, h2, _⟩ := hl k q hq
    exact hdp k q0 j h1 (by rw [← h2]; exact hj)
  · rcases List.mem_or_eq_of_mem_set hq with z | rfl
    · exact h.al q z
    · exact hal
/-- A node more. -/
theorem rel_make {N : List Nd} {P : List Sp} {E : List En} {L : List RN} (h : Rel N P E L) {n : Nat} (hn : L.length = n) (d : Nd) (av av' : Value) (hal : d.al.length ≤ 1000000000) :
    Rel (N ++ [d.as n av]) (P ++ [⟨false, 0, 0, 0⟩]) (E ++ [⟨0, 0⟩]) (L ++ [d.rn av']) := by
  have hl : ∀ (k : Nat) (q : RN), (L ++ [d.rn av'])[k]? = some q → (k < n ∧ L[k]? = some q) ∨ (k = n ∧ q = d.rn av') := fun k q hq => by
    by_cases hk : k < n
    · rw [List.getElem?_append_left (by omega)] at hq
      exact .inl ⟨hk, hq⟩
    · rw [List.getElem?_append_right (by omega), hn] at hq
      cases hz : k - n with
      | zero =>
        rw [hz] at hq
        simp at hq
        exact .inr ⟨by omega, hq.symm⟩
      | succ z =>
        rw [hz] at hq
        simp at hq
  have hold : ∀ {α : Type} {A : List α} {a x : α} {k : Nat}, A.length = n → k < n → (A ++ [a])[k]? = some x → A[k]? = some x := fun hA hk h => by
    rw [List.getElem?_append_left (by omega)] at h
    exact h
  have hnew : ∀ {α : Type} {A : List α} {a x : α}, A.length = n → (A ++ [a])[n]? = some x → x = a := fun {α A a x} hA h => by
    rw [List.getElem?_append_right (by omega), hA] at h
    simp at h
    exact h.symm
  obtain ⟨dp, hdp⟩ := h.dp
  refine ⟨by simp, by simp [h.nl], by simp [h.pl], by simp [h.el], fun k e q he hq => ?_, fun k s q hs hq => ?_, fun k e q he hq => ?_, fun k q hq => ?_, fun k q hq hne => ?_, ⟨dp, fun k q j hq hj => ?_⟩, fun q hq => ?_⟩
  · rcases hl k q hq with ⟨hk, hq'⟩ | ⟨rfl, rfl⟩
    · exact h.nd k e q (hold (h.nl.trans hn) hk he) hq'
    · obtain rfl := hnew (h.nl.trans hn) he
      exact ⟨rfl, ⟨rfl, rfl, rfl, rfl, rfl, rfl, rfl, rfl, rfl⟩⟩
  · rcases hl k q hq with ⟨hk, hq'⟩ | ⟨rfl, rfl⟩
    · exact h.up k s q (hold (h.pl.trans hn) hk hs) hq'
    · obtain rfl := hnew (h.pl.trans hn) hs
      rfl
  · rcases hl k q hq with ⟨hk, hq'⟩ | ⟨rfl, rfl⟩
    · refine (h.kd k e q (hold (h.el.trans hn) hk he) hq').same fun j hj => ?_
      obtain ⟨_, r', a1, _⟩ := h.pk hq' hj
      rw [List.getElem?_append_left (by rw [h.pl]; exact lt_of a1)]
    · obtain rfl := hnew (h.el.trans hn) he
      exact ⟨rfl, rfl⟩
  · rcases hl k q hq with ⟨hk, hq'⟩ | ⟨rfl, rfl⟩
    · exact h.ap k q hq'
    · exact List.nodup_nil
  · rcases hl k q hq with ⟨hk, hq'⟩ | ⟨rfl, rfl⟩
    · obtain ⟨p, rp, a1, a2, a3⟩ := h.kp k q hq' hne
      exact ⟨p, rp, a1, by rw [List.getElem?_append_left (lt_of a2)]; exact a2, a3⟩
    · exact absurd rfl hne
  · rcases hl k q hq with ⟨hk, hq'⟩ | ⟨rfl, rfl⟩
    · exact hdp k q j hq' hj
    · have e : (-1 : Int) = (j : Int) := hj
      omega
  · rcases List.mem_append.1 hq with z | z
    · exact h.al q z
    · simp at z
      subst z
      exact hal
theorem rel_new (av : Value) : Rel [doc0 av] [⟨false, 0, 0, 0⟩] [⟨0, 0⟩] [rdoc] := by
  have one : ∀ {α : Type} {a x : α} {k : Nat}, [a][k]? = some x → k = 0 ∧ x = a := fun {α a x k} h => by
    cases k with
    | zero => simp at h; exact ⟨rfl, h.symm⟩
    | succ k => simp at h
  refine ⟨by simp, rfl, rfl, rfl, fun k e q he hq => ?_, fun k s q hs hq => ?_, fun k e q he hq => ?_, fun k q hq => ?_, fun k q hq hne => ?_, ⟨fun _ => 0, fun k q j hq hj => ?_⟩, fun q hq => ?_⟩
  · obtain ⟨rfl, rfl⟩ := one he
    obtain ⟨_, rfl⟩ := one hq
    exact ⟨rfl, ⟨rfl, rfl, rfl, rfl, rfl, rfl, rfl, rfl, rfl⟩⟩
  · obtain ⟨rfl, rfl⟩ := one hs
    obtain ⟨_, rfl⟩ := one hq
    rfl
  · obtain ⟨rfl, rfl⟩ := one he
    obtain ⟨_, rfl⟩ := one hq
    exact ⟨rfl, rfl⟩
  · obtain ⟨_, rfl⟩ := one hq
    exact List.nodup_nil
  · obtain ⟨_, rfl⟩ := one hq
    exact absurd rfl hne
  · obtain ⟨_, rfl⟩ := one hq
    have e : (-1 : Int) = (j : Int) := hj
    omega
  · simp at hq
    subst hq
    simp [rdoc]
/-- The place of a kid among kids. -/
theorem plP_mem {b : Nat} : ∀ {D T : List Nat} {m : Nat}, b ∉ D → plP (D ++ b :: T) (b : Int) m = ((m + D.length : Nat) : Int)
  | [], T, m, _ => by
    show (if (b : Int) = (b : Int) then (m : Int) else _) = _
    rw [if_pos rfl]
    simp
  | k :: D, T, m, h => by
    show (if (k : Int) = (b : Int) then (m : Int) else plP (D ++ b :: T) (b : Int) (m + 1)) = _
    rw [if_neg (fun e => h (by have : k = b := by omega
                               rw [this]; simp)), plP_mem (fun hm => h (List.mem_cons_of_mem _ hm))]
    simp only [List.length_cons]
    omega
theorem plP_not {b : Int} : ∀ {K : List Nat} {m : Nat}, (∀ k ∈ K, (k : Int) ≠ b) → plP K b m = -1
  | [], _, _ => rfl
  | k :: K, m, h => by
    show (if (k : Int) = b then (m : Int) else plP K b (m + 1)) = _
    rw [if_neg (h k (by simp)), plP_not (fun q hq => h q (by simp [hq]))]
end Go.Proofs.Ytcdaghlbfclpkaa
