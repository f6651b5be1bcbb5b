/- Pure: a kid more, a kid less. -/
import Derived.Test.YtcdaghlbfclpkaaCe
import Derived.Test.YtcdaghlbfclpkaaAr
namespace Go.Proofs.Ytcdaghlbfclpkaa

theorem setB_at (P : List Sp) (i b k : Nat) : (setB P i b)[k]? = if k = i then P[k]?.map (fun s => ⟨s.i, s.p, s.a, b⟩) else P[k]? := by
  unfold setB
  by_cases e : k = i
  · subst e
    cases h : P[k]? with
    | none => simp [h]
    | some s => simp [(List.getElem?_eq_some_iff.1 h).1]
  · rw [if_neg e]
    cases h : P[i]? with
    | none => rfl
    | some s => simp [List.getElem?_set_ne (fun q => e q.symm)]
theorem setA_at (P : List Sp) (i a k : Nat) : (setA P i a)[k]? = if k = i then P[k]?.map (fun s => ⟨s.i, s.p, a, s.b⟩) else P[k]? := by
  unfold setA
  by_cases e : k = i
  · subst e
    cases h : P[k]? with
    | none => simp [h]
    | some s => simp [(List.getElem?_eq_some_iff.1 h).1]
  · rw [if_neg e]
    cases h : P[i]? with
    | none => rfl
    | some s => simp [List.getElem?_set_ne (fun q => e q.symm)]
theorem setF_at (E : List En) (i f k : Nat) : (setF E i f)[k]? = if k = i then E[k]?.map (fun s => ⟨f, s.l⟩) else E[k]? := by
  unfold setF
  by_cases e : k = i
  · subst e
    cases h : E[k]? with
    | none => simp [h]
    | some s => simp [(List.getElem?_eq_some_iff.1 h).1]
  · rw [if_neg e]
    cases h : E[i]? with
    | none => rfl
    | some s => simp [List.getElem?_set_ne (fun q => e q.symm)]
theorem setL_at (E : List En) (i l k : Nat) : (setL E i l)[k]? = if k = i then E[k]?.map (fun s => ⟨s.f, l⟩) else E[k]? := by
  unfold setL
  by_cases e : k = i
  · subst e
    cases h : E[k]? with
    | none => simp [h]
    | some s => simp [(List.getElem?_eq_some_iff.1 h).1]
  · rw [if_neg e]
    cases h : E[i]? with
    | none => rfl
    | some s => simp [List.getElem?_set_ne (fun q => e q.symm)]
theorem joinS_at (P : List Sp) (a b k : Nat) (hab : a = 0 ∨ b = 0 ∨ a ≠ b) : (joinS P a b)[k]? = if b ≠ 0 ∧ k = b then P[k]?.map (fun s => ⟨s.i, s.p, a, s.b⟩) else if a ≠ 0 ∧ k = a then P[k]?.map (fun s => ⟨s.i, s.p, s.a, b⟩) else P[k]? := by
  unfold joinS
  by_cases hb : b = 0
  · subst hb
    by_cases ha : a = 0
    · simp [ha]
    · simp only [ha, if_true, if_false, ne_eq, not_true_eq_false, false_and, not_false_eq_true, true_and]
      exact setB_at P a 0 k
  · rw [if_neg hb, setA_at]
    by_cases hk : k = b
    · subst hk
      simp only [if_true, ne_eq, hb, not_false_eq_true, and_self]
      by_cases ha : a = 0
      · simp [ha]
      · rw [if_neg ha, setB_at, if_neg (fun e => by omega)]
    · rw [if_neg hk, if_neg (show ¬ (b ≠ 0 ∧ k = b) from fun q => hk q.2)]
      by_cases ha : a = 0
      · simp [ha]
      · rw [if_neg ha, setB_at]
        simp [ha]
theorem joinE_at (E : List En) (p a b k : Nat) : (joinE E p a b)[k]? = if k = p then E[k]?.map (fun s => ⟨if a = 0 then b else s.f, if b = 0 then a else s.l⟩) else E[k]? := by
  unfold joinE
  by_cases hk : k = p
  · subst hk
    by_cases hb : b = 0
    · subst hb
      rw [if_pos rfl, setL_at]
      simp only [if_true]
      by_cases ha : a = 0
      · rw [if_pos ha, setF_at]
        simp only [if_true, Option.map_map]
        subst ha
        cases E[k]? <;> simp
      · rw [if_neg ha]
        simp [ha]
    · rw [if_neg hb]
      by_cases ha : a = 0
      · rw [if_pos ha, setF_at]
        simp [ha, hb]
      · rw [if_neg ha]
        cases h : E[k]? <;> simp [ha, hb]
  · rw [if_neg hk]
    by_cases hb : b = 0
    · rw [if_pos hb, setL_at, if_neg hk]
      by_cases ha : a = 0
      · rw [if_pos ha, setF_at, if_neg hk]
      · rw [if_neg ha]
    · rw [if_neg hb]
      by_cases ha : a = 0
      · rw [if_pos ha, setF_at, if_neg hk]
      · rw [if_neg ha]

/-- A run of kids: from the first on, behind a; z stands behind it. -/
def Seg (P : List Sp) (p : Nat) : Nat → Nat → List Nat → Nat → Prop
  | _, f, [], z => f = z
  | a, f, k :: T, z => f = k ∧ k ≠ 0 ∧ ∃ s, P[k]? = some s ∧ s.i = true ∧ s.p = p ∧ s.a = a ∧ Seg P p k s.b T z
def lastOr : Nat → List Nat → Nat
  | a, [] => a
  | _, k :: T => lastOr k T
theorem lastOr_snoc (a : Nat) (D : List Nat) (x : Nat) : lastOr a (D ++ [x]) = x := by
  induction D generalizing a with
  | nil => rfl
  | cons k D ih => exact ih k
theorem lastOr_app (a : Nat) (D T : List Nat) : lastOr a (D ++ T) = lastOr (lastOr a D) T := by
  induction D generalizing a with
  | nil => rfl
  | cons k D ih => exact ih k
theorem lastOr_mem (a : Nat) (D : List Nat) : lastOr a D = a ∨ lastOr a D ∈ D := by
  induction D generalizing a with
  | nil => exact .inl rfl
  | cons k D ih =>
    rcases ih k with h | h
    · exact .inr (by show lastOr k D ∈ k :: D; rw [h]; simp)
    · exact .inr (List.mem_cons_of_mem _ h)
theorem Seg.app {P : List Sp} {p z : Nat} {T : List Nat} : ∀ {D : List Nat} {a f : Nat}, Seg P p a f (D ++ T) z → ∃ m, Seg P p a f D m ∧ Seg P p (lastOr a D) m T z
  | [], _, f, h => ⟨f, rfl, h⟩
  | k :: D, a, f, ⟨h1, h2, s, h3, h4, h5, h6, h7⟩ => by
    obtain ⟨m, q1, q2⟩ := Seg.app (D := D) h7
    exact ⟨m, ⟨h1, h2, s, h3, h4, h5, h6, q1⟩, q2⟩
theorem Seg.join {P : List Sp} {p z m : Nat} {T : List Nat} : ∀ {D : List Nat} {a f : Nat}, Seg P p a f D m → Seg P p (lastOr a D) m T z → Seg P p a f (D ++ T) z
  | [], a, f, h, q => by
    have e : f = m := h
    subst e
    exact q
  | k :: D, a, f, ⟨h1, h2, s, h3, h4, h5, h6, h7⟩, q => ⟨h1, h2, s, h3, h4, h5, h6, Seg.join h7 q⟩
theorem Seg.same {P P' : List Sp} {p z : Nat} : ∀ {D : List Nat} {a f : Nat}, Seg P p a f D z → (∀ k ∈ D, P'[k]? = P[k]?) → Seg P' p a f D z
  | [], _, _, h, _ => h
  | k :: D, a, f, ⟨h1, h2, s, h3, h4, h5, h6, h7⟩, q => ⟨h1, h2, s, (q k (by simp)).trans h3, h4, h5, h6, Seg.same h7 (fun k' hk => q k' (by simp [hk]))⟩
theorem Seg.mem {P : List Sp} {p z : Nat} : ∀ {D : List Nat} {a f : Nat}, Seg P p a f D z → ∀ k ∈ D, k ≠ 0 ∧ ∃ s, P[k]? = some s ∧ s.i = true ∧ s.p = p
  | [], _, _, _, k, hk => by simp at hk
  | k :: D, a, f, ⟨h1, h2, s, h3, h4, h5, h6, h7⟩, k', hk => by
    rcases List.mem_cons.1 hk with rfl | hk
    · exact ⟨h2, s, h3, h4, h5⟩
    · exact Seg.mem h7 k' hk
theorem Seg.chain {P : List Sp} {p : Nat} : ∀ {D : List Nat} {a f : Nat}, Seg P p a f D 0 → Chain P f D
  | [], _, _, h => by
    obtain rfl := h
    exact .nil
  | k :: D, a, f, ⟨h1, h2, s, h3, h4, h5, h6, h7⟩ => by
    subst h1
    exact .cons h2 h3 (Seg.chain h7)
/-- The last one's neighbour turned. -/
theorem Seg.last {P P' : List Sp} {p z z' x : Nat} : ∀ {D : List Nat} {a f : Nat}, Seg P p a f (D ++ [x]) z → (∀ k ∈ D, P'[k]? = P[k]?) → P'[x]? = P[x]?.map (fun s => ⟨s.i, s.p, s.a, z'⟩) → Seg P' p a f (D ++ [x]) z'
  | [], a, f, ⟨h1, h2, s, h3, h4, h5, h6, h7⟩, _, hx => by
    rw [h3] at hx
    exact ⟨h1, h2, _, hx, h4, h5, h6, rfl⟩
  | k :: D, a, f, ⟨h1, h2, s, h3, h4, h5, h6, h7⟩, q, hx => ⟨h1, h2, s, (q k (by simp)).trans h3, h4, h5, h6, Seg.last (D := D) h7 (fun k' hk => q k' (by simp [hk])) hx⟩
/-- The first one's neighbour turned. -/
theorem Seg.first {P P' : List Sp} {p z a a' f y : Nat} {T : List Nat} (h : Seg P p a f (y :: T) z) (q : ∀ k ∈ T, P'[k]? = P[k]?) (hy : P'[y]? = P[y]?.map (fun s => ⟨s.i, s.p, a', s.b⟩)) : Seg P' p a' f (y :: T) z := by
  obtain ⟨h1, h2, s, h3, h4, h5, h6, h7⟩ := h
  rw [h3] at hy
  exact ⟨h1, h2, _, hy, h4, h5, rfl, h7.same q⟩
theorem snoc_of {D : List Nat} (h : D ≠ []) : ∃ D' x, D = D' ++ [x] := by
  rcases List.eq_nil_or_concat D with rfl | ⟨D', x, rfl⟩
  · exact absurd rfl h
  · exact ⟨D', x, List.concat_eq_append⟩
def headOr (z : Nat) : List Nat → Nat
  | [] => z
  | k :: _ => k
theorem Seg.head {P : List Sp} {p a f z : Nat} {D : List Nat} (h : Seg P p a f D z) : f = headOr z D := by
  cases D with
  | nil => exact h
  | cons k D => exact h.1

/-- Kids with both ends. -/
def Kd (P : List Sp) (p : Nat) (e : En) (K : List Nat) : Prop := Seg P p 0 e.f K 0 ∧ e.l = lastOr 0 K
theorem lastOr0 {P : List Sp} {p a f z : Nat} {D : List Nat} (h : Seg P p a f D z) (hD : D ≠ []) : lastOr a D ≠ 0 := by
  obtain ⟨D', x, rfl⟩ := snoc_of hD
  rw [lastOr_snoc]
  exact (h.mem x (by simp)).1
theorem headOr0 {P : List Sp} {p a f z : Nat} {D : List Nat} (h : Seg P p a f D z) (hD : D ≠ []) : headOr 0 D ≠ 0 := by
  cases D with
  | nil => exact absurd rfl hD
  | cons k D => exact (h.mem k (by simp)).1
end Go.Proofs.Ytcdaghlbfclpkaa
namespace Go.Proofs.Ytcdaghlbfclpkaa

theorem linkS_at (P : List Sp) (p i a b k : Nat) (hi : i < P.length) (hi0 : i ≠ 0) (ha : a ≠ i) (hb : b ≠ i) (hab : a = 0 ∨ b = 0 ∨ a ≠ b) :
    (linkS P p i a b)[k]? = if k = i then some ⟨true, p, a, b⟩ else if b ≠ 0 ∧ k = b then P[k]?.map (fun s => ⟨s.i, s.p, i, s.b⟩) else if a ≠ 0 ∧ k = a then P[k]?.map (fun s => ⟨s.i, s.p, s.a, i⟩) else P[k]? := by
  unfold linkS
  rw [joinS_at _ i b k (by omega), joinS_at _ a i k (by omega)]
  by_cases hk : k = i
  · subst hk
    rw [if_neg (show ¬ (b ≠ 0 ∧ k = b) from fun q => hb q.2.symm), if_pos ⟨hi0, rfl⟩, if_pos ⟨hi0, rfl⟩, if_pos rfl, List.getElem?_set_self hi]
    rfl
  · rw [if_neg (show ¬ (i ≠ 0 ∧ k = i) from fun q => hk q.2), if_neg (show ¬ (i ≠ 0 ∧ k = i) from fun q => hk q.2), if_neg hk, List.getElem?_set_ne (fun q => hk q.symm)]
    by_cases h1 : b ≠ 0 ∧ k = b
    · rw [if_pos h1, if_pos h1, if_neg (show ¬ (a ≠ 0 ∧ k = a) from fun q => by omega)]
    · rw [if_neg h1, if_neg h1]
theorem unlinkS_at (P : List Sp) (i k : Nat) (s : Sp) (hi : i < P.length) (ha : s.a ≠ i) (hb : s.b ≠ i) (hab : s.a = 0 ∨ s.b = 0 ∨ s.a ≠ s.b) :
    (unlinkS P i s)[k]? = if k = i then some ⟨false, 0, 0, 0⟩ else if s.b ≠ 0 ∧ k = s.b then P[k]?.map (fun q => ⟨q.i, q.p, s.a, q.b⟩) else if s.a ≠ 0 ∧ k = s.a then P[k]?.map (fun q => ⟨q.i, q.p, q.a, s.b⟩) else P[k]? := by
  unfold unlinkS
  rw [joinS_at _ _ _ k hab]
  by_cases hk : k = i
  · subst hk
    rw [if_neg (show ¬ (s.b ≠ 0 ∧ k = s.b) from fun q => hb q.2.symm), if_neg (show ¬ (s.a ≠ 0 ∧ k = s.a) from fun q => ha q.2.symm), if_pos rfl, List.getElem?_set_self hi]
  · rw [if_neg hk, List.getElem?_set_ne (fun q => hk q.symm)]
theorem linkE_at (E : List En) (p i a b k : Nat) (hi0 : i ≠ 0) : (linkE E p i a b)[k]? = if k = p then E[k]?.map (fun s => ⟨if a = 0 then i else s.f, if b = 0 then i else s.l⟩) else E[k]? := by
  unfold linkE
  rw [joinE_at, joinE_at]
  by_cases hk : k = p
  · subst hk
    simp only [if_true, Option.map_map]
    cases E[k]? <;> simp [hi0]
  · rw [if_neg hk, if_neg hk, if_neg hk]
theorem unlinkE_at (E : List En) (s : Sp) (k : Nat) : (unlinkE E s)[k]? = if k = s.p then E[k]?.map (fun q => ⟨if s.a = 0 then s.b else q.f, if s.b = 0 then s.a else q.l⟩) else E[k]? := by
  unfold unlinkE
  exact joinE_at _ _ _ _ _

/-- What a link must not meet. -/
structure Apt (P : List Sp) (p i : Nat) (e : En) (D T : List Nat) : Prop where
  hi : i < P.length
  i0 : i ≠ 0
  nd : (D ++ T).Nodup
  ni : i ∉ D ++ T
theorem Apt.a {P : List Sp} {p i : Nat} {e : En} {D T : List Nat} (h : Apt P p i e D T) : lastOr 0 D ≠ i := by
  rcases lastOr_mem 0 D with q | q
  · rw [q]; exact h.i0.symm
  · exact fun e => h.ni (by rw [← e]; exact List.mem_append_left _ q)
theorem Apt.b {P : List Sp} {p i : Nat} {e : En} {D T : List Nat} (h : Apt P p i e D T) : headOr 0 T ≠ i := by
  cases T with
  | nil => exact h.i0.symm
  | cons k T => exact fun e => h.ni (by rw [← e]; exact List.mem_append_right _ (by simp [headOr]))
theorem Apt.ab {P : List Sp} {p i : Nat} {e : En} {D T : List Nat} (h : Apt P p i e D T) : lastOr 0 D = 0 ∨ headOr 0 T = 0 ∨ lastOr 0 D ≠ headOr 0 T := by
  rcases lastOr_mem 0 D with q | q
  · exact .inl q
  · cases T with
    | nil => exact .inr (.inl rfl)
    | cons k T => exact .inr (.inr fun e => (List.nodup_append.1 h.nd).2.2 _ q k (by simp) e)
theorem kd_link {P : List Sp} {p i : Nat} {e : En} {D T : List Nat} (h : Kd P p e (D ++ T)) (q : Apt P p i e D T) :
    Kd (linkS P p i (lastOr 0 D) (headOr 0 T)) p ⟨if lastOr 0 D = 0 then i else e.f, if headOr 0 T = 0 then i else e.l⟩ (D ++ i :: T) ∧ (∀ k, k ≠ i → k ∉ D ++ T → (linkS P p i (lastOr 0 D) (headOr 0 T))[k]? = P[k]?) := by
  have hat := fun k => linkS_at P p i (lastOr 0 D) (headOr 0 T) k q.hi q.i0 q.a q.b q.ab
  obtain ⟨h1, h2⟩ := h
  obtain ⟨m, s1, s2⟩ := h1.app
  have hm : m = headOr 0 T := s2.head
  subst hm
  have hnd := List.nodup_append.1 q.nd
  have hD : ∀ k, k ∈ D → k ≠ i ∧ k ∉ T := fun k hk => ⟨fun e => q.ni (by rw [← e]; exact List.mem_append_left _ hk), fun ht => hnd.2.2 k hk k ht rfl⟩
  have hT : ∀ k, k ∈ T → k ≠ i ∧ k ∉ D := fun k hk => ⟨fun e => q.ni (by rw [← e]; exact List.mem_append_right _ hk), fun hd => hnd.2.2 k hd k hk rfl⟩
  have hh : ∀ k, k = headOr 0 T → headOr 0 T ≠ 0 → k ∈ T := fun k e h0 => by
    cases T with
    | nil => exact absurd rfl h0
    | cons y T => rw [e]; simp [headOr]
  have hl : ∀ k, k = lastOr 0 D → lastOr 0 D ≠ 0 → k ∈ D := fun k e h0 => by
    rcases lastOr_mem 0 D with q | q
    · exact absurd q h0
    · rw [e]; exact q
  refine ⟨⟨?_, ?_⟩, fun k hk hn => ?_⟩
  · refine Seg.join (m := i) ?_ ⟨rfl, q.i0, ⟨true, p, lastOr 0 D, headOr 0 T⟩, by rw [hat, if_pos rfl], rfl, rfl, rfl, ?_⟩
    · by_cases hD0 : D = []
      · subst hD0
        show (if lastOr 0 [] = 0 then i else e.f) = i
        simp [lastOr]
      · have hl0 := lastOr0 s1 hD0
        show Seg _ p 0 (if lastOr 0 D = 0 then i else e.f) D i
        rw [if_neg hl0]
        obtain ⟨D', y, rfl⟩ := snoc_of hD0
        have hy : lastOr 0 (D' ++ [y]) = y := lastOr_snoc _ _ _
        refine s1.last (fun k hk => ?_) ?_
        · have hk1 := hD k (by simp [hk])
          have hky : k ≠ y := fun e => by
            have := (List.nodup_append.1 hnd.1).2.2 k hk y (by simp)
            exact this e
          rw [hat, if_neg hk1.1, if_neg (fun z => hk1.2 (hh k z.2 z.1)), if_neg (fun z => hky (z.2.trans hy))]
        · have hk1 := hD y (by simp)
          rw [hat, if_neg hk1.1, if_neg (fun z => hk1.2 (hh y z.2 z.1)), if_pos ⟨hl0, hy.symm⟩]
    · cases T with
      | nil => exact s2
      | cons y T' =>
        refine s2.first (fun k hk => ?_) ?_
        · have hk1 := hT k (by simp [hk])
          have hky : k ≠ y := fun e => by
            have := (List.nodup_cons.1 hnd.2.1).1
            exact this (e ▸ hk)
          rw [hat, if_neg hk1.1, if_neg (fun z => hky z.2), if_neg (fun z => hk1.2 (hl k z.2 z.1))]
        · have hk1 := hT y (by simp)
          have hy0 := headOr0 s2 (by simp)
          rw [hat, if_neg hk1.1, if_pos ⟨hy0, rfl⟩]
  · show (if headOr 0 T = 0 then i else e.l) = lastOr 0 (D ++ i :: T)
    rw [lastOr_app]
    show _ = lastOr i T
    cases T with
    | nil => simp [headOr, lastOr]
    | cons y T' =>
      have hy0 := headOr0 s2 (by simp)
      rw [if_neg hy0, h2, lastOr_app]
      rfl
  · have h1 : k ∉ D := fun z => hn (List.mem_append_left _ z)
    have h2 : k ∉ T := fun z => hn (List.mem_append_right _ z)
    rw [hat, if_neg hk, if_neg (fun z => h2 (hh k z.2 z.1)), if_neg (fun z => h1 (hl k z.2 z.1))]
theorem kd_unlink {P : List Sp} {p i : Nat} {e : En} {D T : List Nat} {s : Sp} (h : Kd P p e (D ++ i :: T)) (hs : P[i]? = some s) (q : Apt P p i e D T) :
    s.a = lastOr 0 D ∧ s.b = headOr 0 T ∧ s.p = p ∧ Kd (unlinkS P i s) p ⟨if s.a = 0 then s.b else e.f, if s.b = 0 then s.a else e.l⟩ (D ++ T) ∧ (∀ k, k ≠ i → k ∉ D ++ T → (unlinkS P i s)[k]? = P[k]?) ∧ (unlinkS P i s)[i]? = some ⟨false, 0, 0, 0⟩ := by
  obtain ⟨h1, h2⟩ := h
  obtain ⟨m, s1, hm, _, s', h3, h4, h5, h6, s2⟩ := h1.app
  subst hm
  rw [hs] at h3
  simp at h3
  subst h3
  have hb : s.b = headOr 0 T := s2.head
  have ha : s.a = lastOr 0 D := h6
  have hat := fun k => unlinkS_at P m k s q.hi (by rw [ha]; exact q.a) (by rw [hb]; exact q.b) (by rw [ha, hb]; exact q.ab)
  have hnd := List.nodup_append.1 q.nd
  have hD : ∀ k, k ∈ D → k ≠ m ∧ k ∉ T := fun k hk => ⟨fun e => q.ni (by rw [← e]; exact List.mem_append_left _ hk), fun ht => hnd.2.2 k hk k ht rfl⟩
  have hT : ∀ k, k ∈ T → k ≠ m ∧ k ∉ D := fun k hk => ⟨fun e => q.ni (by rw [← e]; exact List.mem_append_right _ hk), fun hd => hnd.2.2 k hd k hk rfl⟩
  have hh : ∀ k, k = s.b → s.b ≠ 0 → k ∈ T := fun k e h0 => by
    rw [hb] at e h0
    cases T with
    | nil => exact absurd rfl h0
    | cons y T => rw [e]; simp [headOr]
  have hl : ∀ k, k = s.a → s.a ≠ 0 → k ∈ D := fun k e h0 => by
    rw [ha] at e h0
    rcases lastOr_mem 0 D with q | q
    · exact absurd q h0
    · rw [e]; exact q
  refine ⟨ha, hb, h5, ⟨?_, ?_⟩, fun k hk hn => ?_, by rw [hat, if_pos rfl]⟩
  · refine Seg.join (m := s.b) ?_ ?_
    · by_cases hD0 : D = []
      · subst hD0
        show (if s.a = 0 then s.b else e.f) = s.b
        rw [ha]
        simp [lastOr]
      · have hl0 := lastOr0 s1 hD0
        show Seg _ p 0 (if s.a = 0 then s.b else e.f) D s.b
        rw [if_neg (by rw [ha]; exact hl0)]
        obtain ⟨D', y, rfl⟩ := snoc_of hD0
        have hy : s.a = y := ha.trans (lastOr_snoc _ _ _)
        refine s1.last (fun k hk => ?_) ?_
        · have hk1 := hD k (by simp [hk])
          have hky : k ≠ y := fun e => by
            have := (List.nodup_append.1 hnd.1).2.2 k hk y (by simp)
            exact this e
          rw [hat, if_neg hk1.1, if_neg (fun z => hk1.2 (hh k z.2 z.1)), if_neg (fun z => hky (z.2.trans hy))]
        · have hk1 := hD y (by simp)
          rw [hat, if_neg hk1.1, if_neg (fun z => hk1.2 (hh y z.2 z.1)), if_pos ⟨by rw [ha]; exact hl0, hy.symm⟩]
    · cases T with
      | nil => exact s2
      | cons y T' =>
        have hy : s.b = y := s2.1
        rw [← ha]
        refine s2.first (fun k hk => ?_) ?_
        · have hk1 := hT k (by simp [hk])
          have hky : k ≠ y := fun e => by
            have := (List.nodup_cons.1 hnd.2.1).1
            exact this (e ▸ hk)
          rw [hat, if_neg hk1.1, if_neg (fun z => hky (z.2.trans hy)), if_neg (fun z => hk1.2 (hl k z.2 z.1))]
        · have hk1 := hT y (by simp)
          have hy0 : s.b ≠ 0 := by rw [hb]; exact headOr0 s2 (by simp)
          rw [hat, if_neg hk1.1, if_pos ⟨hy0, hy.symm⟩]
  · show (if s.b = 0 then s.a else e.l) = lastOr 0 (D ++ T)
    rw [lastOr_app]
    cases T with
    | nil =>
      rw [hb, ha]
      simp [headOr, lastOr]
    | cons y T' =>
      have hy0 : s.b ≠ 0 := by rw [hb]; exact headOr0 s2 (by simp)
      rw [if_neg hy0, h2, lastOr_app]
      rfl
  · have h1 : k ∉ D := fun z => hn (List.mem_append_left _ z)
    have h2 : k ∉ T := fun z => hn (List.mem_append_right _ z)
    rw [hat, if_neg hk, if_neg (fun z => h2 (hh k z.2 z.1)), if_neg (fun z => h1 (hl k z.2 z.1))]
end Go.Proofs.Ytcdaghlbfclpkaa
