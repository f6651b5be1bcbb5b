/- A name put into a row that rises. -/
import Derived.Test.YtaadphifagimaaaDoorRe
namespace Go.Proofs.YtaadphifagimaaaDoor
open Go.RowKit


theorem less_eq : ∀ a b : List UInt8, Op.bytesLess a b = ltP a b
  | [], [] => rfl
  | [], _ :: _ => rfl
  | _ :: _, [] => rfl
  | x :: a, y :: b => by
    rw [Op.bytesLess, ltP, less_eq a b]
    rfl

/-- What the document's Longest has, by what it has seen. -/
theorem lg_fold (s : Path) : ∀ (A : List Rf) (acc : Int × Nat), acc.2 ≤ (A.foldl (lgStep s) acc).2 ∧ (∀ x ∈ A, x.nm <+: s → x.n.size ≤ (A.foldl (lgStep s) acc).2) ∧
    (A.foldl (lgStep s) acc = acc ∨ ∃ x ∈ A, x.nm <+: s ∧ A.foldl (lgStep s) acc = (x.r, x.n.size) ∧ acc.2 < x.n.size)
  | [], acc => ⟨Nat.le_refl _, by simp, .inl rfl⟩
  | y :: A, acc => by
    rw [List.foldl_cons]
    obtain ⟨h1, h2, h3⟩ := lg_fold s A (lgStep s acc y)
    by_cases hy : acc.2 < y.n.size ∧ y.nm <+: s
    · have e : lgStep s acc y = (y.r, y.n.size) := by
        unfold lgStep
        rw [if_pos]
        rw [Bool.and_eq_true]
        exact ⟨decide_eq_true hy.1, List.isPrefixOf_iff_prefix.2 hy.2⟩
      rw [e] at h1 h2 h3 ⊢
      simp only at h1 h3
      refine ⟨by omega, fun x hx hp => ?_, .inr ?_⟩
      · rcases List.mem_cons.1 hx with rfl | hx
        · exact h1
        · exact h2 x hx hp
      · rcases h3 with h3 | ⟨x, hx, hp, hr, hz⟩
        · exact ⟨y, by simp, hy.2, h3, hy.1⟩
        · exact ⟨x, by simp [hx], hp, hr, by omega⟩
    · have e : lgStep s acc y = acc := by
        unfold lgStep
        rw [if_neg]
        rw [Bool.and_eq_true]
        exact fun h => hy ⟨of_decide_eq_true h.1, List.isPrefixOf_iff_prefix.1 h.2⟩
      rw [e] at h1 h2 h3 ⊢
      refine ⟨h1, fun x hx hp => ?_, ?_⟩
      · rcases List.mem_cons.1 hx with rfl | hx
        · have : ¬ acc.2 < x.n.size := fun h => hy ⟨h, hp⟩
          omega
        · exact h2 x hx hp
      · rcases h3 with h3 | ⟨x, hx, hp, hr, hz⟩
        · exact .inl h3
        · exact .inr ⟨x, by simp [hx], hp, hr, hz⟩

theorem best_is (l : List Rf) (s : Path) : ∀ n, (∀ j v, 0 < j → j ≤ n → val l (s.take j) = some v → j ≤ (best l s n).2) ∧
    (best l s n = (0, 0) ∨ ∃ r k, best l s n = (r, k) ∧ 0 < k ∧ k ≤ n ∧ val l (s.take k) = some r)
  | 0 => ⟨fun j v h1 h2 => by omega, .inl rfl⟩
  | n + 1 => by
    obtain ⟨h1, h2⟩ := best_is l s n
    cases hv : val l (s.take (n + 1)) with
    | some r =>
      have e : best l s (n + 1) = (r, n + 1) := by rw [best, hv]
      rw [e]
      exact ⟨fun j v _ hj _ => hj, .inr ⟨r, n + 1, rfl, by omega, Nat.le_refl _, hv⟩⟩
    | none =>
      have e : best l s (n + 1) = best l s n := by rw [best, hv]
      rw [e]
      refine ⟨fun j v h0 hj hjv => ?_, ?_⟩
      · by_cases hjn : j = n + 1
        · rw [hjn, hv] at hjv; cases hjv
        · exact h1 j v h0 (by omega) hjv
      · rcases h2 with h2 | ⟨r, k, h3, h4, h5, h6⟩
        · exact .inl h2
        · exact .inr ⟨r, k, h3, h4, by omega, h6⟩

theorem pre_take {x s : Path} (h : x <+: s) {n : Nat} (hn : x.length = n) : x = s.take n := by
  have := List.prefix_iff_eq_take.1 h
  rw [hn] at this
  exact this

theorem lg_best (l : List Rf) (s : Path) : lg (allP l) s = best l s s.length := by
  obtain ⟨_, a2, a3⟩ := lg_fold s (allP l) (0, 0)
  obtain ⟨b2, b3⟩ := best_is l s s.length
  unfold lg
  have hsz : ∀ x : Rf, x.nm.length = x.n.size := fun x => Array.length_toList
  obtain ⟨p, hp⟩ : ∃ p, (allP l).foldl (lgStep s) (0, 0) = p := ⟨_, rfl⟩
  obtain ⟨q, hq⟩ : ∃ q, best l s s.length = q := ⟨_, rfl⟩
  rw [hp] at a2 a3 ⊢
  rw [hq] at b2 b3 ⊢
  -- each of the two is no longer than the other
  have h1 : p.2 ≤ q.2 := by
    rcases a3 with a3 | ⟨x, hx, hpx, hr, hz⟩
    · rw [a3]; exact Nat.zero_le _
    · rw [hr]
      have hv := (allP_mem x).1 hx
      rw [pre_take hpx (hsz x)] at hv
      have := hpx.length_le
      rw [hsz] at this
      exact b2 _ _ hz this hv
  have h2 : q.2 ≤ p.2 := by
    rcases b3 with b3 | ⟨r, k, h3, h4, h5, h6⟩
    · rw [b3]; exact Nat.zero_le _
    · rw [h3]
      have hm : (⟨⟨(s.take k).toArray⟩, r⟩ : Rf) ∈ allP l := (allP_mem _).2 h6
      have := a2 _ hm (List.take_prefix _ _)
      have hs : (⟨⟨(s.take k).toArray⟩, r⟩ : Rf).n.size = k := by
        show (s.take k).toArray.size = k
        rw [List.size_toArray, List.length_take]
        omega
      rw [hs] at this
      exact this
  rcases a3 with a3 | ⟨x, hx, hpx, hr, hz⟩
  · rcases b3 with b3 | ⟨r, k, h3, h4, h5, h6⟩
    · rw [a3, b3]
    · rw [a3, h3] at h2; simp only at h2; omega
  · rcases b3 with b3 | ⟨r, k, h3, h4, h5, h6⟩
    · rw [hr, b3] at h1; simp only at h1 hz; omega
    · have hv := (allP_mem x).1 hx
      rw [pre_take hpx (hsz x)] at hv
      rw [hr, h3] at h1 h2
      simp only at h1 h2
      have hk : x.n.size = k := by omega
      rw [hk, h6] at hv
      rw [hr, h3, hk, Option.some.inj hv]

theorem any_goes (l : List Rf) (s : Path) : ((allP l).any fun r => s.isPrefixOf r.nm) = goes l s := by
  rw [Bool.eq_iff_iff, List.any_eq_true]
  constructor
  · rintro ⟨x, hx, hp⟩
    obtain ⟨t, ht⟩ := List.isPrefixOf_iff_prefix.1 hp
    have hpre : pre l s = true := pre_val.2 ⟨t, x.r, by rw [ht]; exact (allP_mem x).1 hx⟩
    unfold goes
    rw [hpre, Bool.and_true]
    apply decide_eq_true
    by_cases h0 : cnt [] l = 0
    · rw [cnt_pos h0 s] at hpre; cases hpre
    · omega
  · intro h
    unfold goes at h
    rw [Bool.and_eq_true] at h
    obtain ⟨q, v, hv⟩ := pre_val.1 h.2
    refine ⟨⟨⟨(s ++ q).toArray⟩, v⟩, (allP_mem _).2 hv, List.isPrefixOf_iff_prefix.2 (List.prefix_append s q)⟩

theorem val_single (x : Rf) (p : Path) : val [x] p = if x.ok = true ∧ x.nm = p then some x.r else none := rfl

theorem ins_skip {l : List Rf} {x : Rf} (h : x.ok = false) : allP (l ++ [x]) = allP l := by
  apply all_same
  funext p
  rw [val_append, val_single, if_neg (by rw [h]; simp)]
  cases val l p <;> rfl
theorem ins_same {l : List Rf} {x y : Rf} (hy : y ∈ allP l) (e : y.nm = x.nm) : allP (l ++ [x]) = allP l := by
  have hv := (allP_mem y).1 hy
  apply all_same
  funext p
  rw [val_append, val_single]
  by_cases hp : x.nm = p
  · rw [← hp, ← e, hv]; rfl
  · rw [if_neg fun h => hp h.2]
    cases val l p <;> rfl

theorem ins_new {l : List Rf} {x : Rf} {k : Nat} (hok : x.ok = true) (h1 : ∀ j y, j < k → (allP l)[j]? = some y → ltP y.nm x.nm = true)
    (h2 : ∀ y, (allP l)[k]? = some y → ltP y.nm x.nm = false ∧ y.nm ≠ x.nm) : allP (l ++ [x]) = (allP l).take k ++ [x] ++ (allP l).drop k := by
  have hs := allP_sorted l
  have lo : ∀ y ∈ (allP l).take k, ltP y.nm x.nm = true := fun y hy => by
    obtain ⟨j, hj⟩ := List.getElem?_of_mem hy
    have hjk : j < k := by
      have := (List.getElem?_eq_some_iff.1 hj).1
      rw [List.length_take] at this
      omega
    rw [List.getElem?_take_of_lt hjk] at hj
    exact h1 j y hjk hj
  have hi : ∀ y ∈ (allP l).drop k, ltP x.nm y.nm = true := fun y hy => by
    have hd : Sorted ((allP l).drop k) := hs.drop
    cases hc : (allP l).drop k with
    | nil => rw [hc] at hy; simp at hy
    | cons z T =>
      have hz : (allP l)[k]? = some z := by
        have : ((allP l).drop k)[0]? = some z := by rw [hc]; rfl
        rw [List.getElem?_drop] at this
        simpa using this
      obtain ⟨g1, g2⟩ := h2 z hz
      have g3 : ltP x.nm z.nm = true := by
        rcases ltP_total g2 with g | g
        · rw [g] at g1; cases g1
        · exact g
      rw [hc] at hd hy
      rcases List.mem_cons.1 hy with rfl | hy
      · exact g3
      · exact ltP_trans g3 ((List.pairwise_cons.1 hd).1 y hy)
  have hmem : ∀ y, y ∈ (allP l).take k ++ [x] ++ (allP l).drop k ↔ y ∈ allP l ∨ y = x := fun y => by
    have : y ∈ allP l ↔ y ∈ (allP l).take k ∨ y ∈ (allP l).drop k := by
      conv => lhs; rw [← List.take_append_drop k (allP l)]
      exact List.mem_append
    rw [this, List.mem_append, List.mem_append, List.mem_singleton]
    constructor
    · rintro ((h | h) | h)
      · exact .inl (.inl h)
      · exact .inr h
      · exact .inl (.inr h)
    · rintro ((h | h) | h)
      · exact .inl (.inl h)
      · exact .inr h
      · exact .inl (.inr h)
  have hfree : ∀ y ∈ allP l, y.nm ≠ x.nm := fun y hy e => by
    rw [← List.take_append_drop k (allP l)] at hy
    rcases List.mem_append.1 hy with h | h
    · have := lo y h; rw [e, ltP_irrefl] at this; cases this
    · have := hi y h; rw [e, ltP_irrefl] at this; cases this
  apply sorted_eq (allP_sorted _)
  · show List.Pairwise _ _
    rw [List.pairwise_append, List.pairwise_append]
    refine ⟨⟨hs.take, by simp, fun a ha b hb => ?_⟩, hs.drop, fun a ha b hb => ?_⟩
    · rw [List.mem_singleton] at hb; subst hb; exact lo a ha
    · rcases List.mem_append.1 ha with h | h
      · exact ltP_trans (lo a h) (hi b hb)
      · rw [List.mem_singleton] at h; subst h; exact hi b hb
  · intro r
    rw [hmem, allP_mem, allP_mem, val_append, val_single]
    by_cases hr : x.nm = r.nm
    · rw [if_pos ⟨hok, hr⟩]
      have hn : val l r.nm = none := by
        cases hv : val l r.nm with
        | none => rfl
        | some v =>
          have hm : (⟨r.n, v⟩ : Rf) ∈ allP l := (allP_mem _).2 hv
          exact absurd (show (⟨r.n, v⟩ : Rf).nm = x.nm from hr.symm) (hfree ⟨r.n, v⟩ hm)
      rw [hn]
      constructor
      · intro h
        right
        obtain ⟨rn, rr⟩ := r
        obtain ⟨xn, xr⟩ := x
        have e1 : xn = rn := bytes_eq hr
        have e2 : xr = rr := by simpa using h
        rw [e1, e2]
      · rintro (h | rfl)
        · cases h
        · rfl
    · rw [if_neg fun h => hr h.2]
      constructor
      · intro h
        left
        cases hv : val l r.nm with
        | none => rw [hv] at h; cases h
        | some v => rw [hv] at h; exact h
      · rintro (h | rfl)
        · rw [h]; rfl
        · exact absurd rfl hr
end Go.Proofs.YtaadphifagimaaaDoor
