/- Find; slices.Delete, Remove; Pop. -/
import Derived.Test.YtkmghkfdegdikaaDoorBd
namespace Go.Proofs.YtkmghkfdegdikaaDoor
open Go.RowKit

/-- The place of the topmost of a number, among so many. -/
def fnd (id : Int) (M : List El) : Nat → Int
  | 0 => -1
  | k + 1 => match M[k]? with
    | some d => if d.id = id then (k : Int) else fnd id M k
    | none => fnd id M k
theorem fnd_next {id : Int} {M : List El} {k : Nat} {d : El} (h : M[k]? = some d) : fnd id M (k + 1) = if d.id = id then (k : Int) else fnd id M k := by
  rw [fnd, h]
theorem fnd_le (id : Int) (M : List El) : ∀ k, -1 ≤ fnd id M k ∧ fnd id M k < k
  | 0 => ⟨Int.le_refl _, by show (-1 : Int) < 0; decide⟩
  | k + 1 => by
    have := fnd_le id M k
    rw [fnd]
    split
    · split <;> omega
    · omega
theorem fnd_pu (id : Int) {M N : List El} (h : M.map El.pu = N.map El.pu) : ∀ k, fnd id M k = fnd id N k
  | 0 => rfl
  | k + 1 => by
    rw [fnd, fnd, fnd_pu id h k]
    have := congrArg (·[k]?) h
    simp only [List.getElem?_map] at this
    cases h1 : M[k]? with
    | none =>
      cases h2 : N[k]? with
      | none => rfl
      | some e => rw [h1, h2] at this; cases this
    | some d =>
      cases h2 : N[k]? with
      | none => rw [h1, h2] at this; cases this
      | some e =>
        rw [h1, h2] at this
        injection this with e'
        have := congrArg Prod.fst e'
        simp only at this ⊢
        rw [this]
set_option maxHeartbeats 1000000 in
theorem find_any {S : Nat → Prop} {w : World} {x : Nat} {rv : Value} {M : List El} (h : Stk S w x rv M) (hM : M.length ≤ 1000000000) (id : Int) : Calls Tryd.prog 25 #[ptr x, iv id] w fun e w' => e = .returned (iv (fnd id M M.length)) ∧ w' = w := by
  obtain ⟨r, hr⟩ : ∃ r, fnd id M M.length = r := ⟨_, rfl⟩
  rw [hr]
  have HR : Hid (fnd id M M.length = r ∧ Stk S w x rv M) := ⟨hr, h⟩
  have ks := size_any h
  obtain ⟨m, hm⟩ : ∃ m, M.length = m := ⟨_, rfl⟩
  have HM : Hid (M.length = m) := hm
  rw [hm] at ks hM
  clear hr hm h
  go_enter Tryd.func25, Tryd.ntmps25
  go_wp2_with fail
  refine ks.mono ?_
  rintro e w' ⟨rfl, hw'⟩
  rw [hw']
  clear hw' ks w'
  go_wp2_with fail
  go_loopg [5] m (fun g av wr => ∃ z : Int, av = iv z ∧ z = (g : Int) - 1 ∧ g ≤ m ∧ wr = w ∧ Hid (fnd id M g = r))
  case atStart => exact ⟨_, rfl, rfl, Nat.le_refl _, rfl, by
    show _ = _
    rw [← HM.out]
    exact HR.out.1⟩
  case round =>
    obtain ⟨z, rfl, hz, hg, hwr, HS⟩ := hrel
    rw [hwr]
    clear hwr
    cases gk with
    | zero =>
      obtain rfl : z = -1 := by omega
      clear hz
      have HF : Hid (-1 = r) := HS.out
      go_wp2_with fail
      go_ret
      rw [← HF.out]
      exact ⟨rfl, rfl⟩
    | succ k =>
      obtain rfl : z = (k : Int) := by omega
      clear hz
      have hk : k < m := by omega
      obtain ⟨d, hd⟩ : ∃ d, M[k]? = some d := ⟨_, List.getElem?_eq_getElem (by rw [HM.out]; exact hk)⟩
      obtain ⟨g, cp, hrv, hc1, hc2, q0, _⟩ := HR.out.2.at hd
      have cx : w.cell? ⟨x, 0, none⟩ = some (.slice (some ⟨g, 0, none⟩) m cp) := by rw [HR.out.2.blk.cell 0, hrv, HM.out]; rfl
      have HN : Hid ((if d.id = id then (k : Int) else fnd id M k) = r) := by rw [← fnd_next hd]; exact HS.out
      clear hd hrv HS
      by_cases hi : d.id = id
      · have g0 : (d.id == id) = true := beq_iff_eq.2 hi
        have HF : Hid ((k : Int) = r) := by have := HN.out; rw [if_pos hi] at this; exact this
        clear hi
        go_wp2_with fail
        go_ret
        rw [← HF.out]
        exact ⟨rfl, rfl⟩
      · have g0 : (d.id == id) = false := beq_false_of_ne hi
        have HF : Hid (fnd id M k = r) := by have := HN.out; rw [if_neg hi] at this; exact this
        clear hi
        go_wp2_with fail
        go_roundg k
        case measure => omega
        case rel => exact ⟨_, rfl, rfl, by omega, rfl, HF⟩

set_option linter.unusedSimpArgs false in
set_option maxHeartbeats 2000000 in
set_option maxRecDepth 20000 in
theorem delete_any {S : Nat → Prop} {w : World} {g n c : Nat} {M : List El} (h : Rw S w 34 4 (.slice (some ⟨g, 0, none⟩) n c) n (M.flatMap El.cs)) (hl : M.length = n) (hn : n ≤ 1000000000) (hav : ∀ d ∈ M, d.av.oneCell' = true) (i j : Nat) (hij : j = i + 1) (hjn : j ≤ n) :
    Calls Tryd.prog 46 #[.slice (some ⟨g, 0, none⟩) n c, .int .i64 i, .int .i64 j] w fun e w' => ∃ p, p + 1 = n ∧ e = .returned (.slice (some ⟨g, 0, none⟩) p c) ∧ Rw S w' 34 4 (.slice (some ⟨g, 0, none⟩) p c) p ((M.eraseIdx i).flatMap El.cs) ∧ w.grownBy w' (some g) := by
  obtain ⟨g', c', cur, he, hgS, hgl, hgb, hc1, hc2, hc3, hc4⟩ := h.form (by omega)
  simp only [Value.slice.injEq, Option.some.injEq, Addr.mk.injEq, and_true, true_and] at he
  obtain ⟨rfl, rfl⟩ := he
  obtain ⟨i0, hi0, hz0, hzs0, hzb⟩ := info_parts info34
  obtain ⟨m, hm⟩ : ∃ m, n - j = m := ⟨_, rfl⟩
  obtain ⟨p, hp⟩ : ∃ p, i + m = p := ⟨_, rfl⟩
  have hpn : p + 1 = n := by omega
  have hfl := el_len M
  have hcl : cur.toList.length = c * 4 := by rw [Array.length_toList, hc3]
  have hC : ((M.drop j).flatMap El.cs).length = m * 4 := by rw [el_len, List.length_drop, hl, hm]
  have hA : cur.toList.take (i * 4) = (M.take i).flatMap El.cs := by
    rw [fl_take El.cs 4 (fun _ => rfl), ← hc4, List.take_take, Nat.min_eq_left (by omega)]
  -- where the second part begins
  obtain ⟨A, hAd, hsrc⟩ : ∃ A : Addr, (if c = j then some (⟨g, 0, none⟩ : Addr) else some ⟨g, j * 4, none⟩) = some A ∧ ∀ (t : Nat) u, ((M.drop j).flatMap El.cs)[t]? = some u → w.drew.cell? (A.add t) = some u := by
    by_cases hcj : c = j
    · refine ⟨⟨g, 0, none⟩, if_pos hcj, fun t u hu => ?_⟩
      have := (List.getElem?_eq_some_iff.1 hu).1
      omega
    · refine ⟨⟨g, j * 4, none⟩, if_neg hcj, fun t u hu => ?_⟩
      rw [fl_drop El.cs 4 (fun _ => rfl), List.getElem?_drop] at hu
      rw [Addr.add_lit]
      exact h.cell hu
  have hrun := run_append_room (P := Tryd.prog) w.drew 26 26 34 i0 Tryd.underlying26 hi0 g i c cur hgb A m (c - j) ((M.drop j).flatMap El.cs) (by rw [hzs0]; exact hC) hsrc (el_one _ fun d hd => hav d (List.drop_subset _ _ hd)) (by omega) (by rw [hzs0, hC, hc3]; omega)
  rw [hzs0, hC] at hrun
  obtain ⟨cur2, hcur2⟩ : ∃ cur2 : Array Value, (cur.toList.take (i * 4) ++ (M.drop j).flatMap El.cs ++ cur.toList.drop (i * 4 + m * 4)).toArray = cur2 := ⟨_, rfl⟩
  rw [hcur2, hp] at hrun
  have hs2 : cur2.size = c * 4 := by
    rw [← hcur2]
    simp only [List.size_toArray, List.length_append, List.length_take, List.length_drop, hC, hcl]
    omega
  have ht2 : cur2.toList.take (p * 4) = (M.eraseIdx i).flatMap El.cs := by
    rw [← hcur2, List.eraseIdx_eq_take_drop_succ, List.flatMap_append, ← hij]
    simp only [List.toList_toArray]
    rw [List.take_append_of_le_length (by rw [List.length_append, List.length_take, hC, hcl]; omega), List.take_of_length_le (by rw [List.length_append, List.length_take, hC, hcl]; omega), hA]
  have hg2 : (w.drew.setRow g cur2).heap[g]? = some (.cells cur2 34 (0, 0)) := setRow_heap w.drew g cur cur2 34 (0, 0) hgb
  have gr2 : w.grownBy (w.drew.setRow g cur2) (some g) := ⟨rfl, rfl, rfl, by simp, fun k hk hne => setRow_other w.drew g k cur2 (fun e => hne (by rw [e]))⟩
  obtain ⟨W3, cur3, hclr, hgr3, hg3, hs3, hsame⟩ := run_clear_s (w := w.drew.setRow g cur2) (p * 4) 1 (c - p) 0 hg2 (by decide) (by rw [hs2]; omega)
  have HF : Hid (Rw S W3 34 4 (.slice (some ⟨g, 0, none⟩) p c) p ((M.eraseIdx i).flatMap El.cs) ∧ w.grownBy W3 (some g) ∧ p + 1 = n) := by
    refine ⟨⟨⟨?_, .inr ⟨g, c, cur3, rfl, Nat.zero_le _, hg3, by omega, hc2, by rw [hs3, hs2], ?_⟩⟩, fun k hk => ?_⟩, gr2.trans hgr3, hpn⟩
    · rw [el_len, List.length_eraseIdx, if_pos (by omega)]
      omega
    · rw [← ht2]
      apply List.ext_getElem?
      intro t
      by_cases ht : t < p * 4
      · rw [List.getElem?_take_of_lt ht, List.getElem?_take_of_lt ht, Array.getElem?_toList, Array.getElem?_toList]
        exact hsame t ht
      · rw [List.getElem?_take_eq_none (by omega), List.getElem?_take_eq_none (by omega)]
    · simp [Value.ownBlock] at hk
      subst hk
      exact hgS
  obtain ⟨W2, hW2⟩ : ∃ W2, w.drew.setRow g cur2 = W2 := ⟨_, rfl⟩
  rw [hW2] at hrun hclr
  have d1 : (i : Int) ≤ (j : Int) := by omega
  have d2 : (j : Int) ≤ (n : Int) := by omega
  have d3 : (n : Int) ≤ (c : Int) := by omega
  have d4 : ((i : Int) == (j : Int)) = false := beq_false_of_ne (by omega)
  have d5 : (p : Int) ≤ (n : Int) := by omega
  have d6 : ¬ c = p := by omega
  have d7 : n - p = 1 := by omega
  have d8 : i ≤ j := by omega
  have d9 : j ≤ n := hjn
  have d10 : n ≤ c := hc1
  have d11 : i ≤ c := by omega
  have d12 : p ≤ n := by omega
  have d13 : (i : Int) ≤ (c : Int) := by omega
  have hcm : c ≤ 9223372036854775807 := by unfold maxLen at hc2; omega
  have e1 : n - j = m := hm
  have e2 : i + m = p := hp
  clear hc2 hgr3 hg3 hs3 hsame gr2 hg2 ht2 hs2 hcur2 hsrc hA hC hcl hfl hc4 hc3 hgb hgl hgS hav hl h hij hW2 hm hp hpn hjn hc1
  go_enter Tryd.func46, Tryd.ntmps46
  go_upto_region 5 with fail
  go_region_law (refine step_append_eq rfl _ _ 26 26 rfl _ _ (by first | (simp [Act.eval]; done) | simp [Act.eval, Act.put]) (by first | (simp [Act.eval]; done) | (simp [Act.eval, Act.put]; done) | (simp [Act.eval, Act.put, hAd]; done) | exact hAd ▸ rfl) hrun ?_)
  all_goals
    go_wp2_with (at_builtin; refine list_clear_eq rfl _ 26 rfl _ rfl hclr ?_)
    go_ret
    exact ⟨p, HF.out.2.2, rfl, HF.out.1, HF.out.2.1⟩
end Go.Proofs.YtkmghkfdegdikaaDoor
