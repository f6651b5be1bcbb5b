/- slices.Delete at a row of byte slices that the program owns: what is left is owned. -/
import Derived.Test.YtfphmdkbcibcmaaInsb
namespace Go.Proofs.Ytfphmdkbcibcmaa
open Go.RowKit Go.Lib

theorem zero59 : ∀ w, (zeroValue 59).run Try.prog w = .ok (.slice none 0 0) w := fun w => by
  obtain ⟨i0, hi0, hz0, hzs, hzb⟩ := info_parts info59
  simp [zeroValue, typeInfo, hi0, hz0]

set_option maxHeartbeats 1000000 in
theorem delete_none (B : Nat) (pv : Value) (n i : Nat) (xs : List Value) (w : World) (hown : w.ownsRow B 59 1 pv n xs) (hi : i ≤ n) (hn : n ≤ 1000000) :
    Calls Try.prog 23 #[pv, .int .i64 i, .int .i64 i] w fun e w' => e = .returned pv ∧ w' = w := by
  obtain ⟨hl, hop⟩ := own_open hown
  rcases hop with ⟨hv, h0⟩ | ⟨g, cap, cur, hv, hBg, hbk, hnc, hcm, hcs, hcell, hthere, hsoft, hlt, hshape⟩
  · subst hv; subst h0
    obtain rfl : i = 0 := by omega
    clear hown
    go_enter Try.func23, Try.ntmps23
    go_wp2
    all_goals (go_ret; exact ⟨rfl, rfl⟩)
  · subst hv
    have hii : ((i : Int) == (i : Int)) = true := by simp
    unfold maxLen at hcm
    clear hown hbk hcell hthere hsoft hshape
    go_enter Try.func23, Try.ntmps23
    go_wp2
    all_goals (go_ret; exact ⟨rfl, rfl⟩)

set_option maxHeartbeats 4000000 in
set_option maxRecDepth 100000 in
theorem delete_some (g n cap i j : Nat) (xs : List Value) (w : World) (hl : xs.length = n) (hij : i < j) (hj : j ≤ n) (hnc : n ≤ cap) (_hcm : cap ≤ 9223372036854775807)
    (hcell : ∀ t u, xs[t]? = some u → w.cell? ⟨g, t, none⟩ = some u) (hthere : ∀ t, t < cap → (w.cell? ⟨g, t, none⟩).isSome = true) (hsoft : ∀ t, w.frozen? ⟨g, t, none⟩ = false) (h1c : ∀ v ∈ xs, v.oneCell' = true) :
    Calls Try.prog 23 #[.slice (some ⟨g, 0, none⟩) n cap, .int .i64 i, .int .i64 j] w fun e w' => e = .returned (.slice (some ⟨g, 0, none⟩) (n - (j - i)) cap) ∧ ∃ zs, w' = (w.drew.setCells g i (xs.drop j)).setCells g (n - (j - i)) zs := by
  obtain ⟨i0, hi0, hz0, hzs, hzb⟩ := info_parts info59
  obtain ⟨news, hnews⟩ : ∃ news, news = xs.drop j := ⟨_, rfl⟩
  have hlen : news.length = n - j := by rw [hnews, List.length_drop, hl]
  obtain ⟨A, hA, hsrc⟩ : ∃ A : Addr, (if cap = j then some (⟨g, 0, none⟩ : Addr) else some ⟨g, j, none⟩) = some A ∧ Hid (∀ t u, news[t]? = some u → w.drew.cell? (A.add t) = some u) := by
    by_cases h : cap = j
    · refine ⟨⟨g, 0, none⟩, by simp [h], fun t u hu => ?_⟩
      have h0 : news.length = 0 := by omega
      rw [List.length_eq_zero_iff.1 h0] at hu
      simp at hu
    · refine ⟨⟨g, j, none⟩, by simp [h], fun t u hu => ?_⟩
      rw [hnews, List.getElem?_drop] at hu
      rw [Addr.add_lit]
      exact hcell _ _ hu
  have s1 : Hid (news.length = (n - j) * 1) := by rw [Nat.mul_one]; exact hlen
  have s2 : Hid (∀ u ∈ news, u.oneCell' = true) := by
    intro u hu
    rw [hnews] at hu
    exact h1c u (List.mem_of_mem_drop hu)
  have s3 : Hid (∀ t, t < news.length → (w.drew.cell? ⟨g, 0 + i * 1 + t, none⟩).isSome = true ∧ w.drew.frozen? ⟨g, 0 + i * 1 + t, none⟩ = false) := by
    intro t ht
    rw [Nat.mul_one, Nat.zero_add]
    exact ⟨hthere _ (by omega), hsoft _⟩
  obtain ⟨W1, hW1⟩ : ∃ W1, W1 = w.drew.setCells g (0 + i * 1) news := ⟨_, rfl⟩
  have hW1' : W1 = w.drew.setCells g i news := by rw [hW1, Nat.mul_one, Nat.zero_add]
  have hth1 : ∀ t, t < cap → (W1.cell? ⟨g, t, none⟩).isSome = true := fun t ht => by
    rw [hW1']; exact some_setCells g news i w.drew (fun t ht => hthere _ (by omega)) t (hthere t ht)
  have hsf1 : ∀ t, W1.frozen? ⟨g, t, none⟩ = false := fun t => by rw [hW1', World.frozen?_setCells]; exact hsoft t
  have hcl : ∀ ty, (Builtin.clear_ #[52] ty #[.slice (some ⟨g, i + (n - j), none⟩) (n - (i + (n - j))) (cap - (i + (n - j)))]).run Try.prog W1 = .ok (.tuple #[]) (W1.setCells g (i + (n - j)) (List.replicate (n - (i + (n - j))) (.slice none 0 0))) :=
    fun ty => Lib.run_clear_slice W1 52 59 ty _ Try.underlying52 zero59 (by simp [Value.cells]) rfl g (i + (n - j)) _ _ (by omega) (fun t ht => hth1 _ (by omega)) (fun t ht => hsf1 _)
  have X : Hid (W1 = w.drew.setCells g i news) := hW1'
  have hW : Hid (W1 = w.drew.setCells g (0 + i * 1) news) := hW1
  have hic : i ≤ cap := by omega
  have hjc : j ≤ cap := by omega
  have hne : ((i : Int) == (j : Int)) = false := by simp; omega
  have hN : Hid (news = xs.drop j) := hnews
  clear hW1 hW1' hth1 hsf1 hlen hnews hcell hthere hsoft h1c
  go_enter Try.func23, Try.ntmps23
  go_wp2_with fail
  go_region_law (refine step_append_room rfl (.tmp 22) (.tmp 25) 52 rfl 59 i0 1 Try.underlying52 hi0 hzs g 0 i cap (by simp [Act.eval, Act.put]) A (n - j) (cap - j) news (by simp [Act.eval, Act.put]) s1.out hsrc.out s2.out (by omega) s3.out ?_; rw [← hW.out])
  go_wp2
  go_ret
  refine ⟨by rw [show n - (j - i) = i + (n - j) by omega]; rfl, List.replicate (n - (i + (n - j))) (.slice none 0 0), ?_⟩
  rw [← hN.out, ← X.out, show n - (j - i) = i + (n - j) by omega]

/-- slices.Delete at an owned row. -/
theorem delete_any (B : Nat) (pv : Value) (n i j : Nat) (xs : List Value) (w : World) (hown : w.ownsRow B 59 1 pv n xs) (h1c : ∀ v ∈ xs, v.oneCell' = true) (hij : i ≤ j) (hj : j ≤ n) (hn : n ≤ 1000000) :
    Calls Try.prog 23 #[pv, .int .i64 i, .int .i64 j] w fun e w' => ∃ v', e = .returned v' ∧ w'.ownsRow B 59 1 v' (n - (j - i)) (xs.take i ++ xs.drop j) ∧ w.grownBy w' pv.ownBlock := by
  obtain ⟨hl, hop⟩ := own_open hown
  by_cases he : i = j
  · subst he
    refine (delete_none B pv n i xs w hown hj hn).mono ?_
    rintro e w' ⟨he, hw⟩
    subst hw
    exact ⟨pv, he, by rw [Nat.sub_self, Nat.sub_zero, List.take_append_drop]; exact hown, grown_refl _ _⟩
  · rcases hop with ⟨hv, h0⟩ | ⟨g, cap, cur, hv, hBg, hbk, hnc, hcm, hcs, hcell, hthere, hsoft, hlt, hshape⟩
    · omega
    · subst hv
      refine (delete_some g n cap i j xs w hl (by omega) hj hnc (by unfold maxLen at hcm; exact hcm) hcell hthere hsoft h1c).mono ?_
      rintro e w' ⟨he, zs, hw⟩
      refine ⟨_, he, ?_, ?_⟩
      · obtain ⟨c1, hb1, hs1⟩ := setCells_blk g 59 (0, 0) (xs.drop j) i w.drew cur hbk
        obtain ⟨c2, hb2, hs2⟩ := setCells_blk g 59 (0, 0) zs (n - (j - i)) _ c1 hb1
        rw [← hw] at hb2
        have hdl : (xs.drop j).length = n - j := by rw [List.length_drop, hl]
        refine own_of_cells hBg hb2 (by omega) hcm (by omega) (by simp; omega) ?_
        intro t ht
        rw [hw, World.cell?_setCells_out g zs _ _ _ (fun _ _ => by simp; omega)]
        by_cases hti : t < i
        · rw [World.cell?_setCells_out g (xs.drop j) i _ _ (fun _ _ => by simp; omega), List.getElem?_append_left (by simp; omega), List.getElem?_take, if_pos hti, List.getElem?_eq_getElem (by omega)]
          exact hcell t _ (List.getElem?_eq_getElem (by omega))
        · have := World.cell?_setCells_in g (xs.drop j) i w.drew (fun t ht => hthere _ (by omega)) (t - i) (by omega)
          rw [show i + (t - i) = t by omega] at this
          have hti2 : (xs.take i).length = i := by simp; omega
          rw [this, List.getElem?_append_right (by omega), hti2, List.getElem?_eq_getElem (by omega)]
      · rw [hw]
        exact grown_trans (grown_trans (grown_drew w _) (grown_setCells _ g _ _)) (grown_setCells _ g _ _)
end Go.Proofs.Ytfphmdkbcibcmaa
