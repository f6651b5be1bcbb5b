/- slices.Concat of one row: new memory. -/
import Derived.Test.YtdpibnmbgjhohaaBe
import Derived.Lib.AppendZeros
namespace Go.Proofs.Ytdpibnmbgjhohaa
open Go.RowKit

/-- Elements, or none, behind a row of one's own. -/
theorem Rw.apps {S : Nat → Prop} {t e size bytes : Nat} {z0 : Value} (ht : Try.prog.underlying t = some (.slice e)) (hinfo : (Try.prog.info? e).map (fun i => (i.zero, i.size, i.bytes)) = some (some z0, size, bytes)) (hzs : z0.cells.size = size) (hsz : 0 < size) (hb : bytes ≤ 200)
    {W : World} {v : Value} {n : Nat} {xs : List Value} (hown : Rw S W e size v n xs) (hlow : ∀ k, S k → k < W.heap.size) (ao : Option Addr) (k c : Nat) (news : List Value) (hl : news.length = k * size) (hc : ∀ (j : Nat) u, news[j]? = some u → ∃ b off, ao = some ⟨b, off, none⟩ ∧ W.cell? ⟨b, off + j, none⟩ = some u) (h1 : ∀ u ∈ news, u.oneCell' = true) (hn : n + k ≤ 700000000000) :
    ∃ v' W', (Builtin.append_ #[t, t] t #[v, .slice ao k c]).run Try.prog W = .ok v' W' ∧ Rw S W' e size v' (n + k) (xs ++ news) ∧ W.grownBy W' v.ownBlock ∧ (v'.ownBlock = v.ownBlock ∨ v'.ownBlock = some W.heap.size) := by
  cases k with
  | zero =>
    obtain ⟨i0, hi, hz0, hz1, hz2⟩ := info_parts hinfo
    obtain ⟨bo, cap, rfl, hcap, _⟩ := hown.slice
    have hs : Src Try.prog i0.size t (.slice ao 0 c) 0 [] W := by
      cases ao with
      | none => exact Src.ofNil W ht c
      | some a => exact Src.ofSlice W ht a 0 c [] (by simp) (by simp) (by simp)
    have hnil : news = [] := List.eq_nil_of_length_eq_zero (by rw [hl]; simp)
    subst hnil
    exact ⟨_, _, run_append_nothing (P := Try.prog) W t t t e i0 ht hi bo n cap hcap _ hs, by rw [List.append_nil]; exact hown, World.grownBy.refl _ _, .inl rfl⟩
  | succ k =>
    have h0 : 0 < news.length := by rw [hl]; exact Nat.mul_pos (Nat.succ_pos _) hsz
    obtain ⟨b, off, rfl, _⟩ := hc 0 _ (List.getElem?_eq_getElem h0)
    exact Rw.app ht hinfo hzs hsz hb hown hlow b off (k + 1) c news hl (fun j u hj => by
      obtain ⟨b', off', e', h⟩ := hc j u hj
      cases e'
      exact h) h1 hn
theorem Rw.keep {S : Nat → Prop} {w w' : World} {e s n : Nat} {v : Value} {xs : List Value} (h : Rw S w e s v n xs) (g : w.grownBy w' v.ownBlock) : Keep S w w' := Keep.grown g (fun k hk => h.out k hk)
set_option maxRecDepth 20000 in
set_option maxHeartbeats 2000000 in
theorem grow61_any (w : World) (n : Nat) (hn : n ≤ 5000) : Calls Try.prog 61 #[.slice none 0 0, .int .i64 n] w fun e w' => ∃ v, e = .returned v ∧ Rw (fun k => k < w.heap.size) w' 53 2 v 0 [] ∧ Below w.heap.size w w' := by
  obtain ⟨i0, hi, hz0, hz1, hz2⟩ := info_parts info53
  have h1 : decide ((n : Int) < 0) = false := decide_eq_false (by omega)
  by_cases h0 : n = 0
  · subst h0
    go_enter Try.func61, Try.ntmps61
    go_wp2_with fail
    go_ret
    exact ⟨_, rfl, Rw.nil _ _ _ _, Below.refl _ _⟩
  · have hr := fun ty => Lib.run_append_nil_zeros (P := Try.prog) w 22 3 ty 53 i0 _ .i64 .i64 Try.underlying22 Try.underlying3 hi hz0 n (by omega) (by omega) (by omega) (by rw [hz2]; omega)
    have hcap := grownCap_ge w n 0 53
    have hcm := grownCap_le_maxLen w n 0 53 (by unfold maxLen; omega)
    obtain ⟨cap, hcp⟩ : ∃ cap, grownCap w n 0 53 = cap := ⟨_, rfl⟩
    rw [hcp] at hcap hcm
    simp only [hcp] at hr
    obtain ⟨V, hV⟩ : ∃ V, w.drew.alloc (.cells (Builtin.zeroCells (.agg #[.string ByteArray.empty, .string ByteArray.empty] : Value).cells n ++ Builtin.zeroCells (.agg #[.string ByteArray.empty, .string ByteArray.empty] : Value).cells (cap - n)) 53) = V := ⟨_, rfl⟩
    have HV : Hid (Rw (fun k => k < w.heap.size) V 53 2 (.slice (some ⟨w.heap.size, 0, none⟩) 0 cap) 0 [] ∧ Below w.heap.size w V) := by
      refine ⟨⟨⟨by simp, .inr ⟨w.heap.size, cap, _, rfl, Nat.zero_le _, by rw [← hV]; exact heap_alloc_new w.drew _, Nat.zero_le _, hcm, ?_, ?_⟩⟩, fun g hg => ?_⟩, ?_⟩
      · simp only [Array.size_append, size_zeroCells, Value.cells]
        simp
        omega
      · simp
      · simp [Value.ownBlock] at hg
        subst hg
        exact Nat.lt_irrefl _
      · rw [← hV]
        exact ((Below.refl w.heap.size w).drew).alloc (Nat.le_refl _) _
    simp only [hV] at hr
    have hn1 : decide ((0 : Int) < (n : Int)) = true := decide_eq_true (by omega)
    have hcap2 : (0 : Int) ≤ (cap : Int) := by omega
    have hmx : cap ≤ 9223372036854775807 := by unfold maxLen at hcm; omega
    clear hcp hV
    go_enter Try.func61, Try.ntmps61
    go_wp2_with (at_builtin; refine list_append_eq rfl _ _ 22 3 rfl _ _ rfl rfl (hr _) ?_)
    go_ret
    exact ⟨_, rfl, HV.out⟩
set_option maxHeartbeats 2000000 in
theorem concat51_any {w : World} {b : Nat} {ao : Option Addr} {A : List Value} (n ca : Nat) (hb : b < w.heap.size) (h0 : w.cell? ⟨b, 0, none⟩ = some (.slice ao n ca)) (hl : A.length = n * 2) (ha : ∀ (j : Nat) u, A[j]? = some u → ∃ g off, ao = some ⟨g, off, none⟩ ∧ g < w.heap.size ∧ w.cell? ⟨g, off + j, none⟩ = some u) (h1 : ∀ u ∈ A, u.oneCell' = true) (hn2 : n ≤ 5000) :
    Calls Try.prog 51 #[.slice (some ⟨b, 0, none⟩) 1 1] w fun e w' => ∃ v, e = .returned v ∧ Rw (fun k => k < w.heap.size) w' 53 2 v n A ∧ Below w.heap.size w w' := by
  have HA : Hid ((∀ (j : Nat) u, A[j]? = some u → ∃ g off, ao = some ⟨g, off, none⟩ ∧ g < w.heap.size ∧ w.cell? ⟨g, off + j, none⟩ = some u) ∧ A.length = n * 2 ∧ ∀ u ∈ A, u.oneCell' = true) := ⟨ha, hl, h1⟩
  clear ha hl h1
  have hneg : decide ((n : Int) < 0) = false := decide_eq_false (by omega)
  go_enter Try.func51, Try.ntmps51
  go_wp2_with fail
  refine wp_loop_rounds 2 ?_
  rw [rounds_succ]
  go_wp2_with fail
  rw [rounds_succ]
  go_wp2_with fail
  refine (grow61_any w n (by omega)).mono ?_
  rintro e w1 ⟨v, rfl, r1, b1⟩
  have c0 := (b1.cell (p := ⟨b, 0, none⟩) hb).trans h0
  have hb1 : b < w1.heap.size := Nat.lt_of_lt_of_le hb b1.size
  obtain ⟨v2, w2, e2, r2, g2, _⟩ := Rw.apps (t := 22) (e := 53) Try.underlying22 info53 rfl (by decide) (by decide) r1 (fun k hk => Nat.lt_of_lt_of_le hk b1.size) ao n ca A HA.out.2.1 (fun j u hj => by
    obtain ⟨g, off, e, hg, hc⟩ := HA.out.1 j u hj
    exact ⟨g, off, e, (b1.cell (p := ⟨g, off + j, none⟩) hg).trans hc⟩) HA.out.2.2 (by omega)
  have HF : Hid (Rw (fun k => k < w.heap.size) w2 53 2 v2 n A ∧ Below w.heap.size w w2) := ⟨by rw [List.nil_append, Nat.zero_add] at r2; exact r2, b1.trans ((r1.keep g2).below (fun k hk => hk) b1.size)⟩
  clear r1 b1 r2 g2 h0
  go_wp2_with fail
  refine wp_loop_rounds 2 ?_
  rw [rounds_succ]
  go_wp2_with (at_builtin; refine list_append_eq rfl _ _ 22 22 rfl _ _ rfl rfl e2 ?_)
  rw [rounds_succ]
  go_wp2_with fail
  go_ret
  exact ⟨_, rfl, HF.out⟩
set_option maxRecDepth 20000 in
set_option maxHeartbeats 2000000 in
theorem grow62_any (w : World) (n : Nat) (hn : n ≤ 5000) : Calls Try.prog 62 #[.slice none 0 0, .int .i64 n] w fun e w' => ∃ v, e = .returned v ∧ Rw (fun k => k < w.heap.size) w' 27 11 v 0 [] ∧ Below w.heap.size w w' := by
  obtain ⟨i0, hi, hz0, hz1, hz2⟩ := info_parts info27
  have h1 : decide ((n : Int) < 0) = false := decide_eq_false (by omega)
  by_cases h0 : n = 0
  · subst h0
    go_enter Try.func62, Try.ntmps62
    go_wp2_with fail
    go_ret
    exact ⟨_, rfl, Rw.nil _ _ _ _, Below.refl _ _⟩
  · have hr := fun ty => Lib.run_append_nil_zeros (P := Try.prog) w 25 3 ty 27 i0 _ .i64 .i64 Try.underlying25 Try.underlying3 hi hz0 n (by omega) (by omega) (by omega) (by rw [hz2]; omega)
    have hcap := grownCap_ge w n 0 27
    have hcm := grownCap_le_maxLen w n 0 27 (by unfold maxLen; omega)
    obtain ⟨cap, hcp⟩ : ∃ cap, grownCap w n 0 27 = cap := ⟨_, rfl⟩
    rw [hcp] at hcap hcm
    simp only [hcp] at hr
    obtain ⟨V, hV⟩ : ∃ V, w.drew.alloc (.cells (Builtin.zeroCells (.agg #[.int .i64 0, .int .i64 0, .int .i64 0, .string ByteArray.empty, .string ByteArray.empty, .slice none 0 0, .int .i64 0, .int .i64 0, .int .i64 0, .int .i64 0, .slice none 0 0] : Value).cells n ++ Builtin.zeroCells (.agg #[.int .i64 0, .int .i64 0, .int .i64 0, .string ByteArray.empty, .string ByteArray.empty, .slice none 0 0, .int .i64 0, .int .i64 0, .int .i64 0, .int .i64 0, .slice none 0 0] : Value).cells (cap - n)) 27) = V := ⟨_, rfl⟩
    have HV : Hid (Rw (fun k => k < w.heap.size) V 27 11 (.slice (some ⟨w.heap.size, 0, none⟩) 0 cap) 0 [] ∧ Below w.heap.size w V) := by
      refine ⟨⟨⟨by simp, .inr ⟨w.heap.size, cap, _, rfl, Nat.zero_le _, by rw [← hV]; exact heap_alloc_new w.drew _, Nat.zero_le _, hcm, ?_, ?_⟩⟩, fun g hg => ?_⟩, ?_⟩
      · simp only [Array.size_append, size_zeroCells, Value.cells]
        simp
        omega
      · simp
      · simp [Value.ownBlock] at hg
        subst hg
        exact Nat.lt_irrefl _
      · rw [← hV]
        exact ((Below.refl w.heap.size w).drew).alloc (Nat.le_refl _) _
    simp only [hV] at hr
    have hn1 : decide ((0 : Int) < (n : Int)) = true := decide_eq_true (by omega)
    have hcap2 : (0 : Int) ≤ (cap : Int) := by omega
    have hmx : cap ≤ 9223372036854775807 := by unfold maxLen at hcm; omega
    clear hcp hV
    go_enter Try.func62, Try.ntmps62
    go_wp2_with (at_builtin; refine list_append_eq rfl _ _ 25 3 rfl _ _ rfl rfl (hr _) ?_)
    go_ret
    exact ⟨_, rfl, HV.out⟩
set_option maxHeartbeats 2000000 in
theorem concat52_any {w : World} {b : Nat} {ao : Option Addr} {A : List Value} (n ca : Nat) (hb : b < w.heap.size) (h0 : w.cell? ⟨b, 0, none⟩ = some (.slice ao n ca)) (hl : A.length = n * 11) (ha : ∀ (j : Nat) u, A[j]? = some u → ∃ g off, ao = some ⟨g, off, none⟩ ∧ g < w.heap.size ∧ w.cell? ⟨g, off + j, none⟩ = some u) (h1 : ∀ u ∈ A, u.oneCell' = true) (hn2 : n ≤ 5000) :
    Calls Try.prog 52 #[.slice (some ⟨b, 0, none⟩) 1 1] w fun e w' => ∃ v, e = .returned v ∧ Rw (fun k => k < w.heap.size) w' 27 11 v n A ∧ Below w.heap.size w w' := by
  have HA : Hid ((∀ (j : Nat) u, A[j]? = some u → ∃ g off, ao = some ⟨g, off, none⟩ ∧ g < w.heap.size ∧ w.cell? ⟨g, off + j, none⟩ = some u) ∧ A.length = n * 11 ∧ ∀ u ∈ A, u.oneCell' = true) := ⟨ha, hl, h1⟩
  clear ha hl h1
  have hneg : decide ((n : Int) < 0) = false := decide_eq_false (by omega)
  go_enter Try.func52, Try.ntmps52
  go_wp2_with fail
  refine wp_loop_rounds 2 ?_
  rw [rounds_succ]
  go_wp2_with fail
  rw [rounds_succ]
  go_wp2_with fail
  refine (grow62_any w n (by omega)).mono ?_
  rintro e w1 ⟨v, rfl, r1, b1⟩
  have c0 := (b1.cell (p := ⟨b, 0, none⟩) hb).trans h0
  have hb1 : b < w1.heap.size := Nat.lt_of_lt_of_le hb b1.size
  obtain ⟨v2, w2, e2, r2, g2, _⟩ := Rw.apps (t := 25) (e := 27) Try.underlying25 info27 rfl (by decide) (by decide) r1 (fun k hk => Nat.lt_of_lt_of_le hk b1.size) ao n ca A HA.out.2.1 (fun j u hj => by
    obtain ⟨g, off, e, hg, hc⟩ := HA.out.1 j u hj
    exact ⟨g, off, e, (b1.cell (p := ⟨g, off + j, none⟩) hg).trans hc⟩) HA.out.2.2 (by omega)
  have HF : Hid (Rw (fun k => k < w.heap.size) w2 27 11 v2 n A ∧ Below w.heap.size w w2) := ⟨by rw [List.nil_append, Nat.zero_add] at r2; exact r2, b1.trans ((r1.keep g2).below (fun k hk => hk) b1.size)⟩
  clear r1 b1 r2 g2 h0
  go_wp2_with fail
  refine wp_loop_rounds 2 ?_
  rw [rounds_succ]
  go_wp2_with (at_builtin; refine list_append_eq rfl _ _ 25 25 rfl _ _ rfl rfl e2 ?_)
  rw [rounds_succ]
  go_wp2_with fail
  go_ret
  exact ⟨_, rfl, HF.out⟩
end Go.Proofs.Ytdpibnmbgjhohaa
