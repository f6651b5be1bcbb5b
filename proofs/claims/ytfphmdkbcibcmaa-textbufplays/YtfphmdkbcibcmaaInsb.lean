/- slices.Insert where there is no room, and slices.Insert whole, at a row of byte slices that the program owns; slices.Delete there. -/
import Derived.Test.YtfphmdkbcibcmaaIns
namespace Go.Proofs.Ytfphmdkbcibcmaa
open Go.RowKit Go.Lib

set_option maxHeartbeats 4000000 in
set_option maxRecDepth 100000 in
/-- No room, ahead of the end: a new row. -/
theorem insert_grow (b n c i vb : Nat) (cs : List Value) (x : Value) (w : World) (hi : i < n) (hnc : n ≤ c) (hroom : c < n + 1) (hbig : (n + 1) * 24 ≤ 140737488355328)
    (hcl : cs.length = n)
    (hcs : ∀ j v, cs[j]? = some v → w.cell? ⟨b, j, none⟩ = some v)
    (hvs : w.heap[vb]? = some (.cells #[x] 59 (0, 0))) (h1c : ∀ v ∈ cs, v.oneCell' = true) (h1v : x.oneCell' = true) :
    Calls Try.prog 29 #[.slice (some ⟨b, 0, none⟩) n c, .int .i64 i, .slice (some ⟨vb, 0, none⟩) 1 1] w fun e w' => ∃ (G : Nat) (ROW : Array Value), n + 1 ≤ G ∧ G ≤ maxLen ∧ ROW.size = G ∧ (∀ (j : Nat) v, (cs.take i)[j]? = some v → ROW[j]? = some v) ∧
      e = .returned (.slice (some ⟨w.heap.size, 0, none⟩) (n + 1) G) ∧
      w' = (((w.alloc (.cells ROW 59)).drew.setCells w.heap.size i [x]).drew).setCells w.heap.size (i + 1) (cs.drop i) := by
  obtain ⟨i0, hi0, hz0, hzs, hzb⟩ := info_parts info59
  have hz2 : ¬ ((i : Int) = (n : Int)) := by omega
  have hz3 : (c : Int) < (n : Int) + 1 := by omega
  have hsz : (Try.prog.info? 59).map (·.size) = some 1 := by rw [hi0]; simp [hzs]
  have hbw : b < w.heap.size := block_lt_of_cell (hcs 0 _ (List.getElem?_eq_getElem (by omega)))
  have hvc : w.cell? ⟨vb, 0, none⟩ = some x := by simp [World.cell?, hvs]
  have hvw : vb < w.heap.size := block_lt_of_cell hvc
  have hkk : (n : Int) + 1 - (i : Int) = ((n + 1 - i : Nat) : Int) := by omega
  have hik : i + (n + 1 - i) = n + 1 := by omega
  have hold : (Builtin.firstCells i0.size i (.slice (some ⟨b, 0, none⟩) i c)).run Try.prog w.drew = .ok (cs.take i).toArray w.drew := by
    rw [hzs]
    exact run_firstCells_some w.drew 1 i ⟨b, 0, none⟩ i c (cs.take i) (by rw [List.length_take]; omega) (fun j v hj => by
      rw [Addr.add_lit, Nat.zero_add]
      rw [List.getElem?_take] at hj
      split at hj
      · exact hcs j v hj
      · cases hj)
  obtain ⟨G, hG⟩ : ∃ G, G = grownCap w (n + 1) c 59 := ⟨_, rfl⟩
  obtain ⟨ROW, hROW⟩ : ∃ ROW : Array Value, ROW = (cs.take i).toArray ++ Builtin.zeroCells (Value.slice none 0 0).cells (n + 1 - i) ++ Builtin.zeroCells (Value.slice none 0 0).cells (G - (n + 1)) := ⟨_, rfl⟩
  have hrz : ∀ ty, (Builtin.append_ #[52, 3] ty #[.slice (some ⟨b, 0, none⟩) i c, .int .i64 ((n : Int) + 1 - (i : Int))]).run Try.prog w =
      .ok (.slice (some ⟨w.heap.size, 0, none⟩) (n + 1) G) (w.drew.alloc (.cells ROW 59)) := fun ty => by
    have h := Lib.run_append_grow_zeros w 52 3 ty 59 i0 _ .i64 .i64 Try.underlying52 Try.underlying3 hi0 hz0 (some ⟨b, 0, none⟩) i c (cs.take i) hold (n + 1 - i) (by omega) (by omega) (by omega) (by omega) (by rw [hzb]; omega) (by rw [hzb, hik]; exact growslice_fits hroom hbig)
    rw [hik] at h
    rw [hkk, hROW, hG]
    exact h
  have hGn : n + 1 ≤ G := by rw [hG]; exact grownCap_ge w _ _ _
  have hGm : G ≤ maxLen := by rw [hG]; exact grownCap_le_maxLen w (n + 1) c 59 (by unfold maxLen; omega)
  have hRs : ROW.size = G := by
    rw [hROW]
    simp [Builtin.zeroCells, Value.cells]
    omega
  have hRh : ∀ (j : Nat) v, (cs.take i)[j]? = some v → ROW[j]? = some v := by
    intro j v hj
    have hlt := (List.getElem?_eq_some_iff.1 hj).1
    rw [hROW, Array.append_assoc, Array.getElem?_append_left (by simpa using hlt)]
    simpa using hj
  obtain ⟨W1, hW1⟩ : ∃ W1, W1 = w.drew.alloc (.cells ROW 59) := ⟨_, rfl⟩
  rw [← hW1] at hrz
  have hN : ∀ j, j < n + 1 → (W1.cell? ⟨w.heap.size, j, none⟩).isSome = true := fun j hj => by
    rw [hW1, World.cell?_alloc_at (w := w.drew) ROW _ w.heap.size j rfl, Array.getElem?_eq_getElem (by omega)]; rfl
  have hNf : ∀ j, W1.frozen? ⟨w.heap.size, j, none⟩ = false := fun j => by rw [hW1]; exact World.frozen?_alloc_at (w := w.drew) ROW _ w.heap.size j rfl
  have hOb : ∀ j v, w.cell? ⟨b, j, none⟩ = some v → W1.cell? ⟨b, j, none⟩ = some v := fun j v h => by rw [hW1, World.cell?_alloc_past (w := w.drew) _ b j hbw]; exact h
  have hOv : W1.cell? ⟨vb, 0, none⟩ = some x := by rw [hW1, World.cell?_alloc_past (w := w.drew) _ vb 0 hvw]; exact hvc
  have hcpA : ∀ (W : World), (∀ x, W.cell? x = W1.cell? x) → (∀ x, W.frozen? x = W1.frozen? x) → ∀ ty dc, (Builtin.copy_ #[52, 52] ty #[.slice (some ⟨w.heap.size, i, none⟩) (n + 1 - i) dc, .slice (some ⟨vb, 0, none⟩) 1 1]).run Try.prog W = .ok (goInt [x].length) (W.setCells w.heap.size i [x]) := fun W hWc hWf ty dc =>
    run_copy_cells W _ _ ty 59 w.heap.size i (n + 1 - i) dc ⟨vb, 0, none⟩ 1 1 [x] Try.underlying52 hsz (by simp only [Nat.min_def, List.length_singleton]; split <;> omega)
      (fun j v hj => by
        match j, hj with
        | 0, hj => simp at hj; subst hj; rw [Addr.add_lit, hWc]; exact hOv)
      (fun j hj => by rw [hWc]; exact hN _ (by simp at hj; omega)) (fun j hj => by rw [hWf]; exact hNf _) (by simpa using h1v)
  have hGi : ¬ (G = i) := by omega
  have hGim : ¬ (G = i + 1) := by omega
  have hci : ¬ (c = i) := by omega
  have hbN : b ≠ w.heap.size := by omega
  have hdl : (cs.drop i).length = n - i := by rw [List.length_drop, hcl]
  have hcpB : ∀ (W : World), (∀ y, W.cell? y = (W1.setCells w.heap.size i [x]).cell? y) → (∀ y, W.frozen? y = (W1.setCells w.heap.size i [x]).frozen? y) → ∀ ty dc sc, (Builtin.copy_ #[52, 52] ty #[.slice (some ⟨w.heap.size, i + 1, none⟩) (n - i) dc, .slice (some ⟨b, i, none⟩) (n - i) sc]).run Try.prog W = .ok (goInt (cs.drop i).length) (W.setCells w.heap.size (i + 1) (cs.drop i)) := fun W hWc hWf ty dc sc =>
    run_copy_cells W _ _ ty 59 w.heap.size (i + 1) (n - i) dc ⟨b, i, none⟩ (n - i) sc (cs.drop i) Try.underlying52 hsz (by rw [hdl]; simp only [Nat.min_def]; split <;> omega)
      (fun j v hj => by
        rw [Addr.add_lit, hWc, World.cell?_setCells_out _ _ _ _ _ (fun h _ => absurd h hbN)]
        exact hOb _ v (hcs (i + j) v (by rwa [List.getElem?_drop] at hj)))
      (fun j hj => by rw [hWc]; exact some_setCells w.heap.size [x] i W1 (fun t ht => hN (i + t) (by simp at ht; omega)) (i + 1 + j) (hN _ (by omega)))
      (fun j hj => by rw [hWf, World.frozen?_setCells]; exact hNf _) (fun v hv => h1c v (List.mem_of_mem_drop hv))
  subst hW1
  have hE1 : ∀ x, ((w.alloc (.cells ROW 59)).drew).cell? x = (w.drew.alloc (.cells ROW 59)).cell? x := fun x => rfl
  have hE2 : ∀ x, ((w.alloc (.cells ROW 59)).drew).frozen? x = (w.drew.alloc (.cells ROW 59)).frozen? x := fun x => rfl
  have hF1 : ∀ y, (((w.alloc (.cells ROW 59)).drew.setCells w.heap.size i [x]).drew).cell? y = ((w.drew.alloc (.cells ROW 59)).setCells w.heap.size i [x]).cell? y := fun y => rfl
  have hF2 : ∀ y, (((w.alloc (.cells ROW 59)).drew.setCells w.heap.size i [x]).drew).frozen? y = ((w.drew.alloc (.cells ROW 59)).setCells w.heap.size i [x]).frozen? y := fun y => rfl
  have hw1 : IntKind.i64.wrap ((i : Int) + 1) = (i : Int) + 1 := by rw [IntKind.wrap_i64]; omega
  have hb1 : (0 : Int) ≤ (i : Int) + 1 := by omega
  have hin : i ≤ n := by omega
  have htn : ((i : Int) + 1).toNat = i + 1 := by omega
  have hb3 : (i : Int) ≤ (n : Int) := by omega
  have hb5 : (i : Int) + 1 ≤ (n : Int) + 1 := by omega
  have HR : Hid (n + 1 ≤ G ∧ G ≤ maxLen ∧ ROW.size = G ∧ (∀ (j : Nat) v, (cs.take i)[j]? = some v → ROW[j]? = some v)) := ⟨hGn, hGm, hRs, hRh⟩
  have hG63 : G ≤ 9223372036854775807 := by unfold maxLen at hGm; exact hGm
  clear hkk hik hold hROW hG hRs hRh hGm hcs hvs h1c hN hNf hOb hOv hvc
  go_enter Try.func29, Try.ntmps29
  go_wp2_with (first
    | (at_builtin; refine Lib.wpList_append_run _ rfl _ _ _ _ rfl _ _ rfl rfl _ _ (hrz _) ?_)
    | (at_builtin; refine list_copy_eq _ rfl _ _ 52 52 rfl _ _ rfl rfl (hcpA _ hE1 hE2 _ _) ?_))
  go_region_law (refine step_copy_eq rfl _ _ 52 52 rfl (.slice (some ⟨w.heap.size, i + 1, none⟩) (n - i) (G - (i + 1))) (.slice (some ⟨b, i, none⟩) (n - i) (c - i)) (by simp [Act.eval, Act.put]) (by simp [Act.eval, Act.put]) (hcpB _ hF1 hF2 3 (G - (i + 1)) (c - i)) ?_)
  go_wp2
  go_ret
  exact ⟨G, ROW, HR.out.1, HR.out.2.1, HR.out.2.2.1, HR.out.2.2.2, rfl, rfl⟩
end Go.Proofs.Ytfphmdkbcibcmaa
namespace Go.Proofs.Ytfphmdkbcibcmaa
open Go.RowKit Go.Lib

theorem ins_get (xs : List Value) (x : Value) (i j : Nat) (hi : i ≤ xs.length) : (xs.take i ++ x :: xs.drop i)[j]? = if j < i then xs[j]? else if j = i then some x else xs[j - 1]? := by
  by_cases h : j < i
  · rw [if_pos h, List.getElem?_append_left (by simp; omega), List.getElem?_take, if_pos h]
  · rw [if_neg h, List.getElem?_append_right (by simp; omega)]
    have hl : (xs.take i).length = i := by simp; omega
    rw [hl]
    by_cases h2 : j = i
    · subst h2; simp
    · rw [if_neg h2, show j - i = (j - 1 - i) + 1 by omega, List.getElem?_cons_succ, List.getElem?_drop, show i + (j - 1 - i) = j - 1 by omega]

/-- slices.Insert of one element into an owned row, wherever. -/
theorem insert_any (B : Nat) (pv x : Value) (n i vb : Nat) (xs : List Value) (w : World) (hown : w.ownsRow B 59 1 pv n xs) (hx : w.heap[vb]? = some (.cells #[x] 59 (0, 0))) (h1v : x.oneCell' = true) (h1c : ∀ v ∈ xs, v.oneCell' = true)
    (hi : i ≤ n) (hn : n ≤ 1000000) (hB : B ≤ w.heap.size) (hvb : some vb ≠ pv.ownBlock) :
    Calls Try.prog 29 #[pv, .int .i64 i, .slice (some ⟨vb, 0, none⟩) 1 1] w fun e w' => ∃ v', e = .returned v' ∧ w'.ownsRow B 59 1 v' (n + 1) (xs.take i ++ x :: xs.drop i) ∧ w.grownBy w' pv.ownBlock := by
  obtain ⟨hl, hop⟩ := own_open hown
  by_cases hin : i = n
  · subst hin
    refine (insert_end B pv x i vb xs w hown hx h1v hn hB).mono ?_
    rintro e w' ⟨v', he, ho, hg⟩
    refine ⟨v', he, ?_, hg⟩
    rw [List.take_of_length_le (by omega), List.drop_of_length_le (by omega)]
    exact ho
  · rcases hop with ⟨_, h0⟩ | ⟨g, cap, cur, hv, hBg, hbk, hnc, hcm, hcs, hcell, hthere, hsoft, hlt, hshape⟩
    · omega
    · subst hv
      have hvg : vb ≠ g := fun e => hvb (by rw [e]; rfl)
      have hvlt : vb < w.heap.size := (Array.getElem?_eq_some_iff.1 hx).1
      by_cases hroom : n + 1 ≤ cap
      · refine (insert_shift g n cap i vb xs x w (by omega) hroom (by unfold maxLen at hcm; exact hcm) hvg hl hcell (fun j hj => hthere j (by omega)) (fun j _ => hsoft j) hx h1c h1v 59 cap hshape (by omega)).mono ?_
        rintro e w' ⟨he, hw⟩
        refine ⟨_, he, ?_, ?_⟩
        · obtain ⟨c1, hb1, hs1⟩ := setCells_blk g 59 (0, 0) (xs.drop i) (i + 1) w.drew cur hbk
          obtain ⟨c2, hb2, hs2⟩ := setCells_blk g 59 (0, 0) [x] i _ c1 hb1
          rw [← hw] at hb2
          have hdl : (xs.drop i).length = n - i := by rw [List.length_drop, hl]
          refine own_of_cells hBg hb2 (by omega) hcm hroom (by simp; omega) ?_
          intro j hj
          rw [ins_get xs x i j (by omega), hw]
          have h1 : ∀ t, t < cap → ((w.drew.setCells g (i + 1) (xs.drop i)).cell? ⟨g, t, none⟩).isSome = true := fun t ht => some_setCells g (xs.drop i) (i + 1) w.drew (fun j hj => hthere _ (by omega)) t (hthere t ht)
          by_cases hji : j = i
          · subst hji
            have := World.cell?_setCells_in g [x] j (w.drew.setCells g (j + 1) (xs.drop j)) (fun t ht => h1 _ (by simp at ht; omega)) 0 (by simp)
            simpa using this
          · rw [World.cell?_setCells_out g [x] i _ _ (fun _ _ => by simp; omega)]
            by_cases hjl : j < i
            · rw [World.cell?_setCells_out g (xs.drop i) (i + 1) _ _ (fun _ _ => by simp; omega), if_pos hjl]
              have := hcell j xs[j] (List.getElem?_eq_getElem (by omega))
              rw [List.getElem?_eq_getElem (by omega)]; exact this
            · have := World.cell?_setCells_in g (xs.drop i) (i + 1) w.drew (fun t ht => hthere _ (by omega)) (j - (i + 1)) (by omega)
              rw [show i + 1 + (j - (i + 1)) = j by omega] at this
              rw [if_neg hjl, if_neg hji, this, List.getElem?_eq_getElem (by omega)]
              simp only [List.getElem_drop]
              congr 2; omega
        · rw [hw]
          exact grown_trans (grown_trans (grown_drew w _) (grown_setCells _ g _ _)) (grown_setCells _ g _ _)
      · refine (insert_grow g n cap i vb xs x w (by omega) hnc (by omega) (by omega) hl hcell hx h1c h1v).mono ?_
        rintro e w' ⟨G, ROW, hG1, hG2, hRs, hRh, he, hw⟩
        have hbk0 : (w.alloc (.cells ROW 59)).drew.heap[w.heap.size]? = some (.cells ROW 59 (0, 0)) := by show (w.heap.push _)[w.heap.size]? = _; simp
        have hc0 : ∀ t, (w.alloc (.cells ROW 59)).drew.cell? ⟨w.heap.size, t, none⟩ = ROW[t]? := fun t => by simp only [World.cell?, hbk0]; simp
        have h00 : ∀ t, t < G → ((w.alloc (.cells ROW 59)).drew.cell? ⟨w.heap.size, t, none⟩).isSome = true := fun t ht => by rw [hc0, Array.getElem?_eq_getElem (by omega)]; rfl
        have hdl : (xs.drop i).length = n - i := by rw [List.length_drop, hl]
        refine ⟨_, he, ?_, ?_⟩
        · obtain ⟨c1, hb1, hs1⟩ := setCells_blk w.heap.size 59 (0, 0) [x] i (w.alloc (.cells ROW 59)).drew ROW hbk0
          obtain ⟨c2, hb2, hs2⟩ := setCells_blk w.heap.size 59 (0, 0) (xs.drop i) (i + 1) ((w.alloc (.cells ROW 59)).drew.setCells w.heap.size i [x]).drew c1 hb1
          rw [← hw] at hb2
          refine own_of_cells hB hb2 (by omega) hG2 hG1 (by simp; omega) ?_
          intro j hj
          rw [ins_get xs x i j (by omega), hw]
          have h1 : ∀ t, t < G → (((w.alloc (.cells ROW 59)).drew.setCells w.heap.size i [x]).drew.cell? ⟨w.heap.size, t, none⟩).isSome = true := fun t ht => some_setCells w.heap.size [x] i _ (fun j hj => h00 _ (by simp at hj; omega)) t (h00 t ht)
          by_cases hjl : i < j
          · have := World.cell?_setCells_in w.heap.size (xs.drop i) (i + 1) ((w.alloc (.cells ROW 59)).drew.setCells w.heap.size i [x]).drew (fun t ht => h1 _ (by omega)) (j - (i + 1)) (by omega)
            rw [show i + 1 + (j - (i + 1)) = j by omega] at this
            rw [if_neg (by omega), if_neg (by omega), this, List.getElem?_eq_getElem (by omega)]
            simp only [List.getElem_drop]
            congr 2; omega
          · rw [World.cell?_setCells_out w.heap.size (xs.drop i) (i + 1) _ _ (fun _ _ => by simp; omega)]
            by_cases hji : j = i
            · subst hji
              have := World.cell?_setCells_in w.heap.size [x] j (w.alloc (.cells ROW 59)).drew (fun t ht => h00 _ (by simp at ht; omega)) 0 (by simp)
              simp only [Nat.lt_irrefl, if_false, if_true]
              simpa using this
            · rw [if_pos (by omega)]
              refine (World.cell?_setCells_out w.heap.size [x] i (w.alloc (.cells ROW 59)).drew ⟨w.heap.size, j, none⟩ (fun _ _ => by simp; omega)).trans ?_
              rw [hc0, hRh j xs[j] (by rw [List.getElem?_take, if_pos (by omega)]; exact List.getElem?_eq_getElem (by omega)), List.getElem?_eq_getElem (by omega)]
        · rw [hw]
          exact grown_new (grown_trans (grown_new (grown_trans (World.grownBy_alloc w _ _) (grown_drew _ _)) (grown_setCells _ _ _ _) (Nat.le_refl _)) (grown_drew _ _)) (grown_setCells _ _ _ _) (Nat.le_refl _)
end Go.Proofs.Ytfphmdkbcibcmaa
