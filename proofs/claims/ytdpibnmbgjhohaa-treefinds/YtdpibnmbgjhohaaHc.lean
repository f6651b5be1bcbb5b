/- Strip. -/
import Derived.Test.YtdpibnmbgjhohaaHb
import Derived.Test.YtdpibnmbgjhohaaFa
namespace Go.Proofs.Ytdpibnmbgjhohaa
open Go.RowKit
attribute [local go_sem] Oper.semAt_some
attribute [local go_sem] wide_fn wide_depth round_fn round_depth

theorem none_any (w : World) : Calls Try.prog 38 #[] w fun e w' => e = .returned (.agg #[iv (-1), iv (-1)]) ∧ w' = w.alloc (.cells #[iv (-1), iv (-1)] 24) := by
  obtain ⟨V, hV⟩ : ∃ V, w.alloc (.cells #[iv (-1), iv (-1)] 24) = V := ⟨_, rfl⟩
  have h := heap_alloc_new w (.cells #[iv (-1), iv (-1)] 24)
  rw [hV] at h
  have c0 : V.cell? ⟨w.heap.size, 0, none⟩ = some (iv (-1)) := by simp [World.cell?, h]
  have c1 : V.cell? ⟨w.heap.size, 1, none⟩ = some (iv (-1)) := by simp [World.cell?, h]
  have u24 := Try.underlying24
  have a24 := Try.isAgg24
  have z24 := Try.sizeOf24
  rw [hV]
  go_enter Try.func38, Try.ntmps38
  go_wp2_with fail
  refine bodyPost_ret (results_cell_row rfl _ _ w.heap.size 24 _ (0, 0) _ rfl h Try.underlying24 rfl (by kernel_rfl)) rfl ?_
  exact ⟨rfl, rfl⟩
theorem sort_own {S : Nat → Prop} {w : World} {v : Value} {n : Nat} {L : List At} (h : Rw S w 53 2 v n (L.flatMap At.cells)) (hl : L.length = n) (hn : n ≤ 1000000) :
    Calls Try.prog 39 #[v, .func (.func 40) #[] #[]] w fun e w' => e = .returned (.tuple #[]) ∧ Rw S w' 53 2 v n ((sortP L).flatMap At.cells) ∧ w.grownBy w' v.ownBlock := by
  rcases h.own.2 with ⟨rfl, rfl⟩ | ⟨g, c, cur, rfl, _, hg, h1, h2, h3, h4⟩
  · have hL : L = [] := List.eq_nil_of_length_eq_zero hl
    subst hL
    have hs := AnyF.slices_SortFunc_none attLays none 0 (.func (.func 40) #[] #[]) w
    change Calls Try.prog 39 _ _ _ at hs
    refine hs.mono ?_
    rintro e w' ⟨rfl, rfl⟩
    exact ⟨rfl, h, World.grownBy.refl _ _⟩
  · exact sort_ats h hl hn
set_option maxRecDepth 20000 in
set_option maxHeartbeats 4000000 in
theorem strip_in (n : Nat) {w : World} {t : Tr} {av kv : Value} (ht : TrC w t av kv) (hs : Sml t) (hn : cT t ≤ 900000) :
    CallsIn Fence.wide n Try.prog 22 #[nv t.d av kv] w fun e w' => Below w.heap.size w w' ∧ ∃ av' kv', e = .returned (nv (sD t.d) av' kv') ∧ TrC w' (sT t) av' kv' := by
  have h37 : ∀ W : World, Below w.heap.size w W → Calls Try.prog 37 #[nv t.d av kv] W fun e w' => Below W.heap.size W w' ∧ ∃ av' kv', e = .returned (nv t.d av' kv') ∧ Made W t av' kv' w' := fun W hb => (callsIn_wide (n := 0)).1 (copied_in 0 (ht.old hb) hs hn)
  obtain ⟨d, ks⟩ := t
  have ht' : ∃ s1 s2 : Sl, av = slv s1 ∧ kv = slv s2 := by
    cases ht
    exact ⟨(_, _, _), (_, _, _), rfl, rfl⟩
  obtain ⟨⟨ao, an, ac⟩, ⟨kp, kn, kc⟩, rfl, rfl⟩ := ht'
  simp only [slv] at ht h37
  simp only [Tr.d, slv]
  simp only [Tr.d] at h37
  obtain ⟨V, hV⟩ : ∃ V, (w.alloc (na d (.slice ao an ac) (.slice kp kn kc))).alloc (.cells #[iv 0, iv 0, iv 0, .string { data := #[] }, .string { data := #[] }, .slice none 0 0, iv 0, iv 0, iv 0, iv 0, .slice none 0 0] 27) = V := ⟨_, rfl⟩
  have hq := als_spec w [na d (.slice ao an ac) (.slice kp kn kc), .cells #[iv 0, iv 0, iv 0, .string { data := #[] }, .string { data := #[] }, .slice none 0 0, iv 0, iv 0, iv 0, iv 0, .slice none 0 0] 27]
  simp only [als, List.length_cons, List.length_nil] at hq
  rw [hV] at hq
  obtain ⟨b1, s1, h1⟩ := hq
  have p1 : V.heap[w.heap.size + 1]? = some (.cells #[iv 0, iv 0, iv 0, .string { data := #[] }, .string { data := #[] }, .slice none 0 0, iv 0, iv 0, iv 0, iv 0, .slice none 0 0] 27 (0, 0)) := h1 1 _ rfl
  have hk := h37 V b1
  have HV : Hid ((w.alloc (na d (.slice ao an ac) (.slice kp kn kc))).alloc (.cells #[iv 0, iv 0, iv 0, .string { data := #[] }, .string { data := #[] }, .slice none 0 0, iv 0, iv 0, iv 0, iv 0, .slice none 0 0] 27) = V) := hV
  clear hV h37 h1 ht
  refine callsIn_of_wp_marks Try.func22 rfl trivial ?_ rfl
  simp only [Try.ntmps22, List.size_toArray, List.length_cons, List.length_nil, Nat.reduceAdd, Nat.reduceSub, Array.replicate_succ, Array.replicate_zero, List.push_toArray, List.append_toArray, List.nil_append, List.cons_append]
  gi_wp2_with fail
  rw [HV.out]
  refine wide_call hk ?_
  rintro e W1 ⟨bW, av1, kv1, rfl, hMade⟩
  have hcp : ∃ s1 s2 : Sl, av1 = slv s1 ∧ kv1 = slv s2 := by
    have := hMade.tree
    cases this
    exact ⟨(_, _, _), (_, _, _), rfl, rfl⟩
  obtain ⟨⟨xo, xn, xc⟩, ⟨yo, yn, yc⟩, rfl, rfl⟩ := hcp
  simp only [slv] at hMade
  have HM : Hid (Made V (.mk d ks) (.slice xo xn xc) (.slice yo yn yc) W1 ∧ Below V.heap.size V W1) := ⟨hMade, bW⟩
  clear hk hMade bW
  simp only [slv]
  gi_wp2_with (gi_at_call 32; refine wide_call (nodes_any _ _ _ _) ?_; rintro e w' ⟨rfl, rfl⟩)
  have hq2 := als_spec W1 [na d (.slice xo xn xc) (.slice yo yn yc), .cells #[.slice (some ⟨W1.heap.size, 0, none⟩) 1 1] 25]
  simp only [als, List.length_cons, List.length_nil] at hq2
  revert hq2
  generalize World.alloc (World.alloc _ _) _ = w2
  rintro ⟨b2, s2, h2⟩
  have q0 : w2.heap[W1.heap.size]? = some (na d (.slice xo xn xc) (.slice yo yn yc)) := h2 0 _ rfl
  have q1 : w2.heap[W1.heap.size + 1]? = some (.cells #[.slice (some ⟨W1.heap.size, 0, none⟩) 1 1] 25 (0, 0)) := h2 1 _ rfl
  clear h2
  have hVs := b1.size
  have hWs := HM.out.2.size
  have hW2 : Below w.heap.size w w2 := (b1.trans (HM.out.2.mono b1.size)).trans (b2.mono (by omega))
  have qz : w2.heap[w.heap.size + 1]? = some (.cells #[iv 0, iv 0, iv 0, .string { data := #[] }, .string { data := #[] }, .slice none 0 0, iv 0, iv 0, iv 0, iv 0, .slice none 0 0] 27 (0, 0)) := (b2.block _ (by have := (Array.getElem?_eq_some_iff.1 p1).1; omega)).trans ((HM.out.2.block _ (Array.getElem?_eq_some_iff.1 p1).1).trans p1)
  obtain ⟨Es, root, rg, rt, ra, rk, hF, hM0, hW0, hsm⟩ := strip_start HM.out.1 b2 q0
  have hV2 : w.heap.size + 1 < V.heap.size := (Array.getElem?_eq_some_iff.1 p1).1
  refine range_law (nodes_seq (n - 1) (W1.heap.size + 1) w2.heap.size (some ⟨W1.heap.size, 0, none⟩, 1, 1) w2 (by omega) (one_cell q1).1) (Nat.le_refl _) rfl (enters_of Try.func48 (by kernel_rfl) rfl) ?_ ?_
    (fun g s W => ∃ c Op, Wk Es root c g (1 + cT (.mk d ks)) s Op ∧ Ms V.heap.size W Es c ∧ Below w.heap.size w W ∧ w2.heap.size ≤ W.heap.size ∧ W.heap[w.heap.size + 1]? = some (.cells #[iv 0, iv 0, iv 0, .string { data := #[] }, .string { data := #[] }, .slice none 0 0, iv 0, iv 0, iv 0, iv 0, .slice none 0 0] 27 (0, 0)))
    (fun _ _ => False) (1 + 2 * cT (.mk d ks)) ?_ (fun _ _ _ h _ => h) ?_ ?_ ?_ ?_
    (fun x => { tmps := #[nv d (.slice ao an ac) (.slice kp kn kc), ptr w.heap.size, ptr (w.heap.size + 1), .slice (some ⟨W1.heap.size, 0, none⟩) 1 1, x.getD 0 undef, nv d (.slice ao an ac) (.slice kp kn kc), nv d (.slice xo xn xc) (.slice yo yn yc), .slice (some ⟨W1.heap.size, 0, none⟩) 1 1, .slice (some ⟨W1.heap.size, 0, none⟩) 1 1, .func (.func 48) #[] #[ptr (W1.heap.size + 1)], x.getD 0 undef, x.getD 1 undef, undef, undef, undef, undef, undef, undef, undef, undef, undef, undef, undef, undef, undef, undef, undef, undef, undef, undef, undef], defers := [] }) ?_ ?_ ?_ (fun _ _ _ _ h => h.elim)
  · intro s x hx
    unfold encN at hx
    split at hx
    · cases hx; rfl
    · cases hx
  · rintro s W l o o' s' hl ho ⟨b, n, c, st, ks, rfl, hc, rfl⟩
    refine ⟨b, n, c, st, ks, rfl, ?_, rfl⟩
    rw [← hc]
    refine World.cell?_of_block (World.putObj_heap_other (fun e => ?_))
    obtain ⟨u, h1, h2⟩ := cells_of_cell hc
    rw [e, hl] at h1
    cases h1
    rw [ho] at h2
    cases h2
  · rintro g s A B ⟨c, Op, h1, h2, h3, h4, h5⟩ ho
    exact ⟨c, Op, h1, h2.mv (fun i _ hi => (ho.oth i _ hi rfl).trans hi.symm) (fun i _ hi _ => (ho.oth i _ hi rfl).trans hi.symm) hF, h3.trans (ho.below.mono (by omega)), Nat.le_trans h4 ho.size, ho.oth _ _ h5 rfl⟩
  · rintro g s s' A hs ⟨c, Op, h1, h2⟩
    unfold idleN at hs
    split at hs
    · cases hs
      obtain ⟨Op', h1'⟩ := h1.pop
      exact ⟨c, Op', h1', h2⟩
    · cases hs
  · rintro s A ⟨c, Op, h1, h2⟩
    have hm := h1.ms
    cases hr : h1.rel with
    | nil => rfl
    | cons _ _ => simp [msr] at hm; omega
  · rintro g s A ⟨c, Op, h1, h2⟩
    refine ⟨?_, h1.rel.fit⟩
    have := h1.dep
    omega
  · rintro Wc A s h1 h2 rfl
    have ho := h1.trans (h2.mono h1.size)
    exact ⟨_, _, hW0, hM0.mv (fun i _ hi => (ho.oth i _ hi rfl).trans hi.symm) (fun i _ hi _ => (ho.oth i _ hi rfl).trans hi.symm) hF, hW2.trans (ho.below.mono (by omega)), ho.size, ho.oth _ _ qz rfl⟩
  · intro l s x W K hx hK
    unfold encN at hx
    split at hx
    · cases hx
      rw [fold2]
      simp only [List.setIfInBounds_toArray, List.set_cons_succ, List.set_cons_zero]
      gi_wp2
      exact hK
    · cases hx
  · rintro l g s x W hx ⟨c, Op, hS, hMs, hB, hL, hZ⟩
    unfold encN at hx
    split at hx
    · rename_i a m cc st
      cases hx
      obtain ⟨e, k, Op', u, rfl, he, hck, hu, rfl⟩ := hS.top
      obtain ⟨kp2, kc2, Op2, hkv, hS2⟩ := hS.next hF he hck hu
      obtain ⟨cur, hcur⟩ := hMs.blk e he
      have hcs := hMs.cs e he k u hu
      rw [if_neg (by omega)] at hcs
      have hrow := hMs.row e he k u hu
      rw [if_neg (by omega)] at hrow
      obtain ⟨ra1, rk1, hav, _, _⟩ := hrow.slice
      have hsmu : u.d.al.length ≤ 1000000 := by
        have := hsm e he u (List.mem_of_getElem? hu)
        cases this with
        | mk h _ _ => simp only [Tr.d]; omega
      have hge := hF.ge e he
      have hel : e.g < W.heap.size := (Array.getElem?_eq_some_iff.1 hcur).1
      rw [hav, hkv] at hcs
      have f0 : W.frozen? ⟨e.g, k * 11, none⟩ = false := cell_frozen hcur _
      have x0 : W.cell? ⟨e.g, k * 11, none⟩ = some (iv u.d.id) := hcs 0 _ rfl
      -- behind the number
      obtain ⟨X1, hX1⟩ : ∃ X, W.setCell ⟨e.g, k * 11, none⟩ (iv 0) = X := ⟨_, rfl⟩
      have c1 : CellsAt X1 e.g (k * 11) ((u.d.cs (.slice ra1 u.d.al.length rk1) (.slice kp2 u.k.length kc2)).set 0 (iv 0)) := by
        rw [← hX1]
        exact hcs.set_in (i := 0) (iv 0) (by simp [Nd.cs])
      have g1 : W.grownBy X1 (some e.g) := by rw [← hX1]; exact grown_set W ⟨e.g, k * 11, none⟩ _
      have cur1 : ∃ cur, X1.heap[e.g]? = some (.cells cur 27 (0, 0)) := by rw [← hX1]; exact ⟨_, heap_setCell_same W e.g (k * 11) cur 27 _ hcur⟩
      have o1 : ∀ o l, CellsAt W e.g o l → (o + l.length ≤ k * 11 ∨ k * 11 + 11 ≤ o) → CellsAt X1 e.g o l := fun o l h hh => by
        rw [← hX1]
        exact h.set_out _ (by omega)
      have hz1 : X1.heap.size = W.heap.size := by rw [← hX1]; simp [World.setCell]
      have HCK : Hid (k = c e.g) := hck
      clear hcs hck
      gi_wp2_with fail
      refine round_call (none_any _) ?_
      rintro e1 X2 ⟨rfl, hX2⟩
      gi_wp2_with fail
      refine round_call (none_any _) ?_
      rintro e2 X3 ⟨rfl, hX3⟩
      have b3 : Below X1.heap.size X1 X3 := by
        rw [hX3]
        exact ((Below.refl _ _).alloc (Nat.le_refl _) _).alloc (by simp) _
      clear hX2 hX3 hX1 x0 f0
      obtain ⟨cu1, cur1⟩ := cur1
      have cur3 : X3.heap[e.g]? = some (.cells cu1 27 (0, 0)) := (b3.block _ (by omega)).trans cur1
      have c3 := c1.mv (w' := X3) (b3.block _ (by omega))
      have x6 : X3.cell? ⟨e.g, k * 11 + 6, none⟩ = some (iv u.d.sf) := c3 6 _ rfl
      have x7 : X3.cell? ⟨e.g, k * 11 + 7, none⟩ = some (iv u.d.st) := c3 7 _ rfl
      have x8 : X3.cell? ⟨e.g, k * 11 + 8, none⟩ = some (iv u.d.ef) := c3 8 _ rfl
      have x9 : X3.cell? ⟨e.g, k * 11 + 9, none⟩ = some (iv u.d.et) := c3 9 _ rfl
      have f6 : X3.frozen? ⟨e.g, k * 11 + 6, none⟩ = false := cell_frozen cur3 _
      have f7 : X3.frozen? ⟨e.g, k * 11 + 7, none⟩ = false := cell_frozen cur3 _
      have f8 : X3.frozen? ⟨e.g, k * 11 + 8, none⟩ = false := cell_frozen cur3 _
      have f9 : X3.frozen? ⟨e.g, k * 11 + 9, none⟩ = false := cell_frozen cur3 _
      have c4 : CellsAt ((((X3.setCell ⟨e.g, k * 11 + 6, none⟩ (iv (-1))).setCell ⟨e.g, k * 11 + 6 + 1, none⟩ (iv (-1))).setCell ⟨e.g, k * 11 + 8, none⟩ (iv (-1))).setCell ⟨e.g, k * 11 + 8 + 1, none⟩ (iv (-1))) e.g (k * 11) ((sD u.d).cs (.slice ra1 u.d.al.length rk1) (.slice kp2 u.k.length kc2)) := by
        have k1 := c3.set_in (i := 6) (iv (-1)) (by simp [Nd.cs])
        have k2 := k1.set_in (i := 7) (iv (-1)) (by simp [Nd.cs])
        have k3 := k2.set_in (i := 8) (iv (-1)) (by simp [Nd.cs])
        exact k3.set_in (i := 9) (iv (-1)) (by simp [Nd.cs])
      have g4 : X3.grownBy ((((X3.setCell ⟨e.g, k * 11 + 6, none⟩ (iv (-1))).setCell ⟨e.g, k * 11 + 6 + 1, none⟩ (iv (-1))).setCell ⟨e.g, k * 11 + 8, none⟩ (iv (-1))).setCell ⟨e.g, k * 11 + 8 + 1, none⟩ (iv (-1))) (some e.g) := (((grown_set X3 ⟨e.g, k * 11 + 6, none⟩ _).trans (grown_set _ ⟨e.g, k * 11 + 6 + 1, none⟩ _)).trans (grown_set _ ⟨e.g, k * 11 + 8, none⟩ _)).trans (grown_set _ ⟨e.g, k * 11 + 8 + 1, none⟩ _)
      have cur4 : ∃ cur, ((((X3.setCell ⟨e.g, k * 11 + 6, none⟩ (iv (-1))).setCell ⟨e.g, k * 11 + 6 + 1, none⟩ (iv (-1))).setCell ⟨e.g, k * 11 + 8, none⟩ (iv (-1))).setCell ⟨e.g, k * 11 + 8 + 1, none⟩ (iv (-1))).heap[e.g]? = some (.cells cur 27 (0, 0)) := ⟨_, heap_setCell_same _ e.g _ _ 27 _ (heap_setCell_same _ e.g _ _ 27 _ (heap_setCell_same _ e.g _ _ 27 _ (heap_setCell_same X3 e.g _ _ 27 _ cur3)))⟩
      have o4 : ∀ o l, CellsAt X3 e.g o l → (o + l.length ≤ k * 11 ∨ k * 11 + 11 ≤ o) → CellsAt ((((X3.setCell ⟨e.g, k * 11 + 6, none⟩ (iv (-1))).setCell ⟨e.g, k * 11 + 6 + 1, none⟩ (iv (-1))).setCell ⟨e.g, k * 11 + 8, none⟩ (iv (-1))).setCell ⟨e.g, k * 11 + 8 + 1, none⟩ (iv (-1))) e.g o l := fun o l h hh => (((h.set_out _ (by omega)).set_out _ (by omega)).set_out _ (by omega)).set_out _ (by omega)
      gi_upto_region 6 with fail
      revert c4 g4 cur4 o4
      generalize World.setCell _ _ _ = Y
      rintro c4 g4 ⟨cu4, cur4⟩ o4
      have hzY : W.heap.size ≤ Y.heap.size := by have := b3.size; have := g4.size; omega
      have holdY : ∀ g, g < W.heap.size → g ≠ e.g → Y.heap[g]? = W.heap[g]? := fun g hg hne => (g4.block g (by have := b3.size; omega) (fun e' => hne (Option.some.inj e'))).trans ((b3.block g (by omega)).trans (g1.block g hg (fun e' => hne (Option.some.inj e'))))
      have hrowY : Rw (fun k => k < V.heap.size) Y 53 2 (.slice ra1 u.d.al.length rk1) u.d.al.length (u.d.al.flatMap At.cells) := by
        rw [← hav]
        refine hrow.mv fun g hg => ?_
        obtain ⟨q1, cur9, q2⟩ := own_blk hrow.own hg
        exact holdY g q1 (fun e' => by rw [e', hcur] at q2; simp at q2)
      have x5 : Y.cell? ⟨e.g, k * 11 + 5, none⟩ = some (.slice ra1 u.d.al.length rk1) := c4 5 _ rfl
      have hsort := sort_own hrowY rfl hsmu
      have HO : Hid (∀ o l, CellsAt W e.g o l → (o + l.length ≤ k * 11 ∨ k * 11 + 11 ≤ o) → CellsAt Y e.g o l) := fun o l h hh => o4 o l ((o1 o l h hh).mv (b3.block _ (by omega))) hh
      have HYW : Hid (Below w.heap.size w Y ∧ Kp 25 W Y) := by
        have hwl := hB.size
        refine ⟨hB.trans ⟨g4.os.trans (b3.os.trans g1.os), g4.tape.trans (b3.tape.trans g1.tape), g4.output.trans (b3.output.trans g1.output), hzY, fun i hi => holdY i (by omega) (by omega)⟩, hzY, fun i o hi ho => (holdY i (Array.getElem?_eq_some_iff.1 hi).1 (fun e' => ?_)).trans hi⟩
        rw [e', hcur] at hi
        cases hi
        simp [Mine] at ho
      clear x6 x7 x8 x9 f6 f7 f8 f9 c1 c3 g1 g4 b3 o1 o4 cur1 cur3
      gi_wp2_with fail
      refine round_call hsort ?_
      rintro e3 Z ⟨rfl, hrowZ, gZ⟩
      clear hsort x5
      gi_wp2_with fail
      have nbk : ∀ b, (Value.slice ra1 u.d.al.length rk1).ownBlock = some b → b ≠ e.g ∧ V.heap.size ≤ b ∧ ∃ cur, Y.heap[b]? = some (.cells cur 53 (0, 0)) := fun b hb => by
        obtain ⟨q1, cur9, q2⟩ := own_blk hrowY.own hb
        refine ⟨fun e' => by rw [e', cur4] at q2; simp at q2, ?_, cur9, q2⟩
        have := hrowY.out b hb
        omega
      have heZ : Z.heap[e.g]? = Y.heap[e.g]? := gZ.block _ (by omega) (fun e' => (nbk e.g e'.symm).1 rfl)
      have hck2 := HCK.out
      have hMs2 := hMs.next hF he hck2 hu ⟨_, heZ.trans cur4⟩ (fun o l h hh => (HO.out o l h hh).mv heZ) (by rw [hav, hkv]; exact c4.mv heZ) (by rw [hav]; exact hrowZ) (fun g hg hne hown => (gZ.block g (by omega) (fun e' => hown g (by rw [hav]; exact e'.symm) rfl)).trans (holdY g hg hne))
      have hzZ := gZ.size
      have kZ : Kp 25 Y Z := Kp.grown gZ (fun b hb => by
        obtain ⟨_, _, cur9, q2⟩ := nbk b hb
        exact ⟨_, q2, rfl⟩)
      refine ⟨HYW.out.2.trans kZ, _, ⟨⟨e.g, k * 11, none⟩, m, cc, st, (kp2, u.k.length, kc2), rfl, (c4.mv heZ) 10 _ rfl, rfl⟩, _, Op2, hS2, hMs2, HYW.out.1.trans ⟨gZ.os, gZ.tape, gZ.output, gZ.size, fun i hi => gZ.block i (by have := HYW.out.1.size; omega) (fun e' => by have := (nbk i e'.symm).2.1; omega)⟩, by omega, ?_⟩
      refine (gZ.block _ (by omega) (fun e' => ?_)).trans ((holdY _ (by omega) (by omega)).trans hZ)
      have := (nbk _ e'.symm).2.1
      omega
    · cases hx
  · rintro D g s W hD hs ⟨c, Op, hS, hMs, hB, hL, hZ⟩ hd
    subst hs
    have h0 : Op = [] := by
      cases hr : hS.rel
      rfl
    subst h0
    have hg0 : g = 0 := hS.ms
    subst hg0
    have hrc : c root.g = root.ts.length := by
      rcases hS.rt.2 with h | h
      · exact h
      · simp at h
    have hroot := hS.rt.1
    have htree := strip_end hF hMs hS (.mk d ks) root 0 hroot hrc (by rw [rt]; rfl)
    rw [ra, rk] at htree
    have c0 := hMs.cs root hroot 0 (.mk d ks) (by rw [rt]; rfl)
    rw [if_pos (by rw [hrc, rt]; exact Nat.zero_lt_one), rg, ra, rk, Nat.zero_mul] at c0
    simp only [Tr.d] at c0
    have HC : Hid (CellsAt W (W1.heap.size) 0 (Nd.cs (sD d) (.slice xo xn xc) (.slice yo yn yc)) ∧ TrC W (sT (.mk d ks)) (.slice xo xn xc) (.slice yo yn yc)) := ⟨c0, htree⟩
    have l0 : W.cell? ⟨W1.heap.size, 0, none⟩ = some (iv (sD d).id) := c0 0 _ rfl
    have l1 : W.cell? ⟨W1.heap.size, 1, none⟩ = some (iv (sD d).kind) := c0 1 _ rfl
    have l2 : W.cell? ⟨W1.heap.size, 2, none⟩ = some (iv (sD d).space) := c0 2 _ rfl
    have l3 : W.cell? ⟨W1.heap.size, 3, none⟩ = some (.string (sD d).name) := c0 3 _ rfl
    have l4 : W.cell? ⟨W1.heap.size, 4, none⟩ = some (.string (sD d).text) := c0 4 _ rfl
    have l5 : W.cell? ⟨W1.heap.size, 5, none⟩ = some (.slice xo xn xc) := c0 5 _ rfl
    have l6 : W.cell? ⟨W1.heap.size, 6, none⟩ = some (iv (sD d).sf) := c0 6 _ rfl
    have l7 : W.cell? ⟨W1.heap.size, 7, none⟩ = some (iv (sD d).st) := c0 7 _ rfl
    have l8 : W.cell? ⟨W1.heap.size, 8, none⟩ = some (iv (sD d).ef) := c0 8 _ rfl
    have l9 : W.cell? ⟨W1.heap.size, 9, none⟩ = some (iv (sD d).et) := c0 9 _ rfl
    have l10 : W.cell? ⟨W1.heap.size, 10, none⟩ = some (.slice yo yn yc) := c0 10 _ rfl
    have z0 : W.cell? ⟨w.heap.size + 1, 0, none⟩ = some (iv 0) := Bx.cell hZ 0
    have y0 : W.frozen? ⟨w.heap.size + 1, 0, none⟩ = false := cell_frozen hZ _
    have z1 : W.cell? ⟨w.heap.size + 1, 1, none⟩ = some (iv 0) := Bx.cell hZ 1
    have y1 : W.frozen? ⟨w.heap.size + 1, 1, none⟩ = false := cell_frozen hZ _
    have z2 : W.cell? ⟨w.heap.size + 1, 2, none⟩ = some (iv 0) := Bx.cell hZ 2
    have y2 : W.frozen? ⟨w.heap.size + 1, 2, none⟩ = false := cell_frozen hZ _
    have z3 : W.cell? ⟨w.heap.size + 1, 3, none⟩ = some (.string { data := #[] }) := Bx.cell hZ 3
    have y3 : W.frozen? ⟨w.heap.size + 1, 3, none⟩ = false := cell_frozen hZ _
    have z4 : W.cell? ⟨w.heap.size + 1, 4, none⟩ = some (.string { data := #[] }) := Bx.cell hZ 4
    have y4 : W.frozen? ⟨w.heap.size + 1, 4, none⟩ = false := cell_frozen hZ _
    have z5 : W.cell? ⟨w.heap.size + 1, 5, none⟩ = some (.slice none 0 0) := Bx.cell hZ 5
    have y5 : W.frozen? ⟨w.heap.size + 1, 5, none⟩ = false := cell_frozen hZ _
    have z6 : W.cell? ⟨w.heap.size + 1, 6, none⟩ = some (iv 0) := Bx.cell hZ 6
    have y6 : W.frozen? ⟨w.heap.size + 1, 6, none⟩ = false := cell_frozen hZ _
    have z7 : W.cell? ⟨w.heap.size + 1, 7, none⟩ = some (iv 0) := Bx.cell hZ 7
    have y7 : W.frozen? ⟨w.heap.size + 1, 7, none⟩ = false := cell_frozen hZ _
    have z8 : W.cell? ⟨w.heap.size + 1, 8, none⟩ = some (iv 0) := Bx.cell hZ 8
    have y8 : W.frozen? ⟨w.heap.size + 1, 8, none⟩ = false := cell_frozen hZ _
    have z9 : W.cell? ⟨w.heap.size + 1, 9, none⟩ = some (iv 0) := Bx.cell hZ 9
    have y9 : W.frozen? ⟨w.heap.size + 1, 9, none⟩ = false := cell_frozen hZ _
    have z10 : W.cell? ⟨w.heap.size + 1, 10, none⟩ = some (.slice none 0 0) := Bx.cell hZ 10
    have y10 : W.frozen? ⟨w.heap.size + 1, 10, none⟩ = false := cell_frozen hZ _
    clear c0 htree
    gi_wp2
    have sp := sets11 hZ (.int .i64 (sD d).id) (.int .i64 (sD d).kind) (.int .i64 (sD d).space) (.string (sD d).name) (.string (sD d).text) (.slice xo xn xc) (.int .i64 (sD d).sf) (.int .i64 (sD d).st) (.int .i64 (sD d).ef) (.int .i64 (sD d).et) (.slice yo yn yc)
    revert sp
    generalize World.setCell _ _ _ = W'
    rintro ⟨f1, f2, f3⟩
    have hD' : W'.heap[D]? = some (.deferred (some [])) := (f2.block D (Array.getElem?_eq_some_iff.1 hd).1 (fun e => by simp at e; omega)).trans hd
    have hf : Below w.heap.size W' (W'.putObj D (.deferred none)) := (Off.put (q := 25) _ (by omega) hD' rfl).below
    have hb1 : W'.heap[w.heap.size + 1]? = (W'.putObj D (.deferred none)).heap[w.heap.size + 1]? := (World.putObj_heap_other (by omega)).symm
    refine ⟨by simp, .inl ⟨_, _, rfl, run_takeDeferred hD', ?_⟩⟩
    refine ⟨_, results_cell_row rfl _ _ (w.heap.size + 1) 27 _ (0, 0) _ rfl (hb1.symm.trans f1) Try.underlying27 rfl (by kernel_rfl), (hB.trans ⟨f2.os, f2.tape, f2.output, f2.size, fun k hk => f2.block k (by omega) (fun e => by simp at e; omega)⟩).trans hf, .slice xo xn xc, .slice yo yn yc, rfl, ?_⟩
    have hmv : ∀ g, g < W.heap.size → g ≠ w.heap.size + 1 → g ≠ D → (W'.putObj D (.deferred none)).heap[g]? = W.heap[g]? := fun g h1 h2 h3 => (World.putObj_heap_other h3).trans (f2.block g h1 (fun e => by simp at e; omega))
    have hDn : ∀ (g : Nat) (cur : Array Value) (t : Nat), W.heap[g]? = some (.cells cur t (0, 0)) → g ≠ D := fun g cur t hg e => by rw [e, hd] at hg; simp at hg
    have hMs' := hMs.mv (W' := W'.putObj D (.deferred none)) (fun g cur hg => hmv g (Array.getElem?_eq_some_iff.1 hg).1 (fun e => by rw [e, hZ] at hg; simp at hg) (hDn g cur _ hg)) (fun g cur hg hge => hmv g (Array.getElem?_eq_some_iff.1 hg).1 (by omega) (hDn g cur _ hg)) hF
    have := strip_end hF hMs' hS (.mk d ks) root 0 hroot hrc (by rw [rt]; rfl)
    rwa [ra, rk] at this
end Go.Proofs.Ytdpibnmbgjhohaa
