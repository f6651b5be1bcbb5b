/- (Decoder).take: one byte. -/
import Derived.Test.YtdiealijjhfhjaaGreatDoorYf
import Derived.Test.YtdiealijjhfhjaaGreatDoorYe
namespace Go.Proofs.YtdiealijjhfhjaaGreatDoor.G4
open Go.RowKit
theorem open_mem {B t d : Nat} {p q q' : Int} {f f' : F} {cs : List Ch} {fs : List Int} {W : World} (hd : DecIs d p q f W) (ht : Told B t cs fs W) :
    ∀ W', W' = ((((W.setCell ⟨d, 2, none⟩ (.int .i64 f'.bits)).setCell ⟨d, 3, none⟩ (.int .i64 f'.more)).setCell ⟨d, 4, none⟩ (.int .u8 (f'.lo : Nat))).setCell ⟨d, 5, none⟩ (.int .u8 (f'.hi : Nat))).setCell ⟨d, 1, none⟩ (.int .i64 q') →
      DecIs d p q' f' W' ∧ Told B t cs fs W' ∧ Turn B d W W' := by
  rintro W' rfl
  unfold DecIs at hd
  refine ⟨by unfold DecIs; simp [World.setCell, Array.getElem?_modify, hd], ?_, ?_⟩
  · obtain ⟨cv, fv, hb, h1, h2⟩ := ht.blk
    have hoff : ∀ k cur (e : TypeId) m, e ≠ 115 → W.heap[k]? = some (Obj.cells cur e m) → (((((W.setCell ⟨d, 2, none⟩ (.int .i64 f'.bits)).setCell ⟨d, 3, none⟩ (.int .i64 f'.more)).setCell ⟨d, 4, none⟩ (.int .u8 (f'.lo : Nat))).setCell ⟨d, 5, none⟩ (.int .u8 (f'.hi : Nat))).setCell ⟨d, 1, none⟩ (.int .i64 q')).heap[k]? = some (Obj.cells cur e m) := fun k cur e m he h => by
      have hne : k ≠ d := fun x => by rw [x, hd] at h; simp at h; exact he h.2.1.symm
      rw [Below.heap_setCell _ _ _ _ hne, Below.heap_setCell _ _ _ _ hne, Below.heap_setCell _ _ _ _ hne, Below.heap_setCell _ _ _ _ hne, Below.heap_setCell _ _ _ _ hne]; exact h
    exact ⟨ht.hB, cv, fv, hoff t _ 136 _ (by decide) hb, own_same h1 fun g cur m _ hg => hoff g cur 44 m (by decide) hg, own_same h2 fun g cur m _ hg => hoff g cur 57 m (by decide) hg⟩
  · exact (((((Turn.refl B d W).setCell (p := ⟨d, 2, none⟩) (.inl rfl) _).setCell (p := ⟨d, 3, none⟩) (.inl rfl) _).setCell (p := ⟨d, 4, none⟩) (.inl rfl) _).setCell (p := ⟨d, 5, none⟩) (.inl rfl) _).setCell (p := ⟨d, 1, none⟩) (.inl rfl) _
theorem tell_any {B t d : Nat} {p q : Int} {f : F} {cs : List Ch} {fs : List Int} {w : World} (r : Int) (hr : r = -1 ∨ 0 ≤ r) (hd : DecIs d p q f w) (ht : Told B t cs fs w) (hn : cs.length ≤ 1000000) (hn2 : fs.length ≤ 1000000) :
    Calls Tryz.prog 157 #[.pointer (some ⟨d, 0, none⟩), .int .i64 r, .pointer (some ⟨t, 0, none⟩)] w fun e w' => e = .returned (.tuple #[]) ∧ DecIs d q q F0 w' ∧ Told B t (cs ++ [⟨if r = -1 then 65533 else r, p, q⟩]) (fs ++ (if r = -1 then [p] else [])) w' ∧ Turn B d w w' := by
  by_cases h : r = -1
  · subst h; exact tell_bad hd ht hn hn2
  · rw [if_neg h, if_neg h, List.append_nil]; exact tell_ok r (by omega) hd ht hn
set_option maxRecDepth 20000 in
set_option maxHeartbeats 1000000 in
theorem take_idle {B t d : Nat} {p : Int} {cs : List Ch} {fs : List Int} {w : World} (b : UInt8) (hp0 : 0 ≤ p) (hp1 : p ≤ 2000000000000) (hd : DecIs d p p F0 w) (ht : Told B t cs fs w) (hn : cs.length ≤ 900000) (hn2 : fs.length ≤ 900000) :
    Calls Tryz.prog 172 #[.pointer (some ⟨d, 0, none⟩), .int .u8 (b.toNat : Nat), .pointer (some ⟨t, 0, none⟩)] w fun e w' => e = .returned (.tuple #[]) ∧
      DecIs d (p + (tot (start b).2 : Nat)) (p + 1) (formL (start b).1) w' ∧ Told B t (cs ++ chs p (start b).2) (fs ++ fls p (start b).2) w' ∧ Turn B d w w' := by
  obtain ⟨hdw, d0, d1, d2, d3, d4, d5, hfz⟩ := dec_cells hd
  have HT : Hid (Told B t cs fs w) := ht
  have HD : Hid (DecIs d p p F0 w) := hd
  have HF : Hid (∀ i, w.frozen? ⟨d, i, none⟩ = false) := hfz
  clear ht hd hfz
  go_enter Tryz.func172, Tryz.ntmps172
  go_wp2_with fail
  go_step3
  go_wp2_with fail
  go_step3
  go_wp2_with fail
  go_quiet (fail)
  go_wp2_with fail
  refine (begin_any b _).mono ?_
  rintro e w1 ⟨rfl, b1⟩
  have bw : Below w.heap.size w w1 := (below_drewN (Below.refl _ _) nq).trans b1
  have hT1 : Hid (Told B t cs fs w1) := told_below HT.out bw
  have hD1 : DecIs d p p F0 w1 := dec_below HD.out bw
  clear d0 d1 d2 d3 d4 d5
  obtain ⟨hdw1, d0, d1, d2, d3, d4, d5, hfz⟩ := dec_cells hD1
  have HD1 : Hid (DecIs d p p F0 w1) := hD1
  have g1 := hfz 1
  have g2 := hfz 2
  have g3 := hfz 3
  have g4 := hfz 4
  have g5 := hfz 5
  clear hfz hD1 b1
  generalize hf : begF b.toNat = f at *
  obtain ⟨x, y, l, h⟩ := f
  unfold F.val
  by_cases hy : y = 0
  · subst hy
    have hs : start b = ([], [(x, 1)]) := by unfold start; rw [if_pos (by rw [hf]), hf]
    have hx : x = -1 ∨ 0 ≤ x := by
      obtain ⟨c0, c1, c2⟩ := beg_all b.toNat (UInt8.toNat_lt b)
      rw [hf] at c0 c1 c2
      simp only at c0 c1 c2
      by_cases e0 : need b.toNat = 0
      · exact .inl (c0 e0).1
      · by_cases e1 : need b.toNat = 1
        · right; rw [(c1 e1).1]; omega
        · obtain ⟨_, c4, _⟩ := c2 (by omega)
          omega
    have HS : Hid (start b = ([], [(x, 1)])) := hs
    clear hs
    go_wp2_with fail
    obtain ⟨m1, m2, m3⟩ := open_mem (f' := ⟨x, 0, l, h⟩) (q' := p + 1) HD1.out hT1.out _ rfl
    have M3 := (Turn.ofOld bw).trans m3
    refine (tell_any x hx m1 m2 (by omega) (by omega)).mono ?_
    rintro e w2 ⟨rfl, t1, t2, t3⟩
    have T1 : Hid (DecIs d (p + 1) (p + 1) F0 w2) := t1
    have T3 : Hid (Turn B d w w2) := M3.trans t3
    have T2 : Hid (Told B t (cs ++ [⟨if x = -1 then 65533 else x, p, p + 1⟩]) (fs ++ (if x = -1 then [p] else [])) w2) := t2
    clear m1 m2 m3 t1 t2 t3 M3 HD1 hT1 d0 d1 d2 d3 d4 d5 g1 g2 g3 g4 g5
    go_wp2_with fail
    simp only [Exit.noGoto_normal]
    refine bodyPost_end (results_none rfl _ _ _) rfl ?_
    rw [HS.out]
    refine ⟨rfl, T1.out, ?_, T3.out⟩
    have e2 : fls p [(x, 1)] = if x = -1 then [p] else [] := by simp [fls]
    rw [e2]
    exact T2.out
  · have hyb : (y == 0) = false := by simpa using hy
    have hs : start b = ([b], []) := by unfold start; rw [if_neg (by rw [hf]; exact hy)]
    go_wp2_with fail
    obtain ⟨m1, m2, m3⟩ := open_mem (f' := ⟨x, y, l, h⟩) (q' := p + 1) HD1.out hT1.out _ rfl
    simp only [Exit.noGoto_normal]
    refine bodyPost_end (results_none rfl _ _ _) rfl ?_
    rw [hs]
    refine ⟨rfl, ?_, ?_, (Turn.ofOld bw).trans m3⟩
    · show DecIs d (p + 0) (p + 1) (begF b.toNat) _
      rw [hf, Int.add_zero]; exact m1
    · show Told B t (cs ++ []) (fs ++ []) _
      rw [List.append_nil, List.append_nil]; exact m2
set_option maxRecDepth 20000 in
set_option maxHeartbeats 1000000 in
theorem take_fits {B t d : Nat} {p q : Int} {f : F} {cs : List Ch} {fs : List Int} {w : World} (b : UInt8) (hpq : p < q) (hp0 : 0 ≤ p) (hq1 : q ≤ 2000000000000) (h0 : 0 ≤ f.bits) (h1 : f.bits ≤ 1000000000) (m0 : 0 ≤ f.more) (m1 : f.more ≤ 10) (hfit : fitsF f b.toNat = true)
    (hd : DecIs d p q f w) (ht : Told B t cs fs w) (hn : cs.length ≤ 900000) :
    Calls Tryz.prog 172 #[.pointer (some ⟨d, 0, none⟩), .int .u8 (b.toNat : Nat), .pointer (some ⟨t, 0, none⟩)] w fun e w' => e = .returned (.tuple #[]) ∧
      (if (withF f b).more = 0 then DecIs d (q + 1) (q + 1) F0 w' ∧ Told B t (cs ++ [⟨(withF f b).bits, p, q + 1⟩]) fs w' else DecIs d p (q + 1) (withF f b) w' ∧ Told B t cs fs w') ∧ Turn B d w w' := by
  obtain ⟨hdw, d0, d1, d2, d3, d4, d5, hfz⟩ := dec_cells hd
  have HT : Hid (Told B t cs fs w) := ht
  have HD : Hid (DecIs d p q f w) := hd
  have hne : (p == q) = false := by rw [beq_eq_false_iff_ne]; omega
  have hwb : 0 ≤ (withF f b).bits := by show 0 ≤ f.bits * 64 + _; omega
  have HF : Hid (fitsF f b.toNat = true) := hfit
  have HW : Hid (0 ≤ (withF f b).bits) := hwb
  clear ht hd hfz hfit hwb
  go_enter Tryz.func172, Tryz.ntmps172
  go_wp2_with fail
  go_step3
  go_wp2_with fail
  go_step3
  go_wp2_with fail
  go_quiet (fail)
  go_wp2_with fail
  refine (fits_any f b _).mono ?_
  rintro e w1 ⟨rfl, b1⟩
  have bw : Below w.heap.size w w1 := (below_drewN (Below.refl _ _) nq).trans b1
  have hD1 : DecIs d p q f w1 := dec_below HD.out bw
  clear d0 d1 d2 d3 d4 d5
  obtain ⟨hdw1, d0, d1, d2, d3, d4, d5, hfz⟩ := dec_cells hD1
  rw [HF.out]
  clear hfz hD1 b1
  go_wp2_with fail
  refine (with_any f b _ h0 h1 m0 m1).mono ?_
  rintro e w2 ⟨rfl, b2⟩
  have bw2 : Below w.heap.size w w2 := bw.trans (b2.mono bw.size)
  have hT2 : Hid (Told B t cs fs w2) := told_below HT.out bw2
  have hD2 : DecIs d p q f w2 := dec_below HD.out bw2
  clear d0 d1 d2 d3 d4 d5
  obtain ⟨hdw2, d0, d1, d2, d3, d4, d5, hfz⟩ := dec_cells hD2
  have HD2 : Hid (DecIs d p q f w2) := hD2
  have g1 := hfz 1
  have g2 := hfz 2
  have g3 := hfz 3
  have g4 := hfz 4
  have g5 := hfz 5
  clear hfz hD2 b2
  obtain ⟨x, y, l, h, hf⟩ : ∃ x y l h, withF f b = F.mk x y l h := ⟨_, _, _, _, rfl⟩
  rw [hf] at HW ⊢
  unfold F.val
  by_cases hy : y = 0
  · subst hy
    go_wp2_with fail
    obtain ⟨m1, m2, m3⟩ := open_mem (f' := ⟨x, 0, l, h⟩) (q' := q + 1) HD2.out hT2.out _ rfl
    have M3 := (Turn.ofOld bw2).trans m3
    refine (tell_ok x HW.out m1 m2 (by omega)).mono ?_
    rintro e w3 ⟨rfl, t1, t2, t3⟩
    have T1 : Hid (DecIs d (q + 1) (q + 1) F0 w3) := t1
    have T3 : Hid (Turn B d w w3) := M3.trans t3
    have T2 : Hid (Told B t (cs ++ [⟨x, p, q + 1⟩]) fs w3) := t2
    clear m1 m2 m3 t1 t2 t3 M3 HD2 hT2 d0 d1 d2 d3 d4 d5 g1 g2 g3 g4 g5
    go_wp2_with fail
    simp only [Exit.noGoto_normal]
    refine bodyPost_end (results_none rfl _ _ _) rfl ?_
    refine ⟨rfl, ?_, T3.out⟩
    rw [hf, if_pos (by rfl)]
    exact ⟨T1.out, T2.out⟩
  · have hyb : (y == 0) = false := by simpa using hy
    go_wp2_with fail
    obtain ⟨m1, m2, m3⟩ := open_mem (f' := ⟨x, y, l, h⟩) (q' := q + 1) HD2.out hT2.out _ rfl
    simp only [Exit.noGoto_normal]
    refine bodyPost_end (results_none rfl _ _ _) rfl ?_
    refine ⟨rfl, ?_, (Turn.ofOld bw2).trans m3⟩
    rw [hf, if_neg (by exact hy)]
    exact ⟨m1, m2⟩
set_option maxRecDepth 20000 in
set_option maxHeartbeats 1000000 in
theorem take_anew {B t d : Nat} {p q : Int} {f : F} {cs : List Ch} {fs : List Int} {w : World} (b : UInt8) (hpq : p < q) (hp0 : 0 ≤ p) (hq1 : q ≤ 2000000000000) (hfit : fitsF f b.toNat = false)
    (hd : DecIs d p q f w) (ht : Told B t cs fs w) (hn : cs.length ≤ 800000) (hn2 : fs.length ≤ 800000) :
    Calls Tryz.prog 172 #[.pointer (some ⟨d, 0, none⟩), .int .u8 (b.toNat : Nat), .pointer (some ⟨t, 0, none⟩)] w fun e w' => e = .returned (.tuple #[]) ∧
      DecIs d (q + (tot (start b).2 : Nat)) (q + 1) (formL (start b).1) w' ∧ Told B t ((cs ++ [⟨65533, p, q⟩]) ++ chs q (start b).2) ((fs ++ [p]) ++ fls q (start b).2) w' ∧ Turn B d w w' := by
  obtain ⟨hdw, d0, d1, d2, d3, d4, d5, hfz⟩ := dec_cells hd
  have HT : Hid (Told B t cs fs w) := ht
  have HD : Hid (DecIs d p q f w) := hd
  have hne : (p == q) = false := by rw [beq_eq_false_iff_ne]; omega
  have HF : Hid (fitsF f b.toNat = false) := hfit
  clear ht hd hfz hfit
  go_enter Tryz.func172, Tryz.ntmps172
  go_wp2_with fail
  refine wp_scope_jumps 0 (fun a' w' => (∃ (u3 u4 u5 u6 u7 u8 u9 u10 u11 u12 u13 u14 u15 u16 u17 u18 u19 u20 u21 u22 u23 u24 u25 u26 u27 u28 u29 u30 u31 u32 u33 u34 u35 u36 u37 u38 u39 u40 u41 u42 u43 u44 u45 u46 u47 u48 u49 u50 u51 u52 u53 u54 u55 u56 u57 u58 u59 u60 : Value), a' = { tmps := #[.pointer (some ⟨d, 0, none⟩), .int .u8 (b.toNat : Nat), .pointer (some ⟨t, 0, none⟩), u3, u4, u5, u6, u7, u8, u9, u10, u11, u12, u13, u14, u15, u16, u17, u18, u19, u20, u21, u22, u23, u24, u25, u26, u27, u28, u29, u30, u31, u32, u33, u34, u35, u36, u37, u38, u39, u40, u41, u42, u43, u44, u45, u46, u47, u48, u49, u50, u51, u52, u53, u54, u55, u56, u57, u58, u59, u60], defers := [] }) ∧ DecIs d q q F0 w' ∧ Told B t (cs ++ [⟨65533, p, q⟩]) (fs ++ [p]) w' ∧ Turn B d w w') (fun _ _ => 0) rfl ?_ ?_
  · go_wp2_with fail
    go_step3
    go_wp2_with fail
    go_quiet (fail)
    go_wp2_with fail
    refine (fits_any f b _).mono ?_
    rintro e w1 ⟨rfl, b1⟩
    have bw : Below w.heap.size w w1 := (below_drewN (Below.refl _ _) nq).trans b1
    have hD1 : DecIs d p q f w1 := dec_below HD.out bw
    have hT1 : Told B t cs fs w1 := told_below HT.out bw
    rw [HF.out]
    clear d0 d1 d2 d3 d4 d5
    go_wp2_with fail
    refine (tell_bad hD1 hT1 (by omega) (by omega)).mono ?_
    rintro e w2 ⟨rfl, t1, t2, t3⟩
    have T1 : Hid (DecIs d q q F0 w2) := t1
    have T3 : Hid (Turn B d w w2) := (Turn.ofOld bw).trans t3
    have T2 : Hid (Told B t (cs ++ [⟨65533, p, q⟩]) (fs ++ [p]) w2) := t2
    clear t1 t2 t3 hD1 hT1
    go_wp2_with fail
    go_step3
    simp only [Exit.inBlock, Exit.then]
    exact ⟨rfl, ⟨_, _, _, _, _, _, _, _, _, _, _, _, _, _, _, _, _, _, _, _, _, _, _, _, _, _, _, _, _, _, _, _, _, _, _, _, _, _, _, _, _, _, _, _, _, _, _, _, _, _, _, _, _, _, _, _, _, _, rfl⟩, T1.out, T2.out, T3.out⟩
  · rintro a' w' ⟨⟨u3, u4, u5, u6, u7, u8, u9, u10, u11, u12, u13, u14, u15, u16, u17, u18, u19, u20, u21, u22, u23, u24, u25, u26, u27, u28, u29, u30, u31, u32, u33, u34, u35, u36, u37, u38, u39, u40, u41, u42, u43, u44, u45, u46, u47, u48, u49, u50, u51, u52, u53, u54, u55, u56, u57, u58, u59, u60, rfl⟩, mD, mT, mU⟩
    clear d0 d1 d2 d3 d4 d5 HT HD HF hne hdw
    obtain ⟨hdw, d0, d1, d2, d3, d4, d5, hfz⟩ := dec_cells mD
    have HT : Hid (Told B t (cs ++ [⟨65533, p, q⟩]) (fs ++ [p]) w') := mT
    have HD : Hid (DecIs d q q F0 w') := mD
    have HU : Hid (Turn B d w w') := mU
    clear mD mT mU hfz
    go_wp2_with fail
    go_quiet (fail)
    go_wp2_with fail
    refine (begin_any b _).mono ?_
    rintro e w1 ⟨rfl, b1⟩
    have bw : Below w'.heap.size w' w1 := (below_drewN (Below.refl _ _) nq).trans b1
    have hT1 : Hid (Told B t (cs ++ [⟨65533, p, q⟩]) (fs ++ [p]) w1) := told_below HT.out bw
    have hD1 : DecIs d q q F0 w1 := dec_below HD.out bw
    clear d0 d1 d2 d3 d4 d5
    obtain ⟨hdw1, d0, d1, d2, d3, d4, d5, hfz⟩ := dec_cells hD1
    have HD1 : Hid (DecIs d q q F0 w1) := hD1
    have g1 := hfz 1
    have g2 := hfz 2
    have g3 := hfz 3
    have g4 := hfz 4
    have g5 := hfz 5
    clear hfz hD1 b1
    generalize hf : begF b.toNat = f at *
    obtain ⟨x, y, l, h⟩ := f
    unfold F.val
    by_cases hy : y = 0
    · subst hy
      have hs : start b = ([], [(x, 1)]) := by unfold start; rw [if_pos (by rw [hf]), hf]
      have hx : x = -1 ∨ 0 ≤ x := by
        obtain ⟨c0, c1, c2⟩ := beg_all b.toNat (UInt8.toNat_lt b)
        rw [hf] at c0 c1 c2
        simp only at c0 c1 c2
        by_cases e0 : need b.toNat = 0
        · exact .inl (c0 e0).1
        · by_cases e1 : need b.toNat = 1
          · right; rw [(c1 e1).1]; omega
          · obtain ⟨_, c4, _⟩ := c2 (by omega)
            omega
      have HS : Hid (start b = ([], [(x, 1)])) := hs
      clear hs
      go_wp2_with fail
      obtain ⟨m1, m2, m3⟩ := open_mem (f' := ⟨x, 0, l, h⟩) (q' := q + 1) HD1.out hT1.out _ rfl
      have M3 := (Turn.ofOld bw).trans m3
      refine (tell_any x hx m1 m2 (by simp; omega) (by simp; omega)).mono ?_
      rintro e w2 ⟨rfl, t1, t2, t3⟩
      have T1 : Hid (DecIs d (q + 1) (q + 1) F0 w2) := t1
      have T3 : Hid (Turn B d w w2) := HU.out.trans (M3.trans t3)
      have T2 : Hid (Told B t ((cs ++ [⟨65533, p, q⟩]) ++ [⟨if x = -1 then 65533 else x, q, q + 1⟩]) ((fs ++ [p]) ++ (if x = -1 then [q] else [])) w2) := t2
      clear m1 m2 m3 t1 t2 t3 M3 HD1 hT1 d0 d1 d2 d3 d4 d5 g1 g2 g3 g4 g5 HT HD HU bw
      go_wp2_with fail
      simp only [Exit.jump]
      refine bodyPost_end (results_none rfl _ _ _) rfl ?_
      rw [HS.out]
      refine ⟨rfl, T1.out, ?_, T3.out⟩
      have e2 : fls q [(x, 1)] = if x = -1 then [q] else [] := by simp [fls]
      rw [e2]
      exact T2.out
    · have hyb : (y == 0) = false := by simpa using hy
      have hs : start b = ([b], []) := by unfold start; rw [if_neg (by rw [hf]; exact hy)]
      go_wp2_with fail
      obtain ⟨m1, m2, m3⟩ := open_mem (f' := ⟨x, y, l, h⟩) (q' := q + 1) HD1.out hT1.out _ rfl
      simp only [Exit.jump]
      refine bodyPost_end (results_none rfl _ _ _) rfl ?_
      rw [hs]
      refine ⟨rfl, ?_, ?_, HU.out.trans ((Turn.ofOld bw).trans m3)⟩
      · show DecIs d (q + 0) (q + 1) (begF b.toNat) _
        rw [hf, Int.add_zero]; exact m1
      · show Told B t ((cs ++ [⟨65533, p, q⟩]) ++ []) ((fs ++ [p]) ++ []) _
        rw [List.append_nil, List.append_nil]; exact m2
end Go.Proofs.YtdiealijjhfhjaaGreatDoor.G4
namespace Go.Proofs.YtdiealijjhfhjaaGreatDoor.G4
open Go.RowKit
set_option maxRecDepth 20000 in
set_option maxHeartbeats 400000 in
theorem new_ok (p : Int) (h0 : 0 ≤ p) (h1 : p ≤ 1099511627776) (w : World) : Calls Tryz.prog 45 #[.int .i64 p] w fun e w' => e = .returned (.pointer (some ⟨w.heap.size, 0, none⟩)) ∧ DecIs w.heap.size p p F0 w' ∧ Below w.heap.size w w' ∧ w'.heap.size = w.heap.size + 1 := by
  go_enter Tryz.func45, Tryz.ntmps45
  go_wp2
  go_ret
  exact ⟨rfl, heap_alloc_new _ _, (Below.refl _ _).alloc (Nat.le_refl _) _, by simp⟩
end Go.Proofs.YtdiealijjhfhjaaGreatDoor.G4
namespace Go.Proofs.YtdiealijjhfhjaaGreatDoor.G4
open Go.RowKit
theorem mask_le (a : Nat) (h : 2 ≤ need a) : mask (need a) a < 32 := by
  have := need_le a
  unfold mask
  repeat' split
  all_goals omega
theorem pend_bits (a : UInt8) (t : List UInt8) (h : pend (a :: t)) : 0 ≤ (formL (a :: t)).bits ∧ (formL (a :: t)).bits ≤ 1000000000 ∧ 0 ≤ (formL (a :: t)).more ∧ (formL (a :: t)).more ≤ 10 := by
  obtain ⟨m1, m2, _⟩ := pend_form a t h
  obtain ⟨_, h2⟩ := h
  have hn := need_le a.toNat
  have hm := mask_le a.toNat (by omega)
  obtain ⟨v1, v2⟩ := val_bound t (mask (need a.toNat) a.toNat : Nat) (by omega)
  rw [m1, m2]
  have hl : (64 : Int) ^ t.length ≤ 64 ^ 3 := by
    have : t.length ≤ 2 := by omega
    match ht : t.length, this with
    | 0, _ => decide
    | 1, _ => decide
    | 2, _ => decide
  have : ((mask (need a.toNat) a.toNat : Nat) + 1 : Int) * 64 ^ t.length ≤ 32 * 64 ^ 3 := Int.mul_le_mul (by omega) hl (Int.pow_nonneg (by omega)) (by omega)
  refine ⟨v1, by omega, by omega, by omega⟩
theorem take_any {B t d : Nat} {p : Int} {u : List UInt8} {cs : List Ch} {fs : List Int} {w : World} (b : UInt8) (hu : pend u) (hp0 : 0 ≤ p) (hp1 : p ≤ 1500000000000) (hd : DecIs d p (p + (u.length : Nat)) (formL u) w) (ht : Told B t cs fs w) (hn : cs.length ≤ 800000) (hn2 : fs.length ≤ 800000) :
    Calls Tryz.prog 172 #[.pointer (some ⟨d, 0, none⟩), .int .u8 (b.toNat : Nat), .pointer (some ⟨t, 0, none⟩)] w fun e w' => e = .returned (.tuple #[]) ∧
      DecIs d (p + (tot (step u b).2 : Nat)) (p + (tot (step u b).2 : Nat) + ((step u b).1.length : Nat)) (formL (step u b).1) w' ∧ Told B t (cs ++ chs p (step u b).2) (fs ++ fls p (step u b).2) w' ∧ Turn B d w w' := by
  obtain ⟨_, _, _, hlen⟩ := step_ok u b [] hu
  match u, hu with
  | [], hu =>
    have e1 : p + ((List.length (α := UInt8) []) : Nat) = p := by simp
    rw [e1] at hd
    refine (take_idle b hp0 (by omega) hd ht (by omega) (by omega)).mono ?_
    rintro e w' ⟨he, h1, h2, h3⟩
    have hl : tot (start b).2 + (start b).1.length = 1 := by simpa [step] using hlen
    refine ⟨he, ?_, h2, h3⟩
    show DecIs d (p + (tot (start b).2 : Nat)) (p + (tot (start b).2 : Nat) + ((start b).1.length : Nat)) (formL (start b).1) w'
    have e2 : p + (tot (start b).2 : Nat) + ((start b).1.length : Nat) = p + 1 := by omega
    rw [e2]; exact h1
  | a :: r, hu =>
    have hr3 : r.length ≤ 3 := by have := hu.2; have := need_le a.toNat; omega
    obtain ⟨b0, b1, b2, b3⟩ := pend_bits a r hu
    have hfs := form_snoc a r b
    rw [step_cons]
    have hq : p + ((a :: r).length : Nat) = p + ((r.length + 1 : Nat) : Int) := rfl
    by_cases hf : fitsF (formL (a :: r)) b.toNat = true
    · rw [if_pos hf, hfs]
      refine (take_fits b (by simp; omega) hp0 (by simp; omega) b0 b1 b2 b3 hf hd ht (by omega)).mono ?_
      rintro e w' ⟨he, h1, h2⟩
      by_cases hm : (withF (formL (a :: r)) b).more = 0
      · rw [if_pos hm] at h1 ⊢
        have hbn : (withF (formL (a :: r)) b).bits ≠ -1 := by show (formL (a :: r)).bits * 64 + _ ≠ -1; omega
        have e1 : chs p [((withF (formL (a :: r)) b).bits, r.length + 2)] = [⟨(withF (formL (a :: r)) b).bits, p, p + ((a :: r).length : Nat) + 1⟩] := by
          simp only [chs, if_neg hbn]; rw [List.length_cons]; congr 2; omega
        have e2 : fls p [((withF (formL (a :: r)) b).bits, r.length + 2)] = [] := by simp [fls, hbn]
        have e3 : (tot [((withF (formL (a :: r)) b).bits, r.length + 2)] : Nat) = r.length + 2 := rfl
        simp only [e1, e2, e3, List.append_nil]
        refine ⟨he, ?_, h1.2, h2⟩
        have e4 : p + ((r.length + 2 : Nat) : Int) = p + ((a :: r).length : Nat) + 1 := by rw [List.length_cons]; omega
        have e5 : p + ((r.length + 2 : Nat) : Int) + ((List.length (α := UInt8) []) : Nat) = p + ((a :: r).length : Nat) + 1 := by rw [List.length_cons, List.length_nil]; omega
        rw [e5, e4]; exact h1.1
      · rw [if_neg hm] at h1 ⊢
        simp only [tot_nil, chs, fls, List.append_nil]
        refine ⟨he, ?_, h1.2, h2⟩
        have e4 : p + ((0 : Nat) : Int) = p := by omega
        have e5 : p + ((a :: (r ++ [b])).length : Nat) = p + ((a :: r).length : Nat) + 1 := by simp; omega
        rw [e4, e5, hfs]; exact h1.1
    · rw [if_neg hf]
      refine (take_anew b (by simp; omega) hp0 (by simp; omega) (by simpa using hf) hd ht (by omega) (by omega)).mono ?_
      rintro e w' ⟨he, h1, h2, h3⟩
      rw [step_cons, if_neg hf, tot_cons, List.length_cons] at hlen
      simp only at hlen
      refine ⟨he, ?_, ?_, h3⟩
      · rw [tot_cons]
        have e1 : p + ((r.length + 1 + tot (start b).2 : Nat) : Int) = p + ((a :: r).length : Nat) + (tot (start b).2 : Nat) := by rw [List.length_cons]; omega
        have e2 : p + ((r.length + 1 + tot (start b).2 : Nat) : Int) + ((start b).1.length : Nat) = p + ((a :: r).length : Nat) + 1 := by rw [List.length_cons]; omega
        show DecIs d (p + ((r.length + 1 + tot (start b).2 : Nat) : Int)) (p + ((r.length + 1 + tot (start b).2 : Nat) : Int) + ((start b).1.length : Nat)) _ w'
        rw [e2, e1]; exact h1
      · have e1 : chs p ((-1, r.length + 1) :: (start b).2) = [⟨65533, p, p + ((a :: r).length : Nat)⟩] ++ chs (p + ((a :: r).length : Nat)) (start b).2 := rfl
        have e2 : fls p ((-1, r.length + 1) :: (start b).2) = [p] ++ fls (p + ((a :: r).length : Nat)) (start b).2 := rfl
        show Told B t (cs ++ chs p ((-1, r.length + 1) :: (start b).2)) (fs ++ fls p ((-1, r.length + 1) :: (start b).2)) w'
        rw [e1, e2, ← List.append_assoc, ← List.append_assoc]; exact h2
theorem run_snoc (s u : List UInt8) (b : UInt8) : run u (s ++ [b]) = ((step (run u s).1 b).1, (run u s).2 ++ (step (run u s).1 b).2) := by
  rw [run_append]; simp [run]
theorem take_snoc (s : ByteArray) (k : Nat) (h : k < s.size) : s.data.toList.take (k + 1) = s.data.toList.take k ++ [s[k]] := by
  rw [List.take_succ_eq_append_getElem (by simpa using h)]; rfl
def Dec (d : Nat) (p : Int) (u : List UInt8) (w : World) : Prop := DecIs d p (p + (u.length : Nat)) (formL u) w
set_option maxRecDepth 20000 in
set_option maxHeartbeats 1000000 in
theorem read_any {B t d : Nat} {p : Int} {u : List UInt8} {cs : List Ch} {fs : List Int} {w : World} (s : ByteArray) (hu : pend u) (hp0 : 0 ≤ p) (hp1 : p ≤ 1400000000000) (hd : Dec d p u w) (ht : Told B t cs fs w) (hn : cs.length ≤ 400000) (hn2 : fs.length ≤ 400000) (hs : s.size ≤ 100000) :
    Calls Tryz.prog 139 #[.pointer (some ⟨d, 0, none⟩), .string s, .pointer (some ⟨t, 0, none⟩)] w fun e w' => e = .returned (.tuple #[]) ∧
      Dec d (p + (tot (run u s.data.toList).2 : Nat)) (run u s.data.toList).1 w' ∧ Told B t (cs ++ chs p (run u s.data.toList).2) (fs ++ fls p (run u s.data.toList).2) w' ∧ Turn B d w w' := by
  have HD : Hid (Dec d p u w) := hd
  have HT : Hid (Told B t cs fs w) := ht
  have HU : Hid (pend u) := hu
  have hu3 : u.length ≤ 4 := by
    match u, hu with
    | [], _ => simp
    | a :: r, h => have := h.2; have := need_le a.toNat; simp; omega
  clear hd ht hu
  go_enter Tryz.func139, Tryz.ntmps139
  go_wp2_with fail
  go_loopw [9] (fun i wr => ∃ k : Nat, k ≤ s.size ∧ i = .int .i64 k ∧ Dec d (p + (tot (run u (s.data.toList.take k)).2 : Nat)) (run u (s.data.toList.take k)).1 wr ∧ Told B t (cs ++ chs p (run u (s.data.toList.take k)).2) (fs ++ fls p (run u (s.data.toList.take k)).2) wr ∧ Turn B d w wr) (fun i _ => s.size - (intOf i).toNat)
  case atStart => exact ⟨0, Nat.zero_le _, rfl, by simpa [run, tot] using HD.out, by simpa [run, chs, fls] using HT.out, Turn.refl _ _ _⟩
  case round =>
    obtain ⟨k, hk, rfl, hD, hT, hU⟩ := hrel
    have hlen : (s.data.toList.take k).length = k := by rw [List.length_take, Array.length_toList]; show min k s.size = k; omega
    obtain ⟨r1, _, _, r4⟩ := run_ok (s.data.toList.take k) u HU.out
    have r5 := run_few (s.data.toList.take k) u
    rw [hlen] at r4 r5
    have hcl : (cs ++ chs p (run u (s.data.toList.take k)).2).length ≤ 800000 := by rw [List.length_append, chs_length]; omega
    have hfl : (fs ++ fls p (run u (s.data.toList.take k)).2).length ≤ 800000 := by have := fls_length (run u (s.data.toList.take k)).2 p; rw [List.length_append]; omega
    by_cases hlt : k < s.size
    · have hsn := run_snoc (s.data.toList.take k) u s[k]
      rw [← take_snoc s k hlt] at hsn
      have HS : Hid (run u (s.data.toList.take (k + 1)) = ((step (run u (s.data.toList.take k)).1 s[k]).1, (run u (s.data.toList.take k)).2 ++ (step (run u (s.data.toList.take k)).1 s[k]).2)) := hsn
      have R1 : Hid (pend (run u (s.data.toList.take k)).1) := r1
      have HD2 : Hid (Dec d (p + (tot (run u (s.data.toList.take k)).2 : Nat)) (run u (s.data.toList.take k)).1 wr) := hD
      have HT2 : Hid (Told B t (cs ++ chs p (run u (s.data.toList.take k)).2) (fs ++ fls p (run u (s.data.toList.take k)).2) wr) := hT
      have HU2 : Hid (Turn B d w wr) := hU
      clear hsn r1 hD hT hU hlen r5
      generalize run u (s.data.toList.take k) = ul at *
      go_wp2_with fail
      refine (take_any s[k] R1.out (by omega) (by omega) HD2.out HT2.out hcl hfl).mono ?_
      rintro e w2 ⟨rfl, t1, t2, t3⟩
      have T1 : Hid (Dec d (p + (tot ul.2 : Nat) + (tot (step ul.1 s[k]).2 : Nat)) (step ul.1 s[k]).1 w2) := t1
      have T2 : Hid (Told B t ((cs ++ chs p ul.2) ++ chs (p + (tot ul.2 : Nat)) (step ul.1 s[k]).2) ((fs ++ fls p ul.2) ++ fls (p + (tot ul.2 : Nat)) (step ul.1 s[k]).2) w2) := t2
      have T3 : Hid (Turn B d w w2) := HU2.out.trans t3
      clear t1 t2 t3 HD2 HT2 HU2
      go_wp2_with fail
      go_roundw
      case rel =>
        refine ⟨k + 1, by omega, by go_num, ?_, ?_, T3.out⟩
        · rw [HS.out, tot_append]
          have e1 : p + ((tot ul.2 + tot (step ul.1 s[k]).2 : Nat) : Int) = p + (tot ul.2 : Nat) + (tot (step ul.1 s[k]).2 : Nat) := by omega
          show Dec d (p + ((tot ul.2 + tot (step ul.1 s[k]).2 : Nat) : Int)) _ w2
          rw [e1]; exact T1.out
        · rw [HS.out]
          show Told B t (cs ++ chs p (ul.2 ++ (step ul.1 s[k]).2)) (fs ++ fls p (ul.2 ++ (step ul.1 s[k]).2)) w2
          rw [chs_append, fls_append, ← List.append_assoc, ← List.append_assoc]; exact T2.out
      case measure => simp [intOf]; omega
    · have hks : s.data.toList.take k = s.data.toList := List.take_of_length_le (by rw [Array.length_toList]; show s.size ≤ k; omega)
      rw [hks] at hD hT
      have HD2 : Hid (Dec d (p + (tot (run u s.data.toList).2 : Nat)) (run u s.data.toList).1 wr) := hD
      have HT2 : Hid (Told B t (cs ++ chs p (run u s.data.toList).2) (fs ++ fls p (run u s.data.toList).2) wr) := hT
      have HU2 : Hid (Turn B d w wr) := hU
      clear hD hT hU hlen r1 r4 r5 hcl hfl hks
      go_wp2_with fail
      refine bodyPost_end (results_none rfl _ _ _) rfl ?_
      exact ⟨rfl, HD2.out, HT2.out, HU2.out⟩
set_option maxRecDepth 20000 in
set_option maxHeartbeats 1000000 in
theorem finish_any {B t d : Nat} {p : Int} {u : List UInt8} {cs : List Ch} {fs : List Int} {w : World} (hd : Dec d p u w) (ht : Told B t cs fs w) (hn : cs.length ≤ 800000) (hn2 : fs.length ≤ 800000) :
    Calls Tryz.prog 114 #[.pointer (some ⟨d, 0, none⟩), .pointer (some ⟨t, 0, none⟩)] w fun e w' => e = .returned (.tuple #[]) ∧
      Dec d (p + (u.length : Nat)) [] w' ∧ Told B t (cs ++ chs p (fin u)) (fs ++ fls p (fin u)) w' ∧ Turn B d w w' := by
  have HD : Hid (Dec d p u w) := hd
  have HT : Hid (Told B t cs fs w) := ht
  obtain ⟨hdw, d0, d1, d2, d3, d4, d5, hfz⟩ := dec_cells hd
  clear hd ht hfz
  by_cases hu : u = []
  · subst hu
    have hlt : ¬ (p < p + ((List.length (α := UInt8) [] : Nat) : Int)) := by simp
    rw [List.length_nil] at d1
    have e1 : p + ((0 : Nat) : Int) = p := by omega
    rw [e1] at d1
    go_enter Tryz.func114, Tryz.ntmps114
    go_wp2_with fail
    go_quiet (fail)
    go_wp2_with fail
    refine bodyPost_end (results_none rfl _ _ _) rfl ?_
    have hb := below_drewN (Below.refl w.heap.size w) nq
    refine ⟨rfl, ?_, ?_, Turn.ofOld hb⟩
    · rw [e1]; exact dec_below HD.out hb
    · show Told B t (cs ++ []) (fs ++ []) _
      rw [List.append_nil, List.append_nil]; exact told_below HT.out hb
  · obtain ⟨q, hq⟩ : ∃ q, p + (u.length : Nat) = q := ⟨_, rfl⟩
    have hul : 0 < u.length := by cases u with | nil => exact absurd rfl hu | cons a r => simp
    have HQ : Hid (p + (u.length : Nat) = q) := hq
    rw [hq] at d1
    have hlt : p < q := by omega
    clear hq hul
    go_enter Tryz.func114, Tryz.ntmps114
    go_wp2_with fail
    go_quiet (fail)
    go_wp2_with fail
    have hb := below_drewN (Below.refl w.heap.size w) nq
    refine (tell_bad (dec_below HD.out hb) (told_below HT.out hb) (by omega) (by omega)).mono ?_
    rintro e w2 ⟨rfl, t1, t2, t3⟩
    have T1 : Hid (DecIs d (p + (u.length : Nat)) (p + (u.length : Nat)) F0 w2) := t1
    have T2 : Hid (Told B t (cs ++ [⟨65533, p, p + (u.length : Nat)⟩]) (fs ++ [p]) w2) := t2
    have T3 : Hid (Turn B d w w2) := (Turn.ofOld hb).trans t3
    clear t1 t2 t3 hb
    go_wp2_with fail
    refine bodyPost_end (results_none rfl _ _ _) rfl ?_
    have ef : fin u = [(-1, u.length)] := by unfold fin; rw [if_neg hu]
    rw [ef]
    refine ⟨rfl, ?_, T2.out, T3.out⟩
    have e2 : p + (u.length : Nat) + ((List.length (α := UInt8) [] : Nat) : Int) = p + (u.length : Nat) := by simp
    show DecIs d (p + (u.length : Nat)) (p + (u.length : Nat) + ((List.length (α := UInt8) [] : Nat) : Int)) F0 w2
    rw [e2]; exact T1.out
end Go.Proofs.YtdiealijjhfhjaaGreatDoor.G4
namespace Go.Proofs.YtdiealijjhfhjaaGreatDoor.G4
open Go.RowKit
theorem told_new {w : World} {C : Nat} (hC : C ≤ w.heap.size) : Told C w.heap.size [] [] (w.alloc (.cells #[.slice none 0 0, .slice none 0 0] 136)) :=
  ⟨hC, _, _, heap_alloc_new _ _, World.ownsRow_nil _ _ _ _, World.ownsRow_nil _ _ _ _⟩
set_option maxRecDepth 20000 in
set_option maxHeartbeats 1000000 in
theorem feed_any {d : Nat} {p : Int} {u : List UInt8} {w : World} (s : ByteArray) (hu : pend u) (hp0 : 0 ≤ p) (hp1 : p ≤ 1400000000000) (hd : Dec d p u w) (hs : s.size ≤ 100000) :
    Calls Tryz.prog 99 #[.pointer (some ⟨d, 0, none⟩), .string s] w fun e w' => ∃ ca cn cc fa fn fc, e = .returned (.tuple #[.slice ca cn cc, .slice fa fn fc]) ∧ Dec d (p + (tot (run u s.data.toList).2 : Nat)) (run u s.data.toList).1 w' ∧
      Chars w.heap.size (.slice ca cn cc) (chs p (run u s.data.toList).2) w' ∧ Faults w.heap.size (.slice fa fn fc) (fls p (run u s.data.toList).2) w' ∧ Turn w.heap.size d w w' := by
  have hb0 : Below w.heap.size w (w.alloc (.cells #[.slice none 0 0, .slice none 0 0] 136)) := (Below.refl _ _).alloc (Nat.le_refl _) _
  have HD : Hid (Dec d p u (w.alloc (.cells #[.slice none 0 0, .slice none 0 0] 136))) := dec_below hd hb0
  have hdw := (dec_cells hd).1
  have HU : Hid (pend u) := hu
  clear hd hu
  go_enter Tryz.func99, Tryz.ntmps99
  go_wp2_with fail
  refine (read_any s HU.out hp0 hp1 HD.out (told_new (Nat.le_refl _)) (by simp) (by simp) hs).mono ?_
  rintro e w1 ⟨rfl, h1, h2, h3⟩
  obtain ⟨ao, c, ao2, c2, htw, hb, o1, o2, t0, t1, hc1, hc2⟩ := told_cells h2
  have H1 : Hid (Dec d (p + (tot (run u s.data.toList).2 : Nat)) (run u s.data.toList).1 w1) := h1
  have H3 : Hid (Turn w.heap.size d w w1) := (Turn.ofOld hb0).trans h3
  have O1 : Hid (Chars w.heap.size (.slice ao (chs p (run u s.data.toList).2).length c) (chs p (run u s.data.toList).2) w1) := o1
  have O2 : Hid (Faults w.heap.size (.slice ao2 (fls p (run u s.data.toList).2).length c2) (fls p (run u s.data.toList).2) w1) := o2
  clear h1 h2 h3 hb o1 o2
  rw [List.nil_append] at t0 t1
  go_wp2_with fail
  go_quiet (fail)
  go_wp2_with fail
  go_ret2
  have hb := below_drewN (Below.refl w1.heap.size w1) nq
  exact ⟨_, _, _, _, _, _, rfl, dec_below H1.out hb, own_below O1.out hb, own_below O2.out hb, H3.out.trans (Turn.ofOld hb)⟩
set_option maxRecDepth 20000 in
set_option maxHeartbeats 1000000 in
theorem end_any {d : Nat} {p : Int} {u : List UInt8} {w : World} (hd : Dec d p u w) :
    Calls Tryz.prog 78 #[.pointer (some ⟨d, 0, none⟩)] w fun e w' => ∃ ca cn cc fa fn fc, e = .returned (.tuple #[.slice ca cn cc, .slice fa fn fc]) ∧ Dec d (p + (u.length : Nat)) [] w' ∧
      Chars w.heap.size (.slice ca cn cc) (chs p (fin u)) w' ∧ Faults w.heap.size (.slice fa fn fc) (fls p (fin u)) w' ∧ Turn w.heap.size d w w' := by
  have hb0 : Below w.heap.size w (w.alloc (.cells #[.slice none 0 0, .slice none 0 0] 136)) := (Below.refl _ _).alloc (Nat.le_refl _) _
  have HD : Hid (Dec d p u (w.alloc (.cells #[.slice none 0 0, .slice none 0 0] 136))) := dec_below hd hb0
  have hdw := (dec_cells hd).1
  clear hd
  go_enter Tryz.func78, Tryz.ntmps78
  go_wp2_with fail
  refine (finish_any HD.out (told_new (Nat.le_refl _)) (by simp) (by simp)).mono ?_
  rintro e w1 ⟨rfl, h1, h2, h3⟩
  obtain ⟨ao, c, ao2, c2, htw, hb, o1, o2, t0, t1, hc1, hc2⟩ := told_cells h2
  have H1 : Hid (Dec d (p + (u.length : Nat)) [] w1) := h1
  have H3 : Hid (Turn w.heap.size d w w1) := (Turn.ofOld hb0).trans h3
  have O1 : Hid (Chars w.heap.size (.slice ao (chs p (fin u)).length c) (chs p (fin u)) w1) := o1
  have O2 : Hid (Faults w.heap.size (.slice ao2 (fls p (fin u)).length c2) (fls p (fin u)) w1) := o2
  clear h1 h2 h3 hb o1 o2
  rw [List.nil_append] at t0 t1
  go_wp2_with fail
  go_quiet (fail)
  go_wp2_with fail
  go_ret2
  have hb := below_drewN (Below.refl w1.heap.size w1) nq
  exact ⟨_, _, _, _, _, _, rfl, dec_below H1.out hb, own_below O1.out hb, own_below O2.out hb, H3.out.trans (Turn.ofOld hb)⟩
end Go.Proofs.YtdiealijjhfhjaaGreatDoor.G4
