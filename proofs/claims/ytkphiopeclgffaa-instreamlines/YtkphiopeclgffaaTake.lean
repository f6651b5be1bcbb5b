/- (Decoder).take: one byte. -/
import Derived.Test.YtkphiopeclgffaaTell
namespace Go.Proofs.Ytkphiopeclgffaa
open Go.RowKit

theorem open_mem {B t d : Nat} {p q q' : Int} {f f' : F} {cs : List Ch} {fs : List Int} {W : World} (hd : DecIs d p q f W) (ht : Told B t cs fs W) :
    ∀ W', W' = ((((W.setCell ⟨d, 2, none⟩ (.int .i64 f'.bits)).setCell ⟨d, 3, none⟩ (.int .i64 f'.more)).setCell ⟨d, 4, none⟩ (.int .u8 (f'.lo : Nat))).setCell ⟨d, 5, none⟩ (.int .u8 (f'.hi : Nat))).setCell ⟨d, 1, none⟩ (.int .i64 q') →
      DecIs d p q' f' W' ∧ Told B t cs fs W' ∧ Turn B d W W' := by
  rintro W' rfl
  unfold DecIs at hd
  refine ⟨by unfold DecIs; simp [World.setCell, Array.getElem?_modify, hd], ?_, ?_⟩
  · obtain ⟨cv, fv, hb, h1, h2⟩ := ht.blk
    have hoff : ∀ k cur (e : TypeId) m, e ≠ 61 → W.heap[k]? = some (Obj.cells cur e m) → (((((W.setCell ⟨d, 2, none⟩ (.int .i64 f'.bits)).setCell ⟨d, 3, none⟩ (.int .i64 f'.more)).setCell ⟨d, 4, none⟩ (.int .u8 (f'.lo : Nat))).setCell ⟨d, 5, none⟩ (.int .u8 (f'.hi : Nat))).setCell ⟨d, 1, none⟩ (.int .i64 q')).heap[k]? = some (Obj.cells cur e m) := fun k cur e m he h => by
      have hne : k ≠ d := fun x => by rw [x, hd] at h; simp at h; exact he h.2.1.symm
      rw [Below.heap_setCell _ _ _ _ hne, Below.heap_setCell _ _ _ _ hne, Below.heap_setCell _ _ _ _ hne, Below.heap_setCell _ _ _ _ hne, Below.heap_setCell _ _ _ _ hne]; exact h
    exact ⟨ht.hB, cv, fv, hoff t _ 63 _ (by decide) hb, own_same h1 fun g cur m _ hg => hoff g cur 37 m (by decide) hg, own_same h2 fun g cur m _ hg => hoff g cur 39 m (by decide) hg⟩
  · exact (((((Turn.refl B d W).setCell (p := ⟨d, 2, none⟩) (.inl rfl) _).setCell (p := ⟨d, 3, none⟩) (.inl rfl) _).setCell (p := ⟨d, 4, none⟩) (.inl rfl) _).setCell (p := ⟨d, 5, none⟩) (.inl rfl) _).setCell (p := ⟨d, 1, none⟩) (.inl rfl) _

theorem tell_any {B t d : Nat} {p q : Int} {f : F} {cs : List Ch} {fs : List Int} {w : World} (r : Int) (hr : r = -1 ∨ 0 ≤ r) (hd : DecIs d p q f w) (ht : Told B t cs fs w) (hn : cs.length ≤ 1000000) (hn2 : fs.length ≤ 1000000) :
    Calls Try.prog 37 #[.pointer (some ⟨d, 0, none⟩), .int .i64 r, .pointer (some ⟨t, 0, none⟩)] w fun e w' => e = .returned (.tuple #[]) ∧ DecIs d q q F0 w' ∧ Told B t (cs ++ [⟨if r = -1 then 65533 else r, p, q⟩]) (fs ++ (if r = -1 then [p] else [])) w' ∧ Turn B d w w' := by
  by_cases h : r = -1
  · subst h; exact tell_bad hd ht hn hn2
  · rw [if_neg h, if_neg h, List.append_nil]; exact tell_ok r (by omega) hd ht hn

set_option maxHeartbeats 1000000 in
theorem take_idle {B t d : Nat} {p : Int} {cs : List Ch} {fs : List Int} {w : World} (b : UInt8) (hp0 : 0 ≤ p) (hp1 : p ≤ 2000000000000) (hd : DecIs d p p F0 w) (ht : Told B t cs fs w) (hn : cs.length ≤ 900000) (hn2 : fs.length ≤ 900000) :
    Calls Try.prog 36 #[.pointer (some ⟨d, 0, none⟩), .int .u8 (b.toNat : Nat), .pointer (some ⟨t, 0, none⟩)] w fun e w' => e = .returned (.tuple #[]) ∧
      DecIs d (p + (tot (start b).2 : Nat)) (p + 1) (formL (start b).1) w' ∧ Told B t (cs ++ chs p (start b).2) (fs ++ fls p (start b).2) w' ∧ Turn B d w w' := by
  obtain ⟨hdw, d0, d1, d2, d3, d4, d5, hfz⟩ := dec_cells hd
  have HT : Hid (Told B t cs fs w) := ht
  have HD : Hid (DecIs d p p F0 w) := hd
  have HF : Hid (∀ i, w.frozen? ⟨d, i, none⟩ = false) := hfz
  clear ht hd hfz
  go_enter Try.func36, Try.ntmps36
  go_wp2_with fail
  go_step3
  go_wp2_with fail
  go_step3
  go_wp2_with fail
  go_quiet (fail)
  go_wp2_with fail
  refine (begin_any b _).mono ?_
  rintro e w1 ⟨rfl, b1⟩
  have bw : Below w.heap.size w w1 := (below_drewN (Below.refl _ _) nq).trans b1
  have hT1 : Hid (Told B t cs fs w1) := told_below HT.out bw
  have hD1 : DecIs d p p F0 w1 := dec_below HD.out bw
  clear d0 d1 d2 d3 d4 d5
  obtain ⟨hdw1, d0, d1, d2, d3, d4, d5, hfz⟩ := dec_cells hD1
  have HD1 : Hid (DecIs d p p F0 w1) := hD1
  have g1 := hfz 1
  have g2 := hfz 2
  have g3 := hfz 3
  have g4 := hfz 4
  have g5 := hfz 5
  clear hfz hD1 b1
  generalize hf : begF b.toNat = f at *
  obtain ⟨x, y, l, h⟩ := f
  unfold F.val
  by_cases hy : y = 0
  · subst hy
    have hs : start b = ([], [(x, 1)]) := by unfold start; rw [if_pos (by rw [hf]), hf]
    have hx : x = -1 ∨ 0 ≤ x := by
      obtain ⟨c0, c1, c2⟩ := beg_all b.toNat (UInt8.toNat_lt b)
      rw [hf] at c0 c1 c2
      simp only at c0 c1 c2
      by_cases e0 : need b.toNat = 0
      · exact .inl (c0 e0).1
      · by_cases e1 : need b.toNat = 1
        · right; rw [(c1 e1).1]; omega
        · obtain ⟨_, c4, _⟩ := c2 (by omega)
          omega
    have HS : Hid (start b = ([], [(x, 1)])) := hs
    clear hs
    go_wp2_with fail
    obtain ⟨m1, m2, m3⟩ := open_mem (f' := ⟨x, 0, l, h⟩) (q' := p + 1) HD1.out hT1.out _ rfl
    have M3 := (Turn.ofOld bw).trans m3
    refine (tell_any x hx m1 m2 (by omega) (by omega)).mono ?_
    rintro e w2 ⟨rfl, t1, t2, t3⟩
    have T1 : Hid (DecIs d (p + 1) (p + 1) F0 w2) := t1
    have T3 : Hid (Turn B d w w2) := M3.trans t3
    have T2 : Hid (Told B t (cs ++ [⟨if x = -1 then 65533 else x, p, p + 1⟩]) (fs ++ (if x = -1 then [p] else [])) w2) := t2
    clear m1 m2 m3 t1 t2 t3 M3 HD1 hT1 d0 d1 d2 d3 d4 d5 g1 g2 g3 g4 g5
    go_wp2_with fail
    simp only [Exit.noGoto_normal]
    refine bodyPost_end (results_none rfl _ _ _) rfl ?_
    rw [HS.out]
    refine ⟨rfl, T1.out, ?_, T3.out⟩
    have e2 : fls p [(x, 1)] = if x = -1 then [p] else [] := by simp [fls]
    rw [e2]
    exact T2.out
  · have hyb : (y == 0) = false := by simpa using hy
    have hs : start b = ([b], []) := by unfold start; rw [if_neg (by rw [hf]; exact hy)]
    go_wp2_with fail
    obtain ⟨m1, m2, m3⟩ := open_mem (f' := ⟨x, y, l, h⟩) (q' := p + 1) HD1.out hT1.out _ rfl
    simp only [Exit.noGoto_normal]
    refine bodyPost_end (results_none rfl _ _ _) rfl ?_
    rw [hs]
    refine ⟨rfl, ?_, ?_, (Turn.ofOld bw).trans m3⟩
    · show DecIs d (p + 0) (p + 1) (begF b.toNat) _
      rw [hf, Int.add_zero]; exact m1
    · show Told B t (cs ++ []) (fs ++ []) _
      rw [List.append_nil, List.append_nil]; exact m2

set_option maxHeartbeats 1000000 in
theorem take_fits {B t d : Nat} {p q : Int} {f : F} {cs : List Ch} {fs : List Int} {w : World} (b : UInt8) (hpq : p < q) (hp0 : 0 ≤ p) (hq1 : q ≤ 2000000000000) (h0 : 0 ≤ f.bits) (h1 : f.bits ≤ 1000000000) (m0 : 0 ≤ f.more) (m1 : f.more ≤ 10) (hfit : fitsF f b.toNat = true)
    (hd : DecIs d p q f w) (ht : Told B t cs fs w) (hn : cs.length ≤ 900000) :
    Calls Try.prog 36 #[.pointer (some ⟨d, 0, none⟩), .int .u8 (b.toNat : Nat), .pointer (some ⟨t, 0, none⟩)] w fun e w' => e = .returned (.tuple #[]) ∧
      (if (withF f b).more = 0 then DecIs d (q + 1) (q + 1) F0 w' ∧ Told B t (cs ++ [⟨(withF f b).bits, p, q + 1⟩]) fs w' else DecIs d p (q + 1) (withF f b) w' ∧ Told B t cs fs w') ∧ Turn B d w w' := by
  obtain ⟨hdw, d0, d1, d2, d3, d4, d5, hfz⟩ := dec_cells hd
  have HT : Hid (Told B t cs fs w) := ht
  have HD : Hid (DecIs d p q f w) := hd
  have hne : (p == q) = false := by rw [beq_eq_false_iff_ne]; omega
  have hwb : 0 ≤ (withF f b).bits := by show 0 ≤ f.bits * 64 + _; omega
  have HF : Hid (fitsF f b.toNat = true) := hfit
  have HW : Hid (0 ≤ (withF f b).bits) := hwb
  clear ht hd hfz hfit hwb
  go_enter Try.func36, Try.ntmps36
  go_wp2_with fail
  go_step3
  go_wp2_with fail
  go_step3
  go_wp2_with fail
  go_quiet (fail)
  go_wp2_with fail
  refine (fits_any f b _).mono ?_
  rintro e w1 ⟨rfl, b1⟩
  have bw : Below w.heap.size w w1 := (below_drewN (Below.refl _ _) nq).trans b1
  have hD1 : DecIs d p q f w1 := dec_below HD.out bw
  clear d0 d1 d2 d3 d4 d5
  obtain ⟨hdw1, d0, d1, d2, d3, d4, d5, hfz⟩ := dec_cells hD1
  rw [HF.out]
  clear hfz hD1 b1
  go_wp2_with fail
  refine (with_any f b _ h0 h1 m0 m1).mono ?_
  rintro e w2 ⟨rfl, b2⟩
  have bw2 : Below w.heap.size w w2 := bw.trans (b2.mono bw.size)
  have hT2 : Hid (Told B t cs fs w2) := told_below HT.out bw2
  have hD2 : DecIs d p q f w2 := dec_below HD.out bw2
  clear d0 d1 d2 d3 d4 d5
  obtain ⟨hdw2, d0, d1, d2, d3, d4, d5, hfz⟩ := dec_cells hD2
  have HD2 : Hid (DecIs d p q f w2) := hD2
  have g1 := hfz 1
  have g2 := hfz 2
  have g3 := hfz 3
  have g4 := hfz 4
  have g5 := hfz 5
  clear hfz hD2 b2
  obtain ⟨x, y, l, h, hf⟩ : ∃ x y l h, withF f b = F.mk x y l h := ⟨_, _, _, _, rfl⟩
  rw [hf] at HW ⊢
  unfold F.val
  by_cases hy : y = 0
  · subst hy
    go_wp2_with fail
    obtain ⟨m1, m2, m3⟩ := open_mem (f' := ⟨x, 0, l, h⟩) (q' := q + 1) HD2.out hT2.out _ rfl
    have M3 := (Turn.ofOld bw2).trans m3
    refine (tell_ok x HW.out m1 m2 (by omega)).mono ?_
    rintro e w3 ⟨rfl, t1, t2, t3⟩
    have T1 : Hid (DecIs d (q + 1) (q + 1) F0 w3) := t1
    have T3 : Hid (Turn B d w w3) := M3.trans t3
    have T2 : Hid (Told B t (cs ++ [⟨x, p, q + 1⟩]) fs w3) := t2
    clear m1 m2 m3 t1 t2 t3 M3 HD2 hT2 d0 d1 d2 d3 d4 d5 g1 g2 g3 g4 g5
    go_wp2_with fail
    simp only [Exit.noGoto_normal]
    refine bodyPost_end (results_none rfl _ _ _) rfl ?_
    refine ⟨rfl, ?_, T3.out⟩
    rw [hf, if_pos (by rfl)]
    exact ⟨T1.out, T2.out⟩
  · have hyb : (y == 0) = false := by simpa using hy
    go_wp2_with fail
    obtain ⟨m1, m2, m3⟩ := open_mem (f' := ⟨x, y, l, h⟩) (q' := q + 1) HD2.out hT2.out _ rfl
    simp only [Exit.noGoto_normal]
    refine bodyPost_end (results_none rfl _ _ _) rfl ?_
    refine ⟨rfl, ?_, (Turn.ofOld bw2).trans m3⟩
    rw [hf, if_neg (by exact hy)]
    exact ⟨m1, m2⟩

set_option maxHeartbeats 1000000 in
theorem take_anew {B t d : Nat} {p q : Int} {f : F} {cs : List Ch} {fs : List Int} {w : World} (b : UInt8) (hpq : p < q) (hp0 : 0 ≤ p) (hq1 : q ≤ 2000000000000) (hfit : fitsF f b.toNat = false)
    (hd : DecIs d p q f w) (ht : Told B t cs fs w) (hn : cs.length ≤ 800000) (hn2 : fs.length ≤ 800000) :
    Calls Try.prog 36 #[.pointer (some ⟨d, 0, none⟩), .int .u8 (b.toNat : Nat), .pointer (some ⟨t, 0, none⟩)] w fun e w' => e = .returned (.tuple #[]) ∧
      DecIs d (q + (tot (start b).2 : Nat)) (q + 1) (formL (start b).1) w' ∧ Told B t ((cs ++ [⟨65533, p, q⟩]) ++ chs q (start b).2) ((fs ++ [p]) ++ fls q (start b).2) w' ∧ Turn B d w w' := by
  obtain ⟨hdw, d0, d1, d2, d3, d4, d5, hfz⟩ := dec_cells hd
  have HT : Hid (Told B t cs fs w) := ht
  have HD : Hid (DecIs d p q f w) := hd
  have hne : (p == q) = false := by rw [beq_eq_false_iff_ne]; omega
  have HF : Hid (fitsF f b.toNat = false) := hfit
  clear ht hd hfz hfit
  go_enter Try.func36, Try.ntmps36
  go_wp2_with fail
  refine wp_scope_jumps 0 (fun a' w' => (∃ (u3 u4 u5 u6 u7 u8 u9 u10 u11 u12 u13 u14 u15 u16 u17 u18 u19 u20 u21 u22 u23 u24 u25 u26 u27 u28 u29 u30 u31 u32 u33 u34 u35 u36 u37 u38 u39 u40 u41 u42 u43 u44 u45 u46 u47 u48 u49 u50 u51 u52 u53 u54 u55 u56 u57 u58 u59 u60 : Value), a' = { tmps := #[.pointer (some ⟨d, 0, none⟩), .int .u8 (b.toNat : Nat), .pointer (some ⟨t, 0, none⟩), u3, u4, u5, u6, u7, u8, u9, u10, u11, u12, u13, u14, u15, u16, u17, u18, u19, u20, u21, u22, u23, u24, u25, u26, u27, u28, u29, u30, u31, u32, u33, u34, u35, u36, u37, u38, u39, u40, u41, u42, u43, u44, u45, u46, u47, u48, u49, u50, u51, u52, u53, u54, u55, u56, u57, u58, u59, u60], defers := [] }) ∧ DecIs d q q F0 w' ∧ Told B t (cs ++ [⟨65533, p, q⟩]) (fs ++ [p]) w' ∧ Turn B d w w') (fun _ _ => 0) rfl ?_ ?_
  · go_wp2_with fail
    go_step3
    go_wp2_with fail
    go_quiet (fail)
    go_wp2_with fail
    refine (fits_any f b _).mono ?_
    rintro e w1 ⟨rfl, b1⟩
    have bw : Below w.heap.size w w1 := (below_drewN (Below.refl _ _) nq).trans b1
    have hD1 : DecIs d p q f w1 := dec_below HD.out bw
    have hT1 : Told B t cs fs w1 := told_below HT.out bw
    rw [HF.out]
    clear d0 d1 d2 d3 d4 d5
    go_wp2_with fail
    refine (tell_bad hD1 hT1 (by omega) (by omega)).mono ?_
    rintro e w2 ⟨rfl, t1, t2, t3⟩
    have T1 : Hid (DecIs d q q F0 w2) := t1
    have T3 : Hid (Turn B d w w2) := (Turn.ofOld bw).trans t3
    have T2 : Hid (Told B t (cs ++ [⟨65533, p, q⟩]) (fs ++ [p]) w2) := t2
    clear t1 t2 t3 hD1 hT1
    go_wp2_with fail
    go_step3
    simp only [Exit.inBlock, Exit.then]
    exact ⟨rfl, ⟨_, _, _, _, _, _, _, _, _, _, _, _, _, _, _, _, _, _, _, _, _, _, _, _, _, _, _, _, _, _, _, _, _, _, _, _, _, _, _, _, _, _, _, _, _, _, _, _, _, _, _, _, _, _, _, _, _, _, rfl⟩, T1.out, T2.out, T3.out⟩
  · rintro a' w' ⟨⟨u3, u4, u5, u6, u7, u8, u9, u10, u11, u12, u13, u14, u15, u16, u17, u18, u19, u20, u21, u22, u23, u24, u25, u26, u27, u28, u29, u30, u31, u32, u33, u34, u35, u36, u37, u38, u39, u40, u41, u42, u43, u44, u45, u46, u47, u48, u49, u50, u51, u52, u53, u54, u55, u56, u57, u58, u59, u60, rfl⟩, mD, mT, mU⟩
    clear d0 d1 d2 d3 d4 d5 HT HD HF hne hdw
    obtain ⟨hdw, d0, d1, d2, d3, d4, d5, hfz⟩ := dec_cells mD
    have HT : Hid (Told B t (cs ++ [⟨65533, p, q⟩]) (fs ++ [p]) w') := mT
    have HD : Hid (DecIs d q q F0 w') := mD
    have HU : Hid (Turn B d w w') := mU
    clear mD mT mU hfz
    go_wp2_with fail
    go_quiet (fail)
    go_wp2_with fail
    refine (begin_any b _).mono ?_
    rintro e w1 ⟨rfl, b1⟩
    have bw : Below w'.heap.size w' w1 := (below_drewN (Below.refl _ _) nq).trans b1
    have hT1 : Hid (Told B t (cs ++ [⟨65533, p, q⟩]) (fs ++ [p]) w1) := told_below HT.out bw
    have hD1 : DecIs d q q F0 w1 := dec_below HD.out bw
    clear d0 d1 d2 d3 d4 d5
    obtain ⟨hdw1, d0, d1, d2, d3, d4, d5, hfz⟩ := dec_cells hD1
    have HD1 : Hid (DecIs d q q F0 w1) := hD1
    have g1 := hfz 1
    have g2 := hfz 2
    have g3 := hfz 3
    have g4 := hfz 4
    have g5 := hfz 5
    clear hfz hD1 b1
    generalize hf : begF b.toNat = f at *
    obtain ⟨x, y, l, h⟩ := f
    unfold F.val
    by_cases hy : y = 0
    · subst hy
      have hs : start b = ([], [(x, 1)]) := by unfold start; rw [if_pos (by rw [hf]), hf]
      have hx : x = -1 ∨ 0 ≤ x := by
        obtain ⟨c0, c1, c2⟩ := beg_all b.toNat (UInt8.toNat_lt b)
        rw [hf] at c0 c1 c2
        simp only at c0 c1 c2
        by_cases e0 : need b.toNat = 0
        · exact .inl (c0 e0).1
        · by_cases e1 : need b.toNat = 1
          · right; rw [(c1 e1).1]; omega
          · obtain ⟨_, c4, _⟩ := c2 (by omega)
            omega
      have HS : Hid (start b = ([], [(x, 1)])) := hs
      clear hs
      go_wp2_with fail
      obtain ⟨m1, m2, m3⟩ := open_mem (f' := ⟨x, 0, l, h⟩) (q' := q + 1) HD1.out hT1.out _ rfl
      have M3 := (Turn.ofOld bw).trans m3
      refine (tell_any x hx m1 m2 (by simp; omega) (by simp; omega)).mono ?_
      rintro e w2 ⟨rfl, t1, t2, t3⟩
      have T1 : Hid (DecIs d (q + 1) (q + 1) F0 w2) := t1
      have T3 : Hid (Turn B d w w2) := HU.out.trans (M3.trans t3)
      have T2 : Hid (Told B t ((cs ++ [⟨65533, p, q⟩]) ++ [⟨if x = -1 then 65533 else x, q, q + 1⟩]) ((fs ++ [p]) ++ (if x = -1 then [q] else [])) w2) := t2
      clear m1 m2 m3 t1 t2 t3 M3 HD1 hT1 d0 d1 d2 d3 d4 d5 g1 g2 g3 g4 g5 HT HD HU bw
      go_wp2_with fail
      simp only [Exit.jump]
      refine bodyPost_end (results_none rfl _ _ _) rfl ?_
      rw [HS.out]
      refine ⟨rfl, T1.out, ?_, T3.out⟩
      have e2 : fls q [(x, 1)] = if x = -1 then [q] else [] := by simp [fls]
      rw [e2]
      exact T2.out
    · have hyb : (y == 0) = false := by simpa using hy
      have hs : start b = ([b], []) := by unfold start; rw [if_neg (by rw [hf]; exact hy)]
      go_wp2_with fail
      obtain ⟨m1, m2, m3⟩ := open_mem (f' := ⟨x, y, l, h⟩) (q' := q + 1) HD1.out hT1.out _ rfl
      simp only [Exit.jump]
      refine bodyPost_end (results_none rfl _ _ _) rfl ?_
      rw [hs]
      refine ⟨rfl, ?_, ?_, HU.out.trans ((Turn.ofOld bw).trans m3)⟩
      · show DecIs d (q + 0) (q + 1) (begF b.toNat) _
        rw [hf, Int.add_zero]; exact m1
      · show Told B t ((cs ++ [⟨65533, p, q⟩]) ++ []) ((fs ++ [p]) ++ []) _
        rw [List.append_nil, List.append_nil]; exact m2

end Go.Proofs.Ytkphiopeclgffaa
