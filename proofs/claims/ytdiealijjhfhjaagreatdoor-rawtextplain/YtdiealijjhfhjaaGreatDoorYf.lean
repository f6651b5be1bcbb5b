/- (Decoder).tell: one character of what waits, with its fault if it is none. -/
import Derived.Test.YtdiealijjhfhjaaGreatDoorYe
namespace Go.Proofs.YtdiealijjhfhjaaGreatDoor.G4
open Go.RowKit
theorem fault_mem {B t d n c : Nat} {p q : Int} {f : F} {cs : List Ch} {fs : List Int} {W : World} {cv : Value} {ao : Option Addr} (hB : B ≤ t) (hblk : W.heap[t]? = some (.cells #[cv, .slice ao n c] 136 (0, 0)))
    (hc : W.ownsRow B 44 3 cv cs.length (cs.flatMap Ch.cells)) (hf : W.ownsRow B 57 2 (.slice ao n c) n (fs.flatMap fcells)) (hfn : fs.length = n) (hd : DecIs d p q f W) (hn : n ≤ 1000000) :
    ∃ ao' c' W', (Builtin.append_ #[24, 24] 24 #[.slice ao n c, .slice (some ⟨W.heap.size, 0, none⟩) 1 1]).run Tryz.prog (W.alloc (.cells #[.int .i64 1, .int .i64 p] 57)).drew = .ok (.slice ao' (n + 1) c') W' ∧
      W'.cell? ⟨t, 1, none⟩ = some (.slice ao n c) ∧ W'.frozen? ⟨t, 1, none⟩ = false ∧ Told B t cs (fs ++ [p]) (W'.setCell ⟨t, 1, none⟩ (.slice ao' (n + 1) c')) ∧ DecIs d p q f (W'.setCell ⟨t, 1, none⟩ (.slice ao' (n + 1) c')) ∧ Turn B d W (W'.setCell ⟨t, 1, none⟩ (.slice ao' (n + 1) c')) := by
  have htw := (Array.getElem?_eq_some_iff.1 hblk).1
  obtain ⟨ao', c', W', hr, ho, hbe, hk⟩ := row_grow (t := 24) (news := fcells p) Tryz.underlying24 info58 rfl (by decide) (by decide) hf (by omega) hn rfl (by simp [fcells, Value.oneCell'])
  have hb2 := hk t _ 136 (0, 0) (by decide) hblk
  have hd2 := hk d _ 115 (0, 0) (by decide) hd
  have hb3 : (W'.setCell ⟨t, 1, none⟩ (.slice ao' (n + 1) c')).heap[t]? = some (.cells #[cv, .slice ao' (n + 1) c'] 136 (0, 0)) := by simp [World.setCell, Array.getElem?_modify, hb2]
  have hoff : ∀ k cur (e : TypeId) m, e ≠ 136 → W'.heap[k]? = some (Obj.cells cur e m) → (W'.setCell ⟨t, 1, none⟩ (.slice ao' (n + 1) c')).heap[k]? = some (Obj.cells cur e m) := fun k cur e m he h => by
    rw [Below.heap_setCell _ _ _ _ (fun x => by simp only at x; rw [x, hb2] at h; simp at h; exact he h.2.1.symm)]; exact h
  refine ⟨ao', c', W', hr, by simp [World.cell?, hb2], by simp [World.frozen?, hb2], ⟨hB, cv, _, hb3, ?_, ?_⟩, hoff d _ 115 _ (by decide) hd2, ?_⟩
  · exact own_same hc fun g cur m _ hg => hoff g cur 44 m (by decide) (hk g cur 44 m (by decide) hg)
  · have e1 : (fs ++ [p]).length = n + 1 := by simp [hfn]
    have e2 : (fs ++ [p]).flatMap fcells = fs.flatMap fcells ++ fcells p := by simp
    rw [e1, e2]
    exact own_same ho fun g cur m _ hg => hoff g cur 57 m (by decide) hg
  · exact (Turn.ofBelow hbe (Nat.le_refl _)).setCell (p := ⟨t, 1, none⟩) (.inr hB) _
theorem char_mem {B t d n c : Nat} {p q r : Int} {f : F} {cs : List Ch} {fs : List Int} {W : World} {fv : Value} {ao : Option Addr} (hB : B ≤ t) (hblk : W.heap[t]? = some (.cells #[.slice ao n c, fv] 136 (0, 0)))
    (hc : W.ownsRow B 44 3 (.slice ao n c) n (cs.flatMap Ch.cells)) (hcn : cs.length = n) (hf : W.ownsRow B 57 2 fv fs.length (fs.flatMap fcells)) (hd : DecIs d p q f W) (hn : n ≤ 1000000) :
    ∃ ao' c' W', (Builtin.append_ #[35, 35] 35 #[.slice ao n c, .slice (some ⟨W.heap.size, 0, none⟩) 1 1]).run Tryz.prog (W.alloc (.cells #[.int .i64 r, .int .i64 p, .int .i64 q] 44)).drew = .ok (.slice ao' (n + 1) c') W' ∧
      W'.cell? ⟨t, 0, none⟩ = some (.slice ao n c) ∧ W'.frozen? ⟨t, 0, none⟩ = false ∧ Told B t (cs ++ [⟨r, p, q⟩]) fs (W'.setCell ⟨t, 0, none⟩ (.slice ao' (n + 1) c')) ∧ DecIs d p q f (W'.setCell ⟨t, 0, none⟩ (.slice ao' (n + 1) c')) ∧ Turn B d W (W'.setCell ⟨t, 0, none⟩ (.slice ao' (n + 1) c')) := by
  have htw := (Array.getElem?_eq_some_iff.1 hblk).1
  obtain ⟨ao', c', W', hr, ho, hbe, hk⟩ := row_grow (t := 35) (news := Ch.cells ⟨r, p, q⟩) Tryz.underlying35 info37 rfl (by decide) (by decide) hc (by omega) hn rfl (by simp [Ch.cells, Value.oneCell'])
  have hb2 := hk t _ 136 (0, 0) (by decide) hblk
  have hd2 := hk d _ 115 (0, 0) (by decide) hd
  have hb3 : (W'.setCell ⟨t, 0, none⟩ (.slice ao' (n + 1) c')).heap[t]? = some (.cells #[.slice ao' (n + 1) c', fv] 136 (0, 0)) := by simp [World.setCell, Array.getElem?_modify, hb2]
  have hoff : ∀ k cur (e : TypeId) m, e ≠ 136 → W'.heap[k]? = some (Obj.cells cur e m) → (W'.setCell ⟨t, 0, none⟩ (.slice ao' (n + 1) c')).heap[k]? = some (Obj.cells cur e m) := fun k cur e m he h => by
    rw [Below.heap_setCell _ _ _ _ (fun x => by simp only at x; rw [x, hb2] at h; simp at h; exact he h.2.1.symm)]; exact h
  refine ⟨ao', c', W', hr, by simp [World.cell?, hb2], by simp [World.frozen?, hb2], ⟨hB, _, fv, hb3, ?_, ?_⟩, hoff d _ 115 _ (by decide) hd2, ?_⟩
  · have e1 : (cs ++ [Ch.mk r p q]).length = n + 1 := by simp [hcn]
    have e2 : (cs ++ [Ch.mk r p q]).flatMap Ch.cells = cs.flatMap Ch.cells ++ Ch.cells ⟨r, p, q⟩ := by simp
    rw [e1, e2]
    exact own_same ho fun g cur m _ hg => hoff g cur 44 m (by decide) hg
  · exact own_same hf fun g cur m _ hg => hoff g cur 57 m (by decide) (hk g cur 57 m (by decide) hg)
  · exact (Turn.ofBelow hbe (Nat.le_refl _)).setCell (p := ⟨t, 0, none⟩) (.inr hB) _
theorem reset_mem {B t d : Nat} {p q : Int} {f : F} {cs : List Ch} {fs : List Int} {W : World} (hd : DecIs d p q f W) (ht : Told B t cs fs W) :
    ∀ W', W' = (((((W.setCell ⟨d, 0, none⟩ (.int .i64 q)).setCell ⟨d, 1, none⟩ (.int .i64 q)).setCell ⟨d, 2, none⟩ (.int .i64 0)).setCell ⟨d, 3, none⟩ (.int .i64 0)).setCell ⟨d, 4, none⟩ (.int .u8 0)).setCell ⟨d, 5, none⟩ (.int .u8 0) →
      DecIs d q q F0 W' ∧ Told B t cs fs W' ∧ Turn B d W W' := by
  rintro W' rfl
  unfold DecIs at hd
  refine ⟨by unfold DecIs F0; simp [World.setCell, Array.getElem?_modify, hd], ?_, ?_⟩
  · obtain ⟨cv, fv, hb, h1, h2⟩ := ht.blk
    have hoff : ∀ k cur (e : TypeId) m, e ≠ 115 → W.heap[k]? = some (Obj.cells cur e m) → ((((((W.setCell ⟨d, 0, none⟩ (.int .i64 q)).setCell ⟨d, 1, none⟩ (.int .i64 q)).setCell ⟨d, 2, none⟩ (.int .i64 0)).setCell ⟨d, 3, none⟩ (.int .i64 0)).setCell ⟨d, 4, none⟩ (.int .u8 0)).setCell ⟨d, 5, none⟩ (.int .u8 0)).heap[k]? = some (Obj.cells cur e m) := fun k cur e m he h => by
      have hne : k ≠ d := fun x => by rw [x, hd] at h; simp at h; exact he h.2.1.symm
      rw [Below.heap_setCell _ _ _ _ hne, Below.heap_setCell _ _ _ _ hne, Below.heap_setCell _ _ _ _ hne, Below.heap_setCell _ _ _ _ hne, Below.heap_setCell _ _ _ _ hne, Below.heap_setCell _ _ _ _ hne]; exact h
    exact ⟨ht.hB, cv, fv, hoff t _ 136 _ (by decide) hb, own_same h1 fun g cur m _ hg => hoff g cur 44 m (by decide) hg, own_same h2 fun g cur m _ hg => hoff g cur 57 m (by decide) hg⟩
  · exact ((((((Turn.refl B d W).setCell (p := ⟨d, 0, none⟩) (.inl rfl) _).setCell (p := ⟨d, 1, none⟩) (.inl rfl) _).setCell (p := ⟨d, 2, none⟩) (.inl rfl) _).setCell (p := ⟨d, 3, none⟩) (.inl rfl) _).setCell (p := ⟨d, 4, none⟩) (.inl rfl) _).setCell (p := ⟨d, 5, none⟩) (.inl rfl) _
theorem told_cells {B t : Nat} {cs : List Ch} {fs : List Int} {w : World} (h : Told B t cs fs w) : ∃ ao c ao2 c2, t < w.heap.size ∧ w.heap[t]? = some (.cells #[.slice ao cs.length c, .slice ao2 fs.length c2] 136 (0, 0)) ∧ w.ownsRow B 44 3 (.slice ao cs.length c) cs.length (cs.flatMap Ch.cells) ∧ w.ownsRow B 57 2 (.slice ao2 fs.length c2) fs.length (fs.flatMap fcells) ∧
    w.cell? ⟨t, 0, none⟩ = some (.slice ao cs.length c) ∧ w.cell? ⟨t, 1, none⟩ = some (.slice ao2 fs.length c2) ∧ c ≤ maxLen ∧ c2 ≤ maxLen := by
  obtain ⟨cv, fv, hb, h1, h2⟩ := h.blk
  obtain ⟨ao, c, rfl, _, hc⟩ := own_form h1
  obtain ⟨ao2, c2, rfl, _, hc2⟩ := own_form h2
  exact ⟨ao, c, ao2, c2, (Array.getElem?_eq_some_iff.1 hb).1, hb, h1, h2, by simp [World.cell?, hb], by simp [World.cell?, hb], hc, hc2⟩
structure MidT (B t d : Nat) (p q : Int) (f : F) (cs : List Ch) (fs : List Int) (w wc : World) : Prop where
  dec : DecIs d p q f wc
  told : Told B t cs fs wc
  turn : Turn B d w wc
set_option maxRecDepth 20000 in
set_option maxHeartbeats 4000000 in
theorem tell_ok {B t d : Nat} {p q : Int} {f : F} {cs : List Ch} {fs : List Int} {w : World} (r : Int) (hr0 : 0 ≤ r) (hd : DecIs d p q f w) (ht : Told B t cs fs w) (hn : cs.length ≤ 1000000) :
    Calls Tryz.prog 157 #[.pointer (some ⟨d, 0, none⟩), .int .i64 r, .pointer (some ⟨t, 0, none⟩)] w fun e w' => e = .returned (.tuple #[]) ∧ DecIs d q q F0 w' ∧ Told B t (cs ++ [⟨r, p, q⟩]) fs w' ∧ Turn B d w w' := by
  obtain ⟨ao, c, ao2, c2, htw, hb, h1, h2, t0, t1, hc1, hc2⟩ := told_cells ht
  obtain ⟨hdw, d0, d1, d2, d3, d4, d5, hfz⟩ := dec_cells hd
  obtain ⟨ao', c', W', hrun, x0, xf, hT, hD, hU⟩ := char_mem (r := r) ht.hB hb h1 rfl h2 hd hn
  obtain ⟨k, hk⟩ : ∃ k, cs.length = k := ⟨_, rfl⟩
  rw [hk] at hrun t0 x0 hn hT hD hU
  have HT : Hid (Told B t (cs ++ [⟨r, p, q⟩]) fs (W'.setCell ⟨t, 0, none⟩ (.slice ao' (k + 1) c'))) := hT
  have HD : Hid (DecIs d p q f (W'.setCell ⟨t, 0, none⟩ (.slice ao' (k + 1) c'))) := hD
  have HU : Hid (Turn B d w (W'.setCell ⟨t, 0, none⟩ (.slice ao' (k + 1) c'))) := hU
  clear hT hD hU hb h1 h2 ht hd hk hfz
  go_enter Tryz.func157, Tryz.ntmps157
  go_wp2_with fail
  go_cut [] (fun wc => MidT B t d p q f (cs ++ [⟨r, p, q⟩]) fs w wc)
  case first =>
    go_region_law (refine step_append_eq rfl _ _ 35 35 rfl _ _ (by simp [Act.eval]) (by simp [Act.eval]) hrun ?_)
    all_goals
      go_wp2_with fail
      go_meet
      case rel => exact ⟨HD.out, HT.out, HU.out⟩
  case rest =>
    clear hrun x0 xf t0 t1 d0 d1 d2 d3 d4 d5 HT HD HU
    obtain ⟨mD, mT, mU⟩ := hcut
    obtain ⟨hdw', e0, e1, e2, e3, e4, e5, hfz'⟩ := dec_cells mD
    have hm := reset_mem mD mT
    have HM : Hid (∀ W2, W2 = (((((wc.setCell ⟨d, 0, none⟩ (.int .i64 q)).setCell ⟨d, 1, none⟩ (.int .i64 q)).setCell ⟨d, 2, none⟩ (.int .i64 0)).setCell ⟨d, 3, none⟩ (.int .i64 0)).setCell ⟨d, 4, none⟩ (.int .u8 0)).setCell ⟨d, 5, none⟩ (.int .u8 0) →
      DecIs d q q F0 W2 ∧ Told B t (cs ++ [⟨r, p, q⟩]) fs W2 ∧ Turn B d wc W2) := hm
    have HU : Hid (Turn B d w wc) := mU
    have g0 := hfz' 0
    have g1 := hfz' 1
    have g2 := hfz' 2
    have g3 := hfz' 3
    have g4 := hfz' 4
    have g5 := hfz' 5
    clear mD mT mU hm hfz'
    go_wp2_with fail
    go_region
    go_wp2_with fail
    refine bodyPost_end (results_none rfl _ _ _) rfl ?_
    obtain ⟨m1, m2, m3⟩ := HM.out _ rfl
    exact ⟨rfl, dec_below m1 ((Below.refl _ _).drew), told_below m2 ((Below.refl _ _).drew), (HU.out.trans m3).drew⟩
set_option maxRecDepth 20000 in
set_option maxHeartbeats 4000000 in
theorem tell_bad {B t d : Nat} {p q : Int} {f : F} {cs : List Ch} {fs : List Int} {w : World} (hd : DecIs d p q f w) (ht : Told B t cs fs w) (hn : cs.length ≤ 1000000) (hn2 : fs.length ≤ 1000000) :
    Calls Tryz.prog 157 #[.pointer (some ⟨d, 0, none⟩), .int .i64 (-1), .pointer (some ⟨t, 0, none⟩)] w fun e w' => e = .returned (.tuple #[]) ∧ DecIs d q q F0 w' ∧ Told B t (cs ++ [⟨65533, p, q⟩]) (fs ++ [p]) w' ∧ Turn B d w w' := by
  obtain ⟨ao, c, ao2, c2, htw, hb, h1, h2, t0, t1, hc1, hc2⟩ := told_cells ht
  obtain ⟨hdw, d0, d1, d2, d3, d4, d5, hfz⟩ := dec_cells hd
  obtain ⟨ao', c', W', hrun, x0, xf, hT, hD, hU⟩ := fault_mem ht.hB hb h1 h2 rfl hd hn2
  obtain ⟨k, hk⟩ : ∃ k, fs.length = k := ⟨_, rfl⟩
  rw [hk] at hrun t1 x0 hn2 hT hD hU
  have HT : Hid (Told B t cs (fs ++ [p]) (W'.setCell ⟨t, 1, none⟩ (.slice ao' (k + 1) c'))) := hT
  have HD : Hid (DecIs d p q f (W'.setCell ⟨t, 1, none⟩ (.slice ao' (k + 1) c'))) := hD
  have HU : Hid (Turn B d w (W'.setCell ⟨t, 1, none⟩ (.slice ao' (k + 1) c'))) := hU
  clear hT hD hU hb h1 h2 ht hd hk hfz
  go_enter Tryz.func157, Tryz.ntmps157
  go_wp2_with fail
  go_cut [] (fun wc => MidT B t d p q f cs (fs ++ [p]) w wc)
  case first =>
    go_region_law (refine step_append_eq rfl _ _ 24 24 rfl _ _ (by simp [Act.eval]) (by simp [Act.eval]) hrun ?_)
    all_goals
      go_wp2_with fail
      go_meet
      case rel => exact ⟨HD.out, HT.out, HU.out⟩
  case rest =>
    clear hrun x0 xf t0 t1 d0 d1 d2 d3 d4 d5 HT HD HU
    obtain ⟨mD, mT, mU⟩ := hcut
    obtain ⟨ao, c, ao2, c2, htw, hb, h1, h2, t0, t1, hc1, hc2⟩ := told_cells mT
    obtain ⟨hdw, d0, d1, d2, d3, d4, d5, hfz⟩ := dec_cells mD
    obtain ⟨ao', c', W', hrun, x0, xf, hT, hD, hU⟩ := char_mem (r := 65533) mT.hB hb h1 rfl h2 mD hn
    obtain ⟨k, hk⟩ : ∃ k, cs.length = k := ⟨_, rfl⟩
    rw [hk] at hrun t0 x0 hn hT hD hU
    have HT : Hid (Told B t (cs ++ [⟨65533, p, q⟩]) (fs ++ [p]) (W'.setCell ⟨t, 0, none⟩ (.slice ao' (k + 1) c'))) := hT
    have HD : Hid (DecIs d p q f (W'.setCell ⟨t, 0, none⟩ (.slice ao' (k + 1) c'))) := hD
    have HU : Hid (Turn B d w (W'.setCell ⟨t, 0, none⟩ (.slice ao' (k + 1) c'))) := mU.trans hU
    clear hT hD hU hb h1 h2 mT mD mU hk hfz
    go_wp2_with fail
    go_cut [] (fun wc => MidT B t d p q f (cs ++ [⟨65533, p, q⟩]) (fs ++ [p]) w wc)
    case first =>
      go_region_law (refine step_append_eq rfl _ _ 35 35 rfl _ _ (by simp [Act.eval]) (by simp [Act.eval]) hrun ?_)
      all_goals
        go_wp2_with fail
        go_meet
        case rel => exact ⟨HD.out, HT.out, HU.out⟩
    case rest =>
      clear hrun x0 xf t0 t1 d0 d1 d2 d3 d4 d5 HT HD HU
      obtain ⟨mD, mT, mU⟩ := hcut
      obtain ⟨hdw', e0, e1, e2, e3, e4, e5, hfz'⟩ := dec_cells mD
      have HD : Hid (DecIs d p q f wc) := mD
      have HT : Hid (Told B t (cs ++ [⟨65533, p, q⟩]) (fs ++ [p]) wc) := mT
      have HU : Hid (Turn B d w wc) := mU
      have g0 := hfz' 0
      have g1 := hfz' 1
      have g2 := hfz' 2
      have g3 := hfz' 3
      have g4 := hfz' 4
      have g5 := hfz' 5
      clear mD mT mU hfz'
      go_wp2_with fail
      go_region
      go_wp2_with fail
      refine bodyPost_end (results_none rfl _ _ _) rfl ?_
      obtain ⟨m1, m2, m3⟩ := reset_mem HD.out HT.out _ rfl
      exact ⟨rfl, dec_below m1 ((Below.refl _ _).drew), told_below m2 ((Below.refl _ _).drew), (HU.out.trans m3).drew⟩
end Go.Proofs.YtdiealijjhfhjaaGreatDoor.G4
