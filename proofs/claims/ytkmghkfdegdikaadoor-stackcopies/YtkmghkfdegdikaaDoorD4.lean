/- Do, of kind 4. -/
import Derived.Test.YtkmghkfdegdikaaDoorCh
namespace Go.Proofs.YtkmghkfdegdikaaDoor
open Go.RowKit

set_option maxHeartbeats 4000000 in
set_option maxRecDepth 20000 in
theorem do_4 {Z : Nat → Prop} {w : World} {x y : Nat} {rv lv : Value} {M N : List El} (t : Two Z w x y rv lv M N) (hM : M.length ≤ 900000) (hN : N.length ≤ 900000) (a s did dsp : Int) (dnm : ByteArray) (ao : Option Addr) (ac : Nat) (dal : List At) {no : Option Addr} {nl : List ByteArray} (n nc : Nat) (hnl : nl.length = n) (hnf : n ≤ 9223372036854775807)
    (hat : ∀ V, Keep Z w V → Ats V (.slice ao dal.length ac) dal) (hnr : ∀ V, Keep Z w V → StrRow V no nl) (hT : ∀ V, Keep Z w V → Tb V) :
    Calls Tryd.prog 11 #[ptr x, ptr y, .agg #[iv 4, iv a, iv s, iv did, iv dsp, .string dnm, .slice ao dal.length ac, .slice no n nc]] w (DoIs Z w x y M N) := by
  obtain ⟨W0, hW0⟩ : ∃ W0, w.alloc (.cells #[iv 4, iv a, iv s, iv did, iv dsp, .string dnm, .slice ao dal.length ac, .slice no n nc] 37) = W0 := ⟨_, rfl⟩
  have HW0 : Hid (w.alloc (.cells #[iv 4, iv a, iv s, iv did, iv dsp, .string dnm, .slice ao dal.length ac, .slice no n nc] 37) = W0) := hW0
  have x0 : Bx W0 w.heap.size 37 #[iv 4, iv a, iv s, iv did, iv dsp, .string dnm, .slice ao dal.length ac, .slice no n nc] := by rw [← hW0]; exact heap_alloc_new w _
  have b0 : Below w.heap.size w W0 := by rw [← hW0]; exact (Below.refl _ _).alloc (Nat.le_refl _) _
  clear hW0
  have hlt := x0.lt
  have t0 := t.wide b0 hlt
  have toZ : ∀ V, Keep (Wide Z w.heap.size) W0 V → Keep Z w V := fun V kk => (Keep.old b0).trans (kk.sub fun i hi => .inl hi)
  have CC : ∀ V, Keep (Wide Z w.heap.size) W0 V → V.cell? ⟨w.heap.size, 1, none⟩ = some (iv a) ∧ V.cell? ⟨w.heap.size, 2, none⟩ = some (iv s) ∧ V.cell? ⟨w.heap.size, 3, none⟩ = some (iv did) ∧ V.cell? ⟨w.heap.size, 4, none⟩ = some (iv dsp) ∧ V.cell? ⟨w.heap.size, 5, none⟩ = some (.string dnm) ∧ V.cell? ⟨w.heap.size, 6, none⟩ = some (.slice ao dal.length ac) ∧ V.cell? ⟨w.heap.size, 7, none⟩ = some (.slice no n nc) := fun V kk => by
    have xV : Bx V w.heap.size 37 #[iv 4, iv a, iv s, iv did, iv dsp, .string dnm, .slice ao dal.length ac, .slice no n nc] := (kk.block w.heap.size (.inr rfl) hlt).trans x0
    exact ⟨xV.cell 1, xV.cell 2, xV.cell 3, xV.cell 4, xV.cell 5, xV.cell 6, xV.cell 7⟩
  have hat0 : ∀ V, Keep (Wide Z w.heap.size) W0 V → Ats V (.slice ao dal.length ac) dal := fun V kk => hat V (toZ V kk)
  have hnr0 : ∀ V, Keep (Wide Z w.heap.size) W0 V → StrRow V no nl := fun V kk => hnr V (toZ V kk)
  have hT0 : ∀ V, Keep (Wide Z w.heap.size) W0 V → Tb V := fun V kk => hT V (toZ V kk)
  have hM1 : M.length ≤ 1000000 := by omega
  have hN1 : N.length ≤ 1000000 := by omega
  have e0 : W0.cell? ⟨w.heap.size, 0, none⟩ = some (iv 4) := x0.cell 0
  obtain ⟨e1, e2, e3, e4, e5, e6, e7⟩ := CC W0 (Keep.refl _ _)
  have hz : ∀ V, Keep (Wide Z w.heap.size) W0 V → ∀ k, Wide Z w.heap.size k → k < V.heap.size ∧ k ≠ y ∧ lv.ownBlock ≠ some k := fun V kV k hk => ⟨Nat.lt_of_lt_of_le (t0.q.low k hk) kV.size, fun e => t0.q.out (e ▸ hk), fun e => t0.q.row.out k e hk⟩
  obtain ⟨p1, p2⟩ := t0.both (newRow_stb _) (newRow_stb _) (p_unt hM1 hnr0 n nc hnl hnf) (q_unt hN1 hz hnr0 n nc hnl hnf)
  have hpu : M.map El.pu = N.map El.pu → leftU nl M (M.length - 1) = leftU nl N (N.length - 1) := fun h => leftU_pu h nl
  have FIN : ∀ (V2 : World) (o1 o2 : Option Addr) (n1 n2 c1 c2 : Nat), Fin2 (Wide Z w.heap.size) W0 x y (fun M' => M' = M.take (leftU nl M (M.length - 1))) (fun N' => N' = N.take (leftU nl N (N.length - 1))) (NewRow (M.drop (leftU nl M (M.length - 1))).reverse) (NewRow (N.drop (leftU nl N (N.length - 1))).reverse) (.slice o1 n1 c1) (.slice o2 n2 c2) V2 → Hid (Calls Tryd.prog 15 #[.slice o1 n1 c1, .slice o2 n2 c2] V2 fun e w3 => ∃ b, e = .returned (.bool b) ∧ (w3.cell? ⟨w.heap.size, 1, none⟩ = some (iv a) ∧ w3.cell? ⟨w.heap.size, 2, none⟩ = some (iv s) ∧ w3.cell? ⟨w.heap.size, 3, none⟩ = some (iv did) ∧ w3.cell? ⟨w.heap.size, 4, none⟩ = some (iv dsp) ∧ w3.cell? ⟨w.heap.size, 5, none⟩ = some (.string dnm) ∧ w3.cell? ⟨w.heap.size, 6, none⟩ = some (.slice ao dal.length ac) ∧ w3.cell? ⟨w.heap.size, 7, none⟩ = some (.slice no n nc)) ∧ Hid (DoIs Z w x y M N (.returned (iv (if b then 1 else 0))) w3)) := fun V2 o1 o2 n1 n2 c1 c2 hf => by
    obtain ⟨rv', lv', M', N', t2, k2, pm, qn, ⟨_, ra⟩, ⟨_, rb⟩⟩ := hf
    have l1 : (M.drop (leftU nl M (M.length - 1))).reverse.length = n1 := by
      obtain ⟨_, _, e, _⟩ := ra.1.slice
      simp only [Value.slice.injEq] at e
      exact e.2.1.symm
    have l2 : (N.drop (leftU nl N (N.length - 1))).reverse.length = n2 := by
      obtain ⟨_, _, e, _⟩ := rb.1.slice
      simp only [Value.slice.injEq] at e
      exact e.2.1.symm
    have hn1 : n1 ≤ 1000000000 := by
      rw [← l1, len_dr]
      omega
    refine (same_any n1 n2 c1 c2 ra.is rb.is l1 l2 hn1).mono ?_
    rintro e w3 ⟨b, rfl, hb, b3⟩
    refine ⟨b, rfl, CC w3 (k2.trans (Keep.old b3)), ?_⟩
    refine Fin2.doIs (PR := fun _ _ _ => True) (QR := fun _ _ _ => True) (v := undef) (u := undef) (PM := fun M' => M' = M.take (leftU nl M (M.length - 1))) (QN := fun N' => N' = N.take (leftU nl N (N.length - 1))) ⟨rv', lv', M', N', t2.old b3, k2.trans (Keep.old b3), pm, qn, ⟨W0, trivial⟩, ⟨W0, trivial⟩⟩ b0 (fun M' hm => by rw [hm, List.length_take]; omega) (fun N' hn => by rw [hn, List.length_take]; omega) _ (fun M' N' hm hn h => ⟨?_, ?_⟩)
    · rw [hb (by rw [List.map_reverse, List.map_reverse, List.map_drop, List.map_drop, h, hpu h])]
      rfl
    · rw [hm, hn, List.map_take, List.map_take, h, hpu h]
  have sl : ∀ {O : List El} {A0 V : World} {v : Value}, NewRow O A0 v V → ∃ o n c, v = .slice o n c := fun h => by
    obtain ⟨o, c, e, _⟩ := h.1.slice
    exact ⟨o, _, c, e⟩
  have H1 : Hid (Calls Tryd.prog 23 #[ptr x, .slice no n nc] W0.drew (fun e w1 => ∃ o1 n1 c1, e = .returned (.slice o1 n1 c1) ∧ (w1.cell? ⟨w.heap.size, 1, none⟩ = some (iv a) ∧ w1.cell? ⟨w.heap.size, 2, none⟩ = some (iv s) ∧ w1.cell? ⟨w.heap.size, 3, none⟩ = some (iv did) ∧ w1.cell? ⟨w.heap.size, 4, none⟩ = some (iv dsp) ∧ w1.cell? ⟨w.heap.size, 5, none⟩ = some (.string dnm) ∧ w1.cell? ⟨w.heap.size, 6, none⟩ = some (.slice ao dal.length ac) ∧ w1.cell? ⟨w.heap.size, 7, none⟩ = some (.slice no n nc)) ∧ Hid (Keep (Wide Z w.heap.size) W0 w1) ∧ Hid (Calls Tryd.prog 33 #[ptr y, .slice no n nc] w1 fun e w2 => ∃ o2 n2 c2, e = .returned (.slice o2 n2 c2) ∧ (w2.cell? ⟨w.heap.size, 1, none⟩ = some (iv a) ∧ w2.cell? ⟨w.heap.size, 2, none⟩ = some (iv s) ∧ w2.cell? ⟨w.heap.size, 3, none⟩ = some (iv did) ∧ w2.cell? ⟨w.heap.size, 4, none⟩ = some (iv dsp) ∧ w2.cell? ⟨w.heap.size, 5, none⟩ = some (.string dnm) ∧ w2.cell? ⟨w.heap.size, 6, none⟩ = some (.slice ao dal.length ac) ∧ w2.cell? ⟨w.heap.size, 7, none⟩ = some (.slice no n nc)) ∧ Hid (Keep (Wide Z w.heap.size) W0 w2) ∧ Hid (Calls Tryd.prog 15 #[.slice o1 n1 c1, .slice o2 n2 c2] w2 fun e w3 => ∃ b, e = .returned (.bool b) ∧ (w3.cell? ⟨w.heap.size, 1, none⟩ = some (iv a) ∧ w3.cell? ⟨w.heap.size, 2, none⟩ = some (iv s) ∧ w3.cell? ⟨w.heap.size, 3, none⟩ = some (iv did) ∧ w3.cell? ⟨w.heap.size, 4, none⟩ = some (iv dsp) ∧ w3.cell? ⟨w.heap.size, 5, none⟩ = some (.string dnm) ∧ w3.cell? ⟨w.heap.size, 6, none⟩ = some (.slice ao dal.length ac) ∧ w3.cell? ⟨w.heap.size, 7, none⟩ = some (.slice no n nc)) ∧ Hid (DoIs Z w x y M N (.returned (iv (if b then 1 else 0))) w3))))) := p1.mono (by
    rintro e w1 ⟨v, rfl, ⟨_, hv⟩, k1, hc⟩
    obtain ⟨o1, n1, c1, rfl⟩ := sl hv
    exact ⟨o1, n1, c1, rfl, CC w1 k1, k1, hc.mono (by
      rintro e w2 ⟨u, rfl, k2, ⟨_, hu⟩, hf⟩
      obtain ⟨o2, n2, c2, rfl⟩ := sl hu
      exact ⟨o2, n2, c2, rfl, CC w2 k2, k2, FIN w2 _ _ _ _ _ _ hf⟩)⟩)
  have H2 : Hid (Calls Tryd.prog 33 #[ptr y, .slice no n nc] W0.drew (fun e w1 => ∃ o2 n2 c2, e = .returned (.slice o2 n2 c2) ∧ (w1.cell? ⟨w.heap.size, 1, none⟩ = some (iv a) ∧ w1.cell? ⟨w.heap.size, 2, none⟩ = some (iv s) ∧ w1.cell? ⟨w.heap.size, 3, none⟩ = some (iv did) ∧ w1.cell? ⟨w.heap.size, 4, none⟩ = some (iv dsp) ∧ w1.cell? ⟨w.heap.size, 5, none⟩ = some (.string dnm) ∧ w1.cell? ⟨w.heap.size, 6, none⟩ = some (.slice ao dal.length ac) ∧ w1.cell? ⟨w.heap.size, 7, none⟩ = some (.slice no n nc)) ∧ Hid (Keep (Wide Z w.heap.size) W0 w1) ∧ Hid (Calls Tryd.prog 23 #[ptr x, .slice no n nc] w1 fun e w2 => ∃ o1 n1 c1, e = .returned (.slice o1 n1 c1) ∧ (w2.cell? ⟨w.heap.size, 1, none⟩ = some (iv a) ∧ w2.cell? ⟨w.heap.size, 2, none⟩ = some (iv s) ∧ w2.cell? ⟨w.heap.size, 3, none⟩ = some (iv did) ∧ w2.cell? ⟨w.heap.size, 4, none⟩ = some (iv dsp) ∧ w2.cell? ⟨w.heap.size, 5, none⟩ = some (.string dnm) ∧ w2.cell? ⟨w.heap.size, 6, none⟩ = some (.slice ao dal.length ac) ∧ w2.cell? ⟨w.heap.size, 7, none⟩ = some (.slice no n nc)) ∧ Hid (Keep (Wide Z w.heap.size) W0 w2) ∧ Hid (Calls Tryd.prog 15 #[.slice o1 n1 c1, .slice o2 n2 c2] w2 fun e w3 => ∃ b, e = .returned (.bool b) ∧ (w3.cell? ⟨w.heap.size, 1, none⟩ = some (iv a) ∧ w3.cell? ⟨w.heap.size, 2, none⟩ = some (iv s) ∧ w3.cell? ⟨w.heap.size, 3, none⟩ = some (iv did) ∧ w3.cell? ⟨w.heap.size, 4, none⟩ = some (iv dsp) ∧ w3.cell? ⟨w.heap.size, 5, none⟩ = some (.string dnm) ∧ w3.cell? ⟨w.heap.size, 6, none⟩ = some (.slice ao dal.length ac) ∧ w3.cell? ⟨w.heap.size, 7, none⟩ = some (.slice no n nc)) ∧ Hid (DoIs Z w x y M N (.returned (iv (if b then 1 else 0))) w3))))) := p2.mono (by
    rintro e w1 ⟨u, rfl, ⟨_, hu⟩, k1, hc⟩
    obtain ⟨o2, n2, c2, rfl⟩ := sl hu
    exact ⟨o2, n2, c2, rfl, CC w1 k1, k1, hc.mono (by
      rintro e w2 ⟨v, rfl, k2, ⟨_, hv⟩, hf⟩
      obtain ⟨o1, n1, c1, rfl⟩ := sl hv
      exact ⟨o1, n1, c1, rfl, CC w2 k2, k2, FIN w2 _ _ _ _ _ _ hf⟩)⟩)
  have HK0 : Hid (Keep (Wide Z w.heap.size) W0 W0.drew) := Keep.old (Below.refl _ _).drew
  clear p1 p2 FIN CC toZ hat0 hnr0 hT0 hat hnr hT t t0 b0 x0 hlt hM hN hM1 hN1 hnl hnf hpu hz sl
  go_enter Tryd.func11, Tryd.ntmps11
  go_upto_region 1 with fail
  rw [HW0.out]
  clear HW0
  go_upto_region 17 with fail
  go_region_held3 (fun w' => w'.cell? ⟨w.heap.size, 1, none⟩ = some (iv a) ∧ w'.cell? ⟨w.heap.size, 2, none⟩ = some (iv s) ∧ w'.cell? ⟨w.heap.size, 3, none⟩ = some (iv did) ∧ w'.cell? ⟨w.heap.size, 4, none⟩ = some (iv dsp) ∧ w'.cell? ⟨w.heap.size, 5, none⟩ = some (.string dnm) ∧ w'.cell? ⟨w.heap.size, 6, none⟩ = some (.slice ao dal.length ac) ∧ w'.cell? ⟨w.heap.size, 7, none⟩ = some (.slice no n nc)) (first | exact ⟨g1, g2, g3, g4, g5, g6, g7⟩ | exact ⟨f1, f2, f3, f4, f5, f6, f7⟩ | exact ⟨c1, c2, c3, c4, c5, c6, c7⟩ | exact ⟨e1, e2, e3, e4, e5, e6, e7⟩) (first
    | (go_at_call 23; refine Calls.mono H1.out ?_; rintro e w1 ⟨o1, n1, c1', rfl, ⟨c1, c2, c3, c4, c5, c6, c7⟩, HK1, HC⟩)
    | (go_at_call 33; refine Calls.mono H2.out ?_; rintro e w1 ⟨o2, n2, c2', rfl, ⟨c1, c2, c3, c4, c5, c6, c7⟩, HK1, HC⟩)
    | (go_at_call 33; refine Calls.mono HC.out ?_; rintro e w2 ⟨o2, n2, c2', rfl, ⟨f1, f2, f3, f4, f5, f6, f7⟩, HK2, HS⟩)
    | (go_at_call 23; refine Calls.mono HC.out ?_; rintro e w2 ⟨o1, n1, c1', rfl, ⟨f1, f2, f3, f4, f5, f6, f7⟩, HK2, HS⟩)
    | (go_at_call 15; refine Calls.mono HS.out ?_; rintro e w3 ⟨b, rfl, ⟨g1, g2, g3, g4, g5, g6, g7⟩, HF⟩))
  all_goals
    cases b
    all_goals
      go_wp2_with fail
      go_ret
      exact HF.out
end Go.Proofs.YtkmghkfdegdikaaDoor
