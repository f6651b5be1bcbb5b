/- Do, of kind 5. -/
import Derived.Test.YtkmghkfdegdikaaDoorCh
namespace Go.Proofs.YtkmghkfdegdikaaDoor
open Go.RowKit

set_option maxHeartbeats 4000000 in
set_option maxRecDepth 20000 in
theorem do_5 {Z : Nat → Prop} {w : World} {x y : Nat} {rv lv : Value} {M N : List El} (t : Two Z w x y rv lv M N) (hM : M.length ≤ 900000) (hN : N.length ≤ 900000) (a s did dsp : Int) (dnm : ByteArray) (ao : Option Addr) (ac : Nat) (dal : List At) {no : Option Addr} {nl : List ByteArray} (n nc : Nat) (_ : nl.length = n) (_ : n ≤ 9223372036854775807)
    (hat : ∀ V, Keep Z w V → Ats V (.slice ao dal.length ac) dal) (hnr : ∀ V, Keep Z w V → StrRow V no nl) (hT : ∀ V, Keep Z w V → Tb V) :
    Calls Tryd.prog 11 #[ptr x, ptr y, .agg #[iv 5, iv a, iv s, iv did, iv dsp, .string dnm, .slice ao dal.length ac, .slice no n nc]] w (DoIs Z w x y M N) := by
  obtain ⟨W0, hW0⟩ : ∃ W0, w.alloc (.cells #[iv 5, iv a, iv s, iv did, iv dsp, .string dnm, .slice ao dal.length ac, .slice no n nc] 37) = W0 := ⟨_, rfl⟩
  have HW0 : Hid (w.alloc (.cells #[iv 5, iv a, iv s, iv did, iv dsp, .string dnm, .slice ao dal.length ac, .slice no n nc] 37) = W0) := hW0
  have x0 : Bx W0 w.heap.size 37 #[iv 5, iv a, iv s, iv did, iv dsp, .string dnm, .slice ao dal.length ac, .slice no n nc] := by rw [← hW0]; exact heap_alloc_new w _
  have b0 : Below w.heap.size w W0 := by rw [← hW0]; exact (Below.refl _ _).alloc (Nat.le_refl _) _
  clear hW0
  have hlt := x0.lt
  have t0 := t.wide b0 hlt
  have toZ : ∀ V, Keep (Wide Z w.heap.size) W0 V → Keep Z w V := fun V kk => (Keep.old b0).trans (kk.sub fun i hi => .inl hi)
  have CC : ∀ V, Keep (Wide Z w.heap.size) W0 V → V.cell? ⟨w.heap.size, 1, none⟩ = some (iv a) ∧ V.cell? ⟨w.heap.size, 2, none⟩ = some (iv s) ∧ V.cell? ⟨w.heap.size, 3, none⟩ = some (iv did) ∧ V.cell? ⟨w.heap.size, 4, none⟩ = some (iv dsp) ∧ V.cell? ⟨w.heap.size, 5, none⟩ = some (.string dnm) ∧ V.cell? ⟨w.heap.size, 6, none⟩ = some (.slice ao dal.length ac) ∧ V.cell? ⟨w.heap.size, 7, none⟩ = some (.slice no n nc) := fun V kk => by
    have xV : Bx V w.heap.size 37 #[iv 5, iv a, iv s, iv did, iv dsp, .string dnm, .slice ao dal.length ac, .slice no n nc] := (kk.block w.heap.size (.inr rfl) hlt).trans x0
    exact ⟨xV.cell 1, xV.cell 2, xV.cell 3, xV.cell 4, xV.cell 5, xV.cell 6, xV.cell 7⟩
  have hat0 : ∀ V, Keep (Wide Z w.heap.size) W0 V → Ats V (.slice ao dal.length ac) dal := fun V kk => hat V (toZ V kk)
  have hnr0 : ∀ V, Keep (Wide Z w.heap.size) W0 V → StrRow V no nl := fun V kk => hnr V (toZ V kk)
  have hT0 : ∀ V, Keep (Wide Z w.heap.size) W0 V → Tb V := fun V kk => hT V (toZ V kk)
  have hM1 : M.length ≤ 1000000 := by omega
  have hN1 : N.length ≤ 1000000 := by omega
  have e0 : W0.cell? ⟨w.heap.size, 0, none⟩ = some (iv 5) := x0.cell 0
  obtain ⟨e1, e2, e3, e4, e5, e6, e7⟩ := CC W0 (Keep.refl _ _)
  obtain ⟨pa, hpa⟩ : ∃ pa, decide (0 ≤ fnd did M M.length) = pa := ⟨_, rfl⟩
  obtain ⟨pb, hpb⟩ : ∃ pb, decide (0 ≤ fnd did N N.length) = pb := ⟨_, rfl⟩
  obtain ⟨q, hq⟩ : ∃ q, (pa == pb) = q := ⟨_, rfl⟩
  obtain ⟨p1, p2⟩ := t0.both (isV_stb _) (isV_stb _) (p_rem hM1 did) (q_rem hN1 did)
  rw [hpa, hpb] at p1 p2
  have FIN : ∀ (V2 : World) (v u : Value) (PR QR : World → Value → World → Prop), Fin2 (Wide Z w.heap.size) W0 x y (fun M' => M' = remP did M) (fun N' => N' = remP did N) PR QR v u V2 → Hid (DoIs Z w x y M N (.returned (iv (if q then 1 else 0))) V2) := fun V2 v u PR QR hf => hf.doIs b0 (fun M' hm => by rw [hm]; exact rem_len did M) (fun N' hn => by rw [hn]; exact rem_len did N) _ (fun M' N' hm hn h => ⟨by
    have e : pa = pb := by rw [← hpa, ← hpb]; exact by rw [fnd_pu' h]
    rw [← hq, e]
    simp, by rw [hm, hn]; exact rem_pu h did⟩)
  have H1 : Hid (Calls Tryd.prog 24 #[ptr x, iv did] W0.drew (fun e w1 => e = .returned (.bool pa) ∧ (w1.cell? ⟨w.heap.size, 1, none⟩ = some (iv a) ∧ w1.cell? ⟨w.heap.size, 2, none⟩ = some (iv s) ∧ w1.cell? ⟨w.heap.size, 3, none⟩ = some (iv did) ∧ w1.cell? ⟨w.heap.size, 4, none⟩ = some (iv dsp) ∧ w1.cell? ⟨w.heap.size, 5, none⟩ = some (.string dnm) ∧ w1.cell? ⟨w.heap.size, 6, none⟩ = some (.slice ao dal.length ac) ∧ w1.cell? ⟨w.heap.size, 7, none⟩ = some (.slice no n nc)) ∧ Hid (Calls Tryd.prog 34 #[ptr y, iv did] w1 fun e w2 => e = .returned (.bool pb) ∧ (w2.cell? ⟨w.heap.size, 1, none⟩ = some (iv a) ∧ w2.cell? ⟨w.heap.size, 2, none⟩ = some (iv s) ∧ w2.cell? ⟨w.heap.size, 3, none⟩ = some (iv did) ∧ w2.cell? ⟨w.heap.size, 4, none⟩ = some (iv dsp) ∧ w2.cell? ⟨w.heap.size, 5, none⟩ = some (.string dnm) ∧ w2.cell? ⟨w.heap.size, 6, none⟩ = some (.slice ao dal.length ac) ∧ w2.cell? ⟨w.heap.size, 7, none⟩ = some (.slice no n nc)) ∧ Hid (DoIs Z w x y M N (.returned (iv (if q then 1 else 0))) w2)))) := p1.mono (by
    rintro e w1 ⟨v, rfl, ⟨_, hv⟩, k1, hc⟩
    exact ⟨by rw [show v = _ from hv], CC w1 k1, hc.mono (by
      rintro e w2 ⟨u, rfl, k2, ⟨_, hu⟩, hf⟩
      exact ⟨by rw [show u = _ from hu], CC w2 k2, FIN w2 v u _ _ hf⟩)⟩)
  have H2 : Hid (Calls Tryd.prog 34 #[ptr y, iv did] W0.drew (fun e w1 => e = .returned (.bool pb) ∧ (w1.cell? ⟨w.heap.size, 1, none⟩ = some (iv a) ∧ w1.cell? ⟨w.heap.size, 2, none⟩ = some (iv s) ∧ w1.cell? ⟨w.heap.size, 3, none⟩ = some (iv did) ∧ w1.cell? ⟨w.heap.size, 4, none⟩ = some (iv dsp) ∧ w1.cell? ⟨w.heap.size, 5, none⟩ = some (.string dnm) ∧ w1.cell? ⟨w.heap.size, 6, none⟩ = some (.slice ao dal.length ac) ∧ w1.cell? ⟨w.heap.size, 7, none⟩ = some (.slice no n nc)) ∧ Hid (Calls Tryd.prog 24 #[ptr x, iv did] w1 fun e w2 => e = .returned (.bool pa) ∧ (w2.cell? ⟨w.heap.size, 1, none⟩ = some (iv a) ∧ w2.cell? ⟨w.heap.size, 2, none⟩ = some (iv s) ∧ w2.cell? ⟨w.heap.size, 3, none⟩ = some (iv did) ∧ w2.cell? ⟨w.heap.size, 4, none⟩ = some (iv dsp) ∧ w2.cell? ⟨w.heap.size, 5, none⟩ = some (.string dnm) ∧ w2.cell? ⟨w.heap.size, 6, none⟩ = some (.slice ao dal.length ac) ∧ w2.cell? ⟨w.heap.size, 7, none⟩ = some (.slice no n nc)) ∧ Hid (DoIs Z w x y M N (.returned (iv (if q then 1 else 0))) w2)))) := p2.mono (by
    rintro e w1 ⟨u, rfl, ⟨_, hu⟩, k1, hc⟩
    exact ⟨by rw [show u = _ from hu], CC w1 k1, hc.mono (by
      rintro e w2 ⟨v, rfl, k2, ⟨_, hv⟩, hf⟩
      exact ⟨by rw [show v = _ from hv], CC w2 k2, FIN w2 v u _ _ hf⟩)⟩)
  clear p1 p2 FIN CC toZ hat0 hnr0 hT0 hat hnr hT t t0 b0 x0 hlt hM hN hM1 hN1 hpa hpb
  go_enter Tryd.func11, Tryd.ntmps11
  go_upto_region 1 with fail
  rw [HW0.out]
  clear HW0
  go_upto_region 19 with fail
  go_region_held3 (fun w' => w'.cell? ⟨w.heap.size, 1, none⟩ = some (iv a) ∧ w'.cell? ⟨w.heap.size, 2, none⟩ = some (iv s) ∧ w'.cell? ⟨w.heap.size, 3, none⟩ = some (iv did) ∧ w'.cell? ⟨w.heap.size, 4, none⟩ = some (iv dsp) ∧ w'.cell? ⟨w.heap.size, 5, none⟩ = some (.string dnm) ∧ w'.cell? ⟨w.heap.size, 6, none⟩ = some (.slice ao dal.length ac) ∧ w'.cell? ⟨w.heap.size, 7, none⟩ = some (.slice no n nc)) (first | exact ⟨f1, f2, f3, f4, f5, f6, f7⟩ | exact ⟨c1, c2, c3, c4, c5, c6, c7⟩ | exact ⟨e1, e2, e3, e4, e5, e6, e7⟩) (first
    | (go_at_call 24; refine Calls.mono H1.out ?_; rintro e w1 ⟨rfl, ⟨c1, c2, c3, c4, c5, c6, c7⟩, HC⟩)
    | (go_at_call 34; refine Calls.mono H2.out ?_; rintro e w1 ⟨rfl, ⟨c1, c2, c3, c4, c5, c6, c7⟩, HC⟩)
    | (go_at_call 34; refine Calls.mono HC.out ?_; rintro e w2 ⟨rfl, ⟨f1, f2, f3, f4, f5, f6, f7⟩, HF⟩)
    | (go_at_call 24; refine Calls.mono HC.out ?_; rintro e w2 ⟨rfl, ⟨f1, f2, f3, f4, f5, f6, f7⟩, HF⟩))
  all_goals
    cases q
    all_goals
      go_wp2_with fail
      go_ret
      exact HF.out
end Go.Proofs.YtkmghkfdegdikaaDoor
