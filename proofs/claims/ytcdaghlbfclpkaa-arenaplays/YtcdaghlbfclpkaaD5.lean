/- Do, of kind 5. -/
import Derived.Test.YtcdaghlbfclpkaaDh
import Derived.Shelf.Abstract
import Derived.Deep.RegionHeld3
namespace Go.Proofs.Ytcdaghlbfclpkaa
open Go.RowKit

set_option maxHeartbeats 4000000 in
set_option maxRecDepth 20000 in
theorem do_5 {Z : Nat → Prop} {w : World} {x y : Nat} {N : List Nd} {P : List Sp} {E : List En} {L : List RN} (t : Two Z w x y N P E L) (hR : Rel N P E L) {n : Nat} (hn : L.length = n) (hn2 : n ≤ 800000000) (a b c : Int) (d : Nd) (ao : Option Addr) (ac : Nat) (ko : Option Addr) (kn kc : Nat) (ha : ∀ w', Keep Z w w' → Ats w' (.slice ao d.al.length ac) d.al) (_hf : d.al.length ≤ 1000000000) :
    Calls Try.prog 12 #[ptr x, ptr y, .agg #[iv 5, iv a, iv b, iv c, iv d.id, iv d.kind, iv d.space, .string d.name, .string d.text, .slice ao d.al.length ac, iv d.sf, iv d.st, iv d.ef, iv d.et, .slice ko kn kc]] w (fun e w' => e = .returned (iv 1) ∧ Fin Z w x y n w') := by
  have b0 : Below w.heap.size w (w.alloc (.cells #[iv 5, iv a, iv b, iv c, iv d.id, iv d.kind, iv d.space, .string d.name, .string d.text, .slice ao d.al.length ac, iv d.sf, iv d.st, iv d.ef, iv d.et, .slice ko kn kc] 37)) := (Below.refl _ _).alloc (Nat.le_refl _) _
  have n0 : (w.alloc (.cells #[iv 5, iv a, iv b, iv c, iv d.id, iv d.kind, iv d.space, .string d.name, .string d.text, .slice ao d.al.length ac, iv d.sf, iv d.st, iv d.ef, iv d.et, .slice ko kn kc] 37)).heap[w.heap.size]? = some (.cells #[iv 5, iv a, iv b, iv c, iv d.id, iv d.kind, iv d.space, .string d.name, .string d.text, .slice ao d.al.length ac, iv d.sf, iv d.st, iv d.ef, iv d.et, .slice ko kn kc] 37 (0, 0)) := heap_alloc_new w _
  obtain ⟨W0, hW0⟩ : ∃ W0, w.alloc (.cells #[iv 5, iv a, iv b, iv c, iv d.id, iv d.kind, iv d.space, .string d.name, .string d.text, .slice ao d.al.length ac, iv d.sf, iv d.st, iv d.ef, iv d.et, .slice ko kn kc] 37) = W0 := ⟨_, rfl⟩
  have HW0 : Hid (w.alloc (.cells #[iv 5, iv a, iv b, iv c, iv d.id, iv d.kind, iv d.space, .string d.name, .string d.text, .slice ao d.al.length ac, iv d.sf, iv d.st, iv d.ef, iv d.et, .slice ko kn kc] 37) = W0) := hW0
  rw [hW0] at b0 n0
  clear hW0
  have hlt := (Array.getElem?_eq_some_iff.1 n0).1
  have t0 := t.wide b0
  have ha' : ∀ w', Keep (Wide Z w W0) W0 w' → Ats w' (.slice ao d.al.length ac) d.al := fun w' kk => ha w' ((Keep.old b0).trans (kk.sub fun i hi => .inl hi))
  have CC : ∀ w1, Keep (Wide Z w W0) W0 w1 → w1.cell? ⟨w.heap.size, 1, none⟩ = some (iv a) ∧ w1.cell? ⟨w.heap.size, 2, none⟩ = some (iv b) ∧ w1.cell? ⟨w.heap.size, 3, none⟩ = some (iv c) ∧ w1.cell? ⟨w.heap.size, 4, none⟩ = some (iv d.id) ∧ w1.cell? ⟨w.heap.size, 5, none⟩ = some (iv d.kind) ∧ w1.cell? ⟨w.heap.size, 6, none⟩ = some (iv d.space) ∧ w1.cell? ⟨w.heap.size, 7, none⟩ = some (.string d.name) ∧ w1.cell? ⟨w.heap.size, 8, none⟩ = some (.string d.text) ∧ w1.cell? ⟨w.heap.size, 9, none⟩ = some (.slice ao d.al.length ac) ∧ w1.cell? ⟨w.heap.size, 10, none⟩ = some (iv d.sf) ∧ w1.cell? ⟨w.heap.size, 11, none⟩ = some (iv d.st) ∧ w1.cell? ⟨w.heap.size, 12, none⟩ = some (iv d.ef) ∧ w1.cell? ⟨w.heap.size, 13, none⟩ = some (iv d.et) ∧ w1.cell? ⟨w.heap.size, 14, none⟩ = some (.slice ko kn kc) := fun w1 kk => by
    have e := (kk.block w.heap.size (.inr ⟨Nat.le_refl _, hlt⟩) hlt).trans n0
    refine ⟨?_, ?_, ?_, ?_, ?_, ?_, ?_, ?_, ?_, ?_, ?_, ?_, ?_, ?_⟩ <;> simp [World.cell?, e]
  have FIN : ∀ w2, Keep (Wide Z w W0) W0 w2 → (∃ N' P' E' L', Rel N' P' E' L' ∧ L'.length ≤ L.length + 1 ∧ Two (Wide Z w W0) w2 x y N' P' E' L') → Hid (Fin Z w x y n w2) := fun w2 kk ⟨N', P', E', L', r1, r2, r3⟩ =>
    ⟨(Keep.old b0).trans (kk.sub fun i hi => .inl hi), N', P', E', L', r1, by rw [← hn]; exact r2, r3.sub fun i hi => .inl hi⟩
  have e0 : W0.cell? ⟨w.heap.size, 0, none⟩ = some (iv 5) := by simp [World.cell?, n0]
  clear t ha n0
  have hn2 : n ≤ 900000000 := by omega
  obtain ⟨ra, hd⟩ := show ∃ v : Int, Deal (Wide Z w W0) W0 x y N P E L 29 #[ptr x, iv a, .agg #[iv d.ef, iv d.et]] 37 #[ptr y, iv a, .agg #[iv d.ef, iv d.et]] (iv v) from deal_end hR hn a d.ef d.et
  obtain ⟨p1, p2⟩ := hd.both t0
  have H1 : Hid (Calls Try.prog 29 #[ptr x, iv a, .agg #[iv d.ef, iv d.et]] W0.drew (fun e w1 => e = .returned (iv ra) ∧ (w1.cell? ⟨w.heap.size, 1, none⟩ = some (iv a) ∧ w1.cell? ⟨w.heap.size, 12, none⟩ = some (iv d.ef) ∧ w1.cell? ⟨w.heap.size, 13, none⟩ = some (iv d.et)) ∧ Hid (Calls Try.prog 37 #[ptr y, iv a, .agg #[iv d.ef, iv d.et]] w1 (fun e w2 => e = .returned (iv ra) ∧ (w2.cell? ⟨w.heap.size, 1, none⟩ = some (iv a) ∧ w2.cell? ⟨w.heap.size, 12, none⟩ = some (iv d.ef) ∧ w2.cell? ⟨w.heap.size, 13, none⟩ = some (iv d.et)) ∧ Hid (Fin Z w x y n w2))))) := p1.mono (by
    rintro e w1 ⟨rfl, k1, hc⟩
    obtain ⟨q1, q2, q3, q4, q5, q6, q7, q8, q9, q10, q11, q12, q13, q14⟩ := CC w1 k1
    exact ⟨rfl, ⟨q1, q12, q13⟩, hc.mono (by
      rintro e w2 ⟨rfl, k2, hfin⟩
      obtain ⟨r1, r2, r3, r4, r5, r6, r7, r8, r9, r10, r11, r12, r13, r14⟩ := CC w2 k2
      exact ⟨rfl, ⟨r1, r12, r13⟩, FIN w2 k2 hfin⟩)⟩)
  have H2 : Hid (Calls Try.prog 37 #[ptr y, iv a, .agg #[iv d.ef, iv d.et]] W0.drew (fun e w1 => e = .returned (iv ra) ∧ (w1.cell? ⟨w.heap.size, 1, none⟩ = some (iv a) ∧ w1.cell? ⟨w.heap.size, 12, none⟩ = some (iv d.ef) ∧ w1.cell? ⟨w.heap.size, 13, none⟩ = some (iv d.et)) ∧ Hid (Calls Try.prog 29 #[ptr x, iv a, .agg #[iv d.ef, iv d.et]] w1 (fun e w2 => e = .returned (iv ra) ∧ (w2.cell? ⟨w.heap.size, 1, none⟩ = some (iv a) ∧ w2.cell? ⟨w.heap.size, 12, none⟩ = some (iv d.ef) ∧ w2.cell? ⟨w.heap.size, 13, none⟩ = some (iv d.et)) ∧ Hid (Fin Z w x y n w2))))) := p2.mono (by
    rintro e w1 ⟨rfl, k1, hc⟩
    obtain ⟨q1, q2, q3, q4, q5, q6, q7, q8, q9, q10, q11, q12, q13, q14⟩ := CC w1 k1
    exact ⟨rfl, ⟨q1, q12, q13⟩, hc.mono (by
      rintro e w2 ⟨rfl, k2, hfin⟩
      obtain ⟨r1, r2, r3, r4, r5, r6, r7, r8, r9, r10, r11, r12, r13, r14⟩ := CC w2 k2
      exact ⟨rfl, ⟨r1, r12, r13⟩, FIN w2 k2 hfin⟩)⟩)
  obtain ⟨e1, e2, e3, e4, e5, e6, e7, e8, e9, e10, e11, e12, e13, e14⟩ := CC W0 (Keep.refl _ _)
  clear p1 p2 hd CC FIN t0 hR hn hn2  ha'
  go_enter Try.func12, Try.ntmps12
  go_upto_region 1 with fail
  rw [HW0.out]
  clear HW0
  go_upto_region 17 with fail
  go_region_held3 (fun w' => w'.cell? ⟨w.heap.size, 1, none⟩ = some (iv a) ∧ w'.cell? ⟨w.heap.size, 12, none⟩ = some (iv d.ef) ∧ w'.cell? ⟨w.heap.size, 13, none⟩ = some (iv d.et)) (first | exact ⟨f1, f12, f13⟩ | exact ⟨c1, c12, c13⟩ | exact ⟨e1, e12, e13⟩) (first
    | (go_at_call 29; refine Calls.mono H1.out ?_; rintro e w1 ⟨rfl, ⟨c1, c12, c13⟩, HC⟩)
    | (go_at_call 37; refine Calls.mono H2.out ?_; rintro e w1 ⟨rfl, ⟨c1, c12, c13⟩, HC⟩)
    | (go_at_call 37; refine Calls.mono HC.out ?_; rintro e w2 ⟨rfl, ⟨f1, f12, f13⟩, HF⟩)
    | (go_at_call 29; refine Calls.mono HC.out ?_; rintro e w2 ⟨rfl, ⟨f1, f12, f13⟩, HF⟩))
  all_goals
    go_wp2_with fail
    go_ret
    exact ⟨rfl, HF.out⟩
end Go.Proofs.Ytcdaghlbfclpkaa
