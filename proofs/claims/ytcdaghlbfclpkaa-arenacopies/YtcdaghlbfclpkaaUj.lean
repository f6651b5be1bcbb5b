/- Do, any deed, on two arenas that need not be alike: it answers, and each stays as one may be. -/
import Derived.Test.YtcdaghlbfclpkaaHc
import Derived.Shelf.Abstract
import Derived.Deep.RegionHeld3
import Derived.Test.YtcdaghlbfclpkaaAt
namespace Go.Proofs.Ytcdaghlbfclpkaa
open Go.RowKit

set_option maxHeartbeats 4000000 in
set_option maxRecDepth 20000 in
theorem du_0 {Z : Nat → Prop} {w : World} {x y : Nat} {N : List Nd} {P : List Sp} {E : List En} {L : List RN} (t : Two Z w x y N P E L) {m : Nat} (hU : RelU m N P E L) (hm : m ≤ 800000000) (a b c : Int) (d : Nd) (ao : Option Addr) (ac : Nat) (ko : Option Addr) (kn kc : Nat) (ha : ∀ w', Keep Z w w' → Ats w' (.slice ao d.al.length ac) d.al) (hf : d.al.length ≤ 1000000000) :
    Calls Try.prog 12 #[ptr x, ptr y, .agg #[iv 0, iv a, iv b, iv c, iv d.id, iv d.kind, iv d.space, .string d.name, .string d.text, .slice ao d.al.length ac, iv d.sf, iv d.st, iv d.ef, iv d.et, .slice ko kn kc]] w (fun e w' => (∃ r, e = .returned (iv r)) ∧ FinU Z w x y m w') := by
  obtain ⟨L1, N2, P2, E2, hR, hL1, hS, hL2⟩ := hU
  have b0 : Below w.heap.size w (w.alloc (.cells #[iv 0, iv a, iv b, iv c, iv d.id, iv d.kind, iv d.space, .string d.name, .string d.text, .slice ao d.al.length ac, iv d.sf, iv d.st, iv d.ef, iv d.et, .slice ko kn kc] 37)) := (Below.refl _ _).alloc (Nat.le_refl _) _
  have n0 : (w.alloc (.cells #[iv 0, iv a, iv b, iv c, iv d.id, iv d.kind, iv d.space, .string d.name, .string d.text, .slice ao d.al.length ac, iv d.sf, iv d.st, iv d.ef, iv d.et, .slice ko kn kc] 37)).heap[w.heap.size]? = some (.cells #[iv 0, iv a, iv b, iv c, iv d.id, iv d.kind, iv d.space, .string d.name, .string d.text, .slice ao d.al.length ac, iv d.sf, iv d.st, iv d.ef, iv d.et, .slice ko kn kc] 37 (0, 0)) := heap_alloc_new w _
  obtain ⟨W0, hW0⟩ : ∃ W0, w.alloc (.cells #[iv 0, iv a, iv b, iv c, iv d.id, iv d.kind, iv d.space, .string d.name, .string d.text, .slice ao d.al.length ac, iv d.sf, iv d.st, iv d.ef, iv d.et, .slice ko kn kc] 37) = W0 := ⟨_, rfl⟩
  have HW0 : Hid (w.alloc (.cells #[iv 0, iv a, iv b, iv c, iv d.id, iv d.kind, iv d.space, .string d.name, .string d.text, .slice ao d.al.length ac, iv d.sf, iv d.st, iv d.ef, iv d.et, .slice ko kn kc] 37) = W0) := hW0
  rw [hW0] at b0 n0
  clear hW0
  have hlt := (Array.getElem?_eq_some_iff.1 n0).1
  have t0 := t.wide b0
  have ha' : ∀ w', Keep (Wide Z w W0) W0 w' → Ats w' (.slice ao d.al.length ac) d.al := fun w' kk => ha w' ((Keep.old b0).trans (kk.sub fun i hi => .inl hi))
  have CC : ∀ w1, Keep (Wide Z w W0) W0 w1 → w1.cell? ⟨w.heap.size, 1, none⟩ = some (iv a) ∧ w1.cell? ⟨w.heap.size, 2, none⟩ = some (iv b) ∧ w1.cell? ⟨w.heap.size, 3, none⟩ = some (iv c) ∧ w1.cell? ⟨w.heap.size, 4, none⟩ = some (iv d.id) ∧ w1.cell? ⟨w.heap.size, 5, none⟩ = some (iv d.kind) ∧ w1.cell? ⟨w.heap.size, 6, none⟩ = some (iv d.space) ∧ w1.cell? ⟨w.heap.size, 7, none⟩ = some (.string d.name) ∧ w1.cell? ⟨w.heap.size, 8, none⟩ = some (.string d.text) ∧ w1.cell? ⟨w.heap.size, 9, none⟩ = some (.slice ao d.al.length ac) ∧ w1.cell? ⟨w.heap.size, 10, none⟩ = some (iv d.sf) ∧ w1.cell? ⟨w.heap.size, 11, none⟩ = some (iv d.st) ∧ w1.cell? ⟨w.heap.size, 12, none⟩ = some (iv d.ef) ∧ w1.cell? ⟨w.heap.size, 13, none⟩ = some (iv d.et) ∧ w1.cell? ⟨w.heap.size, 14, none⟩ = some (.slice ko kn kc) := fun w1 kk => by
    have e := (kk.block w.heap.size (.inr ⟨Nat.le_refl _, hlt⟩) hlt).trans n0
    refine ⟨?_, ?_, ?_, ?_, ?_, ?_, ?_, ?_, ?_, ?_, ?_, ?_, ?_, ?_⟩ <;> simp [World.cell?, e]
  have FIN : ∀ w2, Keep (Wide Z w W0) W0 w2 → (∃ N' P' E' L', RelU (m + 1) N' P' E' L' ∧ Two (Wide Z w W0) w2 x y N' P' E' L') → Hid (FinU Z w x y m w2) := fun w2 kk ⟨N', P', E', L', r1, r3⟩ =>
    ⟨(Keep.old b0).trans (kk.sub fun i hi => .inl hi), N', P', E', L', r1, r3.sub fun i hi => .inl hi⟩
  have e0 : W0.cell? ⟨w.heap.size, 0, none⟩ = some (iv 0) := by simp [World.cell?, n0]
  clear t ha n0
  obtain ⟨n, hn, hn2⟩ : ∃ n, L1.length = n ∧ n ≤ 900000000 := ⟨_, rfl, by omega⟩
  obtain ⟨n', hn', hn2'⟩ : ∃ n, L.length = n ∧ n ≤ 900000000 := ⟨_, rfl, by omega⟩
  obtain ⟨ra, hd⟩ := show ∃ v : Int, Deal (Wide Z w W0) W0 x y N P E L1 23 #[ptr x, .agg #[iv d.id, iv d.kind, iv d.space, .string d.name, .string d.text, .slice ao d.al.length ac, iv d.sf, iv d.st, iv d.ef, iv d.et, .slice ko kn kc]] 32 #[ptr y, .agg #[iv d.id, iv d.kind, iv d.space, .string d.name, .string d.text, .slice ao d.al.length ac, iv d.sf, iv d.st, iv d.ef, iv d.et, .slice ko kn kc]] (iv v) from deal_make hR hn hn2 d ha' hf ko kn kc
  obtain ⟨rb, hd2⟩ := show ∃ v : Int, Deal (Wide Z w W0) W0 x y N2 P2 E2 L 23 #[ptr x, .agg #[iv d.id, iv d.kind, iv d.space, .string d.name, .string d.text, .slice ao d.al.length ac, iv d.sf, iv d.st, iv d.ef, iv d.et, .slice ko kn kc]] 32 #[ptr y, .agg #[iv d.id, iv d.kind, iv d.space, .string d.name, .string d.text, .slice ao d.al.length ac, iv d.sf, iv d.st, iv d.ef, iv d.et, .slice ko kn kc]] (iv v) from deal_make hS hn' hn2' d ha' hf ko kn kc
  obtain ⟨p1, p2⟩ := hd.both2 hd2 hL1 hL2 t0
  have H1 : Hid (Calls Try.prog 23 #[ptr x, .agg #[iv d.id, iv d.kind, iv d.space, .string d.name, .string d.text, .slice ao d.al.length ac, iv d.sf, iv d.st, iv d.ef, iv d.et, .slice ko kn kc]] W0.drew (fun e w1 => e = .returned (iv ra) ∧ (w1.cell? ⟨w.heap.size, 4, none⟩ = some (iv d.id) ∧ w1.cell? ⟨w.heap.size, 5, none⟩ = some (iv d.kind) ∧ w1.cell? ⟨w.heap.size, 6, none⟩ = some (iv d.space) ∧ w1.cell? ⟨w.heap.size, 7, none⟩ = some (.string d.name) ∧ w1.cell? ⟨w.heap.size, 8, none⟩ = some (.string d.text) ∧ w1.cell? ⟨w.heap.size, 9, none⟩ = some (.slice ao d.al.length ac) ∧ w1.cell? ⟨w.heap.size, 10, none⟩ = some (iv d.sf) ∧ w1.cell? ⟨w.heap.size, 11, none⟩ = some (iv d.st) ∧ w1.cell? ⟨w.heap.size, 12, none⟩ = some (iv d.ef) ∧ w1.cell? ⟨w.heap.size, 13, none⟩ = some (iv d.et) ∧ w1.cell? ⟨w.heap.size, 14, none⟩ = some (.slice ko kn kc)) ∧ Hid (Calls Try.prog 32 #[ptr y, .agg #[iv d.id, iv d.kind, iv d.space, .string d.name, .string d.text, .slice ao d.al.length ac, iv d.sf, iv d.st, iv d.ef, iv d.et, .slice ko kn kc]] w1 (fun e w2 => e = .returned (iv rb) ∧ (w2.cell? ⟨w.heap.size, 4, none⟩ = some (iv d.id) ∧ w2.cell? ⟨w.heap.size, 5, none⟩ = some (iv d.kind) ∧ w2.cell? ⟨w.heap.size, 6, none⟩ = some (iv d.space) ∧ w2.cell? ⟨w.heap.size, 7, none⟩ = some (.string d.name) ∧ w2.cell? ⟨w.heap.size, 8, none⟩ = some (.string d.text) ∧ w2.cell? ⟨w.heap.size, 9, none⟩ = some (.slice ao d.al.length ac) ∧ w2.cell? ⟨w.heap.size, 10, none⟩ = some (iv d.sf) ∧ w2.cell? ⟨w.heap.size, 11, none⟩ = some (iv d.st) ∧ w2.cell? ⟨w.heap.size, 12, none⟩ = some (iv d.ef) ∧ w2.cell? ⟨w.heap.size, 13, none⟩ = some (iv d.et) ∧ w2.cell? ⟨w.heap.size, 14, none⟩ = some (.slice ko kn kc)) ∧ Hid (FinU Z w x y m w2))))) := p1.mono (by
    rintro e w1 ⟨rfl, k1, hc⟩
    obtain ⟨q1, q2, q3, q4, q5, q6, q7, q8, q9, q10, q11, q12, q13, q14⟩ := CC w1 k1
    exact ⟨rfl, ⟨q4, q5, q6, q7, q8, q9, q10, q11, q12, q13, q14⟩, hc.mono (by
      rintro e w2 ⟨rfl, k2, hfin⟩
      obtain ⟨r1, r2, r3, r4, r5, r6, r7, r8, r9, r10, r11, r12, r13, r14⟩ := CC w2 k2
      exact ⟨rfl, ⟨r4, r5, r6, r7, r8, r9, r10, r11, r12, r13, r14⟩, FIN w2 k2 hfin⟩)⟩)
  have H2 : Hid (Calls Try.prog 32 #[ptr y, .agg #[iv d.id, iv d.kind, iv d.space, .string d.name, .string d.text, .slice ao d.al.length ac, iv d.sf, iv d.st, iv d.ef, iv d.et, .slice ko kn kc]] W0.drew (fun e w1 => e = .returned (iv rb) ∧ (w1.cell? ⟨w.heap.size, 4, none⟩ = some (iv d.id) ∧ w1.cell? ⟨w.heap.size, 5, none⟩ = some (iv d.kind) ∧ w1.cell? ⟨w.heap.size, 6, none⟩ = some (iv d.space) ∧ w1.cell? ⟨w.heap.size, 7, none⟩ = some (.string d.name) ∧ w1.cell? ⟨w.heap.size, 8, none⟩ = some (.string d.text) ∧ w1.cell? ⟨w.heap.size, 9, none⟩ = some (.slice ao d.al.length ac) ∧ w1.cell? ⟨w.heap.size, 10, none⟩ = some (iv d.sf) ∧ w1.cell? ⟨w.heap.size, 11, none⟩ = some (iv d.st) ∧ w1.cell? ⟨w.heap.size, 12, none⟩ = some (iv d.ef) ∧ w1.cell? ⟨w.heap.size, 13, none⟩ = some (iv d.et) ∧ w1.cell? ⟨w.heap.size, 14, none⟩ = some (.slice ko kn kc)) ∧ Hid (Calls Try.prog 23 #[ptr x, .agg #[iv d.id, iv d.kind, iv d.space, .string d.name, .string d.text, .slice ao d.al.length ac, iv d.sf, iv d.st, iv d.ef, iv d.et, .slice ko kn kc]] w1 (fun e w2 => e = .returned (iv ra) ∧ (w2.cell? ⟨w.heap.size, 4, none⟩ = some (iv d.id) ∧ w2.cell? ⟨w.heap.size, 5, none⟩ = some (iv d.kind) ∧ w2.cell? ⟨w.heap.size, 6, none⟩ = some (iv d.space) ∧ w2.cell? ⟨w.heap.size, 7, none⟩ = some (.string d.name) ∧ w2.cell? ⟨w.heap.size, 8, none⟩ = some (.string d.text) ∧ w2.cell? ⟨w.heap.size, 9, none⟩ = some (.slice ao d.al.length ac) ∧ w2.cell? ⟨w.heap.size, 10, none⟩ = some (iv d.sf) ∧ w2.cell? ⟨w.heap.size, 11, none⟩ = some (iv d.st) ∧ w2.cell? ⟨w.heap.size, 12, none⟩ = some (iv d.ef) ∧ w2.cell? ⟨w.heap.size, 13, none⟩ = some (iv d.et) ∧ w2.cell? ⟨w.heap.size, 14, none⟩ = some (.slice ko kn kc)) ∧ Hid (FinU Z w x y m w2))))) := p2.mono (by
    rintro e w1 ⟨rfl, k1, hc⟩
    obtain ⟨q1, q2, q3, q4, q5, q6, q7, q8, q9, q10, q11, q12, q13, q14⟩ := CC w1 k1
    exact ⟨rfl, ⟨q4, q5, q6, q7, q8, q9, q10, q11, q12, q13, q14⟩, hc.mono (by
      rintro e w2 ⟨rfl, k2, hfin⟩
      obtain ⟨r1, r2, r3, r4, r5, r6, r7, r8, r9, r10, r11, r12, r13, r14⟩ := CC w2 k2
      exact ⟨rfl, ⟨r4, r5, r6, r7, r8, r9, r10, r11, r12, r13, r14⟩, FIN w2 k2 hfin⟩)⟩)
  obtain ⟨e1, e2, e3, e4, e5, e6, e7, e8, e9, e10, e11, e12, e13, e14⟩ := CC W0 (Keep.refl _ _)
  have hab : (ra == rb) = true ∨ (ra == rb) = false := by cases (ra == rb) <;> simp
  clear p1 p2 hd hd2 CC FIN t0 hR hS hn hn2 hn' hn2' hL1 hL2 hm hf ha'
  go_enter Try.func12, Try.ntmps12
  go_upto_region 1 with fail
  rw [HW0.out]
  clear HW0
  go_upto_region 7 with fail
  go_region_held3 (fun w' => w'.cell? ⟨w.heap.size, 4, none⟩ = some (iv d.id) ∧ w'.cell? ⟨w.heap.size, 5, none⟩ = some (iv d.kind) ∧ w'.cell? ⟨w.heap.size, 6, none⟩ = some (iv d.space) ∧ w'.cell? ⟨w.heap.size, 7, none⟩ = some (.string d.name) ∧ w'.cell? ⟨w.heap.size, 8, none⟩ = some (.string d.text) ∧ w'.cell? ⟨w.heap.size, 9, none⟩ = some (.slice ao d.al.length ac) ∧ w'.cell? ⟨w.heap.size, 10, none⟩ = some (iv d.sf) ∧ w'.cell? ⟨w.heap.size, 11, none⟩ = some (iv d.st) ∧ w'.cell? ⟨w.heap.size, 12, none⟩ = some (iv d.ef) ∧ w'.cell? ⟨w.heap.size, 13, none⟩ = some (iv d.et) ∧ w'.cell? ⟨w.heap.size, 14, none⟩ = some (.slice ko kn kc)) (first | exact ⟨f4, f5, f6, f7, f8, f9, f10, f11, f12, f13, f14⟩ | exact ⟨c4, c5, c6, c7, c8, c9, c10, c11, c12, c13, c14⟩ | exact ⟨e4, e5, e6, e7, e8, e9, e10, e11, e12, e13, e14⟩) (first
    | (go_at_call 23; refine Calls.mono H1.out ?_; rintro e w1 ⟨rfl, ⟨c4, c5, c6, c7, c8, c9, c10, c11, c12, c13, c14⟩, HC⟩)
    | (go_at_call 32; refine Calls.mono H2.out ?_; rintro e w1 ⟨rfl, ⟨c4, c5, c6, c7, c8, c9, c10, c11, c12, c13, c14⟩, HC⟩)
    | (go_at_call 32; refine Calls.mono HC.out ?_; rintro e w2 ⟨rfl, ⟨f4, f5, f6, f7, f8, f9, f10, f11, f12, f13, f14⟩, HF⟩)
    | (go_at_call 23; refine Calls.mono HC.out ?_; rintro e w2 ⟨rfl, ⟨f4, f5, f6, f7, f8, f9, f10, f11, f12, f13, f14⟩, HF⟩))
  all_goals
    rcases hab with hab | hab <;>
    · go_wp2_with fail
      go_ret
      exact ⟨⟨_, rfl⟩, HF.out⟩
end Go.Proofs.Ytcdaghlbfclpkaa
namespace Go.Proofs.Ytcdaghlbfclpkaa
open Go.RowKit

set_option maxHeartbeats 4000000 in
set_option maxRecDepth 20000 in
theorem du_1 {Z : Nat → Prop} {w : World} {x y : Nat} {N : List Nd} {P : List Sp} {E : List En} {L : List RN} (t : Two Z w x y N P E L) {m : Nat} (hU : RelU m N P E L) (hm : m ≤ 800000000) (a b c : Int) (d : Nd) (ao : Option Addr) (ac : Nat) (ko : Option Addr) (kn kc : Nat) (ha : ∀ w', Keep Z w w' → Ats w' (.slice ao d.al.length ac) d.al) (_hf : d.al.length ≤ 1000000000) :
    Calls Try.prog 12 #[ptr x, ptr y, .agg #[iv 1, iv a, iv b, iv c, iv d.id, iv d.kind, iv d.space, .string d.name, .string d.text, .slice ao d.al.length ac, iv d.sf, iv d.st, iv d.ef, iv d.et, .slice ko kn kc]] w (fun e w' => (∃ r, e = .returned (iv r)) ∧ FinU Z w x y m w') := by
  obtain ⟨L1, N2, P2, E2, hR, hL1, hS, hL2⟩ := hU
  have b0 : Below w.heap.size w (w.alloc (.cells #[iv 1, iv a, iv b, iv c, iv d.id, iv d.kind, iv d.space, .string d.name, .string d.text, .slice ao d.al.length ac, iv d.sf, iv d.st, iv d.ef, iv d.et, .slice ko kn kc] 37)) := (Below.refl _ _).alloc (Nat.le_refl _) _
  have n0 : (w.alloc (.cells #[iv 1, iv a, iv b, iv c, iv d.id, iv d.kind, iv d.space, .string d.name, .string d.text, .slice ao d.al.length ac, iv d.sf, iv d.st, iv d.ef, iv d.et, .slice ko kn kc] 37)).heap[w.heap.size]? = some (.cells #[iv 1, iv a, iv b, iv c, iv d.id, iv d.kind, iv d.space, .string d.name, .string d.text, .slice ao d.al.length ac, iv d.sf, iv d.st, iv d.ef, iv d.et, .slice ko kn kc] 37 (0, 0)) := heap_alloc_new w _
  obtain ⟨W0, hW0⟩ : ∃ W0, w.alloc (.cells #[iv 1, iv a, iv b, iv c, iv d.id, iv d.kind, iv d.space, .string d.name, .string d.text, .slice ao d.al.length ac, iv d.sf, iv d.st, iv d.ef, iv d.et, .slice ko kn kc] 37) = W0 := ⟨_, rfl⟩
  have HW0 : Hid (w.alloc (.cells #[iv 1, iv a, iv b, iv c, iv d.id, iv d.kind, iv d.space, .string d.name, .string d.text, .slice ao d.al.length ac, iv d.sf, iv d.st, iv d.ef, iv d.et, .slice ko kn kc] 37) = W0) := hW0
  rw [hW0] at b0 n0
  clear hW0
  have hlt := (Array.getElem?_eq_some_iff.1 n0).1
  have t0 := t.wide b0
  have ha' : ∀ w', Keep (Wide Z w W0) W0 w' → Ats w' (.slice ao d.al.length ac) d.al := fun w' kk => ha w' ((Keep.old b0).trans (kk.sub fun i hi => .inl hi))
  have CC : ∀ w1, Keep (Wide Z w W0) W0 w1 → w1.cell? ⟨w.heap.size, 1, none⟩ = some (iv a) ∧ w1.cell? ⟨w.heap.size, 2, none⟩ = some (iv b) ∧ w1.cell? ⟨w.heap.size, 3, none⟩ = some (iv c) ∧ w1.cell? ⟨w.heap.size, 4, none⟩ = some (iv d.id) ∧ w1.cell? ⟨w.heap.size, 5, none⟩ = some (iv d.kind) ∧ w1.cell? ⟨w.heap.size, 6, none⟩ = some (iv d.space) ∧ w1.cell? ⟨w.heap.size, 7, none⟩ = some (.string d.name) ∧ w1.cell? ⟨w.heap.size, 8, none⟩ = some (.string d.text) ∧ w1.cell? ⟨w.heap.size, 9, none⟩ = some (.slice ao d.al.length ac) ∧ w1.cell? ⟨w.heap.size, 10, none⟩ = some (iv d.sf) ∧ w1.cell? ⟨w.heap.size, 11, none⟩ = some (iv d.st) ∧ w1.cell? ⟨w.heap.size, 12, none⟩ = some (iv d.ef) ∧ w1.cell? ⟨w.heap.size, 13, none⟩ = some (iv d.et) ∧ w1.cell? ⟨w.heap.size, 14, none⟩ = some (.slice ko kn kc) := fun w1 kk => by
    have e := (kk.block w.heap.size (.inr ⟨Nat.le_refl _, hlt⟩) hlt).trans n0
    refine ⟨?_, ?_, ?_, ?_, ?_, ?_, ?_, ?_, ?_, ?_, ?_, ?_, ?_, ?_⟩ <;> simp [World.cell?, e]
  have FIN : ∀ w2, Keep (Wide Z w W0) W0 w2 → (∃ N' P' E' L', RelU (m + 1) N' P' E' L' ∧ Two (Wide Z w W0) w2 x y N' P' E' L') → Hid (FinU Z w x y m w2) := fun w2 kk ⟨N', P', E', L', r1, r3⟩ =>
    ⟨(Keep.old b0).trans (kk.sub fun i hi => .inl hi), N', P', E', L', r1, r3.sub fun i hi => .inl hi⟩
  have e0 : W0.cell? ⟨w.heap.size, 0, none⟩ = some (iv 1) := by simp [World.cell?, n0]
  clear t ha n0
  obtain ⟨n, hn, hn2⟩ : ∃ n, L1.length = n ∧ n ≤ 900000000 := ⟨_, rfl, by omega⟩
  obtain ⟨n', hn', hn2'⟩ : ∃ n, L.length = n ∧ n ≤ 900000000 := ⟨_, rfl, by omega⟩
  obtain ⟨ra, hd⟩ := show ∃ v : Int, Deal (Wide Z w W0) W0 x y N P E L1 24 #[ptr x, iv a, iv b, iv c] 33 #[ptr y, iv a, iv b, iv c] (iv v) from deal_ins hR hn hn2 a b c
  obtain ⟨rb, hd2⟩ := show ∃ v : Int, Deal (Wide Z w W0) W0 x y N2 P2 E2 L 24 #[ptr x, iv a, iv b, iv c] 33 #[ptr y, iv a, iv b, iv c] (iv v) from deal_ins hS hn' hn2' a b c
  obtain ⟨p1, p2⟩ := hd.both2 hd2 hL1 hL2 t0
  have H1 : Hid (Calls Try.prog 24 #[ptr x, iv a, iv b, iv c] W0.drew (fun e w1 => e = .returned (iv ra) ∧ (w1.cell? ⟨w.heap.size, 1, none⟩ = some (iv a) ∧ w1.cell? ⟨w.heap.size, 2, none⟩ = some (iv b) ∧ w1.cell? ⟨w.heap.size, 3, none⟩ = some (iv c)) ∧ Hid (Calls Try.prog 33 #[ptr y, iv a, iv b, iv c] w1 (fun e w2 => e = .returned (iv rb) ∧ (w2.cell? ⟨w.heap.size, 1, none⟩ = some (iv a) ∧ w2.cell? ⟨w.heap.size, 2, none⟩ = some (iv b) ∧ w2.cell? ⟨w.heap.size, 3, none⟩ = some (iv c)) ∧ Hid (FinU Z w x y m w2))))) := p1.mono (by
    rintro e w1 ⟨rfl, k1, hc⟩
    obtain ⟨q1, q2, q3, q4, q5, q6, q7, q8, q9, q10, q11, q12, q13, q14⟩ := CC w1 k1
    exact ⟨rfl, ⟨q1, q2, q3⟩, hc.mono (by
      rintro e w2 ⟨rfl, k2, hfin⟩
      obtain ⟨r1, r2, r3, r4, r5, r6, r7, r8, r9, r10, r11, r12, r13, r14⟩ := CC w2 k2
      exact ⟨rfl, ⟨r1, r2, r3⟩, FIN w2 k2 hfin⟩)⟩)
  have H2 : Hid (Calls Try.prog 33 #[ptr y, iv a, iv b, iv c] W0.drew (fun e w1 => e = .returned (iv rb) ∧ (w1.cell? ⟨w.heap.size, 1, none⟩ = some (iv a) ∧ w1.cell? ⟨w.heap.size, 2, none⟩ = some (iv b) ∧ w1.cell? ⟨w.heap.size, 3, none⟩ = some (iv c)) ∧ Hid (Calls Try.prog 24 #[ptr x, iv a, iv b, iv c] w1 (fun e w2 => e = .returned (iv ra) ∧ (w2.cell? ⟨w.heap.size, 1, none⟩ = some (iv a) ∧ w2.cell? ⟨w.heap.size, 2, none⟩ = some (iv b) ∧ w2.cell? ⟨w.heap.size, 3, none⟩ = some (iv c)) ∧ Hid (FinU Z w x y m w2))))) := p2.mono (by
    rintro e w1 ⟨rfl, k1, hc⟩
    obtain ⟨q1, q2, q3, q4, q5, q6, q7, q8, q9, q10, q11, q12, q13, q14⟩ := CC w1 k1
    exact ⟨rfl, ⟨q1, q2, q3⟩, hc.mono (by
      rintro e w2 ⟨rfl, k2, hfin⟩
      obtain ⟨r1, r2, r3, r4, r5, r6, r7, r8, r9, r10, r11, r12, r13, r14⟩ := CC w2 k2
      exact ⟨rfl, ⟨r1, r2, r3⟩, FIN w2 k2 hfin⟩)⟩)
  obtain ⟨e1, e2, e3, e4, e5, e6, e7, e8, e9, e10, e11, e12, e13, e14⟩ := CC W0 (Keep.refl _ _)
  have hab : (ra == rb) = true ∨ (ra == rb) = false := by cases (ra == rb) <;> simp
  clear p1 p2 hd hd2 CC FIN t0 hR hS hn hn2 hn' hn2' hL1 hL2 hm  ha'
  go_enter Try.func12, Try.ntmps12
  go_upto_region 1 with fail
  rw [HW0.out]
  clear HW0
  go_upto_region 9 with fail
  go_region_held3 (fun w' => w'.cell? ⟨w.heap.size, 1, none⟩ = some (iv a) ∧ w'.cell? ⟨w.heap.size, 2, none⟩ = some (iv b) ∧ w'.cell? ⟨w.heap.size, 3, none⟩ = some (iv c)) (first | exact ⟨f1, f2, f3⟩ | exact ⟨c1, c2, c3⟩ | exact ⟨e1, e2, e3⟩) (first
    | (go_at_call 24; refine Calls.mono H1.out ?_; rintro e w1 ⟨rfl, ⟨c1, c2, c3⟩, HC⟩)
    | (go_at_call 33; refine Calls.mono H2.out ?_; rintro e w1 ⟨rfl, ⟨c1, c2, c3⟩, HC⟩)
    | (go_at_call 33; refine Calls.mono HC.out ?_; rintro e w2 ⟨rfl, ⟨f1, f2, f3⟩, HF⟩)
    | (go_at_call 24; refine Calls.mono HC.out ?_; rintro e w2 ⟨rfl, ⟨f1, f2, f3⟩, HF⟩))
  all_goals
    rcases hab with hab | hab <;>
    · go_wp2_with fail
      go_ret
      exact ⟨⟨_, rfl⟩, HF.out⟩
end Go.Proofs.Ytcdaghlbfclpkaa
namespace Go.Proofs.Ytcdaghlbfclpkaa
open Go.RowKit

set_option maxHeartbeats 4000000 in
set_option maxRecDepth 20000 in
theorem du_2 {Z : Nat → Prop} {w : World} {x y : Nat} {N : List Nd} {P : List Sp} {E : List En} {L : List RN} (t : Two Z w x y N P E L) {m : Nat} (hU : RelU m N P E L) (hm : m ≤ 800000000) (a b c : Int) (d : Nd) (ao : Option Addr) (ac : Nat) (ko : Option Addr) (kn kc : Nat) (ha : ∀ w', Keep Z w w' → Ats w' (.slice ao d.al.length ac) d.al) (_hf : d.al.length ≤ 1000000000) :
    Calls Try.prog 12 #[ptr x, ptr y, .agg #[iv 2, iv a, iv b, iv c, iv d.id, iv d.kind, iv d.space, .string d.name, .string d.text, .slice ao d.al.length ac, iv d.sf, iv d.st, iv d.ef, iv d.et, .slice ko kn kc]] w (fun e w' => (∃ r, e = .returned (iv r)) ∧ FinU Z w x y m w') := by
  obtain ⟨L1, N2, P2, E2, hR, hL1, hS, hL2⟩ := hU
  have b0 : Below w.heap.size w (w.alloc (.cells #[iv 2, iv a, iv b, iv c, iv d.id, iv d.kind, iv d.space, .string d.name, .string d.text, .slice ao d.al.length ac, iv d.sf, iv d.st, iv d.ef, iv d.et, .slice ko kn kc] 37)) := (Below.refl _ _).alloc (Nat.le_refl _) _
  have n0 : (w.alloc (.cells #[iv 2, iv a, iv b, iv c, iv d.id, iv d.kind, iv d.space, .string d.name, .string d.text, .slice ao d.al.length ac, iv d.sf, iv d.st, iv d.ef, iv d.et, .slice ko kn kc] 37)).heap[w.heap.size]? = some (.cells #[iv 2, iv a, iv b, iv c, iv d.id, iv d.kind, iv d.space, .string d.name, .string d.text, .slice ao d.al.length ac, iv d.sf, iv d.st, iv d.ef, iv d.et, .slice ko kn kc] 37 (0, 0)) := heap_alloc_new w _
  obtain ⟨W0, hW0⟩ : ∃ W0, w.alloc (.cells #[iv 2, iv a, iv b, iv c, iv d.id, iv d.kind, iv d.space, .string d.name, .string d.text, .slice ao d.al.length ac, iv d.sf, iv d.st, iv d.ef, iv d.et, .slice ko kn kc] 37) = W0 := ⟨_, rfl⟩
  have HW0 : Hid (w.alloc (.cells #[iv 2, iv a, iv b, iv c, iv d.id, iv d.kind, iv d.space, .string d.name, .string d.text, .slice ao d.al.length ac, iv d.sf, iv d.st, iv d.ef, iv d.et, .slice ko kn kc] 37) = W0) := hW0
  rw [hW0] at b0 n0
  clear hW0
  have hlt := (Array.getElem?_eq_some_iff.1 n0).1
  have t0 := t.wide b0
  have ha' : ∀ w', Keep (Wide Z w W0) W0 w' → Ats w' (.slice ao d.al.length ac) d.al := fun w' kk => ha w' ((Keep.old b0).trans (kk.sub fun i hi => .inl hi))
  have CC : ∀ w1, Keep (Wide Z w W0) W0 w1 → w1.cell? ⟨w.heap.size, 1, none⟩ = some (iv a) ∧ w1.cell? ⟨w.heap.size, 2, none⟩ = some (iv b) ∧ w1.cell? ⟨w.heap.size, 3, none⟩ = some (iv c) ∧ w1.cell? ⟨w.heap.size, 4, none⟩ = some (iv d.id) ∧ w1.cell? ⟨w.heap.size, 5, none⟩ = some (iv d.kind) ∧ w1.cell? ⟨w.heap.size, 6, none⟩ = some (iv d.space) ∧ w1.cell? ⟨w.heap.size, 7, none⟩ = some (.string d.name) ∧ w1.cell? ⟨w.heap.size, 8, none⟩ = some (.string d.text) ∧ w1.cell? ⟨w.heap.size, 9, none⟩ = some (.slice ao d.al.length ac) ∧ w1.cell? ⟨w.heap.size, 10, none⟩ = some (iv d.sf) ∧ w1.cell? ⟨w.heap.size, 11, none⟩ = some (iv d.st) ∧ w1.cell? ⟨w.heap.size, 12, none⟩ = some (iv d.ef) ∧ w1.cell? ⟨w.heap.size, 13, none⟩ = some (iv d.et) ∧ w1.cell? ⟨w.heap.size, 14, none⟩ = some (.slice ko kn kc) := fun w1 kk => by
    have e := (kk.block w.heap.size (.inr ⟨Nat.le_refl _, hlt⟩) hlt).trans n0
    refine ⟨?_, ?_, ?_, ?_, ?_, ?_, ?_, ?_, ?_, ?_, ?_, ?_, ?_, ?_⟩ <;> simp [World.cell?, e]
  have FIN : ∀ w2, Keep (Wide Z w W0) W0 w2 → (∃ N' P' E' L', RelU (m + 1) N' P' E' L' ∧ Two (Wide Z w W0) w2 x y N' P' E' L') → Hid (FinU Z w x y m w2) := fun w2 kk ⟨N', P', E', L', r1, r3⟩ =>
    ⟨(Keep.old b0).trans (kk.sub fun i hi => .inl hi), N', P', E', L', r1, r3.sub fun i hi => .inl hi⟩
  have e0 : W0.cell? ⟨w.heap.size, 0, none⟩ = some (iv 2) := by simp [World.cell?, n0]
  clear t ha n0
  obtain ⟨n, hn, hn2⟩ : ∃ n, L1.length = n ∧ n ≤ 900000000 := ⟨_, rfl, by omega⟩
  obtain ⟨n', hn', hn2'⟩ : ∃ n, L.length = n ∧ n ≤ 900000000 := ⟨_, rfl, by omega⟩
  obtain ⟨ra, hd⟩ := show ∃ v : Int, Deal (Wide Z w W0) W0 x y N P E L1 26 #[ptr x, iv a] 34 #[ptr y, iv a] (iv v) from deal_det hR hn hn2 a
  obtain ⟨rb, hd2⟩ := show ∃ v : Int, Deal (Wide Z w W0) W0 x y N2 P2 E2 L 26 #[ptr x, iv a] 34 #[ptr y, iv a] (iv v) from deal_det hS hn' hn2' a
  obtain ⟨p1, p2⟩ := hd.both2 hd2 hL1 hL2 t0
  have H1 : Hid (Calls Try.prog 26 #[ptr x, iv a] W0.drew (fun e w1 => e = .returned (iv ra) ∧ (w1.cell? ⟨w.heap.size, 1, none⟩ = some (iv a)) ∧ Hid (Calls Try.prog 34 #[ptr y, iv a] w1 (fun e w2 => e = .returned (iv rb) ∧ (w2.cell? ⟨w.heap.size, 1, none⟩ = some (iv a)) ∧ Hid (FinU Z w x y m w2))))) := p1.mono (by
    rintro e w1 ⟨rfl, k1, hc⟩
    obtain ⟨q1, q2, q3, q4, q5, q6, q7, q8, q9, q10, q11, q12, q13, q14⟩ := CC w1 k1
    exact ⟨rfl, q1, hc.mono (by
      rintro e w2 ⟨rfl, k2, hfin⟩
      obtain ⟨r1, r2, r3, r4, r5, r6, r7, r8, r9, r10, r11, r12, r13, r14⟩ := CC w2 k2
      exact ⟨rfl, r1, FIN w2 k2 hfin⟩)⟩)
  have H2 : Hid (Calls Try.prog 34 #[ptr y, iv a] W0.drew (fun e w1 => e = .returned (iv rb) ∧ (w1.cell? ⟨w.heap.size, 1, none⟩ = some (iv a)) ∧ Hid (Calls Try.prog 26 #[ptr x, iv a] w1 (fun e w2 => e = .returned (iv ra) ∧ (w2.cell? ⟨w.heap.size, 1, none⟩ = some (iv a)) ∧ Hid (FinU Z w x y m w2))))) := p2.mono (by
    rintro e w1 ⟨rfl, k1, hc⟩
    obtain ⟨q1, q2, q3, q4, q5, q6, q7, q8, q9, q10, q11, q12, q13, q14⟩ := CC w1 k1
    exact ⟨rfl, q1, hc.mono (by
      rintro e w2 ⟨rfl, k2, hfin⟩
      obtain ⟨r1, r2, r3, r4, r5, r6, r7, r8, r9, r10, r11, r12, r13, r14⟩ := CC w2 k2
      exact ⟨rfl, r1, FIN w2 k2 hfin⟩)⟩)
  obtain ⟨e1, e2, e3, e4, e5, e6, e7, e8, e9, e10, e11, e12, e13, e14⟩ := CC W0 (Keep.refl _ _)
  have hab : (ra == rb) = true ∨ (ra == rb) = false := by cases (ra == rb) <;> simp
  clear p1 p2 hd hd2 CC FIN t0 hR hS hn hn2 hn' hn2' hL1 hL2 hm  ha'
  go_enter Try.func12, Try.ntmps12
  go_upto_region 1 with fail
  rw [HW0.out]
  clear HW0
  go_upto_region 11 with fail
  go_region_held3 (fun w' => w'.cell? ⟨w.heap.size, 1, none⟩ = some (iv a)) (first | exact f1 | exact c1 | exact e1) (first
    | (go_at_call 26; refine Calls.mono H1.out ?_; rintro e w1 ⟨rfl, c1, HC⟩)
    | (go_at_call 34; refine Calls.mono H2.out ?_; rintro e w1 ⟨rfl, c1, HC⟩)
    | (go_at_call 34; refine Calls.mono HC.out ?_; rintro e w2 ⟨rfl, f1, HF⟩)
    | (go_at_call 26; refine Calls.mono HC.out ?_; rintro e w2 ⟨rfl, f1, HF⟩))
  all_goals
    rcases hab with hab | hab <;>
    · go_wp2_with fail
      go_ret
      exact ⟨⟨_, rfl⟩, HF.out⟩
end Go.Proofs.Ytcdaghlbfclpkaa
namespace Go.Proofs.Ytcdaghlbfclpkaa
open Go.RowKit

set_option maxHeartbeats 4000000 in
set_option maxRecDepth 20000 in
theorem du_3 {Z : Nat → Prop} {w : World} {x y : Nat} {N : List Nd} {P : List Sp} {E : List En} {L : List RN} (t : Two Z w x y N P E L) {m : Nat} (hU : RelU m N P E L) (hm : m ≤ 800000000) (a b c : Int) (d : Nd) (ao : Option Addr) (ac : Nat) (ko : Option Addr) (kn kc : Nat) (ha : ∀ w', Keep Z w w' → Ats w' (.slice ao d.al.length ac) d.al) (hf : d.al.length ≤ 1000000000) :
    Calls Try.prog 12 #[ptr x, ptr y, .agg #[iv 3, iv a, iv b, iv c, iv d.id, iv d.kind, iv d.space, .string d.name, .string d.text, .slice ao d.al.length ac, iv d.sf, iv d.st, iv d.ef, iv d.et, .slice ko kn kc]] w (fun e w' => (∃ r, e = .returned (iv r)) ∧ FinU Z w x y m w') := by
  obtain ⟨L1, N2, P2, E2, hR, hL1, hS, hL2⟩ := hU
  have b0 : Below w.heap.size w (w.alloc (.cells #[iv 3, iv a, iv b, iv c, iv d.id, iv d.kind, iv d.space, .string d.name, .string d.text, .slice ao d.al.length ac, iv d.sf, iv d.st, iv d.ef, iv d.et, .slice ko kn kc] 37)) := (Below.refl _ _).alloc (Nat.le_refl _) _
  have n0 : (w.alloc (.cells #[iv 3, iv a, iv b, iv c, iv d.id, iv d.kind, iv d.space, .string d.name, .string d.text, .slice ao d.al.length ac, iv d.sf, iv d.st, iv d.ef, iv d.et, .slice ko kn kc] 37)).heap[w.heap.size]? = some (.cells #[iv 3, iv a, iv b, iv c, iv d.id, iv d.kind, iv d.space, .string d.name, .string d.text, .slice ao d.al.length ac, iv d.sf, iv d.st, iv d.ef, iv d.et, .slice ko kn kc] 37 (0, 0)) := heap_alloc_new w _
  obtain ⟨W0, hW0⟩ : ∃ W0, w.alloc (.cells #[iv 3, iv a, iv b, iv c, iv d.id, iv d.kind, iv d.space, .string d.name, .string d.text, .slice ao d.al.length ac, iv d.sf, iv d.st, iv d.ef, iv d.et, .slice ko kn kc] 37) = W0 := ⟨_, rfl⟩
  have HW0 : Hid (w.alloc (.cells #[iv 3, iv a, iv b, iv c, iv d.id, iv d.kind, iv d.space, .string d.name, .string d.text, .slice ao d.al.length ac, iv d.sf, iv d.st, iv d.ef, iv d.et, .slice ko kn kc] 37) = W0) := hW0
  rw [hW0] at b0 n0
  clear hW0
  have hlt := (Array.getElem?_eq_some_iff.1 n0).1
  have t0 := t.wide b0
  have ha' : ∀ w', Keep (Wide Z w W0) W0 w' → Ats w' (.slice ao d.al.length ac) d.al := fun w' kk => ha w' ((Keep.old b0).trans (kk.sub fun i hi => .inl hi))
  have CC : ∀ w1, Keep (Wide Z w W0) W0 w1 → w1.cell? ⟨w.heap.size, 1, none⟩ = some (iv a) ∧ w1.cell? ⟨w.heap.size, 2, none⟩ = some (iv b) ∧ w1.cell? ⟨w.heap.size, 3, none⟩ = some (iv c) ∧ w1.cell? ⟨w.heap.size, 4, none⟩ = some (iv d.id) ∧ w1.cell? ⟨w.heap.size, 5, none⟩ = some (iv d.kind) ∧ w1.cell? ⟨w.heap.size, 6, none⟩ = some (iv d.space) ∧ w1.cell? ⟨w.heap.size, 7, none⟩ = some (.string d.name) ∧ w1.cell? ⟨w.heap.size, 8, none⟩ = some (.string d.text) ∧ w1.cell? ⟨w.heap.size, 9, none⟩ = some (.slice ao d.al.length ac) ∧ w1.cell? ⟨w.heap.size, 10, none⟩ = some (iv d.sf) ∧ w1.cell? ⟨w.heap.size, 11, none⟩ = some (iv d.st) ∧ w1.cell? ⟨w.heap.size, 12, none⟩ = some (iv d.ef) ∧ w1.cell? ⟨w.heap.size, 13, none⟩ = some (iv d.et) ∧ w1.cell? ⟨w.heap.size, 14, none⟩ = some (.slice ko kn kc) := fun w1 kk => by
    have e := (kk.block w.heap.size (.inr ⟨Nat.le_refl _, hlt⟩) hlt).trans n0
    refine ⟨?_, ?_, ?_, ?_, ?_, ?_, ?_, ?_, ?_, ?_, ?_, ?_, ?_, ?_⟩ <;> simp [World.cell?, e]
  have FIN : ∀ w2, Keep (Wide Z w W0) W0 w2 → (∃ N' P' E' L', RelU (m + 1) N' P' E' L' ∧ Two (Wide Z w W0) w2 x y N' P' E' L') → Hid (FinU Z w x y m w2) := fun w2 kk ⟨N', P', E', L', r1, r3⟩ =>
    ⟨(Keep.old b0).trans (kk.sub fun i hi => .inl hi), N', P', E', L', r1, r3.sub fun i hi => .inl hi⟩
  have e0 : W0.cell? ⟨w.heap.size, 0, none⟩ = some (iv 3) := by simp [World.cell?, n0]
  clear t ha n0
  obtain ⟨n, hn, hn2⟩ : ∃ n, L1.length = n ∧ n ≤ 900000000 := ⟨_, rfl, by omega⟩
  obtain ⟨n', hn', hn2'⟩ : ∃ n, L.length = n ∧ n ≤ 900000000 := ⟨_, rfl, by omega⟩
  obtain ⟨ra, hd⟩ := show ∃ v : Int, Deal (Wide Z w W0) W0 x y N P E L1 28 #[ptr x, iv a, .slice ao d.al.length ac] 35 #[ptr y, iv a, .slice ao d.al.length ac] (iv v) from deal_attrs hR hn a d.al ha' hf
  obtain ⟨rb, hd2⟩ := show ∃ v : Int, Deal (Wide Z w W0) W0 x y N2 P2 E2 L 28 #[ptr x, iv a, .slice ao d.al.length ac] 35 #[ptr y, iv a, .slice ao d.al.length ac] (iv v) from deal_attrs hS hn' a d.al ha' hf
  obtain ⟨p1, p2⟩ := hd.both2 hd2 hL1 hL2 t0
  have H1 : Hid (Calls Try.prog 28 #[ptr x, iv a, .slice ao d.al.length ac] W0.drew (fun e w1 => e = .returned (iv ra) ∧ (w1.cell? ⟨w.heap.size, 1, none⟩ = some (iv a) ∧ w1.cell? ⟨w.heap.size, 9, none⟩ = some (.slice ao d.al.length ac)) ∧ Hid (Calls Try.prog 35 #[ptr y, iv a, .slice ao d.al.length ac] w1 (fun e w2 => e = .returned (iv rb) ∧ (w2.cell? ⟨w.heap.size, 1, none⟩ = some (iv a) ∧ w2.cell? ⟨w.heap.size, 9, none⟩ = some (.slice ao d.al.length ac)) ∧ Hid (FinU Z w x y m w2))))) := p1.mono (by
    rintro e w1 ⟨rfl, k1, hc⟩
    obtain ⟨q1, q2, q3, q4, q5, q6, q7, q8, q9, q10, q11, q12, q13, q14⟩ := CC w1 k1
    exact ⟨rfl, ⟨q1, q9⟩, hc.mono (by
      rintro e w2 ⟨rfl, k2, hfin⟩
      obtain ⟨r1, r2, r3, r4, r5, r6, r7, r8, r9, r10, r11, r12, r13, r14⟩ := CC w2 k2
      exact ⟨rfl, ⟨r1, r9⟩, FIN w2 k2 hfin⟩)⟩)
  have H2 : Hid (Calls Try.prog 35 #[ptr y, iv a, .slice ao d.al.length ac] W0.drew (fun e w1 => e = .returned (iv rb) ∧ (w1.cell? ⟨w.heap.size, 1, none⟩ = some (iv a) ∧ w1.cell? ⟨w.heap.size, 9, none⟩ = some (.slice ao d.al.length ac)) ∧ Hid (Calls Try.prog 28 #[ptr x, iv a, .slice ao d.al.length ac] w1 (fun e w2 => e = .returned (iv ra) ∧ (w2.cell? ⟨w.heap.size, 1, none⟩ = some (iv a) ∧ w2.cell? ⟨w.heap.size, 9, none⟩ = some (.slice ao d.al.length ac)) ∧ Hid (FinU Z w x y m w2))))) := p2.mono (by
    rintro e w1 ⟨rfl, k1, hc⟩
    obtain ⟨q1, q2, q3, q4, q5, q6, q7, q8, q9, q10, q11, q12, q13, q14⟩ := CC w1 k1
    exact ⟨rfl, ⟨q1, q9⟩, hc.mono (by
      rintro e w2 ⟨rfl, k2, hfin⟩
      obtain ⟨r1, r2, r3, r4, r5, r6, r7, r8, r9, r10, r11, r12, r13, r14⟩ := CC w2 k2
      exact ⟨rfl, ⟨r1, r9⟩, FIN w2 k2 hfin⟩)⟩)
  obtain ⟨e1, e2, e3, e4, e5, e6, e7, e8, e9, e10, e11, e12, e13, e14⟩ := CC W0 (Keep.refl _ _)
  have hab : (ra == rb) = true ∨ (ra == rb) = false := by cases (ra == rb) <;> simp
  clear p1 p2 hd hd2 CC FIN t0 hR hS hn hn2 hn' hn2' hL1 hL2 hm hf ha'
  go_enter Try.func12, Try.ntmps12
  go_upto_region 1 with fail
  rw [HW0.out]
  clear HW0
  go_upto_region 13 with fail
  go_region_held3 (fun w' => w'.cell? ⟨w.heap.size, 1, none⟩ = some (iv a) ∧ w'.cell? ⟨w.heap.size, 9, none⟩ = some (.slice ao d.al.length ac)) (first | exact ⟨f1, f9⟩ | exact ⟨c1, c9⟩ | exact ⟨e1, e9⟩) (first
    | (go_at_call 28; refine Calls.mono H1.out ?_; rintro e w1 ⟨rfl, ⟨c1, c9⟩, HC⟩)
    | (go_at_call 35; refine Calls.mono H2.out ?_; rintro e w1 ⟨rfl, ⟨c1, c9⟩, HC⟩)
    | (go_at_call 35; refine Calls.mono HC.out ?_; rintro e w2 ⟨rfl, ⟨f1, f9⟩, HF⟩)
    | (go_at_call 28; refine Calls.mono HC.out ?_; rintro e w2 ⟨rfl, ⟨f1, f9⟩, HF⟩))
  all_goals
    rcases hab with hab | hab <;>
    · go_wp2_with fail
      go_ret
      exact ⟨⟨_, rfl⟩, HF.out⟩
end Go.Proofs.Ytcdaghlbfclpkaa
namespace Go.Proofs.Ytcdaghlbfclpkaa
open Go.RowKit

set_option maxHeartbeats 4000000 in
set_option maxRecDepth 20000 in
theorem du_4 {Z : Nat → Prop} {w : World} {x y : Nat} {N : List Nd} {P : List Sp} {E : List En} {L : List RN} (t : Two Z w x y N P E L) {m : Nat} (hU : RelU m N P E L) (hm : m ≤ 800000000) (a b c : Int) (d : Nd) (ao : Option Addr) (ac : Nat) (ko : Option Addr) (kn kc : Nat) (ha : ∀ w', Keep Z w w' → Ats w' (.slice ao d.al.length ac) d.al) (_hf : d.al.length ≤ 1000000000) :
    Calls Try.prog 12 #[ptr x, ptr y, .agg #[iv 4, iv a, iv b, iv c, iv d.id, iv d.kind, iv d.space, .string d.name, .string d.text, .slice ao d.al.length ac, iv d.sf, iv d.st, iv d.ef, iv d.et, .slice ko kn kc]] w (fun e w' => (∃ r, e = .returned (iv r)) ∧ FinU Z w x y m w') := by
  obtain ⟨L1, N2, P2, E2, hR, hL1, hS, hL2⟩ := hU
  have b0 : Below w.heap.size w (w.alloc (.cells #[iv 4, iv a, iv b, iv c, iv d.id, iv d.kind, iv d.space, .string d.name, .string d.text, .slice ao d.al.length ac, iv d.sf, iv d.st, iv d.ef, iv d.et, .slice ko kn kc] 37)) := (Below.refl _ _).alloc (Nat.le_refl _) _
  have n0 : (w.alloc (.cells #[iv 4, iv a, iv b, iv c, iv d.id, iv d.kind, iv d.space, .string d.name, .string d.text, .slice ao d.al.length ac, iv d.sf, iv d.st, iv d.ef, iv d.et, .slice ko kn kc] 37)).heap[w.heap.size]? = some (.cells #[iv 4, iv a, iv b, iv c, iv d.id, iv d.kind, iv d.space, .string d.name, .string d.text, .slice ao d.al.length ac, iv d.sf, iv d.st, iv d.ef, iv d.et, .slice ko kn kc] 37 (0, 0)) := heap_alloc_new w _
  obtain ⟨W0, hW0⟩ : ∃ W0, w.alloc (.cells #[iv 4, iv a, iv b, iv c, iv d.id, iv d.kind, iv d.space, .string d.name, .string d.text, .slice ao d.al.length ac, iv d.sf, iv d.st, iv d.ef, iv d.et, .slice ko kn kc] 37) = W0 := ⟨_, rfl⟩
  have HW0 : Hid (w.alloc (.cells #[iv 4, iv a, iv b, iv c, iv d.id, iv d.kind, iv d.space, .string d.name, .string d.text, .slice ao d.al.length ac, iv d.sf, iv d.st, iv d.ef, iv d.et, .slice ko kn kc] 37) = W0) := hW0
  rw [hW0] at b0 n0
  clear hW0
  have hlt := (Array.getElem?_eq_some_iff.1 n0).1
  have t0 := t.wide b0
  have ha' : ∀ w', Keep (Wide Z w W0) W0 w' → Ats w' (.slice ao d.al.length ac) d.al := fun w' kk => ha w' ((Keep.old b0).trans (kk.sub fun i hi => .inl hi))
  have CC : ∀ w1, Keep (Wide Z w W0) W0 w1 → w1.cell? ⟨w.heap.size, 1, none⟩ = some (iv a) ∧ w1.cell? ⟨w.heap.size, 2, none⟩ = some (iv b) ∧ w1.cell? ⟨w.heap.size, 3, none⟩ = some (iv c) ∧ w1.cell? ⟨w.heap.size, 4, none⟩ = some (iv d.id) ∧ w1.cell? ⟨w.heap.size, 5, none⟩ = some (iv d.kind) ∧ w1.cell? ⟨w.heap.size, 6, none⟩ = some (iv d.space) ∧ w1.cell? ⟨w.heap.size, 7, none⟩ = some (.string d.name) ∧ w1.cell? ⟨w.heap.size, 8, none⟩ = some (.string d.text) ∧ w1.cell? ⟨w.heap.size, 9, none⟩ = some (.slice ao d.al.length ac) ∧ w1.cell? ⟨w.heap.size, 10, none⟩ = some (iv d.sf) ∧ w1.cell? ⟨w.heap.size, 11, none⟩ = some (iv d.st) ∧ w1.cell? ⟨w.heap.size, 12, none⟩ = some (iv d.ef) ∧ w1.cell? ⟨w.heap.size, 13, none⟩ = some (iv d.et) ∧ w1.cell? ⟨w.heap.size, 14, none⟩ = some (.slice ko kn kc) := fun w1 kk => by
    have e := (kk.block w.heap.size (.inr ⟨Nat.le_refl _, hlt⟩) hlt).trans n0
    refine ⟨?_, ?_, ?_, ?_, ?_, ?_, ?_, ?_, ?_, ?_, ?_, ?_, ?_, ?_⟩ <;> simp [World.cell?, e]
  have FIN : ∀ w2, Keep (Wide Z w W0) W0 w2 → (∃ N' P' E' L', RelU (m + 1) N' P' E' L' ∧ Two (Wide Z w W0) w2 x y N' P' E' L') → Hid (FinU Z w x y m w2) := fun w2 kk ⟨N', P', E', L', r1, r3⟩ =>
    ⟨(Keep.old b0).trans (kk.sub fun i hi => .inl hi), N', P', E', L', r1, r3.sub fun i hi => .inl hi⟩
  have e0 : W0.cell? ⟨w.heap.size, 0, none⟩ = some (iv 4) := by simp [World.cell?, n0]
  clear t ha n0
  obtain ⟨n, hn, hn2⟩ : ∃ n, L1.length = n ∧ n ≤ 900000000 := ⟨_, rfl, by omega⟩
  obtain ⟨n', hn', hn2'⟩ : ∃ n, L.length = n ∧ n ≤ 900000000 := ⟨_, rfl, by omega⟩
  obtain ⟨ra, hd⟩ := show ∃ v : Int, Deal (Wide Z w W0) W0 x y N P E L1 27 #[ptr x, iv a, .string d.text] 36 #[ptr y, iv a, .string d.text] (iv v) from deal_text hR hn a d.text
  obtain ⟨rb, hd2⟩ := show ∃ v : Int, Deal (Wide Z w W0) W0 x y N2 P2 E2 L 27 #[ptr x, iv a, .string d.text] 36 #[ptr y, iv a, .string d.text] (iv v) from deal_text hS hn' a d.text
  obtain ⟨p1, p2⟩ := hd.both2 hd2 hL1 hL2 t0
  have H1 : Hid (Calls Try.prog 27 #[ptr x, iv a, .string d.text] W0.drew (fun e w1 => e = .returned (iv ra) ∧ (w1.cell? ⟨w.heap.size, 1, none⟩ = some (iv a) ∧ w1.cell? ⟨w.heap.size, 8, none⟩ = some (.string d.text)) ∧ Hid (Calls Try.prog 36 #[ptr y, iv a, .string d.text] w1 (fun e w2 => e = .returned (iv rb) ∧ (w2.cell? ⟨w.heap.size, 1, none⟩ = some (iv a) ∧ w2.cell? ⟨w.heap.size, 8, none⟩ = some (.string d.text)) ∧ Hid (FinU Z w x y m w2))))) := p1.mono (by
    rintro e w1 ⟨rfl, k1, hc⟩
    obtain ⟨q1, q2, q3, q4, q5, q6, q7, q8, q9, q10, q11, q12, q13, q14⟩ := CC w1 k1
    exact ⟨rfl, ⟨q1, q8⟩, hc.mono (by
      rintro e w2 ⟨rfl, k2, hfin⟩
      obtain ⟨r1, r2, r3, r4, r5, r6, r7, r8, r9, r10, r11, r12, r13, r14⟩ := CC w2 k2
      exact ⟨rfl, ⟨r1, r8⟩, FIN w2 k2 hfin⟩)⟩)
  have H2 : Hid (Calls Try.prog 36 #[ptr y, iv a, .string d.text] W0.drew (fun e w1 => e = .returned (iv rb) ∧ (w1.cell? ⟨w.heap.size, 1, none⟩ = some (iv a) ∧ w1.cell? ⟨w.heap.size, 8, none⟩ = some (.string d.text)) ∧ Hid (Calls Try.prog 27 #[ptr x, iv a, .string d.text] w1 (fun e w2 => e = .returned (iv ra) ∧ (w2.cell? ⟨w.heap.size, 1, none⟩ = some (iv a) ∧ w2.cell? ⟨w.heap.size, 8, none⟩ = some (.string d.text)) ∧ Hid (FinU Z w x y m w2))))) := p2.mono (by
    rintro e w1 ⟨rfl, k1, hc⟩
    obtain ⟨q1, q2, q3, q4, q5, q6, q7, q8, q9, q10, q11, q12, q13, q14⟩ := CC w1 k1
    exact ⟨rfl, ⟨q1, q8⟩, hc.mono (by
      rintro e w2 ⟨rfl, k2, hfin⟩
      obtain ⟨r1, r2, r3, r4, r5, r6, r7, r8, r9, r10, r11, r12, r13, r14⟩ := CC w2 k2
      exact ⟨rfl, ⟨r1, r8⟩, FIN w2 k2 hfin⟩)⟩)
  obtain ⟨e1, e2, e3, e4, e5, e6, e7, e8, e9, e10, e11, e12, e13, e14⟩ := CC W0 (Keep.refl _ _)
  have hab : (ra == rb) = true ∨ (ra == rb) = false := by cases (ra == rb) <;> simp
  clear p1 p2 hd hd2 CC FIN t0 hR hS hn hn2 hn' hn2' hL1 hL2 hm  ha'
  go_enter Try.func12, Try.ntmps12
  go_upto_region 1 with fail
  rw [HW0.out]
  clear HW0
  go_upto_region 15 with fail
  go_region_held3 (fun w' => w'.cell? ⟨w.heap.size, 1, none⟩ = some (iv a) ∧ w'.cell? ⟨w.heap.size, 8, none⟩ = some (.string d.text)) (first | exact ⟨f1, f8⟩ | exact ⟨c1, c8⟩ | exact ⟨e1, e8⟩) (first
    | (go_at_call 27; refine Calls.mono H1.out ?_; rintro e w1 ⟨rfl, ⟨c1, c8⟩, HC⟩)
    | (go_at_call 36; refine Calls.mono H2.out ?_; rintro e w1 ⟨rfl, ⟨c1, c8⟩, HC⟩)
    | (go_at_call 36; refine Calls.mono HC.out ?_; rintro e w2 ⟨rfl, ⟨f1, f8⟩, HF⟩)
    | (go_at_call 27; refine Calls.mono HC.out ?_; rintro e w2 ⟨rfl, ⟨f1, f8⟩, HF⟩))
  all_goals
    rcases hab with hab | hab <;>
    · go_wp2_with fail
      go_ret
      exact ⟨⟨_, rfl⟩, HF.out⟩
end Go.Proofs.Ytcdaghlbfclpkaa
namespace Go.Proofs.Ytcdaghlbfclpkaa
open Go.RowKit

set_option maxHeartbeats 4000000 in
set_option maxRecDepth 20000 in
theorem du_5 {Z : Nat → Prop} {w : World} {x y : Nat} {N : List Nd} {P : List Sp} {E : List En} {L : List RN} (t : Two Z w x y N P E L) {m : Nat} (hU : RelU m N P E L) (hm : m ≤ 800000000) (a b c : Int) (d : Nd) (ao : Option Addr) (ac : Nat) (ko : Option Addr) (kn kc : Nat) (ha : ∀ w', Keep Z w w' → Ats w' (.slice ao d.al.length ac) d.al) (_hf : d.al.length ≤ 1000000000) :
    Calls Try.prog 12 #[ptr x, ptr y, .agg #[iv 5, iv a, iv b, iv c, iv d.id, iv d.kind, iv d.space, .string d.name, .string d.text, .slice ao d.al.length ac, iv d.sf, iv d.st, iv d.ef, iv d.et, .slice ko kn kc]] w (fun e w' => (∃ r, e = .returned (iv r)) ∧ FinU Z w x y m w') := by
  obtain ⟨L1, N2, P2, E2, hR, hL1, hS, hL2⟩ := hU
  have b0 : Below w.heap.size w (w.alloc (.cells #[iv 5, iv a, iv b, iv c, iv d.id, iv d.kind, iv d.space, .string d.name, .string d.text, .slice ao d.al.length ac, iv d.sf, iv d.st, iv d.ef, iv d.et, .slice ko kn kc] 37)) := (Below.refl _ _).alloc (Nat.le_refl _) _
  have n0 : (w.alloc (.cells #[iv 5, iv a, iv b, iv c, iv d.id, iv d.kind, iv d.space, .string d.name, .string d.text, .slice ao d.al.length ac, iv d.sf, iv d.st, iv d.ef, iv d.et, .slice ko kn kc] 37)).heap[w.heap.size]? = some (.cells #[iv 5, iv a, iv b, iv c, iv d.id, iv d.kind, iv d.space, .string d.name, .string d.text, .slice ao d.al.length ac, iv d.sf, iv d.st, iv d.ef, iv d.et, .slice ko kn kc] 37 (0, 0)) := heap_alloc_new w _
  obtain ⟨W0, hW0⟩ : ∃ W0, w.alloc (.cells #[iv 5, iv a, iv b, iv c, iv d.id, iv d.kind, iv d.space, .string d.name, .string d.text, .slice ao d.al.length ac, iv d.sf, iv d.st, iv d.ef, iv d.et, .slice ko kn kc] 37) = W0 := ⟨_, rfl⟩
  have HW0 : Hid (w.alloc (.cells #[iv 5, iv a, iv b, iv c, iv d.id, iv d.kind, iv d.space, .string d.name, .string d.text, .slice ao d.al.length ac, iv d.sf, iv d.st, iv d.ef, iv d.et, .slice ko kn kc] 37) = W0) := hW0
  rw [hW0] at b0 n0
  clear hW0
  have hlt := (Array.getElem?_eq_some_iff.1 n0).1
  have t0 := t.wide b0
  have ha' : ∀ w', Keep (Wide Z w W0) W0 w' → Ats w' (.slice ao d.al.length ac) d.al := fun w' kk => ha w' ((Keep.old b0).trans (kk.sub fun i hi => .inl hi))
  have CC : ∀ w1, Keep (Wide Z w W0) W0 w1 → w1.cell? ⟨w.heap.size, 1, none⟩ = some (iv a) ∧ w1.cell? ⟨w.heap.size, 2, none⟩ = some (iv b) ∧ w1.cell? ⟨w.heap.size, 3, none⟩ = some (iv c) ∧ w1.cell? ⟨w.heap.size, 4, none⟩ = some (iv d.id) ∧ w1.cell? ⟨w.heap.size, 5, none⟩ = some (iv d.kind) ∧ w1.cell? ⟨w.heap.size, 6, none⟩ = some (iv d.space) ∧ w1.cell? ⟨w.heap.size, 7, none⟩ = some (.string d.name) ∧ w1.cell? ⟨w.heap.size, 8, none⟩ = some (.string d.text) ∧ w1.cell? ⟨w.heap.size, 9, none⟩ = some (.slice ao d.al.length ac) ∧ w1.cell? ⟨w.heap.size, 10, none⟩ = some (iv d.sf) ∧ w1.cell? ⟨w.heap.size, 11, none⟩ = some (iv d.st) ∧ w1.cell? ⟨w.heap.size, 12, none⟩ = some (iv d.ef) ∧ w1.cell? ⟨w.heap.size, 13, none⟩ = some (iv d.et) ∧ w1.cell? ⟨w.heap.size, 14, none⟩ = some (.slice ko kn kc) := fun w1 kk => by
    have e := (kk.block w.heap.size (.inr ⟨Nat.le_refl _, hlt⟩) hlt).trans n0
    refine ⟨?_, ?_, ?_, ?_, ?_, ?_, ?_, ?_, ?_, ?_, ?_, ?_, ?_, ?_⟩ <;> simp [World.cell?, e]
  have FIN : ∀ w2, Keep (Wide Z w W0) W0 w2 → (∃ N' P' E' L', RelU (m + 1) N' P' E' L' ∧ Two (Wide Z w W0) w2 x y N' P' E' L') → Hid (FinU Z w x y m w2) := fun w2 kk ⟨N', P', E', L', r1, r3⟩ =>
    ⟨(Keep.old b0).trans (kk.sub fun i hi => .inl hi), N', P', E', L', r1, r3.sub fun i hi => .inl hi⟩
  have e0 : W0.cell? ⟨w.heap.size, 0, none⟩ = some (iv 5) := by simp [World.cell?, n0]
  clear t ha n0
  obtain ⟨n, hn, hn2⟩ : ∃ n, L1.length = n ∧ n ≤ 900000000 := ⟨_, rfl, by omega⟩
  obtain ⟨n', hn', hn2'⟩ : ∃ n, L.length = n ∧ n ≤ 900000000 := ⟨_, rfl, by omega⟩
  obtain ⟨ra, hd⟩ := show ∃ v : Int, Deal (Wide Z w W0) W0 x y N P E L1 29 #[ptr x, iv a, .agg #[iv d.ef, iv d.et]] 37 #[ptr y, iv a, .agg #[iv d.ef, iv d.et]] (iv v) from deal_end hR hn a d.ef d.et
  obtain ⟨rb, hd2⟩ := show ∃ v : Int, Deal (Wide Z w W0) W0 x y N2 P2 E2 L 29 #[ptr x, iv a, .agg #[iv d.ef, iv d.et]] 37 #[ptr y, iv a, .agg #[iv d.ef, iv d.et]] (iv v) from deal_end hS hn' a d.ef d.et
  obtain ⟨p1, p2⟩ := hd.both2 hd2 hL1 hL2 t0
  have H1 : Hid (Calls Try.prog 29 #[ptr x, iv a, .agg #[iv d.ef, iv d.et]] W0.drew (fun e w1 => e = .returned (iv ra) ∧ (w1.cell? ⟨w.heap.size, 1, none⟩ = some (iv a) ∧ w1.cell? ⟨w.heap.size, 12, none⟩ = some (iv d.ef) ∧ w1.cell? ⟨w.heap.size, 13, none⟩ = some (iv d.et)) ∧ Hid (Calls Try.prog 37 #[ptr y, iv a, .agg #[iv d.ef, iv d.et]] w1 (fun e w2 => e = .returned (iv rb) ∧ (w2.cell? ⟨w.heap.size, 1, none⟩ = some (iv a) ∧ w2.cell? ⟨w.heap.size, 12, none⟩ = some (iv d.ef) ∧ w2.cell? ⟨w.heap.size, 13, none⟩ = some (iv d.et)) ∧ Hid (FinU Z w x y m w2))))) := p1.mono (by
    rintro e w1 ⟨rfl, k1, hc⟩
    obtain ⟨q1, q2, q3, q4, q5, q6, q7, q8, q9, q10, q11, q12, q13, q14⟩ := CC w1 k1
    exact ⟨rfl, ⟨q1, q12, q13⟩, hc.mono (by
      rintro e w2 ⟨rfl, k2, hfin⟩
      obtain ⟨r1, r2, r3, r4, r5, r6, r7, r8, r9, r10, r11, r12, r13, r14⟩ := CC w2 k2
      exact ⟨rfl, ⟨r1, r12, r13⟩, FIN w2 k2 hfin⟩)⟩)
  have H2 : Hid (Calls Try.prog 37 #[ptr y, iv a, .agg #[iv d.ef, iv d.et]] W0.drew (fun e w1 => e = .returned (iv rb) ∧ (w1.cell? ⟨w.heap.size, 1, none⟩ = some (iv a) ∧ w1.cell? ⟨w.heap.size, 12, none⟩ = some (iv d.ef) ∧ w1.cell? ⟨w.heap.size, 13, none⟩ = some (iv d.et)) ∧ Hid (Calls Try.prog 29 #[ptr x, iv a, .agg #[iv d.ef, iv d.et]] w1 (fun e w2 => e = .returned (iv ra) ∧ (w2.cell? ⟨w.heap.size, 1, none⟩ = some (iv a) ∧ w2.cell? ⟨w.heap.size, 12, none⟩ = some (iv d.ef) ∧ w2.cell? ⟨w.heap.size, 13, none⟩ = some (iv d.et)) ∧ Hid (FinU Z w x y m w2))))) := p2.mono (by
    rintro e w1 ⟨rfl, k1, hc⟩
    obtain ⟨q1, q2, q3, q4, q5, q6, q7, q8, q9, q10, q11, q12, q13, q14⟩ := CC w1 k1
    exact ⟨rfl, ⟨q1, q12, q13⟩, hc.mono (by
      rintro e w2 ⟨rfl, k2, hfin⟩
      obtain ⟨r1, r2, r3, r4, r5, r6, r7, r8, r9, r10, r11, r12, r13, r14⟩ := CC w2 k2
      exact ⟨rfl, ⟨r1, r12, r13⟩, FIN w2 k2 hfin⟩)⟩)
  obtain ⟨e1, e2, e3, e4, e5, e6, e7, e8, e9, e10, e11, e12, e13, e14⟩ := CC W0 (Keep.refl _ _)
  have hab : (ra == rb) = true ∨ (ra == rb) = false := by cases (ra == rb) <;> simp
  clear p1 p2 hd hd2 CC FIN t0 hR hS hn hn2 hn' hn2' hL1 hL2 hm  ha'
  go_enter Try.func12, Try.ntmps12
  go_upto_region 1 with fail
  rw [HW0.out]
  clear HW0
  go_upto_region 17 with fail
  go_region_held3 (fun w' => w'.cell? ⟨w.heap.size, 1, none⟩ = some (iv a) ∧ w'.cell? ⟨w.heap.size, 12, none⟩ = some (iv d.ef) ∧ w'.cell? ⟨w.heap.size, 13, none⟩ = some (iv d.et)) (first | exact ⟨f1, f12, f13⟩ | exact ⟨c1, c12, c13⟩ | exact ⟨e1, e12, e13⟩) (first
    | (go_at_call 29; refine Calls.mono H1.out ?_; rintro e w1 ⟨rfl, ⟨c1, c12, c13⟩, HC⟩)
    | (go_at_call 37; refine Calls.mono H2.out ?_; rintro e w1 ⟨rfl, ⟨c1, c12, c13⟩, HC⟩)
    | (go_at_call 37; refine Calls.mono HC.out ?_; rintro e w2 ⟨rfl, ⟨f1, f12, f13⟩, HF⟩)
    | (go_at_call 29; refine Calls.mono HC.out ?_; rintro e w2 ⟨rfl, ⟨f1, f12, f13⟩, HF⟩))
  all_goals
    rcases hab with hab | hab <;>
    · go_wp2_with fail
      go_ret
      exact ⟨⟨_, rfl⟩, HF.out⟩
end Go.Proofs.Ytcdaghlbfclpkaa
namespace Go.Proofs.Ytcdaghlbfclpkaa
open Go.RowKit

theorem get_p {Z : Nat → Prop} {w : World} {x y : Nat} {N : List Nd} {P : List Sp} {E : List En} {L L1 : List RN} (t : Two Z w x y N P E L) (hR : Rel N P E L1) (i : Int) :
    ∃ (i1 i2 i3 : Int) (s1 s2 : ByteArray) (A : List At) (n : Nat) (t1 t2 t3 t4 ev : Int), A.length = n ∧ n ≤ 1000000000 ∧
      (∀ w', Below w.heap.size w w' → Calls Try.prog 25 #[ptr x, iv i] w' (fun e w'' => ∃ ao ac, e = .returned (.tuple #[.agg #[iv i1, iv i2, iv i3, .string s1, .string s2, .slice ao n ac, iv t1, iv t2, iv t3, iv t4, .slice none 0 0], iv ev]) ∧ Below w'.heap.size w' w'' ∧ AtRow w'' ao A)) := by
  cases hi : isN L1.length i with
  | false =>
    refine ⟨0, 0, 0, ⟨#[]⟩, ⟨#[]⟩, [], 0, 0, 0, 0, 0, 4, rfl, by omega, fun w' b => ?_⟩
    obtain ⟨F, h⟩ := t.old b
    obtain ⟨g, n', cn, k1, cs, k2, ce, o⟩ := h.a.open (by rw [hR.nl]; exact hR.n0)
    refine (get_no o (i := i) (by rw [← o.nn, hR.nl]; exact hi)).mono ?_
    rintro e w'' ⟨rfl, b1⟩
    exact ⟨none, 0, rfl, b1, fun _ _ hx => by simp at hx⟩
  | true =>
    have hi' : 0 ≤ i ∧ i < (L1.length : Int) := by simpa [isN] using hi
    obtain ⟨j, rfl⟩ : ∃ j : Nat, i = (j : Int) := ⟨i.toNat, by omega⟩
    obtain ⟨d, s, e, r, hd, _, _, hr⟩ := hR.atL (i := j) (by omega)
    obtain ⟨hid, al⟩ := hR.nd j d r hd hr
    have hf := hR.al r (List.mem_of_getElem? hr)
    refine ⟨j, r.d.kind, r.d.space, r.d.name, r.d.text, r.d.al, r.d.al.length, r.d.sf, r.d.st, r.d.ef, r.d.et, 0, rfl, hf, fun w' b => ?_⟩
    obtain ⟨F, h⟩ := t.old b
    obtain ⟨g, n', cn, k1, cs, k2, ce, o⟩ := h.a.open (by rw [hR.nl]; exact hR.n0)
    refine (get_any o hd (by rw [al.al]; exact hf)).mono ?_
    rintro e w'' ⟨ao, ac, rfl, b1, hw⟩
    obtain ⟨ao', cap, he, ha⟩ := ((hw (fun _ => False) (fun _ q => q.elim)).atr (by rw [al.al]; omega)).ex
    simp only [Value.slice.injEq, true_and] at he
    obtain ⟨rfl, rfl⟩ := he
    rw [hid, al.kind, al.space, al.name, al.text, al.al, al.sf, al.st, al.ef, al.et]
    rw [al.al] at ha
    exact ⟨_, _, rfl, b1, ha⟩
theorem get_r {Z : Nat → Prop} {w : World} {x y : Nat} {N N2 : List Nd} {P P2 : List Sp} {E E2 : List En} {L : List RN} (t : Two Z w x y N P E L) (hR : Rel N2 P2 E2 L) (i : Int) :
    ∃ (j1 j2 j3 : Int) (r1 r2 : ByteArray) (B : List At) (m : Nat) (ta1 ta2 ta3 ta4 fv : Int), B.length = m ∧ m ≤ 1000000000 ∧
      (∀ w', Below w.heap.size w w' → Calls Try.prog 38 #[ptr y, iv i] w' (fun e w'' => ∃ ao ac, e = .returned (.tuple #[.agg #[iv j1, iv j2, iv j3, .string r1, .string r2, .slice ao m ac, iv ta1, iv ta2, iv ta3, iv ta4, .slice none 0 0], iv fv]) ∧ Below w'.heap.size w' w'' ∧ AtRow w'' ao B)) := by
  cases hi : isN L.length i with
  | false =>
    refine ⟨0, 0, 0, ⟨#[]⟩, ⟨#[]⟩, [], 0, 0, 0, 0, 0, 4, rfl, by omega, fun w' b => ?_⟩
    obtain ⟨F, h⟩ := t.old b
    obtain ⟨g, n', c, o⟩ := h.r.open hR.n0
    refine (rget_no o (i := i) (by rw [← o.nn]; exact hi)).mono ?_
    rintro e w'' ⟨rfl, b1⟩
    exact ⟨none, 0, rfl, b1, fun _ _ hx => by simp at hx⟩
  | true =>
    have hi' : 0 ≤ i ∧ i < (L.length : Int) := by simpa [isN] using hi
    obtain ⟨j, rfl⟩ : ∃ j : Nat, i = (j : Int) := ⟨i.toNat, by omega⟩
    obtain ⟨d, s, e, r, hd, _, _, hr⟩ := hR.atL (i := j) (by omega)
    have hf := hR.al r (List.mem_of_getElem? hr)
    refine ⟨j, r.d.kind, r.d.space, r.d.name, r.d.text, r.d.al, r.d.al.length, r.d.sf, r.d.st, r.d.ef, r.d.et, 0, rfl, hf, fun w' b => ?_⟩
    obtain ⟨F, h⟩ := t.old b
    obtain ⟨g, n', c, o⟩ := h.r.open hR.n0
    refine (rget_any o hr hf).mono ?_
    rintro e w'' ⟨ao, ac, rfl, b1, hw⟩
    obtain ⟨ao', cap, he, ha⟩ := ((hw (fun _ => False) (fun _ q => q.elim)).atr (by omega)).ex
    simp only [Value.slice.injEq, true_and] at he
    obtain ⟨rfl, rfl⟩ := he
    exact ⟨_, _, rfl, b1, ha⟩
set_option maxHeartbeats 4000000 in
theorem du_6 {Z : Nat → Prop} {w : World} {x y : Nat} {N : List Nd} {P : List Sp} {E : List En} {L : List RN} (t : Two Z w x y N P E L) {m0 : Nat} (hU : RelU m0 N P E L) (k a b c : Int) (d : Nd) (ao : Option Addr) (ac : Nat) (ko : Option Addr) (kn kc : Nat) (h0 : (k == 0) = false) (h1 : (k == 1) = false) (h2 : (k == 2) = false) (h3 : (k == 3) = false) (h4 : (k == 4) = false) (h5 : (k == 5) = false) :
    Calls Try.prog 12 #[ptr x, ptr y, .agg #[iv k, iv a, iv b, iv c, iv d.id, iv d.kind, iv d.space, .string d.name, .string d.text, .slice ao d.al.length ac, iv d.sf, iv d.st, iv d.ef, iv d.et, .slice ko kn kc]] w (fun e w' => (∃ r, e = .returned (iv r)) ∧ Below w.heap.size w w') := by
  obtain ⟨L1, N2, P2, E2, hR, _, hS, _⟩ := hU
  have b0 : Below w.heap.size w (w.alloc (.cells #[iv k, iv a, iv b, iv c, iv d.id, iv d.kind, iv d.space, .string d.name, .string d.text, .slice ao d.al.length ac, iv d.sf, iv d.st, iv d.ef, iv d.et, .slice ko kn kc] 37)) := (Below.refl _ _).alloc (Nat.le_refl _) _
  have n0 : (w.alloc (.cells #[iv k, iv a, iv b, iv c, iv d.id, iv d.kind, iv d.space, .string d.name, .string d.text, .slice ao d.al.length ac, iv d.sf, iv d.st, iv d.ef, iv d.et, .slice ko kn kc] 37)).heap[w.heap.size]? = some (.cells #[iv k, iv a, iv b, iv c, iv d.id, iv d.kind, iv d.space, .string d.name, .string d.text, .slice ao d.al.length ac, iv d.sf, iv d.st, iv d.ef, iv d.et, .slice ko kn kc] 37 (0, 0)) := heap_alloc_new w _
  obtain ⟨W0, hW0⟩ : ∃ W0, w.alloc (.cells #[iv k, iv a, iv b, iv c, iv d.id, iv d.kind, iv d.space, .string d.name, .string d.text, .slice ao d.al.length ac, iv d.sf, iv d.st, iv d.ef, iv d.et, .slice ko kn kc] 37) = W0 := ⟨_, rfl⟩
  have HW0 : Hid (w.alloc (.cells #[iv k, iv a, iv b, iv c, iv d.id, iv d.kind, iv d.space, .string d.name, .string d.text, .slice ao d.al.length ac, iv d.sf, iv d.st, iv d.ef, iv d.et, .slice ko kn kc] 37) = W0) := hW0
  rw [hW0] at b0 n0
  clear hW0
  have hlt := (Array.getElem?_eq_some_iff.1 n0).1
  have t0 := t.old b0
  have e0 : W0.cell? ⟨w.heap.size, 0, none⟩ = some (iv k) := by simp [World.cell?, n0]
  have e1 : W0.cell? ⟨w.heap.size, 1, none⟩ = some (iv a) := by simp [World.cell?, n0]
  obtain ⟨i1, i2, i3, s1, s2, A, n, t1, t2, t3, t4, ev, hA, hn, g1⟩ := get_p t0 hR a
  obtain ⟨j1, j2, j3, r1, r2, B, m, ta1, ta2, ta3, ta4, fv, hB, hm, g2⟩ := get_r t0 hS a
  have c1 := g1 W0 (Below.refl _ _)
  have H : Hid (Below w.heap.size w W0 ∧ A.length = n ∧ n ≤ 1000000000 ∧ w.heap.size < W0.heap.size ∧ B.length = m) := ⟨b0, hA, hn, hlt, hB⟩
  have G2 : Hid (∀ w', Below W0.heap.size W0 w' → Calls Try.prog 38 #[ptr y, iv a] w' (fun e w'' => ∃ ao ac, e = .returned (.tuple #[.agg #[iv j1, iv j2, iv j3, .string r1, .string r2, .slice ao m ac, iv ta1, iv ta2, iv ta3, iv ta4, .slice none 0 0], iv fv]) ∧ Below w'.heap.size w' w'' ∧ AtRow w'' ao B)) := g2
  clear t t0 hR hS n0 b0 hA hn hlt g1 g2 hB hm
  go_enter Try.func12, Try.ntmps12
  go_upto_region 1 with fail
  rw [HW0.out]
  clear HW0
  go_upto_region 3 with fail
  go_wp2_with fail
  refine c1.mono ?_
  clear c1
  rintro e w1 ⟨ao1, ac1, rfl, b1, r1⟩
  have b2 : Below w1.heap.size w1 (w1.alloc (.cells #[iv i1, iv i2, iv i3, .string s1, .string s2, .slice ao1 n ac1, iv t1, iv t2, iv t3, iv t4, .slice none 0 0] 35)) := (Below.refl _ _).alloc (Nat.le_refl _) _
  have n2 := heap_alloc_new w1 (.cells #[iv i1, iv i2, iv i3, .string s1, .string s2, .slice ao1 n ac1, iv t1, iv t2, iv t3, iv t4, .slice none 0 0] 35)
  go_upto_region 4 with fail
  have fr : ¬ w1.heap.size < W0.heap.size := Nat.not_lt.2 b1.size
  have b3 : Below W0.heap.size W0 (w1.alloc (.cells #[iv i1, iv i2, iv i3, .string s1, .string s2, .slice ao1 n ac1, iv t1, iv t2, iv t3, iv t4, .slice none 0 0] 35)) := b1.trans (b2.mono b1.size)
  have r2 := r1.old b2
  generalize hW2 : w1.alloc (.cells #[iv i1, iv i2, iv i3, .string s1, .string s2, .slice ao1 n ac1, iv t1, iv t2, iv t3, iv t4, .slice none 0 0] 35) = w2 at *
  clear hW2
  have e1' : w2.cell? ⟨w.heap.size, 1, none⟩ = some (iv a) := (cell_same (b3.block w.heap.size H.out.2.2.2.1) 1).trans e1
  have c2 := G2.out w2 b3
  have H2 : Hid (Below W0.heap.size W0 w2 ∧ AtRow w2 ao1 A ∧ w2.heap[w1.heap.size]? = some (.cells #[iv i1, iv i2, iv i3, .string s1, .string s2, .slice ao1 n ac1, iv t1, iv t2, iv t3, iv t4, .slice none 0 0] 35 (0, 0)) ∧ ¬ w1.heap.size < W0.heap.size) := ⟨b3, r2, n2, fr⟩
  clear b1 b2 b3 r1 r2 n2 fr e0 e1
  go_wp2_with fail
  refine c2.mono ?_
  clear c2
  rintro e w3 ⟨ao2, ac2, rfl, b4, r4⟩
  have b5 : Below w3.heap.size w3 (w3.alloc (.cells #[iv j1, iv j2, iv j3, .string r1, .string r2, .slice ao2 m ac2, iv ta1, iv ta2, iv ta3, iv ta4, .slice none 0 0] 35)) := (Below.refl _ _).alloc (Nat.le_refl _) _
  have n5 := heap_alloc_new w3 (.cells #[iv j1, iv j2, iv j3, .string r1, .string r2, .slice ao2 m ac2, iv ta1, iv ta2, iv ta3, iv ta4, .slice none 0 0] 35)
  go_upto_region 5 with fail
  have b6 : Below w2.heap.size w2 (w3.alloc (.cells #[iv j1, iv j2, iv j3, .string r1, .string r2, .slice ao2 m ac2, iv ta1, iv ta2, iv ta3, iv ta4, .slice none 0 0] 35)) := b4.trans (b5.mono b4.size)
  have r6 := r4.old b5
  generalize hW4 : w3.alloc (.cells #[iv j1, iv j2, iv j3, .string r1, .string r2, .slice ao2 m ac2, iv ta1, iv ta2, iv ta3, iv ta4, .slice none 0 0] 35) = w4 at *
  clear hW4
  have q1 : w4.heap[w1.heap.size]? = some (.cells #[iv i1, iv i2, iv i3, .string s1, .string s2, .slice ao1 n ac1, iv t1, iv t2, iv t3, iv t4, .slice none 0 0] 35 (0, 0)) := (b6.block w1.heap.size (Array.getElem?_eq_some_iff.1 H2.out.2.2.1).1).trans H2.out.2.2.1
  obtain ⟨u0, u1, u2, u3, u4, u5, u6, u7, u8, u9, u10⟩ : w4.cell? ⟨w1.heap.size, 0, none⟩ = some (iv i1) ∧ w4.cell? ⟨w1.heap.size, 1, none⟩ = some (iv i2) ∧ w4.cell? ⟨w1.heap.size, 2, none⟩ = some (iv i3) ∧ w4.cell? ⟨w1.heap.size, 3, none⟩ = some (.string s1) ∧ w4.cell? ⟨w1.heap.size, 4, none⟩ = some (.string s2) ∧ w4.cell? ⟨w1.heap.size, 5, none⟩ = some (.slice ao1 n ac1) ∧ w4.cell? ⟨w1.heap.size, 6, none⟩ = some (iv t1) ∧ w4.cell? ⟨w1.heap.size, 7, none⟩ = some (iv t2) ∧ w4.cell? ⟨w1.heap.size, 8, none⟩ = some (iv t3) ∧ w4.cell? ⟨w1.heap.size, 9, none⟩ = some (iv t4) ∧ w4.cell? ⟨w1.heap.size, 10, none⟩ = some (.slice none 0 0) := by
    refine ⟨?_, ?_, ?_, ?_, ?_, ?_, ?_, ?_, ?_, ?_, ?_⟩ <;> simp [World.cell?, q1]
  obtain ⟨v0, v1, v2, v3, v4, v5, v6, v7, v8, v9, v10⟩ : w4.cell? ⟨w3.heap.size, 0, none⟩ = some (iv j1) ∧ w4.cell? ⟨w3.heap.size, 1, none⟩ = some (iv j2) ∧ w4.cell? ⟨w3.heap.size, 2, none⟩ = some (iv j3) ∧ w4.cell? ⟨w3.heap.size, 3, none⟩ = some (.string r1) ∧ w4.cell? ⟨w3.heap.size, 4, none⟩ = some (.string r2) ∧ w4.cell? ⟨w3.heap.size, 5, none⟩ = some (.slice ao2 m ac2) ∧ w4.cell? ⟨w3.heap.size, 6, none⟩ = some (iv ta1) ∧ w4.cell? ⟨w3.heap.size, 7, none⟩ = some (iv ta2) ∧ w4.cell? ⟨w3.heap.size, 8, none⟩ = some (iv ta3) ∧ w4.cell? ⟨w3.heap.size, 9, none⟩ = some (iv ta4) ∧ w4.cell? ⟨w3.heap.size, 10, none⟩ = some (.slice none 0 0) := by
    refine ⟨?_, ?_, ?_, ?_, ?_, ?_, ?_, ?_, ?_, ?_, ?_⟩ <;> simp [World.cell?, n5]
  have c3 := any_nd n m ac1 ac2 (H2.out.2.1.old b6) r6 H.out.2.1 H.out.2.2.2.2 (by have := H.out.2.2.1; omega) i1 i2 i3 j1 j2 j3 s1 s2 r1 r2 t1 t2 t3 t4 ta1 ta2 ta3 ta4
  have bw : Below w.heap.size w w4 := H.out.1.trans ((H2.out.1.trans (b6.mono H2.out.1.size)).mono H.out.1.size)
  clear b4 b5 b6 r4 r6 n5 q1 e1' H H2 G2
  go_wp2_with fail
  refine c3.mono ?_
  clear c3
  rintro e w5 ⟨⟨q, rfl⟩, b7⟩
  have b8 : Below w.heap.size w w5 := bw.trans (b7.mono bw.size)
  clear b7 bw
  have hab : (ev == fv) = true ∨ (ev == fv) = false := by cases (ev == fv) <;> simp
  cases q with
  | false =>
    go_wp2_with fail
    go_ret
    exact ⟨⟨_, rfl⟩, b8⟩
  | true =>
    rcases hab with hab | hab <;>
    · go_wp2_with fail
      go_ret
      exact ⟨⟨_, rfl⟩, b8⟩
end Go.Proofs.Ytcdaghlbfclpkaa
namespace Go.Proofs.Ytcdaghlbfclpkaa
open Go.RowKit

theorem du_any {Z : Nat → Prop} {w : World} {x y : Nat} {N : List Nd} {P : List Sp} {E : List En} {L : List RN} (t : Two Z w x y N P E L) {m : Nat} (hU : RelU m N P E L) (hm : m ≤ 800000000) (T : Dd) (ha : ∀ w', Keep Z w w' → AtRow w' T.ao T.d.al) (hf : T.d.al.length ≤ 1000000000) :
    Calls Try.prog 12 #[ptr x, ptr y, .agg T.arr] w (fun e w' => (∃ r, e = .returned (iv r)) ∧ FinU Z w x y m w') := by
  have hA : ∀ w', Keep Z w w' → Ats w' (.slice T.ao T.d.al.length T.ac) T.d.al := fun w' k => ⟨⟨_, _, rfl, ha w' k⟩, by omega⟩
  obtain ⟨k, a, b, c, d, ao, ac, ko, kn, kc⟩ := T
  simp only at hA hf
  by_cases h0 : k = 0
  · subst h0
    exact du_0 t hU hm a b c d ao ac ko kn kc hA hf
  by_cases h1 : k = 1
  · subst h1
    exact du_1 t hU hm a b c d ao ac ko kn kc hA hf
  by_cases h2 : k = 2
  · subst h2
    exact du_2 t hU hm a b c d ao ac ko kn kc hA hf
  by_cases h3 : k = 3
  · subst h3
    exact du_3 t hU hm a b c d ao ac ko kn kc hA hf
  by_cases h4 : k = 4
  · subst h4
    exact du_4 t hU hm a b c d ao ac ko kn kc hA hf
  by_cases h5 : k = 5
  · subst h5
    exact du_5 t hU hm a b c d ao ac ko kn kc hA hf
  refine (du_6 t hU k a b c d ao ac ko kn kc (beq_false_of_ne h0) (beq_false_of_ne h1) (beq_false_of_ne h2) (beq_false_of_ne h3) (beq_false_of_ne h4) (beq_false_of_ne h5)).mono ?_
  rintro e w' ⟨he, b1⟩
  exact ⟨he, Keep.old b1, N, P, E, L, by
    obtain ⟨L1, N2, P2, E2, q1, q2, q3, q4⟩ := hU
    exact ⟨L1, N2, P2, E2, q1, by omega, q3, by omega⟩, t.old b1⟩
end Go.Proofs.Ytcdaghlbfclpkaa
