/- A node more: add. -/
import Derived.Test.YtcdaghlbfclpkaaAj
namespace Go.Proofs.Ytcdaghlbfclpkaa
open Go.RowKit

set_option maxHeartbeats 4000000 in
set_option maxRecDepth 20000 in
theorem add_any {S : Nat → Prop} {w : World} {x : Nat} {N : List Nd} {P : List Sp} {E : List En} (h : Ar S w x N P E) {n : Nat} (hn : N.length = n) (hn2 : n ≤ 900000000) (d : Nd) {ao : Option Addr} {ac : Nat} (ha : Ats w (.slice ao d.al.length ac) d.al) (ko : Option Addr) (kn kc : Nat) :
    Calls Try.prog 30 #[ptr x, .agg #[iv d.id, iv d.kind, iv d.space, .string d.name, .string d.text, (.slice ao d.al.length ac), iv d.sf, iv d.st, iv d.ef, iv d.et, (.slice ko kn kc)]] w (Added S x n d N P E w) := by
  obtain ⟨nv, sv, ev, h⟩ := h
  obtain ⟨no, nc, rfl, _⟩ := h.nr.slice
  obtain ⟨so, sc, rfl, _⟩ := h.sr.slice
  obtain ⟨eo, ec, rfl, _⟩ := h.er.slice
  rw [h.pl, h.el, hn] at h
  have b0 : Below w.heap.size w (w.alloc (.cells #[iv d.id, iv d.kind, iv d.space, .string d.name, .string d.text, (.slice ao d.al.length ac), iv d.sf, iv d.st, iv d.ef, iv d.et, (.slice ko kn kc)] 35)) := (Below.refl _ _).alloc (Nat.le_refl _) _
  have n0 : Bx (w.alloc (.cells #[iv d.id, iv d.kind, iv d.space, .string d.name, .string d.text, (.slice ao d.al.length ac), iv d.sf, iv d.st, iv d.ef, iv d.et, (.slice ko kn kc)] 35)) w.heap.size #[iv d.id, iv d.kind, iv d.space, .string d.name, .string d.text, (.slice ao d.al.length ac), iv d.sf, iv d.st, iv d.ef, iv d.et, (.slice ko kn kc)] := heap_alloc_new w _
  obtain ⟨W0, hW0⟩ : ∃ W0, w.alloc (.cells #[iv d.id, iv d.kind, iv d.space, .string d.name, .string d.text, (.slice ao d.al.length ac), iv d.sf, iv d.st, iv d.ef, iv d.et, (.slice ko kn kc)] 35) = W0 := ⟨_, rfl⟩
  have HW0 : Hid (w.alloc (.cells #[iv d.id, iv d.kind, iv d.space, .string d.name, .string d.text, (.slice ao d.al.length ac), iv d.sf, iv d.st, iv d.ef, iv d.et, (.slice ko kn kc)] 35) = W0) := hW0
  rw [hW0] at b0 n0
  clear hW0
  have h0 := h.old b0
  have c0 : W0.cell? ⟨x, 0, none⟩ = some (.slice no n nc) := by simp [World.cell?, h0.blk]
  have y0 : W0.cell? ⟨w.heap.size, 0, none⟩ = some (iv d.id) := n0.cell 0
  have f0 := n0.frozen 0
  have HH : Hid (ArV S w x (.slice no n nc) (.slice so n sc) (.slice eo n ec) N P E ∧ Below w.heap.size w W0 ∧ Bx W0 w.heap.size #[iv d.id, iv d.kind, iv d.space, .string d.name, .string d.text, (.slice ao d.al.length ac), iv d.sf, iv d.st, iv d.ef, iv d.et, (.slice ko kn kc)] ∧ Ats w (.slice ao d.al.length ac) d.al ∧ N.length = n ∧ n ≤ 900000000) := ⟨h, b0, n0, ha, hn, hn2⟩
  clear h h0 b0 n0 ha hn hn2
  go_enter Try.func30, Try.ntmps30
  go_upto_region 1 with fail
  rw [HW0.out]
  go_upto_region 2 with fail
  have m1 : Bx (W0.setCell ⟨w.heap.size, 0, none⟩ (iv (n : Int))) w.heap.size #[iv (n : Int), iv d.kind, iv d.space, .string d.name, .string d.text, (.slice ao d.al.length ac), iv d.sf, iv d.st, iv d.ef, iv d.et, (.slice ko kn kc)] := HH.out.2.2.1.set 0 (iv (n : Int))
  have hb1 : Below w.heap.size w (W0.setCell ⟨w.heap.size, 0, none⟩ (iv (n : Int))) := HH.out.2.1.setCell (p := ⟨w.heap.size, 0, none⟩) (Nat.le_refl _) _
  generalize hW1 : W0.setCell ⟨w.heap.size, 0, none⟩ (iv (n : Int)) = W1 at *
  clear hW1 c0 y0 f0
  have y5 : W1.cell? ⟨w.heap.size, 5, none⟩ = some (.slice ao d.al.length ac) := m1.cell 5
  have kc2 := copied_any (HH.out.2.2.2.1.old hb1)
  have HI : Hid (Bx W1 w.heap.size #[iv (n : Int), iv d.kind, iv d.space, .string d.name, .string d.text, (.slice ao d.al.length ac), iv d.sf, iv d.st, iv d.ef, iv d.et, (.slice ko kn kc)] ∧ Below w.heap.size w W1) := ⟨m1, hb1⟩
  clear m1 hb1
  go_wp2_with fail
  refine kc2.mono ?_
  rintro e w2 ⟨v, rfl, b2, hv⟩
  obtain ⟨ao2, ac2, rfl, _⟩ := (hv (fun _ => False) (fun _ h => h.elim)).slice
  have q1 := HI.out.1.old b2
  have z5 : w2.cell? ⟨w.heap.size, 5, none⟩ = some (.slice ao d.al.length ac) := q1.cell 5
  have f5 := q1.frozen 5
  have HJ : Hid (Bx w2 w.heap.size #[iv (n : Int), iv d.kind, iv d.space, .string d.name, .string d.text, (.slice ao d.al.length ac), iv d.sf, iv d.st, iv d.ef, iv d.et, (.slice ko kn kc)] ∧ Below w.heap.size w w2 ∧ Rw S w2 53 2 (.slice ao2 d.al.length ac2) d.al.length (d.al.flatMap At.cells)) := ⟨q1, HI.out.2.trans (b2.mono HI.out.2.size), hv S (fun k hk => Nat.lt_of_lt_of_le (HH.out.1.low k hk) HI.out.2.size)⟩
  clear q1 hv b2 y5 kc2
  go_upto_region 3 with fail
  have m3 : Bx (w2.setCell ⟨w.heap.size, 5, none⟩ (.slice ao2 d.al.length ac2)) w.heap.size #[iv (n : Int), iv d.kind, iv d.space, .string d.name, .string d.text, (.slice ao2 d.al.length ac2), iv d.sf, iv d.st, iv d.ef, iv d.et, (.slice ko kn kc)] := HJ.out.1.set 5 _
  have hb3 : Below w.heap.size w (w2.setCell ⟨w.heap.size, 5, none⟩ (.slice ao2 d.al.length ac2)) := HJ.out.2.1.setCell (p := ⟨w.heap.size, 5, none⟩) (Nat.le_refl _) _
  have hr3 : Rw S (w2.setCell ⟨w.heap.size, 5, none⟩ (.slice ao2 d.al.length ac2)) 53 2 (.slice ao2 d.al.length ac2) d.al.length (d.al.flatMap At.cells) := HJ.out.2.2.off (b := w.heap.size) (fun g _ hg => heap_setCell_other w2 ⟨w.heap.size, 5, none⟩ g _ hg) HJ.out.1 (by decide)
  generalize hW3 : w2.setCell ⟨w.heap.size, 5, none⟩ (.slice ao2 d.al.length ac2) = W3 at *
  clear hW3 z5 f5
  have z10 : W3.cell? ⟨w.heap.size, 10, none⟩ = some (.slice ko kn kc) := m3.cell 10
  have f10 := m3.frozen 10
  have HK : Hid (Bx W3 w.heap.size #[iv (n : Int), iv d.kind, iv d.space, .string d.name, .string d.text, (.slice ao2 d.al.length ac2), iv d.sf, iv d.st, iv d.ef, iv d.et, (.slice ko kn kc)] ∧ Below w.heap.size w W3 ∧ Rw S W3 53 2 (.slice ao2 d.al.length ac2) d.al.length (d.al.flatMap At.cells)) := ⟨m3, hb3, hr3⟩
  clear m3 hb3 hr3
  go_upto_region 4 with fail
  have m4 : Bx (W3.setCell ⟨w.heap.size, 10, none⟩ (.slice none 0 0)) w.heap.size #[iv (n : Int), iv d.kind, iv d.space, .string d.name, .string d.text, (.slice ao2 d.al.length ac2), iv d.sf, iv d.st, iv d.ef, iv d.et, (.slice none 0 0)] := HK.out.1.set 10 _
  have hb4 : Below w.heap.size w (W3.setCell ⟨w.heap.size, 10, none⟩ (.slice none 0 0)) := HK.out.2.1.setCell (p := ⟨w.heap.size, 10, none⟩) (Nat.le_refl _) _
  have hr4 : Rw S (W3.setCell ⟨w.heap.size, 10, none⟩ (.slice none 0 0)) 53 2 (.slice ao2 d.al.length ac2) d.al.length (d.al.flatMap At.cells) := HK.out.2.2.off (b := w.heap.size) (fun g _ hg => heap_setCell_other W3 ⟨w.heap.size, 10, none⟩ g _ hg) HK.out.1 (by decide)
  generalize hW4 : W3.setCell ⟨w.heap.size, 10, none⟩ (.slice none 0 0) = W4 at *
  clear hW4 z10 f10
  have h4 := HH.out.1.old hb4
  obtain ⟨g, c, W, hrun, cx, fx, ⟨g0, g1, g2, g3, g4, g5, g6, g7, g8, g9, g10⟩, fg, hxg, k1, k2, hb5, hW, hgg⟩ := (h4.old ((Below.refl _ W4).drew)).mid.growN HH.out.2.2.2.2.1 HH.out.2.2.2.2.2 d (hr4.old ((Below.refl _ W4).drew))
  have hrun2 : (Builtin.append_ #[33, 33] 33 #[.slice no n nc, .slice (some ⟨W4.heap.size, 0, none⟩) 1 1]).run Try.prog ((W4.alloc (.cells #[Value.int IntKind.i64 0, Value.int IntKind.i64 0, Value.int IntKind.i64 0, Value.string { data := #[] }, Value.string { data := #[] }, Value.slice none 0 0, Value.int IntKind.i64 0, Value.int IntKind.i64 0, Value.int IntKind.i64 0, Value.int IntKind.i64 0, Value.slice none 0 0] 35)).drew) = .ok (.slice (some ⟨g, 0, none⟩) (n + 1) c) W := hrun
  clear hrun
  have y0 : W4.cell? ⟨w.heap.size, 0, none⟩ = some (iv (n : Int)) := m4.cell 0
  have y1 : W4.cell? ⟨w.heap.size, 1, none⟩ = some (iv d.kind) := m4.cell 1
  have y2 : W4.cell? ⟨w.heap.size, 2, none⟩ = some (iv d.space) := m4.cell 2
  have y3 : W4.cell? ⟨w.heap.size, 3, none⟩ = some (.string d.name) := m4.cell 3
  have y4 : W4.cell? ⟨w.heap.size, 4, none⟩ = some (.string d.text) := m4.cell 4
  have y5 : W4.cell? ⟨w.heap.size, 5, none⟩ = some (.slice ao2 d.al.length ac2) := m4.cell 5
  have y6 : W4.cell? ⟨w.heap.size, 6, none⟩ = some (iv d.sf) := m4.cell 6
  have y7 : W4.cell? ⟨w.heap.size, 7, none⟩ = some (iv d.st) := m4.cell 7
  have y8 : W4.cell? ⟨w.heap.size, 8, none⟩ = some (iv d.ef) := m4.cell 8
  have y9 : W4.cell? ⟨w.heap.size, 9, none⟩ = some (iv d.et) := m4.cell 9
  have y10 : W4.cell? ⟨w.heap.size, 10, none⟩ = some (.slice none 0 0) := m4.cell 10
  have c0 : W4.cell? ⟨x, 0, none⟩ = some (.slice no n nc) := by simp [World.cell?, h4.blk]
  have hx4 : x < W4.heap.size := (Array.getElem?_eq_some_iff.1 h4.blk).1
  have hy4 : w.heap.size < W4.heap.size := m4.lt
  have fg0 := fg (n * 11)
  have fg1 := fg (n * 11 + 1)
  have fg2 := fg (n * 11 + 2)
  have fg3 := fg (n * 11 + 3)
  have fg4 := fg (n * 11 + 4)
  have fg5 := fg (n * 11 + 5)
  have fg6 := fg (n * 11 + 6)
  have fg7 := fg (n * 11 + 7)
  have fg8 := fg (n * 11 + 8)
  have fg9 := fg (n * 11 + 9)
  have fg10 := fg (n * 11 + 10)
  have hgx : g ≠ x := fun e => hxg e.symm
  have hyg : w.heap.size ≠ g := by
    rcases hgg with q | q
    · have := (own_blk HH.out.1.nr.own q).1
      omega
    · have : W4.heap.size ≤ g := q
      omega
  have hyx : w.heap.size ≠ x := by
    have := (Array.getElem?_eq_some_iff.1 HH.out.1.blk).1
    omega
  have hyW : Bx W w.heap.size #[iv (n : Int), iv d.kind, iv d.space, .string d.name, .string d.text, (.slice ao2 d.al.length ac2), iv d.sf, iv d.st, iv d.ef, iv d.et, (.slice none 0 0)] := (hW w.heap.size hy4 (fun q => by have := (own_blk HH.out.1.nr.own q.symm).1; omega)).trans m4
  have hk4 : Keep S w W4.drew := Keep.old hb4.drew
  have HM1 : Hid (Exists fun g' => Exists fun c' => Mid S ((((((((((((W.setCell ⟨g, n * 11, none⟩ (iv (n : Int))).setCell ⟨g, n * 11 + 1, none⟩ (iv d.kind)).setCell ⟨g, n * 11 + 2, none⟩ (iv d.space)).setCell ⟨g, n * 11 + 3, none⟩ (.string d.name)).setCell ⟨g, n * 11 + 4, none⟩ (.string d.text)).setCell ⟨g, n * 11 + 5, none⟩ (.slice ao2 d.al.length ac2)).setCell ⟨g, n * 11 + 6, none⟩ (iv d.sf)).setCell ⟨g, n * 11 + 7, none⟩ (iv d.st)).setCell ⟨g, n * 11 + 8, none⟩ (iv d.ef)).setCell ⟨g, n * 11 + 9, none⟩ (iv d.et)).setCell ⟨g, n * 11 + 10, none⟩ (.slice none 0 0)).setCell ⟨x, 0, none⟩ (.slice (some ⟨g, 0, none⟩) (n + 1) c)) x (.slice (some ⟨g', 0, none⟩) (n + 1) c') (.slice so n sc) (.slice eo n ec) (N ++ [d.as n (.slice ao2 d.al.length ac2)]) P E ∧ Keep S w ((((((((((((W.setCell ⟨g, n * 11, none⟩ (iv (n : Int))).setCell ⟨g, n * 11 + 1, none⟩ (iv d.kind)).setCell ⟨g, n * 11 + 2, none⟩ (iv d.space)).setCell ⟨g, n * 11 + 3, none⟩ (.string d.name)).setCell ⟨g, n * 11 + 4, none⟩ (.string d.text)).setCell ⟨g, n * 11 + 5, none⟩ (.slice ao2 d.al.length ac2)).setCell ⟨g, n * 11 + 6, none⟩ (iv d.sf)).setCell ⟨g, n * 11 + 7, none⟩ (iv d.st)).setCell ⟨g, n * 11 + 8, none⟩ (iv d.ef)).setCell ⟨g, n * 11 + 9, none⟩ (iv d.et)).setCell ⟨g, n * 11 + 10, none⟩ (.slice none 0 0)).setCell ⟨x, 0, none⟩ (.slice (some ⟨g, 0, none⟩) (n + 1) c)) ∧ Bx ((((((((((((W.setCell ⟨g, n * 11, none⟩ (iv (n : Int))).setCell ⟨g, n * 11 + 1, none⟩ (iv d.kind)).setCell ⟨g, n * 11 + 2, none⟩ (iv d.space)).setCell ⟨g, n * 11 + 3, none⟩ (.string d.name)).setCell ⟨g, n * 11 + 4, none⟩ (.string d.text)).setCell ⟨g, n * 11 + 5, none⟩ (.slice ao2 d.al.length ac2)).setCell ⟨g, n * 11 + 6, none⟩ (iv d.sf)).setCell ⟨g, n * 11 + 7, none⟩ (iv d.st)).setCell ⟨g, n * 11 + 8, none⟩ (iv d.ef)).setCell ⟨g, n * 11 + 9, none⟩ (iv d.et)).setCell ⟨g, n * 11 + 10, none⟩ (.slice none 0 0)).setCell ⟨x, 0, none⟩ (.slice (some ⟨g, 0, none⟩) (n + 1) c)) w.heap.size #[iv (n : Int), iv d.kind, iv d.space, .string d.name, .string d.text, (.slice ao2 d.al.length ac2), iv d.sf, iv d.st, iv d.ef, iv d.et, (.slice none 0 0)]) := ⟨g, c, k1.1, hk4.trans k1.2, ((heap_setCell_other _ ⟨x, 0, none⟩ w.heap.size _ hyx).trans (put11_other W g (n * 11) _ _ _ _ _ _ _ _ _ _ _ w.heap.size hyg)).trans hyW⟩
  have HM2 : Hid (Exists fun g' => Exists fun c' => Mid S ((((((((((((W.setCell ⟨x, 0, none⟩ (.slice (some ⟨g, 0, none⟩) (n + 1) c)).setCell ⟨g, n * 11, none⟩ (iv (n : Int))).setCell ⟨g, n * 11 + 1, none⟩ (iv d.kind)).setCell ⟨g, n * 11 + 2, none⟩ (iv d.space)).setCell ⟨g, n * 11 + 3, none⟩ (.string d.name)).setCell ⟨g, n * 11 + 4, none⟩ (.string d.text)).setCell ⟨g, n * 11 + 5, none⟩ (.slice ao2 d.al.length ac2)).setCell ⟨g, n * 11 + 6, none⟩ (iv d.sf)).setCell ⟨g, n * 11 + 7, none⟩ (iv d.st)).setCell ⟨g, n * 11 + 8, none⟩ (iv d.ef)).setCell ⟨g, n * 11 + 9, none⟩ (iv d.et)).setCell ⟨g, n * 11 + 10, none⟩ (.slice none 0 0)) x (.slice (some ⟨g', 0, none⟩) (n + 1) c') (.slice so n sc) (.slice eo n ec) (N ++ [d.as n (.slice ao2 d.al.length ac2)]) P E ∧ Keep S w ((((((((((((W.setCell ⟨x, 0, none⟩ (.slice (some ⟨g, 0, none⟩) (n + 1) c)).setCell ⟨g, n * 11, none⟩ (iv (n : Int))).setCell ⟨g, n * 11 + 1, none⟩ (iv d.kind)).setCell ⟨g, n * 11 + 2, none⟩ (iv d.space)).setCell ⟨g, n * 11 + 3, none⟩ (.string d.name)).setCell ⟨g, n * 11 + 4, none⟩ (.string d.text)).setCell ⟨g, n * 11 + 5, none⟩ (.slice ao2 d.al.length ac2)).setCell ⟨g, n * 11 + 6, none⟩ (iv d.sf)).setCell ⟨g, n * 11 + 7, none⟩ (iv d.st)).setCell ⟨g, n * 11 + 8, none⟩ (iv d.ef)).setCell ⟨g, n * 11 + 9, none⟩ (iv d.et)).setCell ⟨g, n * 11 + 10, none⟩ (.slice none 0 0)) ∧ Bx ((((((((((((W.setCell ⟨x, 0, none⟩ (.slice (some ⟨g, 0, none⟩) (n + 1) c)).setCell ⟨g, n * 11, none⟩ (iv (n : Int))).setCell ⟨g, n * 11 + 1, none⟩ (iv d.kind)).setCell ⟨g, n * 11 + 2, none⟩ (iv d.space)).setCell ⟨g, n * 11 + 3, none⟩ (.string d.name)).setCell ⟨g, n * 11 + 4, none⟩ (.string d.text)).setCell ⟨g, n * 11 + 5, none⟩ (.slice ao2 d.al.length ac2)).setCell ⟨g, n * 11 + 6, none⟩ (iv d.sf)).setCell ⟨g, n * 11 + 7, none⟩ (iv d.st)).setCell ⟨g, n * 11 + 8, none⟩ (iv d.ef)).setCell ⟨g, n * 11 + 9, none⟩ (iv d.et)).setCell ⟨g, n * 11 + 10, none⟩ (.slice none 0 0)) w.heap.size #[iv (n : Int), iv d.kind, iv d.space, .string d.name, .string d.text, (.slice ao2 d.al.length ac2), iv d.sf, iv d.st, iv d.ef, iv d.et, (.slice none 0 0)]) := ⟨g, c, k2.1, hk4.trans k2.2, ((put11_other _ g (n * 11) _ _ _ _ _ _ _ _ _ _ _ w.heap.size hyg).trans (heap_setCell_other _ ⟨x, 0, none⟩ w.heap.size _ hyx)).trans hyW⟩
  clear hk4
  clear h4 hb4 m4 hr4 fg hb5 k1 k2 hW hgg hyg hyx hyW
  have hin : (n : Int) < (n : Int) + 1 := by omega
  go_cut [] (fun wc => ∃ g c, Mid S wc x (.slice (some ⟨g, 0, none⟩) (n + 1) c) (.slice so n sc) (.slice eo n ec) (N ++ [d.as n (.slice ao2 d.al.length ac2)]) P E ∧ Keep S w wc ∧ Bx wc w.heap.size #[iv (n : Int), iv d.kind, iv d.space, .string d.name, .string d.text, (.slice ao2 d.al.length ac2), iv d.sf, iv d.st, iv d.ef, iv d.et, (.slice none 0 0)])
  case first =>
    go_region_law (refine step_append_eq rfl _ _ 33 33 rfl _ _ (by first | (simp [Act.eval]; done) | simp [Act.eval, Act.put]) (by first | (simp [Act.eval]; done) | simp [Act.eval, Act.put]) hrun2 ?_)
    all_goals
      go_wp2_with fail
      go_meet
      case rel => first | with_reducible exact HM1.out | with_reducible exact HM2.out
  case rest =>
    clear HM1 HM2 hrun2 cx fx g0 g1 g2 g3 g4 g5 g6 g7 g8 g9 g10 y0 y1 y2 y3 y4 y5 y6 y7 y8 y9 y10 c0 fg0 fg1 fg2 fg3 fg4 fg5 fg6 fg7 fg8 fg9 fg10 hx4 hy4 hgx hxg
    obtain ⟨g', c', m, km, hy⟩ := hcut
    obtain ⟨ao5, n5, c5, W5, r5, x5, f5, m5, k5, y5⟩ := m.growS (by rw [HH.out.1.pl, HH.out.2.2.2.2.1]; have := HH.out.2.2.2.2.2; omega)
    obtain ⟨ao6, n6, c6, W6, r6, x6, f6, m6, k6, y6⟩ := m5.growE (by rw [HH.out.1.el, HH.out.2.2.2.2.1]; have := HH.out.2.2.2.2.2; omega)
    have e1 : wc.cell? ⟨x, 1, none⟩ = some (.slice so n sc) := by simp [World.cell?, m.blk]
    have e2 : (W5.setCell ⟨x, 1, none⟩ (.slice ao5 n5 c5)).cell? ⟨x, 2, none⟩ = some (.slice eo n ec) := by simp [World.cell?, m5.blk]
    have HQ : Hid (Added S x n d N P E w (.returned (iv (n : Int))) (W6.setCell ⟨x, 2, none⟩ (.slice ao6 n6 c6))) := ⟨_, rfl, ⟨_, _, _, ⟨m6.low, m6.hx, m6.blk, m6.nr, m6.sr, m6.er, m6.ats, by simp [HH.out.1.pl], by simp [HH.out.1.el], by rw [List.length_append, HH.out.2.2.2.2.1]; have := HH.out.2.2.2.2.2; simp; omega⟩⟩, (km.trans k5).trans k6⟩
    have yy : (W6.setCell ⟨x, 2, none⟩ (.slice ao6 n6 c6)).cell? ⟨w.heap.size, 0, none⟩ = some (iv (n : Int)) := (y6 _ _ (y5 _ _ hy)).cell 0
    clear m m5 m6 km k5 k6 y5 y6 hy
    generalize hW7 : W6.setCell ⟨x, 2, none⟩ (.slice ao6 n6 c6) = W7 at *
    have HW7 : Hid (W6.setCell ⟨x, 2, none⟩ (.slice ao6 n6 c6) = W7) := hW7
    clear hW7
    generalize hW6 : W5.setCell ⟨x, 1, none⟩ (.slice ao5 n5 c5) = V5 at *
    have HV5 : Hid (W5.setCell ⟨x, 1, none⟩ (.slice ao5 n5 c5) = V5) := hW6
    clear hW6
    go_upto_region 6 with (at_builtin; refine list_append_eq rfl _ _ 62 62 rfl _ _ rfl rfl r5 ?_)
    rw [HV5.out]
    go_upto_region 7 with (at_builtin; refine list_append_eq rfl _ _ 63 63 rfl _ _ rfl rfl r6 ?_)
    rw [HW7.out]
    go_wp2_with fail
    go_ret
    exact HQ.out
end Go.Proofs.Ytcdaghlbfclpkaa
