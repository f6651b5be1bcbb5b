/- A node as new memory: single; Get. -/
import Derived.Test.YtcdaghlbfclpkaaAc
import Derived.Test.YtcdaghlbfclpkaaAd
namespace Go.Proofs.Ytcdaghlbfclpkaa
open Go.RowKit
/-- The eleven cells of a node in a block. -/
def Bx (w : World) (y : Nat) (a : Array Value) : Prop := w.heap[y]? = some (.cells a 35 (0, 0))
theorem Bx.old {w w' : World} {y : Nat} {a : Array Value} (h : Bx w y a) (b : Below w.heap.size w w') : Bx w' y a := (b.block y (Array.getElem?_eq_some_iff.1 h).1).trans h
theorem Bx.cell {w : World} {y : Nat} {a : Array Value} (h : Bx w y a) (j : Nat) : w.cell? ⟨y, j, none⟩ = a[j]? := by
  unfold Bx at h
  simp [World.cell?, h]
theorem Bx.frozen {w : World} {y : Nat} {a : Array Value} (h : Bx w y a) (j : Nat) : w.frozen? ⟨y, j, none⟩ = false := frozen_of_row w y j a 35 h
theorem Bx.set {w : World} {y : Nat} {a : Array Value} (h : Bx w y a) (j : Nat) (u : Value) : Bx (w.setCell ⟨y, j, none⟩ u) y (a.setIfInBounds j u) := heap_setCell_same w y j a 35 u h
theorem Bx.other {w : World} {y z : Nat} {a : Array Value} (h : Bx w y a) (hz : z ≠ y) (j : Nat) (u : Value) : Bx (w.setCell ⟨z, j, none⟩ u) y a := (heap_setCell_other w ⟨z, j, none⟩ y u (fun e => hz e.symm)).trans h
theorem Bx.lt {w : World} {y : Nat} {a : Array Value} (h : Bx w y a) : y < w.heap.size := (Array.getElem?_eq_some_iff.1 h).1
theorem set11 (c0 c1 c2 c3 c4 c5 c6 c7 c8 c9 c10 u0 u1 u2 u3 u4 u5 u6 u7 u8 u9 u10 : Value) : (((((((((((#[c0, c1, c2, c3, c4, c5, c6, c7, c8, c9, c10] : Array Value).setIfInBounds 0 u0).setIfInBounds 1 u1).setIfInBounds 2 u2).setIfInBounds 3 u3).setIfInBounds 4 u4).setIfInBounds 5 u5).setIfInBounds 6 u6).setIfInBounds 7 u7).setIfInBounds 8 u8).setIfInBounds 9 u9).setIfInBounds 10 u10 = #[u0, u1, u2, u3, u4, u5, u6, u7, u8, u9, u10] := by
  apply Array.ext'
  simp
theorem size35 : (Try.prog.info? 35).map (·.size) = some 11 := by kernel_rfl
theorem Bx.put {w : World} {y : Nat} {c0 c1 c2 c3 c4 c5 c6 c7 c8 c9 c10 : Value} (h : Bx w y #[c0, c1, c2, c3, c4, c5, c6, c7, c8, c9, c10]) (u0 u1 u2 u3 u4 u5 u6 u7 u8 u9 u10 : Value) : Bx (((((((((((w.setCell ⟨y, 0, none⟩ u0).setCell ⟨y, 1, none⟩ u1).setCell ⟨y, 2, none⟩ u2).setCell ⟨y, 3, none⟩ u3).setCell ⟨y, 4, none⟩ u4).setCell ⟨y, 5, none⟩ u5).setCell ⟨y, 6, none⟩ u6).setCell ⟨y, 7, none⟩ u7).setCell ⟨y, 8, none⟩ u8).setCell ⟨y, 9, none⟩ u9).setCell ⟨y, 10, none⟩ u10) y #[u0, u1, u2, u3, u4, u5, u6, u7, u8, u9, u10] := by
  have k := ((((((((((h.set 0 u0).set 1 u1).set 2 u2).set 3 u3).set 4 u4).set 5 u5).set 6 u6).set 7 u7).set 8 u8).set 9 u9).set 10 u10
  rw [set11] at k
  exact k
theorem put_other (w : World) (y : Nat) (u0 u1 u2 u3 u4 u5 u6 u7 u8 u9 u10 : Value) (g : Nat) (hg : g ≠ y) : (((((((((((w.setCell ⟨y, 0, none⟩ u0).setCell ⟨y, 1, none⟩ u1).setCell ⟨y, 2, none⟩ u2).setCell ⟨y, 3, none⟩ u3).setCell ⟨y, 4, none⟩ u4).setCell ⟨y, 5, none⟩ u5).setCell ⟨y, 6, none⟩ u6).setCell ⟨y, 7, none⟩ u7).setCell ⟨y, 8, none⟩ u8).setCell ⟨y, 9, none⟩ u9).setCell ⟨y, 10, none⟩ u10).heap[g]? = w.heap[g]? :=
  (heap_setCell_other _ ⟨y, 10, none⟩ g u10 hg).trans ((heap_setCell_other _ ⟨y, 9, none⟩ g u9 hg).trans ((heap_setCell_other _ ⟨y, 8, none⟩ g u8 hg).trans ((heap_setCell_other _ ⟨y, 7, none⟩ g u7 hg).trans ((heap_setCell_other _ ⟨y, 6, none⟩ g u6 hg).trans ((heap_setCell_other _ ⟨y, 5, none⟩ g u5 hg).trans ((heap_setCell_other _ ⟨y, 4, none⟩ g u4 hg).trans ((heap_setCell_other _ ⟨y, 3, none⟩ g u3 hg).trans ((heap_setCell_other _ ⟨y, 2, none⟩ g u2 hg).trans ((heap_setCell_other _ ⟨y, 1, none⟩ g u1 hg).trans (heap_setCell_other _ ⟨y, 0, none⟩ g u0 hg))))))))))
theorem below_put {w w' : World} {B y : Nat} (b : Below B w w') (hy : B ≤ y) (u0 u1 u2 u3 u4 u5 u6 u7 u8 u9 u10 : Value) :
    Below B w (((((((((((w'.setCell ⟨y, 0, none⟩ u0).setCell ⟨y, 1, none⟩ u1).setCell ⟨y, 2, none⟩ u2).setCell ⟨y, 3, none⟩ u3).setCell ⟨y, 4, none⟩ u4).setCell ⟨y, 5, none⟩ u5).setCell ⟨y, 6, none⟩ u6).setCell ⟨y, 7, none⟩ u7).setCell ⟨y, 8, none⟩ u8).setCell ⟨y, 9, none⟩ u9).setCell ⟨y, 10, none⟩ u10) :=
  ((((((((((b.setCell hy _).setCell hy _).setCell hy _).setCell hy _).setCell hy _).setCell hy _).setCell hy _).setCell hy _).setCell hy _).setCell hy _).setCell hy _
theorem info35z : (Try.prog.info? 35).map (fun i => (i.zero, i.size, i.bytes)) = some (some (.agg #[.int .i64 0, .int .i64 0, .int .i64 0, .string ByteArray.empty, .string ByteArray.empty, .slice none 0 0, .int .i64 0, .int .i64 0, .int .i64 0, .int .i64 0, .slice none 0 0]), 11, 136) := info35

/-- A node's own, in new memory. -/
abbrev Sgl (d : Nd) (w : World) (e : Ending) (w' : World) : Prop := ∃ ao ac, e = .returned (.agg #[(iv d.id), (iv d.kind), (iv d.space), (.string d.name), (.string d.text), (.slice ao d.al.length ac), (iv d.sf), (iv d.st), (iv d.ef), (iv d.et), (.slice none 0 0)]) ∧ Below w.heap.size w w' ∧ ∀ S : Nat → Prop, (∀ k, S k → k < w.heap.size) → Rw S w' 53 2 (.slice ao d.al.length ac) d.al.length (d.al.flatMap At.cells)
set_option maxHeartbeats 1000000 in
theorem single_any {S : Nat → Prop} {w : World} {x g n cn h cs k ce : Nat} {N : List Nd} {P : List Sp} {E : List En} (o : Op3 S w x g n cn h cs k ce N P E) {i : Nat} {d : Nd} (hd : N[i]? = some d) (hf : d.al.length ≤ 1000000000) :
    Calls Try.prog 42 #[ptr x, iv (i : Int)] w (Sgl d w) := by
  have hi : i < n := by rw [← o.nn]; exact (List.getElem?_eq_some_iff.1 hd).1
  have hi2 : (i : Int) < (n : Int) := by omega
  have b0 : Below w.heap.size w (w.alloc (.cells #[Value.int IntKind.i64 0, Value.int IntKind.i64 0, Value.int IntKind.i64 0, Value.string { data := #[] }, Value.string { data := #[] }, Value.slice none 0 0, Value.int IntKind.i64 0, Value.int IntKind.i64 0, Value.int IntKind.i64 0, Value.int IntKind.i64 0, Value.slice none 0 0] 35)) := (Below.refl _ _).alloc (Nat.le_refl _) _
  have n0 := heap_alloc_new w (.cells #[Value.int IntKind.i64 0, Value.int IntKind.i64 0, Value.int IntKind.i64 0, Value.string { data := #[] }, Value.string { data := #[] }, Value.slice none 0 0, Value.int IntKind.i64 0, Value.int IntKind.i64 0, Value.int IntKind.i64 0, Value.int IntKind.i64 0, Value.slice none 0 0] 35)
  obtain ⟨W0, hW0⟩ : ∃ W0, w.alloc (.cells #[Value.int IntKind.i64 0, Value.int IntKind.i64 0, Value.int IntKind.i64 0, Value.string { data := #[] }, Value.string { data := #[] }, Value.slice none 0 0, Value.int IntKind.i64 0, Value.int IntKind.i64 0, Value.int IntKind.i64 0, Value.int IntKind.i64 0, Value.slice none 0 0] 35) = W0 := ⟨_, rfl⟩
  have HW0 : Hid (w.alloc (.cells #[Value.int IntKind.i64 0, Value.int IntKind.i64 0, Value.int IntKind.i64 0, Value.string { data := #[] }, Value.string { data := #[] }, Value.slice none 0 0, Value.int IntKind.i64 0, Value.int IntKind.i64 0, Value.int IntKind.i64 0, Value.int IntKind.i64 0, Value.slice none 0 0] 35) = W0) := hW0
  rw [hW0] at b0 n0
  clear hW0
  have o0 : Op3 S W0 x g n cn h cs k ce N P E := ⟨o.v.old b0, o.nn⟩
  obtain ⟨c0, _, _⟩ := o0.c
  have d0 : W0.cell? ⟨g, i * 11, none⟩ = some (iv d.id) := o0.nd (j := 0) hd (by decide)
  have d1 : W0.cell? ⟨g, i * 11 + 1, none⟩ = some (iv d.kind) := o0.nd (j := 1) hd (by decide)
  have d2 : W0.cell? ⟨g, i * 11 + 2, none⟩ = some (iv d.space) := o0.nd (j := 2) hd (by decide)
  have d3 : W0.cell? ⟨g, i * 11 + 3, none⟩ = some (.string d.name) := o0.nd (j := 3) hd (by decide)
  have d4 : W0.cell? ⟨g, i * 11 + 4, none⟩ = some (.string d.text) := o0.nd (j := 4) hd (by decide)
  have d5 : W0.cell? ⟨g, i * 11 + 5, none⟩ = some d.av := o0.nd (j := 5) hd (by decide)
  have d6 : W0.cell? ⟨g, i * 11 + 6, none⟩ = some (iv d.sf) := o0.nd (j := 6) hd (by decide)
  have d7 : W0.cell? ⟨g, i * 11 + 7, none⟩ = some (iv d.st) := o0.nd (j := 7) hd (by decide)
  have d8 : W0.cell? ⟨g, i * 11 + 8, none⟩ = some (iv d.ef) := o0.nd (j := 8) hd (by decide)
  have d9 : W0.cell? ⟨g, i * 11 + 9, none⟩ = some (iv d.et) := o0.nd (j := 9) hd (by decide)
  have d10 : W0.cell? ⟨g, i * 11 + 10, none⟩ = some (.slice none 0 0) := o0.nd (j := 10) hd (by decide)
  obtain ⟨ao, ac, hav, _⟩ := (o0.v.ats d (List.mem_of_getElem? hd)).slice
  rw [hav] at d5
  have a0 : Ats W0 d.av d.al := (o0.v.ats d (List.mem_of_getElem? hd)).atr (by omega)
  rw [hav] at a0
  clear o o0
  go_enter Try.func42, Try.ntmps42
  go_upto_region 1 with fail
  rw [HW0.out]
  go_upto_region 2 with fail
  have b1 : Below W0.heap.size W0 (W0.alloc (.cells #[(iv d.id), (iv d.kind), (iv d.space), (.string d.name), (.string d.text), (.slice ao d.al.length ac), (iv d.sf), (iv d.st), (iv d.ef), (iv d.et), (.slice none 0 0)] 35)) := (Below.refl _ _).alloc (Nat.le_refl _) _
  have n1 : Bx (W0.alloc (.cells #[(iv d.id), (iv d.kind), (iv d.space), (.string d.name), (.string d.text), (.slice ao d.al.length ac), (iv d.sf), (iv d.st), (iv d.ef), (iv d.et), (.slice none 0 0)] 35)) W0.heap.size #[(iv d.id), (iv d.kind), (iv d.space), (.string d.name), (.string d.text), (.slice ao d.al.length ac), (iv d.sf), (iv d.st), (iv d.ef), (iv d.et), (.slice none 0 0)] := heap_alloc_new W0 _
  generalize hW1 : W0.alloc (.cells #[(iv d.id), (iv d.kind), (iv d.space), (.string d.name), (.string d.text), (.slice ao d.al.length ac), (iv d.sf), (iv d.st), (iv d.ef), (iv d.et), (.slice none 0 0)] 35) = W1 at *
  clear hW1
  have a1 := a0.old b1
  have kc := copied_any a1
  have c5 : W1.cell? ⟨W0.heap.size, 5, none⟩ = some (.slice ao d.al.length ac) := n1.cell 5
  have HB : Hid (Below w.heap.size w W1 ∧ Bx W1 W0.heap.size #[(iv d.id), (iv d.kind), (iv d.space), (.string d.name), (.string d.text), (.slice ao d.al.length ac), (iv d.sf), (iv d.st), (iv d.ef), (iv d.et), (.slice none 0 0)] ∧ Bx W1 w.heap.size #[Value.int IntKind.i64 0, Value.int IntKind.i64 0, Value.int IntKind.i64 0, Value.string { data := #[] }, Value.string { data := #[] }, Value.slice none 0 0, Value.int IntKind.i64 0, Value.int IntKind.i64 0, Value.int IntKind.i64 0, Value.int IntKind.i64 0, Value.slice none 0 0] ∧ Below w.heap.size w W0 ∧ w.heap.size < W0.heap.size) := ⟨b0.trans (b1.mono b0.size), n1, Bx.old n0 b1, b0, Bx.lt n0⟩
  clear n1 b1 b0 n0 a0 a1 d0 d1 d2 d3 d4 d5 d6 d7 d8 d9 d10 c0
  go_wp2_with fail
  refine kc.mono ?_
  rintro e w2 ⟨v, rfl, b2, hv⟩
  obtain ⟨ao2, ac2, rfl, _⟩ := (hv (fun _ => False) (fun _ h => h.elim)).slice
  have q1 := HB.out.2.1.old b2
  have q2 := HB.out.2.2.1.old b2
  have g5 : w2.cell? ⟨W0.heap.size, 5, none⟩ = some (.slice ao d.al.length ac) := q1.cell 5
  have z5 := q1.frozen 5
  have HC : Hid (Below w.heap.size w w2 ∧ Bx w2 W0.heap.size #[(iv d.id), (iv d.kind), (iv d.space), (.string d.name), (.string d.text), (.slice ao d.al.length ac), (iv d.sf), (iv d.st), (iv d.ef), (iv d.et), (.slice none 0 0)] ∧ Bx w2 w.heap.size #[Value.int IntKind.i64 0, Value.int IntKind.i64 0, Value.int IntKind.i64 0, Value.string { data := #[] }, Value.string { data := #[] }, Value.slice none 0 0, Value.int IntKind.i64 0, Value.int IntKind.i64 0, Value.int IntKind.i64 0, Value.int IntKind.i64 0, Value.slice none 0 0] ∧ ∀ S : Nat → Prop, (∀ k, S k → k < w.heap.size) → Rw S w2 53 2 (.slice ao2 d.al.length ac2) d.al.length (d.al.flatMap At.cells)) :=
    ⟨HB.out.1.trans (b2.mono HB.out.1.size), q1, q2, fun S hS => hv S (fun k hk => Nat.lt_of_lt_of_le (hS k hk) HB.out.1.size)⟩
  clear hv b2 q1 q2 kc
  go_upto_region 3 with fail
  have m1 := HC.out.2.1.set 5 (.slice ao2 d.al.length ac2)
  have m2 := HC.out.2.2.1.other (z := W0.heap.size) (by have := HB.out.2.2.2.2; omega) 5 (.slice ao2 d.al.length ac2)
  have mb : Below w.heap.size w (w2.setCell ⟨W0.heap.size, 5, none⟩ (.slice ao2 d.al.length ac2)) := HC.out.1.setCell (p := ⟨W0.heap.size, 5, none⟩) (Nat.le_of_lt HB.out.2.2.2.2) _
  have mr : ∀ S : Nat → Prop, (∀ k, S k → k < w.heap.size) → Rw S (w2.setCell ⟨W0.heap.size, 5, none⟩ (.slice ao2 d.al.length ac2)) 53 2 (.slice ao2 d.al.length ac2) d.al.length (d.al.flatMap At.cells) := fun S hS =>
    (HC.out.2.2.2 S hS).off (b := W0.heap.size) (fun g _ hg => heap_setCell_other w2 ⟨W0.heap.size, 5, none⟩ g _ hg) HC.out.2.1 (by decide)
  have m1' : Bx (w2.setCell ⟨W0.heap.size, 5, none⟩ (.slice ao2 d.al.length ac2)) W0.heap.size #[(iv d.id), (iv d.kind), (iv d.space), (.string d.name), (.string d.text), (.slice ao2 d.al.length ac2), (iv d.sf), (iv d.st), (iv d.ef), (iv d.et), (.slice none 0 0)] := m1
  clear m1
  generalize hW3 : w2.setCell ⟨W0.heap.size, 5, none⟩ (.slice ao2 d.al.length ac2) = W3 at *
  clear hW3 g5 z5 c5
  have y0 : W3.cell? ⟨W0.heap.size, 0, none⟩ = some (iv d.id) := m1'.cell 0
  have y1 : W3.cell? ⟨W0.heap.size, 1, none⟩ = some (iv d.kind) := m1'.cell 1
  have y2 : W3.cell? ⟨W0.heap.size, 2, none⟩ = some (iv d.space) := m1'.cell 2
  have y3 : W3.cell? ⟨W0.heap.size, 3, none⟩ = some (.string d.name) := m1'.cell 3
  have y4 : W3.cell? ⟨W0.heap.size, 4, none⟩ = some (.string d.text) := m1'.cell 4
  have y5 : W3.cell? ⟨W0.heap.size, 5, none⟩ = some (.slice ao2 d.al.length ac2) := m1'.cell 5
  have y6 : W3.cell? ⟨W0.heap.size, 6, none⟩ = some (iv d.sf) := m1'.cell 6
  have y7 : W3.cell? ⟨W0.heap.size, 7, none⟩ = some (iv d.st) := m1'.cell 7
  have y8 : W3.cell? ⟨W0.heap.size, 8, none⟩ = some (iv d.ef) := m1'.cell 8
  have y9 : W3.cell? ⟨W0.heap.size, 9, none⟩ = some (iv d.et) := m1'.cell 9
  have y10 : W3.cell? ⟨W0.heap.size, 10, none⟩ = some (.slice none 0 0) := m1'.cell 10
  have x0 : W3.cell? ⟨w.heap.size, 0, none⟩ = some (iv 0) := m2.cell 0
  have f0 := m2.frozen 0
  have x1 : W3.cell? ⟨w.heap.size, 1, none⟩ = some (iv 0) := m2.cell 1
  have f1 := m2.frozen 1
  have x2 : W3.cell? ⟨w.heap.size, 2, none⟩ = some (iv 0) := m2.cell 2
  have f2 := m2.frozen 2
  have x3 : W3.cell? ⟨w.heap.size, 3, none⟩ = some (.string { data := #[] }) := m2.cell 3
  have f3 := m2.frozen 3
  have x4 : W3.cell? ⟨w.heap.size, 4, none⟩ = some (.string { data := #[] }) := m2.cell 4
  have f4 := m2.frozen 4
  have x5 : W3.cell? ⟨w.heap.size, 5, none⟩ = some (.slice none 0 0) := m2.cell 5
  have f5 := m2.frozen 5
  have x6 : W3.cell? ⟨w.heap.size, 6, none⟩ = some (iv 0) := m2.cell 6
  have f6 := m2.frozen 6
  have x7 : W3.cell? ⟨w.heap.size, 7, none⟩ = some (iv 0) := m2.cell 7
  have f7 := m2.frozen 7
  have x8 : W3.cell? ⟨w.heap.size, 8, none⟩ = some (iv 0) := m2.cell 8
  have f8 := m2.frozen 8
  have x9 : W3.cell? ⟨w.heap.size, 9, none⟩ = some (iv 0) := m2.cell 9
  have f9 := m2.frozen 9
  have x10 : W3.cell? ⟨w.heap.size, 10, none⟩ = some (.slice none 0 0) := m2.cell 10
  have f10 := m2.frozen 10
  have HR : Hid (Bx (((((((((((W3.setCell ⟨w.heap.size, 0, none⟩ (iv d.id)).setCell ⟨w.heap.size, 1, none⟩ (iv d.kind)).setCell ⟨w.heap.size, 2, none⟩ (iv d.space)).setCell ⟨w.heap.size, 3, none⟩ (.string d.name)).setCell ⟨w.heap.size, 4, none⟩ (.string d.text)).setCell ⟨w.heap.size, 5, none⟩ (.slice ao2 d.al.length ac2)).setCell ⟨w.heap.size, 6, none⟩ (iv d.sf)).setCell ⟨w.heap.size, 7, none⟩ (iv d.st)).setCell ⟨w.heap.size, 8, none⟩ (iv d.ef)).setCell ⟨w.heap.size, 9, none⟩ (iv d.et)).setCell ⟨w.heap.size, 10, none⟩ (.slice none 0 0)) w.heap.size #[(iv d.id), (iv d.kind), (iv d.space), (.string d.name), (.string d.text), (.slice ao2 d.al.length ac2), (iv d.sf), (iv d.st), (iv d.ef), (iv d.et), (.slice none 0 0)] ∧ Sgl d w (.returned (.agg #[(iv d.id), (iv d.kind), (iv d.space), (.string d.name), (.string d.text), (.slice ao2 d.al.length ac2), (iv d.sf), (iv d.st), (iv d.ef), (iv d.et), (.slice none 0 0)])) (((((((((((W3.setCell ⟨w.heap.size, 0, none⟩ (iv d.id)).setCell ⟨w.heap.size, 1, none⟩ (iv d.kind)).setCell ⟨w.heap.size, 2, none⟩ (iv d.space)).setCell ⟨w.heap.size, 3, none⟩ (.string d.name)).setCell ⟨w.heap.size, 4, none⟩ (.string d.text)).setCell ⟨w.heap.size, 5, none⟩ (.slice ao2 d.al.length ac2)).setCell ⟨w.heap.size, 6, none⟩ (iv d.sf)).setCell ⟨w.heap.size, 7, none⟩ (iv d.st)).setCell ⟨w.heap.size, 8, none⟩ (iv d.ef)).setCell ⟨w.heap.size, 9, none⟩ (iv d.et)).setCell ⟨w.heap.size, 10, none⟩ (.slice none 0 0))) :=
    ⟨m2.put _ _ _ _ _ _ _ _ _ _ _, ao2, ac2, rfl, below_put mb (Nat.le_refl _) _ _ _ _ _ _ _ _ _ _ _, fun S hS => (mr S hS).off (b := w.heap.size) (fun g _ hg => put_other W3 w.heap.size _ _ _ _ _ _ _ _ _ _ _ g hg) m2 (by decide)⟩
  clear m1' m2 mb mr HC
  go_wp2_with fail
  refine bodyPost_ret (results_cell_row rfl _ _ w.heap.size 35 _ (0, 0) _ rfl HR.out.1 Try.underlying35 rfl size35) rfl ?_
  exact HR.out.2
end Go.Proofs.Ytcdaghlbfclpkaa
