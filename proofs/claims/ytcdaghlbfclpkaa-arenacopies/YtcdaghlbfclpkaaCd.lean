/- The document's arena: New, Get, what is set. -/
import Derived.Test.YtcdaghlbfclpkaaCc
namespace Go.Proofs.Ytcdaghlbfclpkaa
open Go.RowKit

def rdoc : RN := ⟨⟨0, 0, 0, ⟨#[]⟩, ⟨#[]⟩, .slice none 0 0, [], -1, -1, -1, -1⟩, -1, .slice none 0 0, []⟩
theorem rnew_any (w : World) : Calls Try.prog 9 #[] w (fun e w' => ∃ y, e = .returned (ptr y) ∧ Ra (fun k => k < w.heap.size) w' y [rdoc] ∧ Below w.heap.size w w') := by
  have b0 : Below w.heap.size w (w.alloc (.cells #[iv (-1), iv (-1)] 32)) := (Below.refl _ _).alloc (Nat.le_refl _) _
  have n0 : (w.alloc (.cells #[iv (-1), iv (-1)] 32)).heap[w.heap.size]? = some (.cells #[iv (-1), iv (-1)] 32 (0, 0)) := heap_alloc_new w _
  obtain ⟨W0, hW0⟩ : ∃ W0, w.alloc (.cells #[iv (-1), iv (-1)] 32) = W0 := ⟨_, rfl⟩
  have HW0 : Hid (w.alloc (.cells #[iv (-1), iv (-1)] 32) = W0) := hW0
  rw [hW0] at b0 n0
  clear hW0
  have x0 : W0.cell? ⟨w.heap.size, 0, none⟩ = some (iv (-1)) := by simp [World.cell?, n0]
  have x1 : W0.cell? ⟨w.heap.size, 1, none⟩ = some (iv (-1)) := by simp [World.cell?, n0]
  have b1 : Below W0.heap.size W0 (W0.alloc (.cells #[iv 0, iv 0, iv 0, .string ⟨#[]⟩, .string ⟨#[]⟩, .slice none 0 0, iv (-1), iv (-1), iv (-1), iv (-1), .slice none 0 0, iv (-1), .slice none 0 0] 68)) := (Below.refl _ _).alloc (Nat.le_refl _) _
  have n1 : (W0.alloc (.cells #[iv 0, iv 0, iv 0, .string ⟨#[]⟩, .string ⟨#[]⟩, .slice none 0 0, iv (-1), iv (-1), iv (-1), iv (-1), .slice none 0 0, iv (-1), .slice none 0 0] 68)).heap[W0.heap.size]? = some (.cells #[iv 0, iv 0, iv 0, .string ⟨#[]⟩, .string ⟨#[]⟩, .slice none 0 0, iv (-1), iv (-1), iv (-1), iv (-1), .slice none 0 0, iv (-1), .slice none 0 0] 68 (0, 0)) := heap_alloc_new W0 _
  obtain ⟨W1, hW1⟩ : ∃ W1, W0.alloc (.cells #[iv 0, iv 0, iv 0, .string ⟨#[]⟩, .string ⟨#[]⟩, .slice none 0 0, iv (-1), iv (-1), iv (-1), iv (-1), .slice none 0 0, iv (-1), .slice none 0 0] 68) = W1 := ⟨_, rfl⟩
  have hs1 : W1.heap.size = W0.heap.size + 1 := by rw [← hW1]; simp
  have HS : Hid (W1.heap.size = W0.heap.size + 1) := hs1
  have HB : Hid (∃ y, ptr W1.heap.size = ptr y ∧ Ra (fun k => k < w.heap.size) (W1.alloc (.cells #[.slice (some ⟨W0.heap.size, 0, none⟩) 1 1] 41)) y [rdoc] ∧ Below w.heap.size w (W1.alloc (.cells #[.slice (some ⟨W0.heap.size, 0, none⟩) 1 1] 41))) := by
    rw [hW1] at b1 n1
    have b2 : Below W1.heap.size W1 (W1.alloc (.cells #[.slice (some ⟨W0.heap.size, 0, none⟩) 1 1] 41)) := (Below.refl _ _).alloc (Nat.le_refl _) _
    have bw : Below w.heap.size w W1 := b0.trans (b1.mono b0.size)
    refine ⟨_, rfl, ⟨_, ⟨fun k hk => Nat.lt_of_lt_of_le hk (Nat.le_trans bw.size b2.size), fun hk => Nat.lt_irrefl _ (Nat.lt_of_lt_of_le hk bw.size), heap_alloc_new W1 _, ?_, fun r hr => ?_, fun r hr => ?_, by simp⟩⟩, bw.trans (b2.mono bw.size)⟩
    · refine Rw.old (w := W1) ⟨⟨rfl, .inr ⟨_, 1, _, rfl, Nat.zero_le _, n1, Nat.le_refl _, by unfold maxLen; omega, rfl, rfl⟩⟩, fun g hg hS => ?_⟩ b2
      simp [Value.ownBlock] at hg
      have := b0.size
      omega
    · simp at hr; subst hr; exact Rw.nil _ _ _ _
    · simp at hr; subst hr; exact Rw.nil _ _ _ _
  have HW1 : Hid (W0.alloc (.cells #[iv 0, iv 0, iv 0, .string ⟨#[]⟩, .string ⟨#[]⟩, .slice none 0 0, iv (-1), iv (-1), iv (-1), iv (-1), .slice none 0 0, iv (-1), .slice none 0 0] 68) = W1) := hW1
  clear hW1 b0 n0 b1 n1 hs1
  go_enter Try.func9, Try.ntmps9
  go_upto_region 2 with fail
  rw [HW0.out]
  go_wp2_with fail
  rw [HW1.out, ← HS.out]
  go_ret
  obtain ⟨y, h1, h2⟩ := HB.out
  exact ⟨y, by rw [← h1]; rfl, h2⟩
set_option maxHeartbeats 1000000 in
theorem rget_no {S : Nat → Prop} {w : World} {x g n c : Nat} {L : List RN} (o : RO S w x g n c L) {i : Int} (hi : isN n i = false) :
    Calls Try.prog 38 #[ptr x, iv i] w (fun e w' => e = .returned (.tuple #[.agg #[Value.int IntKind.i64 0, Value.int IntKind.i64 0, Value.int IntKind.i64 0, Value.string { data := #[] }, Value.string { data := #[] }, Value.slice none 0 0, Value.int IntKind.i64 0, Value.int IntKind.i64 0, Value.int IntKind.i64 0, Value.int IntKind.i64 0, Value.slice none 0 0], iv 4]) ∧ Below w.heap.size w w') := by
  have b0 : Below w.heap.size w (w.alloc (.cells #[Value.int IntKind.i64 0, Value.int IntKind.i64 0, Value.int IntKind.i64 0, Value.string { data := #[] }, Value.string { data := #[] }, Value.slice none 0 0, Value.int IntKind.i64 0, Value.int IntKind.i64 0, Value.int IntKind.i64 0, Value.int IntKind.i64 0, Value.slice none 0 0] 35)) := (Below.refl _ _).alloc (Nat.le_refl _) _
  have k1 := is_any (o.old b0) i
  rw [hi] at k1
  have HB : Hid (Below w.heap.size w (w.alloc (.cells #[Value.int IntKind.i64 0, Value.int IntKind.i64 0, Value.int IntKind.i64 0, Value.string { data := #[] }, Value.string { data := #[] }, Value.slice none 0 0, Value.int IntKind.i64 0, Value.int IntKind.i64 0, Value.int IntKind.i64 0, Value.int IntKind.i64 0, Value.slice none 0 0] 35))) := b0
  clear o hi b0
  go_enter Try.func38, Try.ntmps38
  go_wp2_with fail
  refine k1.mono ?_
  rintro e w' ⟨rfl, rfl⟩
  go_wp2_with fail
  go_returns
  exact ⟨rfl, HB.out⟩
set_option maxHeartbeats 2000000 in
theorem rget_any {S : Nat → Prop} {w : World} {x g n c : Nat} {L : List RN} (o : RO S w x g n c L) {i : Nat} {r : RN} (hd : L[i]? = some r) (hf : r.d.al.length ≤ 1000000000) :
    Calls Try.prog 38 #[ptr x, iv (i : Int)] w (fun e w' => ∃ ao ac, e = .returned (.tuple #[.agg #[iv (i : Int), iv r.d.kind, iv r.d.space, .string r.d.name, .string r.d.text, .slice ao r.d.al.length ac, iv r.d.sf, iv r.d.st, iv r.d.ef, iv r.d.et, .slice none 0 0], iv 0]) ∧ Below w.heap.size w w' ∧ ∀ S : Nat → Prop, (∀ k, S k → k < w.heap.size) → Rw S w' 53 2 (.slice ao r.d.al.length ac) r.d.al.length (r.d.al.flatMap At.cells)) := by
  have hi := o.lt hd
  have hi2 : (i : Int) < (n : Int) := by omega
  have b0 : Below w.heap.size w (w.alloc (.cells #[Value.int IntKind.i64 0, Value.int IntKind.i64 0, Value.int IntKind.i64 0, Value.string { data := #[] }, Value.string { data := #[] }, Value.slice none 0 0, Value.int IntKind.i64 0, Value.int IntKind.i64 0, Value.int IntKind.i64 0, Value.int IntKind.i64 0, Value.slice none 0 0] 35)) := (Below.refl _ _).alloc (Nat.le_refl _) _
  have n0 : Bx (w.alloc (.cells #[Value.int IntKind.i64 0, Value.int IntKind.i64 0, Value.int IntKind.i64 0, Value.string { data := #[] }, Value.string { data := #[] }, Value.slice none 0 0, Value.int IntKind.i64 0, Value.int IntKind.i64 0, Value.int IntKind.i64 0, Value.int IntKind.i64 0, Value.slice none 0 0] 35)) w.heap.size #[Value.int IntKind.i64 0, Value.int IntKind.i64 0, Value.int IntKind.i64 0, Value.string { data := #[] }, Value.string { data := #[] }, Value.slice none 0 0, Value.int IntKind.i64 0, Value.int IntKind.i64 0, Value.int IntKind.i64 0, Value.int IntKind.i64 0, Value.slice none 0 0] := heap_alloc_new w _
  obtain ⟨W0, hW0⟩ : ∃ W0, w.alloc (.cells #[Value.int IntKind.i64 0, Value.int IntKind.i64 0, Value.int IntKind.i64 0, Value.string { data := #[] }, Value.string { data := #[] }, Value.slice none 0 0, Value.int IntKind.i64 0, Value.int IntKind.i64 0, Value.int IntKind.i64 0, Value.int IntKind.i64 0, Value.slice none 0 0] 35) = W0 := ⟨_, rfl⟩
  have HW0 : Hid (w.alloc (.cells #[Value.int IntKind.i64 0, Value.int IntKind.i64 0, Value.int IntKind.i64 0, Value.string { data := #[] }, Value.string { data := #[] }, Value.slice none 0 0, Value.int IntKind.i64 0, Value.int IntKind.i64 0, Value.int IntKind.i64 0, Value.int IntKind.i64 0, Value.slice none 0 0] 35) = W0) := hW0
  rw [hW0] at b0 n0
  clear hW0
  have o0 := o.old b0
  have k1 := is_any o0 (i : Int)
  rw [isN_lt hi] at k1
  obtain ⟨ao1, ac1, hav, _⟩ := (o0.v.ats r (List.mem_of_getElem? hd)).slice
  have a0 : Ats W0 r.d.av r.d.al := (o0.v.ats r (List.mem_of_getElem? hd)).atr (by omega)
  have c0 := o0.c
  have d0 : W0.cell? ⟨g, i * 13, none⟩ = some (iv r.d.id) := o0.nd (j := 0) hd (by decide)
  have d1 : W0.cell? ⟨g, i * 13 + 1, none⟩ = some (iv r.d.kind) := o0.nd (j := 1) hd (by decide)
  have d2 : W0.cell? ⟨g, i * 13 + 2, none⟩ = some (iv r.d.space) := o0.nd (j := 2) hd (by decide)
  have d3 : W0.cell? ⟨g, i * 13 + 3, none⟩ = some (.string r.d.name) := o0.nd (j := 3) hd (by decide)
  have d4 : W0.cell? ⟨g, i * 13 + 4, none⟩ = some (.string r.d.text) := o0.nd (j := 4) hd (by decide)
  have d5 : W0.cell? ⟨g, i * 13 + 5, none⟩ = some r.d.av := o0.nd (j := 5) hd (by decide)
  have d6 : W0.cell? ⟨g, i * 13 + 6, none⟩ = some (iv r.d.sf) := o0.nd (j := 6) hd (by decide)
  have d7 : W0.cell? ⟨g, i * 13 + 7, none⟩ = some (iv r.d.st) := o0.nd (j := 7) hd (by decide)
  have d8 : W0.cell? ⟨g, i * 13 + 8, none⟩ = some (iv r.d.ef) := o0.nd (j := 8) hd (by decide)
  have d9 : W0.cell? ⟨g, i * 13 + 9, none⟩ = some (iv r.d.et) := o0.nd (j := 9) hd (by decide)
  have d10 : W0.cell? ⟨g, i * 13 + 10, none⟩ = some (.slice none 0 0) := o0.nd (j := 10) hd (by decide)
  rw [hav] at d5 a0
  have k2 := bare_any r.d a0 hf none 0 0
  have HB : Hid (Below w.heap.size w W0 ∧ Bx W0 w.heap.size #[Value.int IntKind.i64 0, Value.int IntKind.i64 0, Value.int IntKind.i64 0, Value.string { data := #[] }, Value.string { data := #[] }, Value.slice none 0 0, Value.int IntKind.i64 0, Value.int IntKind.i64 0, Value.int IntKind.i64 0, Value.int IntKind.i64 0, Value.slice none 0 0]) := ⟨b0, n0⟩
  clear o o0 hd b0 n0 a0 hav hi
  go_enter Try.func38, Try.ntmps38
  go_upto_region 1 with fail
  rw [HW0.out]
  go_wp2_with fail
  refine k1.mono ?_
  rintro e w1 ⟨rfl, h1⟩
  rw [h1]
  clear h1
  go_wp2_with fail
  refine k2.mono ?_
  rintro e w2 ⟨ao, ac, rfl, b2, hr⟩
  have b3 : Below w2.heap.size w2 (w2.alloc (.cells #[iv 0, iv r.d.kind, iv r.d.space, .string r.d.name, .string r.d.text, .slice ao r.d.al.length ac, iv r.d.sf, iv r.d.st, iv r.d.ef, iv r.d.et, .slice none 0 0] 35)) := (Below.refl _ _).alloc (Nat.le_refl _) _
  have n3 : Bx (w2.alloc (.cells #[iv 0, iv r.d.kind, iv r.d.space, .string r.d.name, .string r.d.text, .slice ao r.d.al.length ac, iv r.d.sf, iv r.d.st, iv r.d.ef, iv r.d.et, .slice none 0 0] 35)) w2.heap.size #[iv 0, iv r.d.kind, iv r.d.space, .string r.d.name, .string r.d.text, .slice ao r.d.al.length ac, iv r.d.sf, iv r.d.st, iv r.d.ef, iv r.d.et, .slice none 0 0] := heap_alloc_new w2 _
  have q := (HB.out.2.old b2).old b3
  have hne : w2.heap.size ≠ w.heap.size := by
    have h1 := HB.out.2.lt
    have h2 := b2.size
    omega
  have bw3 : Below w.heap.size w (w2.alloc (.cells #[iv 0, iv r.d.kind, iv r.d.space, .string r.d.name, .string r.d.text, .slice ao r.d.al.length ac, iv r.d.sf, iv r.d.st, iv r.d.ef, iv r.d.et, .slice none 0 0] 35)) := (HB.out.1.trans (b2.mono HB.out.1.size)).trans (b3.mono (Nat.le_trans HB.out.1.size b2.size))
  have hr3 : ∀ S : Nat → Prop, (∀ k, S k → k < w.heap.size) → Rw S (w2.alloc (.cells #[iv 0, iv r.d.kind, iv r.d.space, .string r.d.name, .string r.d.text, .slice ao r.d.al.length ac, iv r.d.sf, iv r.d.st, iv r.d.ef, iv r.d.et, .slice none 0 0] 35)) 53 2 (.slice ao r.d.al.length ac) r.d.al.length (r.d.al.flatMap At.cells) := fun S hS => (hr S (fun k hk => Nat.lt_of_lt_of_le (hS k hk) HB.out.1.size)).old b3
  have n4 : Bx ((w2.alloc (.cells #[iv 0, iv r.d.kind, iv r.d.space, .string r.d.name, .string r.d.text, .slice ao r.d.al.length ac, iv r.d.sf, iv r.d.st, iv r.d.ef, iv r.d.et, .slice none 0 0] 35)).setCell ⟨w2.heap.size, 0, none⟩ (iv (i : Int))) w2.heap.size #[iv (i : Int), iv r.d.kind, iv r.d.space, .string r.d.name, .string r.d.text, .slice ao r.d.al.length ac, iv r.d.sf, iv r.d.st, iv r.d.ef, iv r.d.et, .slice none 0 0] := n3.set 0 (iv (i : Int))
  have q4 : Bx ((w2.alloc (.cells #[iv 0, iv r.d.kind, iv r.d.space, .string r.d.name, .string r.d.text, .slice ao r.d.al.length ac, iv r.d.sf, iv r.d.st, iv r.d.ef, iv r.d.et, .slice none 0 0] 35)).setCell ⟨w2.heap.size, 0, none⟩ (iv (i : Int))) w.heap.size #[Value.int IntKind.i64 0, Value.int IntKind.i64 0, Value.int IntKind.i64 0, Value.string { data := #[] }, Value.string { data := #[] }, Value.slice none 0 0, Value.int IntKind.i64 0, Value.int IntKind.i64 0, Value.int IntKind.i64 0, Value.int IntKind.i64 0, Value.slice none 0 0] := q.other hne 0 _
  have bw4 : Below w.heap.size w ((w2.alloc (.cells #[iv 0, iv r.d.kind, iv r.d.space, .string r.d.name, .string r.d.text, .slice ao r.d.al.length ac, iv r.d.sf, iv r.d.st, iv r.d.ef, iv r.d.et, .slice none 0 0] 35)).setCell ⟨w2.heap.size, 0, none⟩ (iv (i : Int))) := bw3.setCell (p := ⟨w2.heap.size, 0, none⟩) (Nat.le_trans HB.out.1.size b2.size) _
  have hr4 : ∀ S : Nat → Prop, (∀ k, S k → k < w.heap.size) → Rw S ((w2.alloc (.cells #[iv 0, iv r.d.kind, iv r.d.space, .string r.d.name, .string r.d.text, .slice ao r.d.al.length ac, iv r.d.sf, iv r.d.st, iv r.d.ef, iv r.d.et, .slice none 0 0] 35)).setCell ⟨w2.heap.size, 0, none⟩ (iv (i : Int))) 53 2 (.slice ao r.d.al.length ac) r.d.al.length (r.d.al.flatMap At.cells) := fun S hS => (hr3 S hS).off (b := w2.heap.size) (fun g _ hg => heap_setCell_other _ ⟨w2.heap.size, 0, none⟩ g _ hg) n3 (by decide)
  have x0 : (w2.alloc (.cells #[iv 0, iv r.d.kind, iv r.d.space, .string r.d.name, .string r.d.text, .slice ao r.d.al.length ac, iv r.d.sf, iv r.d.st, iv r.d.ef, iv r.d.et, .slice none 0 0] 35)).cell? ⟨w2.heap.size, 0, none⟩ = some (iv 0) := n3.cell 0
  have f0 := n3.frozen 0
  clear d0 d1 d2 d3 d4 d5 d6 d7 d8 d9 d10 c0 b2 hr b3 n3 q bw3 hr3 k1 k2
  go_upto_region 4 with fail
  generalize hW4 : w2.alloc (.cells #[iv 0, iv r.d.kind, iv r.d.space, .string r.d.name, .string r.d.text, .slice ao r.d.al.length ac, iv r.d.sf, iv r.d.st, iv r.d.ef, iv r.d.et, .slice none 0 0] 35) = W4 at *
  clear hW4
  go_upto_region 5 with fail
  generalize hW5 : W4.setCell ⟨w2.heap.size, 0, none⟩ (iv (i : Int)) = W5 at *
  clear hW5 x0 f0
  have y0 : W5.cell? ⟨w2.heap.size, 0, none⟩ = some (iv (i : Int)) := n4.cell 0
  have y1 : W5.cell? ⟨w2.heap.size, 1, none⟩ = some (iv r.d.kind) := n4.cell 1
  have y2 : W5.cell? ⟨w2.heap.size, 2, none⟩ = some (iv r.d.space) := n4.cell 2
  have y3 : W5.cell? ⟨w2.heap.size, 3, none⟩ = some (.string r.d.name) := n4.cell 3
  have y4 : W5.cell? ⟨w2.heap.size, 4, none⟩ = some (.string r.d.text) := n4.cell 4
  have y5 : W5.cell? ⟨w2.heap.size, 5, none⟩ = some (.slice ao r.d.al.length ac) := n4.cell 5
  have y6 : W5.cell? ⟨w2.heap.size, 6, none⟩ = some (iv r.d.sf) := n4.cell 6
  have y7 : W5.cell? ⟨w2.heap.size, 7, none⟩ = some (iv r.d.st) := n4.cell 7
  have y8 : W5.cell? ⟨w2.heap.size, 8, none⟩ = some (iv r.d.ef) := n4.cell 8
  have y9 : W5.cell? ⟨w2.heap.size, 9, none⟩ = some (iv r.d.et) := n4.cell 9
  have y10 : W5.cell? ⟨w2.heap.size, 10, none⟩ = some (.slice none 0 0) := n4.cell 10
  have z0 : W5.cell? ⟨w.heap.size, 0, none⟩ = some (iv 0) := q4.cell 0
  have ff0 := q4.frozen 0
  have z1 : W5.cell? ⟨w.heap.size, 1, none⟩ = some (iv 0) := q4.cell 1
  have ff1 := q4.frozen 1
  have z2 : W5.cell? ⟨w.heap.size, 2, none⟩ = some (iv 0) := q4.cell 2
  have ff2 := q4.frozen 2
  have z3 : W5.cell? ⟨w.heap.size, 3, none⟩ = some (.string { data := #[] }) := q4.cell 3
  have ff3 := q4.frozen 3
  have z4 : W5.cell? ⟨w.heap.size, 4, none⟩ = some (.string { data := #[] }) := q4.cell 4
  have ff4 := q4.frozen 4
  have z5 : W5.cell? ⟨w.heap.size, 5, none⟩ = some (.slice none 0 0) := q4.cell 5
  have ff5 := q4.frozen 5
  have z6 : W5.cell? ⟨w.heap.size, 6, none⟩ = some (iv 0) := q4.cell 6
  have ff6 := q4.frozen 6
  have z7 : W5.cell? ⟨w.heap.size, 7, none⟩ = some (iv 0) := q4.cell 7
  have ff7 := q4.frozen 7
  have z8 : W5.cell? ⟨w.heap.size, 8, none⟩ = some (iv 0) := q4.cell 8
  have ff8 := q4.frozen 8
  have z9 : W5.cell? ⟨w.heap.size, 9, none⟩ = some (iv 0) := q4.cell 9
  have ff9 := q4.frozen 9
  have z10 : W5.cell? ⟨w.heap.size, 10, none⟩ = some (.slice none 0 0) := q4.cell 10
  have ff10 := q4.frozen 10
  have HC : Hid (Bx (((((((((((W5.setCell ⟨w.heap.size, 0, none⟩ (iv (i : Int))).setCell ⟨w.heap.size, 1, none⟩ (iv r.d.kind)).setCell ⟨w.heap.size, 2, none⟩ (iv r.d.space)).setCell ⟨w.heap.size, 3, none⟩ (.string r.d.name)).setCell ⟨w.heap.size, 4, none⟩ (.string r.d.text)).setCell ⟨w.heap.size, 5, none⟩ (.slice ao r.d.al.length ac)).setCell ⟨w.heap.size, 6, none⟩ (iv r.d.sf)).setCell ⟨w.heap.size, 7, none⟩ (iv r.d.st)).setCell ⟨w.heap.size, 8, none⟩ (iv r.d.ef)).setCell ⟨w.heap.size, 9, none⟩ (iv r.d.et)).setCell ⟨w.heap.size, 10, none⟩ (.slice none 0 0)) w.heap.size #[iv (i : Int), iv r.d.kind, iv r.d.space, .string r.d.name, .string r.d.text, .slice ao r.d.al.length ac, iv r.d.sf, iv r.d.st, iv r.d.ef, iv r.d.et, .slice none 0 0] ∧ Below w.heap.size w (((((((((((W5.setCell ⟨w.heap.size, 0, none⟩ (iv (i : Int))).setCell ⟨w.heap.size, 1, none⟩ (iv r.d.kind)).setCell ⟨w.heap.size, 2, none⟩ (iv r.d.space)).setCell ⟨w.heap.size, 3, none⟩ (.string r.d.name)).setCell ⟨w.heap.size, 4, none⟩ (.string r.d.text)).setCell ⟨w.heap.size, 5, none⟩ (.slice ao r.d.al.length ac)).setCell ⟨w.heap.size, 6, none⟩ (iv r.d.sf)).setCell ⟨w.heap.size, 7, none⟩ (iv r.d.st)).setCell ⟨w.heap.size, 8, none⟩ (iv r.d.ef)).setCell ⟨w.heap.size, 9, none⟩ (iv r.d.et)).setCell ⟨w.heap.size, 10, none⟩ (.slice none 0 0)) ∧ ∀ S : Nat → Prop, (∀ k, S k → k < w.heap.size) → Rw S (((((((((((W5.setCell ⟨w.heap.size, 0, none⟩ (iv (i : Int))).setCell ⟨w.heap.size, 1, none⟩ (iv r.d.kind)).setCell ⟨w.heap.size, 2, none⟩ (iv r.d.space)).setCell ⟨w.heap.size, 3, none⟩ (.string r.d.name)).setCell ⟨w.heap.size, 4, none⟩ (.string r.d.text)).setCell ⟨w.heap.size, 5, none⟩ (.slice ao r.d.al.length ac)).setCell ⟨w.heap.size, 6, none⟩ (iv r.d.sf)).setCell ⟨w.heap.size, 7, none⟩ (iv r.d.st)).setCell ⟨w.heap.size, 8, none⟩ (iv r.d.ef)).setCell ⟨w.heap.size, 9, none⟩ (iv r.d.et)).setCell ⟨w.heap.size, 10, none⟩ (.slice none 0 0)) 53 2 (.slice ao r.d.al.length ac) r.d.al.length (r.d.al.flatMap At.cells)) :=
    ⟨q4.put _ _ _ _ _ _ _ _ _ _ _, below_put bw4 (Nat.le_refl _) _ _ _ _ _ _ _ _ _ _ _, fun S hS => (hr4 S hS).off (b := w.heap.size) (fun g _ hg => put_other W5 w.heap.size _ _ _ _ _ _ _ _ _ _ _ g hg) q4 (by decide)⟩
  clear n4 q4 bw4 hr4
  go_wp2_with fail
  have r0 := HC.out.1
  generalize hW3 : (((((((((((W5.setCell ⟨w.heap.size, 0, none⟩ (iv (i : Int))).setCell ⟨w.heap.size, 1, none⟩ (iv r.d.kind)).setCell ⟨w.heap.size, 2, none⟩ (iv r.d.space)).setCell ⟨w.heap.size, 3, none⟩ (.string r.d.name)).setCell ⟨w.heap.size, 4, none⟩ (.string r.d.text)).setCell ⟨w.heap.size, 5, none⟩ (.slice ao r.d.al.length ac)).setCell ⟨w.heap.size, 6, none⟩ (iv r.d.sf)).setCell ⟨w.heap.size, 7, none⟩ (iv r.d.st)).setCell ⟨w.heap.size, 8, none⟩ (iv r.d.ef)).setCell ⟨w.heap.size, 9, none⟩ (iv r.d.et)).setCell ⟨w.heap.size, 10, none⟩ (.slice none 0 0)) = W3 at *
  clear hW3
  obtain ⟨t0, t1, t2, t3, t4, t5, t6, t7, t8, t9, t10⟩ : W3.cell? ⟨w.heap.size, 0, none⟩ = some (iv (i : Int)) ∧ W3.cell? ⟨w.heap.size, 1, none⟩ = some (iv r.d.kind) ∧ W3.cell? ⟨w.heap.size, 2, none⟩ = some (iv r.d.space) ∧ W3.cell? ⟨w.heap.size, 3, none⟩ = some (.string r.d.name) ∧ W3.cell? ⟨w.heap.size, 4, none⟩ = some (.string r.d.text) ∧ W3.cell? ⟨w.heap.size, 5, none⟩ = some (.slice ao r.d.al.length ac) ∧ W3.cell? ⟨w.heap.size, 6, none⟩ = some (iv r.d.sf) ∧ W3.cell? ⟨w.heap.size, 7, none⟩ = some (iv r.d.st) ∧ W3.cell? ⟨w.heap.size, 8, none⟩ = some (iv r.d.ef) ∧ W3.cell? ⟨w.heap.size, 9, none⟩ = some (iv r.d.et) ∧ W3.cell? ⟨w.heap.size, 10, none⟩ = some (.slice none 0 0) := ⟨r0.cell 0, r0.cell 1, r0.cell 2, r0.cell 3, r0.cell 4, r0.cell 5, r0.cell 6, r0.cell 7, r0.cell 8, r0.cell 9, r0.cell 10⟩
  refine bodyPost_ret (by simp [results, Try.results38, go_sem, t0, t1, t2, t3, t4, t5, t6, t7, t8, t9, t10]; try rfl) rfl ?_
  exact ⟨ao, ac, rfl, HC.out.2⟩
end Go.Proofs.Ytcdaghlbfclpkaa
