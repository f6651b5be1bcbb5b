/- New, Make, Get. -/
import Derived.Test.YtcdaghlbfclpkaaAk
import Derived.Handy
namespace Go.Proofs.Ytcdaghlbfclpkaa
open Go.RowKit

/-- The document, as New makes it. -/
def doc0 (av : Value) : Nd := ⟨0, 0, 0, ⟨#[]⟩, ⟨#[]⟩, av, [], -1, -1, -1, -1⟩
abbrev Newed (w : World) (e : Ending) (w' : World) : Prop := ∃ x av, e = .returned (ptr x) ∧ Ar (fun k => k < w.heap.size) w' x [doc0 av] [⟨false, 0, 0, 0⟩] [⟨0, 0⟩] ∧ Below w.heap.size w w'
/-- No span. -/
abbrev Noned (w : World) (e : Ending) (w' : World) : Prop := e = .returned (.agg #[iv (-1), iv (-1)]) ∧ Below w.heap.size w w'
theorem none_any (w : World) : Calls Try.prog 31 #[] w (Noned w) := by
  have HB : Hid (Below w.heap.size w (w.alloc (.cells #[iv (-1), iv (-1)] 32))) := (Below.refl _ _).alloc (Nat.le_refl _) _
  go_enter Try.func31, Try.ntmps31
  go_wp2_with fail
  go_returns
  exact ⟨rfl, HB.out⟩
theorem new_any (w : World) : Calls Try.prog 8 #[] w (Newed w) := by
  have b0 : Below w.heap.size w (w.alloc (.cells #[Value.slice none 0 0, Value.slice none 0 0, Value.slice none 0 0] 65)) := (Below.refl _ _).alloc (Nat.le_refl _) _
  have n0 := heap_alloc_new w (.cells #[Value.slice none 0 0, Value.slice none 0 0, Value.slice none 0 0] 65)
  obtain ⟨W0, hW0⟩ : ∃ W0, w.alloc (.cells #[Value.slice none 0 0, Value.slice none 0 0, Value.slice none 0 0] 65) = W0 := ⟨_, rfl⟩
  have HW0 : Hid (w.alloc (.cells #[Value.slice none 0 0, Value.slice none 0 0, Value.slice none 0 0] 65) = W0) := hW0
  rw [hW0] at b0 n0
  clear hW0
  have A0 : Hid (Ar (fun k => k < w.heap.size) W0 w.heap.size [] [] []) := ⟨_, _, _, ⟨fun k hk => Nat.lt_of_lt_of_le hk b0.size, Nat.lt_irrefl _, n0, Rw.nil _ _ _ _, Rw.nil _ _ _ _, Rw.nil _ _ _ _, fun d hd => by simp at hd, rfl, rfl, by simp⟩⟩
  have HB : Hid (Below w.heap.size w W0) := b0
  clear n0 b0
  go_enter Try.func8, Try.ntmps8
  go_upto_region 2 with fail
  rw [HW0.out]
  go_wp2_with fail
  refine (none_any _).mono ?_
  rintro e W1 ⟨rfl, b1⟩
  go_wp2_with fail
  refine (none_any _).mono ?_
  rintro e W2 ⟨rfl, b2⟩
  have a2 := (A0.out.old b1).old b2
  have k := add_any a2 (n := 0) rfl (by decide) (doc0 (.slice none 0 0)) (ao := none) (ac := 0) ⟨⟨none, 0, rfl, fun i x hx => by simp [doc0] at hx⟩, by simp [doc0]⟩ none 0 0
  have HB2 : Hid (Below w.heap.size w W2) := (HB.out.trans (b1.mono HB.out.size)).trans (b2.mono (Nat.le_trans HB.out.size b1.size))
  clear a2 b1 b2 HB A0
  go_wp2_with fail
  refine k.mono ?_
  rintro e w' ⟨av, rfl, ha, hk⟩
  have HZ : Hid (Newed w (.returned (ptr w.heap.size)) w') := ⟨_, av, rfl, ha, HB2.out.trans (hk.below (fun _ h => h) HB2.out.size)⟩
  clear ha hk k
  go_wp2_with fail
  go_ret
  exact HZ.out

/-- What is no node that can be made. -/
def mkNo (kind : Int) : Bool := decide (kind < 1) || decide (kind > 4)
theorem make_nil (w : World) (d : Nd) (ao : Option Addr) (ac : Nat) (ko : Option Addr) (kn kc : Nat) : Calls Try.prog 23 #[.pointer none, .agg #[iv d.id, iv d.kind, iv d.space, .string d.name, .string d.text, (.slice ao d.al.length ac), iv d.sf, iv d.st, iv d.ef, iv d.et, (.slice ko kn kc)]] w (fun e w' => e = .returned (iv (-1)) ∧ Below w.heap.size w w') := by
  have b0 : Below w.heap.size w (w.alloc (.cells #[iv d.id, iv d.kind, iv d.space, .string d.name, .string d.text, (.slice ao d.al.length ac), iv d.sf, iv d.st, iv d.ef, iv d.et, (.slice ko kn kc)] 35)) := (Below.refl _ _).alloc (Nat.le_refl _) _
  have HB : Hid (Below w.heap.size w (w.alloc (.cells #[iv d.id, iv d.kind, iv d.space, .string d.name, .string d.text, (.slice ao d.al.length ac), iv d.sf, iv d.st, iv d.ef, iv d.et, (.slice ko kn kc)] 35))) := b0
  clear b0
  go_enter Try.func23, Try.ntmps23
  go_wp2_with fail
  go_ret
  exact ⟨rfl, HB.out⟩
set_option maxHeartbeats 1000000 in
theorem make_no {w : World} (x : Nat) (d : Nd) (ao : Option Addr) (ac : Nat) (ko : Option Addr) (kn kc : Nat) (hk : mkNo d.kind = true) : Calls Try.prog 23 #[ptr x, .agg #[iv d.id, iv d.kind, iv d.space, .string d.name, .string d.text, (.slice ao d.al.length ac), iv d.sf, iv d.st, iv d.ef, iv d.et, (.slice ko kn kc)]] w (fun e w' => e = .returned (iv (-1)) ∧ Below w.heap.size w w') := by
  have b0 : Below w.heap.size w (w.alloc (.cells #[iv d.id, iv d.kind, iv d.space, .string d.name, .string d.text, (.slice ao d.al.length ac), iv d.sf, iv d.st, iv d.ef, iv d.et, (.slice ko kn kc)] 35)) := (Below.refl _ _).alloc (Nat.le_refl _) _
  have n0 : Bx (w.alloc (.cells #[iv d.id, iv d.kind, iv d.space, .string d.name, .string d.text, (.slice ao d.al.length ac), iv d.sf, iv d.st, iv d.ef, iv d.et, (.slice ko kn kc)] 35)) w.heap.size #[iv d.id, iv d.kind, iv d.space, .string d.name, .string d.text, (.slice ao d.al.length ac), iv d.sf, iv d.st, iv d.ef, iv d.et, (.slice ko kn kc)] := heap_alloc_new w _
  obtain ⟨W0, hW0⟩ : ∃ W0, w.alloc (.cells #[iv d.id, iv d.kind, iv d.space, .string d.name, .string d.text, (.slice ao d.al.length ac), iv d.sf, iv d.st, iv d.ef, iv d.et, (.slice ko kn kc)] 35) = W0 := ⟨_, rfl⟩
  have HW0 : Hid (w.alloc (.cells #[iv d.id, iv d.kind, iv d.space, .string d.name, .string d.text, (.slice ao d.al.length ac), iv d.sf, iv d.st, iv d.ef, iv d.et, (.slice ko kn kc)] 35) = W0) := hW0
  rw [hW0] at b0 n0
  have y1 : W0.cell? ⟨w.heap.size, 1, none⟩ = some (iv d.kind) := n0.cell 1
  have HB : Hid (Below w.heap.size w W0) := b0
  clear hW0 b0 n0
  by_cases h1 : d.kind < 1
  · have hd : decide (d.kind < 1) = true := decide_eq_true h1
    go_enter Try.func23, Try.ntmps23
    go_upto_region 1 with fail
    rw [HW0.out]
    go_wp2_with fail
    go_ret
    exact ⟨rfl, HB.out⟩
  · have hd : decide (d.kind < 1) = false := decide_eq_false h1
    have hd2 : decide (d.kind > 4) = true := by simpa [mkNo, h1] using hk
    clear h1 hk
    go_enter Try.func23, Try.ntmps23
    go_upto_region 1 with fail
    rw [HW0.out]
    go_wp2_with fail
    go_ret
    exact ⟨rfl, HB.out⟩
set_option maxHeartbeats 1000000 in
theorem make_any {S : Nat → Prop} {w : World} {x : Nat} {N : List Nd} {P : List Sp} {E : List En} (h : Ar S w x N P E) {n : Nat} (hn : N.length = n) (hn2 : n ≤ 900000000) (d : Nd) (hk : mkNo d.kind = false) {ao : Option Addr} {ac : Nat} (ha : Ats w (.slice ao d.al.length ac) d.al) (ko : Option Addr) (kn kc : Nat) :
    Calls Try.prog 23 #[ptr x, .agg #[iv d.id, iv d.kind, iv d.space, .string d.name, .string d.text, (.slice ao d.al.length ac), iv d.sf, iv d.st, iv d.ef, iv d.et, (.slice ko kn kc)]] w (Added S x n d N P E w) := by
  have b0 : Below w.heap.size w (w.alloc (.cells #[iv d.id, iv d.kind, iv d.space, .string d.name, .string d.text, (.slice ao d.al.length ac), iv d.sf, iv d.st, iv d.ef, iv d.et, (.slice ko kn kc)] 35)) := (Below.refl _ _).alloc (Nat.le_refl _) _
  have n0 : Bx (w.alloc (.cells #[iv d.id, iv d.kind, iv d.space, .string d.name, .string d.text, (.slice ao d.al.length ac), iv d.sf, iv d.st, iv d.ef, iv d.et, (.slice ko kn kc)] 35)) w.heap.size #[iv d.id, iv d.kind, iv d.space, .string d.name, .string d.text, (.slice ao d.al.length ac), iv d.sf, iv d.st, iv d.ef, iv d.et, (.slice ko kn kc)] := heap_alloc_new w _
  obtain ⟨W0, hW0⟩ : ∃ W0, w.alloc (.cells #[iv d.id, iv d.kind, iv d.space, .string d.name, .string d.text, (.slice ao d.al.length ac), iv d.sf, iv d.st, iv d.ef, iv d.et, (.slice ko kn kc)] 35) = W0 := ⟨_, rfl⟩
  have HW0 : Hid (w.alloc (.cells #[iv d.id, iv d.kind, iv d.space, .string d.name, .string d.text, (.slice ao d.al.length ac), iv d.sf, iv d.st, iv d.ef, iv d.et, (.slice ko kn kc)] 35) = W0) := hW0
  rw [hW0] at b0 n0
  have y0 : W0.cell? ⟨w.heap.size, 0, none⟩ = some (iv d.id) := n0.cell 0
  have y1 : W0.cell? ⟨w.heap.size, 1, none⟩ = some (iv d.kind) := n0.cell 1
  have y2 : W0.cell? ⟨w.heap.size, 2, none⟩ = some (iv d.space) := n0.cell 2
  have y3 : W0.cell? ⟨w.heap.size, 3, none⟩ = some (.string d.name) := n0.cell 3
  have y4 : W0.cell? ⟨w.heap.size, 4, none⟩ = some (.string d.text) := n0.cell 4
  have y5 : W0.cell? ⟨w.heap.size, 5, none⟩ = some (.slice ao d.al.length ac) := n0.cell 5
  have y6 : W0.cell? ⟨w.heap.size, 6, none⟩ = some (iv d.sf) := n0.cell 6
  have y7 : W0.cell? ⟨w.heap.size, 7, none⟩ = some (iv d.st) := n0.cell 7
  have y8 : W0.cell? ⟨w.heap.size, 8, none⟩ = some (iv d.ef) := n0.cell 8
  have y9 : W0.cell? ⟨w.heap.size, 9, none⟩ = some (iv d.et) := n0.cell 9
  have y10 : W0.cell? ⟨w.heap.size, 10, none⟩ = some (.slice ko kn kc) := n0.cell 10
  have k := add_any (h.old b0) hn hn2 d (ha.old b0) ko kn kc
  have HB : Hid (Below w.heap.size w W0) := b0
  have hd : decide (d.kind < 1) = false := decide_eq_false (fun q => by simp [mkNo, q] at hk)
  have hd2 : decide (d.kind > 4) = false := decide_eq_false (fun q => by simp [mkNo, q] at hk)
  clear hW0 b0 n0 h hn hn2 ha hk
  go_enter Try.func23, Try.ntmps23
  go_upto_region 1 with fail
  rw [HW0.out]
  go_wp2_with fail
  refine k.mono ?_
  rintro e w' ⟨av, rfl, ha, hk⟩
  have HZ : Hid (Added S x n d N P E w (.returned (iv (n : Int))) w') := ⟨av, rfl, ha, (Keep.old HB.out).trans hk⟩
  clear ha hk k
  go_wp2_with fail
  go_ret
  exact HZ.out

theorem get_nil (w : World) (i : Int) : Calls Try.prog 25 #[.pointer none, iv i] w (fun e w' => e = .returned (.tuple #[.agg #[Value.int IntKind.i64 0, Value.int IntKind.i64 0, Value.int IntKind.i64 0, Value.string { data := #[] }, Value.string { data := #[] }, Value.slice none 0 0, Value.int IntKind.i64 0, Value.int IntKind.i64 0, Value.int IntKind.i64 0, Value.int IntKind.i64 0, Value.slice none 0 0], iv 3]) ∧ Below w.heap.size w w') := by
  have b0 : Below w.heap.size w (w.alloc (.cells #[Value.int IntKind.i64 0, Value.int IntKind.i64 0, Value.int IntKind.i64 0, Value.string { data := #[] }, Value.string { data := #[] }, Value.slice none 0 0, Value.int IntKind.i64 0, Value.int IntKind.i64 0, Value.int IntKind.i64 0, Value.int IntKind.i64 0, Value.slice none 0 0] 35)) := (Below.refl _ _).alloc (Nat.le_refl _) _
  go_enter Try.func25, Try.ntmps25
  go_wp2_with fail
  go_returns
  exact ⟨rfl, b0⟩
set_option maxHeartbeats 1000000 in
theorem get_any {S : Nat → Prop} {w : World} {x g n cn h cs k ce : Nat} {N : List Nd} {P : List Sp} {E : List En} (o : Op3 S w x g n cn h cs k ce N P E) {i : Nat} {d : Nd} (hd : N[i]? = some d) (hf : d.al.length ≤ 1000000000) :
    Calls Try.prog 25 #[ptr x, iv (i : Int)] w (fun e w' => ∃ ao ac, e = .returned (.tuple #[.agg #[iv d.id, iv d.kind, iv d.space, .string d.name, .string d.text, (.slice ao d.al.length ac), iv d.sf, iv d.st, iv d.ef, iv d.et, (.slice none 0 0)], iv 0]) ∧ Below w.heap.size w w' ∧ ∀ S : Nat → Prop, (∀ k, S k → k < w.heap.size) → Rw S w' 53 2 (.slice ao d.al.length ac) d.al.length (d.al.flatMap At.cells)) := by
  have hi : i < n := by rw [← o.nn]; exact (List.getElem?_eq_some_iff.1 hd).1
  have b0 : Below w.heap.size w (w.alloc (.cells #[Value.int IntKind.i64 0, Value.int IntKind.i64 0, Value.int IntKind.i64 0, Value.string { data := #[] }, Value.string { data := #[] }, Value.slice none 0 0, Value.int IntKind.i64 0, Value.int IntKind.i64 0, Value.int IntKind.i64 0, Value.int IntKind.i64 0, Value.slice none 0 0] 35)) := (Below.refl _ _).alloc (Nat.le_refl _) _
  have n0 : Bx (w.alloc (.cells #[Value.int IntKind.i64 0, Value.int IntKind.i64 0, Value.int IntKind.i64 0, Value.string { data := #[] }, Value.string { data := #[] }, Value.slice none 0 0, Value.int IntKind.i64 0, Value.int IntKind.i64 0, Value.int IntKind.i64 0, Value.int IntKind.i64 0, Value.slice none 0 0] 35)) w.heap.size #[Value.int IntKind.i64 0, Value.int IntKind.i64 0, Value.int IntKind.i64 0, Value.string { data := #[] }, Value.string { data := #[] }, Value.slice none 0 0, Value.int IntKind.i64 0, Value.int IntKind.i64 0, Value.int IntKind.i64 0, Value.int IntKind.i64 0, Value.slice none 0 0] := heap_alloc_new w _
  obtain ⟨W0, hW0⟩ : ∃ W0, w.alloc (.cells #[Value.int IntKind.i64 0, Value.int IntKind.i64 0, Value.int IntKind.i64 0, Value.string { data := #[] }, Value.string { data := #[] }, Value.slice none 0 0, Value.int IntKind.i64 0, Value.int IntKind.i64 0, Value.int IntKind.i64 0, Value.int IntKind.i64 0, Value.slice none 0 0] 35) = W0 := ⟨_, rfl⟩
  have HW0 : Hid (w.alloc (.cells #[Value.int IntKind.i64 0, Value.int IntKind.i64 0, Value.int IntKind.i64 0, Value.string { data := #[] }, Value.string { data := #[] }, Value.slice none 0 0, Value.int IntKind.i64 0, Value.int IntKind.i64 0, Value.int IntKind.i64 0, Value.int IntKind.i64 0, Value.slice none 0 0] 35) = W0) := hW0
  rw [hW0] at b0 n0
  clear hW0
  have o0 := o.old b0
  have k1 := has_any o0 (i : Int)
  rw [isN_lt hi] at k1
  have k2 := single_any o0 hd hf
  have HB : Hid (Below w.heap.size w W0 ∧ Bx W0 w.heap.size #[Value.int IntKind.i64 0, Value.int IntKind.i64 0, Value.int IntKind.i64 0, Value.string { data := #[] }, Value.string { data := #[] }, Value.slice none 0 0, Value.int IntKind.i64 0, Value.int IntKind.i64 0, Value.int IntKind.i64 0, Value.int IntKind.i64 0, Value.slice none 0 0]) := ⟨b0, n0⟩
  clear o o0 hd b0 n0
  go_enter Try.func25, Try.ntmps25
  go_upto_region 1 with fail
  rw [HW0.out]
  go_wp2_with fail
  refine k1.mono ?_
  rintro e w1 ⟨rfl, rfl⟩
  go_wp2_with fail
  refine k2.mono ?_
  rintro e w2 ⟨ao, ac, rfl, b2, hr⟩
  have q := HB.out.2.old b2
  have HC : Hid (Bx (((((((((((w2.setCell ⟨w.heap.size, 0, none⟩ (iv d.id)).setCell ⟨w.heap.size, 1, none⟩ (iv d.kind)).setCell ⟨w.heap.size, 2, none⟩ (iv d.space)).setCell ⟨w.heap.size, 3, none⟩ (.string d.name)).setCell ⟨w.heap.size, 4, none⟩ (.string d.text)).setCell ⟨w.heap.size, 5, none⟩ (.slice ao d.al.length ac)).setCell ⟨w.heap.size, 6, none⟩ (iv d.sf)).setCell ⟨w.heap.size, 7, none⟩ (iv d.st)).setCell ⟨w.heap.size, 8, none⟩ (iv d.ef)).setCell ⟨w.heap.size, 9, none⟩ (iv d.et)).setCell ⟨w.heap.size, 10, none⟩ (.slice none 0 0)) w.heap.size #[iv d.id, iv d.kind, iv d.space, .string d.name, .string d.text, (.slice ao d.al.length ac), iv d.sf, iv d.st, iv d.ef, iv d.et, (.slice none 0 0)] ∧ Below w.heap.size w (((((((((((w2.setCell ⟨w.heap.size, 0, none⟩ (iv d.id)).setCell ⟨w.heap.size, 1, none⟩ (iv d.kind)).setCell ⟨w.heap.size, 2, none⟩ (iv d.space)).setCell ⟨w.heap.size, 3, none⟩ (.string d.name)).setCell ⟨w.heap.size, 4, none⟩ (.string d.text)).setCell ⟨w.heap.size, 5, none⟩ (.slice ao d.al.length ac)).setCell ⟨w.heap.size, 6, none⟩ (iv d.sf)).setCell ⟨w.heap.size, 7, none⟩ (iv d.st)).setCell ⟨w.heap.size, 8, none⟩ (iv d.ef)).setCell ⟨w.heap.size, 9, none⟩ (iv d.et)).setCell ⟨w.heap.size, 10, none⟩ (.slice none 0 0)) ∧ ∀ S : Nat → Prop, (∀ k, S k → k < w.heap.size) → Rw S (((((((((((w2.setCell ⟨w.heap.size, 0, none⟩ (iv d.id)).setCell ⟨w.heap.size, 1, none⟩ (iv d.kind)).setCell ⟨w.heap.size, 2, none⟩ (iv d.space)).setCell ⟨w.heap.size, 3, none⟩ (.string d.name)).setCell ⟨w.heap.size, 4, none⟩ (.string d.text)).setCell ⟨w.heap.size, 5, none⟩ (.slice ao d.al.length ac)).setCell ⟨w.heap.size, 6, none⟩ (iv d.sf)).setCell ⟨w.heap.size, 7, none⟩ (iv d.st)).setCell ⟨w.heap.size, 8, none⟩ (iv d.ef)).setCell ⟨w.heap.size, 9, none⟩ (iv d.et)).setCell ⟨w.heap.size, 10, none⟩ (.slice none 0 0)) 53 2 (.slice ao d.al.length ac) d.al.length (d.al.flatMap At.cells)) :=
    ⟨q.put _ _ _ _ _ _ _ _ _ _ _, below_put (HB.out.1.trans (b2.mono HB.out.1.size)) (Nat.le_refl _) _ _ _ _ _ _ _ _ _ _ _, fun S hS => (hr S (fun k hk => Nat.lt_of_lt_of_le (hS k hk) HB.out.1.size)).off (b := w.heap.size) (fun g _ hg => put_other w2 w.heap.size _ _ _ _ _ _ _ _ _ _ _ g hg) q (by decide)⟩
  have x0 : w2.cell? ⟨w.heap.size, 0, none⟩ = some (iv 0) := q.cell 0
  have f0 := q.frozen 0
  have x1 : w2.cell? ⟨w.heap.size, 1, none⟩ = some (iv 0) := q.cell 1
  have f1 := q.frozen 1
  have x2 : w2.cell? ⟨w.heap.size, 2, none⟩ = some (iv 0) := q.cell 2
  have f2 := q.frozen 2
  have x3 : w2.cell? ⟨w.heap.size, 3, none⟩ = some (.string { data := #[] }) := q.cell 3
  have f3 := q.frozen 3
  have x4 : w2.cell? ⟨w.heap.size, 4, none⟩ = some (.string { data := #[] }) := q.cell 4
  have f4 := q.frozen 4
  have x5 : w2.cell? ⟨w.heap.size, 5, none⟩ = some (.slice none 0 0) := q.cell 5
  have f5 := q.frozen 5
  have x6 : w2.cell? ⟨w.heap.size, 6, none⟩ = some (iv 0) := q.cell 6
  have f6 := q.frozen 6
  have x7 : w2.cell? ⟨w.heap.size, 7, none⟩ = some (iv 0) := q.cell 7
  have f7 := q.frozen 7
  have x8 : w2.cell? ⟨w.heap.size, 8, none⟩ = some (iv 0) := q.cell 8
  have f8 := q.frozen 8
  have x9 : w2.cell? ⟨w.heap.size, 9, none⟩ = some (iv 0) := q.cell 9
  have f9 := q.frozen 9
  have x10 : w2.cell? ⟨w.heap.size, 10, none⟩ = some (.slice none 0 0) := q.cell 10
  have f10 := q.frozen 10
  clear b2 hr q k1 k2
  go_wp2_with fail
  have r0 := HC.out.1
  generalize hW3 : (((((((((((w2.setCell ⟨w.heap.size, 0, none⟩ (iv d.id)).setCell ⟨w.heap.size, 1, none⟩ (iv d.kind)).setCell ⟨w.heap.size, 2, none⟩ (iv d.space)).setCell ⟨w.heap.size, 3, none⟩ (.string d.name)).setCell ⟨w.heap.size, 4, none⟩ (.string d.text)).setCell ⟨w.heap.size, 5, none⟩ (.slice ao d.al.length ac)).setCell ⟨w.heap.size, 6, none⟩ (iv d.sf)).setCell ⟨w.heap.size, 7, none⟩ (iv d.st)).setCell ⟨w.heap.size, 8, none⟩ (iv d.ef)).setCell ⟨w.heap.size, 9, none⟩ (iv d.et)).setCell ⟨w.heap.size, 10, none⟩ (.slice none 0 0)) = W3 at *
  have z0 : W3.cell? ⟨w.heap.size, 0, none⟩ = some (iv d.id) := r0.cell 0
  have z1 : W3.cell? ⟨w.heap.size, 1, none⟩ = some (iv d.kind) := r0.cell 1
  have z2 : W3.cell? ⟨w.heap.size, 2, none⟩ = some (iv d.space) := r0.cell 2
  have z3 : W3.cell? ⟨w.heap.size, 3, none⟩ = some (.string d.name) := r0.cell 3
  have z4 : W3.cell? ⟨w.heap.size, 4, none⟩ = some (.string d.text) := r0.cell 4
  have z5 : W3.cell? ⟨w.heap.size, 5, none⟩ = some (.slice ao d.al.length ac) := r0.cell 5
  have z6 : W3.cell? ⟨w.heap.size, 6, none⟩ = some (iv d.sf) := r0.cell 6
  have z7 : W3.cell? ⟨w.heap.size, 7, none⟩ = some (iv d.st) := r0.cell 7
  have z8 : W3.cell? ⟨w.heap.size, 8, none⟩ = some (iv d.ef) := r0.cell 8
  have z9 : W3.cell? ⟨w.heap.size, 9, none⟩ = some (iv d.et) := r0.cell 9
  have z10 : W3.cell? ⟨w.heap.size, 10, none⟩ = some (.slice none 0 0) := r0.cell 10
  clear x0 f0 x1 f1 x2 f2 x3 f3 x4 f4 x5 f5 x6 f6 x7 f7 x8 f8 x9 f9 x10 f10 r0 hW3
  refine bodyPost_ret (by simp [results, Try.results25, go_sem, z0, z1, z2, z3, z4, z5, z6, z7, z8, z9, z10]; try rfl) rfl ?_
  exact ⟨ao, ac, rfl, HC.out.2⟩
end Go.Proofs.Ytcdaghlbfclpkaa
