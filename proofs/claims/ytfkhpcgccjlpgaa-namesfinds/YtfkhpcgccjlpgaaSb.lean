/- Bytes in a block that are put in order: what lies there, what a swap makes of it. -/
import Derived.Test.YtfkhpcgccjlpgaaMem
import Derived.Sort.AssemblyPlain
import Derived.Sort.Row
namespace Go.Proofs.Ytfkhpcgccjlpgaa
open Go.RowKit Go.Sort

/-- Block k begins with the bytes d. -/
def HB (w : World) (k : Nat) (d : Array Int) : Prop := ∀ j, j < d.size → w.cell? ⟨k, j, none⟩ = some (.int .u8 d[j]!) ∧ w.frozen? ⟨k, j, none⟩ = false

/-- Nothing that was there has turned but block k. -/
structure Mv (k : Nat) (w w' : World) : Prop where
  os : w'.os = w.os
  tape : w'.tape = w.tape
  output : w'.output = w.output
  size : w.heap.size ≤ w'.heap.size
  block : ∀ i, i < w.heap.size → i ≠ k → w'.heap[i]? = w.heap[i]?

theorem Mv.refl (k : Nat) (w : World) : Mv k w w := ⟨rfl, rfl, rfl, Nat.le_refl _, fun _ _ _ => rfl⟩
theorem Mv.trans {k : Nat} {a b c : World} (h : Mv k a b) (g : Mv k b c) : Mv k a c :=
  ⟨g.os.trans h.os, g.tape.trans h.tape, g.output.trans h.output, Nat.le_trans h.size g.size, fun i h1 h2 => (g.block i (Nat.lt_of_lt_of_le h1 h.size) h2).trans (h.block i h1 h2)⟩
theorem Mv.drewN {k : Nat} {w w' : World} (h : Mv k w w') (n : Nat) : Mv k w (w'.drewN n) := ⟨h.os, h.tape, h.output, h.size, h.block⟩
theorem Mv.drew {k : Nat} {w w' : World} (h : Mv k w w') : Mv k w w'.drew := ⟨h.os, h.tape, h.output, h.size, h.block⟩
theorem Mv.set {k : Nat} {w w' : World} (h : Mv k w w') (i : Nat) (u : Value) : Mv k w (w'.setCell ⟨k, i, none⟩ u) :=
  h.trans ⟨rfl, rfl, rfl, by simp [World.setCell], fun j _ hj => Below.heap_setCell _ _ _ _ hj⟩

theorem hb_drewN {w : World} {k : Nat} {d : Array Int} (h : HB w k d) (n : Nat) : HB (w.drewN n) k d := h
theorem hb_drew {w : World} {k : Nat} {d : Array Int} (h : HB w k d) : HB w.drew k d := h

theorem hb_swap {w : World} {k : Nat} {d : Array Int} (h : HB w k d) {i j : Nat} (hi : i < d.size) (hj : j < d.size) : HB ((w.setCell ⟨k, i, none⟩ (.int .u8 d[j]!)).setCell ⟨k, j, none⟩ (.int .u8 d[i]!)) k (swp d i j) := by
  have h0 : Holds (Value.int .u8) w k 0 d := fun j hj => by rw [Nat.zero_add]; exact h j hj
  have e := putRow_swp (Value.int .u8) w k 0 d i j hi hj
  rw [putRow_self _ _ _ _ _ h0, Nat.zero_add, Nat.zero_add] at e
  rw [e]
  have hs : (swp d i j).size = d.size := by simp [swp]
  intro q hq
  have := holds_putRow (Value.int .u8) w k 0 d (swp d i j) h0 hs q hq
  rw [Nat.zero_add] at this
  exact this
theorem swp_size (d : Array Int) (i j : Nat) : (swp d i j).size = d.size := by simp [swp]

set_option maxHeartbeats 400000 in
theorem nan_any (x : Int) (w : World) : Calls Try.prog 48 #[.int .u8 x] w fun e w' => e = .returned (.bool false) ∧ w' = w := by
  go_enter Try.func48, Try.ntmps48
  go_wp2_with fail
  go_ret
  simp
set_option maxHeartbeats 400000 in
theorem less_any (x y : Int) (w : World) : Calls Try.prog 38 #[.int .u8 x, .int .u8 y] w fun e w' => e = .returned (.bool (ltInt x y)) ∧ w' = w := by
  go_enter Try.func38, Try.ntmps38
  go_wp2_with fail
  refine (nan_any x w).mono ?_
  rintro e w1 ⟨rfl, rfl⟩
  go_wp2_with fail
  go_ret
  exact ⟨rfl, rfl⟩
theorem less_as {x y : Int} {b : Bool} (h : ltInt x y = b) (w : World) : Calls Try.prog 38 #[.int .u8 x, .int .u8 y] w fun e w' => e = .returned (.bool b) ∧ w' = w := h ▸ less_any x y w
theorem hb_at {w : World} {k n : Nat} {d : Array Int} (h : HB w k d) (hz : d.size = n) (hn : n ≤ 100000) (i : Nat) (hi : i < n) : ∃ x, d[i]! = x ∧ w.cell? ⟨k, i, none⟩ = some (.int .u8 x) ∧ w.frozen? ⟨k, i, none⟩ = false ∧ (i : Int) < (n : Int) ∧ IntKind.i64.wrap (i : Int) = (i : Int) :=
  ⟨_, rfl, (h i (by omega)).1, (h i (by omega)).2, by omega, by rw [IntKind.wrap_i64]; omega⟩
theorem sw_drewN {w wr : World} {k n : Nat} {d : Array Int} (hm : Mv k w wr) (h : HB wr k d) (hz : d.size = n) {i j : Nat} {x y : Int} (hi : i < n) (hj : j < n) (hx : d[i]! = x) (hy : d[j]! = y) (m : Nat) :
    Mv k w (((wr.drewN m).setCell ⟨k, i, none⟩ (.int .u8 y)).setCell ⟨k, j, none⟩ (.int .u8 x)) ∧ HB (((wr.drewN m).setCell ⟨k, i, none⟩ (.int .u8 y)).setCell ⟨k, j, none⟩ (.int .u8 x)) k (swp d i j) ∧ (swp d i j).size = n := by
  subst hx; subst hy
  exact ⟨((hm.drewN m).set i _).set j _, hb_swap (hb_drewN h m) (by omega) (by omega), by rw [swp_size]; exact hz⟩
theorem sw_drew {w wr : World} {k n : Nat} {d : Array Int} (hm : Mv k w wr) (h : HB wr k d) (hz : d.size = n) {i j : Nat} {x y : Int} (hi : i < n) (hj : j < n) (hx : d[i]! = x) (hy : d[j]! = y) :
    Mv k w ((wr.setCell ⟨k, i, none⟩ (.int .u8 y)).setCell ⟨k, j, none⟩ (.int .u8 x)).drew ∧ HB ((wr.setCell ⟨k, i, none⟩ (.int .u8 y)).setCell ⟨k, j, none⟩ (.int .u8 x)).drew k (swp d i j) ∧ (swp d i j).size = n := by
  subst hx; subst hy
  exact ⟨((hm.set i _).set j _).drew, hb_drew (hb_swap h (by omega) (by omega)), by rw [swp_size]; exact hz⟩
/-- A second store finds its place, whichever the first one was. -/
theorem st_any {w : World} {k i j : Nat} {x y : Value} (h : w.cell? ⟨k, i, none⟩ = some x) (g : w.cell? ⟨k, j, none⟩ = some y) (v : Value) : ∃ u, (w.setCell ⟨k, i, none⟩ v).cell? ⟨k, j, none⟩ = some u := by
  by_cases e : i = j
  · subst e; exact ⟨v, World.cell?_setCell_same _ _ _ h⟩
  · exact ⟨y, (World.cell?_setCell_other _ _ _ _ (fun h => e (by injection h))).trans g⟩
theorem st_drewN {w : World} {k i j : Nat} {v u : Value} (h : (w.setCell ⟨k, i, none⟩ v).cell? ⟨k, j, none⟩ = some u) (m : Nat) : ((w.drewN m).setCell ⟨k, i, none⟩ v).cell? ⟨k, j, none⟩ = some u := h
end Go.Proofs.Ytfkhpcgccjlpgaa
