/- A node's own, in new memory: Bare. -/
import Derived.Test.YtcdaghlbfclpkaaCa
namespace Go.Proofs.Ytcdaghlbfclpkaa
open Go.RowKit

theorem run_append_none (w : World) (ao : Option Addr) (ac : Nat) : (Builtin.append_ #[30, 30] 30 #[.slice none 0 0, .slice ao 0 ac]).run Try.prog w = .ok (.slice none 0 0) w := by
  obtain ⟨i0, hi0, _, _, _⟩ := info_parts info53
  cases ao with
  | none => simp [Builtin.append_, run_underlying Try.underlying30, Builtin.lenOf, Builtin.firstCells, sizeOf, typeInfo, hi0]
  | some a => simp [Builtin.append_, run_underlying Try.underlying30, Builtin.lenOf, Builtin.firstCells, sizeOf, typeInfo, hi0, loadCells, loadCellsFrom]
/-- A row of attributes behind nothing. -/
theorem clone_run {W : World} {ao : Option Addr} {ac : Nat} {A : List At} (h : Ats W (.slice ao A.length ac) A) (hf : A.length ≤ 1000000000) : ∃ v' W', (Builtin.append_ #[30, 30] 30 #[.slice none 0 0, .slice ao A.length ac]).run Try.prog W = .ok v' W' ∧ Below W.heap.size W W' ∧ ∀ S : Nat → Prop, (∀ k, S k → k < W.heap.size) → Rw S W' 53 2 v' A.length (A.flatMap At.cells) := by
  obtain ⟨ao', cap', he, hr⟩ := h.ex
  simp only [Value.slice.injEq, true_and] at he
  obtain ⟨rfl, rfl⟩ := he
  cases A with
  | nil => exact ⟨_, _, run_append_none W ao ac, Below.refl _ _, fun S _ => Rw.nil _ _ _ _⟩
  | cons a A =>
    obtain ⟨b, off, rfl, _⟩ := hr 0 a rfl
    have hS : ∀ S : Nat → Prop, (∀ k, S k → k < W.heap.size) → ∃ v' W', (Builtin.append_ #[30, 30] 30 #[.slice none 0 0, .slice (some ⟨b, off, none⟩) (a :: A).length ac]).run Try.prog W = .ok v' W' ∧ Rw S W' 53 2 v' (0 + (a :: A).length) ([] ++ (a :: A).flatMap At.cells) ∧ W.grownBy W' none := fun S hlow => by
      obtain ⟨v', W', h1, h2, h3, _⟩ := Rw.app (t := 30) (e := 53) (S := S) (v := .slice none 0 0) (n := 0) (xs := []) Try.underlying30 info53 rfl (by decide) (by decide) (Rw.nil _ W 53 2) hlow b off (a :: A).length ac ((a :: A).flatMap At.cells) (at_len _)
        (fun j u hj => by
          obtain ⟨i, y, h1, h2⟩ := flat_at (a :: A) j u hj
          obtain ⟨b', off', e1, _, e3, e4⟩ := hr i y h1
          simp only [Option.some.injEq, Addr.mk.injEq, and_true] at e1
          obtain ⟨rfl, rfl⟩ := e1
          rcases h2 with ⟨rfl, rfl⟩ | ⟨rfl, rfl⟩
          · exact e3
          · exact e4) (at_one _) (by omega)
      exact ⟨v', W', h1, h2, h3⟩
    obtain ⟨v', W', h1, _, h3⟩ := hS (fun _ => False) (fun _ h => h.elim)
    refine ⟨v', W', h1, grown_below h3, fun S hlow => ?_⟩
    obtain ⟨v2, W2, g1, g2, _⟩ := hS S hlow
    rw [h1] at g1
    simp only [Result.ok.injEq] at g1
    obtain ⟨rfl, rfl⟩ := g1
    rw [Nat.zero_add, List.nil_append] at g2
    exact g2
abbrev Bared (d : Nd) (w : World) (e : Ending) (w' : World) : Prop := ∃ ao2 ac2, e = .returned (.agg #[(iv 0), (iv d.kind), (iv d.space), (.string d.name), (.string d.text), (.slice ao2 d.al.length ac2), (iv d.sf), (iv d.st), (iv d.ef), (iv d.et), (.slice none 0 0)]) ∧ Below w.heap.size w w' ∧ ∀ S : Nat → Prop, (∀ k, S k → k < w.heap.size) → Rw S w' 53 2 (.slice ao2 d.al.length ac2) d.al.length (d.al.flatMap At.cells)
set_option maxHeartbeats 1000000 in
theorem bare_any {w : World} (d : Nd) {ao : Option Addr} {ac : Nat} (ha : Ats w (.slice ao d.al.length ac) d.al) (hf : d.al.length ≤ 1000000000) (ko : Option Addr) (kn kc : Nat) :
    Calls Try.prog 50 #[.agg #[(iv d.id), (iv d.kind), (iv d.space), (.string d.name), (.string d.text), (.slice ao d.al.length ac), (iv d.sf), (iv d.st), (iv d.ef), (iv d.et), (.slice ko kn kc)]] w (Bared d w) := by
  have b0 : Below w.heap.size w (w.alloc (.cells #[(iv d.id), (iv d.kind), (iv d.space), (.string d.name), (.string d.text), (.slice ao d.al.length ac), (iv d.sf), (iv d.st), (iv d.ef), (iv d.et), (.slice ko kn kc)] 35)) := (Below.refl _ _).alloc (Nat.le_refl _) _
  have n0 : Bx (w.alloc (.cells #[(iv d.id), (iv d.kind), (iv d.space), (.string d.name), (.string d.text), (.slice ao d.al.length ac), (iv d.sf), (iv d.st), (iv d.ef), (iv d.et), (.slice ko kn kc)] 35)) w.heap.size #[(iv d.id), (iv d.kind), (iv d.space), (.string d.name), (.string d.text), (.slice ao d.al.length ac), (iv d.sf), (iv d.st), (iv d.ef), (iv d.et), (.slice ko kn kc)] := heap_alloc_new w _
  obtain ⟨W0, hW0⟩ : ∃ W0, w.alloc (.cells #[(iv d.id), (iv d.kind), (iv d.space), (.string d.name), (.string d.text), (.slice ao d.al.length ac), (iv d.sf), (iv d.st), (iv d.ef), (iv d.et), (.slice ko kn kc)] 35) = W0 := ⟨_, rfl⟩
  have HW0 : Hid (w.alloc (.cells #[(iv d.id), (iv d.kind), (iv d.space), (.string d.name), (.string d.text), (.slice ao d.al.length ac), (iv d.sf), (iv d.st), (iv d.ef), (iv d.et), (.slice ko kn kc)] 35) = W0) := hW0
  have hsz : W0.heap.size = w.heap.size + 1 := by rw [← hW0]; simp
  have HSZ : Hid (W0.heap.size = w.heap.size + 1) := hsz
  clear hsz
  rw [hW0] at b0 n0
  clear hW0
  have b1 : Below W0.heap.size W0 (W0.alloc (.cells #[Value.int IntKind.i64 0, Value.int IntKind.i64 0, Value.int IntKind.i64 0, Value.string { data := #[] }, Value.string { data := #[] }, Value.slice none 0 0, Value.int IntKind.i64 0, Value.int IntKind.i64 0, Value.int IntKind.i64 0, Value.int IntKind.i64 0, Value.slice none 0 0] 35)) := (Below.refl _ _).alloc (Nat.le_refl _) _
  have m1 : Bx (W0.alloc (.cells #[Value.int IntKind.i64 0, Value.int IntKind.i64 0, Value.int IntKind.i64 0, Value.string { data := #[] }, Value.string { data := #[] }, Value.slice none 0 0, Value.int IntKind.i64 0, Value.int IntKind.i64 0, Value.int IntKind.i64 0, Value.int IntKind.i64 0, Value.slice none 0 0] 35)) W0.heap.size #[Value.int IntKind.i64 0, Value.int IntKind.i64 0, Value.int IntKind.i64 0, Value.string { data := #[] }, Value.string { data := #[] }, Value.slice none 0 0, Value.int IntKind.i64 0, Value.int IntKind.i64 0, Value.int IntKind.i64 0, Value.int IntKind.i64 0, Value.slice none 0 0] := heap_alloc_new W0 _
  obtain ⟨W1, hW1⟩ : ∃ W1, W0.alloc (.cells #[Value.int IntKind.i64 0, Value.int IntKind.i64 0, Value.int IntKind.i64 0, Value.string { data := #[] }, Value.string { data := #[] }, Value.slice none 0 0, Value.int IntKind.i64 0, Value.int IntKind.i64 0, Value.int IntKind.i64 0, Value.int IntKind.i64 0, Value.slice none 0 0] 35) = W1 := ⟨_, rfl⟩
  have HW1 : Hid (W0.alloc (.cells #[Value.int IntKind.i64 0, Value.int IntKind.i64 0, Value.int IntKind.i64 0, Value.string { data := #[] }, Value.string { data := #[] }, Value.slice none 0 0, Value.int IntKind.i64 0, Value.int IntKind.i64 0, Value.int IntKind.i64 0, Value.int IntKind.i64 0, Value.slice none 0 0] 35) = W1) := hW1
  rw [hW1] at b1 m1
  clear hW1
  have n1 := n0.old b1
  have hne : W0.heap.size ≠ w.heap.size := by have := n0.lt; omega
  have x0 : W1.cell? ⟨w.heap.size, 0, none⟩ = some (iv d.id) := n1.cell 0
  have x10 : W1.cell? ⟨w.heap.size, 10, none⟩ = some (.slice ko kn kc) := n1.cell 10
  have f0 := n1.frozen 0
  have f10 := n1.frozen 10
  have bw1 : Below w.heap.size w W1 := b0.trans (b1.mono b0.size)
  have n2 : Bx ((W1.setCell ⟨w.heap.size, 0, none⟩ (iv 0)).setCell ⟨w.heap.size, 10, none⟩ (.slice none 0 0)) w.heap.size #[(iv 0), (iv d.kind), (iv d.space), (.string d.name), (.string d.text), (.slice ao d.al.length ac), (iv d.sf), (iv d.st), (iv d.ef), (iv d.et), (.slice none 0 0)] := (n1.set 0 (iv 0)).set 10 (.slice none 0 0)
  have m2 : Bx ((W1.setCell ⟨w.heap.size, 0, none⟩ (iv 0)).setCell ⟨w.heap.size, 10, none⟩ (.slice none 0 0)) W0.heap.size #[Value.int IntKind.i64 0, Value.int IntKind.i64 0, Value.int IntKind.i64 0, Value.string { data := #[] }, Value.string { data := #[] }, Value.slice none 0 0, Value.int IntKind.i64 0, Value.int IntKind.i64 0, Value.int IntKind.i64 0, Value.int IntKind.i64 0, Value.slice none 0 0] := (m1.other (z := w.heap.size) hne.symm 0 _).other hne.symm 10 _
  have bw2 : Below w.heap.size w ((W1.setCell ⟨w.heap.size, 0, none⟩ (iv 0)).setCell ⟨w.heap.size, 10, none⟩ (.slice none 0 0)) := (bw1.setCell (p := ⟨w.heap.size, 0, none⟩) (Nat.le_refl _) _).setCell (p := ⟨w.heap.size, 10, none⟩) (Nat.le_refl _) _
  go_enter Try.func50, Try.ntmps50
  go_upto_region 1 with fail
  rw [HW0.out, HW1.out]
  clear b0 n0 b1 m1 n1 HW0 HW1
  go_upto_region 2 with fail
  generalize hW2 : (W1.setCell ⟨w.heap.size, 0, none⟩ (iv 0)).setCell ⟨w.heap.size, 10, none⟩ (.slice none 0 0) = W2 at *
  clear hW2 x0 x10 f0 f10 bw1
  obtain ⟨v', W3, hrun, b3, hr3⟩ := clone_run (ha.old bw2) hf
  obtain ⟨ao2, ac2, rfl, _⟩ := (hr3 (fun _ => False) (fun _ h => h.elim)).slice
  have x5 : W2.cell? ⟨w.heap.size, 5, none⟩ = some (.slice ao d.al.length ac) := n2.cell 5
  have n3 := n2.old b3
  have m3 := m2.old b3
  have z5 : W3.cell? ⟨w.heap.size, 5, none⟩ = some (.slice ao d.al.length ac) := n3.cell 5
  have f5 := n3.frozen 5
  have bw3 : Below w.heap.size w W3 := bw2.trans (b3.mono bw2.size)
  have n4 : Bx (W3.setCell ⟨w.heap.size, 5, none⟩ (.slice ao2 d.al.length ac2)) w.heap.size #[(iv 0), (iv d.kind), (iv d.space), (.string d.name), (.string d.text), (.slice ao2 d.al.length ac2), (iv d.sf), (iv d.st), (iv d.ef), (iv d.et), (.slice none 0 0)] := n3.set 5 _
  have m4 : Bx (W3.setCell ⟨w.heap.size, 5, none⟩ (.slice ao2 d.al.length ac2)) W0.heap.size #[Value.int IntKind.i64 0, Value.int IntKind.i64 0, Value.int IntKind.i64 0, Value.string { data := #[] }, Value.string { data := #[] }, Value.slice none 0 0, Value.int IntKind.i64 0, Value.int IntKind.i64 0, Value.int IntKind.i64 0, Value.int IntKind.i64 0, Value.slice none 0 0] := m3.other hne.symm 5 _
  have bw4 : Below w.heap.size w (W3.setCell ⟨w.heap.size, 5, none⟩ (.slice ao2 d.al.length ac2)) := bw3.setCell (p := ⟨w.heap.size, 5, none⟩) (Nat.le_refl _) _
  have hr4 : ∀ S : Nat → Prop, (∀ k, S k → k < w.heap.size) → Rw S (W3.setCell ⟨w.heap.size, 5, none⟩ (.slice ao2 d.al.length ac2)) 53 2 (.slice ao2 d.al.length ac2) d.al.length (d.al.flatMap At.cells) := fun S hS =>
    (hr3 S (fun k hk => Nat.lt_of_lt_of_le (hS k hk) bw2.size)).off (b := w.heap.size) (fun g _ hg => heap_setCell_other W3 ⟨w.heap.size, 5, none⟩ g _ hg) n3 (by decide)
  clear hr3 b3 n2 m2 bw2 n3 m3 bw3 ha
  go_upto_region 3 with (at_builtin; refine list_append_eq rfl _ _ 30 30 rfl _ _ rfl rfl hrun ?_)
  generalize hW4 : W3.setCell ⟨w.heap.size, 5, none⟩ (.slice ao2 d.al.length ac2) = W4 at *
  clear hW4 z5 f5 hrun x5
  have y0 : W4.cell? ⟨w.heap.size, 0, none⟩ = some (iv 0) := n4.cell 0
  have y1 : W4.cell? ⟨w.heap.size, 1, none⟩ = some (iv d.kind) := n4.cell 1
  have y2 : W4.cell? ⟨w.heap.size, 2, none⟩ = some (iv d.space) := n4.cell 2
  have y3 : W4.cell? ⟨w.heap.size, 3, none⟩ = some (.string d.name) := n4.cell 3
  have y4 : W4.cell? ⟨w.heap.size, 4, none⟩ = some (.string d.text) := n4.cell 4
  have y5 : W4.cell? ⟨w.heap.size, 5, none⟩ = some (.slice ao2 d.al.length ac2) := n4.cell 5
  have y6 : W4.cell? ⟨w.heap.size, 6, none⟩ = some (iv d.sf) := n4.cell 6
  have y7 : W4.cell? ⟨w.heap.size, 7, none⟩ = some (iv d.st) := n4.cell 7
  have y8 : W4.cell? ⟨w.heap.size, 8, none⟩ = some (iv d.ef) := n4.cell 8
  have y9 : W4.cell? ⟨w.heap.size, 9, none⟩ = some (iv d.et) := n4.cell 9
  have y10 : W4.cell? ⟨w.heap.size, 10, none⟩ = some (.slice none 0 0) := n4.cell 10
  rw [HSZ.out] at m4
  have x0 : W4.cell? ⟨(w.heap.size + 1), 0, none⟩ = some (iv 0) := m4.cell 0
  have f0 := m4.frozen 0
  have x1 : W4.cell? ⟨(w.heap.size + 1), 1, none⟩ = some (iv 0) := m4.cell 1
  have f1 := m4.frozen 1
  have x2 : W4.cell? ⟨(w.heap.size + 1), 2, none⟩ = some (iv 0) := m4.cell 2
  have f2 := m4.frozen 2
  have x3 : W4.cell? ⟨(w.heap.size + 1), 3, none⟩ = some (.string { data := #[] }) := m4.cell 3
  have f3 := m4.frozen 3
  have x4 : W4.cell? ⟨(w.heap.size + 1), 4, none⟩ = some (.string { data := #[] }) := m4.cell 4
  have f4 := m4.frozen 4
  have x5 : W4.cell? ⟨(w.heap.size + 1), 5, none⟩ = some (.slice none 0 0) := m4.cell 5
  have f5 := m4.frozen 5
  have x6 : W4.cell? ⟨(w.heap.size + 1), 6, none⟩ = some (iv 0) := m4.cell 6
  have f6 := m4.frozen 6
  have x7 : W4.cell? ⟨(w.heap.size + 1), 7, none⟩ = some (iv 0) := m4.cell 7
  have f7 := m4.frozen 7
  have x8 : W4.cell? ⟨(w.heap.size + 1), 8, none⟩ = some (iv 0) := m4.cell 8
  have f8 := m4.frozen 8
  have x9 : W4.cell? ⟨(w.heap.size + 1), 9, none⟩ = some (iv 0) := m4.cell 9
  have f9 := m4.frozen 9
  have x10 : W4.cell? ⟨(w.heap.size + 1), 10, none⟩ = some (.slice none 0 0) := m4.cell 10
  have f10 := m4.frozen 10
  have HR : Hid (Bx (((((((((((W4.setCell ⟨(w.heap.size + 1), 0, none⟩ (iv 0)).setCell ⟨(w.heap.size + 1), 1, none⟩ (iv d.kind)).setCell ⟨(w.heap.size + 1), 2, none⟩ (iv d.space)).setCell ⟨(w.heap.size + 1), 3, none⟩ (.string d.name)).setCell ⟨(w.heap.size + 1), 4, none⟩ (.string d.text)).setCell ⟨(w.heap.size + 1), 5, none⟩ (.slice ao2 d.al.length ac2)).setCell ⟨(w.heap.size + 1), 6, none⟩ (iv d.sf)).setCell ⟨(w.heap.size + 1), 7, none⟩ (iv d.st)).setCell ⟨(w.heap.size + 1), 8, none⟩ (iv d.ef)).setCell ⟨(w.heap.size + 1), 9, none⟩ (iv d.et)).setCell ⟨(w.heap.size + 1), 10, none⟩ (.slice none 0 0)) (w.heap.size + 1) #[(iv 0), (iv d.kind), (iv d.space), (.string d.name), (.string d.text), (.slice ao2 d.al.length ac2), (iv d.sf), (iv d.st), (iv d.ef), (iv d.et), (.slice none 0 0)] ∧ Bared d w (.returned (.agg #[(iv 0), (iv d.kind), (iv d.space), (.string d.name), (.string d.text), (.slice ao2 d.al.length ac2), (iv d.sf), (iv d.st), (iv d.ef), (iv d.et), (.slice none 0 0)])) (((((((((((W4.setCell ⟨(w.heap.size + 1), 0, none⟩ (iv 0)).setCell ⟨(w.heap.size + 1), 1, none⟩ (iv d.kind)).setCell ⟨(w.heap.size + 1), 2, none⟩ (iv d.space)).setCell ⟨(w.heap.size + 1), 3, none⟩ (.string d.name)).setCell ⟨(w.heap.size + 1), 4, none⟩ (.string d.text)).setCell ⟨(w.heap.size + 1), 5, none⟩ (.slice ao2 d.al.length ac2)).setCell ⟨(w.heap.size + 1), 6, none⟩ (iv d.sf)).setCell ⟨(w.heap.size + 1), 7, none⟩ (iv d.st)).setCell ⟨(w.heap.size + 1), 8, none⟩ (iv d.ef)).setCell ⟨(w.heap.size + 1), 9, none⟩ (iv d.et)).setCell ⟨(w.heap.size + 1), 10, none⟩ (.slice none 0 0))) :=
    ⟨m4.put _ _ _ _ _ _ _ _ _ _ _, ao2, ac2, rfl, below_put bw4 (Nat.le_succ _) _ _ _ _ _ _ _ _ _ _ _, fun S hS => (hr4 S hS).off (b := (w.heap.size + 1)) (fun g _ hg => put_other W4 (w.heap.size + 1) _ _ _ _ _ _ _ _ _ _ _ g hg) m4 (by decide)⟩
  clear n4 m4 bw4 hr4
  go_wp2_with fail
  refine bodyPost_ret (results_cell_row rfl _ _ (w.heap.size + 1) 35 _ (0, 0) _ rfl HR.out.1 Try.underlying35 rfl size35) rfl ?_
  exact HR.out.2
end Go.Proofs.Ytcdaghlbfclpkaa
