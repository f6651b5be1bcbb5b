/- A row of attributes in new memory; an element in new memory: copied. -/
import Derived.Test.YtkmghkfdegdikaaDoorAb
namespace Go.Proofs.YtkmghkfdegdikaaDoor
open Go.RowKit

set_option maxRecDepth 20000 in
set_option maxHeartbeats 2000000 in
theorem grow_any (w : World) (n : Nat) (hn : n ≤ 4398046511104) : Calls Tryd.prog 59 #[.slice none 0 0, .int .i64 n] w fun e w' => ∃ v, e = .returned v ∧ Rw (fun k => k < w.heap.size) w' 71 2 v 0 [] ∧ Below w.heap.size w w' := by
  obtain ⟨i0, hi, hz0, hz1, hz2⟩ := info_parts info71
  have h1 : decide ((n : Int) < 0) = false := decide_eq_false (by omega)
  by_cases h0 : n = 0
  · subst h0
    go_enter Tryd.func59, Tryd.ntmps59
    go_wp2_with fail
    go_ret
    exact ⟨_, rfl, Rw.nil _ _ _ _, Below.refl _ _⟩
  · have hr := fun ty => Lib.run_append_nil_zeros (P := Tryd.prog) w 32 3 ty 71 i0 _ .i64 .i64 Tryd.underlying32 Tryd.underlying3 hi hz0 n (by omega) (by omega) (by omega) (by rw [hz2]; omega)
    have hcap := grownCap_ge w n 0 71
    have hcm := grownCap_le_maxLen w n 0 71 (by unfold maxLen; omega)
    obtain ⟨cap, hcp⟩ : ∃ cap, grownCap w n 0 71 = cap := ⟨_, rfl⟩
    rw [hcp] at hcap hcm
    simp only [hcp] at hr
    obtain ⟨V, hV⟩ : ∃ V, w.drew.alloc (.cells (Builtin.zeroCells (.agg #[.string ByteArray.empty, .string ByteArray.empty] : Value).cells n ++ Builtin.zeroCells (.agg #[.string ByteArray.empty, .string ByteArray.empty] : Value).cells (cap - n)) 71) = V := ⟨_, rfl⟩
    have HV : Hid (Rw (fun k => k < w.heap.size) V 71 2 (.slice (some ⟨w.heap.size, 0, none⟩) 0 cap) 0 [] ∧ Below w.heap.size w V) := by
      refine ⟨⟨⟨by simp, .inr ⟨w.heap.size, cap, _, rfl, Nat.zero_le _, by rw [← hV]; exact heap_alloc_new w.drew _, Nat.zero_le _, hcm, ?_, ?_⟩⟩, fun g hg => ?_⟩, ?_⟩
      · simp only [Array.size_append, size_zeroCells, Value.cells]
        simp
        omega
      · simp
      · simp [Value.ownBlock] at hg
        subst hg
        exact Nat.lt_irrefl _
      · rw [← hV]
        exact ((Below.refl w.heap.size w).drew).alloc (Nat.le_refl _) _
    simp only [hV] at hr
    have hn1 : decide ((0 : Int) < (n : Int)) = true := decide_eq_true (by omega)
    have hcap2 : (0 : Int) ≤ (cap : Int) := by omega
    have hmx : cap ≤ 9223372036854775807 := by unfold maxLen at hcm; omega
    clear hcp hV
    go_enter Tryd.func59, Tryd.ntmps59
    go_wp2_with (at_builtin; refine list_append_eq rfl _ _ 32 3 rfl _ _ rfl rfl (hr _) ?_)
    go_ret
    exact ⟨_, rfl, HV.out⟩
set_option maxHeartbeats 2000000 in
theorem concat51_any {w : World} {b : Nat} {ao : Option Addr} {A : List Value} (n ca : Nat) (hb : b < w.heap.size) (h0 : w.cell? ⟨b, 0, none⟩ = some (.slice ao n ca)) (hl : A.length = n * 2) (ha : ∀ (j : Nat) u, A[j]? = some u → ∃ g off, ao = some ⟨g, off, none⟩ ∧ g < w.heap.size ∧ w.cell? ⟨g, off + j, none⟩ = some u) (h1 : ∀ u ∈ A, u.oneCell' = true) (hn2 : n ≤ 4398046511104) :
    Calls Tryd.prog 51 #[.slice (some ⟨b, 0, none⟩) 1 1] w fun e w' => ∃ v, e = .returned v ∧ Rw (fun k => k < w.heap.size) w' 71 2 v n A ∧ Below w.heap.size w w' := by
  have HA : Hid ((∀ (j : Nat) u, A[j]? = some u → ∃ g off, ao = some ⟨g, off, none⟩ ∧ g < w.heap.size ∧ w.cell? ⟨g, off + j, none⟩ = some u) ∧ A.length = n * 2 ∧ ∀ u ∈ A, u.oneCell' = true) := ⟨ha, hl, h1⟩
  clear ha hl h1
  have hneg : decide ((n : Int) < 0) = false := decide_eq_false (by omega)
  go_enter Tryd.func51, Tryd.ntmps51
  go_wp2_with fail
  refine wp_loop_rounds 2 ?_
  rw [rounds_succ]
  go_wp2_with fail
  rw [rounds_succ]
  go_wp2_with fail
  refine (grow_any w n (by omega)).mono ?_
  rintro e w1 ⟨v, rfl, r1, b1⟩
  have c0 := (b1.cell (p := ⟨b, 0, none⟩) hb).trans h0
  have hb1 : b < w1.heap.size := Nat.lt_of_lt_of_le hb b1.size
  obtain ⟨v2, w2, e2, r2, g2, _⟩ := Rw.apps (t := 32) (e := 71) Tryd.underlying32 info71 rfl (by decide) r1 (fun k hk => Nat.lt_of_lt_of_le hk b1.size) ao n ca A HA.out.2.1 (fun j u hj => by
    obtain ⟨g, off, e, hg, hc⟩ := HA.out.1 j u hj
    exact ⟨g, off, e, (b1.cell (p := ⟨g, off + j, none⟩) hg).trans hc⟩) HA.out.2.2 (by omega) (by omega)
  have HF : Hid (Rw (fun k => k < w.heap.size) w2 71 2 v2 n A ∧ Below w.heap.size w w2) := ⟨by rw [List.nil_append, Nat.zero_add] at r2; exact r2, b1.trans ((r1.keep g2).below (fun k hk => hk) b1.size)⟩
  clear r1 b1 r2 g2 h0
  go_wp2_with fail
  refine wp_loop_rounds 2 ?_
  rw [rounds_succ]
  go_wp2_with (at_builtin; refine list_append_eq rfl _ _ 32 32 rfl _ _ rfl rfl e2 ?_)
  rw [rounds_succ]
  go_wp2_with fail
  go_ret
  exact ⟨_, rfl, HF.out⟩

theorem flat_at : ∀ (M : List At) (j : Nat) (u : Value), (M.flatMap At.cells)[j]? = some u → ∃ i x, M[i]? = some x ∧ ((j = i * 2 ∧ u = .string x.n) ∨ (j = i * 2 + 1 ∧ u = .string x.v))
  | [], j, u, h => by simp at h
  | x :: M, 0, u, h => ⟨0, x, rfl, .inl ⟨rfl, by simpa [At.cells] using h.symm⟩⟩
  | x :: M, 1, u, h => ⟨0, x, rfl, .inr ⟨rfl, by simpa [At.cells] using h.symm⟩⟩
  | x :: M, j + 2, u, h => by
    have h' : (M.flatMap At.cells)[j]? = some u := by simpa [At.cells] using h
    obtain ⟨i, y, h1, h2⟩ := flat_at M j u h'
    refine ⟨i + 1, y, by simpa using h1, ?_⟩
    rcases h2 with ⟨h2, h3⟩ | ⟨h2, h3⟩
    · exact .inl ⟨by omega, h3⟩
    · exact .inr ⟨by omega, h3⟩
/-- A slice of attributes that lie somewhere. -/
structure Ats (w : World) (v : Value) (A : List At) : Prop where
  ex : ∃ ao cap, v = .slice ao A.length cap ∧ AtRow w ao A
  few : A.length ≤ 4398046511104
theorem Ats.old {w w' : World} {v : Value} {l : List At} (h : Ats w v l) (b : Below w.heap.size w w') : Ats w' v l := by
  obtain ⟨ao, cap, rfl, hr⟩ := h.ex
  exact ⟨⟨ao, cap, rfl, hr.old b⟩, h.few⟩
/-- Attributes in a row of their own. -/
def Own (w : World) (v : Value) (A : List At) : Prop := Rw (fun _ => False) w 71 2 v A.length (A.flatMap At.cells) ∧ A.length ≤ 4398046511104
theorem Own.old {w w' : World} {v : Value} {A : List At} (h : Own w v A) (b : Below w.heap.size w w') : Own w' v A := ⟨h.1.old b, h.2⟩
theorem Own.mv {w w' : World} {v : Value} {A : List At} (h : Own w v A) (b : ∀ (g : Nat) (cur : Array Value), w.heap[g]? = some (Obj.cells cur 71 (0, 0)) → w'.heap[g]? = w.heap[g]?) : Own w' v A := ⟨h.1.mv fun g hg => by
  obtain ⟨_, c, h2⟩ := own_blk h.1.own hg
  exact b g c h2, h.2⟩
theorem Own.ats {w : World} {v : Value} {A : List At} (h : Own w v A) : Ats w v A := by
  obtain ⟨h, hf⟩ := h
  cases h0 : A.length with
  | zero =>
    obtain rfl := List.eq_nil_of_length_eq_zero h0
    obtain ⟨ao, cap, rfl, _⟩ := h.slice
    exact ⟨⟨ao, cap, rfl, fun i x hx => by simp at hx⟩, hf⟩
  | succ n =>
    obtain ⟨g, cap, cur, rfl, _, hg, _⟩ := h.form (by omega)
    refine ⟨⟨_, cap, rfl, fun i x hx => ⟨g, 0, rfl, hg, ?_, ?_⟩⟩, hf⟩
    · rw [Nat.zero_add]; exact h.cell ((fl_at At.cells 2 (fun _ => rfl) A i 0 x hx (by decide)).trans rfl)
    · rw [Nat.zero_add]; exact h.cell ((fl_at At.cells 2 (fun _ => rfl) A i 1 x hx (by decide)).trans rfl)
theorem Own.nil (w : World) : Own w (.slice none 0 0) [] := ⟨Rw.nil _ _ _ _, Nat.zero_le _⟩

theorem size34 : (Tryd.prog.info? 34).map (·.size) = some 4 := by kernel_rfl
/-- What copied answers: the same element, its attributes in new memory. -/
abbrev Cpd (d : El) (w : World) (e : Ending) (w' : World) : Prop := ∃ v, e = .returned (.agg #[iv d.id, iv d.sp, .string d.nm, v]) ∧ Own w' v d.al ∧ (∀ g, v.ownBlock = some g → w.heap.size ≤ g) ∧ Below w.heap.size w w'
set_option maxHeartbeats 2000000 in
set_option maxRecDepth 20000 in
theorem copied_any {w : World} {d : El} (h : Ats w d.av d.al) : Calls Tryd.prog 38 #[.agg d.arr] w (Cpd d w) := by
  obtain ⟨id, sp, nm, av, al⟩ := d
  obtain ⟨⟨ao, ac, hav, hr⟩, hf⟩ := h
  simp only at hav hr hf
  subst hav
  obtain ⟨W1, hW1⟩ : ∃ W1, w.alloc (.cells #[iv id, iv sp, .string nm, .slice ao al.length ac] 34) = W1 := ⟨_, rfl⟩
  have HW1 : Hid (w.alloc (.cells #[iv id, iv sp, .string nm, .slice ao al.length ac] 34) = W1) := hW1
  have x1 : Bx W1 w.heap.size 34 #[iv id, iv sp, .string nm, .slice ao al.length ac] := by rw [← hW1]; exact heap_alloc_new w _
  have b1 : Below w.heap.size w W1 := by rw [← hW1]; exact (Below.refl _ _).alloc (Nat.le_refl _) _
  have hs : W1.heap.size = w.heap.size + 1 := by rw [← hW1]; exact World.size_alloc _ _
  clear hW1
  obtain ⟨W2, hW2⟩ : ∃ W2, W1.alloc (.cells #[Value.int IntKind.i64 0, Value.int IntKind.i64 0, Value.string { data := #[] }, Value.slice none 0 0] 34) = W2 := ⟨_, rfl⟩
  have HW2 : Hid (W1.alloc (.cells #[Value.int IntKind.i64 0, Value.int IntKind.i64 0, Value.string { data := #[] }, Value.slice none 0 0] 34) = W2) := hW2
  have x2 : Bx W2 (w.heap.size + 1) 34 #[Value.int IntKind.i64 0, Value.int IntKind.i64 0, Value.string { data := #[] }, Value.slice none 0 0] := by rw [← hW2]; rw [← hs]; exact heap_alloc_new W1 _
  have b2 : Below W1.heap.size W1 W2 := by rw [← hW2]; exact (Below.refl _ _).alloc (Nat.le_refl _) _
  have y2 := x1.old b2
  have bb2 := b1.trans (b2.mono b1.size)
  clear hW2
  have c3 : W2.cell? ⟨w.heap.size, 3, none⟩ = some (.slice ao al.length ac) := y2.cell 3
  obtain ⟨W3, hW3⟩ : ∃ W3, W2.alloc (.cells #[.slice ao al.length ac] 32) = W3 := ⟨_, rfl⟩
  have HW3 : Hid (W2.alloc (.cells #[.slice ao al.length ac] 32) = W3) := hW3
  have x3 : Bx W3 W2.heap.size 32 #[.slice ao al.length ac] := by rw [← hW3]; exact heap_alloc_new W2 _
  have b3 : Below W2.heap.size W2 W3 := by rw [← hW3]; exact (Below.refl _ _).alloc (Nat.le_refl _) _
  have bb3 := bb2.trans (b3.mono bb2.size)
  clear hW3
  have r3 : AtRow W3 ao al := hr.old bb3
  have kc := concat51_any (w := W3) (b := W2.heap.size) (ao := ao) (A := al.flatMap At.cells) al.length ac x3.lt (x3.cell 0) (at_len al) (fun j u hj => by
    obtain ⟨i, y, k1, k2⟩ := flat_at al j u hj
    obtain ⟨b', off', e, hb', c1, c2⟩ := r3 i y k1
    rcases k2 with ⟨rfl, rfl⟩ | ⟨rfl, rfl⟩
    · exact ⟨b', off', e, hb', c1⟩
    · exact ⟨b', off', e, hb', by rw [← Nat.add_assoc]; exact c2⟩) (at_one al) hf
  have HB : Hid (Bx W3 w.heap.size 34 #[iv id, iv sp, .string nm, .slice ao al.length ac] ∧ Bx W3 (w.heap.size + 1) 34 #[Value.int IntKind.i64 0, Value.int IntKind.i64 0, Value.string { data := #[] }, Value.slice none 0 0] ∧ Below w.heap.size w W3 ∧ w.heap.size < (w.heap.size + 1) ∧ al.length ≤ 4398046511104) := ⟨y2.old b3, x2.old b3, bb3, by omega, hf⟩
  clear hs x1 b1 x2 b2 y2 bb2 x3 b3 bb3 r3 hr hf
  show Calls Tryd.prog 38 #[.agg #[iv id, iv sp, .string nm, .slice ao al.length ac]] w _
  go_enter Tryd.func38, Tryd.ntmps38
  go_upto_region 1 with fail
  rw [HW1.out, HW2.out]
  go_wp2_with fail
  rw [HW3.out]
  refine kc.mono ?_
  rintro e w4 ⟨v, rfl, r4, b4⟩
  obtain ⟨o1, a1, rfl, _⟩ := r4.slice
  have y1 := HB.out.1.old b4
  have z1 := HB.out.2.1.old b4
  have f1 := y1.frozen 3
  have HC : Hid (Bx w4 w.heap.size 34 #[iv id, iv sp, .string nm, .slice ao al.length ac] ∧ Bx w4 (w.heap.size + 1) 34 #[Value.int IntKind.i64 0, Value.int IntKind.i64 0, Value.string { data := #[] }, Value.slice none 0 0] ∧ Below w.heap.size w w4 ∧ Rw (fun k => k < W3.heap.size) w4 71 2 (.slice o1 al.length a1) al.length (al.flatMap At.cells)) := ⟨y1, z1, HB.out.2.2.1.trans (b4.mono HB.out.2.2.1.size), r4⟩
  have k3 : w4.cell? ⟨w.heap.size, 3, none⟩ = some (.slice ao al.length ac) := y1.cell 3
  clear y1 z1 r4 b4 kc c3
  go_upto_region 2 with fail
  have m1 : Bx (w4.setCell ⟨w.heap.size, 3, none⟩ (.slice o1 al.length a1)) w.heap.size 34 #[iv id, iv sp, .string nm, .slice o1 al.length a1] := HC.out.1.set 3 _
  have m2 : Bx (w4.setCell ⟨w.heap.size, 3, none⟩ (.slice o1 al.length a1)) (w.heap.size + 1) 34 #[Value.int IntKind.i64 0, Value.int IntKind.i64 0, Value.string { data := #[] }, Value.slice none 0 0] := HC.out.2.1.other (by have := HB.out.2.2.2.1; omega) 3 _
  have m3 : Below w.heap.size w (w4.setCell ⟨w.heap.size, 3, none⟩ (.slice o1 al.length a1)) := HC.out.2.2.1.setCell (p := ⟨w.heap.size, 3, none⟩) (Nat.le_refl _) _
  have m4 : Rw (fun k => k < W3.heap.size) (w4.setCell ⟨w.heap.size, 3, none⟩ (.slice o1 al.length a1)) 71 2 (.slice o1 al.length a1) al.length (al.flatMap At.cells) := HC.out.2.2.2.off (b := w.heap.size) (fun g _ hg => heap_setCell_other w4 ⟨w.heap.size, 3, none⟩ g _ hg) HC.out.1 (by decide)
  generalize w4.setCell ⟨w.heap.size, 3, none⟩ (.slice o1 al.length a1) = W5 at *
  have HD : Hid (Bx W5 (w.heap.size + 1) 34 #[Value.int IntKind.i64 0, Value.int IntKind.i64 0, Value.string { data := #[] }, Value.slice none 0 0] ∧ Below w.heap.size w W5 ∧ Rw (fun k => k < W3.heap.size) W5 71 2 (.slice o1 al.length a1) al.length (al.flatMap At.cells)) := ⟨m2, m3, m4⟩
  have k0 : W5.cell? ⟨w.heap.size, 0, none⟩ = some (iv id) := m1.cell 0
  have k1 : W5.cell? ⟨w.heap.size, 1, none⟩ = some (iv sp) := m1.cell 1
  have k2 : W5.cell? ⟨w.heap.size, 2, none⟩ = some (.string nm) := m1.cell 2
  have k4 : W5.cell? ⟨w.heap.size, 3, none⟩ = some (.slice o1 al.length a1) := m1.cell 3
  have j0 : W5.cell? ⟨(w.heap.size + 1), 0, none⟩ = some (iv 0) := m2.cell 0
  have j1 : W5.cell? ⟨(w.heap.size + 1), 1, none⟩ = some (iv 0) := m2.cell 1
  have j2 : W5.cell? ⟨(w.heap.size + 1), 2, none⟩ = some (.string { data := #[] }) := m2.cell 2
  have j3 : W5.cell? ⟨(w.heap.size + 1), 3, none⟩ = some (.slice none 0 0) := m2.cell 3
  have f0 := m2.frozen 0
  have f1' := m2.frozen 1
  have f2 := m2.frozen 2
  have f3 := m2.frozen 3
  clear m1 m2 m3 m4 k3 f1
  have HP : Hid (Bx ((((W5.setCell ⟨(w.heap.size + 1), 0, none⟩ (iv id)).setCell ⟨(w.heap.size + 1), 1, none⟩ (iv sp)).setCell ⟨(w.heap.size + 1), 2, none⟩ (.string nm)).setCell ⟨(w.heap.size + 1), 3, none⟩ (.slice o1 al.length a1)) (w.heap.size + 1) 34 #[iv id, iv sp, .string nm, .slice o1 al.length a1] ∧ Cpd ⟨id, sp, nm, .slice ao al.length ac, al⟩ w (.returned (.agg #[iv id, iv sp, .string nm, .slice o1 al.length a1])) ((((W5.setCell ⟨(w.heap.size + 1), 0, none⟩ (iv id)).setCell ⟨(w.heap.size + 1), 1, none⟩ (iv sp)).setCell ⟨(w.heap.size + 1), 2, none⟩ (.string nm)).setCell ⟨(w.heap.size + 1), 3, none⟩ (.slice o1 al.length a1))) := by
    have hlt := HB.out.2.2.2.1
    refine ⟨(((HD.out.1.set 0 (iv id)).set 1 (iv sp)).set 2 (.string nm)).set 3 (.slice o1 al.length a1), _, rfl, ⟨?_, HB.out.2.2.2.2⟩, fun g hg => ?_, ?_⟩
    · refine (Rw.off (b := (w.heap.size + 1)) HD.out.2.2 (fun g _ hg => ?_) HD.out.1 (by decide)).sub (fun i h => h.elim)
      exact (heap_setCell_other _ ⟨(w.heap.size + 1), 3, none⟩ g _ hg).trans ((heap_setCell_other _ ⟨(w.heap.size + 1), 2, none⟩ g _ hg).trans ((heap_setCell_other _ ⟨(w.heap.size + 1), 1, none⟩ g _ hg).trans (heap_setCell_other _ ⟨(w.heap.size + 1), 0, none⟩ g _ hg)))
    · have := HD.out.2.2.out g hg
      have h3 := HB.out.2.2.1.size
      omega
    · exact ((((HD.out.2.1.setCell (p := ⟨(w.heap.size + 1), 0, none⟩) (Nat.le_of_lt hlt) _).setCell (p := ⟨(w.heap.size + 1), 1, none⟩) (Nat.le_of_lt hlt) _).setCell (p := ⟨(w.heap.size + 1), 2, none⟩) (Nat.le_of_lt hlt) _).setCell (p := ⟨(w.heap.size + 1), 3, none⟩) (Nat.le_of_lt hlt) _)
  go_wp2_with fail
  refine bodyPost_ret (results_cell_row rfl _ _ (w.heap.size + 1) 34 _ (0, 0) _ rfl HP.out.1 Tryd.underlying34 rfl size34) rfl ?_
  exact HP.out.2
end Go.Proofs.YtkmghkfdegdikaaDoor
