/- The document's own, Push. -/
import Derived.Test.YtkmghkfdegdikaaDoorCa
namespace Go.Proofs.YtkmghkfdegdikaaDoor
open Go.RowKit

set_option maxHeartbeats 2000000 in
set_option maxRecDepth 20000 in
theorem rown_any {w : World} {d : El} (h : Ats w d.av d.al) : Calls Tryd.prog 48 #[.agg d.arr] w (Cpd d w) := by
  obtain ⟨id, sp, nm, av, al⟩ := d
  obtain ⟨⟨ao, ac, hav, hr⟩, hf⟩ := h
  simp only at hav hr hf
  subst hav
  obtain ⟨W1, hW1⟩ : ∃ W1, w.alloc (.cells #[iv id, iv sp, .string nm, .slice ao al.length ac] 34) = W1 := ⟨_, rfl⟩
  have HW1 : Hid (w.alloc (.cells #[iv id, iv sp, .string nm, .slice ao al.length ac] 34) = W1) := hW1
  have x1 : Bx W1 w.heap.size 34 #[iv id, iv sp, .string nm, .slice ao al.length ac] := by rw [← hW1]; exact heap_alloc_new w _
  have b1 : Below w.heap.size w W1 := by rw [← hW1]; exact (Below.refl _ _).alloc (Nat.le_refl _) _
  have hs : W1.heap.size = w.heap.size + 1 := by rw [← hW1]; exact World.size_alloc _ _
  clear hW1
  obtain ⟨W2, hW2⟩ : ∃ W2, W1.alloc (.cells #[Value.int IntKind.i64 0, Value.int IntKind.i64 0, Value.string { data := #[] }, Value.slice none 0 0] 34) = W2 := ⟨_, rfl⟩
  have HW2 : Hid (W1.alloc (.cells #[Value.int IntKind.i64 0, Value.int IntKind.i64 0, Value.string { data := #[] }, Value.slice none 0 0] 34) = W2) := hW2
  have x2 : Bx W2 (w.heap.size + 1) 34 #[Value.int IntKind.i64 0, Value.int IntKind.i64 0, Value.string { data := #[] }, Value.slice none 0 0] := by rw [← hW2, ← hs]; exact heap_alloc_new W1 _
  have b2 : Below W1.heap.size W1 W2 := by rw [← hW2]; exact (Below.refl _ _).alloc (Nat.le_refl _) _
  have y2 := x1.old b2
  have bb2 := b1.trans (b2.mono b1.size)
  clear hW2
  have c3 : W2.cell? ⟨w.heap.size, 3, none⟩ = some (.slice ao al.length ac) := y2.cell 3
  have r3 : AtRow W2 ao al := hr.old bb2
  obtain ⟨v, W4, hrun, r4, g4, _⟩ := Rw.apps (t := 32) (e := 71) Tryd.underlying32 info71 rfl (by decide) (Rw.nil (fun k => k < W2.heap.size) W2 71 2) (fun k hk => hk) ao al.length ac (al.flatMap At.cells) (at_len al) (fun j u hj => by
    obtain ⟨i, y, k1, k2⟩ := flat_at al j u hj
    obtain ⟨b', off', e, hb', c1, c2⟩ := r3 i y k1
    rcases k2 with ⟨rfl, rfl⟩ | ⟨rfl, rfl⟩
    · exact ⟨b', off', e, c1⟩
    · exact ⟨b', off', e, by rw [← Nat.add_assoc]; exact c2⟩) (at_one al) (by omega) (by omega)
  rw [Nat.zero_add, List.nil_append] at r4
  have b4 : Below W2.heap.size W2 W4 := (Rw.keep (Rw.nil (fun k => k < W2.heap.size) W2 71 2) g4).below (fun k hk => hk) (Nat.le_refl _)
  obtain ⟨o1, a1, rfl, _⟩ := r4.slice
  have y4 := y2.old b4
  have z4 := x2.old b4
  have HC : Hid (Bx W4 w.heap.size 34 #[iv id, iv sp, .string nm, .slice ao al.length ac] ∧ Bx W4 (w.heap.size + 1) 34 #[Value.int IntKind.i64 0, Value.int IntKind.i64 0, Value.string { data := #[] }, Value.slice none 0 0] ∧ Below w.heap.size w W4 ∧ Rw (fun k => k < W2.heap.size) W4 71 2 (.slice o1 al.length a1) al.length (al.flatMap At.cells) ∧ Below w.heap.size w W2 ∧ al.length ≤ 4398046511104) := ⟨y4, z4, bb2.trans (b4.mono bb2.size), r4, bb2, hf⟩
  have k3 : W4.cell? ⟨w.heap.size, 3, none⟩ = some (.slice ao al.length ac) := y4.cell 3
  have f3 := y4.frozen 3
  have m1 : Bx (W4.setCell ⟨w.heap.size, 3, none⟩ (.slice o1 al.length a1)) w.heap.size 34 #[iv id, iv sp, .string nm, .slice o1 al.length a1] := HC.out.1.set 3 _
  have m2 : Bx (W4.setCell ⟨w.heap.size, 3, none⟩ (.slice o1 al.length a1)) (w.heap.size + 1) 34 #[Value.int IntKind.i64 0, Value.int IntKind.i64 0, Value.string { data := #[] }, Value.slice none 0 0] := HC.out.2.1.other (by omega) 3 _
  have m3 : Below w.heap.size w (W4.setCell ⟨w.heap.size, 3, none⟩ (.slice o1 al.length a1)) := HC.out.2.2.1.setCell (p := ⟨w.heap.size, 3, none⟩) (Nat.le_refl _) _
  have m4 : Rw (fun k => k < W2.heap.size) (W4.setCell ⟨w.heap.size, 3, none⟩ (.slice o1 al.length a1)) 71 2 (.slice o1 al.length a1) al.length (al.flatMap At.cells) := HC.out.2.2.2.1.off (b := w.heap.size) (fun g _ hg => heap_setCell_other W4 ⟨w.heap.size, 3, none⟩ g _ hg) HC.out.1 (by decide)
  clear hr hf hs x1 b1 x2 b2 y2 bb2 r3 r4 g4 b4 y4 z4
  show Calls Tryd.prog 48 #[.agg #[iv id, iv sp, .string nm, .slice ao al.length ac]] w _
  go_enter Tryd.func48, Tryd.ntmps48
  go_upto_region 1 with fail
  rw [HW1.out, HW2.out]
  go_upto_region 2 with (at_builtin; refine list_append_eq rfl _ _ 32 32 rfl _ _ rfl rfl hrun ?_)
  generalize W4.setCell ⟨w.heap.size, 3, none⟩ (.slice o1 al.length a1) = W5 at *
  have HD : Hid (Bx W5 (w.heap.size + 1) 34 #[Value.int IntKind.i64 0, Value.int IntKind.i64 0, Value.string { data := #[] }, Value.slice none 0 0] ∧ Below w.heap.size w W5 ∧ Rw (fun k => k < W2.heap.size) W5 71 2 (.slice o1 al.length a1) al.length (al.flatMap At.cells)) := ⟨m2, m3, m4⟩
  have k0 : W5.cell? ⟨w.heap.size, 0, none⟩ = some (iv id) := m1.cell 0
  have k1 : W5.cell? ⟨w.heap.size, 1, none⟩ = some (iv sp) := m1.cell 1
  have k2 : W5.cell? ⟨w.heap.size, 2, none⟩ = some (.string nm) := m1.cell 2
  have k4 : W5.cell? ⟨w.heap.size, 3, none⟩ = some (.slice o1 al.length a1) := m1.cell 3
  have j0 : W5.cell? ⟨w.heap.size + 1, 0, none⟩ = some (iv 0) := m2.cell 0
  have j1 : W5.cell? ⟨w.heap.size + 1, 1, none⟩ = some (iv 0) := m2.cell 1
  have j2 : W5.cell? ⟨w.heap.size + 1, 2, none⟩ = some (.string { data := #[] }) := m2.cell 2
  have j3 : W5.cell? ⟨w.heap.size + 1, 3, none⟩ = some (.slice none 0 0) := m2.cell 3
  have f0 := m2.frozen 0
  have f1' := m2.frozen 1
  have f2 := m2.frozen 2
  have f3' := m2.frozen 3
  clear m1 m2 m3 m4 k3 f3 hrun c3
  have HP : Hid (Bx ((((W5.setCell ⟨w.heap.size + 1, 0, none⟩ (iv id)).setCell ⟨w.heap.size + 1, 1, none⟩ (iv sp)).setCell ⟨w.heap.size + 1, 2, none⟩ (.string nm)).setCell ⟨w.heap.size + 1, 3, none⟩ (.slice o1 al.length a1)) (w.heap.size + 1) 34 #[iv id, iv sp, .string nm, .slice o1 al.length a1] ∧ Cpd ⟨id, sp, nm, .slice ao al.length ac, al⟩ w (.returned (.agg #[iv id, iv sp, .string nm, .slice o1 al.length a1])) ((((W5.setCell ⟨w.heap.size + 1, 0, none⟩ (iv id)).setCell ⟨w.heap.size + 1, 1, none⟩ (iv sp)).setCell ⟨w.heap.size + 1, 2, none⟩ (.string nm)).setCell ⟨w.heap.size + 1, 3, none⟩ (.slice o1 al.length a1))) := by
    refine ⟨(((HD.out.1.set 0 (iv id)).set 1 (iv sp)).set 2 (.string nm)).set 3 (.slice o1 al.length a1), _, rfl, ⟨?_, HC.out.2.2.2.2.2⟩, fun g hg => ?_, ?_⟩
    · refine (Rw.off (b := w.heap.size + 1) HD.out.2.2 (fun g _ hg => ?_) HD.out.1 (by decide)).sub (fun i h => h.elim)
      exact (heap_setCell_other _ ⟨w.heap.size + 1, 3, none⟩ g _ hg).trans ((heap_setCell_other _ ⟨w.heap.size + 1, 2, none⟩ g _ hg).trans ((heap_setCell_other _ ⟨w.heap.size + 1, 1, none⟩ g _ hg).trans (heap_setCell_other _ ⟨w.heap.size + 1, 0, none⟩ g _ hg)))
    · have := HD.out.2.2.out g hg
      have h3 := HC.out.2.2.2.2.1.size
      omega
    · have hlt : w.heap.size ≤ w.heap.size + 1 := by omega
      exact ((((HD.out.2.1.setCell (p := ⟨w.heap.size + 1, 0, none⟩) hlt _).setCell (p := ⟨w.heap.size + 1, 1, none⟩) hlt _).setCell (p := ⟨w.heap.size + 1, 2, none⟩) hlt _).setCell (p := ⟨w.heap.size + 1, 3, none⟩) hlt _)
  go_wp2_with fail
  refine bodyPost_ret (results_cell_row rfl _ _ (w.heap.size + 1) 34 _ (0, 0) _ rfl HP.out.1 Tryd.underlying34 rfl size34) rfl ?_
  exact HP.out.2

/-- A row laid anew behind nil. -/
theorem dup_row {S : Nat → Prop} {V : World} {rv : Value} {n c : Nat} {ao : Option Addr} {xs : List Value} (hrv : rv = .slice ao n c) (h : Rw S V 34 4 rv n xs) (h1 : ∀ u ∈ xs, u.oneCell' = true) (hn : n ≤ 1000000000) :
    ∃ oA cA WA, (Builtin.append_ #[26, 26] 26 #[.slice none 0 0, .slice ao n c]).run Tryd.prog V = .ok (.slice oA n cA) WA ∧ Rw (fun k => k < V.heap.size) WA 34 4 (.slice oA n cA) n xs ∧ Below V.heap.size V WA := by
  subst hrv
  obtain ⟨v, W, hrun, r, g, _⟩ := Rw.apps (t := 26) (e := 34) Tryd.underlying26 info34 rfl (by decide) (Rw.nil (fun k => k < V.heap.size) V 34 4) (fun k hk => hk) ao n c xs h.own.1 (fun j u hj => by
    by_cases h0 : 0 < n
    · obtain ⟨g, cap, cur, e, _⟩ := h.form h0
      cases e
      exact ⟨g, 0, rfl, by rw [Nat.zero_add]; exact h.cell hj⟩
    · have := h.own.1
      have := (List.getElem?_eq_some_iff.1 hj).1
      omega) h1 (by omega) (by omega)
  rw [Nat.zero_add, List.nil_append] at r
  obtain ⟨oA, cA, rfl, _⟩ := r.slice
  exact ⟨oA, cA, W, hrun, r, (Rw.keep (Rw.nil (fun k => k < V.heap.size) V 34 4) g).below (fun k hk => hk) (Nat.le_refl _)⟩
/-- What the document's Push leaves. -/
def RPsh (S : Nat → Prop) (y : Nat) (M : List El) (d : El) (w : World) (w' : World) : Prop := (∃ v, RStkE S w' y (M ++ [{ d with av := v }])) ∧ Keep S w w'
/-- The last step of Push: the element behind the new row, the row into the stack. -/
theorem RStk.fin {S : Nat → Prop} {w V : World} {y : Nat} {rv : Value} {M : List El} (h : RStk S w y rv M) (b : Below w.heap.size w V) (hM : M.length ≤ 1000000000) {oA : Option Addr} {cA : Nat} (hr : Rw (fun k => k < w.heap.size) V 34 4 (.slice oA M.length cA) M.length (M.flatMap El.cs)) (d : El) {bb : Nat} {v : Value} (hb : Bx V bb 34 #[iv d.id, iv d.sp, .string d.nm, v]) (ho : Own V v d.al) :
    ∃ o6 n6 c6 W, (Builtin.append_ #[26, 26] 26 #[.slice oA M.length cA, .slice (some ⟨bb, 0, none⟩) 1 1]).run Tryd.prog V = .ok (.slice o6 n6 c6) W ∧ W.frozen? ⟨y, 0, none⟩ = false ∧ W.cell? ⟨y, 0, none⟩ = some rv ∧ RPsh S y M d w (W.setCell ⟨y, 0, none⟩ (.slice o6 n6 c6)) := by
  obtain ⟨o1, c1, rfl, _⟩ : ∃ o1 c1, v = .slice o1 d.al.length c1 ∧ True := by
    obtain ⟨o1, c1, e, _⟩ := ho.1.slice
    exact ⟨o1, c1, e, trivial⟩
  obtain ⟨V6, W, q1, q2, q3, _⟩ := Rw.app (t := 26) (e := 34) Tryd.underlying26 info34 rfl (by decide) hr (fun k hk => Nat.lt_of_lt_of_le hk b.size) bb 0 1 1 [iv d.id, iv d.sp, .string d.nm, .slice o1 d.al.length c1] rfl
    (fun j u hj => by rw [Nat.zero_add, hb.cell j, ← hj]; simp) (by intro u hu; simp only [List.mem_cons, List.not_mem_nil, or_false] at hu; rcases hu with rfl | rfl | rfl | rfl <;> rfl) (by omega) (by omega)
  have bW : Below w.heap.size w W := b.trans ((hr.keep q3).below (fun _ h => h) b.size)
  have hW := h.old bW
  obtain ⟨o6, c6, rfl, _⟩ := q2.slice
  have hxV : ∀ k, (Value.slice o6 (M.length + 1) c6).ownBlock = some k → k ≠ y := fun k hk e => by
    obtain ⟨_, c', h5⟩ := own_blk q2.own hk
    have := hW.blk
    unfold Bx at this
    rw [e, this] at h5
    simp at h5
  have sz : (W.setCell ⟨y, 0, none⟩ (.slice o6 (M.length + 1) c6)).heap.size = W.heap.size := World.size_setCell _ _ _
  have own : ∀ {v : Value} {A : List At}, Own W v A → Own (W.setCell ⟨y, 0, none⟩ (.slice o6 (M.length + 1) c6)) v A := fun {v A} q => q.mv fun g cur hg => heap_setCell_other W ⟨y, 0, none⟩ g _ (fun e => by
    have := hW.blk
    unfold Bx at this
    rw [show g = y from e, this] at hg
    simp at hg)
  have oW : Own W (.slice o1 d.al.length c1) d.al := ho.mv fun g cur hg => q3.block g (Array.getElem?_eq_some_iff.1 hg).1 (fun e => by
    obtain ⟨_, c', h5⟩ := own_blk hr.own e.symm
    rw [hg] at h5
    simp at h5)
  refine ⟨_, _, _, W, q1, hW.blk.frozen 0, hW.blk.cell 0, ⟨.slice o1 d.al.length c1, _, ⟨fun k hk => ?_, by have := hW.blk.set 0 (.slice o6 (M.length + 1) c6); exact this, h.out, ?_, fun q hq => ?_⟩⟩, (Keep.old bW).trans ⟨rfl, rfl, rfl, by rw [sz]; exact Nat.le_refl _, fun k hk _ => heap_setCell_other W ⟨y, 0, none⟩ k _ (fun e => h.out ((show k = y from e) ▸ hk))⟩⟩
  · rw [sz]
    exact hW.low k hk
  · rw [List.length_append, List.flatMap_append]
    exact (q2.mv fun g hg => heap_setCell_other W ⟨y, 0, none⟩ g _ (hxV g hg)).sub (fun k hk => h.low k hk)
  · rcases List.mem_append.1 hq with hq | hq
    · exact own (hW.own q hq)
    · simp at hq
      subst hq
      exact own oW
theorem enters48 : ∀ args w, (callFunc 48 args).run Tryd.prog w = .ok (.enter 48 args) w := enters_of Tryd.func48 (by kernel_rfl) rfl
set_option linter.unusedSimpArgs false in
set_option maxHeartbeats 4000000 in
set_option maxRecDepth 20000 in
theorem rpush_any {S : Nat → Prop} {w : World} {y : Nat} {rv : Value} {M : List El} (h : RStk S w y rv M) (hM : M.length ≤ 1000000000) (d : El) (ha : Ats w d.av d.al) : Calls Tryd.prog 28 #[ptr y, .agg d.arr] w fun e w' => e = .returned (.tuple #[]) ∧ RPsh S y M d w w' := by
  obtain ⟨id, sp, nm, av, al⟩ := d
  obtain ⟨ao, c, hrv, _⟩ := h.row.slice
  obtain ⟨ao2, ac2, hav, _⟩ := ha.ex
  simp only at hav
  subst hav
  obtain ⟨W1, hW1⟩ : ∃ W1, w.alloc (.cells #[iv id, iv sp, .string nm, .slice ao2 al.length ac2] 34) = W1 := ⟨_, rfl⟩
  have HW1 : Hid (w.alloc (.cells #[iv id, iv sp, .string nm, .slice ao2 al.length ac2] 34) = W1) := hW1
  have x1 : Bx W1 w.heap.size 34 #[iv id, iv sp, .string nm, .slice ao2 al.length ac2] := by rw [← hW1]; exact heap_alloc_new w _
  have b1 : Below w.heap.size w W1 := by rw [← hW1]; exact (Below.refl _ _).alloc (Nat.le_refl _) _
  clear hW1
  have h1 := h.old b1
  have hone := el_one M (fun d hd => (h.own d hd).one)
  have hl1 := ha.old b1
  obtain ⟨n, hn⟩ : ∃ n, M.length = n := ⟨_, rfl⟩
  have hrvn : rv = .slice ao n c := by rw [hrv, hn]
  have cx : W1.cell? ⟨y, 0, none⟩ = some (.slice ao n c) := by rw [h1.blk.cell 0, hrvn]; rfl
  have e0 : W1.cell? ⟨w.heap.size, 0, none⟩ = some (iv id) := x1.cell 0
  have e1 : W1.cell? ⟨w.heap.size, 1, none⟩ = some (iv sp) := x1.cell 1
  have e2 : W1.cell? ⟨w.heap.size, 2, none⟩ = some (.string nm) := x1.cell 2
  have e3 : W1.cell? ⟨w.heap.size, 3, none⟩ = some (.slice ao2 al.length ac2) := x1.cell 3
  have bd := (Below.refl W1.heap.size W1).drew
  have fin : ∀ {V : World}, Below W1.heap.size W1 V → ∀ {oA cA bb v}, Rw (fun k => k < W1.heap.size) V 34 4 (.slice oA n cA) n (M.flatMap El.cs) → Bx V bb 34 #[iv id, iv sp, .string nm, v] → Own V v al → ∃ o6 n6 c6 W, (Builtin.append_ #[26, 26] 26 #[.slice oA n cA, .slice (some ⟨bb, 0, none⟩) 1 1]).run Tryd.prog V = .ok (.slice o6 n6 c6) W ∧ W.frozen? ⟨y, 0, none⟩ = false ∧ W.cell? ⟨y, 0, none⟩ = some (.slice ao n c) ∧ Hid (RPsh S y M ⟨id, sp, nm, .slice ao2 al.length ac2, al⟩ w (W.setCell ⟨y, 0, none⟩ (.slice o6 n6 c6))) := by
    intro V bV oA cA bb v hr hb ho
    rw [← hn] at hr ⊢
    obtain ⟨o6, n6, c6, W, p1, p2, p3, p4, p5⟩ := h1.fin bV hM hr ⟨id, sp, nm, .slice ao2 al.length ac2, al⟩ hb ho
    exact ⟨o6, n6, c6, W, p1, p2, by rw [p3, hrv], p4, (Keep.old b1).trans p5⟩
  have dup : ∀ {V : World}, Below W1.heap.size W1 V → ∃ oA cA WA, (Builtin.append_ #[26, 26] 26 #[.slice none 0 0, .slice ao n c]).run Tryd.prog V = .ok (.slice oA n cA) WA ∧ Rw (fun k => k < W1.heap.size) WA 34 4 (.slice oA n cA) n (M.flatMap El.cs) ∧ Below V.heap.size V WA := by
    intro V bV
    have hr := (h1.old bV).row
    rw [hn] at hr
    obtain ⟨oA, cA, WA, p1, p2, p3⟩ := dup_row hrvn hr hone (by omega)
    exact ⟨oA, cA, WA, p1, p2.sub (fun k hk => Nat.lt_of_lt_of_le hk bV.size), p3⟩
  have yc : ∀ {V : World}, Below W1.heap.size W1 V → V.cell? ⟨y, 0, none⟩ = some (.slice ao n c) := fun bV => by rw [(h1.old bV).blk.cell 0, hrvn]; rfl
  -- the row first
  obtain ⟨oA0, cA0, WA0, hr0, rA0, bA0⟩ := dup bd
  have bA0' : Below W1.heap.size W1 WA0 := bd.trans bA0
  have x0 := x1.old bA0'
  have a0 : WA0.cell? ⟨w.heap.size, 0, none⟩ = some (iv id) := x0.cell 0
  have a1 : WA0.cell? ⟨w.heap.size, 1, none⟩ = some (iv sp) := x0.cell 1
  have a2 : WA0.cell? ⟨w.heap.size, 2, none⟩ = some (.string nm) := x0.cell 2
  have a3 : WA0.cell? ⟨w.heap.size, 3, none⟩ = some (.slice ao2 al.length ac2) := x0.cell 3
  have HC1 : Hid (Calls Tryd.prog 48 #[.agg #[iv id, iv sp, .string nm, .slice ao2 al.length ac2]] WA0 fun e w1 => ∃ ao5 an5 ac5, e = .returned (.agg #[iv id, iv sp, .string nm, .slice ao5 an5 ac5]) ∧ ∃ o6 n6 c6 W, (Builtin.append_ #[26, 26] 26 #[.slice oA0 n cA0, .slice (some ⟨w1.heap.size, 0, none⟩) 1 1]).run Tryd.prog (w1.alloc (.cells #[iv id, iv sp, .string nm, .slice ao5 an5 ac5] 34)) = .ok (.slice o6 n6 c6) W ∧ W.frozen? ⟨y, 0, none⟩ = false ∧ W.cell? ⟨y, 0, none⟩ = some (.slice ao n c) ∧ Hid (RPsh S y M ⟨id, sp, nm, .slice ao2 al.length ac2, al⟩ w (W.setCell ⟨y, 0, none⟩ (.slice o6 n6 c6)))) := (rown_any (w := WA0) (d := ⟨id, sp, nm, .slice ao2 al.length ac2, al⟩) (hl1.old bA0')).mono (by
    rintro e w1 ⟨v, rfl, o1, _, b2⟩
    obtain ⟨ao5, ac5, hv, _⟩ := o1.1.slice
    simp only at hv o1
    subst hv
    have bn : Below w1.heap.size w1 (w1.alloc (.cells #[iv id, iv sp, .string nm, .slice ao5 al.length ac5] 34)) := (Below.refl _ _).alloc (Nat.le_refl _) _
    have b3 := bA0'.trans ((b2.trans (bn.mono b2.size)).mono bA0'.size)
    exact ⟨_, _, _, rfl, fin b3 ((rA0.old b2).old bn) (heap_alloc_new w1 _) (o1.old bn)⟩)
  have HC0 : Hid (Calls Tryd.prog 48 #[.agg #[iv id, iv sp, .string nm, .slice ao2 al.length ac2]] W1.drew fun e w1 => ∃ ao5 an5 ac5, e = .returned (.agg #[iv id, iv sp, .string nm, .slice ao5 an5 ac5]) ∧ w1.cell? ⟨y, 0, none⟩ = some (.slice ao n c) ∧ (w1.alloc (.cells #[iv id, iv sp, .string nm, .slice ao5 an5 ac5] 34)).cell? ⟨y, 0, none⟩ = some (.slice ao n c) ∧
      (∃ oA cA WA, (Builtin.append_ #[26, 26] 26 #[.slice none 0 0, .slice ao n c]).run Tryd.prog w1 = .ok (.slice oA n cA) WA ∧ ∃ o6 n6 c6 W, (Builtin.append_ #[26, 26] 26 #[.slice oA n cA, .slice (some ⟨WA.heap.size, 0, none⟩) 1 1]).run Tryd.prog (WA.alloc (.cells #[iv id, iv sp, .string nm, .slice ao5 an5 ac5] 34)) = .ok (.slice o6 n6 c6) W ∧ W.frozen? ⟨y, 0, none⟩ = false ∧ W.cell? ⟨y, 0, none⟩ = some (.slice ao n c) ∧ Hid (RPsh S y M ⟨id, sp, nm, .slice ao2 al.length ac2, al⟩ w (W.setCell ⟨y, 0, none⟩ (.slice o6 n6 c6)))) ∧
      (∃ oA cA WA, (Builtin.append_ #[26, 26] 26 #[.slice none 0 0, .slice ao n c]).run Tryd.prog (w1.alloc (.cells #[iv id, iv sp, .string nm, .slice ao5 an5 ac5] 34)) = .ok (.slice oA n cA) WA ∧ ∃ o6 n6 c6 W, (Builtin.append_ #[26, 26] 26 #[.slice oA n cA, .slice (some ⟨w1.heap.size, 0, none⟩) 1 1]).run Tryd.prog WA = .ok (.slice o6 n6 c6) W ∧ W.frozen? ⟨y, 0, none⟩ = false ∧ W.cell? ⟨y, 0, none⟩ = some (.slice ao n c) ∧ Hid (RPsh S y M ⟨id, sp, nm, .slice ao2 al.length ac2, al⟩ w (W.setCell ⟨y, 0, none⟩ (.slice o6 n6 c6))))) := (rown_any (w := W1.drew) (d := ⟨id, sp, nm, .slice ao2 al.length ac2, al⟩) (hl1.old bd)).mono (by
    rintro e w1 ⟨v, rfl, o1, _, b2⟩
    obtain ⟨ao5, ac5, hv, _⟩ := o1.1.slice
    simp only at hv o1
    subst hv
    have b2' : Below W1.heap.size W1 w1 := bd.trans b2
    have bn : Below w1.heap.size w1 (w1.alloc (.cells #[iv id, iv sp, .string nm, .slice ao5 al.length ac5] 34)) := (Below.refl _ _).alloc (Nat.le_refl _) _
    have b3 := b2'.trans (bn.mono b2'.size)
    refine ⟨_, _, _, rfl, yc b2', yc b3, ?_, ?_⟩
    · obtain ⟨oA, cA, WA, p1, p2, p3⟩ := dup b2'
      have bm : Below WA.heap.size WA (WA.alloc (.cells #[iv id, iv sp, .string nm, .slice ao5 al.length ac5] 34)) := (Below.refl _ _).alloc (Nat.le_refl _) _
      have b4 := b2'.trans ((p3.trans (bm.mono p3.size)).mono b2'.size)
      exact ⟨oA, cA, WA, p1, fin b4 (p2.old bm) (heap_alloc_new WA _) ((o1.old p3).old bm)⟩
    · obtain ⟨oA, cA, WA, p1, p2, p3⟩ := dup b3
      have xn : Bx (w1.alloc (.cells #[iv id, iv sp, .string nm, .slice ao5 al.length ac5] 34)) w1.heap.size 34 #[iv id, iv sp, .string nm, .slice ao5 al.length ac5] := heap_alloc_new w1 _
      exact ⟨oA, cA, WA, p1, fin (b3.trans (p3.mono b3.size)) p2 (xn.old p3) ((o1.old bn).old p3)⟩)
  clear fin dup yc x0 rA0 bA0 bA0' bd hl1 hone h1 b1 x1 h ha hrv hrvn hM hn
  show Calls Tryd.prog 28 #[ptr y, .agg #[iv id, iv sp, .string nm, .slice ao2 al.length ac2]] w _
  go_enter Tryd.func28, Tryd.ntmps28
  go_upto_region 1 with fail
  rw [HW1.out]
  go_region_law (first
    | (refine step_call1 48 _ _ rfl rfl enters48 _ (by first | (simp [Act.eval]; done) | simp [Act.eval, Act.put]) HC0.out ?_; rintro e w1 ⟨ao5, an5, ac5, rfl, y0, y1, ⟨oA2, cA2, WA2, hr2, o62, n62, c62, W2, hs2, fz2, yc2, HP2⟩, ⟨oA3, cA3, WA3, hr3, o63, n63, c63, W3, hs3, fz3, yc3, HP3⟩⟩; refine ⟨_, rfl, ?_⟩)
    | (refine step_call1 48 _ _ rfl rfl enters48 _ (by first | (simp [Act.eval]; done) | simp [Act.eval, Act.put]) HC1.out ?_; rintro e w1 ⟨ao5, an5, ac5, rfl, o61, n61, c61, W1', hs1, fz1, yc1, HP1⟩; refine ⟨_, rfl, ?_⟩)
    | refine step_append_eq rfl _ _ 26 26 rfl _ _ (by first | (simp [Act.eval]; done) | simp [Act.eval, Act.put]) (by first | (simp [Act.eval]; done) | simp [Act.eval, Act.put]) hr0 ?_
    | refine step_append_eq rfl _ _ 26 26 rfl _ _ (by first | (simp [Act.eval]; done) | simp [Act.eval, Act.put]) (by first | (simp [Act.eval]; done) | simp [Act.eval, Act.put]) hr2 ?_
    | refine step_append_eq rfl _ _ 26 26 rfl _ _ (by first | (simp [Act.eval]; done) | simp [Act.eval, Act.put]) (by first | (simp [Act.eval]; done) | simp [Act.eval, Act.put]) hr3 ?_
    | refine step_append_eq rfl _ _ 26 26 rfl _ _ (by first | (simp [Act.eval]; done) | simp [Act.eval, Act.put]) (by first | (simp [Act.eval]; done) | simp [Act.eval, Act.put]) hs1 ?_
    | refine step_append_eq rfl _ _ 26 26 rfl _ _ (by first | (simp [Act.eval]; done) | simp [Act.eval, Act.put]) (by first | (simp [Act.eval]; done) | simp [Act.eval, Act.put]) hs2 ?_
    | refine step_append_eq rfl _ _ 26 26 rfl _ _ (by first | (simp [Act.eval]; done) | simp [Act.eval, Act.put]) (by first | (simp [Act.eval]; done) | simp [Act.eval, Act.put]) hs3 ?_)
  all_goals
    go_wp2_with fail
    refine bodyPost_end (results_none rfl _ _ _) rfl ?_
    refine ⟨rfl, ?_⟩
    first | with_reducible exact HP1.out | with_reducible exact HP2.out | with_reducible exact HP3.out
end Go.Proofs.YtkmghkfdegdikaaDoor
