/- A node taken from its parent: unlink, Detach. -/
import Derived.Test.YtcdaghlbfclpkaaAe
import Derived.Test.YtcdaghlbfclpkaaAg
import Derived.Laws.IdiomCopy
namespace Go.Proofs.Ytcdaghlbfclpkaa
open Go.RowKit

/-- 'clear' where its run is known by an equation. -/
theorem list_clear_eq {P : Program} {ops : Array Oper} {rest : List Oper} {o : Oper} {a : Act} {w : World} {Q : Exit → Act → World → Prop}
    (hg : o.guard = none) (d : Operand) (dT : TypeId) (hop : o.op = Op.call { callee := Callee.builtin Builtin.clear, args := #[d], argTypes := #[dT] })
    (v : Value) (hd : a.eval d = v) {v' : Value} {w' : World} (hr : (Builtin.clear_ #[dT] o.type #[v]).run P w = .ok v' w') (hK : wpList P ops Q rest (a.put o.dst v') w') :
    wpList P ops Q (o :: rest) a w :=
  wpList_plain hg fun K hK2 => by
    unfold Oper.wp
    simp [execOp, hop, resolve, invoke, builtin, hd, hr, Result.andThen]
    exact hK2 _ _ hK
theorem run_clear4 (w : World) (h o c ty : Nat) (hc : ∀ j, j < 4 → (w.cell? ⟨h, o + j, none⟩).isSome = true) (hf : ∀ j, j < 4 → w.frozen? ⟨h, o + j, none⟩ = false) :
    (Builtin.clear_ #[62] ty #[.slice (some ⟨h, o, none⟩) 1 c]).run Try.prog w = .ok (.tuple #[]) (w.setCells h o [.bool false, .int .i64 0, .int .i64 0, .int .i64 0]) := by
  have hst := run_storeCells_cells (P := Try.prog) h o [.bool false, .int .i64 0, .int .i64 0, .int .i64 0] 0 w (by simpa using hc) (by simpa using hf) (by intro v hv; simp only [List.mem_cons, List.not_mem_nil, or_false] at hv; rcases hv with rfl | rfl | rfl | rfl <;> rfl)
  simp only [Nat.add_zero] at hst
  have hz : (Builtin.zeroCells (Value.agg #[.bool false, .int .i64 0, .int .i64 0, .int .i64 0]).cells 1).toList = [.bool false, .int .i64 0, .int .i64 0, .int .i64 0] := by kernel_rfl
  simp [Builtin.clear_, run_underlying Try.underlying62, hz, hst]
theorem setCells4 (w : World) (h o : Nat) (a b c d : Value) : w.setCells h o [a, b, c, d] = (((w.setCell ⟨h, o, none⟩ a).setCell ⟨h, o + 1, none⟩ b).setCell ⟨h, o + 2, none⟩ c).setCell ⟨h, o + 3, none⟩ d := rfl
def unlinkS (P : List Sp) (i : Nat) (s : Sp) : List Sp := joinS (P.set i ⟨false, 0, 0, 0⟩) s.a s.b
def unlinkE (E : List En) (s : Sp) : List En := joinE E s.p s.a s.b
set_option maxHeartbeats 1000000 in
theorem unlink_any {S : Nat → Prop} {w : World} {x g n cn h cs k ce : Nat} {N : List Nd} {P : List Sp} {E : List En} (o : Op3 S w x g n cn h cs k ce N P E) {i : Nat} {s : Sp} (hs : P[i]? = some s) (hp : s.p < n) (ha : s.a < n) (hb : s.b < n) :
    Calls Try.prog 48 #[ptr x, iv (i : Int)] w (Dn S x g n cn h cs k ce N (unlinkS P i s) (unlinkE E s) w) := by
  have hi : i < n := by rw [← o.nn, ← o.v.pl]; exact (List.getElem?_eq_some_iff.1 hs).1
  have hi2 : (i : Int) < (n : Int) := by omega
  have hn : n ≤ 1000000000 := by rw [← o.nn]; exact o.v.few
  obtain ⟨_, c1, _⟩ := o.c
  have d0 : w.cell? ⟨h, i * 4, none⟩ = some (.bool s.i) := o.sp (j := 0) hs (by decide)
  have d1 : w.cell? ⟨h, i * 4 + 1, none⟩ = some (iv (s.p : Int)) := o.sp (j := 1) hs (by decide)
  have d2 : w.cell? ⟨h, i * 4 + 2, none⟩ = some (iv (s.a : Int)) := o.sp (j := 2) hs (by decide)
  have d3 : w.cell? ⟨h, i * 4 + 3, none⟩ = some (iv (s.b : Int)) := o.sp (j := 3) hs (by decide)
  have b0 : Below w.heap.size w (w.alloc (.cells #[.bool s.i, iv (s.p : Int), iv (s.a : Int), iv (s.b : Int)] 77)) := (Below.refl _ _).alloc (Nat.le_refl _) _
  have n0 := heap_alloc_new w (.cells #[.bool s.i, iv (s.p : Int), iv (s.a : Int), iv (s.b : Int)] 77)
  obtain ⟨W0, hW0⟩ : ∃ W0, w.alloc (.cells #[.bool s.i, iv (s.p : Int), iv (s.a : Int), iv (s.b : Int)] 77) = W0 := ⟨_, rfl⟩
  have HW0 : Hid (w.alloc (.cells #[.bool s.i, iv (s.p : Int), iv (s.a : Int), iv (s.b : Int)] 77) = W0) := hW0
  rw [hW0] at b0 n0
  clear hW0
  have o0 := o.old b0
  obtain ⟨_, e1, _⟩ := o0.c
  obtain ⟨t, q0, q1, q2, q3, fz, o1, k1⟩ := o0.setS4 hi ⟨false, 0, 0, 0⟩
  have hrun := fun ty c => run_clear4 W0 h (i * 4) c ty (fun j hj => by
    match j, hj with
    | 0, _ => rw [Nat.add_zero, q0]; rfl
    | 1, _ => rw [q1]; rfl
    | 2, _ => rw [q2]; rfl
    | 3, _ => rw [q3]; rfl) (fun j _ => fz _)
  have hW1 : W0.setCells h (i * 4) [.bool false, .int .i64 0, .int .i64 0, .int .i64 0] = ((((W0.setCell ⟨h, i * 4, none⟩ (.bool false)).setCell ⟨h, i * 4 + 1, none⟩ (iv ((0 : Nat) : Int))).setCell ⟨h, i * 4 + 2, none⟩ (iv ((0 : Nat) : Int))).setCell ⟨h, i * 4 + 3, none⟩ (iv ((0 : Nat) : Int))) := setCells4 _ _ _ _ _ _ _
  simp only at o1 k1
  rw [← hW1] at o1 k1
  have hyh : w.heap.size ≠ h := by
    obtain ⟨g', c', cur, e, _, hlt, _⟩ := o.v.sr.form (by rw [o.v.pl, o.nn]; omega)
    simp only [Value.slice.injEq, Option.some.injEq, Addr.mk.injEq, and_true] at e
    rw [e.1]
    omega
  have ny : (W0.setCells h (i * 4) [.bool false, .int .i64 0, .int .i64 0, .int .i64 0]).heap[w.heap.size]? = some (.cells #[.bool s.i, iv (s.p : Int), iv (s.a : Int), iv (s.b : Int)] 77 (0, 0)) := by
    rw [hW1]
    exact (heap_setCell_other _ ⟨h, i * 4 + 3, none⟩ w.heap.size _ hyh).trans ((heap_setCell_other _ ⟨h, i * 4 + 2, none⟩ w.heap.size _ hyh).trans ((heap_setCell_other _ ⟨h, i * 4 + 1, none⟩ w.heap.size _ hyh).trans ((heap_setCell_other _ ⟨h, i * 4, none⟩ w.heap.size _ hyh).trans n0)))
  clear hW1
  obtain ⟨W1, hW1⟩ : ∃ W1, W0.setCells h (i * 4) [.bool false, .int .i64 0, .int .i64 0, .int .i64 0] = W1 := ⟨_, rfl⟩
  rw [hW1] at o1 k1 ny hrun
  clear hW1
  have y1 : W1.cell? ⟨w.heap.size, 1, none⟩ = some (iv (s.p : Int)) := by simp [World.cell?, ny]
  have y2 : W1.cell? ⟨w.heap.size, 2, none⟩ = some (iv (s.a : Int)) := by simp [World.cell?, ny]
  have y3 : W1.cell? ⟨w.heap.size, 3, none⟩ = some (iv (s.b : Int)) := by simp [World.cell?, ny]
  have kj := join_any o1 hp ha hb
  have HK : Hid (Keep S w W1) := (Keep.old b0).trans k1
  have hw1 : IntKind.i64.wrap ((i : Int) + 1) = (i : Int) + 1 := by rw [IntKind.wrap_i64]; omega
  have hcs : n ≤ cs := by
    obtain ⟨ao, c, e, h1, h2⟩ := o.v.sr.slice
    simp only [Value.slice.injEq] at e
    have := o.v.pl
    have := o.nn
    omega
  have hcs2 : (i : Int) + 1 ≤ (cs : Int) := by omega
  obtain ⟨sp, hsp⟩ : ∃ sp, s.p = sp := ⟨_, rfl⟩
  obtain ⟨sa, hsa⟩ : ∃ sa, s.a = sa := ⟨_, rfl⟩
  obtain ⟨sb, hsb⟩ : ∃ sb, s.b = sb := ⟨_, rfl⟩
  have HP : Hid (unlinkS P i s = joinS (P.set i ⟨false, 0, 0, 0⟩) sa sb ∧ unlinkE E s = joinE E sp sa sb) := by unfold unlinkS unlinkE; rw [hsp, hsa, hsb]; exact ⟨rfl, rfl⟩
  rw [HP.out.1, HP.out.2]
  rw [hsp, hsa, hsb] at HW0 kj
  rw [hsp] at d1 y1
  rw [hsa] at d2 y2
  rw [hsb] at d3 y3
  clear o o0 o1 k1 b0 n0 ny hs hp ha hb fz q0 q1 q2 q3 HP hsp hsa hsb
  go_enter Try.func48, Try.ntmps48
  go_upto_region 1 with fail
  rw [HW0.out]
  go_wp2_with (first | (at_builtin; refine list_clear_eq rfl _ 62 rfl _ rfl (hrun _ _) ?_) | fail)
  refine kj.mono ?_
  rintro e w2 ⟨rfl, o2, k2⟩
  have HZ : Hid (Dn S x g n cn h cs k ce N (joinS (P.set i ⟨false, 0, 0, 0⟩) sa sb) (joinE E sp sa sb) w (.returned (.tuple #[])) w2) := ⟨rfl, o2, HK.out.trans k2⟩
  clear o2 k2
  go_wp2_with fail
  refine bodyPost_end (results_none rfl _ _ _) rfl ?_
  exact HZ.out
theorem det_no {S : Nat → Prop} {w : World} {x g n cn h cs k ce : Nat} {N : List Nd} {P : List Sp} {E : List En} (o : Op3 S w x g n cn h cs k ce N P E) {i : Int} (hi : (!decide (i = 0) && isN n i) = false) :
    Calls Try.prog 26 #[ptr x, iv i] w (Rd (iv 4) w) := by
  have k1 := movable_of (has_any o i)
  rw [hi] at k1
  clear o hi
  go_enter Try.func26, Try.ntmps26
  go_wp2_with fail
  refine k1.mono ?_
  rintro e w' ⟨rfl, rfl⟩
  go_wp2_with fail
  go_ret
  exact ⟨rfl, rfl⟩
theorem det_out {S : Nat → Prop} {w : World} {x g n cn h cs k ce : Nat} {N : List Nd} {P : List Sp} {E : List En} (o : Op3 S w x g n cn h cs k ce N P E) {i : Nat} {s : Sp} (hi0 : i ≠ 0) (hs : P[i]? = some s) (hin : s.i = false) :
    Calls Try.prog 26 #[ptr x, iv (i : Int)] w (Rd (iv 3) w) := by
  have hi : i < n := by rw [← o.nn, ← o.v.pl]; exact (List.getElem?_eq_some_iff.1 hs).1
  have hi2 : (i : Int) < (n : Int) := by omega
  have k1 := movable_of (has_any o (i : Int))
  have hz : decide ((i : Int) = 0) = false := decide_eq_false (by omega)
  rw [isN_lt hi, hz] at k1
  simp only [Bool.not_false, Bool.and_self] at k1
  obtain ⟨_, c1, _⟩ := o.c
  have d0 : w.cell? ⟨h, i * 4, none⟩ = some (.bool false) := by rw [← hin]; exact o.sp (j := 0) hs (by decide)
  clear o hs hin hz
  go_enter Try.func26, Try.ntmps26
  go_wp2_with fail
  refine k1.mono ?_
  rintro e w' ⟨rfl, rfl⟩
  go_wp2_with fail
  go_ret
  exact ⟨rfl, rfl⟩
theorem det_any {S : Nat → Prop} {w : World} {x g n cn h cs k ce : Nat} {N : List Nd} {P : List Sp} {E : List En} (o : Op3 S w x g n cn h cs k ce N P E) {i : Nat} {s : Sp} (hi0 : i ≠ 0) (hs : P[i]? = some s) (hin : s.i = true) (hp : s.p < n) (ha : s.a < n) (hb : s.b < n) :
    Calls Try.prog 26 #[ptr x, iv (i : Int)] w (fun e w' => e = .returned (iv 0) ∧ Op3 S w' x g n cn h cs k ce N (unlinkS P i s) (unlinkE E s) ∧ Keep S w w') := by
  have hi : i < n := by rw [← o.nn, ← o.v.pl]; exact (List.getElem?_eq_some_iff.1 hs).1
  have hi2 : (i : Int) < (n : Int) := by omega
  have k1 := movable_of (has_any o (i : Int))
  have hz : decide ((i : Int) = 0) = false := decide_eq_false (by omega)
  rw [isN_lt hi, hz] at k1
  simp only [Bool.not_false, Bool.and_self] at k1
  obtain ⟨_, c1, _⟩ := o.c
  have d0 : w.cell? ⟨h, i * 4, none⟩ = some (.bool true) := by rw [← hin]; exact o.sp (j := 0) hs (by decide)
  have k2 := unlink_any o hs hp ha hb
  clear o hs hin hz hp ha hb
  go_enter Try.func26, Try.ntmps26
  go_wp2_with fail
  refine k1.mono ?_
  rintro e w' ⟨rfl, rfl⟩
  go_wp2_with fail
  refine k2.mono ?_
  rintro e w2 ⟨rfl, o2, k2'⟩
  have HZ : Hid (Op3 S w2 x g n cn h cs k ce N (unlinkS P i s) (unlinkE E s)) := o2
  clear o2
  go_wp2_with fail
  go_ret
  exact ⟨rfl, HZ.out, k2'⟩
end Go.Proofs.Ytcdaghlbfclpkaa
