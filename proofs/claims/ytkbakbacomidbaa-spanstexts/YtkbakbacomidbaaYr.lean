/- Parts in memory: a row of them, one of the call's own, how it grows, how its last one is written; two of them compared. -/
import Derived.Test.YtkbakbacomidbaaProg
import Derived.WalkKit
import Derived.WalkSpells
import Derived.WalkLawsBesides
import Derived.Deep.RegionLaw
import Derived.Deep.RegionWith
import Derived.Deep.QuietTactic
import Derived.BigQuiet
import Derived.BigRegion
import Derived.WalkMore
import Derived.WalkArith
import Derived.Maps.AppendAt
import Derived.Laws.StructEq
import Derived.OwnWalk
import Derived.Deep.Upon
import Derived.Deep.LoopGhost
import Derived.Deep.DeepCutAuto
import Derived.Maps.OwnSet
import Derived.Below
import Derived.Deep.RegionHeld3
import Derived.Laws.OwnMore
namespace Go.Proofs.Ytkbakbacomidbaa.Sp
open Go.RowKit
/-- A part: from, to, class. -/
structure Pc where
  f : Int
  t : Int
  c : Int
abbrev Pc.arr (x : Pc) : Array Value := #[.int .i64 x.f, .int .i64 x.t, .int .i64 x.c]
abbrev Pc.val (x : Pc) : Value := .agg x.arr
def Pc.cells (x : Pc) : List Value := [.int .i64 x.f, .int .i64 x.t, .int .i64 x.c]
def Pc.eqb (x y : Pc) : Bool := decide (x.f = y.f) && decide (x.t = y.t) && decide (x.c = y.c)
theorem Pc.eqb_refl (x : Pc) : x.eqb x = true := by unfold Pc.eqb; simp
theorem Pc.eqb_iff {x y : Pc} : x.eqb y = true ↔ x = y := by
  obtain ⟨a, b, c⟩ := x
  obtain ⟨d, e, f⟩ := y
  simp [Pc.eqb, and_assoc]
set_option maxHeartbeats 1000000 in
theorem eqIn36 (a b c d : Int) (w : World) : (Op.equalIn 9999 36 (.agg #[.int .i64 a, .int .i64 b]) (.agg #[.int .i64 c, .int .i64 d])).run Try.prog w = .ok (decide (a = c) && decide (b = d)) w := by
  have u3 := Try.underlying3
  have a3 := Try.isAgg3
  have z3 := Try.sizeOf3
  have hS : Try.prog.underlying 36 = some (.struct (Try.prog.fieldsOf 36)) := by kernel_rfl
  have hp : Try.prog.stoodInHeld 36 = false := by kernel_rfl
  rw [show (9999 : Nat) = 9998 + 1 from rfl, run_equalIn_agg w 9998 36 _ _ hS hp]
  clear hS hp
  simp only [Program.fieldsOf, Try.underlying36]
  go_simp
  by_cases h1 : a = c <;> by_cases h2 : b = d <;> simp [h1, h2]
set_option maxHeartbeats 1000000 in
theorem eq42 (a b c d e f : Int) (w : World) : (binOp .eql 42 (.agg #[.int .i64 a, .int .i64 b, .int .i64 c]) (.agg #[.int .i64 d, .int .i64 e, .int .i64 f])).run Try.prog w = .ok (.bool (Pc.eqb ⟨a, b, c⟩ ⟨d, e, f⟩)) w := by
  have u3 := Try.underlying3
  have a3 := Try.isAgg3
  have z3 := Try.sizeOf3
  have z36 := Try.sizeOf36
  have hS : Try.prog.underlying 42 = some (.struct (Try.prog.fieldsOf 42)) := by kernel_rfl
  have hp : Try.prog.stoodInHeld 42 = false := by kernel_rfl
  have k := eqIn36 a b d e w
  rw [run_eql_struct, show (10000 : Nat) = 9999 + 1 from rfl, run_equalIn_agg w 9999 42 _ _ hS hp]
  clear hS hp
  simp only [Program.fieldsOf, Try.underlying42]
  go_simp
  by_cases h1 : a = d <;> by_cases h2 : b = e <;> by_cases h3 : c = f <;> simp [Pc.eqb, h1, h2, h3]
theorem ne42 (a b c d e f : Int) (w : World) : (binOp .neq 42 (.agg #[.int .i64 a, .int .i64 b, .int .i64 c]) (.agg #[.int .i64 d, .int .i64 e, .int .i64 f])).run Try.prog w = .ok (.bool (!Pc.eqb ⟨a, b, c⟩ ⟨d, e, f⟩)) w := by
  have h := eq42 a b c d e f w
  rw [run_eql_struct] at h
  rw [run_neq_struct]
  revert h
  generalize (Op.equalIn 10000 42 (.agg #[.int .i64 a, .int .i64 b, .int .i64 c]) (.agg #[.int .i64 d, .int .i64 e, .int .i64 f])).run Try.prog w = r
  intro h
  cases r with
  | ok x w' => simp [Result.andThen] at h ⊢; obtain ⟨h1, h2⟩ := h; exact ⟨h1, h2⟩
  | halt x w' => simp [Result.andThen] at h
/-- A row of parts that lies in memory. -/
def PcRow (w : World) (lo : Option Addr) (l : List Pc) : Prop :=
  ∀ i x, l[i]? = some x → ∃ b off, lo = some ⟨b, off, none⟩ ∧ b < w.heap.size ∧ w.cell? ⟨b, off + i * 3, none⟩ = some (.int .i64 x.f) ∧ w.cell? ⟨b, off + i * 3 + 1, none⟩ = some (.int .i64 x.t) ∧ w.cell? ⟨b, off + i * 3 + 2, none⟩ = some (.int .i64 x.c)
theorem PcRow.below {w w' : World} {lo : Option Addr} {l : List Pc} (h : PcRow w lo l) (b : Below w.heap.size w w') : PcRow w' lo l := fun i x hx => by
  obtain ⟨k, off, h1, h2, h3, h4, h5⟩ := h i x hx
  exact ⟨k, off, h1, Nat.lt_of_lt_of_le h2 b.size, (b.cell (p := ⟨k, off + i * 3, none⟩) h2).trans h3, (b.cell (p := ⟨k, off + i * 3 + 1, none⟩) h2).trans h4, (b.cell (p := ⟨k, off + i * 3 + 2, none⟩) h2).trans h5⟩
theorem PcRow.nil (w : World) (lo : Option Addr) : PcRow w lo [] := fun i x hx => by simp at hx
theorem info42 : (Try.prog.info? 42).map (fun i => (i.zero, i.size, i.bytes)) = some (some (.agg #[.int .i64 0, .int .i64 0, .int .i64 0]), 3, 24) := by kernel_rfl
abbrev RowIs (w : World) (B : Nat) (v : Value) (L : List Pc) : Prop := w.ownsRow B 42 3 v L.length (L.flatMap Pc.cells)
theorem own_mv {w w' : World} {B e s n : Nat} {v : Value} {xs : List Value} (h : w.ownsRow B e s v n xs) (k : ∀ g, v.ownBlock = some g → w'.heap[g]? = w.heap[g]?) : w'.ownsRow B e s v n xs := by
  refine ⟨h.1, ?_⟩
  rcases h.2 with hn | ⟨g, cap, cur, rfl, hb, hg, rest⟩
  · exact .inl hn
  · exact .inr ⟨g, cap, cur, rfl, hb, (k g rfl).trans hg, rest⟩
theorem own_blk {w : World} {B e s n : Nat} {v : Value} {xs : List Value} (h : w.ownsRow B e s v n xs) {g : Nat} (hg : v.ownBlock = some g) : B ≤ g ∧ g < w.heap.size ∧ ∃ cur, w.heap[g]? = some (.cells cur e (0, 0)) := by
  rcases h.2 with ⟨rfl, _⟩ | ⟨g', cap, cur, rfl, hB, hgb, _⟩
  · simp [Value.ownBlock] at hg
  · simp [Value.ownBlock] at hg; subst hg
    exact ⟨hB, (Array.getElem?_eq_some_iff.1 hgb).1, cur, hgb⟩
theorem own_below {w w' : World} {B e s n : Nat} {v : Value} {xs : List Value} (h : w.ownsRow B e s v n xs) (b : Below w.heap.size w w') : w'.ownsRow B e s v n xs := own_mv h fun g hg => b.block g (own_blk h hg).2.1
/-- Nothing that was there has turned but l's own block. -/
structure LFr (l : Value) (w w' : World) : Prop where
  os : w'.os = w.os
  tape : w'.tape = w.tape
  output : w'.output = w.output
  size : w.heap.size ≤ w'.heap.size
  block : ∀ d, d < w.heap.size → some d ≠ l.ownBlock → w'.heap[d]? = w.heap[d]?
theorem LFr.refl (l : Value) (w : World) : LFr l w w := ⟨rfl, rfl, rfl, Nat.le_refl _, fun _ _ _ => rfl⟩
theorem LFr.below {w w' : World} {B e s : Nat} {l : Value} {n : Nat} {xs : List Value} (h : LFr l w w') (ho : w.ownsRow B e s l n xs) (hB : B ≤ w.heap.size) : Below B w w' :=
  ⟨h.os, h.tape, h.output, h.size, fun d hd => h.block d (by omega) (fun e => by have := (own_blk ho e.symm).1; omega)⟩
theorem pc_at (l : List Pc) (i : Nat) (x : Pc) (h : l[i]? = some x) : (l.flatMap Pc.cells)[i * 3]? = some (.int .i64 x.f) ∧ (l.flatMap Pc.cells)[i * 3 + 1]? = some (.int .i64 x.t) ∧ (l.flatMap Pc.cells)[i * 3 + 2]? = some (.int .i64 x.c) := by
  induction l generalizing i with
  | nil => simp at h
  | cons y l ih =>
    rw [List.flatMap_cons]
    cases i with
    | zero => simp at h; subst h; exact ⟨rfl, rfl, rfl⟩
    | succ i =>
      have := ih i (by simpa using h)
      rw [show (i + 1) * 3 = i * 3 + 1 + 1 + 1 by omega, show i * 3 + 1 + 1 + 1 + 1 = (i * 3 + 1) + 1 + 1 + 1 by omega, show i * 3 + 1 + 1 + 1 + 2 = (i * 3 + 2) + 1 + 1 + 1 by omega]
      simp only [Pc.cells, List.cons_append, List.nil_append, List.getElem?_cons_succ]
      exact this
theorem cells_at : ∀ (M : List Pc) (j : Nat) (u : Value), (M.flatMap Pc.cells)[j]? = some u → ∃ i x, M[i]? = some x ∧ ((j = i * 3 ∧ u = .int .i64 x.f) ∨ (j = i * 3 + 1 ∧ u = .int .i64 x.t) ∨ (j = i * 3 + 2 ∧ u = .int .i64 x.c))
  | [], j, u, h => by simp at h
  | x :: M, 0, u, h => ⟨0, x, rfl, .inl ⟨rfl, by simpa [Pc.cells] using h.symm⟩⟩
  | x :: M, 1, u, h => ⟨0, x, rfl, .inr (.inl ⟨rfl, by simpa [Pc.cells] using h.symm⟩)⟩
  | x :: M, 2, u, h => ⟨0, x, rfl, .inr (.inr ⟨rfl, by simpa [Pc.cells] using h.symm⟩)⟩
  | x :: M, j + 3, u, h => by
    have h' : (M.flatMap Pc.cells)[j]? = some u := by simpa [Pc.cells] using h
    obtain ⟨i, y, h1, h2⟩ := cells_at M j u h'
    refine ⟨i + 1, y, by simpa using h1, ?_⟩
    rcases h2 with ⟨h2, h3⟩ | ⟨h2, h3⟩ | ⟨h2, h3⟩
    · exact .inl ⟨by omega, h3⟩
    · exact .inr (.inl ⟨by omega, h3⟩)
    · exact .inr (.inr ⟨by omega, h3⟩)
theorem cells_one : ∀ (M : List Pc) (u : Value), u ∈ M.flatMap Pc.cells → u.oneCell' = true := fun M u h => by
  rw [List.mem_flatMap] at h
  obtain ⟨x, _, h⟩ := h
  simp only [Pc.cells, List.mem_cons, List.not_mem_nil, or_false] at h
  rcases h with rfl | rfl | rfl <;> rfl
theorem cells_len (M : List Pc) : (M.flatMap Pc.cells).length = M.length * 3 := by
  induction M with
  | nil => rfl
  | cons x M ih => rw [List.flatMap_cons, List.length_append, ih, List.length_cons]; simp [Pc.cells]; omega
theorem row_at {w : World} {B : Nat} {v : Value} {L : List Pc} (h : RowIs w B v L) : ∃ ao cap, v = .slice ao L.length cap ∧ PcRow w ao L ∧ L.length ≤ cap ∧ cap ≤ maxLen := by
  rcases h.2 with ⟨rfl, h0⟩ | ⟨g, cap, cur, rfl, hB, hg, h1, h2, h3, h4⟩
  · have : L = [] := List.eq_nil_of_length_eq_zero h0
    subst this
    exact ⟨none, 0, rfl, PcRow.nil _ _, Nat.le_refl _, by unfold maxLen; omega⟩
  · refine ⟨_, cap, rfl, fun i x hx => ?_, h1, h2⟩
    have hil := (List.getElem?_eq_some_iff.1 hx).1
    obtain ⟨q1, q2, q3⟩ := pc_at L i x hx
    rw [← h4, List.getElem?_take_of_lt (by omega), Array.getElem?_toList] at q1 q2 q3
    refine ⟨g, 0, rfl, (Array.getElem?_eq_some_iff.1 hg).1, ?_, ?_, ?_⟩
    · simp [World.cell?, hg, q1]
    · simp [World.cell?, hg, q2]
    · simp [World.cell?, hg, q3]
/-- Parts behind a row of one's own. -/
theorem row_more {w : World} {B : Nat} {l : Value} {L M : List Pc} (h : RowIs w B l L) (ao : Option Addr) (c : Nat) (hM : PcRow w ao M) (hB : B ≤ w.heap.size) (hLM : L.length + M.length ≤ 1099511627776) :
    ∃ l' w', (Builtin.append_ #[24, 24] 24 #[l, .slice ao M.length c]).run Try.prog w = .ok l' w' ∧ RowIs w' B l' (L ++ M) ∧ LFr l w w' := by
  obtain ⟨i0, hi, hz0, hz1, hz2⟩ := info_parts info42
  by_cases h0 : M = []
  · subst h0
    obtain ⟨bo, cap, rfl, _, hc, _⟩ := row_at h
    have hs : Src Try.prog i0.size 24 (.slice ao 0 c) 0 [] w := by
      cases ao with
      | none => exact Src.ofNil w Try.underlying24 c
      | some a => exact Src.ofSlice w Try.underlying24 a 0 c [] (by simp) (by simp) (by simp)
    exact ⟨_, _, run_append_nothing (P := Try.prog) w 24 24 24 42 i0 Try.underlying24 hi bo L.length cap hc _ hs, by rw [List.append_nil]; exact h, LFr.refl _ _⟩
  · obtain ⟨x, hx⟩ : ∃ x, M[0]? = some x := by
      cases M with
      | nil => exact absurd rfl h0
      | cons x M => exact ⟨x, rfl⟩
    obtain ⟨b, off, rfl, _⟩ := hM 0 x hx
    obtain ⟨l', w', hr, ho, hg, _, _⟩ := run_append_own_at (P := Try.prog) w B 24 24 42 i0 _ 3 24 Try.underlying24 hi hz0 hz1 hz2 rfl (by decide) l L.length _ h ⟨b, off, none⟩ M.length c (M.flatMap Pc.cells) (cells_len M)
      (fun j u hj => by
        rw [Addr.add_lit]
        obtain ⟨i, y, h1, h2⟩ := cells_at M j u hj
        obtain ⟨b', off', e, _, c1, c2, c3⟩ := hM i y h1
        simp only [Option.some.injEq, Addr.mk.injEq, and_true] at e
        obtain ⟨rfl, rfl⟩ := e
        rcases h2 with ⟨rfl, rfl⟩ | ⟨rfl, rfl⟩ | ⟨rfl, rfl⟩
        · exact c1
        · rw [← Nat.add_assoc]; exact c2
        · rw [← Nat.add_assoc]; exact c3) (cells_one M) (by unfold maxLen; omega) (by omega) hB
    refine ⟨l', w', hr, ?_, ?_⟩
    · show w'.ownsRow B 42 3 l' (L ++ M).length ((L ++ M).flatMap Pc.cells)
      rw [List.length_append, List.flatMap_append]
      exact ho
    · exact ⟨hg.os, hg.tape, hg.output, hg.size, fun d hd hne => hg.block d hd hne⟩
theorem pc_one (w : World) (x : Pc) : PcRow (w.alloc (.cells #[.int .i64 x.f, .int .i64 x.t, .int .i64 x.c] 42)) (some ⟨w.heap.size, 0, none⟩) [x] := fun i y hy => by
  have hi : i = 0 := by
    have := (List.getElem?_eq_some_iff.1 hy).1
    simp at this
    exact this
  subst hi
  simp at hy
  subst hy
  have hnew := heap_alloc_new w (.cells #[.int .i64 x.f, .int .i64 x.t, .int .i64 x.c] 42)
  obtain ⟨W, hW⟩ : ∃ W, w.alloc (.cells #[.int .i64 x.f, .int .i64 x.t, .int .i64 x.c] 42) = W := ⟨_, rfl⟩
  rw [hW] at hnew ⊢
  exact ⟨_, _, rfl, (Array.getElem?_eq_some_iff.1 hnew).1, by simp [World.cell?, hnew], by simp [World.cell?, hnew], by simp [World.cell?, hnew]⟩
end Go.Proofs.Ytkbakbacomidbaa.Sp
namespace Go.Proofs.Ytkbakbacomidbaa.Sp
open Go.RowKit
def ends (L : List Pc) : Int := match L.getLast? with
  | some p => p.t
  | none => 0
def fillP (L : List Pc) (z : Int) : List Pc := if ends L ≥ z then L else L ++ [⟨ends L, z, 2⟩]
def putP (L : List Pc) (p : Pc) : List Pc := match L.getLast? with
  | some q => if q.c = 1 ∧ p.c = 1 then L.dropLast ++ [⟨q.f, p.t, q.c⟩] else L ++ [p]
  | none => L ++ [p]
theorem last_at {L : List Pc} {j : Nat} (h : L.length = j + 1) : ∃ q, L[j]? = some q ∧ L.getLast? = some q := by
  obtain ⟨q, hq⟩ : ∃ q, L[j]? = some q := ⟨_, List.getElem?_eq_getElem (by omega)⟩
  refine ⟨q, hq, ?_⟩
  rw [List.getLast?_eq_getElem?, h, Nat.add_sub_cancel, hq]
set_option maxHeartbeats 1000000 in
theorem end_any {w : World} {ao : Option Addr} {L : List Pc} (n c : Nat) (h : PcRow w ao L) (hn : L.length = n) (hn2 : n ≤ 9223372036854775807) :
    Calls Try.prog 18 #[.slice ao n c] w fun e w' => e = .returned (.int .i64 (ends L)) ∧ w' = w := by
  cases n with
  | zero =>
    obtain rfl := List.eq_nil_of_length_eq_zero hn
    clear h hn
    show Calls Try.prog 18 #[.slice ao 0 c] w fun e w' => e = .returned (.int .i64 0) ∧ w' = w
    go_enter Try.func18, Try.ntmps18
    go_wp2_with fail
    go_ret
    exact ⟨rfl, rfl⟩
  | succ j =>
    obtain ⟨q, hq, hl⟩ := last_at hn
    have he : ends L = q.t := by unfold ends; rw [hl]
    rw [he]
    obtain ⟨b, off, rfl, hb, c1, c2, c3⟩ := h j q hq
    obtain ⟨n, hjn⟩ : ∃ n, j + 1 = n := ⟨_, rfl⟩
    rw [hjn] at hn2 ⊢
    have hw : IntKind.i64.wrap ((n : Int) - 1) = (j : Int) := by rw [IntKind.wrap_i64]; omega
    have h0 : ((n : Int) == 0) = false := by rw [beq_eq_false_iff_ne]; omega
    have hj : j < n := by omega
    have hj2 : (j : Int) < (n : Int) := by omega
    clear h hn he hq hl
    have HJ : Hid (j + 1 = n) := hjn
    clear hjn
    go_enter Try.func18, Try.ntmps18
    go_wp2_with fail
    go_ret
    exact ⟨rfl, rfl⟩
set_option maxHeartbeats 1000000 in
theorem both_any (x y : Pc) (w : World) : Calls Try.prog 23 #[x.val, y.val] w fun e w' => e = .returned (.bool (x.c == 1 && y.c == 1)) ∧ Below w.heap.size w w' := by
  obtain ⟨a, b, c⟩ := x
  obtain ⟨d, e, f⟩ := y
  simp only [Pc.val, Pc.arr]
  have hb : Below w.heap.size w ((w.alloc (.cells #[.int .i64 a, .int .i64 b, .int .i64 c] 42)).alloc (.cells #[.int .i64 d, .int .i64 e, .int .i64 f] 42)) := ((Below.refl _ _).alloc (Nat.le_refl _) _).alloc (by simp) _
  by_cases h : c = 1
  · subst h
    go_enter Try.func23, Try.ntmps23
    go_wp2_with fail
    go_ret
    exact ⟨by simp, hb⟩
  · have h1 := beq_false_of_ne h
    rw [h1]
    clear h
    go_enter Try.func23, Try.ntmps23
    go_wp2_with fail
    go_ret
    exact ⟨by simp, hb⟩
end Go.Proofs.Ytkbakbacomidbaa.Sp
namespace Go.Proofs.Ytkbakbacomidbaa.Sp
open Go.RowKit
/-- 'append' where its run is known by an equation, in a region that draws no order. -/
theorem list_append_eq {P : Program} {ops : Array Oper} {rest : List Oper} {o : Oper} {a : Act} {w : World} {Q : Exit → Act → World → Prop}
    (hg : o.guard = none) (d x : Operand) (dT sT : TypeId) (hop : o.op = Op.call { callee := Callee.builtin Builtin.append, args := #[d, x], argTypes := #[dT, sT] })
    (v u : Value) (hd : a.eval d = v) (hx : a.eval x = u) {v' : Value} {w' : World} (hr : (Builtin.append_ #[dT, sT] o.type #[v, u]).run P w = .ok v' w') (hK : wpList P ops Q rest (a.put o.dst v') w') :
    wpList P ops Q (o :: rest) a w :=
  wpList_plain hg fun K hK2 => by
    unfold Oper.wp
    simp [execOp, hop, resolve, invoke, builtin, hd, hx, hr, Result.andThen]
    exact hK2 _ _ hK
/-- A row that grew: the answer of fill and put. -/
def Grew (B : Nat) (l : Value) (L : List Pc) (w : World) (e : Ending) (w' : World) : Prop := ∃ v, e = .returned v ∧ RowIs w' B v L ∧ LFr l w w'
theorem LFr.past {l : Value} {w w1 w2 : World} (b : Below w.heap.size w w1) (h : LFr l w1 w2) : LFr l w w2 :=
  ⟨h.os.trans b.os, h.tape.trans b.tape, h.output.trans b.output, Nat.le_trans b.size h.size, fun d hd hne => (h.block d (Nat.lt_of_lt_of_le hd b.size) hne).trans (b.block d hd)⟩
/-- One part more. -/
theorem row_one {w : World} {B : Nat} {l : Value} {L : List Pc} (h : RowIs w B l L) (x : Pc) (hB : B ≤ w.heap.size) (hL : L.length ≤ 1000000000) :
    ∃ l' w', (Builtin.append_ #[24, 24] 24 #[l, .slice (some ⟨w.heap.size, 0, none⟩) 1 1]).run Try.prog (w.alloc (.cells #[.int .i64 x.f, .int .i64 x.t, .int .i64 x.c] 42)) = .ok l' w' ∧ RowIs w' B l' (L ++ [x]) ∧ LFr l w w' := by
  have b : Below w.heap.size w (w.alloc (.cells #[.int .i64 x.f, .int .i64 x.t, .int .i64 x.c] 42)) := (Below.refl _ _).alloc (Nat.le_refl _) _
  obtain ⟨l', w', h1, h2, h3⟩ := row_more (own_below h b) (some ⟨w.heap.size, 0, none⟩) 1 (pc_one w x) (Nat.le_trans hB b.size) (by simp; omega)
  exact ⟨l', w', h1, h2, LFr.past b h3⟩
set_option maxHeartbeats 1000000 in
theorem fill_any {w : World} {B : Nat} {l : Value} {L : List Pc} (h : RowIs w B l L) (z : Int) (hB : B ≤ w.heap.size) (hL : L.length ≤ 1000000000) :
    Calls Try.prog 20 #[l, .int .i64 z] w (Grew B l (fillP L z) w) := by
  obtain ⟨ao, cap, rfl, hr, hc, hm⟩ := row_at h
  obtain ⟨n, hn⟩ : ∃ n, L.length = n := ⟨_, rfl⟩
  have k := end_any n cap hr hn (by omega)
  obtain ⟨e, he⟩ : ∃ e, ends L = e := ⟨_, rfl⟩
  rw [he] at k
  by_cases hz : e ≥ z
  · have hp : fillP L z = L := by unfold fillP; rw [he, if_pos hz]
    rw [hp]
    have HZ : Hid (Grew B (.slice ao n cap) L w (.returned (.slice ao n cap)) w) := by rw [← hn]; exact ⟨_, rfl, h, LFr.refl _ _⟩
    rw [hn]
    have hd : decide (e ≥ z) = true := decide_eq_true hz
    clear h hr hn he hp
    go_enter Try.func20, Try.ntmps20
    go_wp2_with fail
    refine k.mono ?_
    rintro e1 w1 ⟨rfl, rfl⟩
    go_wp2_with fail
    go_ret
    exact HZ.out
  · have hp : fillP L z = L ++ [⟨e, z, 2⟩] := by unfold fillP; rw [he, if_neg hz]
    rw [hp]
    obtain ⟨l', w', hrun, h2, h3⟩ := row_one h ⟨e, z, 2⟩ hB hL
    have HZ : Hid (Grew B (.slice ao n cap) (L ++ [⟨e, z, 2⟩]) w (.returned l') w') := by rw [← hn]; exact ⟨_, rfl, h2, h3⟩
    rw [hn] at hrun ⊢
    simp only at hrun
    have hd : decide (e ≥ z) = false := decide_eq_false hz
    clear h hr hn he hp h2 h3
    go_enter Try.func20, Try.ntmps20
    go_wp2_with fail
    refine k.mono ?_
    rintro e1 w1 ⟨rfl, rfl⟩
    go_wp2_with (at_builtin; refine list_append_eq rfl _ _ 24 24 rfl _ _ rfl rfl hrun ?_)
    go_ret
    exact HZ.out
end Go.Proofs.Ytkbakbacomidbaa.Sp
namespace Go.Proofs.Ytkbakbacomidbaa.Sp
open Go.RowKit
theorem flat_set : ∀ (L : List Pc) (j : Nat) (q : Pc) (z : Int), L[j]? = some q → (L.flatMap Pc.cells).set (j * 3 + 1) (.int .i64 z) = (L.set j ⟨q.f, z, q.c⟩).flatMap Pc.cells
  | [], j, q, z, h => by simp at h
  | x :: L, 0, q, z, h => by
    simp at h
    subst h
    simp [Pc.cells]
  | x :: L, j + 1, q, z, h => by
    have := flat_set L j q z (by simpa using h)
    rw [show (j + 1) * 3 + 1 = (j * 3 + 1) + 1 + 1 + 1 by omega]
    simp only [List.flatMap_cons, List.set_cons_succ, Pc.cells, List.cons_append, List.nil_append] at this ⊢
    rw [this]
theorem set_last {L : List Pc} {j : Nat} (h : L.length = j + 1) (x : Pc) : L.set j x = L.dropLast ++ [x] := by
  obtain ⟨L', y, rfl⟩ : ∃ L' y, L = L' ++ [y] := ⟨L.dropLast, L.getLast (by rintro rfl; simp at h), (List.dropLast_concat_getLast _).symm⟩
  have hl : L'.length = j := by simpa using h
  rw [List.dropLast_concat, List.set_append_right _ _ (by omega), hl, Nat.sub_self]
  rfl
theorem own_some {w : World} {B : Nat} {ao : Option Addr} {n cap : Nat} {L : List Pc} (h : RowIs w B (.slice ao n cap) L) (h0 : 0 < L.length) : ∃ g, ao = some ⟨g, 0, none⟩ ∧ n = L.length := by
  rcases h.2 with ⟨e, h0'⟩ | ⟨g, cap', cur, e, _⟩
  · omega
  · simp only [Value.slice.injEq] at e
    exact ⟨g, e.1, e.2.1⟩
def C6 (b o : Nat) (qf qt qc : Int) (g : Nat) (pf pt pc : Int) (W w' : World) : Prop :=
  w'.cell? ⟨b, o, none⟩ = some (.int .i64 qf) ∧ w'.cell? ⟨b, o + 1, none⟩ = some (.int .i64 qt) ∧ w'.cell? ⟨b, o + 2, none⟩ = some (.int .i64 qc) ∧ w'.cell? ⟨g, 0, none⟩ = some (.int .i64 pf) ∧ w'.cell? ⟨g, 1, none⟩ = some (.int .i64 pt) ∧ w'.cell? ⟨g, 2, none⟩ = some (.int .i64 pc) ∧ Below W.heap.size W w'
theorem c6_step {b o : Nat} {qf qt qc : Int} {g : Nat} {pf pt pc : Int} {W w' w2 : World} (h : C6 b o qf qt qc g pf pt pc W w') (k : Below w'.heap.size w' w2) (hb : b < W.heap.size) (hg : g < W.heap.size) : C6 b o qf qt qc g pf pt pc W w2 := by
  obtain ⟨h1, h2, h3, h4, h5, h6, h7⟩ := h
  have hs := h7.size
  have hc : ∀ i, w2.cell? ⟨b, i, none⟩ = w'.cell? ⟨b, i, none⟩ := fun i => k.cell (p := ⟨b, i, none⟩) (by show b < _; omega)
  have hd : ∀ i, w2.cell? ⟨g, i, none⟩ = w'.cell? ⟨g, i, none⟩ := fun i => k.cell (p := ⟨g, i, none⟩) (by show g < _; omega)
  exact ⟨(hc _).trans h1, (hc _).trans h2, (hc _).trans h3, (hd _).trans h4, (hd _).trans h5, (hd _).trans h6, h7.trans (k.mono hs)⟩
theorem c6_keep {b o : Nat} {qf qt qc : Int} {g : Nat} {pf pt pc : Int} {W w' : World} (h : C6 b o qf qt qc g pf pt pc W w') (hb : b < W.heap.size) (hg : g < W.heap.size) : C6 b o qf qt qc g pf pt pc W w'.drew := c6_step h ((Below.refl _ _).drew) hb hg
set_option maxHeartbeats 2000000 in
theorem put_any {w : World} {B : Nat} {l : Value} {L : List Pc} (h : RowIs w B l L) (p : Pc) (hB : B ≤ w.heap.size) (hL : L.length ≤ 1000000000) :
    Calls Try.prog 19 #[l, p.val] w (Grew B l (putP L p) w) := by
  obtain ⟨ao, cap, rfl, hr, hc, hm⟩ := row_at h
  obtain ⟨W1, hW1⟩ : ∃ W1, w.alloc (.cells #[.int .i64 p.f, .int .i64 p.t, .int .i64 p.c] 42) = W1 := ⟨_, rfl⟩
  have b1 : Below w.heap.size w W1 := by rw [← hW1]; exact (Below.refl _ _).alloc (Nat.le_refl _) _
  have n1 : W1.heap[w.heap.size]? = some (.cells #[.int .i64 p.f, .int .i64 p.t, .int .i64 p.c] 42 (0, 0)) := by rw [← hW1]; exact heap_alloc_new w _
  have HW : Hid (w.alloc (.cells #[.int .i64 p.f, .int .i64 p.t, .int .i64 p.c] 42) = W1) := hW1
  clear hW1
  cases hn : L.length with
  | zero =>
    obtain rfl := List.eq_nil_of_length_eq_zero hn
    have hp : putP [] p = [] ++ [p] := rfl
    rw [hp]
    have c0 : W1.cell? ⟨w.heap.size, 0, none⟩ = some (.int .i64 p.f) := by simp [World.cell?, n1]
    have c1 : W1.cell? ⟨w.heap.size, 1, none⟩ = some (.int .i64 p.t) := by simp [World.cell?, n1]
    have c2 : W1.cell? ⟨w.heap.size, 2, none⟩ = some (.int .i64 p.c) := by simp [World.cell?, n1]
    have HH : Hid (RowIs W1 B (.slice ao 0 cap) [] ∧ Below w.heap.size w W1) := ⟨own_below h b1, b1⟩
    clear h hr hn n1 b1
    obtain ⟨pf, pt, pc⟩ := p
    simp only at c0 c1 c2 HW
    simp only [Pc.val, Pc.arr]
    go_enter Try.func19, Try.ntmps19
    go_upto_region 1 with fail
    rw [HW.out]
    go_upto_region 2 with fail
    go_quiet (fail)
    have bq : Below W1.heap.size W1 (W1.drewN nq) := below_drewN (Below.refl _ _) nq
    obtain ⟨l', w', hrun, h2, h3⟩ := row_one (own_below HH.out.1 bq) ⟨pf, pt, pc⟩ (Nat.le_trans (Nat.le_trans hB HH.out.2.size) bq.size) hL
    have HZ : Hid (Grew B (.slice ao 0 cap) ([] ++ [⟨pf, pt, pc⟩]) w (.returned l') w') := ⟨_, rfl, h2, LFr.past (HH.out.2.trans (bq.mono HH.out.2.size)) h3⟩
    clear h2 h3 bq
    simp only at hrun
    go_wp2_with (at_builtin; refine list_append_eq rfl _ _ 24 24 rfl _ _ rfl rfl hrun ?_)
    go_ret
    exact HZ.out
  | succ j =>
    obtain ⟨q, hq, hl⟩ := last_at hn
    obtain ⟨b, off, rfl, hb, d0, d1, d2⟩ := (hr.below b1) j q hq
    obtain ⟨n, hjn⟩ : ∃ n, j + 1 = n := ⟨_, rfl⟩
    have hnn : L.length = n := hn.trans hjn
    rw [hjn]
    have hw : IntKind.i64.wrap ((n : Int) - 1) = (j : Int) := by rw [IntKind.wrap_i64]; omega
    have hj : j < n := by omega
    have hj2 : (j : Int) < (n : Int) := by omega
    have hg0 : decide ((j : Int) ≥ 0) = true := decide_eq_true (by omega)
    have c0 : W1.cell? ⟨w.heap.size, 0, none⟩ = some (.int .i64 p.f) := by simp [World.cell?, n1]
    have c1 : W1.cell? ⟨w.heap.size, 1, none⟩ = some (.int .i64 p.t) := by simp [World.cell?, n1]
    have c2 : W1.cell? ⟨w.heap.size, 2, none⟩ = some (.int .i64 p.c) := by simp [World.cell?, n1]
    have HH : Hid (RowIs W1 B (.slice (some ⟨b, off, none⟩) n cap) L ∧ Below w.heap.size w W1 ∧ L[j]? = some q ∧ L.getLast? = some q ∧ j + 1 = n ∧ W1.heap[w.heap.size]? = some (.cells #[.int .i64 p.f, .int .i64 p.t, .int .i64 p.c] 42 (0, 0)) ∧ L.length = n) := ⟨by rw [hnn] at h; exact own_below h b1, b1, hq, hl, hjn, n1, hnn⟩
    have k := fun w' => both_any q p w'
    clear h hr hn n1 b1 hjn hq hl
    obtain ⟨pf, pt, pc⟩ := p
    obtain ⟨qf, qt, qc⟩ := q
    simp only at c0 c1 c2 d0 d1 d2 HW k
    simp only [Pc.val, Pc.arr] at k ⊢
    obtain ⟨bt, hbt⟩ : ∃ bt, (qc == 1 && pc == 1) = bt := ⟨_, rfl⟩
    rw [hbt] at k
    have HT : Hid ((qc == 1 && pc == 1) = bt) := hbt
    clear hbt
    go_enter Try.func19, Try.ntmps19
    go_upto_region 1 with fail
    rw [HW.out]
    go_upto_region 2 with fail
    have hin : C6 b (off + j * 3) qf qt qc w.heap.size pf pt pc W1 W1 := ⟨d0, d1, d2, c0, c1, c2, Below.refl _ _⟩
    have hgw : w.heap.size < W1.heap.size := (Array.getElem?_eq_some_iff.1 HH.out.2.2.2.2.2.1).1
    go_region_held3 (fun w' => w'.cell? ⟨b, off + j * 3, none⟩ = some (.int .i64 qf) ∧ w'.cell? ⟨b, off + j * 3 + 1, none⟩ = some (.int .i64 qt) ∧ w'.cell? ⟨b, off + j * 3 + 2, none⟩ = some (.int .i64 qc) ∧ w'.cell? ⟨w.heap.size, 0, none⟩ = some (.int .i64 pf) ∧ w'.cell? ⟨w.heap.size, 1, none⟩ = some (.int .i64 pt) ∧ w'.cell? ⟨w.heap.size, 2, none⟩ = some (.int .i64 pc) ∧ Below W1.heap.size W1 w')
      (first | assumption | exact c6_keep (by assumption) hb hgw | go_keep)
      (first
        | (go_at_call 23; refine (k _).mono ?_; rintro e w' ⟨rfl, hbw⟩; have hkk := c6_step (by assumption) hbw hb hgw))
    have bw : Below W1.heap.size W1 w' := hkk.2.2.2.2.2.2
    have bw0 : Below w.heap.size w w' := HH.out.2.1.trans (bw.mono HH.out.2.1.size)
    obtain ⟨e0, e1, e2, e3, e4, e5, _⟩ := hkk
    have hRow : RowIs w' B (.slice (some ⟨b, off, none⟩) n cap) L := own_below HH.out.1 bw
    obtain ⟨g, hg1, hg2⟩ := own_some hRow (by omega)
    simp only [Option.some.injEq, Addr.mk.injEq, and_true] at hg1
    obtain ⟨rfl, rfl⟩ := hg1
    cases bt with
    | false =>
      have hp : putP L ⟨pf, pt, pc⟩ = L ++ [⟨pf, pt, pc⟩] := by
        unfold putP
        rw [HH.out.2.2.2.1]
        simp only
        rw [if_neg]
        rintro ⟨h1, h2⟩
        have := HT.out
        rw [h1, h2] at this
        simp at this
      obtain ⟨l', w2, hrun, h2, h3⟩ := row_one hRow ⟨pf, pt, pc⟩ (Nat.le_trans hB bw0.size) hL
      have HZ : Hid (Grew B (.slice (some ⟨b, 0, none⟩) n cap) (putP L ⟨pf, pt, pc⟩) w (.returned l') w2) := by rw [hp]; exact ⟨_, rfl, h2, LFr.past bw0 h3⟩
      simp only at hrun
      clear h2 h3 hRow bw bw0 hin hbw e0 e1 e2 c0 c1 c2 d0 d1 d2 hg2 hnn hp
      go_wp2_with (at_builtin; refine list_append_eq rfl _ _ 24 24 rfl _ _ rfl rfl hrun ?_)
      go_ret
      exact HZ.out
    | true =>
      have ht := HT.out
      simp only [Bool.and_eq_true, beq_iff_eq] at ht
      obtain ⟨rfl, rfl⟩ := ht
      have hp : putP L ⟨pf, pt, 1⟩ = L.set j ⟨qf, pt, 1⟩ := by
        unfold putP
        rw [HH.out.2.2.2.1]
        simp only
        rw [if_pos ⟨trivial, trivial⟩, set_last (by rw [HH.out.2.2.2.2.2.2, HH.out.2.2.2.2.1])]
      have hRow' : w'.ownsRow B 42 3 (.slice (some ⟨b, 0, none⟩) n cap) n (L.flatMap Pc.cells) := by rw [hg2]; rw [hg2] at hRow; exact hRow
      obtain ⟨s1, s2⟩ := World.ownsRow.stored hRow' (j * 3 + 1) (.int .i64 pt)
      rw [flat_set L j ⟨qf, qt, 1⟩ pt HH.out.2.2.1] at s1
      have f1 : w'.frozen? ⟨b, j * 3 + 1, none⟩ = false := World.ownsRow.frozenAt hRow' _
      have HZ : Hid (Grew B (.slice (some ⟨b, 0, none⟩) n cap) (putP L ⟨pf, pt, 1⟩) w (.returned (.slice (some ⟨b, 0, none⟩) n cap)) (w'.setCell ⟨b, j * 3 + 1, none⟩ (.int .i64 pt))) := by
        rw [hp]
        refine ⟨_, rfl, ?_, ?_⟩
        · show World.ownsRow _ B 42 3 _ (L.set j ⟨qf, pt, 1⟩).length _
          rw [List.length_set, hnn]
          exact s1
        · exact LFr.past bw0 ⟨s2.os, s2.tape, s2.output, s2.size, fun d hd hne => s2.block d hd (fun e => hne (by rw [e]; rfl))⟩
      rw [Nat.zero_add] at e1
      clear hRow hRow' s1 s2 bw bw0 hin hbw e0 e2 c0 c1 c2 d0 d1 d2 hg2 hnn hp
      go_wp2_with fail
      go_ret
      exact HZ.out
end Go.Proofs.Ytkbakbacomidbaa.Sp
