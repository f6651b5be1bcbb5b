/- Attributes in memory: a row of them, one of the call's own, how it grows; two of them compared. -/
import Derived.Test.YtnpaodagpleiaaaProg
import Derived.WalkKit
import Derived.WalkSpells
import Derived.WalkLawsBesides
import Derived.Deep.RegionLaw
import Derived.Deep.RegionWith
import Derived.Deep.QuietTactic
import Derived.BigQuiet
import Derived.BigRegion
import Derived.WalkMore
import Derived.WalkArith
import Derived.Maps.AppendAt
import Derived.Laws.StructEq
import Derived.OwnWalk
import Derived.Deep.Upon
import Derived.Deep.LoopGhost
import Derived.Deep.DeepCutAuto
import Derived.Maps.OwnSet
import Derived.Below
namespace Go.Proofs.Ytnpaodagpleiaaa
open Go.RowKit

abbrev Path := List UInt8

/-- An attribute: its name, its value. -/
structure At where
  n : ByteArray
  v : ByteArray

theorem bytes_eq {a b : ByteArray} (h : a.data.toList = b.data.toList) : a = b := by
  obtain ⟨⟨x⟩⟩ := a
  obtain ⟨⟨y⟩⟩ := b
  have : x = y := h
  rw [this]
def bytesDec (a b : ByteArray) : Decidable (a = b) := decidable_of_iff (a.data.toList = b.data.toList) ⟨bytes_eq, fun h => by rw [h]⟩
theorem beq_bytes (a b : ByteArray) : (a.toList == b.toList) = decide (a.data.toList = b.data.toList) := by
  rw [ByteArray.toList_eq, ByteArray.toList_eq]
  rw [Bool.eq_iff_iff]; simp

/-- Name and value as rows of bytes. -/
abbrev At.nm (x : At) : Path := x.n.data.toList
abbrev At.vl (x : At) : Path := x.v.data.toList
abbrev At.key (x : At) : Path × Path := (x.nm, x.vl)
theorem At.ext' {x y : At} (h1 : x.nm = y.nm) (h2 : x.vl = y.vl) : x = y := by
  obtain ⟨a, b⟩ := x
  obtain ⟨c, d⟩ := y
  have e1 : a = c := bytes_eq h1
  have e2 : b = d := bytes_eq h2
  rw [e1, e2]
def At.eqb (x y : At) : Bool := decide (x.nm = y.nm) && decide (x.vl = y.vl)
theorem At.eqb_iff {x y : At} : At.eqb x y = true ↔ x = y := by
  unfold At.eqb
  rw [Bool.and_eq_true, decide_eq_true_iff, decide_eq_true_iff]
  exact ⟨fun h => At.ext' h.1 h.2, fun h => by rw [h]; exact ⟨rfl, rfl⟩⟩
theorem At.eqb_refl (x : At) : At.eqb x x = true := At.eqb_iff.2 rfl

def At.cells (x : At) : List Value := [.string x.n, .string x.v]

theorem eq40 (a b c d : ByteArray) (w : World) : (binOp .eql 40 (.agg #[.string a, .string b]) (.agg #[.string c, .string d])).run Try.prog w = .ok (.bool (At.eqb ⟨a, b⟩ ⟨c, d⟩)) w := by
  have u9 := Try.underlying9
  have a9 := Try.isAgg9
  have z9 := Try.sizeOf9
  have hS : Try.prog.underlying 40 = some (.struct (Try.prog.fieldsOf 40)) := by kernel_rfl
  have hp : Try.prog.stoodInHeld 40 = false := by kernel_rfl
  rw [run_eql_struct, show (10000 : Nat) = 9999 + 1 from rfl, run_equalIn_agg w 9999 40 _ _ hS hp]
  simp only [Program.fieldsOf, Try.underlying40]
  go_simp
  simp only [At.eqb, At.nm, At.vl]
  by_cases h1 : a.data.toList = c.data.toList <;> by_cases h2 : b.data.toList = d.data.toList <;> simp [h1, h2, ByteArray.toList_eq]
theorem ne40 (a b c d : ByteArray) (w : World) : (binOp .neq 40 (.agg #[.string a, .string b]) (.agg #[.string c, .string d])).run Try.prog w = .ok (.bool (!At.eqb ⟨a, b⟩ ⟨c, d⟩)) w := by
  have h := eq40 a b c d w
  rw [run_eql_struct] at h
  rw [run_neq_struct]
  revert h
  generalize (Op.equalIn 10000 40 (.agg #[.string a, .string b]) (.agg #[.string c, .string d])).run Try.prog w = r
  intro h
  cases r with
  | ok x w' => simp [Result.andThen] at h ⊢; obtain ⟨h1, h2⟩ := h; exact ⟨h1, h2⟩
  | halt x w' => simp [Result.andThen] at h

/-- A row of attributes that lies in memory. -/
def AtRow (w : World) (lo : Option Addr) (l : List At) : Prop :=
  ∀ i x, l[i]? = some x → ∃ b off, lo = some ⟨b, off, none⟩ ∧ b < w.heap.size ∧ w.cell? ⟨b, off + i * 2, none⟩ = some (.string x.n) ∧ w.cell? ⟨b, off + i * 2 + 1, none⟩ = some (.string x.v)

theorem AtRow.below {w w' : World} {lo : Option Addr} {l : List At} (h : AtRow w lo l) (b : Below w.heap.size w w') : AtRow w' lo l := fun i x hx => by
  obtain ⟨k, off, h1, h2, h3, h4⟩ := h i x hx
  exact ⟨k, off, h1, Nat.lt_of_lt_of_le h2 b.size, (b.cell (p := ⟨k, off + i * 2, none⟩) h2).trans h3, (b.cell (p := ⟨k, off + i * 2 + 1, none⟩) h2).trans h4⟩
theorem AtRow.nil (w : World) (lo : Option Addr) : AtRow w lo [] := fun i x hx => by simp at hx

theorem info40 : (Try.prog.info? 40).map (fun i => (i.zero, i.size, i.bytes)) = some (some (.agg #[.string ByteArray.empty, .string ByteArray.empty]), 2, 32) := by kernel_rfl

abbrev RowIs (w : World) (B : Nat) (v : Value) (L : List At) : Prop := w.ownsRow B 40 2 v L.length (L.flatMap At.cells)

theorem below_drewN {B : Nat} {w w' : World} (h : Below B w w') (n : Nat) : Below B w (w'.drewN n) := ⟨h.os, h.tape, h.output, h.size, h.block⟩

theorem own_mv {w w' : World} {B e s n : Nat} {v : Value} {xs : List Value} (h : w.ownsRow B e s v n xs) (k : ∀ g, v.ownBlock = some g → w'.heap[g]? = w.heap[g]?) : w'.ownsRow B e s v n xs := by
  refine ⟨h.1, ?_⟩
  rcases h.2 with hn | ⟨g, cap, cur, rfl, hb, hg, rest⟩
  · exact .inl hn
  · exact .inr ⟨g, cap, cur, rfl, hb, (k g rfl).trans hg, rest⟩
theorem own_blk {w : World} {B e s n : Nat} {v : Value} {xs : List Value} (h : w.ownsRow B e s v n xs) {g : Nat} (hg : v.ownBlock = some g) : B ≤ g ∧ g < w.heap.size ∧ ∃ cur, w.heap[g]? = some (.cells cur e (0, 0)) := by
  rcases h.2 with ⟨rfl, _⟩ | ⟨g', cap, cur, rfl, hB, hgb, _⟩
  · simp [Value.ownBlock] at hg
  · simp [Value.ownBlock] at hg; subst hg
    exact ⟨hB, (Array.getElem?_eq_some_iff.1 hgb).1, cur, hgb⟩
theorem own_below {w w' : World} {B e s n : Nat} {v : Value} {xs : List Value} (h : w.ownsRow B e s v n xs) (b : Below w.heap.size w w') : w'.ownsRow B e s v n xs := own_mv h fun g hg => b.block g (own_blk h hg).2.1

/-- Nothing that was there has turned but l's own block. -/
structure LFr (l : Value) (w w' : World) : Prop where
  os : w'.os = w.os
  tape : w'.tape = w.tape
  output : w'.output = w.output
  size : w.heap.size ≤ w'.heap.size
  block : ∀ d, d < w.heap.size → some d ≠ l.ownBlock → w'.heap[d]? = w.heap[d]?
theorem LFr.refl (l : Value) (w : World) : LFr l w w := ⟨rfl, rfl, rfl, Nat.le_refl _, fun _ _ _ => rfl⟩
theorem lfr_below {w w' : World} {B e s : Nat} {l : Value} {n : Nat} {xs : List Value} (h : LFr l w w') (ho : w.ownsRow B e s l n xs) (hB : B ≤ w.heap.size) : Below B w w' :=
  ⟨h.os, h.tape, h.output, h.size, fun d hd => h.block d (by omega) (fun e => by have := (own_blk ho e.symm).1; omega)⟩

theorem at_at (l : List At) (i : Nat) (x : At) (h : l[i]? = some x) : (l.flatMap At.cells)[i * 2]? = some (.string x.n) ∧ (l.flatMap At.cells)[i * 2 + 1]? = some (.string x.v) := by
  induction l generalizing i with
  | nil => simp at h
  | cons y l ih =>
    rw [List.flatMap_cons]
    cases i with
    | zero => simp at h; subst h; exact ⟨rfl, rfl⟩
    | succ i =>
      have := ih i (by simpa using h)
      rw [show (i + 1) * 2 = i * 2 + 1 + 1 by omega, show i * 2 + 1 + 1 + 1 = (i * 2 + 1) + 1 + 1 by omega]
      simp only [At.cells, List.cons_append, List.nil_append, List.getElem?_cons_succ]
      exact this
theorem cells_at : ∀ (M : List At) (j : Nat) (u : Value), (M.flatMap At.cells)[j]? = some u → ∃ i x, M[i]? = some x ∧ ((j = i * 2 ∧ u = .string x.n) ∨ (j = i * 2 + 1 ∧ u = .string x.v))
  | [], j, u, h => by simp at h
  | x :: M, 0, u, h => ⟨0, x, rfl, .inl ⟨rfl, by simpa [At.cells] using h.symm⟩⟩
  | x :: M, 1, u, h => ⟨0, x, rfl, .inr ⟨rfl, by simpa [At.cells] using h.symm⟩⟩
  | x :: M, j + 2, u, h => by
    have h' : (M.flatMap At.cells)[j]? = some u := by simpa [At.cells] using h
    obtain ⟨i, y, h1, h2⟩ := cells_at M j u h'
    refine ⟨i + 1, y, by simpa using h1, ?_⟩
    rcases h2 with ⟨h2, h3⟩ | ⟨h2, h3⟩
    · exact .inl ⟨by omega, h3⟩
    · exact .inr ⟨by omega, h3⟩
theorem cells_one : ∀ (M : List At) (u : Value), u ∈ M.flatMap At.cells → u.oneCell' = true := fun M u h => by
  rw [List.mem_flatMap] at h
  obtain ⟨x, _, h⟩ := h
  simp only [At.cells, List.mem_cons, List.not_mem_nil, or_false] at h
  rcases h with rfl | rfl <;> rfl
theorem cells_len (M : List At) : (M.flatMap At.cells).length = M.length * 2 := by
  induction M with
  | nil => rfl
  | cons x M ih => rw [List.flatMap_cons, List.length_append, ih, List.length_cons]; simp [At.cells]; omega

theorem row_at {w : World} {B : Nat} {v : Value} {L : List At} (h : RowIs w B v L) : ∃ ao cap, v = .slice ao L.length cap ∧ AtRow w ao L ∧ L.length ≤ cap ∧ cap ≤ maxLen := by
  rcases h.2 with ⟨rfl, h0⟩ | ⟨g, cap, cur, rfl, hB, hg, h1, h2, h3, h4⟩
  · have : L = [] := List.eq_nil_of_length_eq_zero h0
    subst this
    exact ⟨none, 0, rfl, AtRow.nil _ _, Nat.le_refl _, by unfold maxLen; omega⟩
  · refine ⟨_, cap, rfl, fun i x hx => ?_, h1, h2⟩
    have hil := (List.getElem?_eq_some_iff.1 hx).1
    obtain ⟨q1, q2⟩ := at_at L i x hx
    rw [← h4, List.getElem?_take_of_lt (by omega), Array.getElem?_toList] at q1 q2
    refine ⟨g, 0, rfl, (Array.getElem?_eq_some_iff.1 hg).1, ?_, ?_⟩
    · simp [World.cell?, hg, q1]
    · simp [World.cell?, hg, q2]

/-- Attributes behind a row of one's own. -/
theorem row_more {w : World} {B : Nat} {l : Value} {L M : List At} (h : RowIs w B l L) (ao : Option Addr) (c : Nat) (hM : AtRow w ao M) (hB : B ≤ w.heap.size) (hLM : L.length + M.length ≤ 4398046511104) :
    ∃ l' w', (Builtin.append_ #[22, 22] 22 #[l, .slice ao M.length c]).run Try.prog w = .ok l' w' ∧ RowIs w' B l' (L ++ M) ∧ LFr l w w' := by
  obtain ⟨i0, hi, hz0, hz1, hz2⟩ := info_parts info40
  by_cases h0 : M = []
  · subst h0
    obtain ⟨bo, cap, rfl, _, hc, _⟩ := row_at h
    have hs : Src Try.prog i0.size 22 (.slice ao 0 c) 0 [] w := by
      cases ao with
      | none => exact Src.ofNil w Try.underlying22 c
      | some a => exact Src.ofSlice w Try.underlying22 a 0 c [] (by simp) (by simp) (by simp)
    exact ⟨_, _, run_append_nothing (P := Try.prog) w 22 22 22 40 i0 Try.underlying22 hi bo L.length cap hc _ hs, by rw [List.append_nil]; exact h, LFr.refl _ _⟩
  · obtain ⟨x, hx⟩ : ∃ x, M[0]? = some x := by
      cases M with
      | nil => exact absurd rfl h0
      | cons x M => exact ⟨x, rfl⟩
    obtain ⟨b, off, rfl, _⟩ := hM 0 x hx
    obtain ⟨l', w', hr, ho, hg, _, _⟩ := run_append_own_at (P := Try.prog) w B 22 22 40 i0 _ 2 32 Try.underlying22 hi hz0 hz1 hz2 rfl (by decide) l L.length _ h ⟨b, off, none⟩ M.length c (M.flatMap At.cells) (cells_len M)
      (fun j u hj => by
        rw [Addr.add_lit]
        obtain ⟨i, y, h1, h2⟩ := cells_at M j u hj
        obtain ⟨b', off', e, _, c1, c2⟩ := hM i y h1
        simp only [Option.some.injEq, Addr.mk.injEq, and_true] at e
        obtain ⟨rfl, rfl⟩ := e
        rcases h2 with ⟨rfl, rfl⟩ | ⟨rfl, rfl⟩
        · exact c1
        · rw [← Nat.add_assoc]; exact c2) (cells_one M) (by unfold maxLen; omega) (by omega) hB
    refine ⟨l', w', hr, ?_, ?_⟩
    · show w'.ownsRow B 40 2 l' (L ++ M).length ((L ++ M).flatMap At.cells)
      rw [List.length_append, List.flatMap_append]
      exact ho
    · exact ⟨hg.os, hg.tape, hg.output, hg.size, fun d hd hne => hg.block d hd hne⟩

theorem at_take {w : World} {ao : Option Addr} {A : List At} (h : AtRow w ao A) (k : Nat) : AtRow w ao (A.take k) := fun i x hx => by
  have hil : i < k := by
    have := (List.getElem?_eq_some_iff.1 hx).1
    rw [List.length_take] at this
    omega
  rw [List.getElem?_take_of_lt hil] at hx
  exact h i x hx
theorem at_drop {w : World} {ao : Option Addr} {A : List At} (h : AtRow w ao A) (k cap : Nat) (hc : A.length ≤ cap) : AtRow w (if cap = k then ao else ao.map (·.add (k * 2))) (A.drop k) := fun i x hx => by
  have hil := (List.getElem?_eq_some_iff.1 hx).1
  rw [List.length_drop] at hil
  rw [List.getElem?_drop] at hx
  obtain ⟨b, off, rfl, h1, h2, h3⟩ := h _ x hx
  rw [if_neg (by omega)]
  refine ⟨b, off + k * 2, by simp [Addr.add_lit], h1, ?_, ?_⟩
  · rw [show off + k * 2 + i * 2 = off + (k + i) * 2 by omega]; exact h2
  · rw [show off + k * 2 + i * 2 = off + (k + i) * 2 by omega]; exact h3
theorem at_one (w : World) (x : At) : AtRow (w.alloc (.cells #[.string x.n, .string x.v] 40)) (some ⟨w.heap.size, 0, none⟩) [x] := fun i y hy => by
  have hi : i = 0 := by
    have := (List.getElem?_eq_some_iff.1 hy).1
    simp at this
    exact this
  subst hi
  simp at hy
  subst hy
  have hnew := heap_alloc_new w (.cells #[.string x.n, .string x.v] 40)
  obtain ⟨W, hW⟩ : ∃ W, w.alloc (.cells #[.string x.n, .string x.v] 40) = W := ⟨_, rfl⟩
  rw [hW] at hnew ⊢
  exact ⟨_, _, rfl, (Array.getElem?_eq_some_iff.1 hnew).1, by simp [World.cell?, hnew], by simp [World.cell?, hnew]⟩

/-- 'append' where its run is known by an equation, as one step of a region that draws. -/
theorem step_append_eq {P : Program} {ops : Array Oper} {o : Oper} {a : Act} {w : World} {K : Act → World → Prop} {Q : Exit → Act → World → Prop} {E : Prop}
    (hg : o.guard = none) (d x : Operand) (dT sT : TypeId) (hop : o.op = Op.call { callee := Callee.builtin Builtin.append, args := #[d, x], argTypes := #[dT, sT] })
    (v u : Value) (hd : a.eval d = v) (hx : a.eval x = u) {v' : Value} {w' : World} (hr : (Builtin.append_ #[dT, sT] o.type #[v, u]).run P w = .ok v' w') (hK : K (a.put o.dst v') w') :
    if Region.wanted o (yielded ops a.tmps) = true then Oper.wp P o a w K Q else E := by
  have hw : Region.wanted o (yielded ops a.tmps) = true := by simp [Region.wanted, hg]
  rw [if_pos hw]
  unfold Oper.wp
  simp [execOp, hop, resolve, invoke, builtin, hd, hx, hr, Result.andThen]
  exact hK
/-- 'append' where its run is known by an equation, in a region that draws no order. -/
theorem list_append_eq {P : Program} {ops : Array Oper} {rest : List Oper} {o : Oper} {a : Act} {w : World} {Q : Exit → Act → World → Prop}
    (hg : o.guard = none) (d x : Operand) (dT sT : TypeId) (hop : o.op = Op.call { callee := Callee.builtin Builtin.append, args := #[d, x], argTypes := #[dT, sT] })
    (v u : Value) (hd : a.eval d = v) (hx : a.eval x = u) {v' : Value} {w' : World} (hr : (Builtin.append_ #[dT, sT] o.type #[v, u]).run P w = .ok v' w') (hK : wpList P ops Q rest (a.put o.dst v') w') :
    wpList P ops Q (o :: rest) a w :=
  wpList_plain hg fun K hK2 => by
    unfold Oper.wp
    simp [execOp, hop, resolve, invoke, builtin, hd, hx, hr, Result.andThen]
    exact hK2 _ _ hK
end Go.Proofs.Ytnpaodagpleiaaa
