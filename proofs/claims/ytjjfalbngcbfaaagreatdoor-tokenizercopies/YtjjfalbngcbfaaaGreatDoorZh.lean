/- Attributes and tokens in memory; the document's Equal, Same, List. -/
import Derived.Test.YtjjfalbngcbfaaaGreatDoorProg
import Derived.WalkKit
import Derived.WalkSpells
import Derived.WalkLawsBesides
import Derived.Deep.RegionLaw
import Derived.Deep.RegionWith
import Derived.Deep.QuietTactic
import Derived.BigQuiet
import Derived.BigRegion
import Derived.WalkMore
import Derived.WalkArith
import Derived.Maps.AppendAt
import Derived.Laws.StructEq
import Derived.OwnWalk
import Derived.Deep.Upon
import Derived.Deep.LoopGhost
import Derived.Deep.DeepCutAuto
import Derived.Maps.OwnSet
import Derived.Below
import Derived.Deep.RegionHeld3
import Derived.Lib.RuneBytes
import Derived.Laws.EntriesVeiled
import Derived.Laws.BytesArg
import Derived.Shelf.Abstract
namespace Go.Proofs.YtjjfalbngcbfaaaGreatDoor.G9
open Go.RowKit

abbrev Path := List UInt8

/-- An attribute: its name, its value. -/
structure At where
  n : ByteArray
  v : ByteArray

theorem bytes_eq {a b : ByteArray} (h : a.data.toList = b.data.toList) : a = b := by
  obtain ⟨⟨x⟩⟩ := a
  obtain ⟨⟨y⟩⟩ := b
  have : x = y := h
  rw [this]
theorem beq_bytes (a b : ByteArray) : (a.toList == b.toList) = decide (a.data.toList = b.data.toList) := by
  rw [ByteArray.toList_eq, ByteArray.toList_eq]
  rw [Bool.eq_iff_iff]; simp

/-- Name and value as rows of bytes. -/
abbrev At.nm (x : At) : Path := x.n.data.toList
abbrev At.vl (x : At) : Path := x.v.data.toList
theorem At.ext' {x y : At} (h1 : x.nm = y.nm) (h2 : x.vl = y.vl) : x = y := by
  obtain ⟨a, b⟩ := x
  obtain ⟨c, d⟩ := y
  have e1 : a = c := bytes_eq h1
  have e2 : b = d := bytes_eq h2
  rw [e1, e2]
def At.eqb (x y : At) : Bool := decide (x.nm = y.nm) && decide (x.vl = y.vl)
theorem At.eqb_iff {x y : At} : At.eqb x y = true ↔ x = y := by
  unfold At.eqb
  rw [Bool.and_eq_true, decide_eq_true_iff, decide_eq_true_iff]
  exact ⟨fun h => At.ext' h.1 h.2, fun h => by rw [h]; exact ⟨rfl, rfl⟩⟩
def At.cells (x : At) : List Value := [.string x.n, .string x.v]

theorem eq49 (a b c d : ByteArray) (w : World) : (binOp .eql 49 (.agg #[.string a, .string b]) (.agg #[.string c, .string d])).run Tryz.prog w = .ok (.bool (At.eqb ⟨a, b⟩ ⟨c, d⟩)) w := by
  have u9 := Tryz.underlying9
  have a9 := Tryz.isAgg9
  have z9 := Tryz.sizeOf9
  have hS : Tryz.prog.underlying 49 = some (.struct (Tryz.prog.fieldsOf 49)) := by kernel_rfl
  have hp : Tryz.prog.stoodInHeld 49 = false := by kernel_rfl
  rw [run_eql_struct, show (10000 : Nat) = 9999 + 1 from rfl, run_equalIn_agg w 9999 49 _ _ hS hp]
  simp only [Program.fieldsOf, Tryz.underlying49]
  go_simp
  simp only [At.eqb, At.nm, At.vl]
  by_cases h1 : a.data.toList = c.data.toList <;> by_cases h2 : b.data.toList = d.data.toList <;> simp [h1, h2, ByteArray.toList_eq]
theorem ne49 (a b c d : ByteArray) (w : World) : (binOp .neq 49 (.agg #[.string a, .string b]) (.agg #[.string c, .string d])).run Tryz.prog w = .ok (.bool (!At.eqb ⟨a, b⟩ ⟨c, d⟩)) w := by
  have h := eq49 a b c d w
  rw [run_eql_struct] at h
  rw [run_neq_struct]
  revert h
  generalize (Op.equalIn 10000 49 (.agg #[.string a, .string b]) (.agg #[.string c, .string d])).run Tryz.prog w = r
  intro h
  cases r with
  | ok x w' => simp [Result.andThen] at h ⊢; obtain ⟨h1, h2⟩ := h; exact ⟨h1, h2⟩
  | halt x w' => simp [Result.andThen] at h

/-- A row of attributes that lies in memory. -/
def AtRow (w : World) (lo : Option Addr) (l : List At) : Prop :=
  ∀ i x, l[i]? = some x → ∃ b off, lo = some ⟨b, off, none⟩ ∧ b < w.heap.size ∧ w.cell? ⟨b, off + i * 2, none⟩ = some (.string x.n) ∧ w.cell? ⟨b, off + i * 2 + 1, none⟩ = some (.string x.v)

theorem AtRow.below {w w' : World} {lo : Option Addr} {l : List At} (h : AtRow w lo l) (b : Below w.heap.size w w') : AtRow w' lo l := fun i x hx => by
  obtain ⟨k, off, h1, h2, h3, h4⟩ := h i x hx
  exact ⟨k, off, h1, Nat.lt_of_lt_of_le h2 b.size, (b.cell (p := ⟨k, off + i * 2, none⟩) h2).trans h3, (b.cell (p := ⟨k, off + i * 2 + 1, none⟩) h2).trans h4⟩
theorem AtRow.nil (w : World) (lo : Option Addr) : AtRow w lo [] := fun i x hx => by simp at hx

theorem info49 : (Tryz.prog.info? 49).map (fun i => (i.zero, i.size, i.bytes)) = some (some (.agg #[.string ByteArray.empty, .string ByteArray.empty]), 2, 32) := by kernel_rfl

abbrev RowIs (w : World) (B : Nat) (v : Value) (L : List At) : Prop := w.ownsRow B 49 2 v L.length (L.flatMap At.cells)

theorem below_drewN {B : Nat} {w w' : World} (h : Below B w w') (n : Nat) : Below B w (w'.drewN n) := ⟨h.os, h.tape, h.output, h.size, h.block⟩

/-- Nothing that was there has turned but l's own block. -/
structure LFr (l : Value) (w w' : World) : Prop where
  os : w'.os = w.os
  tape : w'.tape = w.tape
  output : w'.output = w.output
  size : w.heap.size ≤ w'.heap.size
  block : ∀ d, d < w.heap.size → some d ≠ l.ownBlock → w'.heap[d]? = w.heap[d]?
theorem LFr.refl (l : Value) (w : World) : LFr l w w := ⟨rfl, rfl, rfl, Nat.le_refl _, fun _ _ _ => rfl⟩
theorem at_at (l : List At) (i : Nat) (x : At) (h : l[i]? = some x) : (l.flatMap At.cells)[i * 2]? = some (.string x.n) ∧ (l.flatMap At.cells)[i * 2 + 1]? = some (.string x.v) := by
  induction l generalizing i with
  | nil => simp at h
  | cons y l ih =>
    rw [List.flatMap_cons]
    cases i with
    | zero => simp at h; subst h; exact ⟨rfl, rfl⟩
    | succ i =>
      have := ih i (by simpa using h)
      rw [show (i + 1) * 2 = i * 2 + 1 + 1 by omega, show i * 2 + 1 + 1 + 1 = (i * 2 + 1) + 1 + 1 by omega]
      simp only [At.cells, List.cons_append, List.nil_append, List.getElem?_cons_succ]
      exact this
theorem cells_at : ∀ (M : List At) (j : Nat) (u : Value), (M.flatMap At.cells)[j]? = some u → ∃ i x, M[i]? = some x ∧ ((j = i * 2 ∧ u = .string x.n) ∨ (j = i * 2 + 1 ∧ u = .string x.v))
  | [], j, u, h => by simp at h
  | x :: M, 0, u, h => ⟨0, x, rfl, .inl ⟨rfl, by simpa [At.cells] using h.symm⟩⟩
  | x :: M, 1, u, h => ⟨0, x, rfl, .inr ⟨rfl, by simpa [At.cells] using h.symm⟩⟩
  | x :: M, j + 2, u, h => by
    have h' : (M.flatMap At.cells)[j]? = some u := by simpa [At.cells] using h
    obtain ⟨i, y, h1, h2⟩ := cells_at M j u h'
    refine ⟨i + 1, y, by simpa using h1, ?_⟩
    rcases h2 with ⟨h2, h3⟩ | ⟨h2, h3⟩
    · exact .inl ⟨by omega, h3⟩
    · exact .inr ⟨by omega, h3⟩
theorem cells_one : ∀ (M : List At) (u : Value), u ∈ M.flatMap At.cells → u.oneCell' = true := fun M u h => by
  rw [List.mem_flatMap] at h
  obtain ⟨x, _, h⟩ := h
  simp only [At.cells, List.mem_cons, List.not_mem_nil, or_false] at h
  rcases h with rfl | rfl <;> rfl
theorem cells_len (M : List At) : (M.flatMap At.cells).length = M.length * 2 := by
  induction M with
  | nil => rfl
  | cons x M ih => rw [List.flatMap_cons, List.length_append, ih, List.length_cons]; simp [At.cells]; omega

theorem row_at {w : World} {B : Nat} {v : Value} {L : List At} (h : RowIs w B v L) : ∃ ao cap, v = .slice ao L.length cap ∧ AtRow w ao L ∧ L.length ≤ cap ∧ cap ≤ maxLen := by
  rcases h.2 with ⟨rfl, h0⟩ | ⟨g, cap, cur, rfl, hB, hg, h1, h2, h3, h4⟩
  · have : L = [] := List.eq_nil_of_length_eq_zero h0
    subst this
    exact ⟨none, 0, rfl, AtRow.nil _ _, Nat.le_refl _, by unfold maxLen; omega⟩
  · refine ⟨_, cap, rfl, fun i x hx => ?_, h1, h2⟩
    have hil := (List.getElem?_eq_some_iff.1 hx).1
    obtain ⟨q1, q2⟩ := at_at L i x hx
    rw [← h4, List.getElem?_take_of_lt (by omega), Array.getElem?_toList] at q1 q2
    refine ⟨g, 0, rfl, (Array.getElem?_eq_some_iff.1 hg).1, ?_, ?_⟩
    · simp [World.cell?, hg, q1]
    · simp [World.cell?, hg, q2]

/-- Attributes behind a row of one's own. -/
theorem row_more {w : World} {B : Nat} {l : Value} {L M : List At} (h : RowIs w B l L) (ao : Option Addr) (c : Nat) (hM : AtRow w ao M) (hB : B ≤ w.heap.size) (hLM : L.length + M.length ≤ 4398046511104) :
    ∃ l' w', (Builtin.append_ #[41, 41] 41 #[l, .slice ao M.length c]).run Tryz.prog w = .ok l' w' ∧ RowIs w' B l' (L ++ M) ∧ LFr l w w' := by
  obtain ⟨i0, hi, hz0, hz1, hz2⟩ := info_parts info49
  by_cases h0 : M = []
  · subst h0
    obtain ⟨bo, cap, rfl, _, hc, _⟩ := row_at h
    have hs : Src Tryz.prog i0.size 41 (.slice ao 0 c) 0 [] w := by
      cases ao with
      | none => exact Src.ofNil w Tryz.underlying41 c
      | some a => exact Src.ofSlice w Tryz.underlying41 a 0 c [] (by simp) (by simp) (by simp)
    exact ⟨_, _, run_append_nothing (P := Tryz.prog) w 41 41 41 49 i0 Tryz.underlying41 hi bo L.length cap hc _ hs, by rw [List.append_nil]; exact h, LFr.refl _ _⟩
  · obtain ⟨x, hx⟩ : ∃ x, M[0]? = some x := by
      cases M with
      | nil => exact absurd rfl h0
      | cons x M => exact ⟨x, rfl⟩
    obtain ⟨b, off, rfl, _⟩ := hM 0 x hx
    obtain ⟨l', w', hr, ho, hg, _, _⟩ := run_append_own_at (P := Tryz.prog) w B 41 41 49 i0 _ 2 32 Tryz.underlying41 hi hz0 hz1 hz2 rfl (by decide) l L.length _ h ⟨b, off, none⟩ M.length c (M.flatMap At.cells) (cells_len M)
      (fun j u hj => by
        rw [Addr.add_lit]
        obtain ⟨i, y, h1, h2⟩ := cells_at M j u hj
        obtain ⟨b', off', e, _, c1, c2⟩ := hM i y h1
        simp only [Option.some.injEq, Addr.mk.injEq, and_true] at e
        obtain ⟨rfl, rfl⟩ := e
        rcases h2 with ⟨rfl, rfl⟩ | ⟨rfl, rfl⟩
        · exact c1
        · rw [← Nat.add_assoc]; exact c2) (cells_one M) (by unfold maxLen; omega) (by omega) hB
    refine ⟨l', w', hr, ?_, ?_⟩
    · show w'.ownsRow B 49 2 l' (L ++ M).length ((L ++ M).flatMap At.cells)
      rw [List.length_append, List.flatMap_append]
      exact ho
    · exact ⟨hg.os, hg.tape, hg.output, hg.size, fun d hd hne => hg.block d hd hne⟩

theorem at_take {w : World} {ao : Option Addr} {A : List At} (h : AtRow w ao A) (k : Nat) : AtRow w ao (A.take k) := fun i x hx => by
  have hil : i < k := by
    have := (List.getElem?_eq_some_iff.1 hx).1
    rw [List.length_take] at this
    omega
  rw [List.getElem?_take_of_lt hil] at hx
  exact h i x hx
theorem at_one (w : World) (x : At) : AtRow (w.alloc (.cells #[.string x.n, .string x.v] 49)) (some ⟨w.heap.size, 0, none⟩) [x] := fun i y hy => by
  have hi : i = 0 := by
    have := (List.getElem?_eq_some_iff.1 hy).1
    simp at this
    exact this
  subst hi
  simp at hy
  subst hy
  have hnew := heap_alloc_new w (.cells #[.string x.n, .string x.v] 49)
  obtain ⟨W, hW⟩ : ∃ W, w.alloc (.cells #[.string x.n, .string x.v] 49) = W := ⟨_, rfl⟩
  rw [hW] at hnew ⊢
  exact ⟨_, _, rfl, (Array.getElem?_eq_some_iff.1 hnew).1, by simp [World.cell?, hnew], by simp [World.cell?, hnew]⟩

/-- A token: its fields; its attributes as a slice. -/
structure Tk where
  k : Int
  r : Int
  nm : ByteArray
  tx : ByteArray
  ao : Option Addr
  n : Nat
  cap : Nat
  s : Bool
  f : Int
  t : Int

abbrev Tk.arr (T : Tk) : Array Value := #[.int .i64 T.k, .int .i64 T.r, .string T.nm, .string T.tx, .slice T.ao T.n T.cap, .bool T.s, .int .i64 T.f, .int .i64 T.t]
abbrev Tk.val (T : Tk) : Value := .agg T.arr

def eqL : List At → List At → Bool
  | [], [] => true
  | x :: A, y :: B => At.eqb x y && eqL A B
  | _, _ => false
theorem eqL_iff : ∀ {A B : List At}, eqL A B = true ↔ A = B
  | [], [] => by simp [eqL]
  | [], y :: B => by simp [eqL]
  | x :: A, [] => by simp [eqL]
  | x :: A, y :: B => by
    unfold eqL
    rw [Bool.and_eq_true, At.eqb_iff, eqL_iff, List.cons.injEq]
theorem eqL_len {A B : List At} (h : A.length ≠ B.length) : eqL A B = false := by
  cases e : eqL A B with
  | false => rfl
  | true => exact absurd (congrArg List.length (eqL_iff.1 e)) h
theorem drop_at {α : Type} {L : List α} {i : Nat} {x : α} (h : L[i]? = some x) : L.drop i = x :: L.drop (i + 1) := by
  obtain ⟨h1, rfl⟩ := List.getElem?_eq_some_iff.1 h
  exact List.drop_eq_getElem_cons h1
theorem eqL_drop {A B : List At} {i : Nat} {x y : At} (hx : A[i]? = some x) (hy : B[i]? = some y) : eqL (A.drop i) (B.drop i) = (At.eqb x y && eqL (A.drop (i + 1)) (B.drop (i + 1))) := by
  rw [drop_at hx, drop_at hy]
  rfl

theorem beq_yes {a b : ByteArray} (h : a.data.toList = b.data.toList) : (a.toList == b.toList) = true := by rw [beq_bytes]; exact decide_eq_true h
theorem beq_no {a b : ByteArray} (h : ¬ a.data.toList = b.data.toList) : (a.toList == b.toList) = false := by rw [beq_bytes]; exact decide_eq_false h

theorem eq43 (a b c d : Int) (w : World) : (binOp .eql 43 (.agg #[.int .i64 a, .int .i64 b]) (.agg #[.int .i64 c, .int .i64 d])).run Tryz.prog w = .ok (.bool (decide (a = c) && decide (b = d))) w := by
  have u3 := Tryz.underlying3
  have a3 := Tryz.isAgg3
  have z3 := Tryz.sizeOf3
  have hS : Tryz.prog.underlying 43 = some (.struct (Tryz.prog.fieldsOf 43)) := by kernel_rfl
  have hp : Tryz.prog.stoodInHeld 43 = false := by kernel_rfl
  rw [run_eql_struct, show (10000 : Nat) = 9999 + 1 from rfl, run_equalIn_agg w 9999 43 _ _ hS hp]
  simp only [Program.fieldsOf, Tryz.underlying43]
  go_simp
  by_cases h1 : a = c <;> by_cases h2 : b = d <;> simp [h1, h2]

/-- What a token's attributes are in this memory. -/
structure TkOk (w : World) (T : Tk) (L : List At) : Prop where
  len : L.length = T.n
  row : AtRow w T.ao L
  small : T.n ≤ 9223372036854775807
theorem TkOk.below {w w' : World} {T : Tk} {L : List At} (h : TkOk w T L) (b : Below w.heap.size w w') : TkOk w' T L := ⟨h.len, h.row.below b, h.small⟩

/-- Whether two tokens are the same, by their fields and attributes. -/
def Tk.eqb (T U : Tk) (A B : List At) : Bool :=
  decide (T.k = U.k) && decide (T.r = U.r) && decide (T.nm.data.toList = U.nm.data.toList) && decide (T.tx.data.toList = U.tx.data.toList) && decide (T.s = U.s) && (decide (T.f = U.f) && decide (T.t = U.t)) && eqL A B

/-- A row of tokens that lies in memory, with each one's attributes. -/
def TkRow (w : World) (lo : Option Addr) (l : List (Tk × List At)) : Prop :=
  ∀ i x, l[i]? = some x → (∃ b off, lo = some ⟨b, off, none⟩ ∧ b < w.heap.size ∧ (∀ j u, x.1.arr[j]? = some u → w.cell? ⟨b, off + i * 8 + j, none⟩ = some u)) ∧ TkOk w x.1 x.2
theorem TkRow.below {w w' : World} {lo : Option Addr} {l : List (Tk × List At)} (h : TkRow w lo l) (b : Below w.heap.size w w') : TkRow w' lo l := fun i x hx => by
  obtain ⟨⟨k, off, h1, h2, h3⟩, ok⟩ := h i x hx
  exact ⟨⟨k, off, h1, Nat.lt_of_lt_of_le h2 b.size, fun j u hj => (b.cell (p := ⟨k, off + i * 8 + j, none⟩) h2).trans (h3 j u hj)⟩, ok.below b⟩
set_option maxHeartbeats 1000000 in
theorem requal_any {w : World} {ao bo : Option Addr} {A B : List At} (n m ca cb : Nat) (ha : AtRow w ao A) (hb : AtRow w bo B) (hn : A.length = n) (hm : B.length = m) (hn2 : n ≤ 9223372036854775807) (hm2 : m ≤ 9223372036854775807) :
    Calls Tryz.prog 37 #[.slice ao n ca, .slice bo m cb] w fun e w' => e = .returned (.bool (eqL A B)) ∧ Below w.heap.size w w' := by
  by_cases hnm : n = m
  · subst hnm
    obtain ⟨g, hg0⟩ : ∃ g, eqL A B = g := ⟨_, rfl⟩
    rw [hg0]
    have HA : Hid (AtRow w ao A ∧ AtRow w bo B ∧ A.length = n ∧ B.length = n ∧ eqL (A.drop 0) (B.drop 0) = g) := ⟨ha, hb, hn, hm, hg0⟩
    clear ha hb hn hm hg0
    go_enter Tryz.func37, Tryz.ntmps37
    go_wp2_with fail
    go_loopg [5] n (fun g2 iv wr => ∃ (i q : Nat), iv = .int .i64 i ∧ i + g2 = n ∧ eqL (A.drop i) (B.drop i) = g ∧ wr = w.drewN q)
    case atStart => exact ⟨0, 0, rfl, by omega, HA.out.2.2.2.2, rfl⟩
    case round =>
      obtain ⟨i, q, rfl, hig, hgi, rfl⟩ := hrel
      have HG : Hid (eqL (A.drop i) (B.drop i) = g) := hgi
      clear hgi
      cases gk with
      | zero =>
        obtain rfl : i = n := by omega
        have hg0 : decide ((i : Int) < (i : Int)) = false := decide_eq_false (by omega)
        go_wp2_with fail
        have e : g = true := by
          have h := HG.out
          rw [List.drop_of_length_le (by rw [HA.out.2.2.1]; exact Nat.le_refl _), List.drop_of_length_le (by rw [HA.out.2.2.2.1]; exact Nat.le_refl _)] at h
          exact h.symm
        subst e
        go_ret
        exact ⟨rfl, below_drewN (Below.refl _ _) _⟩
      | succ k =>
        have hin : i < n := by omega
        obtain ⟨x, hx⟩ : ∃ x, A[i]? = some x := ⟨_, List.getElem?_eq_getElem (by rw [HA.out.2.2.1]; exact hin)⟩
        obtain ⟨y, hy⟩ : ∃ y, B[i]? = some y := ⟨_, List.getElem?_eq_getElem (by rw [HA.out.2.2.2.1]; exact hin)⟩
        obtain ⟨b1, o1, rfl, h1, c1, c2⟩ := HA.out.1 i x hx
        obtain ⟨b2, o2, rfl, h2, c3, c4⟩ := HA.out.2.1 i y hy
        have HD : Hid (eqL (A.drop i) (B.drop i) = (At.eqb x y && eqL (A.drop (i + 1)) (B.drop (i + 1)))) := eqL_drop hx hy
        clear hx hy
        obtain ⟨nm1, vl1⟩ := x
        obtain ⟨nm2, vl2⟩ := y
        simp only at c1 c2 c3 c4
        have hne := ne49 nm1 vl1 nm2 vl2
        obtain ⟨r, hr⟩ : ∃ r, At.eqb ⟨nm1, vl1⟩ ⟨nm2, vl2⟩ = r := ⟨_, rfl⟩
        rw [hr] at HD
        simp only [hr] at hne
        clear hr
        cases r with
        | false =>
          have e : g = false := by
            rw [← HG.out, HD.out]
            rfl
          subst e
          simp only [Bool.not_false] at hne
          go_wp2_with fail
          go_quiet (fail)
          go_wp2_with fail
          go_ret
          exact ⟨rfl, below_drewN (below_drewN (Below.refl _ _) _) _⟩
        | true =>
          have HN : Hid (eqL (A.drop (i + 1)) (B.drop (i + 1)) = g) := by
            have h := HD.out
            rw [Bool.true_and] at h
            exact h.symm.trans HG.out
          simp only [Bool.not_true] at hne
          go_wp2_with fail
          go_quiet (fail)
          go_wp2_with fail
          go_roundg k
          case measure => omega
          case rel => exact ⟨i + 1, _, by go_num, by omega, HN.out, rfl⟩
  · rw [eqL_len (by rw [hn, hm]; exact hnm)]
    have hne : ((n : Int) == (m : Int)) = false := by simp; omega
    clear ha hb hn hm
    go_enter Tryz.func37, Tryz.ntmps37
    go_wp2_with fail
    go_ret
    exact ⟨rfl, Below.refl _ _⟩

set_option maxHeartbeats 2000000 in
set_option maxRecDepth 10000 in
theorem rsame_any {w : World} {T U : Tk} {A B : List At} (hT : TkOk w T A) (hU : TkOk w U B) :
    Calls Tryz.prog 20 #[T.val, U.val] w fun e w' => e = .returned (.bool (Tk.eqb T U A B)) ∧ Below w.heap.size w w' := by
  obtain ⟨g, hg⟩ : ∃ g, Tk.eqb T U A B = g := ⟨_, rfl⟩
  rw [hg]
  unfold Tk.eqb at hg
  obtain ⟨k, r, nm, tx, ao, n, cap, s, f, t⟩ := T
  obtain ⟨k', r', nm', tx', ao', n', cap', s', f', t'⟩ := U
  simp only [Tk.val, Tk.arr] at hg ⊢
  have HT : Hid (TkOk w _ A ∧ TkOk w _ B) := ⟨hT, hU⟩
  have hnn : n ≤ 9223372036854775807 := hT.small
  have hnn' : n' ≤ 9223372036854775807 := hU.small
  have bel : Below w.heap.size w ((w.alloc (.cells #[.int .i64 k, .int .i64 r, .string nm, .string tx, .slice ao n cap, .bool s, .int .i64 f, .int .i64 t] 45)).alloc (.cells #[.int .i64 k', .int .i64 r', .string nm', .string tx', .slice ao' n' cap', .bool s', .int .i64 f', .int .i64 t'] 45)) := ((Below.refl _ _).alloc (Nat.le_refl _) _).alloc (by simp) _
  have HB : Hid (Below w.heap.size w _) := bel
  clear hT hU bel
  by_cases hk : k = k'
  rotate_left 1
  · have e : g = false := by rw [← hg]; simp [hk]
    subst e
    clear hg
    have hk' : (k == k') = false := beq_false_of_ne hk
    clear hk
    go_enter Tryz.func20, Tryz.ntmps20
    go_wp2_with fail
    go_ret
    exact ⟨rfl, HB.out⟩
  subst hk
  by_cases hr : r = r'
  rotate_left 1
  · have e : g = false := by rw [← hg]; simp [hr]
    subst e
    clear hg
    have hr' : (r == r') = false := beq_false_of_ne hr
    clear hr
    go_enter Tryz.func20, Tryz.ntmps20
    go_wp2_with fail
    go_ret
    exact ⟨rfl, HB.out⟩
  subst hr
  by_cases hm : nm.data.toList = nm'.data.toList
  rotate_left 1
  · have e : g = false := by rw [← hg]; simp [hm]
    subst e
    clear hg
    have hm' := beq_no hm
    clear hm
    go_enter Tryz.func20, Tryz.ntmps20
    go_wp2_with fail
    go_ret
    exact ⟨rfl, HB.out⟩
  have hm' := beq_yes hm
  by_cases hx : tx.data.toList = tx'.data.toList
  rotate_left 1
  · have e : g = false := by rw [← hg]; simp [hx]
    subst e
    clear hg
    have hx' := beq_no hx
    clear hx hm
    go_enter Tryz.func20, Tryz.ntmps20
    go_wp2_with fail
    go_ret
    exact ⟨rfl, HB.out⟩
  have hx' := beq_yes hx
  by_cases hs : s = s'
  rotate_left 1
  · have e : g = false := by rw [← hg]; simp [hs]
    subst e
    clear hg
    clear hx hm
    have hs' : (s == s') = false := beq_false_of_ne hs
    clear hs
    go_enter Tryz.func20, Tryz.ntmps20
    go_wp2_with fail
    go_ret
    exact ⟨rfl, HB.out⟩
  subst hs
  have hsp := eq43 f t f' t'
  obtain ⟨b, hb⟩ : ∃ b, (decide (f = f') && decide (t = t')) = b := ⟨_, rfl⟩
  rw [hb] at hg
  simp only [hb] at hsp
  clear hb
  cases b with
  | false =>
    have e : g = false := by rw [← hg]; simp
    subst e
    clear hg hx hm
    go_enter Tryz.func20, Tryz.ntmps20
    go_wp2_with fail
    go_ret
    exact ⟨rfl, HB.out⟩
  | true =>
    have hgg : eqL A B = g := by rw [← hg]; simp [hm, hx]
    clear hg hx hm
    have kk := requal_any n n' cap cap' (HT.out.1.row.below HB.out) (HT.out.2.row.below HB.out) HT.out.1.len HT.out.2.len hnn hnn'
    rw [hgg] at kk
    clear hgg
    go_enter Tryz.func20, Tryz.ntmps20
    go_wp2_with fail
    refine kk.mono ?_
    rintro e w1 ⟨rfl, b1⟩
    have HB1 : Hid (Below w.heap.size w w1) := HB.out.trans (b1.mono HB.out.size)
    clear kk b1
    go_wp2_with fail
    go_ret
    exact ⟨rfl, HB1.out⟩

abbrev TL := Tk × List At
def lsP : List TL → List TL → Bool
  | [], [] => true
  | x :: A, y :: B => Tk.eqb x.1 y.1 x.2 y.2 && lsP A B
  | _, _ => false
theorem lsP_len : ∀ {A B : List TL}, A.length ≠ B.length → lsP A B = false
  | [], [], h => absurd rfl h
  | [], _ :: _, _ => rfl
  | _ :: _, [], _ => rfl
  | x :: A, y :: B, h => by
    unfold lsP
    rw [lsP_len (by simpa using h), Bool.and_false]
theorem lsP_drop {A B : List TL} {i : Nat} {x y : TL} (hx : A[i]? = some x) (hy : B[i]? = some y) : lsP (A.drop i) (B.drop i) = (Tk.eqb x.1 y.1 x.2 y.2 && lsP (A.drop (i + 1)) (B.drop (i + 1))) := by
  rw [drop_at hx, drop_at hy]
  rfl
structure TkCells (w : World) (b o : Nat) (T : Tk) : Prop where
  c0 : w.cell? ⟨b, o, none⟩ = some (.int .i64 T.k)
  c1 : w.cell? ⟨b, o + 1, none⟩ = some (.int .i64 T.r)
  c2 : w.cell? ⟨b, o + 2, none⟩ = some (.string T.nm)
  c3 : w.cell? ⟨b, o + 3, none⟩ = some (.string T.tx)
  c4 : w.cell? ⟨b, o + 4, none⟩ = some (.slice T.ao T.n T.cap)
  c5 : w.cell? ⟨b, o + 5, none⟩ = some (.bool T.s)
  c6 : w.cell? ⟨b, o + 6, none⟩ = some (.int .i64 T.f)
  c7 : w.cell? ⟨b, o + 7, none⟩ = some (.int .i64 T.t)
theorem TkCells.of {w : World} {b o : Nat} {T : Tk} (h : ∀ j u, T.arr[j]? = some u → w.cell? ⟨b, o + j, none⟩ = some u) : TkCells w b o T :=
  ⟨h 0 _ rfl, h 1 _ rfl, h 2 _ rfl, h 3 _ rfl, h 4 _ rfl, h 5 _ rfl, h 6 _ rfl, h 7 _ rfl⟩
theorem TkCells.below {w w' : World} {b o : Nat} {T : Tk} (h : TkCells w b o T) (k : Below w.heap.size w w') (hb : b < w.heap.size) : TkCells w' b o T :=
  ⟨(k.cell (p := ⟨b, o, none⟩) hb).trans h.c0, (k.cell (p := ⟨b, o + 1, none⟩) hb).trans h.c1, (k.cell (p := ⟨b, o + 2, none⟩) hb).trans h.c2, (k.cell (p := ⟨b, o + 3, none⟩) hb).trans h.c3, (k.cell (p := ⟨b, o + 4, none⟩) hb).trans h.c4, (k.cell (p := ⟨b, o + 5, none⟩) hb).trans h.c5, (k.cell (p := ⟨b, o + 6, none⟩) hb).trans h.c6, (k.cell (p := ⟨b, o + 7, none⟩) hb).trans h.c7⟩
theorem TkRow.at {w : World} {lo : Option Addr} {l : List TL} (h : TkRow w lo l) {i : Nat} {x : TL} (hx : l[i]? = some x) : ∃ b off, lo = some ⟨b, off, none⟩ ∧ b < w.heap.size ∧ TkCells w b (off + i * 8) x.1 ∧ TkOk w x.1 x.2 := by
  obtain ⟨⟨b, off, h1, h2, h3⟩, ok⟩ := h i x hx
  exact ⟨b, off, h1, h2, TkCells.of h3, ok⟩
theorem TkRow.nil (w : World) (lo : Option Addr) : TkRow w lo [] := fun i x hx => by simp at hx

set_option maxHeartbeats 2000000 in
set_option maxRecDepth 10000 in
theorem rlist_any {w : World} {ao bo : Option Addr} {A B : List TL} (n m ca cb : Nat) (ha : TkRow w ao A) (hb : TkRow w bo B) (hn : A.length = n) (hm : B.length = m) (hn2 : n ≤ 9223372036854775807) (hm2 : m ≤ 9223372036854775807) :
    Calls Tryz.prog 12 #[.slice ao n ca, .slice bo m cb] w fun e w' => e = .returned (.bool (lsP A B)) ∧ Below w.heap.size w w' := by
  by_cases hnm : n = m
  · subst hnm
    obtain ⟨g, hg0⟩ : ∃ g, lsP A B = g := ⟨_, rfl⟩
    rw [hg0]
    have HA : Hid (TkRow w ao A ∧ TkRow w bo B ∧ A.length = n ∧ B.length = n ∧ lsP (A.drop 0) (B.drop 0) = g) := ⟨ha, hb, hn, hm, hg0⟩
    clear ha hb hn hm hg0
    go_enter Tryz.func12, Tryz.ntmps12
    go_wp2_with fail
    go_loopg [5] n (fun g2 iv wr => ∃ (i : Nat), iv = .int .i64 i ∧ i + g2 = n ∧ lsP (A.drop i) (B.drop i) = g ∧ Below w.heap.size w wr)
    case atStart => exact ⟨0, rfl, by omega, HA.out.2.2.2.2, Below.refl _ _⟩
    case round =>
      obtain ⟨i, rfl, hig, hgi, hbe⟩ := hrel
      have HG : Hid (lsP (A.drop i) (B.drop i) = g ∧ Below w.heap.size w wr) := ⟨hgi, hbe⟩
      clear hgi hbe
      cases gk with
      | zero =>
        obtain rfl : i = n := by omega
        have hg0 : decide ((i : Int) < (i : Int)) = false := decide_eq_false (by omega)
        go_wp2_with fail
        have e : g = true := by
          have h := HG.out.1
          rw [List.drop_of_length_le (by rw [HA.out.2.2.1]; exact Nat.le_refl _), List.drop_of_length_le (by rw [HA.out.2.2.2.1]; exact Nat.le_refl _)] at h
          exact h.symm
        subst e
        go_ret
        exact ⟨rfl, HG.out.2⟩
      | succ k =>
        have hin : i < n := by omega
        obtain ⟨x, hx⟩ : ∃ x, A[i]? = some x := ⟨_, List.getElem?_eq_getElem (by rw [HA.out.2.2.1]; exact hin)⟩
        obtain ⟨y, hy⟩ : ∃ y, B[i]? = some y := ⟨_, List.getElem?_eq_getElem (by rw [HA.out.2.2.2.1]; exact hin)⟩
        obtain ⟨b1, o1, rfl, h1, ⟨c0, c1, c2, c3, c4, c5, c6, c7⟩, ok1⟩ := (HA.out.1.below HG.out.2).at hx
        obtain ⟨b2, o2, rfl, h2, ⟨d0, d1, d2, d3, d4, d5, d6, d7⟩, ok2⟩ := (HA.out.2.1.below HG.out.2).at hy
        have HD : Hid (lsP (A.drop i) (B.drop i) = (Tk.eqb x.1 y.1 x.2 y.2 && lsP (A.drop (i + 1)) (B.drop (i + 1)))) := lsP_drop hx hy
        clear hx hy
        obtain ⟨X, LX⟩ := x
        obtain ⟨Y, LY⟩ := y
        simp only at c0 c1 c2 c3 c4 c5 c6 c7 d0 d1 d2 d3 d4 d5 d6 d7 ok1 ok2 HD
        obtain ⟨r, hr⟩ : ∃ r, Tk.eqb X Y LX LY = r := ⟨_, rfl⟩
        have HR : Hid (Tk.eqb X Y LX LY = r) := hr
        rw [hr] at HD
        have HO : Hid (TkOk wr X LX ∧ TkOk wr Y LY) := ⟨ok1, ok2⟩
        clear ok1 ok2 hr
        have kk : ∀ q, Calls Tryz.prog 20 #[X.val, Y.val] (wr.drewN q) fun e w' => e = .returned (.bool r) ∧ Below w.heap.size w w' := fun q => by
          have hb : Below wr.heap.size wr (wr.drewN q) := below_drewN (Below.refl _ _) q
          have k0 := rsame_any (HO.out.1.below hb) (HO.out.2.below hb)
          rw [HR.out] at k0
          refine k0.mono ?_
          rintro e w1 ⟨rfl, b1⟩
          exact ⟨rfl, (HG.out.2.trans (hb.mono HG.out.2.size)).trans (b1.mono HG.out.2.size)⟩
        simp only [Tk.val, Tk.arr] at kk
        go_wp2_with fail
        go_region_with (go_at_call 20; refine (kk _).mono ?_; rintro e w1 ⟨rfl, b1⟩)
        all_goals
          have H1 : Hid (Below w.heap.size w w1) := b1
          clear b1 kk
          cases r with
          | false =>
            have e : g = false := by rw [← HG.out.1, HD.out]; rfl
            subst e
            go_wp2_with fail
            go_ret
            exact ⟨rfl, H1.out⟩
          | true =>
            have HN : Hid (lsP (A.drop (i + 1)) (B.drop (i + 1)) = g) := by
              have h := HD.out
              rw [Bool.true_and] at h
              exact h.symm.trans HG.out.1
            go_wp2_with fail
            go_roundg k
            case measure => omega
            case rel => exact ⟨i + 1, by go_num, by omega, HN.out, H1.out⟩
  · rw [lsP_len (by rw [hn, hm]; exact hnm)]
    have hne : ((n : Int) == (m : Int)) = false := by simp; omega
    clear ha hb hn hm
    go_enter Tryz.func12, Tryz.ntmps12
    go_wp2_with fail
    go_ret
    exact ⟨rfl, Below.refl _ _⟩
end Go.Proofs.YtjjfalbngcbfaaaGreatDoor.G9

/- A character's bytes: the document's Encode, May; character. -/
namespace Go.Proofs.YtjjfalbngcbfaaaGreatDoor.G9
open Go.RowKit

set_option maxRecDepth 20000 in
theorem wraps_i64 (n : Int) (h₀ : 0 ≤ n) (h₁ : n < 2 ^ 63) : IntKind.i64.wrap n = n := by rw [IntKind.wrap_i64]; omega
theorem ret_i32 {a b : Int} (h : a = b) : Ending.returned (.int .i32 a) = .returned (.int .i32 b) := by rw [h]
set_option maxRecDepth 20000 in
theorem ret_bool {a b : Bool} (h : a = b) : Ending.returned (.bool a) = .returned (.bool b) := by rw [h]
def mayB (r : Int) : Bool := decide (0 ≤ r ∧ r ≤ 1114111 ∧ (r < 55296 ∨ 57343 < r))

set_option maxHeartbeats 400000 in
set_option maxRecDepth 20000 in
theorem may_any (r : Int) (w : World) : Calls Tryz.prog 139 #[.int .i64 r] w fun e w' => e = .returned (.bool (mayB r)) ∧ w' = w := by
  go_enter Tryz.func139, Tryz.ntmps139
  go_wp2
  all_goals
    go_ret
    refine ⟨ret_bool (Bool.eq_iff_iff.2 ?_), rfl⟩
    unfold mayB
    simp only [decide_eq_true_eq, Bool.false_eq_true, false_iff]
    first | omega | (simp only [true_iff]; omega) | (simp only [Bool.or_eq_true, decide_eq_true_eq]; omega)

/-- The character that is told for a number. -/
def chr (r : Int) : Int := if mayB r = true then r else 65533

set_option maxRecDepth 20000 in
theorem may_iff (r : Int) : mayB r = true ↔ 0 ≤ r ∧ r ≤ 1114111 ∧ (r < 55296 ∨ 57343 < r) := by unfold mayB; exact decide_eq_true_iff
theorem conv_at (W : World) (g : Nat) (xs : List Int) (n : Nat) (hl : xs.length = n) (hb : W.heap[g]? = some (.cells (xs.map (Value.int .u8)).toArray 5 (0, 0))) : (convert 67 9 (.slice (some ⟨g, 0, none⟩) n n)).run Tryz.prog W = .ok (.string (strOfNums xs)) W := by
  refine run_convert_bytes_arg _ 67 5 Tryz.underlying67 Tryz.underlying5 g 0 n n xs hl (fun i hi => ?_) 9 Tryz.underlying9
  have hi' : i < xs.length := by omega
  simp [World.cell?, hb, List.getElem?_eq_getElem hi']
set_option maxRecDepth 20000 in
theorem conv_new (w : World) (xs : List Int) (n : Nat) (cs : Array Value) (hl : xs.length = n) (hcs : (xs.map (Value.int .u8)).toArray = cs) (S : ByteArray) (hS : strOfNums xs = S) : (convert 67 9 (.slice (some ⟨w.heap.size, 0, none⟩) n n)).run Tryz.prog (w.alloc (.cells cs 5)) = .ok (.string S) (w.alloc (.cells cs 5)) := by
  subst hcs; subst hS
  exact conv_at _ _ xs n hl (heap_alloc_new _ _)

set_option maxRecDepth 20000 in
theorem i64_or192 (y : Int) (h₀ : 0 ≤ y) (h₁ : y < 64) : bits .or .i64 192 y = 192 + y := bits_join .i64 63 (by decide) wraps_i64 6 192 y (by decide) (by decide) (by decide) h₀ (by omega) (by omega)
set_option maxRecDepth 20000 in
theorem i64_or224 (y : Int) (h₀ : 0 ≤ y) (h₁ : y < 32) : bits .or .i64 224 y = 224 + y := bits_join .i64 63 (by decide) wraps_i64 5 224 y (by decide) (by decide) (by decide) h₀ (by omega) (by omega)
set_option maxRecDepth 20000 in
theorem i64_or240 (y : Int) (h₀ : 0 ≤ y) (h₁ : y < 16) : bits .or .i64 240 y = 240 + y := bits_join .i64 63 (by decide) wraps_i64 4 240 y (by decide) (by decide) (by decide) h₀ (by omega) (by omega)
set_option maxRecDepth 20000 in
theorem i64_or128 (y : Int) (h₀ : 0 ≤ y) (h₁ : y < 128) : bits .or .i64 128 y = 128 + y := bits_join .i64 63 (by decide) wraps_i64 7 128 y (by decide) (by decide) (by decide) h₀ (by omega) (by omega)
set_option maxRecDepth 20000 in
theorem i64_and63 (x : Int) (h₀ : 0 ≤ x) (h₁ : x < 2000000) : bits .and .i64 x 63 = x % 64 := bits_mask .i64 63 (by decide) wraps_i64 6 (by decide) x h₀ (by omega)

set_option maxRecDepth 20000 in
theorem may_as (r : Int) (v : Bool) (w : World) (h : mayB r = v) : Calls Tryz.prog 139 #[.int .i64 r] w fun e w' => e = .returned (.bool v) ∧ w' = w := by subst h; exact may_any r w

set_option maxRecDepth 20000 in
theorem val_enc (r : Int) (h : Utf8.valid r = true) (c : Nat) (hc : r = (c : Int)) : Utf8.encode r = if c < 0x80 then ⟨#[UInt8.ofNat c]⟩ else if c < 0x800 then ⟨#[UInt8.ofNat (0xC0 + c / 64), UInt8.ofNat (0x80 + c % 64)]⟩
    else if c < 0x10000 then ⟨#[UInt8.ofNat (0xE0 + c / 4096), UInt8.ofNat (0x80 + c / 64 % 64), UInt8.ofNat (0x80 + c % 64)]⟩ else ⟨#[UInt8.ofNat (0xF0 + c / 262144), UInt8.ofNat (0x80 + c / 4096 % 64), UInt8.ofNat (0x80 + c / 64 % 64), UInt8.ofNat (0x80 + c % 64)]⟩ := by
  subst hc
  unfold Utf8.encode
  simp only [h, if_true, Int.toNat_natCast]

set_option maxHeartbeats 1000000 in
set_option maxRecDepth 20000 in
theorem renc_ok (r : Int) (w : World) (h0 : 0 ≤ r) (h1 : r ≤ 1114111) (h2 : r < 55296 ∨ 57343 < r) :
    Calls Tryz.prog 106 #[.int .i64 r] w fun e w' => e = .returned (.string (Utf8.encode r)) ∧ Below w.heap.size w w' := by
  have hm : mayB r = true := (may_iff r).2 ⟨h0, h1, h2⟩
  have hv : Utf8.valid r = true := by unfold Utf8.valid; simp; omega
  obtain ⟨c, hc⟩ := Int.eq_ofNat_of_zero_le h0
  have he := val_enc r hv c hc
  have HE : Hid (Utf8.encode r = _) := he
  clear he hv h2
  by_cases c1 : r < 128
  · have hconv := conv_new w [r] 1 #[.int .u8 r] rfl rfl (Utf8.encode r) (by rw [HE.out, if_pos (by omega), hc]; rfl)
    clear hc HE
    go_enter Tryz.func106, Tryz.ntmps106
    go_wp2_with (go_at_call 139; refine (may_as _ true _ hm).mono ?_; rintro e w' ⟨rfl, rfl⟩)
    go_ret
    exact ⟨rfl, (Below.refl _ _).alloc (Nat.le_refl _) _⟩
  · by_cases c2 : r < 2048
    · have b1 := i64_or192 (r / 64) (by omega) (by omega)
      have b2 := i64_and63 r (by omega) (by omega)
      have b3 := i64_or128 (r % 64) (by omega) (by omega)
      have b4 : (192 + r / 64) % 256 = 192 + r / 64 := by omega
      have b5 : (128 + r % 64) % 256 = 128 + r % 64 := by omega
      have hconv := conv_new w [192 + r / 64, 128 + r % 64] 2 #[.int .u8 (192 + r / 64), .int .u8 (128 + r % 64)] rfl rfl (Utf8.encode r) (by rw [HE.out, if_neg (by omega), if_pos (by omega), hc]; rfl)
      clear hc HE
      go_enter Tryz.func106, Tryz.ntmps106
      go_wp2_with (go_at_call 139; refine (may_as _ true _ hm).mono ?_; rintro e w' ⟨rfl, rfl⟩)
      go_ret
      exact ⟨rfl, (Below.refl _ _).alloc (Nat.le_refl _) _⟩
    · by_cases c3 : r < 65536
      · have b1 := i64_or224 (r / 4096) (by omega) (by omega)
        have b2 := i64_and63 r (by omega) (by omega)
        have b3 := i64_or128 (r % 64) (by omega) (by omega)
        have b4 : (224 + r / 4096) % 256 = 224 + r / 4096 := by omega
        have b5 : (128 + r % 64) % 256 = 128 + r % 64 := by omega
        have b6 := i64_and63 (r / 64) (by omega) (by omega)
        have b7 := i64_or128 (r / 64 % 64) (by omega) (by omega)
        have b8 : (128 + r / 64 % 64) % 256 = 128 + r / 64 % 64 := by omega
        have hconv := conv_new w [224 + r / 4096, 128 + r / 64 % 64, 128 + r % 64] 3 #[.int .u8 (224 + r / 4096), .int .u8 (128 + r / 64 % 64), .int .u8 (128 + r % 64)] rfl rfl (Utf8.encode r) (by rw [HE.out, if_neg (by omega), if_neg (by omega), if_pos (by omega), hc]; rfl)
        clear hc HE
        go_enter Tryz.func106, Tryz.ntmps106
        go_wp2_with (go_at_call 139; refine (may_as _ true _ hm).mono ?_; rintro e w' ⟨rfl, rfl⟩)
        go_ret
        exact ⟨rfl, (Below.refl _ _).alloc (Nat.le_refl _) _⟩
      · have b1 := i64_or240 (r / 262144) (by omega) (by omega)
        have b2 := i64_and63 r (by omega) (by omega)
        have b3 := i64_or128 (r % 64) (by omega) (by omega)
        have b4 : (240 + r / 262144) % 256 = 240 + r / 262144 := by omega
        have b5 : (128 + r % 64) % 256 = 128 + r % 64 := by omega
        have b6 := i64_and63 (r / 64) (by omega) (by omega)
        have b7 := i64_or128 (r / 64 % 64) (by omega) (by omega)
        have b8 : (128 + r / 64 % 64) % 256 = 128 + r / 64 % 64 := by omega
        have b9 := i64_and63 (r / 4096) (by omega) (by omega)
        have b10 := i64_or128 (r / 4096 % 64) (by omega) (by omega)
        have b11 : (128 + r / 4096 % 64) % 256 = 128 + r / 4096 % 64 := by omega
        have hconv := conv_new w [240 + r / 262144, 128 + r / 4096 % 64, 128 + r / 64 % 64, 128 + r % 64] 4 #[.int .u8 (240 + r / 262144), .int .u8 (128 + r / 4096 % 64), .int .u8 (128 + r / 64 % 64), .int .u8 (128 + r % 64)] rfl rfl (Utf8.encode r) (by rw [HE.out, if_neg (by omega), if_neg (by omega), if_neg (by omega), hc]; rfl)
        clear hc HE
        go_enter Tryz.func106, Tryz.ntmps106
        go_wp2_with (go_at_call 139; refine (may_as _ true _ hm).mono ?_; rintro e w' ⟨rfl, rfl⟩)
        go_ret
        exact ⟨rfl, (Below.refl _ _).alloc (Nat.le_refl _) _⟩

set_option maxHeartbeats 1000000 in
set_option maxRecDepth 20000 in
theorem renc_no (r : Int) (w : World) (hm : mayB r = false) :
    Calls Tryz.prog 106 #[.int .i64 r] w fun e w' => e = .returned (.string (Utf8.encode 65533)) ∧ Below w.heap.size w w' := by
  have b1 : bits .or .i64 224 15 = 239 := by decide +kernel
  have b2 : bits .and .i64 65533 63 = 61 := by decide +kernel
  have b3 : bits .or .i64 128 61 = 189 := by decide +kernel
  have b4 : bits .and .i64 1023 63 = 63 := by decide +kernel
  have b5 : bits .or .i64 128 63 = 191 := by decide +kernel
  have hconv := conv_new w [239, 191, 189] 3 #[.int .u8 239, .int .u8 191, .int .u8 189] rfl rfl (Utf8.encode 65533) (by decide +kernel)
  go_enter Tryz.func106, Tryz.ntmps106
  go_wp2_with (go_at_call 139; refine (may_as _ false _ hm).mono ?_; rintro e w' ⟨rfl, rfl⟩)
  go_ret
  exact ⟨rfl, (Below.refl _ _).alloc (Nat.le_refl _) _⟩

set_option maxRecDepth 20000 in
theorem renc_any (r : Int) (w : World) : Calls Tryz.prog 106 #[.int .i64 r] w fun e w' => e = .returned (.string (Utf8.encode (chr r))) ∧ Below w.heap.size w w' := by
  unfold chr
  by_cases h : mayB r = true
  · rw [if_pos h]
    obtain ⟨h0, h1, h2⟩ := (may_iff r).1 h
    exact renc_ok r w h0 h1 h2
  · rw [if_neg h]
    exact renc_no r w (by simpa using h)
set_option maxHeartbeats 1000000 in
set_option maxRecDepth 20000 in
theorem char_any (r : Int) (w : World) : Calls Tryz.prog 91 #[.int .i64 r] w fun e w' => e = .returned (.int .i32 (chr r)) ∧ w' = w := by
  by_cases h : 0 ≤ r ∧ r ≤ 1114111 ∧ (r < 55296 ∨ 57343 < r)
  · have hc : Hid (chr r = r) := by show chr r = r; unfold chr; rw [if_pos ((may_iff r).2 h)]
    obtain ⟨h0, h1, h2⟩ := h
    rcases h2 with h2 | h2
    · go_enter Tryz.func91, Tryz.ntmps91
      go_wp2
      go_ret
      exact ⟨ret_i32 hc.out.symm, rfl⟩
    · go_enter Tryz.func91, Tryz.ntmps91
      go_wp2
      go_ret
      exact ⟨ret_i32 hc.out.symm, rfl⟩
  · have hc : Hid (chr r = 65533) := by show chr r = 65533; unfold chr; rw [if_neg (fun c => h ((may_iff r).1 c))]
    have h3 : r < 0 ∨ 1114111 < r ∨ (55296 ≤ r ∧ r ≤ 57343) := by omega
    clear h
    rcases h3 with h3 | h3 | ⟨h3, h4⟩
    all_goals
      go_enter Tryz.func91, Tryz.ntmps91
      go_wp2
      go_ret
      exact ⟨ret_i32 hc.out.symm, rfl⟩

end Go.Proofs.YtjjfalbngcbfaaaGreatDoor.G9

/- attrs.Get. -/
namespace Go.Proofs.YtjjfalbngcbfaaaGreatDoor.G9
open Go.RowKit

def getP (L : List At) (k : Path) : Option At := L.find? fun x => decide (x.nm = k)
/-- Function g with the captured box c tells p of each attribute of L, in any world that came of w0, and leaves what was there. -/
def Fits (w0 : World) (g c : Nat) (p : At → Bool) (L : List At) : Prop :=
  ∀ W, Below w0.heap.size w0 W → ∀ nm vl : ByteArray, At.mk nm vl ∈ L → Calls Tryz.prog g #[.agg #[.string nm, .string vl], .pointer (some ⟨c, 0, none⟩)] W fun e w' => e = .returned (.bool (p ⟨nm, vl⟩)) ∧ Below W.heap.size W w'

def gv : Option At → ByteArray
  | some x => x.v
  | none => ⟨#[]⟩
def gn : Option At → ByteArray
  | some x => x.n
  | none => ⟨#[]⟩

set_option maxRecDepth 20000 in
theorem load49 {w : World} {R : Nat} {a b : ByteArray} (h1 : w.cell? ⟨R, 0, none⟩ = some (.string a)) (h2 : w.cell? ⟨R, 1, none⟩ = some (.string b)) : (loadVar 49 ⟨R, 0, none⟩).run Tryz.prog w = .ok (.agg #[.string a, .string b]) w := by
  have a24 := Tryz.isAgg49
  have z24 := Tryz.sizeOf49
  go_simp

set_option maxRecDepth 20000 in
theorem results_first {tmps : Array Value} {w : World} {R : Nat} {a b : ByteArray} {r : Bool} (hp : tmps.getD 4 undef = .pointer (some ⟨R, 0, none⟩)) (hr : tmps.getD 5 undef = .bool r)
    (h1 : w.cell? ⟨R, 0, none⟩ = some (.string a)) (h2 : w.cell? ⟨R, 1, none⟩ = some (.string b)) : (results Tryz.f188 tmps).run Tryz.prog w = .ok (.tuple #[.agg #[.string a, .string b], .bool r]) w := by
  have hp' : tmps[4]?.getD undef = .pointer (some ⟨R, 0, none⟩) := by simpa using hp
  have hr' : tmps[5]?.getD undef = .bool r := by simpa using hr
  simp [results, hp', hr', asAddr, load49 h1 h2]

set_option maxRecDepth 20000 in
theorem two_set {wr : World} {R : Nat} {x y : Value} (a b : Value) (h0 : wr.cell? ⟨R, 0, none⟩ = some x) (h1 : wr.cell? ⟨R, 1, none⟩ = some y) :
    ((wr.setCell ⟨R, 0, none⟩ a).setCell ⟨R, 1, none⟩ b).cell? ⟨R, 0, none⟩ = some a ∧ ((wr.setCell ⟨R, 0, none⟩ a).setCell ⟨R, 1, none⟩ b).cell? ⟨R, 1, none⟩ = some b := by
  constructor
  · rw [World.cell?_setCell_other _ _ _ _ (by simp)]
    exact World.cell?_setCell_same _ _ _ h0
  · exact World.cell?_setCell_same _ _ _ ((World.cell?_setCell_other _ _ _ _ (by simp)).trans h1)

set_option maxRecDepth 20000 in
theorem find_drop {L : List At} {i : Nat} {x : At} {p : At → Bool} (h : L[i]? = some x) : (L.drop i).find? p = if p x = true then some x else (L.drop (i + 1)).find? p := by
  rw [drop_at h, List.find?_cons]
  cases p x <;> simp

set_option maxHeartbeats 2000000 in
set_option maxRecDepth 20000 in
theorem first_any {w : World} {ao : Option Addr} {L : List At} (n cap g c : Nat) (p : At → Bool) (eg : ∀ args w, (callFunc g args).run Tryz.prog w = .ok (.enter g args) w) (hf : Fits w g c p L) (ha : AtRow w ao L) (hn : L.length = n) (hn2 : n ≤ 100000) :
    Calls Tryz.prog 188 #[.slice ao n cap, .func (.func g) #[] #[.pointer (some ⟨c, 0, none⟩)]] w fun e w' => e = .returned (.tuple #[.agg #[.string (gn (L.find? p)), .string (gv (L.find? p))], .bool (L.find? p).isSome]) ∧ Below w.heap.size w w' := by
  obtain ⟨r, hr0⟩ : ∃ r, L.find? p = r := ⟨_, rfl⟩
  rw [hr0]
  have HA : Hid (AtRow w ao L ∧ L.length = n ∧ (L.drop 0).find? p = r ∧ Fits w g c p L) := ⟨ha, hn, hr0, hf⟩
  clear ha hn hr0 hf
  go_enter Tryz.func188, Tryz.ntmps188
  go_wp2_with fail
  obtain ⟨W, hW⟩ : ∃ W, w.alloc (.cells #[.string ⟨#[]⟩, .string ⟨#[]⟩] 49) = W := ⟨_, rfl⟩
  have hbW : Below w.heap.size w W := by rw [← hW]; exact (Below.refl _ _).alloc (Nat.le_refl _) _
  have hnew : W.heap[w.heap.size]? = some (.cells #[.string ⟨#[]⟩, .string ⟨#[]⟩] 49 (0, 0)) := by rw [← hW]; exact heap_alloc_new _ _
  have HW : Hid (Below w.heap.size w W ∧ W.heap[w.heap.size]? = some (.cells #[.string ⟨#[]⟩, .string ⟨#[]⟩] 49 (0, 0))) := ⟨hbW, hnew⟩
  rw [hW]
  clear hW hnew hbW
  go_loopg [11] n (fun g2 iv wr => ∃ i : Nat, iv = .int .i64 i ∧ i + g2 = n ∧ (L.drop i).find? p = r ∧ Below W.heap.size W wr)
  case atStart => exact ⟨0, rfl, by omega, HA.out.2.2.1, Below.refl _ _⟩
  case round =>
    obtain ⟨i, rfl, hig, hgi, hbe⟩ := hrel
    have HG : Hid ((L.drop i).find? p = r ∧ Below W.heap.size W wr) := ⟨hgi, hbe⟩
    have hRl : w.heap.size < W.heap.size := (Array.getElem?_eq_some_iff.1 HW.out.2).1
    have hRr : wr.heap[w.heap.size]? = some (.cells #[.string ⟨#[]⟩, .string ⟨#[]⟩] 49 (0, 0)) := (hbe.block _ hRl).trans HW.out.2
    have HB : Hid (Below w.heap.size w wr) := HW.out.1.trans (hbe.mono HW.out.1.size)
    have q0 : wr.cell? ⟨w.heap.size, 0, none⟩ = some (.string ⟨#[]⟩) := by simp [World.cell?, hRr]
    have q1 : wr.cell? ⟨w.heap.size, 1, none⟩ = some (.string ⟨#[]⟩) := by simp [World.cell?, hRr]
    have f0 : wr.frozen? ⟨w.heap.size, 0, none⟩ = false := by simp [World.frozen?, hRr]
    have f1 : wr.frozen? ⟨w.heap.size, 1, none⟩ = false := by simp [World.frozen?, hRr]
    have hRw : w.heap.size < wr.heap.size := (Array.getElem?_eq_some_iff.1 hRr).1
    clear hgi hbe hRr hRl
    cases gk with
    | zero =>
      obtain rfl : i = n := by omega
      have hg0 : decide ((i : Int) < (i : Int)) = false := decide_eq_false (by omega)
      go_wp2_with fail
      have e : r = none := by
        have h := HG.out.1
        rw [List.drop_of_length_le (by rw [HA.out.2.1]; exact Nat.le_refl _)] at h
        exact h.symm
      subst e
      obtain ⟨z0, z1⟩ := two_set (.string ⟨#[]⟩) (.string ⟨#[]⟩) q0 q1
      have hb2 : Below w.heap.size w ((wr.setCell ⟨w.heap.size, 0, none⟩ (.string ⟨#[]⟩)).setCell ⟨w.heap.size, 1, none⟩ (.string ⟨#[]⟩)) := (HB.out.setCell (Nat.le_refl _) _).setCell (Nat.le_refl _) _
      have hbl : w.heap.size < ((wr.setCell ⟨w.heap.size, 0, none⟩ (.string ⟨#[]⟩)).setCell ⟨w.heap.size, 1, none⟩ (.string ⟨#[]⟩)).heap.size := by simpa using hRw
      generalize (wr.setCell ⟨w.heap.size, 0, none⟩ (.string ⟨#[]⟩)).setCell ⟨w.heap.size, 1, none⟩ (.string ⟨#[]⟩) = X at z0 z1 hb2 hbl ⊢
      have ba : Below X.heap.size X (X.alloc (.cells #[.string ⟨#[]⟩, .string ⟨#[]⟩] 49)) := (Below.refl _ _).alloc (Nat.le_refl _) _
      exact bodyPost_ret (results_first rfl rfl ((ba.cell (p := ⟨w.heap.size, 0, none⟩) hbl).trans z0) ((ba.cell (p := ⟨w.heap.size, 1, none⟩) hbl).trans z1)) rfl ⟨rfl, hb2.trans (ba.mono (Nat.le_of_lt hbl))⟩
    | succ k =>
      have hin : i < n := by omega
      obtain ⟨x, hx⟩ : ∃ x, L[i]? = some x := ⟨_, List.getElem?_eq_getElem (by rw [HA.out.2.1]; exact hin)⟩
      obtain ⟨b1, o1, rfl, h1, c1, c2⟩ := (HA.out.1.below HB.out) i x hx
      have HD : Hid ((L.drop i).find? p = if p x = true then some x else (L.drop (i + 1)).find? p) := find_drop hx
      have hmem := List.mem_of_getElem? hx
      clear hx
      obtain ⟨nm, vl⟩ := x
      simp only at c1 c2
      obtain ⟨V, hV⟩ : ∃ V, wr.alloc (.cells #[.string nm, .string vl] 49) = V := ⟨_, rfl⟩
      have bV : Below wr.heap.size wr V := by rw [← hV]; exact (Below.refl _ _).alloc (Nat.le_refl _) _
      have hVn : V.heap[wr.heap.size]? = some (.cells #[.string nm, .string vl] 49 (0, 0)) := by rw [← hV]; exact heap_alloc_new _ _
      have hVl : wr.heap.size < V.heap.size := (Array.getElem?_eq_some_iff.1 hVn).1
      have d0 : V.cell? ⟨wr.heap.size, 0, none⟩ = some (.string nm) := by simp [World.cell?, hVn]
      have d1 : V.cell? ⟨wr.heap.size, 1, none⟩ = some (.string vl) := by simp [World.cell?, hVn]
      go_wp2_with fail
      refine (HA.out.2.2.2 V (HB.out.trans (bV.mono HB.out.size)) nm vl hmem).mono ?_
      rintro e w1 ⟨rfl, q⟩
      clear hV hVn c1 c2 h1
      have d0' := (q.cell (p := ⟨wr.heap.size, 0, none⟩) hVl).trans d0
      have d1' := (q.cell (p := ⟨wr.heap.size, 1, none⟩) hVl).trans d1
      have bw : Below wr.heap.size wr w1 := bV.trans (q.mono (Nat.le_of_lt hVl))
      have q0' := (bw.cell (p := ⟨w.heap.size, 0, none⟩) hRw).trans q0
      have q1' := (bw.cell (p := ⟨w.heap.size, 1, none⟩) hRw).trans q1
      have f0' := (bw.frozen (p := ⟨w.heap.size, 0, none⟩) hRw).trans f0
      have f1' := (bw.frozen (p := ⟨w.heap.size, 1, none⟩) hRw).trans f1
      have hne : w.heap.size ≠ wr.heap.size := Nat.ne_of_lt hRw
      have HB1 : Hid (Below w.heap.size w w1 ∧ Below W.heap.size W w1) := ⟨HB.out.trans (bw.mono HB.out.size), HG.out.2.trans (bw.mono HG.out.2.size)⟩
      have hw1 : w.heap.size < w1.heap.size := Nat.lt_of_lt_of_le hRw bw.size
      clear bw q bV d0 d1 q0 q1 f0 f1 hVl
      obtain ⟨pr, hpr⟩ : ∃ pr, p ⟨nm, vl⟩ = pr := ⟨_, rfl⟩
      have HP : Hid (p ⟨nm, vl⟩ = pr) := hpr
      rw [hpr]
      clear hpr
      cases pr with
      | true =>
        go_wp2_with fail
        have e : r = some ⟨nm, vl⟩ := by
          rw [← HG.out.1, HD.out, if_pos HP.out]
        subst e
        obtain ⟨z0, z1⟩ := two_set (.string nm) (.string vl) q0' q1'
        exact bodyPost_ret (results_first rfl rfl z0 z1) rfl ⟨rfl, (HB1.out.1.setCell (Nat.le_refl _) _).setCell (Nat.le_refl _) _⟩
      | false =>
        have HN : Hid ((L.drop (i + 1)).find? p = r) := by
          have h := HD.out
          rw [if_neg (by rw [HP.out]; exact fun h => by cases h)] at h
          exact h.symm.trans HG.out.1
        go_wp2_with fail
        go_roundg k
        case measure => omega
        case rel => exact ⟨i + 1, by go_num, by omega, HN.out, HB1.out.2⟩

set_option maxRecDepth 20000 in
theorem enters34 : ∀ args w, (callFunc 190 args).run Tryz.prog w = .ok (.enter 190 args) w := enters_of Tryz.func190 (by kernel_rfl) rfl

set_option maxHeartbeats 400000 in
set_option maxRecDepth 20000 in
theorem named_one (W : World) (c : Nat) (s nm vl : ByteArray) (hc : c < W.heap.size) (h0 : W.cell? ⟨c, 0, none⟩ = some (.string s)) :
    Calls Tryz.prog 190 #[.agg #[.string nm, .string vl], .pointer (some ⟨c, 0, none⟩)] W fun e w' => e = .returned (.bool (decide (nm.data.toList = s.data.toList))) ∧ Below W.heap.size W w' := by
  have hb : Below W.heap.size W (W.alloc (.cells #[.string nm, .string vl] 49)) := (Below.refl _ _).alloc (Nat.le_refl _) _
  have HB : Hid (Below W.heap.size W (W.alloc (.cells #[.string nm, .string vl] 49))) := hb
  rw [← beq_bytes]
  clear hb
  go_enter Tryz.func190, Tryz.ntmps190
  go_wp2_with fail
  go_ret
  exact ⟨rfl, HB.out⟩

set_option maxHeartbeats 400000 in
set_option maxRecDepth 20000 in
theorem named_any (w : World) (s : ByteArray) : Calls Tryz.prog 189 #[.string s] w fun e w' => ∃ c, e = .returned (.func (.func 190) #[] #[.pointer (some ⟨c, 0, none⟩)]) ∧ c < w'.heap.size ∧ w'.cell? ⟨c, 0, none⟩ = some (.string s) ∧ Below w.heap.size w w' := by
  obtain ⟨V, hV⟩ : ∃ V, w.alloc (.cells #[.string s] 9) = V := ⟨_, rfl⟩
  have hVn : V.heap[w.heap.size]? = some (.cells #[.string s] 9 (0, 0)) := by rw [← hV]; exact heap_alloc_new _ _
  have HV : Hid (w.heap.size < V.heap.size ∧ V.cell? ⟨w.heap.size, 0, none⟩ = some (.string s) ∧ Below w.heap.size w V) := ⟨(Array.getElem?_eq_some_iff.1 hVn).1, by simp [World.cell?, hVn], by rw [← hV]; exact (Below.refl _ _).alloc (Nat.le_refl _) _⟩
  clear hVn
  go_enter Tryz.func189, Tryz.ntmps189
  go_wp2_with fail
  go_ret
  exact ⟨w.heap.size, rfl, HV.out⟩

set_option maxRecDepth 20000 in
theorem fits_named {w : World} {c : Nat} {s : ByteArray} {L : List At} (hc : c < w.heap.size) (h0 : w.cell? ⟨c, 0, none⟩ = some (.string s)) : Fits w 190 c (fun x => decide (x.nm = s.data.toList)) L := fun W hb nm vl _ =>
  named_one W c s nm vl (Nat.lt_of_lt_of_le hc hb.size) ((hb.cell (p := ⟨c, 0, none⟩) hc).trans h0)

set_option maxHeartbeats 1000000 in
set_option maxRecDepth 20000 in
theorem get_any {w : World} {ao : Option Addr} {L : List At} (n cap : Nat) (s : ByteArray) (ha : AtRow w ao L) (hn : L.length = n) (hn2 : n ≤ 100000) :
    Calls Tryz.prog 186 #[.slice ao n cap, .string s] w fun e w' => e = .returned (.tuple #[.string (gv (getP L s.data.toList)), .bool (getP L s.data.toList).isSome]) ∧ Below w.heap.size w w' := by
  obtain ⟨r, hr⟩ : ∃ r, getP L s.data.toList = r := ⟨_, rfl⟩
  rw [hr]
  have HA : Hid (AtRow w ao L ∧ L.length = n ∧ getP L s.data.toList = r) := ⟨ha, hn, hr⟩
  clear ha hn hr
  go_enter Tryz.func186, Tryz.ntmps186
  go_wp2_with fail
  refine (named_any w s).mono ?_
  rintro e w1 ⟨c, rfl, h1, h2, h3⟩
  have hf := first_any n cap 190 c _ enters34 (fits_named h1 h2) (HA.out.1.below h3) HA.out.2.1 hn2
  change Calls Tryz.prog 188 #[.slice ao n cap, .func (.func 190) #[] #[.pointer (some ⟨c, 0, none⟩)]] w1 (fun e w' => e = .returned (.tuple #[.agg #[.string (gn (getP L s.data.toList)), .string (gv (getP L s.data.toList))], .bool (getP L s.data.toList).isSome]) ∧ Below w1.heap.size w1 w') at hf
  have H1 : Hid (Below w.heap.size w w1) := h3
  clear h1 h2 h3
  rw [HA.out.2.2] at hf
  go_wp2_with fail
  refine hf.mono ?_
  rintro e w2 ⟨rfl, q⟩
  clear hf
  have H2 : Hid (Below w.heap.size w (w2.alloc (.cells #[.string (gn r), .string (gv r)] 49))) := by
    have b := H1.out.trans (q.mono H1.out.size)
    exact b.alloc b.size _
  clear q
  go_wp2_with fail
  go_ret2
  exact ⟨rfl, H2.out⟩
end Go.Proofs.YtjjfalbngcbfaaaGreatDoor.G9
