/- What comes in at the margin of the program: attributes, deeds, rows of deeds. -/
import Derived.Test.YtcdaghlbfclpkaaBe
import Derived.Test.YtcdaghlbfclpkaaRows
import Derived.ProofKit
import Derived.OpenShut
import Derived.ShutString
import Derived.ChangeOld
import Derived.ChangeMaps
import Derived.Lib.SmallJoins
import Derived.ChangeSame
import Derived.SizedLaws
namespace Go.Proofs.Ytcdaghlbfclpkaa
open Go.ChangeShapes Go.WideShapes Go.ChangeAt Go.RowKit Go.Joins

theorem own : ownKnob Try.prog.godebug = none := by kernel_rfl
theorem laidOut : laidOutB Try.prog = true := by kernel_rfl
theorem cells53 : Try.prog.cellsOf 53 = 2 := by kernel_rfl
theorem cells32 : Try.prog.cellsOf 32 = 2 := by kernel_rfl
theorem cells35 : Try.prog.cellsOf 35 = 11 := by kernel_rfl
theorem cells37 : Try.prog.cellsOf 37 = 15 := by kernel_rfl
theorem cells30 : Try.prog.cellsOf 30 = 1 := by kernel_rfl
theorem cells33 : Try.prog.cellsOf 33 = 1 := by kernel_rfl
theorem cells9 : Try.prog.cellsOf 9 = 1 := by kernel_rfl
theorem cells3 : Try.prog.cellsOf 3 = 1 := by kernel_rfl
theorem bytes53 : Try.prog.bytesOf 53 = 32 := by kernel_rfl

abbrev atD {H : Type} (r : At) : DataW H := .agg [.lit (.string r.n.data.toList), .lit (.string r.v.data.toList)]
theorem at_cells {H : Type} {enc : TypeId × Value → H} {W : World} {n : Nat} {cs : List Value} {x : DataW H × List MemPlace} (h : DataW.trod enc Try.prog W 0 (fun _ => true) true n 53 cs = some x) :
    ∃ r : At, cs = [.string r.n, .string r.v] ∧ x.1 = atD r := by
  obtain ⟨y0, y1, m, hx, hl, h0, h1⟩ := trod_struct2 Try.underlying53 h
  rw [cells53] at hl
  obtain ⟨c0, c1, rfl⟩ : ∃ c0 c1, cs = [c0, c1] := by
    match cs, hl with
    | [c0, c1], _ => exact ⟨c0, c1, rfl⟩
  simp only [cells9] at h0 h1
  obtain ⟨s, e0, f0, s0⟩ := DataW.trod_string Try.underlying9 h0
  obtain ⟨a, e1, f1, s1⟩ := DataW.trod_string Try.underlying9 h1
  simp at e0 e1
  subst e0 e1 f0 f1 hx
  exact ⟨⟨s, a⟩, rfl, rfl⟩
/-- The reading of a slice of attributes. -/
def AtsD {H : Type} (d : DataW H) (L : List At) : Prop := (L = [] ∧ d = .nil) ∨ ∃ sp, d = .slice (L.map atD) sp
theorem open_attrs {H : Type} {enc : TypeId × Value → H} {W : World} {n : Nat} {v : Value} {x : DataW H × List MemPlace} (h : DataW.trod enc Try.prog W 0 (fun _ => true) true n 30 [v] = some x) :
    ∃ lo len cap, v = .slice lo len cap ∧ ∃ L : List At, L.length = len ∧ AtRow W lo L ∧ len ≤ cap ∧ cap ≤ maxLen ∧ AtsD x.1 L := by
  rcases Go.Deep.open_slice Try.underlying30 h with ⟨h0, hx0⟩ | ⟨a, len, cap, m, k, D, Pl, hcs, _, hl, hm, hmm, hxe, hx⟩
  · simp only [List.cons.injEq, and_true] at h0
    subst h0
    exact ⟨none, 0, 0, rfl, [], rfl, fun i x hx => by simp at hx, Nat.le_refl _, Nat.zero_le _, .inl ⟨rfl, by rw [hx0]⟩⟩
  · simp only [List.cons.injEq, and_true] at hcs
    subst hcs
    rw [if_pos rfl] at hmm
    have each : ∀ i, i < len → ∃ r : At, (W.cell? (a.add (i * 2)) = some (.string r.n) ∧ W.cell? (a.add (i * 2 + 1)) = some (.string r.v)) ∧ D i = atD r := by
      intro i hi
      obtain ⟨cs', h1, h2⟩ := hx i (by omega)
      rw [cells53] at h1
      obtain ⟨_, hlen, hcell⟩ := World.cells?_some h1
      obtain ⟨d, rfl, z1⟩ := at_cells h2
      refine ⟨d, ⟨?_, ?_⟩, z1⟩
      · have := hcell 0 (by omega); rw [Go.Deep.add_add] at this; simpa using this
      · have := hcell 1 (by omega); rw [Go.Deep.add_add] at this; simpa using this
    obtain ⟨f, hf⟩ : ∃ f : Nat → At, ∀ i, i < len → (W.cell? (a.add (i * 2)) = some (.string (f i).n) ∧ W.cell? (a.add (i * 2 + 1)) = some (.string (f i).v)) ∧ D i = atD (f i) := by
      haveI : Inhabited At := ⟨⟨⟨#[]⟩, ⟨#[]⟩⟩⟩
      exact Go.Deep.choose_lt each
    refine ⟨some a, len, cap, rfl, (List.range len).map f, by simp, fun i x hx => ?_, hl, hm, .inr ⟨_, by
      rw [hxe]
      simp only
      congr 1
      rw [List.map_map]
      exact List.map_congr_left fun i hi => (hf i (by simpa using hi)).2⟩⟩
    have hi : i < len := by have := (List.getElem?_eq_some_iff.1 hx).1; simpa using this
    have hfi : f i = x := by
      rw [List.getElem?_map, List.getElem?_range hi] at hx
      simpa using hx
    obtain ⟨⟨g0, g1⟩, _⟩ := hf i hi
    obtain ⟨b, off, spot⟩ := a
    have hspot : spot = none := by
      have := World.cell?_spot (hf 0 (by omega)).1.1
      simpa [Addr.add] using this
    subst hspot
    rw [Addr.add_lit] at g0 g1
    rw [hfi] at g0 g1
    exact ⟨b, off, rfl, World.block_lt_of_cell? W _ g0, g0, by rw [Nat.add_assoc]; exact g1⟩
theorem trod_struct5 {P : Program} {H : Type} {enc : TypeId × Value → H} {w : World} {base : Nat} {spare : Nat → Bool} {held : Bool} {t : TypeId} {f0 f1 f2 f3 f4 : Field} {fuel : Nat} {cs : List Value} {x : DataW H × List MemPlace} (ht : P.underlying t = some (.struct #[f0, f1, f2, f3, f4])) (h : DataW.trod enc P w base spare held fuel t cs = some x) :
    ∃ y0 y1 y2 y3 y4 n, x.1 = .agg [y0.1, y1.1, y2.1, y3.1, y4.1] ∧ cs.length = P.cellsOf t ∧ DataW.trod enc P w base spare held n f0.type ((cs.drop f0.offset).take (P.cellsOf f0.type)) = some y0 ∧ DataW.trod enc P w base spare held n f1.type ((cs.drop f1.offset).take (P.cellsOf f1.type)) = some y1 ∧ DataW.trod enc P w base spare held n f2.type ((cs.drop f2.offset).take (P.cellsOf f2.type)) = some y2 ∧ DataW.trod enc P w base spare held n f3.type ((cs.drop f3.offset).take (P.cellsOf f3.type)) = some y3 ∧ DataW.trod enc P w base spare held n f4.type ((cs.drop f4.offset).take (P.cellsOf f4.type)) = some y4 := by
  obtain ⟨xs, n, _, rfl, hl, hlen, hf⟩ := DataW.trod_struct ht h
  match xs, hlen with
  | [y0, y1, y2, y3, y4], _ => exact ⟨y0, y1, y2, y3, y4, n, by simp, hl, by simpa using hf 0 f0 rfl, by simpa using hf 1 f1 rfl, by simpa using hf 2 f2 rfl, by simpa using hf 3 f3 rfl, by simpa using hf 4 f4 rfl⟩

theorem trod_struct9 {P : Program} {H : Type} {enc : TypeId × Value → H} {w : World} {base : Nat} {spare : Nat → Bool} {held : Bool} {t : TypeId} {f0 f1 f2 f3 f4 f5 f6 f7 f8 : Field} {fuel : Nat} {cs : List Value} {x : DataW H × List MemPlace} (ht : P.underlying t = some (.struct #[f0, f1, f2, f3, f4, f5, f6, f7, f8])) (h : DataW.trod enc P w base spare held fuel t cs = some x) :
    ∃ y0 y1 y2 y3 y4 y5 y6 y7 y8 n, x.1 = .agg [y0.1, y1.1, y2.1, y3.1, y4.1, y5.1, y6.1, y7.1, y8.1] ∧ cs.length = P.cellsOf t ∧ DataW.trod enc P w base spare held n f0.type ((cs.drop f0.offset).take (P.cellsOf f0.type)) = some y0 ∧ DataW.trod enc P w base spare held n f1.type ((cs.drop f1.offset).take (P.cellsOf f1.type)) = some y1 ∧ DataW.trod enc P w base spare held n f2.type ((cs.drop f2.offset).take (P.cellsOf f2.type)) = some y2 ∧ DataW.trod enc P w base spare held n f3.type ((cs.drop f3.offset).take (P.cellsOf f3.type)) = some y3 ∧ DataW.trod enc P w base spare held n f4.type ((cs.drop f4.offset).take (P.cellsOf f4.type)) = some y4 ∧ DataW.trod enc P w base spare held n f5.type ((cs.drop f5.offset).take (P.cellsOf f5.type)) = some y5 ∧ DataW.trod enc P w base spare held n f6.type ((cs.drop f6.offset).take (P.cellsOf f6.type)) = some y6 ∧ DataW.trod enc P w base spare held n f7.type ((cs.drop f7.offset).take (P.cellsOf f7.type)) = some y7 ∧ DataW.trod enc P w base spare held n f8.type ((cs.drop f8.offset).take (P.cellsOf f8.type)) = some y8 := by
  obtain ⟨xs, n, _, rfl, hl, hlen, hf⟩ := DataW.trod_struct ht h
  match xs, hlen with
  | [y0, y1, y2, y3, y4, y5, y6, y7, y8], _ => exact ⟨y0, y1, y2, y3, y4, y5, y6, y7, y8, n, by simp, hl, by simpa using hf 0 f0 rfl, by simpa using hf 1 f1 rfl, by simpa using hf 2 f2 rfl, by simpa using hf 3 f3 rfl, by simpa using hf 4 f4 rfl, by simpa using hf 5 f5 rfl, by simpa using hf 6 f6 rfl, by simpa using hf 7 f7 rfl, by simpa using hf 8 f8 rfl⟩

/-- A deed: its node's attributes and kids as slices. -/
structure Dd where
  k : Int
  a : Int
  b : Int
  c : Int
  d : Nd
  ao : Option Addr
  ac : Nat
  ko : Option Addr
  kn : Nat
  kc : Nat
abbrev Dd.node (x : Dd) : Array Value := #[iv x.d.id, iv x.d.kind, iv x.d.space, .string x.d.name, .string x.d.text, .slice x.ao x.d.al.length x.ac, iv x.d.sf, iv x.d.st, iv x.d.ef, iv x.d.et, .slice x.ko x.kn x.kc]
abbrev Dd.arr (x : Dd) : Array Value := #[iv x.k, iv x.a, iv x.b, iv x.c, iv x.d.id, iv x.d.kind, iv x.d.space, .string x.d.name, .string x.d.text, .slice x.ao x.d.al.length x.ac, iv x.d.sf, iv x.d.st, iv x.d.ef, iv x.d.et, .slice x.ko x.kn x.kc]
/-- A deed that came in. -/
structure DdIn (W : World) (x : Dd) : Prop where
  at_ : AtRow W x.ao x.d.al
  cap : x.d.al.length ≤ x.ac
  max : x.ac ≤ maxLen
  bk : -9223372036854775808 ≤ x.k ∧ x.k ≤ 9223372036854775807
  ba : -9223372036854775808 ≤ x.a ∧ x.a ≤ 9223372036854775807
  bb : -9223372036854775808 ≤ x.b ∧ x.b ≤ 9223372036854775807
  bc : -9223372036854775808 ≤ x.c ∧ x.c ≤ 9223372036854775807
  kd : -9223372036854775808 ≤ x.d.kind ∧ x.d.kind ≤ 9223372036854775807
theorem slice_cells {H : Type} {enc : TypeId × Value → H} {W : World} {n : Nat} {v : Value} {x : DataW H × List MemPlace} (h : DataW.trod enc Try.prog W 0 (fun _ => true) true n 33 [v] = some x) :
    ∃ lo len cap, v = .slice lo len cap := by
  rcases Go.Deep.open_slice Try.underlying33 h with ⟨h0, _⟩ | ⟨a, len, cap, m, k, D, Pl, hcs, _⟩
  · simp only [List.cons.injEq, and_true] at h0
    exact ⟨none, 0, 0, h0⟩
  · simp only [List.cons.injEq, and_true] at hcs
    exact ⟨_, len, cap, hcs⟩
theorem deed_cells {H : Type} {enc : TypeId × Value → H} {W : World} {n : Nat} {cs : List Value} {x : DataW H × List MemPlace} (h : DataW.trod enc Try.prog W 0 (fun _ => true) true n 37 cs = some x) :
    ∃ T : Dd, cs = T.arr.toList ∧ DdIn W T := by
  obtain ⟨y0, y1, y2, y3, y4, m, hx, hl, h0, h1, h2, h3, h4⟩ := trod_struct5 Try.underlying37 h
  rw [cells37] at hl
  obtain ⟨c0, c1, c2, c3, c4, c5, c6, c7, c8, c9, c10, c11, c12, c13, c14, rfl⟩ : ∃ c0 c1 c2 c3 c4 c5 c6 c7 c8 c9 c10 c11 c12 c13 c14, cs = [c0, c1, c2, c3, c4, c5, c6, c7, c8, c9, c10, c11, c12, c13, c14] := by
    match cs, hl with
    | [c0, c1, c2, c3, c4, c5, c6, c7, c8, c9, c10, c11, c12, c13, c14], _ => exact ⟨c0, c1, c2, c3, c4, c5, c6, c7, c8, c9, c10, c11, c12, c13, c14, rfl⟩
  simp only [cells3, cells35] at h0 h1 h2 h3 h4
  simp only [List.drop_zero, List.drop_succ_cons, List.take_succ_cons, List.take_zero] at h0 h1 h2 h3 h4
  obtain ⟨k, e0, g0, w0⟩ := DataW.trod_int Try.underlying3 h0
  obtain ⟨a, e1, g1, w1⟩ := DataW.trod_int Try.underlying3 h1
  obtain ⟨b, e2, g2, w2⟩ := DataW.trod_int Try.underlying3 h2
  obtain ⟨c, e3, g3, w3⟩ := DataW.trod_int Try.underlying3 h3
  obtain ⟨z0, z1, z2, z3, z4, z5, z6, z7, z8, m2, hz, hl2, q0, q1, q2, q3, q4, q5, q6, q7, q8⟩ := trod_struct9 Try.underlying35 h4
  simp only [cells3, cells9, cells30, cells32, cells33] at q0 q1 q2 q3 q4 q5 q6 q7 q8
  simp only [List.drop_zero, List.drop_succ_cons, List.take_succ_cons, List.take_zero] at q0 q1 q2 q3 q4 q5 q6 q7 q8
  obtain ⟨id, e4, g4, w4⟩ := DataW.trod_int Try.underlying3 q0
  obtain ⟨kd, e5, g5, w5⟩ := DataW.trod_int Try.underlying3 q1
  obtain ⟨sp, e6, g6, w6⟩ := DataW.trod_int Try.underlying3 q2
  obtain ⟨nm, e7, g7, w7⟩ := DataW.trod_string Try.underlying9 q3
  obtain ⟨tx, e8, g8, w8⟩ := DataW.trod_string Try.underlying9 q4
  obtain ⟨ao, n', ac, e9, L, len, row, hc1, hc2, _⟩ := open_attrs q5
  obtain ⟨_, _, m3, _, _, s0, s1⟩ := trod_struct2 Try.underlying32 q6
  obtain ⟨_, _, m4, _, _, t0, t1⟩ := trod_struct2 Try.underlying32 q7
  simp only [cells3] at s0 s1 t0 t1
  simp only [List.drop_zero, List.drop_succ_cons, List.take_succ_cons, List.take_zero] at s0 s1 t0 t1
  obtain ⟨sf, e10, _, w10⟩ := DataW.trod_int Try.underlying3 s0
  obtain ⟨st, e11, _, w11⟩ := DataW.trod_int Try.underlying3 s1
  obtain ⟨ef, e12, _, w12⟩ := DataW.trod_int Try.underlying3 t0
  obtain ⟨et, e13, _, w13⟩ := DataW.trod_int Try.underlying3 t1
  obtain ⟨ko, kn, kc, e14⟩ := slice_cells q8
  simp only [List.cons.injEq, and_true] at e0 e1 e2 e3 e4 e5 e6 e7 e8 e10 e11 e12 e13
  subst len
  subst e0 e1 e2 e3 e4 e5 e6 e7 e8 e9 e10 e11 e12 e13 e14
  exact ⟨⟨k, a, b, c, ⟨id, kd, sp, nm, tx, .slice none 0 0, L, sf, st, ef, et⟩, ao, ac, ko, kn, kc⟩, rfl, ⟨row, hc1, hc2, bounds_i64 w0, bounds_i64 w1, bounds_i64 w2, bounds_i64 w3, bounds_i64 w5⟩⟩
theorem open_deed {H : Type} {enc : TypeId × Value → H} {W : World} {base : Nat} {v : Value} {d : DataW H} {p : List MemPlace} (hv : Value.okWide Try.prog W .any base 37 v) (h : DataW.Trod enc Try.prog W 0 (fun _ => true) true 37 v d p) :
    ∃ T : Dd, v = .agg T.arr ∧ DdIn W T := by
  obtain ⟨cs, rfl, hsz⟩ := okWide_struct Try.underlying37 hv
  obtain ⟨fuel, hf⟩ := h
  obtain ⟨T, he, hT⟩ := deed_cells (by simpa [Value.cells] using hf)
  refine ⟨T, ?_, hT⟩
  have : cs = T.arr := by
    apply Array.toList_inj.1
    simpa [Value.cells] using he
  rw [this]
/-- A row of deeds that came in. -/
structure Dds (W : World) (lo : Option Addr) (len cap : Nat) (l : List Dd) : Prop where
  hlen : l.length = len
  row : ∀ i x, l[i]? = some x → ∃ b off, lo = some ⟨b, off, none⟩ ∧ b < W.heap.size ∧ (∀ j u, x.arr[j]? = some u → W.cell? ⟨b, off + i * 15 + j, none⟩ = some u) ∧ DdIn W x
  hcap : len ≤ cap
  hmax : cap ≤ maxLen
theorem open_deeds {H : Type} {enc : TypeId × Value → H} {W : World} {n : Nat} {lo : Option Addr} {len cap : Nat} {x : DataW H × List MemPlace} (h : DataW.trod enc Try.prog W 0 (fun _ => true) true n 22 [.slice lo len cap] = some x) :
    ∃ l : List Dd, Dds W lo len cap l := by
  rcases Go.Deep.open_slice Try.underlying22 h with ⟨h0, _⟩ | ⟨a, len', cap', m, k, D, Pl, hcs, _, hl, hm, hmm, hxe, hx⟩
  · simp only [List.cons.injEq, Value.slice.injEq, and_true] at h0
    obtain ⟨_, rfl, rfl⟩ := h0
    exact ⟨[], ⟨rfl, fun i x hx => by simp at hx, Nat.le_refl _, Nat.zero_le _⟩⟩
  · simp only [List.cons.injEq, Value.slice.injEq, and_true] at hcs
    obtain ⟨rfl, rfl, rfl⟩ := hcs
    rw [if_pos rfl] at hmm
    have each : ∀ i, i < len → ∃ r : Dd, (∀ j u, r.arr[j]? = some u → W.cell? (a.add (i * 15 + j)) = some u) ∧ DdIn W r := by
      intro i hi
      obtain ⟨cs', h1, h2⟩ := hx i (by omega)
      rw [cells37] at h1
      obtain ⟨_, hlen, hcell⟩ := World.cells?_some h1
      obtain ⟨T, rfl, z1⟩ := deed_cells h2
      refine ⟨T, fun j u hj => ?_, z1⟩
      have hj8 : j < 15 := by have := (Array.getElem?_eq_some_iff.1 hj).1; simpa using this
      have := hcell j hj8
      rw [Go.Deep.add_add] at this
      rw [this]
      rw [← Array.getElem?_toList] at hj
      exact hj
    obtain ⟨f, hf⟩ : ∃ f : Nat → Dd, ∀ i, i < len → (∀ j u, (f i).arr[j]? = some u → W.cell? (a.add (i * 15 + j)) = some u) ∧ DdIn W (f i) := by
      haveI : Inhabited Dd := ⟨⟨0, 0, 0, 0, dpp, none, 0, none, 0, 0⟩⟩
      exact Go.Deep.choose_lt each
    refine ⟨(List.range len).map f, ⟨by simp, fun i x hx => ?_, hl, hm⟩⟩
    have hi : i < len := by have := (List.getElem?_eq_some_iff.1 hx).1; simpa using this
    have hfi : f i = x := by
      rw [List.getElem?_map, List.getElem?_range hi] at hx
      simpa using hx
    obtain ⟨g0, ok⟩ := hf i hi
    have g00 := (hf 0 (by omega)).1 0 _ rfl
    obtain ⟨b, off, spot⟩ := a
    have hspot : spot = none := by
      have := World.cell?_spot g00
      simpa [Addr.add] using this
    subst hspot
    rw [hfi] at g0 ok
    refine ⟨b, off, rfl, ?_, fun j u hj => ?_, ok⟩
    · have := g0 0 _ rfl
      rw [Addr.add_lit] at this
      exact World.block_lt_of_cell? W _ this
    · have := g0 j u hj
      rw [Addr.add_lit, ← Nat.add_assoc] at this
      exact this
end Go.Proofs.Ytcdaghlbfclpkaa
