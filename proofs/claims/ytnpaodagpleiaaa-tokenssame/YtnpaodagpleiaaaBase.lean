/- What the laws' proofs have in common at the margin of the program: tokens and rows of tokens that came in. -/
import Derived.Test.YtnpaodagpleiaaaAwake
import Derived.Test.YtnpaodagpleiaaaSz
import Derived.Test.YtnpaodagpleiaaaRows
import Derived.ProofKit
import Derived.OpenShut
import Derived.ShutString
import Derived.ChangeOld
import Derived.ChangeMaps
import Derived.Lib.SmallJoins
import Derived.ChangeSame
import Derived.SizedLaws
namespace Go.Proofs.Ytnpaodagpleiaaa
open Go.ChangeShapes Go.WideShapes Go.ChangeAt Go.RowKit Go.Joins

theorem own : ownKnob Try.prog.godebug = none := by kernel_rfl
theorem laidOut : laidOutB Try.prog = true := by kernel_rfl
theorem cells40 : Try.prog.cellsOf 40 = 2 := by kernel_rfl
theorem cells24 : Try.prog.cellsOf 24 = 2 := by kernel_rfl
theorem cells26 : Try.prog.cellsOf 26 = 8 := by kernel_rfl
theorem cells22 : Try.prog.cellsOf 22 = 1 := by kernel_rfl
theorem cells9 : Try.prog.cellsOf 9 = 1 := by kernel_rfl
theorem cells3 : Try.prog.cellsOf 3 = 1 := by kernel_rfl
theorem cells4 : Try.prog.cellsOf 4 = 1 := by kernel_rfl
theorem bytes40 : Try.prog.bytesOf 40 = 32 := by kernel_rfl
theorem bytes26 : Try.prog.bytesOf 26 = 96 := by kernel_rfl

abbrev atD {H : Type} (r : At) : DataW H := .agg [.lit (.string r.n.data.toList), .lit (.string r.v.data.toList)]

theorem at_cells {H : Type} {enc : TypeId × Value → H} {W : World} {n : Nat} {cs : List Value} {x : DataW H × List MemPlace} (h : DataW.trod enc Try.prog W 0 (fun _ => true) true n 40 cs = some x) :
    ∃ r : At, cs = [.string r.n, .string r.v] ∧ x.1 = atD r := by
  obtain ⟨y0, y1, m, hx, hl, h0, h1⟩ := trod_struct2 Try.underlying40 h
  rw [cells40] at hl
  obtain ⟨c0, c1, rfl⟩ : ∃ c0 c1, cs = [c0, c1] := by
    match cs, hl with
    | [c0, c1], _ => exact ⟨c0, c1, rfl⟩
  simp only [cells9] at h0 h1
  obtain ⟨s, e0, f0, s0⟩ := DataW.trod_string Try.underlying9 h0
  obtain ⟨a, e1, f1, s1⟩ := DataW.trod_string Try.underlying9 h1
  simp at e0 e1
  subst e0 e1 f0 f1 hx
  exact ⟨⟨s, a⟩, rfl, rfl⟩

/-- The reading of a slice of attributes. -/
def AtsD {H : Type} (d : DataW H) (L : List At) : Prop := (L = [] ∧ d = .nil) ∨ ∃ sp, d = .slice (L.map atD) sp

theorem open_attrs {H : Type} {enc : TypeId × Value → H} {W : World} {n : Nat} {v : Value} {x : DataW H × List MemPlace} (h : DataW.trod enc Try.prog W 0 (fun _ => true) true n 22 [v] = some x) :
    ∃ lo len cap, v = .slice lo len cap ∧ ∃ L : List At, L.length = len ∧ AtRow W lo L ∧ len ≤ cap ∧ cap ≤ maxLen ∧ AtsD x.1 L := by
  rcases Go.Deep.open_slice Try.underlying22 h with ⟨h0, hx0⟩ | ⟨a, len, cap, m, k, D, Pl, hcs, _, hl, hm, hmm, hxe, hx⟩
  · simp only [List.cons.injEq, and_true] at h0
    subst h0
    exact ⟨none, 0, 0, rfl, [], rfl, AtRow.nil _ _, Nat.le_refl _, Nat.zero_le _, .inl ⟨rfl, by rw [hx0]⟩⟩
  · simp only [List.cons.injEq, and_true] at hcs
    subst hcs
    rw [if_pos rfl] at hmm
    have each : ∀ i, i < len → ∃ r : At, (W.cell? (a.add (i * 2)) = some (.string r.n) ∧ W.cell? (a.add (i * 2 + 1)) = some (.string r.v)) ∧ D i = atD r := by
      intro i hi
      obtain ⟨cs', h1, h2⟩ := hx i (by omega)
      rw [cells40] at h1
      obtain ⟨_, hlen, hcell⟩ := World.cells?_some h1
      obtain ⟨d, rfl, z1⟩ := at_cells h2
      refine ⟨d, ⟨?_, ?_⟩, z1⟩
      · have := hcell 0 (by omega); rw [Go.Deep.add_add] at this; simpa using this
      · have := hcell 1 (by omega); rw [Go.Deep.add_add] at this; simpa using this
    obtain ⟨f, hf⟩ : ∃ f : Nat → At, ∀ i, i < len → (W.cell? (a.add (i * 2)) = some (.string (f i).n) ∧ W.cell? (a.add (i * 2 + 1)) = some (.string (f i).v)) ∧ D i = atD (f i) := by
      haveI : Inhabited At := ⟨⟨⟨#[]⟩, ⟨#[]⟩⟩⟩
      exact Go.Deep.choose_lt each
    refine ⟨some a, len, cap, rfl, (List.range len).map f, by simp, fun i x hx => ?_, hl, hm, .inr ⟨_, by
      rw [hxe]
      simp only
      congr 1
      rw [List.map_map]
      exact List.map_congr_left fun i hi => (hf i (by simpa using hi)).2⟩⟩
    have hi : i < len := by have := (List.getElem?_eq_some_iff.1 hx).1; simpa using this
    have hfi : f i = x := by
      rw [List.getElem?_map, List.getElem?_range hi] at hx
      simpa using hx
    obtain ⟨⟨g0, g1⟩, _⟩ := hf i hi
    obtain ⟨b, off, spot⟩ := a
    have hspot : spot = none := by
      have := World.cell?_spot (hf 0 (by omega)).1.1
      simpa [Addr.add] using this
    subst hspot
    rw [Addr.add_lit] at g0 g1
    rw [hfi] at g0 g1
    exact ⟨b, off, rfl, World.block_lt_of_cell? W _ g0, g0, by rw [Nat.add_assoc]; exact g1⟩

theorem trod_struct7 {P : Program} {H : Type} {enc : TypeId × Value → H} {w : World} {base : Nat} {spare : Nat → Bool} {held : Bool} {t : TypeId} {f0 f1 f2 f3 f4 f5 f6 : Field} {fuel : Nat} {cs : List Value} {x : DataW H × List MemPlace} (ht : P.underlying t = some (.struct #[f0, f1, f2, f3, f4, f5, f6])) (h : DataW.trod enc P w base spare held fuel t cs = some x) :
    ∃ y0 y1 y2 y3 y4 y5 y6 n, x.1 = .agg [y0.1, y1.1, y2.1, y3.1, y4.1, y5.1, y6.1] ∧ cs.length = P.cellsOf t ∧ DataW.trod enc P w base spare held n f0.type ((cs.drop f0.offset).take (P.cellsOf f0.type)) = some y0 ∧
      DataW.trod enc P w base spare held n f1.type ((cs.drop f1.offset).take (P.cellsOf f1.type)) = some y1 ∧ DataW.trod enc P w base spare held n f2.type ((cs.drop f2.offset).take (P.cellsOf f2.type)) = some y2 ∧
      DataW.trod enc P w base spare held n f3.type ((cs.drop f3.offset).take (P.cellsOf f3.type)) = some y3 ∧ DataW.trod enc P w base spare held n f4.type ((cs.drop f4.offset).take (P.cellsOf f4.type)) = some y4 ∧
      DataW.trod enc P w base spare held n f5.type ((cs.drop f5.offset).take (P.cellsOf f5.type)) = some y5 ∧ DataW.trod enc P w base spare held n f6.type ((cs.drop f6.offset).take (P.cellsOf f6.type)) = some y6 := by
  obtain ⟨xs, n, _, rfl, hl, hlen, hf⟩ := DataW.trod_struct ht h
  match xs, hlen with
  | [y0, y1, y2, y3, y4, y5, y6], _ => exact ⟨y0, y1, y2, y3, y4, y5, y6, n, by simp, hl, by simpa using hf 0 f0 rfl, by simpa using hf 1 f1 rfl, by simpa using hf 2 f2 rfl, by simpa using hf 3 f3 rfl, by simpa using hf 4 f4 rfl, by simpa using hf 5 f5 rfl, by simpa using hf 6 f6 rfl⟩

/-- A token that came in, with its reading. -/
structure TkIn {H : Type} (W : World) (T : Tk) (L : List At) (d : DataW H) : Prop where
  ok : TkOk W T L
  bk : -9223372036854775808 ≤ T.k ∧ T.k ≤ 9223372036854775807
  br : -9223372036854775808 ≤ T.r ∧ T.r ≤ 9223372036854775807
  bf : -9223372036854775808 ≤ T.f ∧ T.f ≤ 9223372036854775807
  bt : -9223372036854775808 ≤ T.t ∧ T.t ≤ 9223372036854775807
  da : ∃ a, d = .agg [.lit (.int .i64 T.k), .lit (.int .i64 T.r), .lit (.string T.nm.data.toList), .lit (.string T.tx.data.toList), a, .lit (.bool T.s), .agg [.lit (.int .i64 T.f), .lit (.int .i64 T.t)]] ∧ AtsD a L

theorem tok_cells {H : Type} {enc : TypeId × Value → H} {W : World} {n : Nat} {cs : List Value} {x : DataW H × List MemPlace} (h : DataW.trod enc Try.prog W 0 (fun _ => true) true n 26 cs = some x) :
    ∃ (T : Tk) (L : List At), cs = T.arr.toList ∧ TkIn W T L x.1 := by
  obtain ⟨y0, y1, y2, y3, y4, y5, y6, m, hx, hl, h0, h1, h2, h3, h4, h5, h6⟩ := trod_struct7 Try.underlying26 h
  rw [cells26] at hl
  obtain ⟨c0, c1, c2, c3, c4, c5, c6, c7, rfl⟩ : ∃ c0 c1 c2 c3 c4 c5 c6 c7, cs = [c0, c1, c2, c3, c4, c5, c6, c7] := by
    match cs, hl with
    | [c0, c1, c2, c3, c4, c5, c6, c7], _ => exact ⟨c0, c1, c2, c3, c4, c5, c6, c7, rfl⟩
  simp only [cells3, cells9, cells22, cells4, cells24] at h0 h1 h2 h3 h4 h5 h6
  simp only [List.drop_zero, List.drop_succ_cons, List.take_succ_cons, List.take_zero] at h0 h1 h2 h3 h4 h5 h6
  obtain ⟨k, e0, g0, w0⟩ := DataW.trod_int Try.underlying3 h0
  obtain ⟨r, e1, g1, w1⟩ := DataW.trod_int Try.underlying3 h1
  obtain ⟨nm, e2, g2, w2⟩ := DataW.trod_string Try.underlying9 h2
  obtain ⟨tx, e3, g3, w3⟩ := DataW.trod_string Try.underlying9 h3
  obtain ⟨ao, n', cap, e4, L, len, row, hc1, hc2, hd⟩ := open_attrs h4
  obtain ⟨s, e5, g5⟩ := DataW.trod_bool Try.underlying4 h5
  obtain ⟨z0, z1, m2, hz, hl6, q0, q1⟩ := trod_struct2 Try.underlying24 h6
  simp only [cells3] at q0 q1
  simp only [List.drop_zero, List.drop_succ_cons, List.take_succ_cons, List.take_zero] at q0 q1
  obtain ⟨f, e6, g6, w6⟩ := DataW.trod_int Try.underlying3 q0
  obtain ⟨t, e7, g7, w7⟩ := DataW.trod_int Try.underlying3 q1
  simp only [List.cons.injEq, and_true] at e0 e1 e2 e3 e5 e6 e7
  subst e0 e1 e2 e3 e4 e5 e6 e7 g0 g1 g2 g3 g5 g6 g7 hz
  refine ⟨⟨k, r, nm, tx, ao, n', cap, s, f, t⟩, L, rfl, ⟨⟨len, row, ?_⟩, bounds_i64 w0, bounds_i64 w1, bounds_i64 w6, bounds_i64 w7, ⟨y4.1, hx, hd⟩⟩⟩
  have : maxLen = 9223372036854775807 := by unfold maxLen; omega
  show n' ≤ _
  omega

theorem open_tok {H : Type} {enc : TypeId × Value → H} {W : World} {base : Nat} {v : Value} {d : DataW H} {p : List MemPlace} (hv : Value.okWide Try.prog W .any base 26 v) (h : DataW.Trod enc Try.prog W 0 (fun _ => true) true 26 v d p) :
    ∃ (T : Tk) (L : List At), v = T.val ∧ TkIn W T L d := by
  obtain ⟨cs, rfl, hsz⟩ := okWide_struct Try.underlying26 hv
  obtain ⟨fuel, hf⟩ := h
  obtain ⟨T, L, he, hT⟩ := tok_cells (by simpa [Value.cells] using hf)
  refine ⟨T, L, ?_, hT⟩
  have : cs = T.arr := by
    apply Array.toList_inj.1
    simpa [Value.cells] using he
  rw [this]

/-- A row of tokens that came in. -/
structure Toks (W : World) (lo : Option Addr) (len cap : Nat) (l : List TL) : Prop where
  hlen : l.length = len
  row : TkRow W lo l
  hcap : len ≤ cap
  hmax : cap ≤ maxLen

theorem open_toks {H : Type} {enc : TypeId × Value → H} {W : World} {n : Nat} {lo : Option Addr} {len cap : Nat} {x : DataW H × List MemPlace} (h : DataW.trod enc Try.prog W 0 (fun _ => true) true n 32 [.slice lo len cap] = some x) :
    ∃ l : List TL, Toks W lo len cap l ∧ (len = 0 ∨ ∃ es sp, x.1 = .slice es sp ∧ es.length = len) := by
  rcases Go.Deep.open_slice Try.underlying32 h with ⟨h0, _⟩ | ⟨a, len', cap', m, k, D, Pl, hcs, _, hl, hm, hmm, hxe, hx⟩
  · simp only [List.cons.injEq, Value.slice.injEq, and_true] at h0
    obtain ⟨_, rfl, rfl⟩ := h0
    exact ⟨[], ⟨rfl, TkRow.nil _ _, Nat.le_refl _, Nat.zero_le _⟩, .inl rfl⟩
  · simp only [List.cons.injEq, Value.slice.injEq, and_true] at hcs
    obtain ⟨rfl, rfl, rfl⟩ := hcs
    rw [if_pos rfl] at hmm
    have each : ∀ i, i < len → ∃ r : TL, (∀ j u, r.1.arr[j]? = some u → W.cell? (a.add (i * 8 + j)) = some u) ∧ TkOk W r.1 r.2 := by
      intro i hi
      obtain ⟨cs', h1, h2⟩ := hx i (by omega)
      rw [cells26] at h1
      obtain ⟨_, hlen, hcell⟩ := World.cells?_some h1
      obtain ⟨T, L, rfl, z1⟩ := tok_cells h2
      refine ⟨(T, L), fun j u hj => ?_, z1.ok⟩
      have hj8 : j < 8 := by have := (Array.getElem?_eq_some_iff.1 hj).1; simpa using this
      have := hcell j hj8
      rw [Go.Deep.add_add] at this
      rw [this]
      rw [← Array.getElem?_toList] at hj
      exact hj
    obtain ⟨f, hf⟩ : ∃ f : Nat → TL, ∀ i, i < len → (∀ j u, (f i).1.arr[j]? = some u → W.cell? (a.add (i * 8 + j)) = some u) ∧ TkOk W (f i).1 (f i).2 := by
      haveI : Inhabited TL := ⟨(exU, [])⟩
      exact Go.Deep.choose_lt each
    refine ⟨(List.range len).map f, ⟨by simp, fun i x hx => ?_, hl, hm⟩, .inr ⟨_, _, by rw [hxe], by simp⟩⟩
    have hi : i < len := by have := (List.getElem?_eq_some_iff.1 hx).1; simpa using this
    have hfi : f i = x := by
      rw [List.getElem?_map, List.getElem?_range hi] at hx
      simpa using hx
    obtain ⟨g0, ok⟩ := hf i hi
    have g00 := (hf 0 (by omega)).1 0 _ rfl
    obtain ⟨b, off, spot⟩ := a
    have hspot : spot = none := by
      have := World.cell?_spot g00
      simpa [Addr.add] using this
    subst hspot
    rw [hfi] at g0 ok
    refine ⟨⟨b, off, rfl, ?_, fun j u hj => ?_⟩, ok⟩
    · have := g0 0 _ rfl
      rw [Addr.add_lit] at this
      exact World.block_lt_of_cell? W _ this
    · have := g0 j u hj
      rw [Addr.add_lit, ← Nat.add_assoc] at this
      exact this

/-- A row that came in is no longer than the form's reach. -/
theorem toks_bound {H : Type} {ts : List TypeId} {ds : List (DataW H)} (hz : (DataW.weightsEach Try.prog ts ds).all (· ≤ reachBytes) = true) {j len : Nat} {d : DataW H}
    (ht : ts[j]? = some 32) (hd : ds[j]? = some d) (h : len = 0 ∨ ∃ es sp, d = .slice es sp ∧ es.length = len) : len ≤ 2000000000000 := by
  rcases h with rfl | ⟨es, sp, rfl, rfl⟩
  · omega
  · have h1 := sized_slice hz ht hd Try.underlying32
    rw [bytes26] at h1
    have h5 : reachBytes = 140737488351232 := by decide
    omega

/-- A token's attributes are no more than the form's reach. -/
theorem tok_bound {H : Type} {ts : List TypeId} {ds : List (DataW H)} (hz : (DataW.weightsEach Try.prog ts ds).all (· ≤ reachBytes) = true) {j : Nat} {W : World} {T : Tk} {L : List At} {d : DataW H}
    (ht : ts[j]? = some 26) (hd : ds[j]? = some d) (h : TkIn W T L d) : L.length ≤ 4398046511000 := by
  obtain ⟨a, rfl, ha⟩ := h.da
  rcases ha with ⟨rfl, _⟩ | ⟨sp, rfl⟩
  · simp
  · have h1 : ((L.map (atD (H := H))).length + sp.length) * 32 ∈ (DataW.agg [.lit (.int .i64 T.k), .lit (.int .i64 T.r), .lit (.string T.nm.data.toList), .lit (.string T.tx.data.toList), .slice (L.map atD) sp, .lit (.bool T.s), .agg [.lit (.int .i64 T.f), .lit (.int .i64 T.t)]] : DataW H).weights Try.prog 26 := by
      rw [← bytes40]
      simp [DataW.weights, Try.underlying26, Try.underlying22, DataW.weightsEach]
    have h2 := List.all_eq_true.1 hz _ (DataW.weights_mem_each ht hd _ h1)
    have h4 := of_decide_eq_true h2
    have h5 : reachBytes = 140737488351232 := by decide
    rw [List.length_map] at h4
    omega
end Go.Proofs.Ytnpaodagpleiaaa
