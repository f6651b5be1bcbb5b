/- The margin of the program; the listed variable holds the program's lists; elements and deeds that came in. -/
import Derived.Test.YtkmghkfdegdikaaDoorAk
import Derived.Test.YtkmghkfdegdikaaDoorRows
import Derived.Test.YtkmghkfdegdikaaDoorCards
import Derived.Test.YtkmghkfdegdikaaDoorTie
import Derived.Lib.LaidTab
import Derived.LaidMore
import Derived.Stop.Joined
import Derived.SevenTiedAt
import Derived.Deep.Slices
import Derived.ChangeMaps5
import Derived.ProofKit
import Derived.OpenShut
import Derived.ShutString
import Derived.ChangeOld
import Derived.ChangeMaps
import Derived.ChangeSame
import Derived.SizedLaws
import Derived.ChangeAt
import Derived.Lib.SmallJoins
namespace Go.Proofs.YtkmghkfdegdikaaDoor
open Go.ChangeShapes Go.WideShapes Go.ChangeAt Go.RowKit Go.Joins
theorem own : ownKnob Tryd.prog.godebug = none := by kernel_rfl
theorem laidOut : laidOutB Tryd.prog = true := by kernel_rfl

abbrev laidL : List (String × DataW Unit) := Rows.stackNoneRow.laid
def hname : String := Rows.stackNoneRow.named.headD ""
theorem gLists : Tryd.prog.globalNamed hname = some 0 := by kernel_rfl
theorem tLists : (Tryd.prog.globals[0]?).map (·.type) = some 80 := by kernel_rfl
theorem c9 : Tryd.prog.cellsOf 9 = 1 := by kernel_rfl
theorem c35 : Tryd.prog.cellsOf 35 = 1 := by kernel_rfl
theorem c80 : Tryd.prog.cellsOf 80 = 11 := by kernel_rfl
/-- The listed datum, in the lists' own words. -/
def datum : DataW Unit := .agg ((List.range 11).map fun k => .slice ((tab k).map fun x => .lit (.string x)) [])
theorem laidL_eq : laidL = [(hname, datum)] := by kernel_rfl

/-- A list that reads as these names. -/
theorem list_of {W : World} {base : Nat} {sp : Nat → Bool} {held : Bool} {fuel : Nat} {cs : List Value} {l : List (List UInt8)} {p : List MemPlace}
    (h : DataW.trod (fun _ => ()) Tryd.prog W base sp held fuel 35 cs = some (.slice (l.map fun x => .lit (.string x)) [], p)) :
    l = [] ∨ ∃ b o cap : Nat, cs = [.slice (some ⟨b, o, none⟩) l.length cap] ∧ ∀ i x, l[i]? = some x → W.cell? ⟨b, o + i, none⟩ = some (.string ⟨x.toArray⟩) := by
  rcases Go.Deep.open_slice1 Tryd.underlying35 c9 h with ⟨_, h0⟩ | ⟨a, len, cap, m, n, V, D, Pl, hcs, _, hl, _, hm, hx, hV⟩
  · exact absurd (congrArg Prod.fst h0) (by simp)
  by_cases hl0 : l = []
  · exact .inl hl0
  right
  have hx1 : DataW.slice (l.map fun x => (DataW.lit (.string x) : DataW Unit)) [] = .slice ((List.range len).map D) ((List.range (m - len)).map fun j => D (len + j)) := congrArg Prod.fst hx
  have hx2 : (l.map fun x => (DataW.lit (.string x) : DataW Unit)) = (List.range len).map D := by injection hx1
  have hlen : l.length = len := by simpa using congrArg List.length hx2
  have hml : len ≤ m := by rw [hm]; split <;> omega
  have each : ∀ i x, l[i]? = some x → W.cell? (a.add i) = some (.string ⟨x.toArray⟩) := by
    intro i x hi
    have hil : i < len := by rw [← hlen]; exact (List.getElem?_eq_some_iff.1 hi).1
    obtain ⟨h1, h2⟩ := hV i (by omega)
    obtain ⟨s, e1, e2, _⟩ := DataW.trod_string Tryd.underlying9 h2
    have e3 := congrArg (·[i]?) hx2
    simp only [List.getElem?_map, hi, List.getElem?_range hil, Option.map_some, Option.some.injEq] at e3
    have e4 : D i = .lit (.string s.data.toList) := congrArg Prod.fst e2
    rw [e4] at e3
    have e5 : x = s.data.toList := by injection e3 with e; injection e
    have e6 : V i = .string s := by simpa using e1
    rw [h1, e6]
    congr 2
    exact bytes_eq (by rw [e5])
  obtain ⟨b, o, spot⟩ := a
  have hspot : spot = none := by
    obtain ⟨x, l', rfl⟩ := List.exists_cons_of_ne_nil hl0
    have := World.cell?_spot (each 0 x rfl)
    simpa [Addr.add] using this
  subst hspot
  refine ⟨b, o, cap, by rw [hcs, hlen], fun i x hi => ?_⟩
  have := each i x hi
  rw [Addr.add_lit] at this
  exact this

theorem tab_some : ∀ k, k < 11 → tab k ≠ [] := by decide +kernel
theorem tb_of_laid {W : World} (h : laidMetH Tryd.prog laidL W) : Tb W := by
  rw [MakeChecks.laidMetH_plain _ _ _ (by kernel_rfl), laidL_eq] at h
  obtain ⟨ps, ⟨g', t', cs, fuel, p, q, hg', ht', hvar, hd, _, _⟩, _⟩ := h
  obtain rfl := Option.some.inj (gLists.symm.trans hg')
  obtain rfl := Option.some.inj (tLists.symm.trans ht')
  intro k hk
  cases fuel with
  | zero => simp [DataW.trod] at hd
  | succ fuel =>
    simp only [DataW.trod, Tryd.underlying80, c35, c80, Nat.mul_one] at hd
    split at hd
    · rename_i hl
      obtain ⟨xs, hm, hx⟩ := Option.map_eq_some_iff.1 hd
      have hxs : xs.map (·.1) = (List.range 11).map fun k => (.slice ((tab k).map fun x => .lit (.string x)) [] : DataW Unit) := by
        have := congrArg Prod.fst hx
        simpa [datum] using this
      obtain ⟨b, hb, hf⟩ := Lib.mapM_at hm k k (by simp [hk])
      have h2 : (xs.map (·.1))[k]? = some b.1 := by simp [hb]
      rw [hxs, List.getElem?_map, List.getElem?_range hk] at h2
      have h3 := Option.some.inj h2
      obtain ⟨b1, b2⟩ := b
      simp only at h3
      subst h3
      rcases list_of hf with h0 | ⟨blk, o, cap, hcs, hrow⟩
      · exact absurd h0 (tab_some k hk)
      · refine ⟨blk, o, cap, ?_, hrow⟩
        have h1 : cs.toList[k]? = some (.slice (some ⟨blk, o, none⟩) (tab k).length cap) := by
          have := congrArg (·[0]?) hcs
          simpa [List.getElem?_take, List.getElem?_drop] using this
        have h4 := World.var?_cell gLists hvar k
        rw [h4]
        simpa using h1
    · cases hd
theorem door_met (os : Os) (args : Array Value) : laidMetH Tryd.prog laidL ((World.doorLaid Tryd.prog 25 os).forCall (fun _ _ => 0) ⟨#[], args, []⟩).memory :=
  laidMetH_of_parts3 (fuel := 8) (laidMet_of_run' 8 (by kernel_rfl) (by kernel_rfl)) (by kernel_rfl) (by kernel_rfl)
theorem i64_of_wf {n : Int} (h : (Lit.int .i64 n).wf = true) : -9223372036854775808 ≤ n ∧ n ≤ 9223372036854775807 := by
  simp [Lit.wf, IntKind.min, IntKind.max, IntKind.signed, IntKind.bits] at h
  omega

theorem cells71 : Tryd.prog.cellsOf 71 = 2 := by kernel_rfl
theorem cells34 : Tryd.prog.cellsOf 34 = 4 := by kernel_rfl
theorem cells37 : Tryd.prog.cellsOf 37 = 8 := by kernel_rfl
theorem cells32 : Tryd.prog.cellsOf 32 = 1 := by kernel_rfl
theorem cells35 : Tryd.prog.cellsOf 35 = 1 := by kernel_rfl
theorem cells9 : Tryd.prog.cellsOf 9 = 1 := by kernel_rfl
theorem cells3 : Tryd.prog.cellsOf 3 = 1 := by kernel_rfl
theorem bytes71 : Tryd.prog.bytesOf 71 = 32 := by kernel_rfl
abbrev atD {H : Type} (r : At) : DataW H := .agg [.lit (.string r.n.data.toList), .lit (.string r.v.data.toList)]
set_option maxRecDepth 20000 in
theorem at_cells {H : Type} {enc : TypeId × Value → H} {W : World} {n : Nat} {cs : List Value} {x : DataW H × List MemPlace} (h : DataW.trod enc Tryd.prog W 0 (fun _ => true) true n 71 cs = some x) :
    ∃ r : At, cs = [.string r.n, .string r.v] ∧ x.1 = atD r := by
  obtain ⟨y0, y1, m, hx, hl, h0, h1⟩ := trod_struct2 Tryd.underlying71 h
  rw [cells71] at hl
  obtain ⟨c0, c1, rfl⟩ : ∃ c0 c1, cs = [c0, c1] := by
    match cs, hl with
    | [c0, c1], _ => exact ⟨c0, c1, rfl⟩
  simp only [cells9] at h0 h1
  obtain ⟨s, e0, f0, s0⟩ := DataW.trod_string Tryd.underlying9 h0
  obtain ⟨a, e1, f1, s1⟩ := DataW.trod_string Tryd.underlying9 h1
  simp at e0 e1
  subst e0 e1 f0 f1 hx
  exact ⟨⟨s, a⟩, rfl, rfl⟩
/-- The reading of a slice of attributes. -/
def AtsD {H : Type} (d : DataW H) (L : List At) : Prop := (L = [] ∧ d = .nil) ∨ ∃ sp, d = .slice (L.map atD) sp
set_option maxRecDepth 20000 in
theorem open_attrs {H : Type} {enc : TypeId × Value → H} {W : World} {n : Nat} {v : Value} {x : DataW H × List MemPlace} (h : DataW.trod enc Tryd.prog W 0 (fun _ => true) true n 32 [v] = some x) :
    ∃ lo len cap, v = .slice lo len cap ∧ ∃ L : List At, L.length = len ∧ AtRow W lo L ∧ len ≤ cap ∧ cap ≤ maxLen ∧ AtsD x.1 L := by
  rcases Go.Deep.open_slice Tryd.underlying32 h with ⟨h0, hx0⟩ | ⟨a, len, cap, m, k, D, Pl, hcs, _, hl, hm, hmm, hxe, hx⟩
  · simp only [List.cons.injEq, and_true] at h0
    subst h0
    exact ⟨none, 0, 0, rfl, [], rfl, fun i x hx => by simp at hx, Nat.le_refl _, Nat.zero_le _, .inl ⟨rfl, by rw [hx0]⟩⟩
  · simp only [List.cons.injEq, and_true] at hcs
    subst hcs
    rw [if_pos rfl] at hmm
    have each : ∀ i, i < len → ∃ r : At, (W.cell? (a.add (i * 2)) = some (.string r.n) ∧ W.cell? (a.add (i * 2 + 1)) = some (.string r.v)) ∧ D i = atD r := by
      intro i hi
      obtain ⟨cs', h1, h2⟩ := hx i (by omega)
      rw [cells71] at h1
      obtain ⟨_, hlen, hcell⟩ := World.cells?_some h1
      obtain ⟨d, rfl, z1⟩ := at_cells h2
      refine ⟨d, ⟨?_, ?_⟩, z1⟩
      · have := hcell 0 (by omega); rw [Go.Deep.add_add] at this; simpa using this
      · have := hcell 1 (by omega); rw [Go.Deep.add_add] at this; simpa using this
    obtain ⟨f, hf⟩ : ∃ f : Nat → At, ∀ i, i < len → (W.cell? (a.add (i * 2)) = some (.string (f i).n) ∧ W.cell? (a.add (i * 2 + 1)) = some (.string (f i).v)) ∧ D i = atD (f i) := by
      haveI : Inhabited At := ⟨⟨⟨#[]⟩, ⟨#[]⟩⟩⟩
      exact Go.Deep.choose_lt each
    refine ⟨some a, len, cap, rfl, (List.range len).map f, by simp, fun i x hx => ?_, hl, hm, .inr ⟨_, by
      rw [hxe]
      simp only
      congr 1
      rw [List.map_map]
      exact List.map_congr_left fun i hi => (hf i (by simpa using hi)).2⟩⟩
    have hi : i < len := by have := (List.getElem?_eq_some_iff.1 hx).1; simpa using this
    have hfi : f i = x := by
      rw [List.getElem?_map, List.getElem?_range hi] at hx
      simpa using hx
    obtain ⟨⟨g0, g1⟩, _⟩ := hf i hi
    obtain ⟨b, off, spot⟩ := a
    have hspot : spot = none := by
      have := World.cell?_spot (hf 0 (by omega)).1.1
      simpa [Addr.add] using this
    subst hspot
    rw [Addr.add_lit] at g0 g1
    rw [hfi] at g0 g1
    exact ⟨b, off, rfl, World.block_lt_of_cell? W _ g0, g0, by rw [Nat.add_assoc]; exact g1⟩
theorem weights_mem_all {H : Type} {P : Program} {e : TypeId} : ∀ {ds : List (DataW H)} {d : DataW H}, d ∈ ds → ∀ n ∈ d.weights P e, n ∈ DataW.weightsAll P e ds
  | [], _, h, _, _ => by simp at h
  | x :: ds, d, h, n, hn => by
    rw [DataW.weightsAll, List.mem_append]
    rcases List.mem_cons.1 h with rfl | h
    · exact .inl hn
    · exact .inr (weights_mem_all h n hn)

theorem trod_s4 {P : Program} {H : Type} {enc : TypeId × Value → H} {w : World} {base : Nat} {spare : Nat → Bool} {held : Bool} {t : TypeId} {f0 f1 f2 f3 : Field} {fuel : Nat} {cs : List Value} {x : DataW H × List MemPlace} (ht : P.underlying t = some (.struct #[f0, f1, f2, f3])) (h : DataW.trod enc P w base spare held fuel t cs = some x) :
    ∃ y0 y1 y2 y3 n, fuel = n + 1 ∧ x.1 = .agg [y0.1, y1.1, y2.1, y3.1] ∧ cs.length = P.cellsOf t ∧ DataW.trod enc P w base spare held n f0.type ((cs.drop f0.offset).take (P.cellsOf f0.type)) = some y0 ∧ DataW.trod enc P w base spare held n f1.type ((cs.drop f1.offset).take (P.cellsOf f1.type)) = some y1 ∧ DataW.trod enc P w base spare held n f2.type ((cs.drop f2.offset).take (P.cellsOf f2.type)) = some y2 ∧ DataW.trod enc P w base spare held n f3.type ((cs.drop f3.offset).take (P.cellsOf f3.type)) = some y3 := by
  obtain ⟨xs, n, he, rfl, hl, hlen, hf⟩ := DataW.trod_struct ht h
  match xs, hlen with
  | [y0, y1, y2, y3], _ => exact ⟨y0, y1, y2, y3, n, he, by simp, hl, by simpa using hf 0 f0 rfl, by simpa using hf 1 f1 rfl, by simpa using hf 2 f2 rfl, by simpa using hf 3 f3 rfl⟩
theorem trod_s5 {P : Program} {H : Type} {enc : TypeId × Value → H} {w : World} {base : Nat} {spare : Nat → Bool} {held : Bool} {t : TypeId} {f0 f1 f2 f3 f4 : Field} {fuel : Nat} {cs : List Value} {x : DataW H × List MemPlace} (ht : P.underlying t = some (.struct #[f0, f1, f2, f3, f4])) (h : DataW.trod enc P w base spare held fuel t cs = some x) :
    ∃ y0 y1 y2 y3 y4 n, fuel = n + 1 ∧ x.1 = .agg [y0.1, y1.1, y2.1, y3.1, y4.1] ∧ cs.length = P.cellsOf t ∧ DataW.trod enc P w base spare held n f0.type ((cs.drop f0.offset).take (P.cellsOf f0.type)) = some y0 ∧ DataW.trod enc P w base spare held n f1.type ((cs.drop f1.offset).take (P.cellsOf f1.type)) = some y1 ∧ DataW.trod enc P w base spare held n f2.type ((cs.drop f2.offset).take (P.cellsOf f2.type)) = some y2 ∧ DataW.trod enc P w base spare held n f3.type ((cs.drop f3.offset).take (P.cellsOf f3.type)) = some y3 ∧ DataW.trod enc P w base spare held n f4.type ((cs.drop f4.offset).take (P.cellsOf f4.type)) = some y4 := by
  obtain ⟨xs, n, he, rfl, hl, hlen, hf⟩ := DataW.trod_struct ht h
  match xs, hlen with
  | [y0, y1, y2, y3, y4], _ => exact ⟨y0, y1, y2, y3, y4, n, he, by simp, hl, by simpa using hf 0 f0 rfl, by simpa using hf 1 f1 rfl, by simpa using hf 2 f2 rfl, by simpa using hf 3 f3 rfl, by simpa using hf 4 f4 rfl⟩
/-- An element's attributes that came in. -/
def AtsL (w : World) (v : Value) (A : List At) : Prop := ∃ ao cap, v = .slice ao A.length cap ∧ AtRow w ao A
theorem AtsL.ats {w : World} {v : Value} {A : List At} (h : AtsL w v A) (hf : A.length ≤ 4398046511104) : Ats w v A := ⟨h, hf⟩
set_option maxRecDepth 20000 in
theorem el_in {H : Type} {enc : TypeId × Value → H} {W : World} {n : Nat} {cs : List Value} {x : DataW H × List MemPlace} (h : DataW.trod enc Tryd.prog W 0 (fun _ => true) true n 34 cs = some x) :
    ∃ d : El, cs = d.cs ∧ AtsL W d.av d.al ∧ ((∀ m ∈ x.1.weights Tryd.prog 34, m ≤ reachBytes) → d.al.length ≤ 4398046511104) := by
  obtain ⟨y0, y1, y2, y3, m, hn, hx, hl, h0, h1, h2, h3⟩ := trod_s4 Tryd.underlying34 h
  rw [cells34] at hl
  obtain ⟨c0, c1, c2, c3, rfl⟩ : ∃ c0 c1 c2 c3, cs = [c0, c1, c2, c3] := by
    match cs, hl with
    | [c0, c1, c2, c3], _ => exact ⟨c0, c1, c2, c3, rfl⟩
  simp only [cells3, cells9, cells32] at h0 h1 h2 h3
  simp only [List.drop_zero, List.drop_succ_cons, List.take_succ_cons, List.take_zero] at h0 h1 h2 h3
  obtain ⟨id, e0, _, _⟩ := DataW.trod_int Tryd.underlying3 h0
  obtain ⟨sp, e1, _, _⟩ := DataW.trod_int Tryd.underlying3 h1
  obtain ⟨nm, e2, _, _⟩ := DataW.trod_string Tryd.underlying9 h2
  obtain ⟨ao, n', ac, e3, L, len, row, hc1, hc2, hAD⟩ := open_attrs h3
  simp only [List.cons.injEq, and_true] at e0 e1 e2
  subst len
  subst e0 e1 e2 e3
  refine ⟨⟨id, sp, nm, _, L⟩, rfl, ⟨ao, ac, rfl, row⟩, fun hw => ?_⟩
  have h5r : reachBytes = 140737488351232 := by decide
  rcases hAD with ⟨hL, _⟩ | ⟨sq, hs⟩
  · show L.length ≤ _
    rw [hL]
    simp
  · have := hw ((L.map (atD (H := H))).length * 1 * 0 + ((L.map (atD (H := H))).length + sq.length) * Tryd.prog.bytesOf 71) (by
      rw [hx, hs]
      simp [DataW.weights, DataW.weightsEach, Tryd.underlying34, Tryd.underlying32])
    rw [bytes71] at this
    simp only [List.length_map] at this
    show L.length ≤ _
    omega
set_option maxRecDepth 20000 in
theorem names_in {H : Type} {enc : TypeId × Value → H} {W : World} {n : Nat} {v : Value} {x : DataW H × List MemPlace} (h : DataW.trod enc Tryd.prog W 0 (fun _ => true) true n 35 [v] = some x) :
    ∃ lo len cap, v = .slice lo len cap ∧ ∃ L : List ByteArray, L.length = len ∧ StrRow W lo L ∧ len ≤ 9223372036854775807 := by
  rcases Go.Deep.open_slice Tryd.underlying35 h with ⟨h0, hx0⟩ | ⟨a, len, cap, m, k, D, Pl, hcs, _, hl, hm, hmm, hxe, hx⟩
  · simp only [List.cons.injEq, and_true] at h0
    subst h0
    exact ⟨none, 0, 0, rfl, [], rfl, fun i x hx => by simp at hx, Nat.zero_le _⟩
  · simp only [List.cons.injEq, and_true] at hcs
    subst hcs
    rw [if_pos rfl] at hmm
    have each : ∀ i, i < len → ∃ r : ByteArray, W.cell? (a.add i) = some (.string r) := by
      intro i hi
      obtain ⟨cs', h1, h2⟩ := hx i (by omega)
      rw [cells9] at h1
      obtain ⟨_, hlen, hcell⟩ := World.cells?_some h1
      obtain ⟨s, e0, _, _⟩ := DataW.trod_string Tryd.underlying9 h2
      subst e0
      have := hcell 0 (by omega)
      rw [Go.Deep.add_add] at this
      exact ⟨s, by simpa using this⟩
    obtain ⟨f, hf⟩ : ∃ f : Nat → ByteArray, ∀ i, i < len → W.cell? (a.add i) = some (.string (f i)) := by
      haveI : Inhabited ByteArray := ⟨⟨#[]⟩⟩
      exact Go.Deep.choose_lt each
    refine ⟨some a, len, cap, rfl, (List.range len).map f, by simp, fun i x hx => ?_, by unfold maxLen at hm; omega⟩
    have hi : i < len := by have := (List.getElem?_eq_some_iff.1 hx).1; simpa using this
    have hfi : f i = x := by
      rw [List.getElem?_map, List.getElem?_range hi] at hx
      simpa using hx
    have g0 := hf i hi
    obtain ⟨b, off, spot⟩ := a
    have hspot : spot = none := by
      have := World.cell?_spot (hf 0 (by omega))
      simpa [Addr.add] using this
    subst hspot
    rw [Addr.add_lit] at g0
    rw [hfi] at g0
    exact ⟨b, off, rfl, World.block_lt_of_cell? W _ g0, g0⟩
/-- A row of elements that came in. -/
structure ElsIn (W : World) (lo : Option Addr) (len : Nat) (l : List El) : Prop where
  hlen : l.length = len
  row : ∀ (i : Nat) d, l[i]? = some d → ∃ b off, lo = some ⟨b, off, none⟩ ∧ b < W.heap.size ∧ CellsAt W b (off + i * 4) d.cs ∧ AtsL W d.av d.al ∧ d.al.length ≤ 4398046511104
set_option maxRecDepth 20000 in
theorem els_in {H : Type} {enc : TypeId × Value → H} {W : World} {n : Nat} {lo : Option Addr} {len cap : Nat} {x : DataW H × List MemPlace} (h : DataW.trod enc Tryd.prog W 0 (fun _ => true) true n 26 [.slice lo len cap] = some x) (hw : ∀ m ∈ x.1.weights Tryd.prog 26, m ≤ reachBytes) :
    ∃ l : List El, ElsIn W lo len l := by
  rcases Go.Deep.open_slice Tryd.underlying26 h with ⟨h0, _⟩ | ⟨a, len', cap', m, k, D, Pl, hcs, _, hl, hm, hmm, hxe, hx⟩
  · simp only [List.cons.injEq, Value.slice.injEq, and_true] at h0
    obtain ⟨_, rfl, rfl⟩ := h0
    exact ⟨[], rfl, fun i x hx => by simp at hx⟩
  · simp only [List.cons.injEq, Value.slice.injEq, and_true] at hcs
    obtain ⟨rfl, rfl, rfl⟩ := hcs
    rw [if_pos rfl] at hmm
    have each : ∀ i, i < len → ∃ r : El, (∀ (j : Nat) u, r.cs[j]? = some u → W.cell? (a.add (i * 4 + j)) = some u) ∧ AtsL W r.av r.al ∧ r.al.length ≤ 4398046511104 := by
      intro i hi
      obtain ⟨cs', h1, h2⟩ := hx i (by omega)
      rw [cells34] at h1
      obtain ⟨_, hlen, hcell⟩ := World.cells?_some h1
      obtain ⟨T, rfl, z1, z2⟩ := el_in h2
      refine ⟨T, fun j u hj => ?_, z1, z2 fun n hn => hw n ?_⟩
      · have hj8 : j < 4 := by have := (List.getElem?_eq_some_iff.1 hj).1; simpa [El.cs] using this
        have := hcell j hj8
        rw [Go.Deep.add_add] at this
        rw [this]
        exact hj
      · have q : ∀ A B : List (DataW H), DataW.weights Tryd.prog 26 (DataW.slice A B) = (A.length + B.length) * Tryd.prog.bytesOf 34 :: (DataW.weightsAll Tryd.prog 34 A ++ DataW.weightsAll Tryd.prog 34 B) := fun A B => by
          simp [DataW.weights, Tryd.underlying26]
        rw [hxe]
        simp only
        rw [q]
        exact List.mem_cons_of_mem _ (List.mem_append_left _ (weights_mem_all (List.mem_map.2 ⟨i, by simpa using hi, rfl⟩) n hn))
    obtain ⟨f, hf⟩ : ∃ f : Nat → El, ∀ i, i < len → (∀ (j : Nat) u, (f i).cs[j]? = some u → W.cell? (a.add (i * 4 + j)) = some u) ∧ AtsL W (f i).av (f i).al ∧ (f i).al.length ≤ 4398046511104 := by
      haveI : Inhabited El := ⟨⟨0, 0, ⟨#[]⟩, .slice none 0 0, []⟩⟩
      exact Go.Deep.choose_lt each
    refine ⟨(List.range len).map f, by simp, fun i x hx => ?_⟩
    have hi : i < len := by have := (List.getElem?_eq_some_iff.1 hx).1; simpa using this
    have hfi : f i = x := by
      rw [List.getElem?_map, List.getElem?_range hi] at hx
      simpa using hx
    obtain ⟨g0, ok1, ok2⟩ := hf i hi
    have g00 := (hf 0 (by omega)).1 0 _ rfl
    obtain ⟨b, off, spot⟩ := a
    have hspot : spot = none := by
      have := World.cell?_spot g00
      simpa [Addr.add] using this
    subst hspot
    rw [hfi] at g0 ok1 ok2
    refine ⟨b, off, rfl, ?_, fun j u hj => ?_, ok1, ok2⟩
    · have := g0 0 _ rfl
      rw [Addr.add_lit] at this
      exact World.block_lt_of_cell? W _ this
    · have := g0 j u hj
      rw [Addr.add_lit, ← Nat.add_assoc] at this
      exact this
theorem open_els {H : Type} {enc : TypeId × Value → H} {W : World} {lo : Option Addr} {len cap : Nat} {d : DataW H} {p : List MemPlace} {ts : List TypeId} {ds : List (DataW H)} (hz : (DataW.weightsEach Tryd.prog ts ds).all (· ≤ reachBytes) = true) {j : Nat} (ht : ts[j]? = some 26) (hd : ds[j]? = some d) (h : DataW.Trod enc Tryd.prog W 0 (fun _ => true) true 26 (.slice lo len cap) d p) :
    ∃ l : List El, ElsIn W lo len l := by
  obtain ⟨fuel, hf⟩ := h
  exact els_in (n := fuel) (by simpa [Value.cells] using hf) fun m hm => of_decide_eq_true (List.all_eq_true.1 hz _ (DataW.weights_mem_each ht hd _ hm))
/-- A deed. -/
structure Dd where
  k : Int
  a : Int
  s : Int
  e : El
  no : Option Addr
  nl : List ByteArray
  nc : Nat
abbrev Dd.arr (x : Dd) : Array Value := #[iv x.k, iv x.a, iv x.s, iv x.e.id, iv x.e.sp, .string x.e.nm, x.e.av, .slice x.no x.nl.length x.nc]
/-- A deed that came in. -/
structure DdIn (W : World) (x : Dd) : Prop where
  at_ : AtsL W x.e.av x.e.al
  nr : StrRow W x.no x.nl
  nf : x.nl.length ≤ 9223372036854775807
set_option maxRecDepth 20000 in
theorem deed_in {H : Type} {enc : TypeId × Value → H} {W : World} {n : Nat} {cs : List Value} {x : DataW H × List MemPlace} (h : DataW.trod enc Tryd.prog W 0 (fun _ => true) true n 37 cs = some x) :
    ∃ T : Dd, cs = T.arr.toList ∧ DdIn W T ∧ ((∀ m ∈ x.1.weights Tryd.prog 37, m ≤ reachBytes) → T.e.al.length ≤ 4398046511104) := by
  obtain ⟨y0, y1, y2, y3, y4, m, hn, hx, hl, h0, h1, h2, h3, h4⟩ := trod_s5 Tryd.underlying37 h
  rw [cells37] at hl
  obtain ⟨c0, c1, c2, c3, c4, c5, c6, c7, rfl⟩ : ∃ c0 c1 c2 c3 c4 c5 c6 c7, cs = [c0, c1, c2, c3, c4, c5, c6, c7] := by
    match cs, hl with
    | [c0, c1, c2, c3, c4, c5, c6, c7], _ => exact ⟨c0, c1, c2, c3, c4, c5, c6, c7, rfl⟩
  simp only [cells3, cells34, cells35] at h0 h1 h2 h3 h4
  simp only [List.drop_zero, List.drop_succ_cons, List.take_succ_cons, List.take_zero] at h0 h1 h2 h3 h4
  obtain ⟨k, e0, _, _⟩ := DataW.trod_int Tryd.underlying3 h0
  obtain ⟨a, e1, _, _⟩ := DataW.trod_int Tryd.underlying3 h1
  obtain ⟨s, e2, _, _⟩ := DataW.trod_int Tryd.underlying3 h2
  obtain ⟨e, he, hA, hw⟩ := el_in h3
  obtain ⟨no, nn, nc, e4, nl, nlen, nrow, nf⟩ := names_in h4
  simp only [List.cons.injEq, and_true] at e0 e1 e2
  simp only [El.cs, List.cons.injEq, and_true] at he
  obtain ⟨e30, e31, e32, e33⟩ := he
  subst nlen
  subst e0 e1 e2 e30 e31 e32 e33 e4
  refine ⟨⟨k, a, s, e, no, nl, nc⟩, rfl, ⟨hA, nrow, nf⟩, fun hq => hw fun m hm => hq m ?_⟩
  rw [hx]
  simp [DataW.weights, DataW.weightsEach, Tryd.underlying37, hm]
theorem open_deed {H : Type} {enc : TypeId × Value → H} {W : World} {base : Nat} {v : Value} {d : DataW H} {p : List MemPlace} (hv : Value.okWide Tryd.prog W .any base 37 v) (h : DataW.Trod enc Tryd.prog W 0 (fun _ => true) true 37 v d p) :
    ∃ T : Dd, v = .agg T.arr ∧ DdIn W T := by
  obtain ⟨cs, rfl, hsz⟩ := okWide_struct Tryd.underlying37 hv
  obtain ⟨fuel, hf⟩ := h
  obtain ⟨T, he, hT, _⟩ := deed_in (by simpa [Value.cells] using hf)
  refine ⟨T, ?_, hT⟩
  have : cs = T.arr := by
    apply Array.toList_inj.1
    simpa [Value.cells] using he
  rw [this]
end Go.Proofs.YtkmghkfdegdikaaDoor
