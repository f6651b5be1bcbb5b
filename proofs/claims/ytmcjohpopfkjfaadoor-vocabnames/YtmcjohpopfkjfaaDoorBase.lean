/- What the laws' proofs have in common at the margin of the program; the listed variable holds the program's lists. -/
import Derived.Test.YtmcjohpopfkjfaaDoorAwake
import Derived.Test.YtmcjohpopfkjfaaDoorRows
import Derived.Test.YtmcjohpopfkjfaaDoorCards
import Derived.Test.YtmcjohpopfkjfaaDoorTie
import Derived.Lib.LaidTab
import Derived.LaidMore
import Derived.Stop.Joined
import Derived.SevenTiedAt
import Derived.Deep.Slices
namespace Go.Proofs.YtmcjohpopfkjfaaDoor
open Go.RowKit
theorem own : ownKnob Tryd.prog.godebug = none := by kernel_rfl
theorem laidOut : laidOutB Tryd.prog = true := by kernel_rfl

abbrev laidL : List (String × DataW Unit) := Rows.vocabNamesRow.laid
def hname : String := Rows.vocabNamesRow.named.headD ""
theorem gLists : Tryd.prog.globalNamed hname = some 0 := by kernel_rfl
theorem tLists : (Tryd.prog.globals[0]?).map (·.type) = some 31 := by kernel_rfl
theorem c9 : Tryd.prog.cellsOf 9 = 1 := by kernel_rfl
theorem c30 : Tryd.prog.cellsOf 30 = 1 := by kernel_rfl
theorem c31 : Tryd.prog.cellsOf 31 = 11 := by kernel_rfl
/-- The listed datum, in the lists' own words. -/
def datum : DataW Unit := .agg ((List.range 11).map fun k => .slice ((tab k).map fun x => .lit (.string x)) [])
theorem laidL_eq : laidL = [(hname, datum)] := by kernel_rfl

/-- A list that reads as these names. -/
theorem list_of {W : World} {base : Nat} {sp : Nat → Bool} {held : Bool} {fuel : Nat} {cs : List Value} {l : List (List UInt8)} {p : List MemPlace}
    (h : DataW.trod (fun _ => ()) Tryd.prog W base sp held fuel 30 cs = some (.slice (l.map fun x => .lit (.string x)) [], p)) :
    l = [] ∨ ∃ b o cap : Nat, cs = [.slice (some ⟨b, o, none⟩) l.length cap] ∧ ∀ i x, l[i]? = some x → W.cell? ⟨b, o + i, none⟩ = some (.string ⟨x.toArray⟩) := by
  rcases Go.Deep.open_slice1 Tryd.underlying30 c9 h with ⟨_, h0⟩ | ⟨a, len, cap, m, n, V, D, Pl, hcs, _, hl, _, hm, hx, hV⟩
  · exact absurd (congrArg Prod.fst h0) (by simp)
  by_cases hl0 : l = []
  · exact .inl hl0
  right
  have hx1 : DataW.slice (l.map fun x => (DataW.lit (.string x) : DataW Unit)) [] = .slice ((List.range len).map D) ((List.range (m - len)).map fun j => D (len + j)) := congrArg Prod.fst hx
  have hx2 : (l.map fun x => (DataW.lit (.string x) : DataW Unit)) = (List.range len).map D := by injection hx1
  have hlen : l.length = len := by simpa using congrArg List.length hx2
  have hml : len ≤ m := by rw [hm]; split <;> omega
  have each : ∀ i x, l[i]? = some x → W.cell? (a.add i) = some (.string ⟨x.toArray⟩) := by
    intro i x hi
    have hil : i < len := by rw [← hlen]; exact (List.getElem?_eq_some_iff.1 hi).1
    obtain ⟨h1, h2⟩ := hV i (by omega)
    obtain ⟨s, e1, e2, _⟩ := DataW.trod_string Tryd.underlying9 h2
    have e3 := congrArg (·[i]?) hx2
    simp only [List.getElem?_map, hi, List.getElem?_range hil, Option.map_some, Option.some.injEq] at e3
    have e4 : D i = .lit (.string s.data.toList) := congrArg Prod.fst e2
    rw [e4] at e3
    have e5 : x = s.data.toList := by injection e3 with e; injection e
    have e6 : V i = .string s := by simpa using e1
    rw [h1, e6]
    congr 2
    exact bytes_eq (by rw [e5])
  obtain ⟨b, o, spot⟩ := a
  have hspot : spot = none := by
    obtain ⟨x, l', rfl⟩ := List.exists_cons_of_ne_nil hl0
    have := World.cell?_spot (each 0 x rfl)
    simpa [Addr.add] using this
  subst hspot
  refine ⟨b, o, cap, by rw [hcs, hlen], fun i x hi => ?_⟩
  have := each i x hi
  rw [Addr.add_lit] at this
  exact this

theorem tab_some : ∀ k, k < 11 → tab k ≠ [] := by decide +kernel
theorem tb_of_laid {W : World} (h : laidMetH Tryd.prog laidL W) : Tb W := by
  rw [MakeChecks.laidMetH_plain _ _ _ (by kernel_rfl), laidL_eq] at h
  obtain ⟨ps, ⟨g', t', cs, fuel, p, q, hg', ht', hvar, hd, _, _⟩, _⟩ := h
  obtain rfl := Option.some.inj (gLists.symm.trans hg')
  obtain rfl := Option.some.inj (tLists.symm.trans ht')
  intro k hk
  cases fuel with
  | zero => simp [DataW.trod] at hd
  | succ fuel =>
    simp only [DataW.trod, Tryd.underlying31, c30, c31, Nat.mul_one] at hd
    split at hd
    · rename_i hl
      obtain ⟨xs, hm, hx⟩ := Option.map_eq_some_iff.1 hd
      have hxs : xs.map (·.1) = (List.range 11).map fun k => (.slice ((tab k).map fun x => .lit (.string x)) [] : DataW Unit) := by
        have := congrArg Prod.fst hx
        simpa [datum] using this
      obtain ⟨b, hb, hf⟩ := Lib.mapM_at hm k k (by simp [hk])
      have h2 : (xs.map (·.1))[k]? = some b.1 := by simp [hb]
      rw [hxs, List.getElem?_map, List.getElem?_range hk] at h2
      have h3 := Option.some.inj h2
      obtain ⟨b1, b2⟩ := b
      simp only at h3
      subst h3
      rcases list_of hf with h0 | ⟨blk, o, cap, hcs, hrow⟩
      · exact absurd h0 (tab_some k hk)
      · refine ⟨blk, o, cap, ?_, hrow⟩
        have h1 : cs.toList[k]? = some (.slice (some ⟨blk, o, none⟩) (tab k).length cap) := by
          have := congrArg (·[0]?) hcs
          simpa [List.getElem?_take, List.getElem?_drop] using this
        have h4 := World.var?_cell gLists hvar k
        rw [h4]
        simpa using h1
    · cases hd
theorem door_met (os : Os) (args : Array Value) : laidMetH Tryd.prog laidL ((World.doorLaid Tryd.prog 25 os).forCall (fun _ _ => 0) ⟨#[], args, []⟩).memory :=
  laidMetH_of_parts3 (fuel := 8) (laidMet_of_run' 8 (by kernel_rfl) (by kernel_rfl)) (by kernel_rfl) (by kernel_rfl)
theorem i64_of_wf {n : Int} (h : (Lit.int .i64 n).wf = true) : -9223372036854775808 ≤ n ∧ n ≤ 9223372036854775807 := by
  simp [Lit.wf, IntKind.min, IntKind.max, IntKind.signed, IntKind.bits] at h
  omega
end Go.Proofs.YtmcjohpopfkjfaaDoor
