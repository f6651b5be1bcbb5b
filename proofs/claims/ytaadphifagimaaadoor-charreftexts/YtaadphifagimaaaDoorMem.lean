/- How a trie lies in memory: nodes by their paths, a node's map from a byte to the node behind it. -/
import Derived.Test.YtaadphifagimaaaDoorProg
import Derived.WalkKit
import Derived.WalkSpells
import Derived.WalkLawsBesides
import Derived.Deep.RegionLaw
import Derived.Deep.QuietTactic
import Derived.BigQuiet
import Derived.BigRegion
import Derived.WalkMore
import Derived.Maps.OwnSet
import Derived.WalkArith
namespace Go.Proofs.YtaadphifagimaaaDoor
open Go.RowKit Go.Maps

theorem law5 : Keyed Tryd.prog 5 := int_keyed Tryd.underlying5
theorem zero95 (w : World) : (zeroValue 95).run Tryd.prog w = .ok (.pointer none) w := by kernel_rfl

def code : Option Nat → Int
  | none => 0
  | some b => b + 1
def ptr (o : Option Nat) : Value := .pointer (o.map fun b => ⟨b, 0, none⟩)
def enil : DataW Unit := .lit (.int .i64 0)
def elem (o : Option Nat) : DataW Unit := .lit (.int .i64 (code o))

/-- A pointer as an element of a map: which block it leads to. -/
def pElem : Value → Option (DataW Unit × List MemPlace)
  | .pointer none => some (elem none, [])
  | .pointer (some ⟨b, 0, none⟩) => some (elem (some b), [])
  | _ => none

theorem pElem_ptr (o : Option Nat) : pElem (ptr o) = some (elem o, []) := by cases o <;> rfl
theorem elem_inj {a b : Option Nat} (h : elem a = elem b) : a = b := by
  unfold elem at h
  simp only [DataW.lit.injEq, Lit.int.injEq, true_and] at h
  cases a <;> cases b <;> simp [code] at h
  · rfl
  · omega
  · omega
  · exact congrArg some (by omega)
theorem pElem_inv {v : Value} {o : Option Nat} {ps : List MemPlace} (h : pElem v = some (elem o, ps)) : v = ptr o := by
  unfold pElem at h
  split at h
  · simp only [Option.some.injEq, Prod.mk.injEq] at h
    rw [← elem_inj h.1]; rfl
  · simp only [Option.some.injEq, Prod.mk.injEq] at h
    rw [← elem_inj h.1]; rfl
  · cases h

def kl (x : UInt8) : Lit := .int .u8 (x.toNat : Int)
theorem u8_wf (x : UInt8) : (kl x).wf = true := WalkArith.wf_u8 (by have := UInt8.toNat_lt x; omega)
theorem key5 (x : UInt8) : keyOf Tryd.prog 5 (.int .u8 (x.toNat : Int)) = some (kl x) := keyOf_int_mk Tryd.underlying5 (u8_wf x)
theorem kl_inj {x y : UInt8} (h : kl x = kl y) : x = y := by
  simp only [kl, Lit.int.injEq, true_and] at h
  exact UInt8.toNat_inj.1 (by omega)

/-- Block m is a map of at most k bytes that leads from x to the block f x. -/
def MapIs (w : World) (m k : Nat) (f : UInt8 → Option Nat) : Prop :=
  ∃ D : DataW Unit, w.ownsMap Tryd.prog 5 pElem m k D ∧ ∀ x, D.atKey (kl x) enil = elem (f x) ∧ Maps.has D (kl x) = (f x).isSome

theorem MapIs.congr {w : World} {m k : Nat} {f g : UInt8 → Option Nat} (h : MapIs w m k f) (e : ∀ x, f x = g x) : MapIs w m k g := by
  obtain ⟨D, h1, h2⟩ := h
  exact ⟨D, h1, fun x => by rw [← e x]; exact h2 x⟩
theorem MapIs.mono {w : World} {m k k' : Nat} {f : UInt8 → Option Nat} (h : MapIs w m k f) (e : k ≤ k') : MapIs w m k' f := by
  obtain ⟨D, h1, h2⟩ := h
  exact ⟨D, h1.mono e, h2⟩
theorem MapIs.same {w w' : World} {m k : Nat} {f : UInt8 → Option Nat} (h : MapIs w m k f) (e : w'.heap[m]? = w.heap[m]?) : MapIs w' m k f := by
  obtain ⟨D, ⟨es, clock, hb, rest⟩, h2⟩ := h
  exact ⟨D, ⟨es, clock, e.trans hb, rest⟩, h2⟩
theorem MapIs.lt {w : World} {m k : Nat} {f : UInt8 → Option Nat} (h : MapIs w m k f) : m < w.heap.size := by
  obtain ⟨D, h1, h2⟩ := h
  exact h1.lt
theorem MapIs.look {w : World} {m k : Nat} {f : UInt8 → Option Nat} (h : MapIs w m k f) (x : UInt8) : (Instr.lookup 76 (.map (some m)) (.int .u8 (x.toNat : Int)) false).run Tryd.prog w = .ok (ptr (f x)) w := by
  obtain ⟨D, h1, h2⟩ := h
  obtain ⟨v, ps, hrun, hv⟩ := h1.lookup law5 Tryd.underlying76 (zero95 w) (zd := enil) (zp := []) rfl (key5 x)
  rw [(h2 x).1] at hv
  rw [hrun, pElem_inv hv]
theorem look_none (w : World) (x : UInt8) : (Instr.lookup 76 (.map none) (.int .u8 (x.toNat : Int)) false).run Tryd.prog w = .ok (.pointer none) w :=
  Maps.look_nil false law5 Tryd.underlying76 (zero95 w) (key5 x)
theorem MapIs.put {w : World} {m k : Nat} {f : UInt8 → Option Nat} (h : MapIs w m k f) (hk : k < maxLen) (x : UInt8) (b : Nat) :
    ∃ w', (Instr.mapUpdate 76 (.map (some m)) (.int .u8 (x.toNat : Int)) (.pointer (some ⟨b, 0, none⟩))).run Tryd.prog w = .ok () w' ∧ MapIs w' m (k + 1) (fun y => if y = x then some b else f y) ∧ w.grownBy w' (some m) := by
  obtain ⟨D, h1, h2⟩ := h
  have hmap : Maps.IsMap D := by obtain ⟨es, clock, _, _, _, hD⟩ := h1; exact ⟨_, hD⟩
  obtain ⟨w', r1, r2, r3⟩ := h1.update law5 Tryd.underlying76 hk (key5 x) (pElem_ptr (some b))
  refine ⟨w', r1, ⟨_, r2, fun y => ?_⟩, r3⟩
  by_cases hy : y = x
  · subst hy
    simp only [if_pos]
    exact ⟨Maps.atKey_put_same hmap (law5.key (key5 y)) _ _, Maps.has_put_same hmap (law5.key (key5 y)) _⟩
  · simp only [if_neg hy]
    have hne : kl y ≠ kl x := fun e => hy (kl_inj e)
    exact ⟨(Maps.atKey_put_other hne _ _).trans (h2 y).1, (Maps.has_put_other hne _).trans (h2 y).2⟩
theorem map_made (w : World) : MapIs (w.alloc (.map #[] 0)) w.heap.size 0 (fun _ => none) :=
  ⟨_, World.ownsMap_made w Tryd.prog 5 pElem, fun _ => ⟨rfl, rfl⟩⟩

/-- A node: its map, whether a name ends there and its character. -/
structure NodeIs (w : World) (b : Nat) (m : Option Nat) (v : Option Int) : Prop where
  c0 : w.cell? ⟨b, 0, none⟩ = some (.map m)
  c1 : w.cell? ⟨b, 1, none⟩ = some (.bool v.isSome)
  c2 : w.cell? ⟨b, 2, none⟩ = some (.int .i64 (v.getD 0))
  fz : ∀ i, w.frozen? ⟨b, i, none⟩ = false
  tg : ∀ cs z, w.heap[b]? ≠ some (.cells cs 5 z)

theorem NodeIs.same {w w' : World} {b : Nat} {m : Option Nat} {v : Option Int} (h : NodeIs w b m v) (e : w'.heap[b]? = w.heap[b]?) : NodeIs w' b m v :=
  ⟨(World.cell?_of_block (a := ⟨b, 0, none⟩) e).trans h.c0, (World.cell?_of_block (a := ⟨b, 1, none⟩) e).trans h.c1, (World.cell?_of_block (a := ⟨b, 2, none⟩) e).trans h.c2, fun i => (World.frozen?_of_block (a := ⟨b, i, none⟩) e).trans (h.fz i), fun cs z => by rw [e]; exact h.tg cs z⟩
theorem lt_of_cell {w : World} {b i : Nat} {v : Value} (h : w.cell? ⟨b, i, none⟩ = some v) : b < w.heap.size := by
  by_cases hb : b < w.heap.size
  · exact hb
  · rw [World.cell?, show w.heap[(Addr.mk b i none).block]? = none from Array.getElem?_eq_none (by show w.heap.size ≤ b; omega)] at h; cases h
theorem NodeIs.lt {w : World} {b : Nat} {m : Option Nat} {v : Option Int} (h : NodeIs w b m v) : b < w.heap.size := lt_of_cell h.c0

abbrev Path := List UInt8

theorem tag_set {w : World} {b : Nat} (h : ∀ cs z, w.heap[b]? ≠ some (.cells cs 5 z)) (a : Addr) (v : Value) : ∀ cs z, (w.setCell a v).heap[b]? ≠ some (.cells cs 5 z) := fun cs z e => by
  by_cases hb : b = a.block
  · subst hb
    unfold World.setCell at e
    simp only [Array.getElem?_modify, ↓reduceIte] at e
    cases ho : w.heap[a.block]? with
    | none => rw [ho] at e; cases e
    | some o =>
      rw [ho] at e
      cases o <;> simp at e
      rename_i c t z0
      exact h c z0 (by rw [ho, e.2.1])
  · exact h cs z ((Below.heap_setCell _ _ _ _ hb).symm.trans e)

/-- The trie whose first node lies in block t: all its blocks from B on. -/
structure TrieAt (w : World) (B t : Nat) (N M : Path → Option Nat) (V : Path → Option Int) (c : Int) (k : Nat) : Prop where
  root : N [] = some t
  hB : ∀ p b, N p = some b → B ≤ b
  hM : ∀ p m, M p = some m → B ≤ m
  inj : ∀ p q b, N p = some b → N q = some b → p = q
  minj : ∀ p q m, M p = some m → M q = some m → p = q
  up : ∀ p x b, N (p ++ [x]) = some b → ∃ m, M p = some m
  mup : ∀ p m, M p = some m → ∃ b, N p = some b
  vup : ∀ p v, V p = some v → ∃ b, N p = some b
  node : ∀ p b, N p = some b → NodeIs w b (M p) (V p)
  maps : ∀ p m, M p = some m → MapIs w m k (fun x => N (p ++ [x]))
  count : w.cell? ⟨t, 3, none⟩ = some (.int .i64 c)

/-- What a node's map tells of a byte, nil or not. -/
theorem TrieAt.look {w : World} {B t : Nat} {N M : Path → Option Nat} {V : Path → Option Int} {c : Int} {k : Nat} (T : TrieAt w B t N M V c k) (p : Path) (x : UInt8) :
    (Instr.lookup 76 (.map (M p)) (.int .u8 (x.toNat : Int)) false).run Tryd.prog w = .ok (ptr (N (p ++ [x]))) w := by
  cases hm : M p with
  | none =>
    rw [look_none]
    cases hn : N (p ++ [x]) with
    | none => rfl
    | some b => obtain ⟨m, h⟩ := T.up _ _ _ hn; rw [hm] at h; cases h
  | some m => exact (T.maps p m hm).look x

theorem TrieAt.same {w w' : World} {B t : Nat} {N M : Path → Option Nat} {V : Path → Option Int} {c : Int} {k : Nat} (T : TrieAt w B t N M V c k) (e : ∀ b, B ≤ b → b < w.heap.size → w'.heap[b]? = w.heap[b]?) : TrieAt w' B t N M V c k where
  root := T.root
  hB := T.hB
  hM := T.hM
  inj := T.inj
  minj := T.minj
  up := T.up
  mup := T.mup
  vup := T.vup
  node := fun p b h => (T.node p b h).same (e b (T.hB p b h) (T.node p b h).lt)
  maps := fun p m h => (T.maps p m h).same (e m (T.hM p m h) (T.maps p m h).lt)
  count := (World.cell?_of_block (a := ⟨t, 3, none⟩) (e t (T.hB _ _ T.root) (T.node _ _ T.root).lt)).trans T.count

theorem TrieAt.below {w w' : World} {B t : Nat} {N M : Path → Option Nat} {V : Path → Option Int} {c : Int} {k : Nat} (T : TrieAt w B t N M V c k) (b : Below w.heap.size w w') : TrieAt w' B t N M V c k :=
  T.same fun d _ hd => b.block d hd

end Go.Proofs.YtaadphifagimaaaDoor
