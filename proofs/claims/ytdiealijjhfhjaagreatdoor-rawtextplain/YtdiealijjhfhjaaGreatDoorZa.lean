/- How a trie lies in memory: nodes by their paths, a node's map from a byte to the node behind it. -/
import Derived.Test.YtdiealijjhfhjaaGreatDoorProg
import Derived.WalkKit
import Derived.WalkSpells
import Derived.WalkLawsBesides
import Derived.Deep.RegionLaw
import Derived.Deep.QuietTactic
import Derived.BigQuiet
import Derived.BigRegion
import Derived.WalkMore
import Derived.Maps.OwnSet
import Derived.WalkArith
namespace Go.Proofs.YtdiealijjhfhjaaGreatDoor.G6
open Go.RowKit Go.Maps
theorem law5 : Keyed Tryz.prog 5 := int_keyed Tryz.underlying5
theorem zero159 (w : World) : (zeroValue 200).run Tryz.prog w = .ok (.pointer none) w := by kernel_rfl
def code : Option Nat → Int
  | none => 0
  | some b => b + 1
def ptr (o : Option Nat) : Value := .pointer (o.map fun b => ⟨b, 0, none⟩)
def enil : DataW Unit := .lit (.int .i64 0)
def elem (o : Option Nat) : DataW Unit := .lit (.int .i64 (code o))
def pElem : Value → Option (DataW Unit × List MemPlace)
  | .pointer none => some (elem none, [])
  | .pointer (some ⟨b, 0, none⟩) => some (elem (some b), [])
  | _ => none
theorem pElem_ptr (o : Option Nat) : pElem (ptr o) = some (elem o, []) := by cases o <;> rfl
theorem elem_inj {a b : Option Nat} (h : elem a = elem b) : a = b := by
  unfold elem at h
  simp only [DataW.lit.injEq, Lit.int.injEq, true_and] at h
  cases a <;> cases b <;> simp [code] at h
  · rfl
  · omega
  · omega
  · exact congrArg some (by omega)
theorem pElem_inv {v : Value} {o : Option Nat} {ps : List MemPlace} (h : pElem v = some (elem o, ps)) : v = ptr o := by
  unfold pElem at h
  split at h
  · simp only [Option.some.injEq, Prod.mk.injEq] at h
    rw [← elem_inj h.1]; rfl
  · simp only [Option.some.injEq, Prod.mk.injEq] at h
    rw [← elem_inj h.1]; rfl
  · cases h
def kl (x : UInt8) : Lit := .int .u8 (x.toNat : Int)
theorem u8_wf (x : UInt8) : (kl x).wf = true := WalkArith.wf_u8 (by have := UInt8.toNat_lt x; omega)
theorem key5 (x : UInt8) : keyOf Tryz.prog 5 (.int .u8 (x.toNat : Int)) = some (kl x) := keyOf_int_mk Tryz.underlying5 (u8_wf x)
theorem kl_inj {x y : UInt8} (h : kl x = kl y) : x = y := by
  simp only [kl, Lit.int.injEq, true_and] at h
  exact UInt8.toNat_inj.1 (by omega)
def MapIs (w : World) (m k : Nat) (f : UInt8 → Option Nat) : Prop :=
  ∃ D : DataW Unit, w.ownsMap Tryz.prog 5 pElem m k D ∧ ∀ x, D.atKey (kl x) enil = elem (f x) ∧ Maps.has D (kl x) = (f x).isSome
theorem MapIs.congr {w : World} {m k : Nat} {f g : UInt8 → Option Nat} (h : MapIs w m k f) (e : ∀ x, f x = g x) : MapIs w m k g := by
  obtain ⟨D, h1, h2⟩ := h
  exact ⟨D, h1, fun x => by rw [← e x]; exact h2 x⟩
theorem MapIs.mono {w : World} {m k k' : Nat} {f : UInt8 → Option Nat} (h : MapIs w m k f) (e : k ≤ k') : MapIs w m k' f := by
  obtain ⟨D, h1, h2⟩ := h
  exact ⟨D, h1.mono e, h2⟩
theorem MapIs.same {w w' : World} {m k : Nat} {f : UInt8 → Option Nat} (h : MapIs w m k f) (e : w'.heap[m]? = w.heap[m]?) : MapIs w' m k f := by
  obtain ⟨D, ⟨es, clock, hb, rest⟩, h2⟩ := h
  exact ⟨D, ⟨es, clock, e.trans hb, rest⟩, h2⟩
theorem MapIs.lt {w : World} {m k : Nat} {f : UInt8 → Option Nat} (h : MapIs w m k f) : m < w.heap.size := by
  obtain ⟨D, h1, h2⟩ := h
  exact h1.lt
theorem MapIs.look {w : World} {m k : Nat} {f : UInt8 → Option Nat} (h : MapIs w m k f) (x : UInt8) : (Instr.lookup 187 (.map (some m)) (.int .u8 (x.toNat : Int)) false).run Tryz.prog w = .ok (ptr (f x)) w := by
  obtain ⟨D, h1, h2⟩ := h
  obtain ⟨v, ps, hrun, hv⟩ := h1.lookup law5 Tryz.underlying187 (zero159 w) (zd := enil) (zp := []) rfl (key5 x)
  rw [(h2 x).1] at hv
  rw [hrun, pElem_inv hv]
theorem look_none (w : World) (x : UInt8) : (Instr.lookup 187 (.map none) (.int .u8 (x.toNat : Int)) false).run Tryz.prog w = .ok (.pointer none) w :=
  Maps.look_nil false law5 Tryz.underlying187 (zero159 w) (key5 x)
theorem MapIs.put {w : World} {m k : Nat} {f : UInt8 → Option Nat} (h : MapIs w m k f) (hk : k < maxLen) (x : UInt8) (b : Nat) :
    ∃ w', (Instr.mapUpdate 187 (.map (some m)) (.int .u8 (x.toNat : Int)) (.pointer (some ⟨b, 0, none⟩))).run Tryz.prog w = .ok () w' ∧ MapIs w' m (k + 1) (fun y => if y = x then some b else f y) ∧ w.grownBy w' (some m) := by
  obtain ⟨D, h1, h2⟩ := h
  have hmap : Maps.IsMap D := by obtain ⟨es, clock, _, _, _, hD⟩ := h1; exact ⟨_, hD⟩
  obtain ⟨w', r1, r2, r3⟩ := h1.update law5 Tryz.underlying187 hk (key5 x) (pElem_ptr (some b))
  refine ⟨w', r1, ⟨_, r2, fun y => ?_⟩, r3⟩
  by_cases hy : y = x
  · subst hy
    simp only [if_pos]
    exact ⟨Maps.atKey_put_same hmap (law5.key (key5 y)) _ _, Maps.has_put_same hmap (law5.key (key5 y)) _⟩
  · simp only [if_neg hy]
    have hne : kl y ≠ kl x := fun e => hy (kl_inj e)
    exact ⟨(Maps.atKey_put_other hne _ _).trans (h2 y).1, (Maps.has_put_other hne _).trans (h2 y).2⟩
theorem map_made (w : World) : MapIs (w.alloc (.map #[] 0)) w.heap.size 0 (fun _ => none) :=
  ⟨_, World.ownsMap_made w Tryz.prog 5 pElem, fun _ => ⟨rfl, rfl⟩⟩
def Far (w : World) (b : Nat) : Prop := ∀ (cs : Array Value) (e : TypeId) (z : Nat × Nat), w.heap[b]? = some (.cells cs e z) → e = 189 ∨ e = 191
structure NodeIs (w : World) (b : Nat) (m : Option Nat) (v : Option Int) : Prop where
  c0 : w.cell? ⟨b, 0, none⟩ = some (.map m)
  c1 : w.cell? ⟨b, 1, none⟩ = some (.bool v.isSome)
  c2 : w.cell? ⟨b, 2, none⟩ = some (.int .i64 (v.getD 0))
  fz : ∀ i, w.frozen? ⟨b, i, none⟩ = false
  tg : Far w b
theorem NodeIs.same {w w' : World} {b : Nat} {m : Option Nat} {v : Option Int} (h : NodeIs w b m v) (e : w'.heap[b]? = w.heap[b]?) : NodeIs w' b m v :=
  ⟨(World.cell?_of_block (a := ⟨b, 0, none⟩) e).trans h.c0, (World.cell?_of_block (a := ⟨b, 1, none⟩) e).trans h.c1, (World.cell?_of_block (a := ⟨b, 2, none⟩) e).trans h.c2, fun i => (World.frozen?_of_block (a := ⟨b, i, none⟩) e).trans (h.fz i), fun cs e' z => by rw [e]; exact h.tg cs e' z⟩
theorem lt_of_cell {w : World} {b i : Nat} {v : Value} (h : w.cell? ⟨b, i, none⟩ = some v) : b < w.heap.size := by
  by_cases hb : b < w.heap.size
  · exact hb
  · rw [World.cell?, show w.heap[(Addr.mk b i none).block]? = none from Array.getElem?_eq_none (by show w.heap.size ≤ b; omega)] at h; cases h
theorem NodeIs.lt {w : World} {b : Nat} {m : Option Nat} {v : Option Int} (h : NodeIs w b m v) : b < w.heap.size := lt_of_cell h.c0
abbrev Path := List UInt8
theorem tag_set {w : World} {b : Nat} (h : Far w b) (a : Addr) (v : Value) : Far (w.setCell a v) b := fun cs e' z e => by
  by_cases hb : b = a.block
  · subst hb
    unfold World.setCell at e
    simp only [Array.getElem?_modify, ↓reduceIte] at e
    cases ho : w.heap[a.block]? with
    | none => rw [ho] at e; cases e
    | some o =>
      rw [ho] at e
      cases o <;> simp at e
      rename_i c t z0
      rw [← e.2.1]
      exact h c t z0 ho
  · exact h cs e' z ((Below.heap_setCell _ _ _ _ hb).symm.trans e)
structure TrieAt (w : World) (B t : Nat) (N M : Path → Option Nat) (V : Path → Option Int) (c : Int) (k : Nat) : Prop where
  root : N [] = some t
  hB : ∀ p b, N p = some b → B ≤ b
  hM : ∀ p m, M p = some m → B ≤ m
  inj : ∀ p q b, N p = some b → N q = some b → p = q
  minj : ∀ p q m, M p = some m → M q = some m → p = q
  up : ∀ p x b, N (p ++ [x]) = some b → ∃ m, M p = some m
  mup : ∀ p m, M p = some m → ∃ b, N p = some b
  vup : ∀ p v, V p = some v → ∃ b, N p = some b
  node : ∀ p b, N p = some b → NodeIs w b (M p) (V p)
  maps : ∀ p m, M p = some m → MapIs w m k (fun x => N (p ++ [x]))
  count : w.cell? ⟨t, 3, none⟩ = some (.int .i64 c)
theorem TrieAt.look {w : World} {B t : Nat} {N M : Path → Option Nat} {V : Path → Option Int} {c : Int} {k : Nat} (T : TrieAt w B t N M V c k) (p : Path) (x : UInt8) :
    (Instr.lookup 187 (.map (M p)) (.int .u8 (x.toNat : Int)) false).run Tryz.prog w = .ok (ptr (N (p ++ [x]))) w := by
  cases hm : M p with
  | none =>
    rw [look_none]
    cases hn : N (p ++ [x]) with
    | none => rfl
    | some b => obtain ⟨m, h⟩ := T.up _ _ _ hn; rw [hm] at h; cases h
  | some m => exact (T.maps p m hm).look x
theorem TrieAt.same {w w' : World} {B t : Nat} {N M : Path → Option Nat} {V : Path → Option Int} {c : Int} {k : Nat} (T : TrieAt w B t N M V c k) (e : ∀ b, B ≤ b → b < w.heap.size → w'.heap[b]? = w.heap[b]?) : TrieAt w' B t N M V c k where
  root := T.root
  hB := T.hB
  hM := T.hM
  inj := T.inj
  minj := T.minj
  up := T.up
  mup := T.mup
  vup := T.vup
  node := fun p b h => (T.node p b h).same (e b (T.hB p b h) (T.node p b h).lt)
  maps := fun p m h => (T.maps p m h).same (e m (T.hM p m h) (T.maps p m h).lt)
  count := (World.cell?_of_block (a := ⟨t, 3, none⟩) (e t (T.hB _ _ T.root) (T.node _ _ T.root).lt)).trans T.count
theorem TrieAt.below {w w' : World} {B t : Nat} {N M : Path → Option Nat} {V : Path → Option Int} {c : Int} {k : Nat} (T : TrieAt w B t N M V c k) (b : Below w.heap.size w w') : TrieAt w' B t N M V c k :=
  T.same fun d _ hd => b.block d hd
end Go.Proofs.YtdiealijjhfhjaaGreatDoor.G6
namespace Go.Proofs.YtdiealijjhfhjaaGreatDoor.G6
open Go.RowKit Go.Maps
theorem snoc_inj {p q : Path} {x y : UInt8} (h : p ++ [x] = q ++ [y]) : p = q ∧ x = y := by
  have := List.append_inj' h rfl
  exact ⟨this.1, by simpa using this.2⟩
theorem TrieAt.grown {w w' : World} {B t : Nat} {N M : Path → Option Nat} {V : Path → Option Int} {c : Int} {k : Nat} (T : TrieAt w B t N M V c k) {p : Path} {b m b' : Nat} {x : UInt8} (hp : N p = some b)
    (hn : N (p ++ [x]) = none) (hm : ∀ m0, M p = some m0 → m0 = m) (hmB : B ≤ m) (hmnew : ∀ q, M q = some m → q = p) (hb' : w.heap.size ≤ b')
    (hcell : w'.cell? ⟨b, 0, none⟩ = some (.map (some m))) (hc1 : w'.cell? ⟨b, 1, none⟩ = w.cell? ⟨b, 1, none⟩) (hc2 : w'.cell? ⟨b, 2, none⟩ = w.cell? ⟨b, 2, none⟩) (hc3 : w'.cell? ⟨b, 3, none⟩ = w.cell? ⟨b, 3, none⟩) (hfz : ∀ i, w'.frozen? ⟨b, i, none⟩ = w.frozen? ⟨b, i, none⟩) (htg : Far w' b)
    (hoth : ∀ d, d < w.heap.size → d ≠ b → d ≠ m → w'.heap[d]? = w.heap[d]?)
    (hmap : MapIs w' m (k + 1) (fun y => if y = x then some b' else N (p ++ [y]))) (hnew : NodeIs w' b' none none) (hBw : B ≤ w.heap.size) (hbm : ∀ q d, N q = some d → d ≠ m) :
    TrieAt w' B t (fun q => if q = p ++ [x] then some b' else N q) (fun q => if q = p then some m else M q) V c (k + 1) where
  root := by
    have h : ([] : Path) ≠ p ++ [x] := by simp
    simp only [if_neg h]
    exact T.root
  hB := fun q d h => by
    split at h
    · cases h; omega
    · exact T.hB q d h
  hM := fun q d h => by
    split at h
    · cases h; exact hmB
    · exact T.hM q d h
  inj := fun q r d h1 h2 => by
    split at h1 <;> split at h2
    · rename_i e1 e2; rw [e1, e2]
    · cases h1; have := (T.node _ _ h2).lt; omega
    · cases h2; have := (T.node _ _ h1).lt; omega
    · exact T.inj q r d h1 h2
  minj := fun q r d h1 h2 => by
    split at h1 <;> split at h2
    · rename_i e1 e2; rw [e1, e2]
    · rename_i e1 e2; cases h1; rw [e1]; exact (hmnew r h2).symm
    · rename_i e1 e2; cases h2; rw [e2]; exact hmnew q h1
    · exact T.minj q r d h1 h2
  up := fun q y d h => by
    split
    · exact ⟨m, rfl⟩
    · rename_i hq
      split at h
      · rename_i e; exact absurd (snoc_inj e).1 hq
      · exact T.up q y d h
  mup := fun q d h => by
    have : ∃ d, N q = some d := by
      split at h
      · rename_i e; exact ⟨b, by rw [e]; exact hp⟩
      · exact T.mup q d h
    obtain ⟨d', h'⟩ := this
    split
    · exact ⟨b', rfl⟩
    · exact ⟨d', h'⟩
  vup := fun q v h => by
    obtain ⟨d', h'⟩ := T.vup q v h
    split
    · exact ⟨b', rfl⟩
    · exact ⟨d', h'⟩
  node := fun q d h => by
    split at h
    · rename_i e
      cases h
      have hqp : q ≠ p := fun e2 => by rw [e2] at e; simp at e
      have hMq : M q = none := by
        cases hq : M q with
        | none => rfl
        | some z => obtain ⟨d, hd⟩ := T.mup q z hq; rw [e, hn] at hd; cases hd
      have hVq : V q = none := by
        cases hq : V q with
        | none => rfl
        | some z => obtain ⟨d, hd⟩ := T.vup q z hq; rw [e, hn] at hd; cases hd
      rw [if_neg hqp, hMq, hVq]
      exact hnew
    · by_cases hqp : q = p
      · subst hqp
        rw [hp] at h; cases h
        have O := T.node q b hp
        rw [if_pos rfl]
        exact ⟨hcell, hc1.trans O.c1, hc2.trans O.c2, fun i => (hfz i).trans (O.fz i), htg⟩
      · rw [if_neg hqp]
        have O := T.node q d h
        exact O.same (hoth d O.lt (fun e => hqp (T.inj q p b (e ▸ h) hp)) (hbm q d h))
  maps := fun q d h => by
    split at h
    · rename_i e
      cases h
      subst e
      refine hmap.congr fun y => ?_
      by_cases hy : y = x
      · subst hy; rw [if_pos rfl, if_pos rfl]
      · rw [if_neg hy, if_neg (fun e => hy (snoc_inj e).2)]
    · rename_i e
      have O := T.maps q d h
      have hdm : d ≠ m := fun e2 => e (hmnew q (e2 ▸ h))
      have hdb : d ≠ b := fun e2 => by
        obtain ⟨D, ⟨es, clock, hbk, _⟩, _⟩ := O
        have := (T.node p b hp).c0
        rw [← e2, World.cell?] at this
        simp [hbk] at this
      refine ((O.same (hoth d O.lt hdb hdm)).mono (Nat.le_succ _)).congr fun y => ?_
      rw [if_neg (fun e2 => e (snoc_inj e2).1)]
  count := by
    by_cases ht : t = b
    · rw [ht, hc3, ← ht]; exact T.count
    · have O := T.node _ _ T.root
      exact (World.cell?_of_block (a := ⟨t, 3, none⟩) (hoth t O.lt ht (hbm _ _ T.root))).trans T.count
theorem node_ne_map {w : World} {b m k : Nat} {o : Option Nat} {v : Option Int} {f : UInt8 → Option Nat} (h : NodeIs w b o v) (g : MapIs w m k f) : b ≠ m := fun e2 => by
  obtain ⟨D, ⟨es, clock, hbk, _⟩, _⟩ := g
  have := h.c0
  rw [e2, World.cell?] at this
  simp [hbk] at this
def Free (N M : Path → Option Nat) (d : Nat) : Prop := ∀ q, N q ≠ some d ∧ M q ≠ some d
def Grew (w : World) (B t : Nat) (N M : Path → Option Nat) (V : Path → Option Int) (c : Int) (k : Nat) (q : Path) (e : Ending) (w' : World) : Prop :=
  ∃ b' N' M', e = .returned (.pointer (some ⟨b', 0, none⟩)) ∧ TrieAt w' B t N' M' V c (k + 1) ∧ N' q = some b' ∧ (∀ r, (N' r).isSome = ((N r).isSome || r == q)) ∧ Below B w w' ∧ ∀ d, d < w.heap.size → Free N M d → Free N' M' d ∧ w'.heap[d]? = w.heap[d]?
theorem eql150 (o : Option Nat) (w : World) : (binOp .eql 187 (.map o) (.map none)).run Tryz.prog w = .ok (.bool o.isNone) w := by
  cases o <;> kernel_rfl
set_option maxHeartbeats 1000000 in
set_option maxRecDepth 10000 in
theorem grow_any {w : World} {B t : Nat} {N M : Path → Option Nat} {V : Path → Option Int} {c : Int} {k : Nat} (T : TrieAt w B t N M V c k) {p : Path} {b : Nat} (x : UInt8) (hp : N p = some b) (hk : k < maxLen) (hBw : B ≤ w.heap.size) :
    Calls Tryz.prog 216 #[.pointer (some ⟨b, 0, none⟩), .int .u8 (x.toNat : Int)] w fun e w' => Grew w B t N M V c k (p ++ [x]) e w' := by
  have hlk := T.look p x
  have O := T.node p b hp
  have c0 := O.c0
  have f0 := O.fz 0
  have hbl := O.lt
  have HT : Hid (TrieAt w B t N M V c k) := T
  have HO : Hid (NodeIs w b (M p) (V p)) := O
  clear O
  cases hn : N (p ++ [x]) with
  | some b' =>
    rw [hn] at hlk
    obtain ⟨mo, hmo⟩ : ∃ mo, M p = mo := ⟨_, rfl⟩
    rw [hmo] at hlk c0
    simp only [ptr, Option.map_some] at hlk
    clear HO hmo T
    go_enter Tryz.func216, Tryz.ntmps216
    go_wp2_with fail
    go_ret
    refine ⟨b', N, M, rfl, ⟨HT.out.root, HT.out.hB, HT.out.hM, HT.out.inj, HT.out.minj, HT.out.up, HT.out.mup, HT.out.vup, HT.out.node, fun p m h => (HT.out.maps p m h).mono (Nat.le_succ _), HT.out.count⟩, hn, fun r => ?_, Below.refl _ _, fun d _ h => ⟨h, rfl⟩⟩
    by_cases hr : r = p ++ [x]
    · subst hr; rw [hn]; simp
    · simp [hr]
  | none =>
    rw [hn] at hlk
    simp only [ptr, Option.map_none] at hlk
    cases hm : M p with
    | some m =>
      rw [hm] at hlk c0
      have hmp := T.maps p m hm
      have hbm := node_ne_map HO.out hmp
      obtain ⟨W1, hW1⟩ : ∃ W1, W1 = w.alloc (.cells #[.map none, .bool false, .int .i64 0] 189) := ⟨_, rfl⟩
      have hbe : Below w.heap.size w W1 := by rw [hW1]; exact (Below.refl _ _).alloc (Nat.le_refl _) _
      have hnb : W1.heap[w.heap.size]? = some (.cells #[.map none, .bool false, .int .i64 0] 189 (0, 0)) := by rw [hW1]; exact heap_alloc_new _ _
      have hz : W1.heap.size = w.heap.size + 1 := by rw [hW1]; simp
      obtain ⟨w2, hup, hm2, hg⟩ := (hmp.same (hbe.block m hmp.lt)).put hk x w.heap.size
      have Hrest : Hid (Grew w B t N M V c k (p ++ [x]) (.returned (.pointer (some ⟨w.heap.size, 0, none⟩))) w2) := by
        have hoth : ∀ d, d < w.heap.size → d ≠ m → w2.heap[d]? = w.heap[d]? := fun d h1 h2 => (hg.block d (by omega) (by simpa using h2)).trans (hbe.block d h1)
        have hbb := hoth b hbl hbm
        have hnode : NodeIs w2 w.heap.size none none := by
          have e : w2.heap[w.heap.size]? = some (.cells #[.map none, .bool false, .int .i64 0] 189 (0, 0)) := (hg.block _ (by omega) (by have := hmp.lt; simp; omega)).trans hnb
          refine ⟨?_, ?_, ?_, fun i => ?_, fun cs e' z h => ?_⟩
          all_goals first | simp [World.cell?, e] | simp [World.frozen?, e] | (rw [e] at h; simp at h; exact .inl h.2.1.symm)
        refine ⟨w.heap.size, _, _, rfl, T.grown hp hn (fun m0 h => by rw [hm] at h; cases h; rfl) (T.hM _ _ hm) (fun q h => T.minj q p m h hm) (Nat.le_refl _) ((World.cell?_of_block (a := ⟨b, 0, none⟩) hbb).trans c0)
          (World.cell?_of_block (a := ⟨b, 1, none⟩) hbb) (World.cell?_of_block (a := ⟨b, 2, none⟩) hbb) (World.cell?_of_block (a := ⟨b, 3, none⟩) hbb) (fun i => World.frozen?_of_block (a := ⟨b, i, none⟩) hbb) (fun cs e z => by rw [hbb]; exact HO.out.tg cs e z)
          (fun d h1 _ h3 => hoth d h1 h3) hm2 hnode hBw (fun q d h => node_ne_map (T.node q d h) hmp), by simp, fun r => ?_, ?_, fun d hd hf => ⟨fun q => ?_, ?_⟩⟩
        · by_cases hr : r = p ++ [x]
          · subst hr; simp
          · simp [hr]
        · exact ⟨hg.os.trans hbe.os, hg.tape.trans hbe.tape, hg.output.trans hbe.output, by have := hg.size; omega, fun d hd => hoth d (by omega) (by have := T.hM _ _ hm; omega)⟩
        · constructor
          · show ¬ (if _ then _ else _) = _
            split
            · simp; omega
            · exact (hf q).1
          · show ¬ (if _ then _ else _) = _
            split
            · simp; exact fun e => (hf p).2 (by rw [← e]; exact hm)
            · exact (hf q).2
        · exact hoth d hd (fun e => (hf p).2 (by rw [e]; exact hm))
      rw [hW1] at hup
      clear hm2 hg hbe hnb hz hmp hm T hbm hW1
      have hq := eql150 (some m) w
      simp only [Option.isNone_some] at hq
      go_enter Tryz.func216, Tryz.ntmps216
      go_wp2_with fail
      go_ret
      exact Hrest.out
    | none =>
      rw [hm] at hlk c0
      obtain ⟨W0, hW0⟩ : ∃ W0, W0 = w.alloc (.map #[] 0) := ⟨_, rfl⟩
      have b0 : Below w.heap.size w W0 := by rw [hW0]; exact (Below.refl _ _).alloc (Nat.le_refl _) _
      have z0 : W0.heap.size = w.heap.size + 1 := by rw [hW0]; simp
      have m0 : MapIs W0 w.heap.size 0 (fun _ => none) := by rw [hW0]; exact map_made w
      obtain ⟨W1, hW1⟩ : ∃ W1, W1 = W0.setCell ⟨b, 0, none⟩ (.map (some w.heap.size)) := ⟨_, rfl⟩
      have z1 : W1.heap.size = w.heap.size + 1 := by rw [hW1]; simp [World.setCell, z0]
      have e0 : W0.cell? ⟨b, 0, none⟩ = some (.map none) := (b0.cell (p := ⟨b, 0, none⟩) hbl).trans c0
      have k0 : W1.cell? ⟨b, 0, none⟩ = some (.map (some w.heap.size)) := by rw [hW1]; exact World.cell?_setCell_same _ _ _ e0
      have k1 : ∀ i, i ≠ 0 → W1.cell? ⟨b, i, none⟩ = w.cell? ⟨b, i, none⟩ := fun i hi => by
        rw [hW1, World.cell?_setCell_other _ _ _ _ (fun e => hi (by injection e with _ h; exact h.symm))]
        exact b0.cell (p := ⟨b, i, none⟩) hbl
      have kf : ∀ i, W1.frozen? ⟨b, i, none⟩ = w.frozen? ⟨b, i, none⟩ := fun i => by
        rw [hW1, World.frozen?_setCell]
        exact b0.frozen (p := ⟨b, i, none⟩) hbl
      have kb : ∀ d, d ≠ b → W1.heap[d]? = W0.heap[d]? := fun d hd => by rw [hW1]; exact Below.heap_setCell _ _ _ _ hd
      have m1 : MapIs W1 w.heap.size 0 (fun _ => none) := m0.same (kb _ (by omega))
      obtain ⟨W2, hW2⟩ : ∃ W2, W2 = W1.alloc (.cells #[.map none, .bool false, .int .i64 0] 189) := ⟨_, rfl⟩
      have b2 : Below W1.heap.size W1 W2 := by rw [hW2]; exact (Below.refl _ _).alloc (Nat.le_refl _) _
      have hnb : W2.heap[w.heap.size + 1]? = some (.cells #[.map none, .bool false, .int .i64 0] 189 (0, 0)) := by rw [hW2, ← z1]; exact heap_alloc_new _ _
      have z2 : W2.heap.size = w.heap.size + 2 := by rw [hW2]; simp [z1]
      have m2 : MapIs W2 w.heap.size 0 (fun _ => none) := m1.same (b2.block _ (by omega))
      obtain ⟨w3, hup, hm3, hg⟩ := m2.put (by unfold maxLen; omega) x (w.heap.size + 1)
      have hall : ∀ y, N (p ++ [y]) = none := fun y => by
        cases hy : N (p ++ [y]) with
        | none => rfl
        | some d => obtain ⟨m, h⟩ := T.up _ _ _ hy; rw [hm] at h; cases h
      have Hrest : Hid (Grew w B t N M V c k (p ++ [x]) (.returned (.pointer (some ⟨w.heap.size + 1, 0, none⟩))) w3) := by
        have hoth : ∀ d, d < w.heap.size → d ≠ b → w3.heap[d]? = w.heap[d]? := fun d h1 h2 => (hg.block d (by omega) (by simp; omega)).trans ((b2.block d (by omega)).trans ((kb d h2).trans (b0.block d h1)))
        have hbb : w3.heap[b]? = W1.heap[b]? := (hg.block b (by omega) (by simp; omega)).trans (b2.block b (by omega))
        have hnode : NodeIs w3 (w.heap.size + 1) none none := by
          have e : w3.heap[w.heap.size + 1]? = some (.cells #[.map none, .bool false, .int .i64 0] 189 (0, 0)) := (hg.block _ (by omega) (by simp)).trans hnb
          refine ⟨?_, ?_, ?_, fun i => ?_, fun cs e' z h => ?_⟩
          all_goals first | simp [World.cell?, e] | simp [World.frozen?, e] | (rw [e] at h; simp at h; exact .inl h.2.1.symm)
        have hMlt : ∀ q m, M q = some m → m < w.heap.size := fun q m h => (T.maps q m h).lt
        refine ⟨w.heap.size + 1, _, _, rfl, T.grown (m := w.heap.size) hp hn (fun m0 h => by rw [hm] at h; cases h) hBw (fun q h => by have := hMlt _ _ h; omega) (by omega) ((World.cell?_of_block (a := ⟨b, 0, none⟩) hbb).trans k0)
          ((World.cell?_of_block (a := ⟨b, 1, none⟩) hbb).trans (k1 1 (by decide))) ((World.cell?_of_block (a := ⟨b, 2, none⟩) hbb).trans (k1 2 (by decide))) ((World.cell?_of_block (a := ⟨b, 3, none⟩) hbb).trans (k1 3 (by decide))) (fun i => (World.frozen?_of_block (a := ⟨b, i, none⟩) hbb).trans (kf i)) (fun cs e z => by rw [hbb, hW1]; exact tag_set (fun cs e z => by rw [b0.block b hbl]; exact HO.out.tg cs e z) _ _ cs e z)
          (fun d h1 h2 _ => hoth d h1 h2) ((hm3.mono (by omega)).congr fun y => by rw [hall y]) hnode hBw (fun q d h => by have := (T.node q d h).lt; omega), by simp, fun r => ?_, ?_, fun d hd hf => ⟨fun q => ?_, ?_⟩⟩
        · by_cases hr : r = p ++ [x]
          · subst hr; simp
          · simp [hr]
        · exact ⟨hg.os.trans (b2.os.trans (by rw [hW1]; exact b0.os)), hg.tape.trans (b2.tape.trans (by rw [hW1]; exact b0.tape)), hg.output.trans (b2.output.trans (by rw [hW1]; exact b0.output)), by have := hg.size; omega, fun d hd => hoth d (by omega) (by have := T.hB _ _ hp; omega)⟩
        · constructor
          · show ¬ (if _ then _ else _) = _
            split
            · simp; omega
            · exact (hf q).1
          · show ¬ (if _ then _ else _) = _
            split
            · simp; omega
            · exact (hf q).2
        · exact hoth d hd (fun e => (hf p).1 (by rw [e]; exact hp))
      rw [hW2, hW1, hW0, World.setCell_alloc_past _ _ _ _ hbl] at hup
      clear b0 z0 m0 z1 e0 k0 k1 kf kb m1 b2 hnb z2 m2 hm3 hg hall T hW0 hW1 hW2 hm
      have hq := eql150 none w
      simp only [Option.isNone_none] at hq
      have hmm := @run_makeMap Tryz.prog
      go_enter Tryz.func216, Tryz.ntmps216
      go_wp2_with fail
      go_ret
      exact Hrest.out
end Go.Proofs.YtdiealijjhfhjaaGreatDoor.G6
namespace Go.Proofs.YtdiealijjhfhjaaGreatDoor.G6
open Go.RowKit Go.Maps
structure Rf where
  n : ByteArray
  r : Int
abbrev Rf.nm (x : Rf) : Path := x.n.data.toList
def Rf.ok (x : Rf) : Bool := decide (0 < x.n.size) && decide (x.n.size ≤ 8)
def Rf.cells (x : Rf) : List Value := [.string x.n, .int .i64 x.r]
def val : List Rf → Path → Option Int
  | [], _ => none
  | x :: l, p => if x.ok = true ∧ x.nm = p then some x.r else val l p
def pre (l : List Rf) (p : Path) : Bool := l.any fun x => x.ok && p.isPrefixOf x.nm
def cnt : List Rf → List Rf → Nat
  | _, [] => 0
  | seen, x :: l => (if x.ok = true ∧ val seen x.nm = none then 1 else 0) + cnt (seen ++ [x]) l
theorem val_append (l k : List Rf) (p : Path) : val (l ++ k) p = (val l p).or (val k p) := by
  induction l with
  | nil => rfl
  | cons x l ih =>
    simp only [List.cons_append, val]
    split
    · rfl
    · exact ih
theorem cnt_append (s l k : List Rf) : cnt s (l ++ k) = cnt s l + cnt (s ++ l) k := by
  induction l generalizing s with
  | nil => simp [cnt]
  | cons x l ih => simp only [List.cons_append, cnt, ih, List.append_assoc, List.nil_append]; omega
theorem cnt_le (s l : List Rf) : cnt s l ≤ l.length := by
  induction l generalizing s with
  | nil => exact Nat.le_refl _
  | cons x l ih => simp only [cnt, List.length_cons]; have := ih (s ++ [x]); split <;> omega
theorem pre_append (l k : List Rf) (p : Path) : pre (l ++ k) p = (pre l p || pre k p) := by simp [pre]
theorem val_pre {l : List Rf} {p : Path} {v : Int} (h : val l p = some v) : pre l p = true := by
  induction l with
  | nil => cases h
  | cons x l ih =>
    simp only [val] at h
    simp only [pre, List.any_cons, Bool.or_eq_true]
    split at h
    · rename_i hx; left; simp [hx.1, hx.2]
    · right; exact ih h
def TrieIs (w : World) (B t : Nat) (l : List Rf) : Prop :=
  ∃ N M k, TrieAt w B t N M (val l) (cnt [] l : Nat) k ∧ k ≤ 8 * l.length ∧ ∀ p, (N p).isSome = (p.isEmpty || pre l p)
theorem TrieIs.below {w w' : World} {B t : Nat} {l : List Rf} (T : TrieIs w B t l) (b : Below w.heap.size w w') : TrieIs w' B t l := by
  obtain ⟨N, M, k, h1, h2⟩ := T
  exact ⟨N, M, k, h1.below b, h2⟩
theorem take_snoc (s : ByteArray) (i : Nat) (h : i < s.size) : s.data.toList.take (i + 1) = s.data.toList.take i ++ [s[i]] := by
  have h2 : i < s.data.toList.length := by rw [Array.length_toList]; exact h
  rw [← List.take_append_getElem h2]
  rfl
theorem take_all (s : ByteArray) : s.data.toList.take s.size = s.data.toList := List.take_of_length_le (by rw [Array.length_toList]; exact Nat.le_refl _)
theorem prefix_snoc (r q : Path) (x : UInt8) : r.isPrefixOf (q ++ [x]) = (r.isPrefixOf q || r == q ++ [x]) := by
  rw [Bool.eq_iff_iff]
  simp only [Bool.or_eq_true, List.isPrefixOf_iff_prefix, beq_iff_eq]
  constructor
  · rintro ⟨t, ht⟩
    rcases List.eq_nil_or_concat t with rfl | ⟨t', y, rfl⟩
    · right; simpa using ht
    · left
      rw [List.concat_eq_append, ← List.append_assoc] at ht
      exact ⟨t', (snoc_inj ht).1⟩
  · rintro (⟨t, ht⟩ | rfl)
    · exact ⟨t ++ [x], by rw [← List.append_assoc, ht]⟩
    · exact ⟨[], by simp⟩
theorem TrieAt.told {w w' : World} {B t : Nat} {N M : Path → Option Nat} {V : Path → Option Int} {c : Int} {k : Nat} (T : TrieAt w B t N M V c k) {p : Path} {b : Nat} {r c' : Int} (hp : N p = some b)
    (h0 : w'.cell? ⟨b, 0, none⟩ = w.cell? ⟨b, 0, none⟩) (h1 : w'.cell? ⟨b, 1, none⟩ = some (.bool true)) (h2 : w'.cell? ⟨b, 2, none⟩ = some (.int .i64 r)) (hfz : ∀ i, w'.frozen? ⟨b, i, none⟩ = false)
    (hoth : ∀ d, d < w.heap.size → d ≠ b → d ≠ t → w'.heap[d]? = w.heap[d]?) (ht : t ≠ b → w'.cell? ⟨t, 0, none⟩ = w.cell? ⟨t, 0, none⟩ ∧ w'.cell? ⟨t, 1, none⟩ = w.cell? ⟨t, 1, none⟩ ∧ w'.cell? ⟨t, 2, none⟩ = w.cell? ⟨t, 2, none⟩ ∧ ∀ i, w'.frozen? ⟨t, i, none⟩ = w.frozen? ⟨t, i, none⟩)
    (hc : w'.cell? ⟨t, 3, none⟩ = some (.int .i64 c')) (htg : ∀ d : Nat, Far w d → Far w' d) : TrieAt w' B t N M (fun q => if q = p then some r else V q) c' k where
  root := T.root
  hB := T.hB
  hM := T.hM
  inj := T.inj
  minj := T.minj
  up := T.up
  mup := T.mup
  vup := fun q v h => by
    by_cases hq : q = p
    · subst hq; exact ⟨b, hp⟩
    · simp only [if_neg hq] at h; exact T.vup q v h
  node := fun q d h => by
    have O := T.node q d h
    by_cases hq : q = p
    · subst hq
      rw [hp] at h; cases h
      simp only [if_pos]
      exact ⟨h0.trans O.c0, h1, h2, hfz, htg _ O.tg⟩
    · simp only [if_neg hq]
      have hdb : d ≠ b := fun e => hq (T.inj q p b (e ▸ h) hp)
      by_cases hdt : d = t
      · subst hdt
        obtain ⟨a0, a1, a2, a3⟩ := ht hdb
        exact ⟨a0.trans O.c0, a1.trans O.c1, a2.trans O.c2, fun i => (a3 i).trans (O.fz i), htg _ O.tg⟩
      · exact O.same (hoth d O.lt hdb hdt)
  maps := fun q m h => by
    have O := T.maps q m h
    exact O.same (hoth m O.lt (fun e => node_ne_map (T.node p b hp) O e.symm) (fun e => node_ne_map (T.node _ _ T.root) O e.symm))
  count := hc
def cAfter (V : Path → Option Int) (p : Path) (c : Int) : Int := c + (if (V p).isSome then 0 else 1)
def vAfter (V : Path → Option Int) (p : Path) (r : Int) : Path → Option Int := fun q => if q = p then some ((V q).getD r) else V q
set_option maxHeartbeats 1000000 in
set_option maxRecDepth 10000 in
theorem put_walk {w : World} {B t : Nat} {N M : Path → Option Nat} {V : Path → Option Int} {c : Int} {k : Nat} (T : TrieAt w B t N M V c k) (x : Rf) (hk : k ≤ 1000000) (hx : x.n.size ≤ 8) (hBw : B ≤ w.heap.size) (hc0 : 0 ≤ c) (hc1 : c ≤ 1000000) :
    Calls Tryz.prog 195 #[.pointer (some ⟨t, 0, none⟩), .agg #[.string x.n, .int .i64 x.r]] w fun e w' => e = .returned (.tuple #[]) ∧ ∃ N' M', TrieAt w' B t N' M' (vAfter V x.nm x.r) (cAfter V x.nm c) (k + x.n.size) ∧ (∀ r, (N' r).isSome = ((N r).isSome || r.isPrefixOf x.nm)) ∧ Below B w w' := by
  obtain ⟨n, r⟩ := x
  simp only at hx ⊢
  have hbox : (w.alloc (.cells #[.string n, .int .i64 r] 172)).heap[w.heap.size]? = some (.cells #[.string n, .int .i64 r] 172 (0, 0)) := heap_alloc_new _ _
  have T1 : TrieAt (w.alloc (.cells #[.string n, .int .i64 r] 172)) B t N M V c k := T.below ((Below.refl _ _).alloc (Nat.le_refl _) _)
  have hfree : Free N M w.heap.size := fun q => ⟨fun e => by have := (T.node _ _ e).lt; omega, fun e => by have := (T.maps _ _ e).lt; omega⟩
  have HS : Hid (∃ Ni Mi, TrieAt (w.alloc (.cells #[.string n, .int .i64 r] 172)) B t Ni Mi V c (k + 0) ∧ Ni (n.data.toList.take 0) = some t ∧ (∀ q, (Ni q).isSome = ((N q).isSome || q.isPrefixOf (n.data.toList.take 0))) ∧ Free Ni Mi w.heap.size ∧ (w.alloc (.cells #[.string n, .int .i64 r] 172)).heap[w.heap.size]? = some (.cells #[.string n, .int .i64 r] 172 (0, 0))) := by
    refine ⟨N, M, T1, T.root, fun q => ?_, hfree, hbox⟩
    rw [List.take_zero]
    cases q with
    | nil => rw [T.root]; rfl
    | cons y q => simp [List.isPrefixOf]
  clear hbox T1 hfree T
  go_enter Tryz.func195, Tryz.ntmps195
  go_wp2_with fail
  go_loopw [4, 12] (fun nv iv wr => ∃ (i b : Nat), iv = .int .i64 i ∧ i ≤ n.size ∧ nv = .pointer (some ⟨b, 0, none⟩) ∧ Below B w wr ∧ w.heap.size < wr.heap.size ∧ ∃ Ni Mi, TrieAt wr B t Ni Mi V c (k + i) ∧ Ni (n.data.toList.take i) = some b ∧ (∀ q, (Ni q).isSome = ((N q).isSome || q.isPrefixOf (n.data.toList.take i))) ∧ Free Ni Mi w.heap.size ∧ wr.heap[w.heap.size]? = some (.cells #[.string n, .int .i64 r] 172 (0, 0))) (fun _ iv _ => n.size - (intOf iv).toNat)
  case atStart => exact ⟨0, t, rfl, Nat.zero_le _, rfl, (Below.refl _ _).alloc hBw _, by simp, HS.out⟩
  case round =>
    obtain ⟨i, b, rfl, hi, rfl, hbl, hsz, Ni, Mi, Ti, hb, hq, hfr, hbox⟩ := hrel
    have x0 : wr.cell? ⟨w.heap.size, 0, none⟩ = some (.string n) := by simp [World.cell?, hbox]
    have x1 : wr.cell? ⟨w.heap.size, 1, none⟩ = some (.int .i64 r) := by simp [World.cell?, hbox]
    by_cases hlt : i < n.size
    · have HQ : Hid ((∀ q, (Ni q).isSome = ((N q).isSome || q.isPrefixOf (n.data.toList.take i))) ∧ Free Ni Mi w.heap.size ∧ wr.heap[w.heap.size]? = some (.cells #[.string n, .int .i64 r] 172 (0, 0)) ∧ Below B w wr) := ⟨hq, hfr, hbox, hbl⟩
      have hBr : B ≤ wr.heap.size := Nat.le_trans hBw (by omega)
      have hgr := grow_any Ti n[i] hb (by unfold maxLen; omega) hBr
      clear hq hfr hbox hbl Ti hb HS
      go_wp2_with fail
      refine hgr.mono ?_
      rintro e w1 ⟨b', N', M', rfl, T', hb', hq', hbe', hfree'⟩
      have HE : Hid (Below B w w1 ∧ w.heap.size < w1.heap.size ∧ ∃ Ni Mi, TrieAt w1 B t Ni Mi V c (k + (i + 1)) ∧ Ni (n.data.toList.take (i + 1)) = some b' ∧ (∀ q, (Ni q).isSome = ((N q).isSome || q.isPrefixOf (n.data.toList.take (i + 1)))) ∧ Free Ni Mi w.heap.size ∧ w1.heap[w.heap.size]? = some (.cells #[.string n, .int .i64 r] 172 (0, 0))) := by
        obtain ⟨hq, hfr, hbox, hbl⟩ := HQ.out
        obtain ⟨g1, g2⟩ := hfree' w.heap.size hsz hfr
        refine ⟨hbl.trans hbe', Nat.lt_of_lt_of_le hsz hbe'.size, N', M', T', by rw [take_snoc n i hlt]; exact hb', fun q => ?_, g1, g2.trans hbox⟩
        rw [hq' q, hq q, take_snoc n i hlt, prefix_snoc, Bool.or_assoc]
      clear T' hb' hq' hbe' hfree' hgr
      go_wp2_with fail
      exact ⟨⟨i + 1, b', by go_num, by omega, rfl, HE.out⟩, by simp [intOf]; omega⟩
    · have hie : i = n.size := by omega
      subst hie
      rw [take_all] at hb hq
      have O := Ti.node _ _ hb
      have R := Ti.node _ _ Ti.root
      have hne : b ≠ w.heap.size := fun e => (hfr n.data.toList).1 (e ▸ hb)
      have hne2 : w.heap.size ≠ b := fun e => hne e.symm
      have c1 := O.c1
      have c2 := O.c2
      have f1 := O.fz 1
      have f2 := O.fz 2
      have f3 := R.fz 3
      have c3 := Ti.count
      have l1 := O.lt
      have l2 := R.lt
      have HQ : Hid (TrieAt wr B t Ni Mi V c (k + n.size) ∧ Ni n.data.toList = some b ∧ (∀ q, (Ni q).isSome = ((N q).isSome || q.isPrefixOf n.data.toList)) ∧ Below B w wr ∧ NodeIs wr b (Mi n.data.toList) (V n.data.toList) ∧ NodeIs wr t (Mi []) (V [])) := ⟨Ti, hb, hq, hbl, O, R⟩
      clear Ti hb hq hfr hbl HS O R hlt
      cases hv : V n.data.toList with
      | some v =>
        rw [hv] at c1
        simp only [Option.isSome_some] at c1
        clear c2 f1 f2 f3 c3
        go_wp2_with fail
        refine bodyPost_ret (results_none rfl _ _ _) rfl ⟨rfl, Ni, Mi, ?_, HQ.out.2.2.1, HQ.out.2.2.2.1⟩
        have e : vAfter V n.data.toList r = V := by
          funext p
          unfold vAfter
          split
          · rename_i hp; rw [hp, hv]; rfl
          · rfl
        have e2 : cAfter V n.data.toList c = c := by unfold cAfter; rw [hv]; simp
        show TrieAt wr B t Ni Mi (vAfter V n.data.toList r) (cAfter V n.data.toList c) (k + n.size)
        rw [e, e2]
        exact HQ.out.1
      | none =>
        rw [hv] at c1 c2
        simp only [Option.isSome_none] at c1
        go_wp2_with fail
        go_region
        generalize hW2 : ((wr.setCell ⟨b, 1, none⟩ (.bool true)).setCell ⟨b, 2, none⟩ (.int .i64 r)).drew = W2
        have ad : ∀ {d i j e : Nat}, i ≠ j → (⟨d, i, none⟩ : Addr) ≠ ⟨e, j, none⟩ := fun h e => h (by injection e)
        have w3 : W2.cell? ⟨t, 3, none⟩ = some (.int .i64 c) := by
          rw [← hW2, World.cell?_drew, World.cell?_setCell_other _ _ _ _ (ad (by decide)), World.cell?_setCell_other _ _ _ _ (ad (by decide))]; exact c3
        have wf : ∀ d i, W2.frozen? ⟨d, i, none⟩ = wr.frozen? ⟨d, i, none⟩ := fun d i => by rw [← hW2, World.frozen?_drew, World.frozen?_setCell, World.frozen?_setCell]
        have w3f : W2.frozen? ⟨t, 3, none⟩ = false := (wf t 3).trans f3
        have HF : Hid (∃ N' M', TrieAt (W2.setCell ⟨t, 3, none⟩ (.int .i64 (c + 1))) B t N' M' (vAfter V n.data.toList r) (cAfter V n.data.toList c) (k + n.size) ∧ (∀ q, (N' q).isSome = ((N q).isSome || q.isPrefixOf n.data.toList)) ∧ Below B w (W2.setCell ⟨t, 3, none⟩ (.int .i64 (c + 1)))) := by
          obtain ⟨T, hb, hq, hbl, O, R⟩ := HQ.out
          have hbB := T.hB _ _ hb
          have htB := T.hB _ _ T.root
          have e2 : cAfter V n.data.toList c = c + 1 := by unfold cAfter; rw [hv]; rfl
          have e1 : vAfter V n.data.toList r = fun q => if q = n.data.toList then some r else V q := by
            funext q
            unfold vAfter
            by_cases h : q = n.data.toList
            · rw [if_pos h, if_pos h, h, hv]; rfl
            · rw [if_neg h, if_neg h]
          have g1 : W2.cell? ⟨b, 1, none⟩ = some (.bool true) := by
            rw [← hW2, World.cell?_drew, World.cell?_setCell_other _ _ _ _ (ad (by decide))]; exact World.cell?_setCell_same _ _ _ c1
          have g2 : W2.cell? ⟨b, 2, none⟩ = some (.int .i64 r) := by
            rw [← hW2, World.cell?_drew]
            exact World.cell?_setCell_same _ _ _ ((World.cell?_setCell_other _ _ _ _ (ad (by decide))).trans c2)
          have g0 : W2.cell? ⟨b, 0, none⟩ = wr.cell? ⟨b, 0, none⟩ := by
            rw [← hW2, World.cell?_drew, World.cell?_setCell_other _ _ _ _ (ad (by decide)), World.cell?_setCell_other _ _ _ _ (ad (by decide))]
          have gb : ∀ d, d ≠ b → W2.heap[d]? = wr.heap[d]? := fun d h => by
            rw [← hW2]
            exact (Below.heap_setCell _ _ _ _ h).trans (Below.heap_setCell _ _ _ _ h)
          have gs : W2.heap.size = wr.heap.size := by rw [← hW2]; simp [World.setCell, World.drew]
          refine ⟨Ni, Mi, ?_, hq, ?_⟩
          · rw [e1, e2]
            refine T.told hb ?_ ?_ ?_ (fun i => ?_) (fun d h1 h2 h3 => ?_) (fun h => ?_) ?_ (fun d hd => tag_set (by rw [← hW2]; exact tag_set (tag_set hd _ _) _ _) _ _)
            · rw [World.cell?_setCell_other _ _ _ _ (ad (by decide))]; exact g0
            · rw [World.cell?_setCell_other _ _ _ _ (ad (by decide))]; exact g1
            · rw [World.cell?_setCell_other _ _ _ _ (ad (by decide))]; exact g2
            · rw [World.frozen?_setCell, wf]; exact O.fz i
            · exact (Below.heap_setCell _ _ _ _ h3).trans (gb d h2)
            · refine ⟨?_, ?_, ?_, fun i => ?_⟩
              · rw [World.cell?_setCell_other _ _ _ _ (ad (by decide))]; exact World.cell?_of_block (a := ⟨t, 0, none⟩) (gb t h)
              · rw [World.cell?_setCell_other _ _ _ _ (ad (by decide))]; exact World.cell?_of_block (a := ⟨t, 1, none⟩) (gb t h)
              · rw [World.cell?_setCell_other _ _ _ _ (ad (by decide))]; exact World.cell?_of_block (a := ⟨t, 2, none⟩) (gb t h)
              · rw [World.frozen?_setCell, wf]
            · exact World.cell?_setCell_same _ _ _ w3
          · refine Below.setCell ?_ htB _
            rw [← hW2]
            exact ((hbl.setCell (p := ⟨b, 1, none⟩) hbB _).setCell (p := ⟨b, 2, none⟩) hbB _).drew
        clear HQ c1 c2 f1 f2 f3 c3 x0 x1 hbox hW2 wf
        go_wp2_with fail
        refine bodyPost_end (results_none rfl _ _ _) rfl ⟨rfl, ?_⟩
        exact HF.out
theorem val_one (l : List Rf) (x : Rf) (hx : x.ok = true) : vAfter (val l) x.nm x.r = val (l ++ [x]) := by
  funext p
  rw [val_append]
  unfold vAfter
  by_cases hp : p = x.nm
  · rw [if_pos hp]
    cases h : val l p with
    | some v => rfl
    | none => simp [val, hx, hp]
  · rw [if_neg hp]
    have : val [x] p = none := by simp [val]; exact fun _ e => absurd e.symm hp
    rw [this, Option.or_none]
theorem cnt_one (l : List Rf) (x : Rf) (hx : x.ok = true) : cAfter (val l) x.nm (cnt [] l : Nat) = (cnt [] (l ++ [x]) : Nat) := by
  rw [cnt_append]
  unfold cAfter
  simp only [cnt, hx, List.nil_append, true_and, Nat.add_zero]
  cases val l x.nm <;> simp
theorem pre_one (l : List Rf) (x : Rf) (p : Path) (hx : x.ok = true) : pre (l ++ [x]) p = (pre l p || p.isPrefixOf x.nm) := by
  rw [pre_append]
  simp [pre, hx]
theorem TrieIs.skip {w : World} {B t : Nat} {l : List Rf} (T : TrieIs w B t l) (x : Rf) (hx : x.ok = false) : TrieIs w B t (l ++ [x]) := by
  obtain ⟨N, M, k, h1, h2, h3⟩ := T
  have e1 : val (l ++ [x]) = val l := by
    funext p
    rw [val_append]
    simp [val, hx]
  have e2 : cnt [] (l ++ [x]) = cnt [] l := by
    rw [cnt_append]
    simp [cnt, hx]
  refine ⟨N, M, k, by rw [e1, e2]; exact h1, by rw [List.length_append]; omega, fun p => ?_⟩
  rw [h3 p, pre_append]
  simp [pre, hx]
theorem put_any {w : World} {B t : Nat} {l : List Rf} (T : TrieIs w B t l) (x : Rf) (hl : l.length ≤ 100000) (hx : x.ok = true) (hBw : B ≤ w.heap.size) :
    Calls Tryz.prog 195 #[.pointer (some ⟨t, 0, none⟩), .agg #[.string x.n, .int .i64 x.r]] w fun e w' => e = .returned (.tuple #[]) ∧ TrieIs w' B t (l ++ [x]) ∧ Below B w w' := by
  obtain ⟨N, M, k, h1, h2, h3⟩ := T
  have hc := cnt_le [] l
  have hx8 : x.n.size ≤ 8 := by unfold Rf.ok at hx; simp at hx; omega
  refine (put_walk h1 x (by omega) hx8 hBw (by omega) (by omega)).mono ?_
  rintro e w' ⟨rfl, N', M', T', hq, hb⟩
  refine ⟨rfl, ⟨N', M', k + x.n.size, ?_, by rw [List.length_append]; simp; omega, fun p => ?_⟩, hb⟩
  · rw [← val_one l x hx, ← cnt_one l x hx]; exact T'
  · rw [hq p, h3 p, pre_one l x p hx, Bool.or_assoc]
def RefRow (w : World) (lo : Option Addr) (l : List Rf) : Prop :=
  ∀ i x, l[i]? = some x → ∃ b off, lo = some ⟨b, off, none⟩ ∧ b < w.heap.size ∧ w.cell? ⟨b, off + i * 2, none⟩ = some (.string x.n) ∧ w.cell? ⟨b, off + i * 2 + 1, none⟩ = some (.int .i64 x.r)
theorem RefRow.below {w w' : World} {lo : Option Addr} {l : List Rf} (h : RefRow w lo l) (b : Below w.heap.size w w') : RefRow w' lo l := fun i x hx => by
  obtain ⟨k, off, h1, h2, h3, h4⟩ := h i x hx
  exact ⟨k, off, h1, Nat.lt_of_lt_of_le h2 b.size, (b.cell (p := ⟨k, off + i * 2, none⟩) h2).trans h3, (b.cell (p := ⟨k, off + i * 2 + 1, none⟩) h2).trans h4⟩
theorem trie_start (w : World) : TrieIs (w.alloc (.cells #[.map none, .bool false, .int .i64 0, .int .i64 0] 191)) w.heap.size w.heap.size [] := by
  obtain ⟨W, hW⟩ : ∃ W, W = w.alloc (.cells #[.map none, .bool false, .int .i64 0, .int .i64 0] 191) := ⟨_, rfl⟩
  have e : W.heap[w.heap.size]? = some (.cells #[.map none, .bool false, .int .i64 0, .int .i64 0] 191 (0, 0)) := by rw [hW]; exact heap_alloc_new _ _
  rw [← hW]
  clear hW
  refine ⟨fun p => if p = [] then some w.heap.size else none, fun _ => none, 0, ?_, Nat.zero_le _, fun p => ?_⟩
  · refine ⟨by simp, fun p b h => ?_, fun p m h => by simp at h, fun p q b h1 h2 => ?_, fun p q b h1 h2 => by simp at h1, fun p x b h => by simp at h, fun p m h => by simp at h, fun p v h => by simp [val] at h, fun p b h => ?_, fun p m h => by simp at h, by simp [World.cell?, e, cnt]⟩
    · split at h
      · cases h; exact Nat.le_refl _
      · cases h
    · split at h1
      · split at h2
        · rename_i e1 e2; rw [e1, e2]
        · cases h2
      · cases h1
    · split at h
      · cases h
        refine ⟨?_, ?_, ?_, fun i => ?_, fun cs e' z h => ?_⟩
        all_goals first | simp [World.cell?, e, val] | simp [World.frozen?, e] | (rw [e] at h; simp at h; exact .inr h.2.1.symm)
      · cases h
  · cases p <;> simp [pre]
set_option maxHeartbeats 1000000 in
set_option maxRecDepth 10000 in
theorem new_any {w : World} {lo : Option Addr} {l : List Rf} (len cap : Nat) (hrow : RefRow w lo l) (hlen : l.length = len) (hl : len ≤ 100000) :
    Calls Tryz.prog 161 #[.slice lo len cap] w fun e w' => ∃ t, e = .returned (.pointer (some ⟨t, 0, none⟩)) ∧ TrieIs w' w.heap.size t l ∧ Below w.heap.size w w' := by
  have HR : Hid (RefRow w lo l ∧ l.length = len) := ⟨hrow, hlen⟩
  have HT : Hid (TrieIs (w.alloc (.cells #[.map none, .bool false, .int .i64 0, .int .i64 0] 191)) w.heap.size w.heap.size (l.take 0)) := trie_start w
  clear hrow hlen
  go_enter Tryz.func161, Tryz.ntmps161
  go_wp2_with fail
  go_loopw [10] (fun iv wr => ∃ i : Nat, iv = .int .i64 i ∧ i ≤ len ∧ Below w.heap.size w wr ∧ TrieIs wr w.heap.size w.heap.size (l.take i)) (fun iv _ => len - (intOf iv).toNat)
  case atStart => exact ⟨0, rfl, Nat.zero_le _, (Below.refl _ _).alloc (Nat.le_refl _) _, HT.out⟩
  case round =>
    obtain ⟨i, rfl, hi, hbl, Ti⟩ := hrel
    have HTi : Hid (TrieIs wr w.heap.size w.heap.size (l.take i) ∧ Below w.heap.size w wr) := ⟨Ti, hbl⟩
    by_cases hlt : i < len
    · obtain ⟨hrow, hlen⟩ := HR.out
      have hil : i < l.length := by omega
      obtain ⟨b, off, hlo, hb, d0, d1⟩ := hrow i l[i] (List.getElem?_eq_getElem hil)
      have htk : l.take (i + 1) = l.take i ++ [l[i]] := (List.take_append_getElem hil).symm
      obtain ⟨x, hx⟩ : ∃ x, l[i] = x := ⟨_, rfl⟩
      rw [hx] at d0 d1 htk
      have HK : Hid (l.take (i + 1) = l.take i ++ [x]) := htk
      subst hlo
      have e0 := (hbl.cell (p := ⟨b, off + i * 2, none⟩) hb).trans d0
      have e1 := (hbl.cell (p := ⟨b, off + i * 2 + 1, none⟩) hb).trans d1
      have hbr : b < wr.heap.size := Nat.lt_of_lt_of_le hb hbl.size
      clear hrow hlen hil d0 d1 htk hx hb Ti
      obtain ⟨n, r⟩ := x
      simp only at e0 e1
      have Hskip : Hid ((Rf.mk n r).ok = false → Below w.heap.size w (wr.alloc (.cells #[.string n, .int .i64 r] 172)) ∧ TrieIs (wr.alloc (.cells #[.string n, .int .i64 r] 172)) w.heap.size w.heap.size (l.take (i + 1))) := fun h =>
        ⟨HTi.out.2.alloc HTi.out.2.size _, by rw [HK.out]; exact (HTi.out.1.below ((Below.refl _ _).alloc (Nat.le_refl _) _)).skip _ h⟩
      by_cases h1 : 0 < n.size
      · by_cases h2 : n.size ≤ 8
        · have hput := put_any (HTi.out.1.below ((Below.refl _ _).alloc (Nat.le_refl _) (.cells #[.string n, .int .i64 r] 172))) ⟨n, r⟩ (by rw [List.length_take]; omega) (by simp [Rf.ok, h1, h2]) (Nat.le_trans hbl.size (by simp))
          go_wp2_with fail
          refine hput.mono ?_
          rintro e w1 ⟨rfl, T1, b1⟩
          have H1 : Hid (Below w.heap.size w w1 ∧ TrieIs w1 w.heap.size w.heap.size (l.take (i + 1))) := ⟨(HTi.out.2.alloc HTi.out.2.size _).trans b1, by rw [HK.out]; exact T1⟩
          clear T1 b1 hput
          go_wp2_with fail
          exact ⟨⟨i + 1, by go_num, by omega, H1.out⟩, by simp [intOf]; omega⟩
        · go_wp2_with fail
          exact ⟨⟨i + 1, by go_num, by omega, Hskip.out (by simp [Rf.ok]; omega)⟩, by simp [intOf]; omega⟩
      · go_wp2_with fail
        exact ⟨⟨i + 1, by go_num, by omega, Hskip.out (by simp [Rf.ok]; omega)⟩, by simp [intOf]; omega⟩
    · go_wp2_with fail
      go_ret
      refine ⟨w.heap.size, rfl, ?_, HTi.out.2⟩
      have h := HTi.out.1
      rw [List.take_of_length_le (by rw [HR.out.2]; omega)] at h
      exact h
end Go.Proofs.YtdiealijjhfhjaaGreatDoor.G6
namespace Go.Proofs.YtdiealijjhfhjaaGreatDoor.G6
open Go.RowKit Go.Maps
def best (l : List Rf) (s : Path) : Nat → Int × Nat
  | 0 => (0, 0)
  | k + 1 => match val l (s.take (k + 1)) with
    | some r => (r, k + 1)
    | none => best l s k
def goes (l : List Rf) (s : Path) : Bool := decide (0 < cnt [] l) && pre l s
theorem best_le (l : List Rf) (s : Path) (k : Nat) : (best l s k).2 ≤ k := by
  induction k with
  | zero => exact Nat.le_refl _
  | succ k ih =>
    unfold best
    split
    · exact Nat.le_refl _
    · omega
theorem below_drewN {B : Nat} {w w' : World} (h : Below B w w') (n : Nat) : Below B w (w'.drewN n) := ⟨h.os, h.tape, h.output, h.size, h.block⟩
theorem pre_mono {l : List Rf} {p q : Path} (h : pre l (p ++ q) = true) : pre l p = true := by
  simp only [pre, List.any_eq_true, Bool.and_eq_true, List.isPrefixOf_iff_prefix] at *
  obtain ⟨x, h1, h2, t, h3⟩ := h
  exact ⟨x, h1, h2, q ++ t, by rw [← h3, List.append_assoc]⟩
theorem best_stop {l : List Rf} {s : Path} {k : Nat} (h : pre l (s.take (k + 1)) = false) (m : Nat) (hk : k ≤ m) : best l s m = best l s k := by
  induction m with
  | zero => obtain rfl : k = 0 := by omega
            rfl
  | succ m ih =>
    by_cases e : k = m + 1
    · rw [e]
    · have hv : val l (s.take (m + 1)) = none := by
        cases hv : val l (s.take (m + 1)) with
        | none => rfl
        | some v =>
          have h1 := val_pre hv
          have h2 : s.take (m + 1) = s.take (k + 1) ++ (s.take (m + 1)).drop (k + 1) := by
            have := (List.take_append_drop (k + 1) (s.take (m + 1))).symm
            rwa [List.take_take, Nat.min_eq_left (by omega)] at this
          rw [h2] at h1
          rw [pre_mono h1] at h
          cases h
      rw [best, hv]
      exact ih (by omega)
theorem cnt_pos {l : List Rf} (h : cnt [] l = 0) (p : Path) : pre l p = false := by
  cases hp : pre l p with
  | false => rfl
  | true =>
    exfalso
    simp only [pre, List.any_eq_true, Bool.and_eq_true] at hp
    obtain ⟨x, hx, hok, _⟩ := hp
    have key : ∀ (b a : List Rf), (∀ y ∈ a, y.ok = false) → (∃ y ∈ b, y.ok = true) → 0 < cnt a b := by
      intro b
      induction b with
      | nil => rintro a _ ⟨y, hy, _⟩; cases hy
      | cons z b ih =>
        rintro a ha ⟨y, hy, hyok⟩
        simp only [cnt]
        cases hz : z.ok with
        | true =>
          have : val a z.nm = none := by
            clear ih hy
            induction a with
            | nil => rfl
            | cons u a iha => simp only [val, ha u (by simp)]; simp; exact iha (fun y hy => ha y (by simp [hy]))
          simp [this]; omega
        | false =>
          have := ih (a ++ [z]) (fun u hu => by
            rcases List.mem_append.1 hu with h | h
            · exact ha u h
            · simp at h; rw [h]; exact hz) (by
            rcases List.mem_cons.1 hy with h | h
            · rw [h, hz] at hyok; cases hyok
            · exact ⟨y, h, hyok⟩)
          omega
    have := key l [] (fun y hy => by cases hy) ⟨x, hx, hok⟩
    omega
theorem look_at {w : World} {B t : Nat} {N M : Path → Option Nat} {V : Path → Option Int} {c : Int} {k : Nat} (T : TrieAt w B t N M V c k) (p : Path) (x : UInt8) (n : Nat) :
    (Instr.lookup 187 (.map (M p)) (.int .u8 (x.toNat : Int)) false).run Tryz.prog (w.drewN n) = .ok (ptr (N (p ++ [x]))) (w.drewN n) :=
  (T.same (w' := w.drewN n) (fun _ _ _ => rfl)).look p x
set_option maxHeartbeats 1000000 in
set_option maxRecDepth 10000 in
theorem longest_any {w : World} {B t : Nat} {l : List Rf} (T : TrieIs w B t l) (s : ByteArray) (hs : s.size ≤ 9223372036854775807) :
    Calls Tryz.prog 192 #[.pointer (some ⟨t, 0, none⟩), .string s] w fun e w' => e = .returned (.tuple #[.int .i64 (best l s.data.toList s.size).1, .int .i64 ((best l s.data.toList s.size).2 : Nat)]) ∧ Below w.heap.size w w' := by
  obtain ⟨N, M, k, T, _, hN⟩ := T
  have HT : Hid (TrieAt w B t N M (val l) (cnt [] l : Nat) k ∧ ∀ p, (N p).isSome = (p.isEmpty || pre l p)) := ⟨T, hN⟩
  have HR : Hid (N (s.data.toList.take 0) = some t) := T.root
  clear T hN
  go_enter Tryz.func192, Tryz.ntmps192
  go_wp2_with fail
  go_loopw [6, 7, 8, 17] (fun rv zv nv iv wr => ∃ (i b q : Nat), iv = .int .i64 i ∧ i ≤ s.size ∧ nv = .pointer (some ⟨b, 0, none⟩) ∧ N (s.data.toList.take i) = some b ∧ rv = .int .i64 (best l s.data.toList i).1 ∧ zv = .int .i64 ((best l s.data.toList i).2 : Nat) ∧ wr = w.drewN q) (fun _ _ _ iv _ => s.size - (intOf iv).toNat)
  case atStart => exact ⟨0, t, 0, rfl, Nat.zero_le _, rfl, HR.out, rfl, rfl, rfl⟩
  case round =>
    obtain ⟨i, b, q, rfl, hi, rfl, hb, rfl, rfl, rfl⟩ := hrel
    have O := HT.out.1.node _ _ hb
    have c0 := O.c0
    have HO : Hid (NodeIs w b (M (s.data.toList.take i)) (val l (s.data.toList.take i)) ∧ N (s.data.toList.take i) = some b) := ⟨O, hb⟩
    clear hb HR O
    by_cases hlt : i < s.size
    · have hlk := look_at HT.out.1 (s.data.toList.take i) s[i]
      rw [← take_snoc s i hlt] at hlk
      obtain ⟨mo, hmo⟩ : ∃ mo, M (s.data.toList.take i) = mo := ⟨_, rfl⟩
      rw [hmo] at hlk c0
      clear hmo
      have hne : (s.data.toList.take (i + 1)).isEmpty = false := by rw [take_snoc s i hlt]; simp
      have hN1 := HT.out.2 (s.data.toList.take (i + 1))
      rw [hne, Bool.false_or] at hN1
      cases hnx : N (s.data.toList.take (i + 1)) with
      | none =>
        rw [hnx] at hlk hN1
        simp only [ptr, Option.map_none] at hlk
        have HB : Hid (best l s.data.toList s.size = best l s.data.toList i) := best_stop hN1.symm _ hi
        clear hne hN1 hnx HO
        go_wp2_with fail
        go_quiet (fail)
        go_wp2_with fail
        go_ret2
        rw [HB.out]
        exact ⟨rfl, below_drewN (Below.refl _ _) _⟩
      | some b' =>
        rw [hnx] at hlk
        simp only [ptr, Option.map_some] at hlk
        have O' := HT.out.1.node _ _ hnx
        have e1 := O'.c1
        have e2 := O'.c2
        have HN : Hid (N (s.data.toList.take (i + 1)) = some b') := hnx
        clear hne hN1 hnx HO O'
        cases hv : val l (s.data.toList.take (i + 1)) with
        | none =>
          rw [hv] at e1
          simp only [Option.isSome_none] at e1
          have HB : Hid (best l s.data.toList (i + 1) = best l s.data.toList i) := by show _ = _; rw [best, hv]
          clear hv e2
          go_wp2_with fail
          go_quiet (fail)
          go_wp2_with fail
          refine ⟨⟨i + 1, b', _, by go_num, by omega, rfl, HN.out, by rw [HB.out], by rw [HB.out], rfl⟩, by simp [intOf]; omega⟩
        | some r =>
          rw [hv] at e1 e2
          simp only [Option.isSome_some, Option.getD_some] at e1 e2
          have HB : Hid (best l s.data.toList (i + 1) = (r, i + 1)) := by show _ = _; rw [best, hv]
          clear hv
          go_wp2_with fail
          go_quiet (fail)
          go_wp2_with fail
          refine ⟨⟨i + 1, b', _, by go_num, by omega, rfl, HN.out, by rw [HB.out], by rw [HB.out]; go_num, rfl⟩, by simp [intOf]; omega⟩
    · have hie : i = s.size := by omega
      subst hie
      clear HO
      go_wp2_with fail
      go_ret2
      exact ⟨rfl, below_drewN (Below.refl _ _) _⟩
set_option maxHeartbeats 1000000 in
set_option maxRecDepth 10000 in
theorem goes_any {w : World} {B t : Nat} {l : List Rf} (T : TrieIs w B t l) (s : ByteArray) (hs : s.size ≤ 9223372036854775807) :
    Calls Tryz.prog 188 #[.pointer (some ⟨t, 0, none⟩), .string s] w fun e w' => e = .returned (.bool (goes l s.data.toList)) ∧ Below w.heap.size w w' := by
  obtain ⟨N, M, k, T, _, hN⟩ := T
  have HT : Hid (TrieAt w B t N M (val l) (cnt [] l : Nat) k ∧ ∀ p, (N p).isSome = (p.isEmpty || pre l p)) := ⟨T, hN⟩
  have HR : Hid (N (s.data.toList.take 0) = some t) := T.root
  have c3 := T.count
  obtain ⟨cn, hcn⟩ : ∃ cn, cnt [] l = cn := ⟨_, rfl⟩
  rw [hcn] at c3
  have HC : Hid (cnt [] l = cn) := hcn
  clear T hN hcn
  go_enter Tryz.func188, Tryz.ntmps188
  go_wp2_with fail
  go_loopw [5, 14] (fun nv iv wr => ∃ (i b q : Nat), iv = .int .i64 i ∧ i ≤ s.size ∧ nv = .pointer (some ⟨b, 0, none⟩) ∧ N (s.data.toList.take i) = some b ∧ wr = w.drewN q) (fun _ iv _ => s.size - (intOf iv).toNat)
  case atStart => exact ⟨0, t, 0, rfl, Nat.zero_le _, rfl, HR.out, rfl⟩
  case round =>
    obtain ⟨i, b, q, rfl, hi, rfl, hb, rfl⟩ := hrel
    have O := HT.out.1.node _ _ hb
    have c0 := O.c0
    have HO : Hid (N (s.data.toList.take i) = some b) := hb
    clear hb HR O
    by_cases hlt : i < s.size
    · have hlk := look_at HT.out.1 (s.data.toList.take i) s[i]
      rw [← take_snoc s i hlt] at hlk
      obtain ⟨mo, hmo⟩ : ∃ mo, M (s.data.toList.take i) = mo := ⟨_, rfl⟩
      rw [hmo] at hlk c0
      clear hmo
      have hne : (s.data.toList.take (i + 1)).isEmpty = false := by rw [take_snoc s i hlt]; simp
      have hN1 := HT.out.2 (s.data.toList.take (i + 1))
      rw [hne, Bool.false_or] at hN1
      cases hnx : N (s.data.toList.take (i + 1)) with
      | none =>
        rw [hnx] at hlk hN1
        simp only [ptr, Option.map_none] at hlk
        have HB : Hid (goes l s.data.toList = false) := by
          have : pre l s.data.toList = false := by
            cases hp : pre l s.data.toList with
            | false => rfl
            | true =>
              rw [← List.take_append_drop (i + 1) s.data.toList] at hp
              rw [pre_mono hp] at hN1
              cases hN1
          show goes l s.data.toList = false
          simp [goes, this]
        clear hne hN1 hnx HO c3
        go_wp2_with fail
        go_quiet (fail)
        go_wp2_with fail
        go_ret
        rw [HB.out]
        exact ⟨rfl, below_drewN (Below.refl _ _) _⟩
      | some b' =>
        rw [hnx] at hlk
        simp only [ptr, Option.map_some] at hlk
        have HN : Hid (N (s.data.toList.take (i + 1)) = some b') := hnx
        clear hne hN1 hnx HO
        go_wp2_with fail
        go_quiet (fail)
        go_wp2_with fail
        refine ⟨⟨i + 1, b', _, by go_num, by omega, rfl, HN.out, rfl⟩, by simp [intOf]; omega⟩
    · have hie : i = s.size := by omega
      subst hie
      have HB : Hid (goes l s.data.toList = decide (0 < cn)) := by
        show goes l s.data.toList = decide (0 < cn)
        have h1 := HT.out.2 s.data.toList
        have h2 := HO.out
        rw [take_all] at h2
        rw [h2] at h1
        unfold goes
        rw [HC.out]
        by_cases h0 : 0 < cn
        · cases hs : s.data.toList with
          | nil =>
            have : pre l [] = true := by
              cases hp : pre l [] with
              | true => rfl
              | false =>
                exfalso
                have hz : cnt [] l = 0 := by
                  have key : ∀ (b a : List Rf), (∀ y ∈ b, y.ok = false) → cnt a b = 0 := by
                    intro b
                    induction b with
                    | nil => intro a _; rfl
                    | cons z b ih =>
                      intro a h
                      simp only [cnt]
                      rw [h z (by simp), ih _ (fun y hy => h y (by simp [hy]))]
                      simp
                  refine key l [] fun y hy => ?_
                  simp only [pre, List.any_eq_false, Bool.and_eq_true, not_and] at hp
                  have := hp y hy
                  cases hok : y.ok with
                  | false => rfl
                  | true => exact absurd rfl (this hok)
                have := HC.out
                omega
            rw [this, Bool.and_true]
          | cons a b =>
            rw [hs] at h1
            simp only [List.isEmpty_cons, Bool.false_or, Option.isSome_some] at h1
            rw [← h1, Bool.and_true]
        · have : decide (0 < cn) = false := decide_eq_false h0
          rw [this]; rfl
      clear HO
      go_wp2_with fail
      go_ret
      rw [HB.out]
      exact ⟨by simp, below_drewN (Below.refl _ _) _⟩
theorem longest_nil (s : ByteArray) (w : World) : Calls Tryz.prog 192 #[.pointer none, .string s] w fun e w' => e = .returned (.tuple #[.int .i64 0, .int .i64 0]) ∧ w' = w := by
  go_enter Tryz.func192, Tryz.ntmps192
  go_wp2_with fail
  go_ret2
  exact ⟨rfl, rfl⟩
theorem goes_nil (s : ByteArray) (w : World) : Calls Tryz.prog 188 #[.pointer none, .string s] w fun e w' => e = .returned (.bool false) ∧ w' = w := by
  go_enter Tryz.func188, Tryz.ntmps188
  go_wp2_with fail
  go_ret
  exact ⟨rfl, rfl⟩
end Go.Proofs.YtdiealijjhfhjaaGreatDoor.G6
