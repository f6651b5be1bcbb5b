/- Rows of faults behind one another. -/
import Derived.Test.YtkbakbacomidbaaProg
import Derived.Below
import Derived.BigCall
import Derived.BigQuiet
import Derived.BigRegion
import Derived.Deep.DeepCutAuto
import Derived.Deep.LoopGhost
import Derived.Deep.QuietTactic
import Derived.Deep.RegionHeld3
import Derived.Deep.RegionLaw
import Derived.Deep.RegionWith
import Derived.Deep.Upon
import Derived.Laws.AppendOwn
import Derived.Laws.BytesArg
import Derived.Laws.EntriesVeiled
import Derived.Laws.IdiomStrings
import Derived.Laws.StructEq
import Derived.Lib.AppendStr
import Derived.Lib.RuneBytes
import Derived.Maps.AppendAt
import Derived.Maps.OwnSet
import Derived.OwnWalk
import Derived.ScopeJumps
import Derived.Shelf.Abstract
import Derived.Shelf.Small.Strs
import Derived.Shelf.Strings.Builder1
import Derived.Shelf.Strings.BuilderF
import Derived.Shelf.Strings.BuilderK
import Derived.Shelf.Strings.BuilderRune
import Derived.Shelf.Strings.Prefix
import Derived.StillTailTactics
import Derived.StringKeys
import Derived.WalkArith
import Derived.WalkKit
import Derived.WalkLawsBesides
import Derived.WalkMore
import Derived.WalkSpells
import Derived.Test.YtkbakbacomidbaaZl
import Derived.Test.YtkbakbacomidbaaZm
namespace Go.Proofs.Ytkbakbacomidbaa.Mg
open Go.RowKit G6
def RefRow (w : World) (lo : Option Addr) (l : List (Int × Int)) : Prop :=
  ∀ i x, l[i]? = some x → ∃ b off, lo = some ⟨b, off, none⟩ ∧ b < w.heap.size ∧ w.cell? ⟨b, off + i * 2, none⟩ = some (.int .i64 x.1) ∧ w.cell? ⟨b, off + i * 2 + 1, none⟩ = some (.int .i64 x.2)
theorem RefRow.below {w w' : World} {lo : Option Addr} {l : List (Int × Int)} (h : RefRow w lo l) (b : Below w.heap.size w w') : RefRow w' lo l := fun i x hx => by
  obtain ⟨k, off, h1, h2, h3, h4⟩ := h i x hx
  exact ⟨k, off, h1, Nat.lt_of_lt_of_le h2 b.size, (b.cell (p := ⟨k, off + i * 2, none⟩) h2).trans h3, (b.cell (p := ⟨k, off + i * 2 + 1, none⟩) h2).trans h4⟩
abbrev RowIs (w : World) (B : Nat) (v : Value) (L : List (Int × Int)) : Prop := w.ownsRow B 64 2 v L.length (L.flatMap gcells)
theorem row_ref4 {w : World} {B : Nat} {v : Value} {L : List (Int × Int)} (h : RowIs w B v L) : ∃ ao cap, v = .slice ao L.length cap ∧ RefRow w ao L ∧ L.length ≤ cap ∧ cap ≤ maxLen := by
  rcases h.2 with ⟨rfl, h0⟩ | ⟨g, cap, cur, rfl, hB, hg, h1, h2, h3, h4⟩
  · have : L = [] := List.eq_nil_of_length_eq_zero h0
    subst this
    exact ⟨none, 0, rfl, fun i x hx => by simp at hx, Nat.le_refl _, by unfold maxLen; omega⟩
  · refine ⟨_, cap, rfl, fun i x hx => ?_, h1, h2⟩
    have hil := (List.getElem?_eq_some_iff.1 hx).1
    obtain ⟨q1, q2⟩ := gcells_at L i x hx
    rw [← h4, List.getElem?_take_of_lt (by omega), Array.getElem?_toList] at q1 q2
    refine ⟨g, 0, rfl, (Array.getElem?_eq_some_iff.1 hg).1, ?_, ?_⟩
    · simp [World.cell?, hg, q1]
    · simp [World.cell?, hg, q2]
theorem cells_at : ∀ (M : List (Int × Int)) (j : Nat) (u : Value), (M.flatMap gcells)[j]? = some u → ∃ i x, M[i]? = some x ∧ ((j = i * 2 ∧ u = .int .i64 x.1) ∨ (j = i * 2 + 1 ∧ u = .int .i64 x.2))
  | [], j, u, h => by simp at h
  | x :: M, 0, u, h => ⟨0, x, rfl, .inl ⟨rfl, by simpa [gcells, G4.gcells] using h.symm⟩⟩
  | x :: M, 1, u, h => ⟨0, x, rfl, .inr ⟨rfl, by simpa [gcells, G4.gcells] using h.symm⟩⟩
  | x :: M, j + 2, u, h => by
    have h' : (M.flatMap gcells)[j]? = some u := by simpa [gcells, G4.gcells] using h
    obtain ⟨i, y, h1, h2⟩ := cells_at M j u h'
    refine ⟨i + 1, y, by simpa using h1, ?_⟩
    rcases h2 with ⟨h2, h3⟩ | ⟨h2, h3⟩
    · exact .inl ⟨by omega, h3⟩
    · exact .inr ⟨by omega, h3⟩
theorem cells_one : ∀ (M : List (Int × Int)) (u : Value), u ∈ M.flatMap gcells → u.oneCell' = true := fl_one
theorem cells_len (M : List (Int × Int)) : (M.flatMap gcells).length = M.length * 2 := by
  induction M with
  | nil => rfl
  | cons x M ih => rw [List.flatMap_cons, List.length_append, ih, List.length_cons]; simp [gcells, G4.gcells]; omega
/-- Names behind a row of one's own. -/
theorem row_more {w : World} {B : Nat} {l : Value} {L M : List (Int × Int)} (h : RowIs w B l L) (ao : Option Addr) (c : Nat) (hM : RefRow w ao M) (hB : B ≤ w.heap.size) (hL : L.length ≤ 1000000) (hM2 : M.length ≤ 1000000) :
    ∃ l' w', (Builtin.append_ #[31, 31] 31 #[l, .slice ao M.length c]).run Try.prog w = .ok l' w' ∧ RowIs w' B l' (L ++ M) ∧ LFr (.slice none 0 0) l w w' := by
  obtain ⟨i0, hi, hz0, hz1, hz2⟩ := info_parts info58
  by_cases h0 : M = []
  · subst h0
    obtain ⟨bo, cap, rfl, _, hc, _⟩ := row_ref4 h
    have hs : Src Try.prog i0.size 31 (.slice ao 0 c) 0 [] w := by
      cases ao with
      | none => exact Src.ofNil w Try.underlying31 c
      | some a => exact Src.ofSlice w Try.underlying31 a 0 c [] (by simp) (by simp) (by simp)
    exact ⟨_, _, run_append_nothing (P := Try.prog) w 31 31 31 64 i0 Try.underlying31 hi bo L.length cap hc _ hs, by rw [List.append_nil]; exact h, LFr.refl _ _ _⟩
  · obtain ⟨x, hx⟩ : ∃ x, M[0]? = some x := by
      cases M with
      | nil => exact absurd rfl h0
      | cons x M => exact ⟨x, rfl⟩
    obtain ⟨b, off, rfl, _⟩ := hM 0 x hx
    obtain ⟨l', w', hr, ho, hg, _, _⟩ := run_append_own_at (P := Try.prog) w B 31 31 64 i0 _ 2 16 Try.underlying31 hi hz0 hz1 hz2 rfl (by decide) l L.length _ h ⟨b, off, none⟩ M.length c (M.flatMap gcells) (cells_len M)
      (fun j u hj => by
        rw [Addr.add_lit]
        obtain ⟨i, y, h1, h2⟩ := cells_at M j u hj
        obtain ⟨b', off', e, _, c1, c2⟩ := hM i y h1
        simp only [Option.some.injEq, Addr.mk.injEq, and_true] at e
        obtain ⟨rfl, rfl⟩ := e
        rcases h2 with ⟨rfl, rfl⟩ | ⟨rfl, rfl⟩
        · exact c1
        · rw [← Nat.add_assoc]; exact c2) (cells_one M) (by unfold maxLen; omega) (by omega) hB
    refine ⟨l', w', hr, ?_, ?_⟩
    · show w'.ownsRow B 64 2 l' (L ++ M).length ((L ++ M).flatMap gcells)
      rw [List.length_append, List.flatMap_append]
      exact ho
    · exact ⟨hg.os, hg.tape, hg.output, hg.size, fun d hd _ hne => hg.block d hd hne⟩
theorem ref_take {w : World} {ao : Option Addr} {A : List (Int × Int)} (h : RefRow w ao A) (k : Nat) : RefRow w ao (A.take k) := fun i x hx => by
  have hil : i < k := by
    have := (List.getElem?_eq_some_iff.1 hx).1
    rw [List.length_take] at this
    omega
  rw [List.getElem?_take_of_lt hil] at hx
  exact h i x hx
theorem ref_drop {w : World} {ao : Option Addr} {A : List (Int × Int)} (h : RefRow w ao A) (k cap : Nat) (hc : A.length ≤ cap) : RefRow w (if cap = k then ao else ao.map (·.add (k * 2))) (A.drop k) := fun i x hx => by
  have hil := (List.getElem?_eq_some_iff.1 hx).1
  rw [List.length_drop] at hil
  rw [List.getElem?_drop] at hx
  obtain ⟨b, off, rfl, h1, h2, h3⟩ := h _ x hx
  rw [if_neg (by omega)]
  refine ⟨b, off + k * 2, by simp [Addr.add_lit], h1, ?_, ?_⟩
  · rw [show off + k * 2 + i * 2 = off + (k + i) * 2 by omega]; exact h2
  · rw [show off + k * 2 + i * 2 = off + (k + i) * 2 by omega]; exact h3
theorem ref_one (w : World) (x : Int × Int) : RefRow (w.alloc (.cells #[.int .i64 x.1, .int .i64 x.2] 64)) (some ⟨w.heap.size, 0, none⟩) [x] := fun i y hy => by
  have hi : i = 0 := by
    have := (List.getElem?_eq_some_iff.1 hy).1
    simp at this
    exact this
  subst hi
  simp at hy
  subst hy
  have hnew := heap_alloc_new w (.cells #[.int .i64 x.1, .int .i64 x.2] 64)
  obtain ⟨W, hW⟩ : ∃ W, w.alloc (.cells #[.int .i64 x.1, .int .i64 x.2] 64) = W := ⟨_, rfl⟩
  rw [hW] at hnew ⊢
  exact ⟨_, _, rfl, (Array.getElem?_eq_some_iff.1 hnew).1, by simp [World.cell?, hnew], by simp [World.cell?, hnew]⟩
theorem lfr_below {w w' : World} {B : Nat} {l : Value} {n : Nat} {xs : List Value} (h : LFr (.slice none 0 0) l w w') (ho : w.ownsRow B 64 2 l n xs) (hB : B ≤ w.heap.size) : Below B w w' :=
  ⟨h.os, h.tape, h.output, h.size, fun d hd => h.block d (by omega) (by simp [Value.ownBlock]) (fun e => by have := (G6.own_blk ho e.symm).1; omega)⟩
/-- What is there when a name has been put into a row. -/
def Put1 (W : World) (A : List (Int × Int)) (v : Value) (w : World) : Prop := ∃ bo n c, v = .slice bo n c ∧ A.length = n ∧ RefRow w bo A ∧ n ≤ c ∧ c ≤ maxLen ∧ Below W.heap.size W w
theorem put_a {W : World} {ao bo : Option Addr} {A : List (Int × Int)} {k n : Nat} (cap c2 : Nat) (x : Int × Int) (hk : k ≤ A.length) (hn : A.length ≤ 400000) (h1 : RefRow W ao (A.take k)) (h2 : RefRow W bo (A.drop k)) (hnk : A.length - k = n) :
    ∃ v1 w1 v2 w2 v3 w3, (Builtin.append_ #[31, 31] 31 #[.slice none 0 0, .slice ao k cap]).run Try.prog W.drew = .ok v1 w1 ∧
      (Builtin.append_ #[31, 31] 31 #[v1, .slice (some ⟨w1.heap.size, 0, none⟩) 1 1]).run Try.prog (w1.alloc (.cells #[.int .i64 x.1, .int .i64 x.2] 64)) = .ok v2 w2 ∧
      (Builtin.append_ #[31, 31] 31 #[v2, .slice bo n c2]).run Try.prog w2 = .ok v3 w3 ∧ Put1 W (A.take k ++ [x] ++ A.drop k) v3 w3 ∧ Below W.heap.size W w1 := by
  subst hnk
  have hlk : (A.take k).length = k := by rw [List.length_take]; omega
  have hdk : (A.drop k).length = A.length - k := List.length_drop
  have bW : Below W.heap.size W W.drew := (Below.refl _ _).drew
  obtain ⟨v1, w1, e1, r1, f1⟩ := row_more (w := W.drew) (B := W.heap.size) (L := []) (World.ownsRow_nil _ _ _ _) ao cap (h1.below bW) (Nat.le_refl _) (by simp) (by omega)
  rw [hlk] at e1
  rw [List.nil_append] at r1
  have b1 : Below W.heap.size W w1 := bW.trans (lfr_below f1 (World.ownsRow_nil _ _ _ _) (Nat.le_refl _))
  obtain ⟨w1', hw1'⟩ : ∃ w1', w1' = w1.alloc (.cells #[.int .i64 x.1, .int .i64 x.2] 64) := ⟨_, rfl⟩
  have b1' : Below w1.heap.size w1 w1' := by rw [hw1']; exact (Below.refl _ _).alloc (Nat.le_refl _) _
  have o1 := ref_one w1 x
  rw [← hw1'] at o1
  have r1' : RowIs w1' W.heap.size v1 (A.take k) := row_mv r1 fun g hg => b1'.block g (G6.own_blk r1 hg).2.1
  have bb1 : Below W.heap.size W w1' := b1.trans (b1'.mono b1.size)
  obtain ⟨v2, w2, e2, r2, f2⟩ := row_more r1' _ 1 o1 bb1.size (by omega) (by simp)
  have b2 : Below W.heap.size W w2 := bb1.trans (lfr_below f2 r1' bb1.size)
  obtain ⟨v3, w3, e3, r3, f3⟩ := row_more r2 _ c2 (h2.below b2) b2.size (by simp; omega) (by omega)
  have b3 : Below W.heap.size W w3 := b2.trans (lfr_below f3 r2 b2.size)
  rw [hdk] at e3
  rw [hw1'] at e2
  obtain ⟨co, c3, rfl, g1, g2, g3⟩ := row_ref4 r3
  exact ⟨v1, w1, v2, w2, _, w3, e1, e2, e3, ⟨co, _, c3, rfl, rfl, g1, g2, g3, b3⟩, b1⟩
theorem put_b {W : World} {ao bo : Option Addr} {A : List (Int × Int)} {k n : Nat} (cap c2 : Nat) (x : Int × Int) (hk : k ≤ A.length) (hn : A.length ≤ 400000) (h1 : RefRow W ao (A.take k)) (h2 : RefRow W bo (A.drop k)) (hnk : A.length - k = n) :
    ∃ v1 w1 v2 w2 v3 w3, (Builtin.append_ #[31, 31] 31 #[.slice none 0 0, .slice ao k cap]).run Try.prog (W.alloc (.cells #[.int .i64 x.1, .int .i64 x.2] 64)).drew = .ok v1 w1 ∧
      (Builtin.append_ #[31, 31] 31 #[v1, .slice (some ⟨W.heap.size, 0, none⟩) 1 1]).run Try.prog w1 = .ok v2 w2 ∧
      (Builtin.append_ #[31, 31] 31 #[v2, .slice bo n c2]).run Try.prog w2 = .ok v3 w3 ∧ Put1 W (A.take k ++ [x] ++ A.drop k) v3 w3 := by
  subst hnk
  have hlk : (A.take k).length = k := by rw [List.length_take]; omega
  have hdk : (A.drop k).length = A.length - k := List.length_drop
  obtain ⟨V, hV⟩ : ∃ V, V = (W.alloc (.cells #[.int .i64 x.1, .int .i64 x.2] 64)).drew := ⟨_, rfl⟩
  have bV : Below W.heap.size W V := by rw [hV]; exact ((Below.refl _ _).alloc (Nat.le_refl _) _).drew
  have hVs : V.heap.size = W.heap.size + 1 := by rw [hV]; simp [World.drew]
  have o1 : RefRow V (some ⟨W.heap.size, 0, none⟩) [x] := by rw [hV]; exact (ref_one W x).below (Below.refl _ _).drew
  rw [← hV]
  obtain ⟨v1, w1, e1, r1, f1⟩ := row_more (w := V) (B := V.heap.size) (L := []) (World.ownsRow_nil _ _ _ _) ao cap (h1.below bV) (Nat.le_refl _) (by simp) (by omega)
  rw [hlk] at e1
  rw [List.nil_append] at r1
  have b1 : Below V.heap.size V w1 := lfr_below f1 (World.ownsRow_nil _ _ _ _) (Nat.le_refl _)
  obtain ⟨v2, w2, e2, r2, f2⟩ := row_more r1 _ 1 (o1.below b1) b1.size (by omega) (by simp)
  have b2 : Below V.heap.size V w2 := b1.trans (lfr_below f2 r1 b1.size)
  have b2' : Below W.heap.size W w2 := bV.trans (b2.mono (by omega))
  obtain ⟨v3, w3, e3, r3, f3⟩ := row_more r2 _ c2 (h2.below b2') b2.size (by simp; omega) (by omega)
  have b3 : Below V.heap.size V w3 := b2.trans (lfr_below f3 r2 b2.size)
  rw [hdk] at e3
  obtain ⟨co, c3, rfl, g1, g2, g3⟩ := row_ref4 r3
  exact ⟨v1, w1, v2, w2, _, w3, e1, e2, e3, co, _, c3, rfl, rfl, g1, g2, g3, bV.trans (b3.mono (by omega))⟩
end Go.Proofs.Ytkbakbacomidbaa.Mg
namespace Go.Proofs.Ytkbakbacomidbaa
open Go.RowKit So
def unF (e : E) : Int × Int := (e.c, e.a)
/-- Faults with their places, from place n on. -/
def tagF : Nat → List (Int × Int) → List E
  | _, [] => []
  | n, x :: l => ⟨x.1, x.2, n⟩ :: tagF (n + 1) l
theorem tagF_un : ∀ (l : List (Int × Int)) (n : Nat), (tagF n l).map unF = l
  | [], _ => rfl
  | x :: l, n => by simp [tagF, unF, tagF_un l (n + 1)]
theorem tagF_app : ∀ (l k : List (Int × Int)) (n : Nat), tagF n (l ++ k) = tagF n l ++ tagF (n + l.length) k
  | [], k, n => by simp [tagF]
  | x :: l, k, n => by rw [List.cons_append, tagF, tagF, tagF_app l k, List.length_cons, List.cons_append]; congr 3; omega
theorem tagF_ge : ∀ (l : List (Int × Int)) (n : Nat) (e : E), e ∈ tagF n l → n ≤ e.t ∧ e.t < n + l.length
  | [], n, e, h => by simp [tagF] at h
  | x :: l, n, e, h => by
    rw [tagF, List.mem_cons] at h
    rcases h with rfl | h
    · simp
    · have := tagF_ge l (n + 1) e h
      rw [List.length_cons]; omega
/-- The faults L, in order: R. -/
def Mrg (n : Nat) (L R : List (Int × Int)) : Prop := ∃ rt : List E, R = rt.map unF ∧ rt.Pairwise E.lt ∧ rt.Perm (tagF n L)
theorem Mrg.nil (n : Nat) : Mrg n [] [] := ⟨[], rfl, List.Pairwise.nil, List.Perm.nil⟩
theorem Mrg.len {n : Nat} {L R : List (Int × Int)} (h : Mrg n L R) : R.length = L.length := by
  obtain ⟨rt, rfl, _, hp⟩ := h
  have h1 := hp.length_eq
  have h2 := congrArg List.length (tagF_un L n)
  rw [List.length_map] at h2 ⊢
  omega
/-- One more is put in. -/
theorem Mrg.ins {n : Nat} {L R : List (Int × Int)} {x : Int × Int} {k : Nat} (h : Mrg n L R) (hk : k ≤ R.length) (h1 : ∀ (j : Nat) (y : Int × Int), k ≤ j → R[j]? = some y → x.2 < y.2) (h2 : k = 0 ∨ ∀ y, R[k - 1]? = some y → y.2 ≤ x.2) : Mrg n (L ++ [x]) (R.take k ++ [x] ++ R.drop k) := by
  obtain ⟨rt, rfl, hs, hp⟩ := h
  rw [List.length_map] at hk
  have ht : ∀ e ∈ rt, e.t < n + L.length := fun e he => (tagF_ge L n e (hp.mem_iff.1 he)).2
  obtain ⟨e0, he0⟩ : ∃ e0 : E, e0 = ⟨x.1, x.2, n + L.length⟩ := ⟨_, rfl⟩
  refine ⟨rt.take k ++ [e0] ++ rt.drop k, ?_, ?_, ?_⟩
  · rw [List.map_append, List.map_append, List.map_take, List.map_drop, he0]
    rfl
  · have hsr : rt = rt.take k ++ rt.drop k := (List.take_append_drop k rt).symm
    have hs2 := hs
    rw [hsr, List.pairwise_append] at hs2
    obtain ⟨p1, p2, p3⟩ := hs2
    have hlow : ∀ e ∈ rt.take k, e.lt e0 := fun e he => by
      obtain ⟨j, hj, rfl⟩ := List.getElem_of_mem he
      rw [List.length_take] at hj
      have hkk : 0 < k := by omega
      rcases h2 with h2 | h2
      · omega
      · have hk1 : k - 1 < rt.length := by omega
        have hle := h2 (unF rt[k - 1]) (by rw [List.getElem?_map, List.getElem?_eq_getElem hk1]; rfl)
        have hmem := ht (rt.take k)[j] (List.mem_of_mem_take he)
        have hjl : (rt.take k)[j].a ≤ rt[k - 1].a := by
          rw [List.getElem_take]
          by_cases e : j = k - 1
          · subst e; exact Int.le_refl _
          · have := List.pairwise_iff_getElem.1 hs j (k - 1) (by omega) hk1 (by omega)
            unfold E.lt at this; omega
        unfold unF at hle
        rw [he0]
        unfold E.lt
        simp only at hle ⊢
        omega
    have hhigh : ∀ e ∈ rt.drop k, e0.lt e := fun e he => by
      obtain ⟨j, hj, rfl⟩ := List.getElem_of_mem he
      rw [List.length_drop] at hj
      have := h1 (k + j) (unF rt[k + j]) (by omega) (by rw [List.getElem?_map, List.getElem?_eq_getElem (by omega)]; rfl)
      rw [he0, List.getElem_drop]
      left
      exact this
    rw [List.append_assoc, List.pairwise_append]
    refine ⟨p1, ?_, fun a ha b hb => ?_⟩
    · rw [List.singleton_append, List.pairwise_cons]
      exact ⟨hhigh, p2⟩
    · rcases List.mem_append.1 hb with hb | hb
      · rw [List.mem_singleton.1 hb]; exact hlow a ha
      · exact p3 a ha b hb
  · rw [tagF_app]
    have hp1 : (rt.take k ++ [e0] ++ rt.drop k).Perm (rt ++ [e0]) := by
      have e1 : rt ++ [e0] = rt.take k ++ (rt.drop k ++ [e0]) := by rw [← List.append_assoc, List.take_append_drop]
      rw [e1, List.append_assoc]
      exact List.Perm.append_left _ List.perm_append_comm
    refine hp1.trans ?_
    rw [he0]
    exact hp.append_right _
end Go.Proofs.Ytkbakbacomidbaa
namespace Go.Proofs.Ytkbakbacomidbaa
open Go.RowKit So
/-- So far: what was put out, what is left of the two. -/
structure MS (n : Nat) (L l a c : List (Int × Int)) : Prop where
  ex : ∃ lt at' ct : List E, l = lt.map unF ∧ a = at'.map unF ∧ c = ct.map unF ∧ (lt ++ at').Pairwise E.lt ∧ (lt ++ ct).Pairwise E.lt ∧ (∀ x ∈ at', ∀ y ∈ ct, x.t < y.t) ∧ (lt ++ at' ++ ct).Perm (tagF n L)
theorem tag_srt : ∀ (a : List (Int × Int)) (n : Nat), (a.Pairwise fun x y => x.2 ≤ y.2) → (tagF n a).Pairwise E.lt
  | [], _, _ => List.Pairwise.nil
  | x :: a, n, h => by
    rw [List.pairwise_cons] at h
    rw [tagF, List.pairwise_cons]
    refine ⟨fun e he => ?_, tag_srt a _ h.2⟩
    have h1 := tagF_ge a (n + 1) e he
    have h2 : unF e ∈ a := by rw [← tagF_un a (n + 1)]; exact List.mem_map_of_mem he
    have h3 := h.1 _ h2
    unfold E.lt
    simp only [unF] at h3 ⊢
    omega
theorem MS.start {n : Nat} {a b c : List (Int × Int)} (ha : a.Pairwise fun x y => x.2 ≤ y.2) (hc : Mrg (n + a.length) b c) : MS n (a ++ b) [] a c := by
  obtain ⟨ct, rfl, h1, h2⟩ := hc
  refine ⟨[], tagF n a, ct, rfl, (tagF_un a n).symm, rfl, by simpa using tag_srt a n ha, by simpa using h1, fun x hx y hy => ?_, ?_⟩
  · have e1 := tagF_ge a n x hx
    have e2 := tagF_ge b _ y (h2.mem_iff.1 hy)
    omega
  · rw [tagF_app, List.nil_append]
    exact h2.append_left _
theorem MS.fst {n : Nat} {L l a c : List (Int × Int)} {x : Int × Int} (h : MS n L l (x :: a) c) (hc : ∀ y, c.head? = some y → x.2 ≤ y.2) : MS n L (l ++ [x]) a c := by
  obtain ⟨lt, at', ct, rfl, e2, rfl, h1, h2, h3, h4⟩ := h.ex
  cases at' with
  | nil => simp at e2
  | cons e at' =>
    simp only [List.map_cons, List.cons.injEq] at e2
    obtain ⟨rfl, rfl⟩ := e2
    have hlt : ∀ y ∈ ct, e.lt y := fun y hy => by
      have ht := h3 e (by simp) y hy
      cases ct with
      | nil => simp at hy
      | cons z ct =>
        have hz : e.a ≤ z.a := hc (unF z) rfl
        have hzy : z.a ≤ y.a := by
          rcases List.mem_cons.1 hy with rfl | hy
          · exact Int.le_refl _
          · have := (List.pairwise_append.1 h2).2.1
            rw [List.pairwise_cons] at this
            have := this.1 y hy
            unfold E.lt at this; omega
        unfold E.lt; omega
    refine ⟨lt ++ [e], at', ct, by simp, rfl, rfl, by simpa using h1, ?_, fun x hx => h3 x (by simp [hx]), by simpa using h4⟩
    rw [List.append_assoc, List.pairwise_append]
    obtain ⟨q1, q2, q3⟩ := List.pairwise_append.1 h2
    refine ⟨q1, by rw [List.singleton_append, List.pairwise_cons]; exact ⟨hlt, q2⟩, fun u hu v hv => ?_⟩
    rcases List.mem_append.1 hv with hv | hv
    · rw [List.mem_singleton.1 hv]
      exact (List.pairwise_append.1 h1).2.2 u hu e (by simp)
    · exact q3 u hu v hv
theorem MS.snd {n : Nat} {L l a c : List (Int × Int)} {y : Int × Int} (h : MS n L l a (y :: c)) (ha : ∀ x, a.head? = some x → y.2 < x.2) : MS n L (l ++ [y]) a c := by
  obtain ⟨lt, at', ct, rfl, rfl, e3, h1, h2, h3, h4⟩ := h.ex
  cases ct with
  | nil => simp at e3
  | cons e ct =>
    simp only [List.map_cons, List.cons.injEq] at e3
    obtain ⟨rfl, rfl⟩ := e3
    have hlt : ∀ x ∈ at', e.lt x := fun x hx => by
      cases at' with
      | nil => simp at hx
      | cons z at' =>
        have hz : e.a < z.a := ha (unF z) rfl
        have hzy : z.a ≤ x.a := by
          rcases List.mem_cons.1 hx with rfl | hx
          · exact Int.le_refl _
          · have := (List.pairwise_append.1 h1).2.1
            rw [List.pairwise_cons] at this
            have := this.1 x hx
            unfold E.lt at this; omega
        unfold E.lt; omega
    refine ⟨lt ++ [e], at', ct, by simp, rfl, rfl, ?_, by simpa using h2, fun x hx z hz => h3 x hx z (by simp [hz]), ?_⟩
    · rw [List.append_assoc, List.pairwise_append]
      obtain ⟨q1, q2, q3⟩ := List.pairwise_append.1 h1
      refine ⟨q1, by rw [List.singleton_append, List.pairwise_cons]; exact ⟨hlt, q2⟩, fun u hu v hv => ?_⟩
      rcases List.mem_append.1 hv with hv | hv
      · rw [List.mem_singleton.1 hv]
        exact (List.pairwise_append.1 h2).2.2 u hu e (by simp)
      · exact q3 u hu v hv
    · refine List.Perm.trans ?_ h4
      rw [List.append_assoc, List.append_assoc, List.append_assoc]
      exact List.Perm.append_left _ (List.perm_middle (a := e) (l₁ := at') (l₂ := ct)).symm
theorem MS.done {n : Nat} {L l : List (Int × Int)} (h : MS n L l [] []) : Mrg n L l := by
  obtain ⟨lt, at', ct, rfl, e2, e3, h1, h2, h3, h4⟩ := h.ex
  have e2' : at' = [] := by simpa using e2.symm
  have e3' : ct = [] := by simpa using e3.symm
  subst e2' e3'
  exact ⟨lt, rfl, by simpa using h1, by simpa using h4⟩
theorem MS.few {n : Nat} {L l a c : List (Int × Int)} (h : MS n L l a c) : l.length + a.length + c.length = L.length := by
  obtain ⟨lt, at', ct, rfl, rfl, rfl, _, _, _, h4⟩ := h.ex
  have := h4.length_eq
  have h2 := congrArg List.length (tagF_un L n)
  simp only [List.length_append, List.length_map] at this h2 ⊢
  omega
end Go.Proofs.Ytkbakbacomidbaa
