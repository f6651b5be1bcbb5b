/- The document's scanner in memory: its cells, its faults' row, what stays as it is. -/
import Derived.Test.YtkbakbacomidbaaProg
import Derived.Below
import Derived.BigCall
import Derived.BigQuiet
import Derived.BigRegion
import Derived.Deep.DeepCutAuto
import Derived.Deep.LoopGhost
import Derived.Deep.QuietTactic
import Derived.Deep.RegionHeld3
import Derived.Deep.RegionLaw
import Derived.Deep.RegionWith
import Derived.Deep.Upon
import Derived.Laws.AppendOwn
import Derived.Laws.BytesArg
import Derived.Laws.EntriesVeiled
import Derived.Laws.IdiomStrings
import Derived.Laws.StructEq
import Derived.Lib.AppendStr
import Derived.Lib.RuneBytes
import Derived.Maps.AppendAt
import Derived.Maps.OwnSet
import Derived.OwnWalk
import Derived.ScopeJumps
import Derived.Shelf.Abstract
import Derived.Shelf.Small.Strs
import Derived.Shelf.Strings.Builder1
import Derived.Shelf.Strings.BuilderF
import Derived.Shelf.Strings.BuilderK
import Derived.Shelf.Strings.BuilderRune
import Derived.Shelf.Strings.Prefix
import Derived.StillTailTactics
import Derived.StringKeys
import Derived.WalkArith
import Derived.WalkKit
import Derived.WalkLawsBesides
import Derived.WalkMore
import Derived.WalkSpells
import Derived.Test.YtkbakbacomidbaaZi
import Derived.Test.YtkbakbacomidbaaZj
import Derived.Test.YtkbakbacomidbaaZp
namespace Go.Proofs.Ytkbakbacomidbaa
open Go.RowKit
/-- What a scanner is given: the characters' row, the text's length, whether CDATA may be. -/
structure Env where
  lo : Option Addr
  cap : Nat
  L : List Ch
  N : Int
  fo : Bool
/-- How far it is. -/
def pos (E : Env) (r : List Ch) : Int := (E.L.length : Int) - r.length
def Env.cells (E : Env) (p : Int) (sc : Sc) (fv : Value) (dn : Bool) : Array Value :=
  #[.slice E.lo E.L.length E.cap, .int .i64 p, .int .i64 E.N, .int .i64 sc.text, .string sc.last, .bool E.fo, fv, .bool sc.cd, .bool dn]
/-- The scanner in block x, at what is left, its faults' slice named. -/
structure TmV (S : Nat → Prop) (x : Nat) (E : Env) (r : List Ch) (sc : Sc) (dn : Bool) (fv : Value) (w : World) : Prop where
  low : ∀ k, S k → k < w.heap.size
  hx : ¬ S x
  suf : r <:+ E.L
  few : E.L.length ≤ 100000
  cap : E.L.length ≤ E.cap
  row : Stays S w (ChRow E.lo E.L)
  blk : w.heap[x]? = some (.cells (E.cells (pos E r) sc fv dn) 56 (0, 0))
  fo : Rw.own w (rwF fv sc.fs)
  fout : ∀ g, fv.ownBlock = some g → ¬ S g
def Tm (S : Nat → Prop) (x : Nat) (E : Env) (r : List Ch) (sc : Sc) (dn : Bool) (w : World) : Prop := ∃ fv, TmV S x E r sc dn fv w
theorem TmV.lt {S : Nat → Prop} {x : Nat} {E : Env} {r : List Ch} {sc : Sc} {dn : Bool} {fv : Value} {w : World} (h : TmV S x E r sc dn fv w) : x < w.heap.size := (Array.getElem?_eq_some_iff.1 h.blk).1
theorem Tm.lt {S : Nat → Prop} {x : Nat} {E : Env} {r : List Ch} {sc : Sc} {dn : Bool} {w : World} (h : Tm S x E r sc dn w) : x < w.heap.size := by
  obtain ⟨fv, h⟩ := h
  exact h.lt
theorem TmV.below {S : Nat → Prop} {x : Nat} {E : Env} {r : List Ch} {sc : Sc} {dn : Bool} {fv : Value} {w w' : World} (h : TmV S x E r sc dn fv w) (b : Below w.heap.size w w') : TmV S x E r sc dn fv w' :=
  ⟨fun k hk => Nat.lt_of_lt_of_le (h.low k hk) b.size, h.hx, h.suf, h.few, h.cap, h.row.keep (Keep.old b), (b.block x h.lt).trans h.blk, own_mv h.fo fun g hg => b.block g (own_blk h.fo hg).1, h.fout⟩
theorem Tm.below {S : Nat → Prop} {x : Nat} {E : Env} {r : List Ch} {sc : Sc} {dn : Bool} {w w' : World} (h : Tm S x E r sc dn w) (b : Below w.heap.size w w') : Tm S x E r sc dn w' := by
  obtain ⟨fv, h⟩ := h
  exact ⟨fv, h.below b⟩
theorem TmV.cells {S : Nat → Prop} {x : Nat} {E : Env} {r : List Ch} {sc : Sc} {dn : Bool} {fv : Value} {w : World} (h : TmV S x E r sc dn fv w) (i : Nat) (u : Value) (hu : (E.cells (pos E r) sc fv dn)[i]? = some u) : w.cell? ⟨x, i, none⟩ = some u := by
  simp only [World.cell?, h.blk]
  exact hu
theorem TmV.free {S : Nat → Prop} {x : Nat} {E : Env} {r : List Ch} {sc : Sc} {dn : Bool} {fv : Value} {w : World} (h : TmV S x E r sc dn fv w) (i : Nat) : w.frozen? ⟨x, i, none⟩ = false := by
  simp [World.frozen?, h.blk]
/-- One of its cells is another. -/
theorem TmV.set {S : Nat → Prop} {x : Nat} {E : Env} {r r' : List Ch} {sc sc' : Sc} {dn dn' : Bool} {fv : Value} {w : World} (h : TmV S x E r sc dn fv w) (i : Nat) (u : Value) (hc : (E.cells (pos E r) sc fv dn).set! i u = E.cells (pos E r') sc' fv dn') (hs : r' <:+ E.L) (hf : sc'.fs = sc.fs) :
    TmV S x E r' sc' dn' fv (w.setCell ⟨x, i, none⟩ u) ∧ Keep S w (w.setCell ⟨x, i, none⟩ u) := by
  have hk : Keep S w (w.setCell ⟨x, i, none⟩ u) := (Keep.refl S w).setCell (p := ⟨x, i, none⟩) h.hx u
  have hne : ∀ g, g ≠ x → (w.setCell ⟨x, i, none⟩ u).heap[g]? = w.heap[g]? := fun g hg => Below.heap_setCell _ _ _ _ hg
  refine ⟨⟨fun k hS => Nat.lt_of_lt_of_le (h.low k hS) hk.size, h.hx, hs, h.few, h.cap, h.row.keep hk, ?_, ?_, h.fout⟩, hk⟩
  · rw [← hc]
    simp [World.setCell, Array.getElem?_modify, h.blk]
  · rw [hf]
    refine own_mv h.fo fun g hg => hne g fun e => ?_
    subst e
    obtain ⟨_, cur, z, hg2⟩ := own_blk h.fo hg
    rw [h.blk] at hg2
    simp at hg2
/-- What a call of the scanner leaves. -/
structure TW (S : Nat → Prop) (x : Nat) (E : Env) (r : List Ch) (sc : Sc) (dn : Bool) (w W : World) : Prop where
  tm : Tm S x E r sc dn W
  keep : Keep S w W
theorem TW.lt {S : Nat → Prop} {x : Nat} {E : Env} {r : List Ch} {sc : Sc} {dn : Bool} {w W : World} (h : TW S x E r sc dn w W) : x < W.heap.size := h.tm.lt
theorem TW.start {S : Nat → Prop} {x : Nat} {E : Env} {r : List Ch} {sc : Sc} {dn : Bool} {w : World} (h : Tm S x E r sc dn w) : TW S x E r sc dn w w := ⟨h, Keep.refl _ _⟩
theorem TW.trans {S : Nat → Prop} {x : Nat} {E : Env} {r r' : List Ch} {sc sc' : Sc} {dn dn' : Bool} {w W W' : World} (h : TW S x E r sc dn w W) (k : TW S x E r' sc' dn' W W') : TW S x E r' sc' dn' w W' := ⟨k.tm, h.keep.trans k.keep⟩
theorem TW.below {S : Nat → Prop} {x : Nat} {E : Env} {r : List Ch} {sc : Sc} {dn : Bool} {w W W' : World} (h : TW S x E r sc dn w W) (b : Below W.heap.size W W') : TW S x E r sc dn w W' := ⟨h.tm.below b, h.keep.trans (Keep.old b)⟩
/-- Its place, as the walk has it. -/
theorem TW.at {S : Nat → Prop} {x : Nat} {E : Env} {r : List Ch} {sc : Sc} {dn : Bool} {w W : World} (h : TW S x E r sc dn w W) : W.cell? ⟨x, 1, none⟩ = some (.int .i64 (pos E r)) ∧ W.frozen? ⟨x, 1, none⟩ = false ∧ 0 ≤ pos E r ∧ pos E r ≤ 100000 ∧ W.cell? ⟨x, 0, none⟩ = some (.slice E.lo E.L.length E.cap) := by
  obtain ⟨fv, h⟩ := h.tm
  have := h.suf.length_le
  have := h.few
  exact ⟨h.cells 1 _ rfl, h.free 1, by unfold pos; omega, by unfold pos; omega, h.cells 0 _ rfl⟩
theorem pos_cons {E : Env} {c : Ch} {t : List Ch} : pos E t = pos E (c :: t) + 1 := by
  unfold pos
  simp only [List.length_cons]
  omega
/-- It goes on by one. -/
theorem TW.adv {S : Nat → Prop} {x : Nat} {E : Env} {c : Ch} {t : List Ch} {sc : Sc} {dn : Bool} {w W : World} (h : TW S x E (c :: t) sc dn w W) : TW S x E t sc dn w (W.setCell ⟨x, 1, none⟩ (.int .i64 (pos E (c :: t) + 1))) := by
  obtain ⟨fv, h1⟩ := h.tm
  obtain ⟨q1, q2⟩ := h1.set (r' := t) (sc' := sc) (dn' := dn) 1 (.int .i64 (pos E (c :: t) + 1)) (by rw [pos_cons (c := c) (t := t)]; simp [Env.cells]) ((List.suffix_cons _ _).trans h1.suf) rfl
  exact ⟨⟨fv, q1⟩, h.keep.trans q2⟩
/-- It goes on by some, or back. -/
theorem TW.go {S : Nat → Prop} {x : Nat} {E : Env} {r r' : List Ch} {sc : Sc} {dn : Bool} {w W : World} (h : TW S x E r sc dn w W) (hs : r' <:+ E.L) (p : Int) (hp : p = pos E r') : TW S x E r' sc dn w (W.setCell ⟨x, 1, none⟩ (.int .i64 p)) := by
  obtain ⟨fv, h1⟩ := h.tm
  obtain ⟨q1, q2⟩ := h1.set (r' := r') (sc' := sc) (dn' := dn) 1 (.int .i64 p) (by rw [hp]; simp [Env.cells]) hs rfl
  exact ⟨⟨fv, q1⟩, h.keep.trans q2⟩
/-- The character at hand lies in the row. -/
theorem TmV.char {S : Nat → Prop} {x : Nat} {E : Env} {c : Ch} {t : List Ch} {sc : Sc} {dn : Bool} {fv : Value} {w : World} (h : TmV S x E (c :: t) sc dn fv w) : ∃ b off p : Nat, E.lo = some ⟨b, off, none⟩ ∧ pos E (c :: t) = (p : Int) ∧ p < E.L.length ∧ b < w.heap.size ∧ w.cell? ⟨b, off + p * 3, none⟩ = some (.int .i64 c.r) ∧ w.cell? ⟨b, off + p * 3 + 1, none⟩ = some (.int .i64 c.a) ∧ w.cell? ⟨b, off + p * 3 + 2, none⟩ = some (.int .i64 c.z) := by
  obtain ⟨p, hp⟩ := h.suf
  have hl : E.L[p.length]? = some c := by rw [← hp, List.getElem?_append_right (Nat.le_refl _), Nat.sub_self]; rfl
  obtain ⟨b, off, e, hb, q0, q1, q2⟩ := h.row.now _ _ hl
  refine ⟨b, off, p.length, e, ?_, (List.getElem?_eq_some_iff.1 hl).1, hb, q0, q1, q2⟩
  unfold pos
  rw [← hp]
  simp
set_option maxHeartbeats 2000000 in
set_option maxRecDepth 20000 in
theorem c_any {S : Nat → Prop} {x : Nat} {E : Env} {r : List Ch} {sc : Sc} {dn : Bool} {w : World} (h : Tm S x E r sc dn w) : Calls Try.prog 32 #[mp x] w fun e w' => e = .returned (.int .i64 (hd r)) ∧ ∃ m, w' = w.drewN m := by
  obtain ⟨fv, h⟩ := h
  have hxw := h.lt
  have c0 : w.cell? ⟨x, 0, none⟩ = some (.slice E.lo E.L.length E.cap) := h.cells 0 _ rfl
  have c1 : w.cell? ⟨x, 1, none⟩ = some (.int .i64 (pos E r)) := h.cells 1 _ rfl
  cases r with
  | nil =>
    have hp : pos E [] = (E.L.length : Int) := by unfold pos; simp
    rw [hp] at c1
    obtain ⟨n, hn⟩ : ∃ n, E.L.length = n := ⟨_, rfl⟩
    rw [hn] at c0 c1
    have g1 : decide ((n : Int) ≥ (n : Int)) = true := decide_eq_true (by omega)
    clear h hp hn
    go_enter Try.func32, Try.ntmps32
    go_wp2_with fail
    go_quiet (fail)
    go_wp2_with fail
    go_ret
    exact ⟨rfl, _, rfl⟩
  | cons c t =>
    obtain ⟨b, off, p, elo, hp, hpl, hb, q0, _, _⟩ := h.char
    rw [hp] at c1
    rw [elo] at c0
    have hcap := h.cap
    obtain ⟨n, hn⟩ : ∃ n, E.L.length = n := ⟨_, rfl⟩
    rw [hn] at c0 hpl hcap
    obtain ⟨cr, hcr⟩ : ∃ cr, c.r = cr := ⟨_, rfl⟩
    have e : hd (c :: t) = cr := hcr
    rw [e]
    rw [hcr] at q0
    have g1 : decide ((p : Int) ≥ (n : Int)) = false := decide_eq_false (by omega)
    have hpi : (p : Int) < (n : Int) := by omega
    clear h hp hn elo hcr e
    go_enter Try.func32, Try.ntmps32
    go_wp2_with fail
    go_quiet (fail)
    go_wp2_with fail
    go_quiet (fail)
    go_wp2_with fail
    go_ret
    exact ⟨rfl, _, World.drewN_drewN _ _ _⟩
theorem TW.c {S : Nat → Prop} {x : Nat} {E : Env} {r : List Ch} {sc : Sc} {dn : Bool} {w W : World} (h : TW S x E r sc dn w W) : Calls Try.prog 32 #[mp x] W fun e w' => e = .returned (.int .i64 (hd r)) ∧ TW S x E r sc dn w w' := by
  refine (c_any h.tm).mono ?_
  rintro e w' ⟨rfl, m, rfl⟩
  exact ⟨rfl, h.below (G9.below_drewN (Below.refl _ _) m)⟩
end Go.Proofs.Ytkbakbacomidbaa
namespace Go.Proofs.Ytkbakbacomidbaa
open Go.RowKit
/-- Two bytes that no reference tells apart. -/
def Like (x y : UInt8) : Prop := x = y ∨ (128 ≤ x.toNat ∧ 128 ≤ y.toNat)
theorem best_take (l : List G6.Rf) (P y : List UInt8) : ∀ k, k ≤ P.length → G6.best l (P ++ y) k = G6.best l P k
  | 0, _ => rfl
  | k + 1, h => by
    unfold G6.best
    rw [List.take_append_of_le_length h, best_take l P y k (by omega)]
theorem best_cut {l : List G6.Rf} {P r : List UInt8} {x : UInt8} (h : G6.pre l (P ++ [x]) = false) : G6.best l (P ++ x :: r) (P ++ x :: r).length = G6.best l P P.length := by
  have ht : (P ++ x :: r).take (P.length + 1) = P ++ [x] := by
    rw [List.take_append, List.take_of_length_le (by omega)]
    simp
  rw [G6.best_stop (k := P.length) (by rw [ht]; exact h) _ (by simp), best_take l P _ _ (Nat.le_refl _)]
theorem begC_low {l : List G6.Rf} {P y : List UInt8} {n : Nat} (h : n < P.length) : G6.begC l (P ++ y) n = G6.begC l P n := by
  unfold G6.begC
  rw [List.getElem?_append_left h, List.take_append_of_le_length (by omega)]
theorem begC_at {l : List G6.Rf} {P r : List UInt8} {x : UInt8} (h : G6.pre l (P ++ [x]) = false) : G6.begC l (P ++ x :: r) P.length = false := by
  have ht : (P ++ x :: r).take (P.length + 1) = P ++ [x] := by
    rw [List.take_append, List.take_of_length_le (by omega)]
    simp
  unfold G6.begC
  rw [List.getElem?_append_right (Nat.le_refl _), Nat.sub_self]
  simp only [List.getElem?_cons_zero]
  rw [ht, G6.goes_pre, h, Bool.and_false]
theorem begF_cut {l : List G6.Rf} {P r : List UInt8} {x : UInt8} (h : G6.pre l (P ++ [x]) = false) : ∀ (f n : Nat), n ≤ P.length → P.length - n < f → G6.begF l (P ++ x :: r) f n = G6.begF l P (P.length - n) n
  | 0, n, _, hf => by omega
  | f + 1, n, hn, hf => by
    unfold G6.begF
    by_cases e : n = P.length
    · subst e
      rw [begC_at h, Nat.sub_self]
      simp
    · obtain ⟨k, hk⟩ : ∃ k, P.length - n = k + 1 := ⟨P.length - n - 1, by omega⟩
      rw [hk, begC_low (by omega)]
      simp only
      split
      · rw [begF_cut h f (n + 1) (by omega) (by omega), show P.length - (n + 1) = k by omega]
      · rfl
theorem begF_le (l : List G6.Rf) (P : List UInt8) : ∀ (f n : Nat), G6.begF l P f n ≤ n + f
  | 0, n => Nat.le_refl _
  | f + 1, n => by
    unfold G6.begF
    split
    · have := begF_le l P f (n + 1); omega
    · omega
theorem drop_like {P r1 r2 : List UInt8} {x1 x2 : UInt8} (h : Like x1 x2) {B : Nat} (hB : B ≤ P.length) : ∃ a1 t1 a2 t2, (P ++ x1 :: r1).drop B = a1 :: t1 ∧ (P ++ x2 :: r2).drop B = a2 :: t2 ∧ Like a1 a2 := by
  by_cases e : B = P.length
  · subst e
    exact ⟨x1, r1, x2, r2, by simp, by simp, h⟩
  · rw [List.drop_append_of_le_length hB, List.drop_append_of_le_length hB]
    cases hd : P.drop B with
    | nil => have := congrArg List.length hd; simp at this; omega
    | cons a t => exact ⟨a, _, a, _, rfl, rfl, .inl rfl⟩
theorem semi_like {x1 x2 : UInt8} (h : Like x1 x2) (t1 t2 : List UInt8) : [59].isPrefixOf (x1 :: t1) = [59].isPrefixOf (x2 :: t2) := by
  rcases h with rfl | ⟨h1, h2⟩
  · simp [List.isPrefixOf]
  · have e1 : ((59 : UInt8) == x1) = false := by
      apply beq_false_of_ne
      intro e
      subst e
      exact absurd h1 (by decide)
    have e2 : ((59 : UInt8) == x2) = false := by
      apply beq_false_of_ne
      intro e
      subst e
      exact absurd h2 (by decide)
    simp [List.isPrefixOf, e1, e2]
theorem goesOn_like {x1 x2 : UInt8} (h : Like x1 x2) (t1 t2 : List UInt8) : G6.goesOnP (x1 :: t1) = G6.goesOnP (x2 :: t2) := by
  rcases h with rfl | ⟨h1, h2⟩
  · rfl
  · unfold G6.goesOnP G6.wordyP
    have e1 : (x1.toNat == 61) = false := by simp; omega
    have e2 : (x2.toNat == 61) = false := by simp; omega
    simp only [e1, e2, Bool.false_or]
    rw [decide_eq_false (by omega), decide_eq_false (by omega)]
theorem begun_like {l : List G6.Rf} {P r1 r2 : List UInt8} {x1 x2 : UInt8} (h : Like x1 x2) (p1 : G6.pre l (P ++ [x1]) = false) (p2 : G6.pre l (P ++ [x2]) = false) : G6.begunP l (P ++ x1 :: r1) = G6.begunP l (P ++ x2 :: r2) := by
  unfold G6.begunP G6.begN
  rw [begF_cut p1 _ 0 (Nat.zero_le _) (by simp), begF_cut p2 _ 0 (Nat.zero_le _) (by simp)]
  have hB : G6.begF l P (P.length - 0) 0 ≤ P.length := by have := begF_le l P (P.length - 0) 0; omega
  obtain ⟨a1, t1, a2, t2, e1, e2, h2⟩ := drop_like (r1 := r1) (r2 := r2) h hB
  rw [e1, e2, semi_like h2]
theorem named_like {l : List G6.Rf} {P r1 r2 : List UInt8} {x1 x2 : UInt8} (attr : Bool) (h : Like x1 x2) (p1 : G6.pre l (P ++ [x1]) = false) (p2 : G6.pre l (P ++ [x2]) = false) : G6.namedP l attr (P ++ x1 :: r1) = G6.namedP l attr (P ++ x2 :: r2) := by
  unfold G6.namedP
  rw [best_cut p1, best_cut p2, begun_like (r1 := r1) (r2 := r2) h p1 p2]
  have hz := G6.best_le l P P.length
  obtain ⟨a1, t1, a2, t2, e1, e2, h2⟩ := drop_like (r1 := r1) (r2 := r2) h hz
  rw [e1, e2, goesOn_like h2]
  by_cases h0 : (G6.best l P P.length).2 = 0
  · rw [if_pos h0, if_pos h0]
  · rw [if_neg h0, if_neg h0, List.getElem?_append_left (by omega), List.getElem?_append_left (by omega)]
theorem digs_cut {base : Nat} {P r : List UInt8} {x : UInt8} (hP : ∀ b ∈ P, G6.dig b.toNat < base) (hx : ¬ G6.dig x.toNat < base) : G6.digs base (P ++ x :: r) = P := by
  unfold G6.digs
  induction P with
  | nil => rw [List.nil_append, List.takeWhile_cons, if_neg (by simpa using hx)]
  | cons a P ih =>
    rw [List.cons_append, List.takeWhile_cons, if_pos (by simpa using hP a (by simp)), ih fun b hb => hP b (by simp [hb])]
theorem num_like {k base : Nat} {A P r1 r2 : List UInt8} {x1 x2 : UInt8} (h : Like x1 x2) (hA : A.length = k) (hP : ∀ b ∈ P, G6.dig b.toNat < base) (h1 : ¬ G6.dig x1.toNat < base) (h2 : ¬ G6.dig x2.toNat < base) : G6.numB k base (A ++ (P ++ x1 :: r1)) = G6.numB k base (A ++ (P ++ x2 :: r2)) := by
  have d : ∀ y : List UInt8, (A ++ y).drop k = y := fun y => by rw [← hA]; simp
  have d2 : ∀ y : List UInt8, (A ++ (P ++ y)).drop (k + P.length) = y := fun y => by
    rw [← List.append_assoc, ← hA, ← List.length_append]
    simp
  unfold G6.numB
  rw [d, d, digs_cut hP h1, digs_cut hP h2, d2, d2, semi_like h]
/-- A character of a reference by a name, or of one by a number. -/
def wcC (c : Ch) : Prop := 0 ≤ c.r ∧ c.r < 128 ∧ wrd c.r = true
theorem wc_byte {c : Ch} (h0 : 0 ≤ c.r) (h1 : c.r < 128) : enc c.r = [byt c.r] ∧ (byt c.r).toNat = c.r.toNat := by
  refine ⟨enc_low h0 h1, ?_⟩
  have : c.r.toNat < 256 := by omega
  unfold byt
  simp [Nat.toUInt8, UInt8.toNat_ofNat', Nat.mod_eq_of_lt this]
def byts (q : List Ch) : List UInt8 := q.map fun c => byt c.r
theorem encs_byts : ∀ {q : List Ch}, (∀ c ∈ q, wcC c) → encs q = byts q
  | [], _ => rfl
  | c :: q, h => by
    have h1 := h c (by simp)
    have h2 := encs_byts (q := q) fun d hd => h d (by simp [hd])
    unfold encs at h2 ⊢
    rw [List.flatMap_cons, h2, (wc_byte h1.1 h1.2.1).1]
    rfl
theorem ahT_byts : ∀ {q : List Ch} (t : List Ch), (∀ c ∈ q, wcC c) → ahT (q ++ t) = byts q ++ ahT t
  | [], _, _ => rfl
  | c :: q, t, h => by
    have h1 := h c (by simp)
    have h2 := ahT_byts (q := q) t fun d hd => h d (by simp [hd])
    rw [List.cons_append]
    conv => lhs; unfold ahT
    rw [if_neg (by have := h1.2.1; omega), if_neg (by simp [h1.2.2]), h2]
    rfl
/-- The bytes of the last character, as an open reference has them and as the scanner does. -/
theorem last_like {d : Ch} (t : List Ch) (h0 : 0 ≤ d.r) : ∃ x1 r1 x2 r2, enc d.r = x1 :: r1 ∧ ahT (d :: t) = x2 :: r2 ∧ Like x1 x2 ∧ (d.r < 128 → x1 = byt d.r ∧ x2 = byt d.r) ∧ (128 ≤ d.r → 128 ≤ x1.toNat ∧ 128 ≤ x2.toNat) ∧ (d.r = 59 → r1 = [] ∧ r2 = []) := by
  by_cases h : d.r < 128
  · have e := (wc_byte h0 h).1
    unfold ahT
    rw [if_neg (by omega)]
    split
    · exact ⟨_, _, _, _, e, rfl, .inl rfl, fun _ => ⟨rfl, rfl⟩, fun h => by omega, fun _ => ⟨rfl, rfl⟩⟩
    · next hw =>
      refine ⟨_, _, _, _, e, rfl, .inl rfl, fun _ => ⟨rfl, rfl⟩, fun h => by omega, fun h59 => ?_⟩
      exfalso
      apply hw
      rw [h59]
      decide
  · obtain ⟨b, u, e, hb⟩ := enc_high (r := d.r) (by omega)
    unfold ahT
    rw [if_pos (by omega)]
    exact ⟨b, u, 128, [], e, rfl, .inr ⟨hb, by decide⟩, fun h => by omega, fun _ => ⟨hb, by decide⟩, fun h => by omega⟩
/-- What may stand behind the sign of numbers while it is not sure. -/
def NumOk (t : List Ch) : Prop := (∀ c ∈ t, 48 ≤ c.r ∧ c.r ≤ 57) ∨ ∃ f u, t = f :: u ∧ (f.r = 120 ∨ f.r = 88) ∧ ∀ c ∈ u, (48 ≤ c.r ∧ c.r ≤ 57) ∨ (97 ≤ c.r ∧ c.r ≤ 102) ∨ (65 ≤ c.r ∧ c.r ≤ 70)
/-- What may stand behind & while it is not sure. -/
def NotSure (q : List Ch) : Prop := (∃ b t, q = b :: t ∧ b.r = 35 ∧ NumOk t) ∨ ((∀ c ∈ q, wcC c ∧ c.r ≠ 35) ∧ (q ≠ [] → G6.pre G6.refs (encs q) = true))
theorem wrd_num {r : Int} (h : (48 ≤ r ∧ r ≤ 57) ∨ (97 ≤ r ∧ r ≤ 122) ∨ (65 ≤ r ∧ r ≤ 90)) : wrd r = true := by
  unfold wrd G6.wordyP
  simp
  omega
theorem notSure_wc {q : List Ch} (h : NotSure q) : ∀ c ∈ q, wcC c := by
  rcases h with ⟨b, t, rfl, hb, ht⟩ | ⟨h, _⟩
  · intro c hc
    rcases List.mem_cons.1 hc with rfl | hc
    · exact ⟨by omega, by omega, by rw [hb]; decide⟩
    · rcases ht with ht | ⟨f, u, rfl, hf, hu⟩
      · have := ht c hc
        exact ⟨by omega, by omega, wrd_num (by omega)⟩
      · rcases List.mem_cons.1 hc with rfl | hc
        · exact ⟨by omega, by omega, wrd_num (by omega)⟩
        · have := hu c hc
          exact ⟨by omega, by omega, wrd_num (by omega)⟩
  · exact fun c hc => (h c hc).1
theorem names_word : ∀ x ∈ G6.refs, ∀ b ∈ x.nm, b = 59 ∨ G6.wordyP b.toNat = true := by decide +kernel
theorem pre_word {p : List UInt8} (h : G6.pre G6.refs p = true) : ∀ b ∈ p, b = 59 ∨ G6.wordyP b.toNat = true := fun b hb => by
  unfold G6.pre at h
  obtain ⟨x, hx, h2⟩ := List.any_eq_true.1 h
  simp only [Bool.and_eq_true, List.isPrefixOf_iff_prefix] at h2
  exact names_word x hx b (h2.2.subset hb)
theorem lastR_snoc (l : List Ch) (d : Ch) : Mc.lastR (l ++ [d]) = d.r := by simp [Mc.lastR]
theorem encs_snoc (q : List Ch) (d : Ch) : encs (q ++ [d]) = encs q ++ enc d.r := by simp [encs]
theorem pre_high {P : List UInt8} {x : UInt8} (h : 128 ≤ x.toNat) : G6.pre G6.refs (P ++ [x]) = false := by
  cases e : G6.pre G6.refs (P ++ [x]) with
  | false => rfl
  | true => have := (pre_ok e x (by simp)).1; omega
theorem sure_num (t : List Ch) (d : Ch) (ht : NumOk t) (h : Mc.sureNum (t ++ [d]) = false) : NumOk (t ++ [d]) := by
  have hl := lastR_snoc t d
  cases t with
  | nil =>
    rcases sureNum_ok d [] d.r hl h with h1 | h1 | h1 | ⟨_, h1⟩
    · exact .inl fun c hc => by simp at hc; subst hc; exact h1
    · exfalso
      unfold Mc.sureNum at h
      rw [List.nil_append] at hl h
      simp only [hl] at h
      rw [if_neg (by omega), if_pos (by omega)] at h
      cases h
    · exfalso
      unfold Mc.sureNum at h
      rw [List.nil_append] at hl h
      simp only [hl] at h
      by_cases hx : d.r = 120 ∨ d.r = 88
      · omega
      · rw [if_neg (by omega), if_pos hx] at h
        cases h
    · exact .inr ⟨d, [], rfl, h1, fun c hc => by cases hc⟩
  | cons f u =>
    rcases ht with ht | ⟨f', u', e, hf, hu⟩
    · have hf := ht f (by simp)
      have hd : 48 ≤ d.r ∧ d.r ≤ 57 := by
        unfold Mc.sureNum at h
        simp only [List.cons_append] at hl h
        simp only [hl] at h
        by_cases h1 : 48 ≤ d.r ∧ d.r ≤ 57
        · exact h1
        · rw [if_neg h1, if_pos (by omega)] at h
          cases h
      exact .inl fun c hc => by
        rcases List.mem_append.1 hc with hc | hc
        · exact ht c hc
        · simp at hc; subst hc; exact hd
    · cases e
      rcases sureNum_ok f (u ++ [d]) d.r hl h with h1 | h1 | h1 | ⟨h1, _⟩
      · exact .inr ⟨f, u ++ [d], rfl, hf, fun c hc => by
          rcases List.mem_append.1 hc with hc | hc
          · exact hu c hc
          · simp at hc; subst hc; exact .inl h1⟩
      · exact .inr ⟨f, u ++ [d], rfl, hf, fun c hc => by
          rcases List.mem_append.1 hc with hc | hc
          · exact hu c hc
          · simp at hc; subst hc; exact .inr (.inl h1)⟩
      · exact .inr ⟨f, u ++ [d], rfl, hf, fun c hc => by
          rcases List.mem_append.1 hc with hc | hc
          · exact hu c hc
          · simp at hc; subst hc; exact .inr (.inr h1)⟩
      · simp at h1
/-- One character more, and not sure yet. -/
theorem notSure_more {c0 d : Ch} {q : List Ch} (h : NotSure q) (hs : Mc.sure (c0 :: (q ++ [d])) = false) (h0 : 0 ≤ d.r) : NotSure (q ++ [d]) := by
  have name : ∀ p : List Ch, (∀ c ∈ p, wcC c ∧ c.r ≠ 35) → d.r ≠ 35 → d.r ≠ 59 → G6.goes G6.refs (encs (p ++ [d])) = true → NotSure (p ++ [d]) := fun p hp h35 h59 hg => by
    rw [G6.goes_pre] at hg
    refine .inr ⟨fun c hc => ?_, fun _ => hg⟩
    rcases List.mem_append.1 hc with hc | hc
    · exact hp c hc
    · simp at hc
      subst hc
      have hok : RcOk c := rc_of fun b hb => pre_ok hg b (by rw [encs_snoc]; simp [hb])
      obtain ⟨e1, e2⟩ := wc_byte hok.1 hok.2.1
      have hw := pre_word hg (byt c.r) (by rw [encs_snoc, e1]; simp)
      rw [e2] at hw
      refine ⟨⟨hok.1, hok.2.1, ?_⟩, h35⟩
      rcases hw with hw | hw
      · exfalso
        have := congrArg UInt8.toNat hw
        rw [e2] at this
        have : c.r.toNat = 59 := this
        omega
      · unfold wrd
        rw [hw, Bool.true_or]
  cases q with
  | nil =>
    rw [List.nil_append] at hs
    unfold Mc.sure at hs
    simp only at hs
    split at hs
    · next e => exact .inl ⟨d, [], rfl, e, .inl fun c hc => by cases hc⟩
    · next e =>
      split at hs
      · cases hs
      · next e2 =>
        have hl : Mc.lastR [c0, d] = d.r := rfl
        rw [hl] at e2
        exact name [] (fun c hc => by cases hc) e e2 (by simpa using hs)
  | cons b t =>
    rw [List.cons_append] at hs
    unfold Mc.sure at hs
    simp only at hs
    rcases h with ⟨b', t', e, hb, ht⟩ | ⟨h, _⟩
    · cases e
      rw [if_pos hb] at hs
      exact .inl ⟨b, t ++ [d], rfl, hb, sure_num t d ht hs⟩
    · have hb := (h b (by simp)).2
      rw [if_neg hb] at hs
      split at hs
      · cases hs
      · next e2 =>
        have hl : Mc.lastR (c0 :: b :: (t ++ [d])) = d.r := lastR_snoc (c0 :: b :: t) d
        rw [hl] at e2
        have hg : G6.goes G6.refs (encs (b :: t ++ [d])) = true := by simpa using hs
        refine name (b :: t) h (fun e35 => ?_) e2 hg
        rw [G6.goes_pre] at hg
        have hw := pre_word hg (byt d.r) (by rw [encs_snoc, (wc_byte h0 (by omega)).1]; simp)
        rw [e35] at hw
        revert hw
        decide
theorem ahead_cons {c0 : Ch} (h0 : c0.r = 38) (q : List Ch) : ahead (c0 :: q) = 38 :: ahT q := by
  unfold ahead
  simp only
  rw [if_neg (by omega), h0]
  rfl
theorem encs_cons {c0 : Ch} (h0 : c0.r = 38) (q : List Ch) : encs (c0 :: q) = 38 :: encs q := by
  unfold encs
  rw [List.flatMap_cons, h0]
  rfl
/-- What is not sure at the end is what the scanner sees. -/
theorem ahead_end {c0 : Ch} {q : List Ch} (h0 : c0.r = 38) (h : NotSure q) : ahead (c0 :: q) = encs (c0 :: q) := by
  rw [ahead_cons h0, encs_cons h0, encs_byts (notSure_wc h), ← List.append_nil q, ahT_byts [] (fun c hc => notSure_wc h c (by simpa using hc))]
  simp [ahT]
theorem dig_byte {c : Ch} (h0 : 0 ≤ c.r) (h1 : c.r < 128) (base : Nat) : G6.dig (byt c.r).toNat < base ↔ G6.dig c.r.toNat < base := by rw [(wc_byte h0 h1).2]
theorem dig_high {x : UInt8} (h : 128 ≤ x.toNat) {base : Nat} (hb : base ≤ 16) : ¬ G6.dig x.toNat < base := by
  unfold G6.dig
  rw [if_neg (by omega), if_neg (by omega), if_neg (by omega)]
  omega
theorem dig_no {n base : Nat} (hb : base = 10 ∧ ¬ (48 ≤ n ∧ n ≤ 57) ∨ base = 16 ∧ ¬ (48 ≤ n ∧ n ≤ 57) ∧ ¬ (97 ≤ n ∧ n ≤ 102) ∧ ¬ (65 ≤ n ∧ n ≤ 70)) : ¬ G6.dig n < base := by
  unfold G6.dig
  rcases hb with ⟨rfl, h⟩ | ⟨rfl, h1, h2, h3⟩
  · rw [if_neg h]
    split
    · omega
    · split <;> omega
  · rw [if_neg h1, if_neg h2, if_neg h3]
    omega
theorem dig_yes {n : Nat} : ((48 ≤ n ∧ n ≤ 57) → G6.dig n < 10) ∧ ((48 ≤ n ∧ n ≤ 57) ∨ (97 ≤ n ∧ n ≤ 102) ∨ (65 ≤ n ∧ n ≤ 70) → G6.dig n < 16) := by
  unfold G6.dig
  refine ⟨fun h => by rw [if_pos h]; omega, fun h => ?_⟩
  split
  · omega
  · split
    · omega
    · split <;> omega
theorem mem_byts {q : List Ch} {b : UInt8} (h : b ∈ byts q) : ∃ c ∈ q, b = byt c.r := by
  unfold byts at h
  obtain ⟨c, h1, h2⟩ := List.mem_map.1 h
  exact ⟨c, h1, h2.symm⟩
/-- What is sure is so whatever comes. -/
theorem ref_sure {c0 d : Ch} {q : List Ch} (h0 : c0.r = 38) (h : NotSure q) (hd0 : 0 ≤ d.r) (hs : Mc.sure (c0 :: (q ++ [d])) = true) (attr : Bool) (t : List Ch) : G6.refP G6.refs attr (ahead (c0 :: (q ++ d :: t))) = G6.refP G6.refs attr (encs (c0 :: (q ++ [d]))) := by
  have hwc := notSure_wc h
  obtain ⟨x1, r1, x2, r2, e1, e2, hl, hlow, hhigh, h59⟩ := last_like (d := d) t hd0
  rw [ahead_cons h0, encs_cons h0, ahT_byts _ hwc, e2, encs_snoc, encs_byts hwc, e1]
  have name : ∀ P : List UInt8, (∀ y, P ++ x1 :: r1 ≠ 35 :: y) → (∀ y, P ++ x2 :: r2 ≠ 35 :: y) → ((d.r = 59) ∨ (G6.pre G6.refs (P ++ [x1]) = false ∧ G6.pre G6.refs (P ++ [x2]) = false)) → G6.refP G6.refs attr (38 :: (P ++ x2 :: r2)) = G6.refP G6.refs attr (38 :: (P ++ x1 :: r1)) := fun P n1 n2 hp => by
    have no : ∀ l : List UInt8, (∀ y, l ≠ 35 :: y) → [38, 35].isPrefixOf (38 :: l) = false := fun l hn => by
      cases l with
      | nil => rfl
      | cons a l =>
        have : ((35 : UInt8) == a) = false := beq_false_of_ne fun e => hn l (by rw [e])
        simp [List.isPrefixOf, this]
    have yes : ∀ l : List UInt8, [38].isPrefixOf (38 :: l) = true := fun l => by simp [List.isPrefixOf]
    unfold G6.refP
    rw [no _ n1, no _ n2, yes, yes]
    simp only [Bool.false_eq_true, if_false, if_true, List.drop_succ_cons, List.drop_zero]
    rcases hp with hp | ⟨p1, p2⟩
    · obtain ⟨rfl, rfl⟩ := h59 hp
      obtain ⟨rfl, rfl⟩ := hlow (by omega)
      rfl
    · exact (named_like attr hl p1 p2).symm
  have goesx : ∀ p : List Ch, (∀ c ∈ p, wcC c) → G6.goes G6.refs (encs (p ++ [d])) = false → G6.pre G6.refs (byts p ++ [x1]) = false ∧ G6.pre G6.refs (byts p ++ [x2]) = false := fun p hp hg => by
    by_cases hd : d.r < 128
    · obtain ⟨rfl, rfl⟩ := hlow hd
      rw [G6.goes_pre, encs_snoc, encs_byts hp, (wc_byte hd0 hd).1] at hg
      exact ⟨hg, hg⟩
    · exact ⟨pre_high (hhigh (by omega)).1, pre_high (hhigh (by omega)).2⟩
  have b35 : ∀ {c : Ch}, 0 ≤ c.r → c.r < 128 → c.r ≠ 35 → byt c.r ≠ 35 := fun hc0 hc1 hc e => by
    have := congrArg UInt8.toNat e
    rw [(wc_byte hc0 hc1).2] at this
    have : _ = 35 := this
    omega
  cases q with
  | nil =>
    rw [List.nil_append] at hs
    unfold Mc.sure at hs
    simp only at hs
    split at hs
    · exact absurd hs (by decide)
    · next h35 =>
      have n35 : x1 ≠ 35 ∧ x2 ≠ 35 := by
        by_cases hd : d.r < 128
        · obtain ⟨rfl, rfl⟩ := hlow hd
          exact ⟨b35 hd0 hd h35, b35 hd0 hd h35⟩
        · have := hhigh (by omega)
          exact ⟨fun e => by rw [e] at this; exact absurd this.1 (by decide), fun e => by rw [e] at this; exact absurd this.2 (by decide)⟩
      refine name [] (fun y e => n35.1 (by simpa using (List.cons.inj e).1)) (fun y e => n35.2 (by simpa using (List.cons.inj e).1)) ?_
      split at hs
      · next e => exact .inl e
      · exact .inr (goesx [] (fun c hc => by cases hc) (by simpa using hs))
  | cons b u =>
    rw [List.cons_append] at hs
    unfold Mc.sure at hs
    simp only at hs
    rcases h with ⟨b', u', e, hb, hu⟩ | ⟨h, _⟩
    · cases e
      rw [if_pos hb] at hs
      have hyes : ∀ l : List UInt8, [38, 35].isPrefixOf (38 :: 35 :: l) = true := fun l => by simp [List.isPrefixOf]
      have hbb : byts (b :: u) = 35 :: byts u := by show byt b.r :: _ = _; rw [hb]; rfl
      rw [hbb, List.cons_append, List.cons_append]
      unfold G6.refP
      rw [hyes, hyes]
      simp only [if_true]
      have hsn : Mc.lastR (u ++ [d]) = d.r := lastR_snoc u d
      unfold Mc.sureNum at hs
      have nodig : ∀ base, (base = 10 ∧ ¬ (48 ≤ d.r ∧ d.r ≤ 57) ∨ base = 16 ∧ ¬ (48 ≤ d.r ∧ d.r ≤ 57) ∧ ¬ (97 ≤ d.r ∧ d.r ≤ 102) ∧ ¬ (65 ≤ d.r ∧ d.r ≤ 70)) → ¬ G6.dig x1.toNat < base ∧ ¬ G6.dig x2.toNat < base := fun base hbase => by
        by_cases hd : d.r < 128
        · obtain ⟨rfl, rfl⟩ := hlow hd
          rw [dig_byte hd0 hd]
          exact ⟨dig_no (by omega), dig_no (by omega)⟩
        · exact ⟨dig_high (hhigh (by omega)).1 (by omega), dig_high (hhigh (by omega)).2 (by omega)⟩
      have nox : ∀ (x : UInt8), (x = byt d.r ∧ d.r < 128 ∨ 128 ≤ x.toNat) → ¬ (d.r = 120 ∨ d.r = 88) → ¬ (x = 120 ∨ x = 88) := fun x hx hn e => by
        rcases hx with ⟨rfl, hd⟩ | hx
        · have e2 := (wc_byte hd0 hd).2
          rcases e with e | e
          · rw [e] at e2; have : 120 = d.r.toNat := e2; omega
          · rw [e] at e2; have : 88 = d.r.toNat := e2; omega
        · rcases e with e | e <;> rw [e] at hx <;> exact absurd hx (by decide)
      have xs1 : x1 = byt d.r ∧ d.r < 128 ∨ 128 ≤ x1.toNat := by
        by_cases hd : d.r < 128
        · exact .inl ⟨(hlow hd).1, hd⟩
        · exact .inr (hhigh (by omega)).1
      have xs2 : x2 = byt d.r ∧ d.r < 128 ∨ 128 ≤ x2.toNat := by
        by_cases hd : d.r < 128
        · exact .inl ⟨(hlow hd).2, hd⟩
        · exact .inr (hhigh (by omega)).2
      cases u with
      | nil =>
        simp only [List.nil_append] at hsn hs
        simp only [hsn] at hs
        by_cases h1 : 48 ≤ d.r ∧ d.r ≤ 57
        · rw [if_pos h1] at hs; cases hs
        rw [if_neg h1] at hs
        by_cases hx : d.r = 120 ∨ d.r = 88
        · rw [if_neg (not_not_intro hx)] at hs
          simp at hs
        have hn := nodig 10 (.inl ⟨rfl, h1⟩)
        have k1 := nox x1 xs1 hx
        have k2 := nox x2 xs2 hx
        unfold G6.numbP
        rw [if_neg (by simpa [byts] using k2), if_neg (by simpa [byts] using k1)]
        exact num_like (A := [38, 35]) (P := []) (by rcases hl with hl | hl; exact .inl hl.symm; exact .inr ⟨hl.2, hl.1⟩) rfl (fun b hb => by cases hb) hn.2 hn.1
      | cons f v =>
        simp only [List.cons_append] at hsn hs
        simp only [hsn] at hs
        by_cases h1 : 48 ≤ d.r ∧ d.r ≤ 57
        · rw [if_pos h1] at hs; cases hs
        rw [if_neg h1] at hs
        rcases hu with hu | ⟨f', v', e, hf, hv⟩
        · have hf := hu f (by simp)
          have hn := nodig 10 (.inl ⟨rfl, h1⟩)
          have hfb : ¬ (byt f.r = 120 ∨ byt f.r = 88) := fun e => by
            have e2 := (wc_byte (c := f) (by omega) (by omega)).2
            rcases e with e | e
            · rw [e] at e2; have : 120 = f.r.toNat := e2; omega
            · rw [e] at e2; have : 88 = f.r.toNat := e2; omega
          unfold G6.numbP
          rw [if_neg (by simpa [byts] using hfb), if_neg (by simpa [byts] using hfb)]
          refine num_like (A := [38, 35]) (P := byts (f :: v)) (by rcases hl with hl | hl; exact .inl hl.symm; exact .inr ⟨hl.2, hl.1⟩) rfl (fun b hb => ?_) hn.2 hn.1
          obtain ⟨c, hc, rfl⟩ := mem_byts hb
          have := hu c hc
          rw [dig_byte (by omega) (by omega)]
          exact dig_yes.1 (by omega)
        · cases e
          rw [if_neg (not_not_intro hf)] at hs
          have h2 : ¬ ((97 ≤ d.r ∧ d.r ≤ 102) ∨ (65 ≤ d.r ∧ d.r ≤ 70)) := by
            simp at hs
            omega
          have hn := nodig 16 (.inr ⟨rfl, h1, fun h => h2 (.inl h), fun h => h2 (.inr h)⟩)
          have hfb : byt f.r = 120 ∨ byt f.r = 88 := by
            rcases hf with e | e
            · rw [e]; exact .inl rfl
            · rw [e]; exact .inr rfl
          unfold G6.numbP
          rw [if_pos (by simpa [byts] using hfb), if_pos (by simpa [byts] using hfb)]
          refine num_like (A := [38, 35, byt f.r]) (P := byts v) (by rcases hl with hl | hl; exact .inl hl.symm; exact .inr ⟨hl.2, hl.1⟩) rfl (fun b hb => ?_) hn.2 hn.1
          obtain ⟨c, hc, rfl⟩ := mem_byts hb
          have := hv c hc
          rw [dig_byte (by omega) (by omega)]
          exact dig_yes.2 (by omega)
    · have hb := (h b (by simp))
      rw [if_neg hb.2] at hs
      have hb35 := b35 hb.1.1 hb.1.2.1 hb.2
      refine name (byts (b :: u)) (fun y e => hb35 ?_) (fun y e => hb35 ?_) ?_
      · exact (List.cons.inj e).1
      · exact (List.cons.inj e).1
      split at hs
      · next e =>
        have hl : Mc.lastR (c0 :: b :: (u ++ [d])) = d.r := lastR_snoc (c0 :: b :: u) d
        rw [hl] at e
        exact .inl e
      · exact .inr (goesx (b :: u) hwc (by simpa using hs))
end Go.Proofs.Ytkbakbacomidbaa
namespace Go.Proofs.Ytkbakbacomidbaa
open Go.RowKit
/-- A machine in a state in which references are read. -/
def Reads (m : Mc) : Prop := (m.st = 46 ∧ m.en = 47 ∧ m.kind = 0 ∧ (m.text = 0 ∨ m.text = 1)) ∨ ((m.st = 220 ∨ m.st = 221 ∨ m.st = 222) ∧ m.en = 106 ∧ m.kind ≠ 0)
theorem wc_facts {d : Ch} (h : wcC d) : d.r ≠ 34 ∧ d.r ≠ 38 ∧ d.r ≠ 39 ∧ d.r ≠ 60 ∧ d.r ≠ 61 ∧ d.r ≠ 62 ∧ d.r ≠ 96 ∧ blk d.r = false := by
  obtain ⟨h0, h1, h2⟩ := h
  unfold wrd G6.wordyP at h2
  simp at h2
  refine ⟨by omega, by omega, by omega, by omega, by omega, by omega, by omega, ?_⟩
  unfold blk G7.blk
  simp
  omega
theorem take_plain {m : Mc} {d : Ch} (h : Reads m) (hd : wcC d) : m.take d = m.put d false := by
  obtain ⟨h1, h2, h3, h4, h5, h6, h7, h8⟩ := wc_facts hd
  unfold Mc.put
  rcases h with ⟨hs, _, hk, _⟩ | ⟨hs, _, hk⟩
  · rw [if_neg (by simpa using hk)]
    unfold Mc.take
    simp only [hs]
    unfold Mc.data
    rw [if_neg (fun e => h2 e.1), if_neg (fun e => h4 e.1), if_neg (fun e => h4 e.1)]
    rfl
  · rw [if_pos hk]
    unfold Mc.take
    rcases hs with hs | hs | hs <;> simp only [hs]
    · unfold Mc.quoted; rw [if_neg h1, if_neg h2]
    · unfold Mc.quoted; rw [if_neg h3, if_neg h2]
    · unfold Mc.bare
      rw [if_neg (by simp [h8]), if_neg h2, if_neg h6, if_neg (by omega)]
theorem put_facts (m : Mc) (d : Ch) (b : Bool) : (m.put d b).st = m.st ∧ (m.put d b).en = m.en ∧ (m.put d b).kind = m.kind ∧ (m.put d b).text = m.text ∧ (m.put d b).ref = m.ref ∧ ((∀ t ∈ m.out, t.k ≠ 2) → ∀ t ∈ (m.put d b).out, t.k ≠ 2) := by
  unfold Mc.put
  split
  · exact ⟨rfl, rfl, rfl, rfl, rfl, fun h => h⟩
  · refine ⟨rfl, rfl, rfl, rfl, rfl, fun h t ht => ?_⟩
    rcases List.mem_append.1 ht with ht | ht
    · exact h t ht
    · simp at ht; subst ht; simp [chT]
theorem put_reads {m : Mc} (h : Reads m) (d : Ch) (b : Bool) : Reads (m.put d b) := by
  obtain ⟨h1, h2, h3, h4, _⟩ := put_facts m d b
  unfold Reads
  rw [h1, h2, h3, h4]
  exact h
theorem put_frame (m : Mc) (d : Ch) (b : Bool) : m.put d b = { ({ m with out := [] } : Mc).put d b with out := m.out ++ (({ m with out := [] } : Mc).put d b).out } := by
  unfold Mc.put
  by_cases h : m.kind ≠ 0
  · rw [if_pos h, if_pos h]
    simp [Mc.addValue]
  · rw [if_neg h, if_neg h]
    simp [Mc.tell]
theorem put_drop (m : Mc) (d : Ch) (b : Bool) : ({ m.put d b with out := [] } : Mc) = { ({ m with out := [] } : Mc).put d b with out := [] } := by rw [put_frame m d b]
theorem fold_facts : ∀ (q : List Ch) (b : Mc), Reads b → b.ref = [] → (∀ d ∈ q, wcC d) → (∀ t ∈ b.out, t.k ≠ 2) → Reads (q.foldl Mc.take b) ∧ (q.foldl Mc.take b).ref = [] ∧ ∀ t ∈ (q.foldl Mc.take b).out, t.k ≠ 2
  | [], _, h, hr, _, ho => ⟨h, hr, ho⟩
  | d :: q, b, h, hr, hq, ho => by
    rw [List.foldl_cons, take_plain h (hq d (by simp))]
    obtain ⟨_, _, _, _, h5, h6⟩ := put_facts b d false
    exact fold_facts q _ (put_reads h d false) (h5.trans hr) (fun e he => hq e (by simp [he])) (h6 ho)
theorem reads_out {m : Mc} (h : Reads m) (o : List Pt) : Reads { m with out := o } := h
/-- Plain characters one after the other. -/
theorem tot_fold {auto : Bool} {N : Int} (t : List Ch) : ∀ (q : List Ch) (b : Mc), Reads b → b.ref = [] → (∀ d ∈ q, wcC d) → (∀ t ∈ b.out, t.k ≠ 2) → pre b.out (tot auto N (q ++ t) { b with out := [] }) = pre (q.foldl Mc.take b).out (tot auto N t { q.foldl Mc.take b with out := [] })
  | [], _, _, _, _, _ => rfl
  | d :: q, b, h, hr, hq, ho => by
    have hd := hq d (by simp)
    obtain ⟨_, _, _, _, h5, h6⟩ := put_facts b d false
    obtain ⟨_, _, _, _, g5, g6⟩ := put_facts ({ b with out := [] } : Mc) d false
    have hp : (∀ t ∈ (({ b with out := [] } : Mc).put d false).out, t.k ≠ 2) := g6 (fun t ht => by cases ht)
    rw [List.foldl_cons, take_plain h hd, List.cons_append, tot_say (m := { b with out := [] }) hr (take_plain (reads_out h []) hd) hp, pre_pre, ← tot_fold t q (b.put d false) (put_reads h d false) (h5.trans hr) (fun e he => hq e (by simp [he])) (h6 ho)]
    have e : (b.put d false).out = b.out ++ (({ b with out := [] } : Mc).put d false).out := congrArg Mc.out (put_frame b d false)
    rw [e, put_drop b d false]
/-- What the machine has told plays no part in what a character does. -/
theorem tag_frame (m : Mc) (c : Ch) : m.tellTag c = { ({ m with out := [] } : Mc).tellTag c with out := m.out ++ (({ m with out := [] } : Mc).tellTag c).out } := by
  by_cases h : m.kind = 2
  · simp [Mc.tellTag, Mc.keep, h, Mc.tell, Mc.toData, Mc.noMade, Mc.tagPt]
  · by_cases h2 : m.keep.attrs ≠ [] ∨ m.keep.self = true
    · have h3 : ({ m with out := [] } : Mc).keep.attrs ≠ [] ∨ ({ m with out := [] } : Mc).keep.self = true := h2
      unfold Mc.tellTag
      simp only [show m.keep.kind = m.kind from rfl, show ({ m with out := [] } : Mc).keep.kind = m.kind from rfl, if_neg h, if_pos h2, if_pos h3]
      rfl
    · have h3 : ¬ (({ m with out := [] } : Mc).keep.attrs ≠ [] ∨ ({ m with out := [] } : Mc).keep.self = true) := h2
      unfold Mc.tellTag
      simp only [show m.keep.kind = m.kind from rfl, show ({ m with out := [] } : Mc).keep.kind = m.kind from rfl, if_neg h, if_neg h2, if_neg h3]
      rfl
theorem take27 {m : Mc} (h : m.st = 46) (c : Ch) : m.take c = m.data c := by unfold Mc.take; simp only [h]
theorem take181 {m : Mc} (h : m.st = 220) (c : Ch) : m.take c = m.quoted c 34 := by unfold Mc.take; simp only [h]
theorem take182 {m : Mc} (h : m.st = 221) (c : Ch) : m.take c = m.quoted c 39 := by unfold Mc.take; simp only [h]
theorem take183 {m : Mc} (h : m.st = 222) (c : Ch) : m.take c = m.bare c := by unfold Mc.take; simp only [h]
theorem out_frame {m : Mc} (h : Reads m) (c : Ch) : m.take c = { ({ m with out := [] } : Mc).take c with out := m.out ++ (({ m with out := [] } : Mc).take c).out } := by
  rcases h with ⟨hs, _, _, _⟩ | ⟨hs, _, _⟩
  · rw [take27 hs, take27 (m := { m with out := [] }) hs]
    unfold Mc.data
    by_cases h1 : c.r = 38 ∧ (m.text = 0 ∨ m.text = 1)
    · simp only [if_pos h1, List.append_nil]
    · by_cases h2 : c.r = 60 ∧ m.text = 0
      · simp only [if_neg h1, if_pos h2, List.append_nil, Mc.hold]
      · by_cases h3 : c.r = 60 ∧ m.text ≠ 3
        · simp only [if_neg h1, if_neg h2, if_pos h3, List.append_nil, Mc.hold]
        · simp only [if_neg h1, if_neg h2, if_neg h3, Mc.tellChar, Mc.tell, List.nil_append]
  · have quo : ∀ sign, m.quoted c sign = { ({ m with out := [] } : Mc).quoted c sign with out := m.out ++ (({ m with out := [] } : Mc).quoted c sign).out } := fun sign => by
      unfold Mc.quoted
      split
      · simp
      · split
        · simp
        · simp [Mc.addValue]
    rcases hs with hs | hs | hs
    · rw [take181 hs, take181 (m := { m with out := [] }) hs]
      exact quo 34
    · rw [take182 hs, take182 (m := { m with out := [] }) hs]
      exact quo 39
    · rw [take183 hs, take183 (m := { m with out := [] }) hs]
      unfold Mc.bare
      by_cases h1 : blk c.r = true
      · simp only [if_pos h1, List.append_nil]
      · by_cases h2 : c.r = 38
        · simp only [if_neg h1, if_pos h2, List.append_nil]
        · by_cases h3 : c.r = 62
          · simp only [if_neg h1, if_neg h2, if_pos h3]
            exact tag_frame m c
          · by_cases h4 : c.r = 34 ∨ c.r = 39 ∨ c.r = 60 ∨ c.r = 61 ∨ c.r = 96
            · simp only [if_neg h1, if_neg h2, if_neg h3, if_pos h4, Mc.addValue, Mc.fault, List.append_nil]
            · simp only [if_neg h1, if_neg h2, if_neg h3, if_neg h4, Mc.addValue, List.append_nil]
theorem end_frame {m : Mc} (h : Reads m) (N : Int) : (m.endS N).out = m.out ++ (({ m with out := [] } : Mc).endS N).out ∧ (m.endS N).fs = (({ m with out := [] } : Mc).endS N).fs := by
  unfold Mc.endS
  rcases h with ⟨_, he, _⟩ | ⟨_, he, _⟩ <;> simp only [he]
  · simp [Mc.release]
  · simp [Mc.fault]
/-- The machine behind a reference, ahead of what is left. -/
def refB (m : Mc) (l : List Ch) (o : Int × Nat × List Int) : Mc :=
  let a : Mc := { m with ref := [], fs := m.fs ++ Mc.refFaults l o.2.1 o.2.2 }
  if o.2.1 = 0 then (match l with | [] => a | c :: _ => a.put c false) else a.put ⟨o.1, Mc.frAt l, Mc.toAt l (o.2.1 - 1)⟩ true
def refK (o : Int × Nat × List Int) : Nat := if o.2.1 = 0 then 1 else o.2.1
theorem resolve_is (m : Mc) : m.resolve = (m.ref.drop (refK m.oneR)).foldl Mc.take (refB m m.ref m.oneR) := rfl
theorem refB_facts {m : Mc} (h : Reads m) (ho : m.out = []) (l : List Ch) (o : Int × Nat × List Int) : Reads (refB m l o) ∧ (refB m l o).ref = [] ∧ ∀ t ∈ (refB m l o).out, t.k ≠ 2 := by
  have h0 : ∀ t ∈ ({ m with ref := [], fs := m.fs ++ Mc.refFaults l o.2.1 o.2.2 } : Mc).out, t.k ≠ 2 := fun t ht => by
    have : t ∈ m.out := ht
    rw [ho] at this
    cases this
  have hr : Reads ({ m with ref := [], fs := m.fs ++ Mc.refFaults l o.2.1 o.2.2 } : Mc) := h
  have key : ∀ c b, Reads (({ m with ref := [], fs := m.fs ++ Mc.refFaults l o.2.1 o.2.2 } : Mc).put c b) ∧ (({ m with ref := [], fs := m.fs ++ Mc.refFaults l o.2.1 o.2.2 } : Mc).put c b).ref = [] ∧ ∀ t ∈ (({ m with ref := [], fs := m.fs ++ Mc.refFaults l o.2.1 o.2.2 } : Mc).put c b).out, t.k ≠ 2 := fun c b => by
    obtain ⟨_, _, _, _, h5, h6⟩ := put_facts ({ m with ref := [], fs := m.fs ++ Mc.refFaults l o.2.1 o.2.2 } : Mc) c b
    exact ⟨put_reads hr c b, h5, h6 h0⟩
  unfold refB
  dsimp only
  split
  · split
    · exact ⟨hr, rfl, h0⟩
    · exact key _ _
  · exact key _ _
/-- What the scanner finds, told to the machine. -/
def refGo (auto : Bool) (N : Int) (m : Mc) (l : List Ch) : List Pt × Fs :=
  let o := refR (decide (m.kind ≠ 0)) l
  pre (refB m l o).out (tot auto N (l.drop (refK o)) { refB m l o with out := [] })
theorem toAt_pre {a b : List Ch} {k : Nat} (h : k < a.length) : Mc.toAt (a ++ b) k = Mc.toAt a k := by
  unfold Mc.toAt
  rw [List.getElem?_append_left h]
theorem refFaults_pre {a b : List Ch} {n : Nat} (hn : n ≤ a.length) (ha : a ≠ []) (codes : List Int) : Mc.refFaults (a ++ b) n codes = Mc.refFaults a n codes := by
  unfold Mc.refFaults
  have hl : 0 < a.length := List.length_pos_iff.2 ha
  have h1 : Mc.toAt (a ++ b) (n - 1) = Mc.toAt a (n - 1) := toAt_pre (by omega)
  have h2 : Mc.frAt (a ++ b) = Mc.frAt a := by
    cases a with
    | nil => exact absurd rfl ha
    | cons c a => rfl
  rw [h1, h2]
theorem refB_pre {m : Mc} {a b : List Ch} {o : Int × Nat × List Int} (hn : o.2.1 ≤ a.length) (ha : a ≠ []) : refB m (a ++ b) o = refB m a o := by
  have hl : 0 < a.length := List.length_pos_iff.2 ha
  have h1 : Mc.toAt (a ++ b) (o.2.1 - 1) = Mc.toAt a (o.2.1 - 1) := toAt_pre (by omega)
  have h2 : Mc.frAt (a ++ b) = Mc.frAt a := by
    cases a with
    | nil => exact absurd rfl ha
    | cons c a => rfl
  unfold refB
  rw [refFaults_pre hn ha, h1, h2]
  cases a with
  | nil => exact absurd rfl ha
  | cons c a => rfl
theorem notSure_ok {c0 : Ch} {q : List Ch} (h0 : c0.r = 38) (h : NotSure q) : RefOk (c0 :: q) := ⟨c0, q, rfl, h0, fun d hd => by
  have := notSure_wc h d hd
  exact ⟨this.1, this.2.1, (wc_facts this).2.1⟩⟩
theorem ref_eq {auto : Bool} {N : Int} {m : Mc} (hS : Reads m) (hr : m.ref = []) (ho : m.out = []) {c0 : Ch} (h0 : c0.r = 38) : ∀ (t q : List Ch), NotSure q → (∀ d ∈ t, 0 ≤ d.r) → tot auto N t { m with ref := c0 :: q } = refGo auto N m (c0 :: (q ++ t))
  | [], q, hq, _ => by
    have he := ahead_end h0 hq
    rw [List.append_nil]
    unfold refGo refR
    rw [he]
    have hone : ({ m with ref := c0 :: q } : Mc).oneR = G6.refP G6.refs (decide (m.kind ≠ 0)) (encs (c0 :: q)) := rfl
    rw [← hone]
    obtain ⟨o, hoo⟩ : ∃ o, ({ m with ref := c0 :: q } : Mc).oneR = o := ⟨_, rfl⟩
    have hres := resolve_is ({ m with ref := c0 :: q } : Mc)
    rw [hoo] at hres ⊢
    obtain ⟨f1, f2, f3⟩ := refB_facts hS ho (c0 :: q) o
    have hB : refB ({ m with ref := c0 :: q } : Mc) (c0 :: q) o = refB m (c0 :: q) o := rfl
    rw [hB] at hres
    have hw : ∀ d ∈ (c0 :: q).drop (refK o), wcC d := fun d hd => by
      obtain ⟨j, hj⟩ : ∃ j, refK o = j + 1 := by
        unfold refK
        split
        · exact ⟨0, rfl⟩
        · exact ⟨o.2.1 - 1, by omega⟩
      rw [hj, List.drop_succ_cons] at hd
      exact notSure_wc hq d (List.mem_of_mem_drop hd)
    have hf := tot_fold (auto := auto) (N := N) [] ((c0 :: q).drop (refK o)) (refB m (c0 :: q) o) f1 f2 hw f3
    rw [List.append_nil] at hf
    dsimp only
    rw [hf]
    obtain ⟨g1, g2, _⟩ := fold_facts ((c0 :: q).drop (refK o)) (refB m (c0 :: q) o) f1 f2 hw f3
    rw [tot_end (m := { ((c0 :: q).drop (refK o)).foldl Mc.take (refB m (c0 :: q) o) with out := [] }) g2]
    have hL : tot auto N [] ({ m with ref := c0 :: q } : Mc) = ((({ m with ref := c0 :: q } : Mc).resolve.endS N).out ++ [eofP6 N], (({ m with ref := c0 :: q } : Mc).resolve.endS N).fs) := by
      unfold tot Mc.ended
      simp only [ne_eq, reduceCtorEq, not_false_eq_true, if_true]
      rfl
    have hres' : ({ m with ref := c0 :: q } : Mc).resolve = ((c0 :: q).drop (refK o)).foldl Mc.take (refB m (c0 :: q) o) := hres
    rw [hL, hres', (end_frame g1 N).1, (end_frame g1 N).2]
    simp [pre]
  | d :: t, q, hq, ht => by
    have hd0 := ht d (by simp)
    have hne : ({ m with ref := c0 :: q } : Mc).ref ≠ [] := by simp
    have hstep : ({ m with ref := c0 :: q } : Mc).step d = if Mc.sure (c0 :: (q ++ [d])) = true then ({ m with ref := c0 :: (q ++ [d]) } : Mc).resolve else ({ m with ref := c0 :: (q ++ [d]) } : Mc) := by
      unfold Mc.step
      rw [if_pos hne]
      rfl
    cases hs : Mc.sure (c0 :: (q ++ [d])) with
    | false =>
      have hf : ({ m with ref := c0 :: q } : Mc).feed d = ([], { m with ref := c0 :: (q ++ [d]) }) := by
        unfold Mc.feed
        rw [hstep, hs]
        simp [ho]
      conv => lhs; unfold tot
      rw [hf, aut_none auto (by simp)]
      have ih := ref_eq (auto := auto) (N := N) hS hr ho h0 t (q ++ [d]) (notSure_more hq hs hd0) (fun e he => ht e (by simp [he]))
      rw [List.append_assoc, List.singleton_append] at ih
      rw [← ih]
      simp
    | true =>
      have hone : ({ m with ref := c0 :: (q ++ [d]) } : Mc).oneR = refR (decide (m.kind ≠ 0)) (c0 :: (q ++ d :: t)) := (ref_sure h0 hq hd0 hs (decide (m.kind ≠ 0)) t).symm
      unfold refGo
      dsimp only
      rw [← hone]
      obtain ⟨o, hoo⟩ : ∃ o, ({ m with ref := c0 :: (q ++ [d]) } : Mc).oneR = o := ⟨_, rfl⟩
      have hres := resolve_is ({ m with ref := c0 :: (q ++ [d]) } : Mc)
      have hlen : ({ m with ref := c0 :: (q ++ [d]) } : Mc).oneR.2.1 ≤ (c0 :: (q ++ [d])).length := oneR_len (m := { m with ref := c0 :: (q ++ [d]) }) (.inr ⟨c0 :: q, d, rfl, notSure_ok h0 hq⟩)
      rw [hoo] at hres hlen ⊢
      have hres' : ({ m with ref := c0 :: (q ++ [d]) } : Mc).resolve = ((c0 :: (q ++ [d])).drop (refK o)).foldl Mc.take (refB m (c0 :: (q ++ [d])) o) := hres
      have hsplit : c0 :: (q ++ d :: t) = (c0 :: (q ++ [d])) ++ t := by simp
      rw [hsplit, refB_pre hlen (by simp)]
      obtain ⟨f1, f2, f3⟩ := refB_facts hS ho (c0 :: (q ++ [d])) o
      obtain ⟨b, hb⟩ : ∃ b, refB m (c0 :: (q ++ [d])) o = b := ⟨_, rfl⟩
      rw [hb] at hres' f1 f2 f3 ⊢
      obtain ⟨j, hj⟩ : ∃ j, refK o = j + 1 := by
        unfold refK
        split
        · exact ⟨0, rfl⟩
        · exact ⟨o.2.1 - 1, by omega⟩
      have hjl : j ≤ (q ++ [d]).length := by
        have : refK o ≤ (c0 :: (q ++ [d])).length := by
          unfold refK
          split
          · simp
          · exact hlen
        rw [hj] at this
        simpa using this
      rw [hj, List.drop_succ_cons] at hres'
      rw [hj, List.cons_append, List.drop_succ_cons, List.drop_append_of_le_length hjl]
      have hf : ({ m with ref := c0 :: q } : Mc).feed d = ((((q ++ [d]).drop j).foldl Mc.take b).out, { ((q ++ [d]).drop j).foldl Mc.take b with out := [] }) := by
        unfold Mc.feed
        rw [hstep, hs, if_pos rfl, hres']
      conv => lhs; unfold tot
      rw [hf]
      simp only [List.length_append, List.length_cons, List.length_nil, Nat.zero_add] at hjl
      by_cases hjq : j ≤ q.length
      · rw [List.drop_append_of_le_length hjq]
        have hw : ∀ e ∈ q.drop j, wcC e := fun e he => notSure_wc hq e (List.mem_of_mem_drop he)
        rw [List.append_assoc, List.singleton_append, tot_fold (d :: t) (q.drop j) b f1 f2 hw f3]
        obtain ⟨g1, g2, g3⟩ := fold_facts (q.drop j) b f1 f2 hw f3
        rw [List.foldl_append]
        obtain ⟨B, hB⟩ : ∃ B, (q.drop j).foldl Mc.take b = B := ⟨_, rfl⟩
        rw [hB] at g1 g2 g3 ⊢
        simp only [List.foldl_cons, List.foldl_nil]
        conv => rhs; unfold tot
        rw [feed_take (m := { B with out := [] }) g2, out_frame g1 d]
        unfold pre
        dsimp only
        have ha : ∀ k : Mc, Mc.aut auto (B.out ++ (({ B with out := [] } : Mc).take d).out) k = Mc.aut auto (({ B with out := [] } : Mc).take d).out k := fun k => by
          unfold Mc.aut
          rw [lastSt_app g3]
        rw [ha, List.append_assoc]
      · have : (q ++ [d]).drop j = [] := List.drop_of_length_le (by simp; omega)
        rw [this, List.foldl_nil, List.nil_append, aut_none auto f3]
        rfl
end Go.Proofs.Ytkbakbacomidbaa
