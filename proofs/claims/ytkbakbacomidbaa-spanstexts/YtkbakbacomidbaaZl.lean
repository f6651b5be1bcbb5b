/- A reader in memory: its stream, its machine, the faults that it gathered; what stands while others turn. -/
import Derived.Test.YtkbakbacomidbaaProg
import Derived.Below
import Derived.BigCall
import Derived.BigQuiet
import Derived.BigRegion
import Derived.Deep.DeepCutAuto
import Derived.Deep.LoopGhost
import Derived.Deep.QuietTactic
import Derived.Deep.RegionHeld3
import Derived.Deep.RegionLaw
import Derived.Deep.RegionWith
import Derived.Deep.Upon
import Derived.Laws.AppendOwn
import Derived.Laws.BytesArg
import Derived.Laws.EntriesVeiled
import Derived.Laws.IdiomStrings
import Derived.Laws.StructEq
import Derived.Lib.AppendStr
import Derived.Lib.RuneBytes
import Derived.Maps.AppendAt
import Derived.Maps.OwnSet
import Derived.OwnWalk
import Derived.ScopeJumps
import Derived.Shelf.Abstract
import Derived.Shelf.Small.Strs
import Derived.Shelf.Strings.Builder1
import Derived.Shelf.Strings.BuilderF
import Derived.Shelf.Strings.BuilderK
import Derived.Shelf.Strings.BuilderRune
import Derived.Shelf.Strings.Prefix
import Derived.StillTailTactics
import Derived.StringKeys
import Derived.WalkArith
import Derived.WalkKit
import Derived.WalkLawsBesides
import Derived.WalkMore
import Derived.WalkSpells
import Derived.Test.YtkbakbacomidbaaZi
import Derived.Test.YtkbakbacomidbaaZj
import Derived.Test.YtkbakbacomidbaaZk
namespace Go.Proofs.Ytkbakbacomidbaa
open Go.RowKit
theorem row_mv {w w' : World} {B e s n : Nat} {v : Value} {xs : List Value} (h : w.ownsRow B e s v n xs) (k : ∀ g, v.ownBlock = some g → w'.heap[g]? = w.heap[g]?) : w'.ownsRow B e s v n xs := by
  refine ⟨h.1, ?_⟩
  rcases h.2 with hn | ⟨g, cap, cur, rfl, hb, hg, rest⟩
  · exact .inl hn
  · exact .inr ⟨g, cap, cur, rfl, hb, (k g rfl).trans hg, rest⟩
section
variable {B r x xs d : Nat} {m : Mc} {v : Vs} {tn : Bool} {p : Int} {u : List UInt8} {wt : Ch} {fv : Value} {fs : List (Int × Int)} {W : World}
end
end Go.Proofs.Ytkbakbacomidbaa
namespace Go.Proofs.Ytkbakbacomidbaa.So
open Go.RowKit
/-- A fault, and where it was. -/
structure E where
  c : Int
  a : Int
  t : Nat
/-- In order: by the byte, else as they came. -/
def E.lt (x y : E) : Prop := x.a < y.a ∨ (x.a = y.a ∧ x.t < y.t)
theorem E.lt.trans {x y z : E} (h : x.lt y) (k : y.lt z) : x.lt z := by unfold E.lt at *; omega
end Go.Proofs.Ytkbakbacomidbaa.So
namespace Go.Proofs.Ytkbakbacomidbaa.So
open Go.RowKit
/-- In order from a to b. -/
def Srt (a b : Nat) (f : Nat → E) : Prop := ∀ i j, a ≤ i → i < j → j < b → (f i).lt (f j)
end Go.Proofs.Ytkbakbacomidbaa.So
namespace Go.Proofs.Ytkbakbacomidbaa.So
open Go.RowKit
/-- The ranges a to m and m to b exchanged. -/
def rot (f : Nat → E) (a m b : Nat) : Nat → E := fun p => if a ≤ p ∧ p < a + (b - m) then f (p + (m - a)) else if a + (b - m) ≤ p ∧ p < b then f (p - (b - m)) else f p
end Go.Proofs.Ytkbakbacomidbaa.So
namespace Go.Proofs.Ytkbakbacomidbaa.So
open Go.RowKit
theorem rot_at (f : Nat → E) {s m e mid : Nat} (h2 : s ≤ m) (h3 : m ≤ e) (hm : s + (e - m) = mid) (p : Nat) :
    (p < s → rot f s m e p = f p) ∧ (s ≤ p → p < mid → rot f s m e p = f (p + (m - s))) ∧ (mid ≤ p → p < e → rot f s m e p = f (p - (e - m))) ∧ (e ≤ p → rot f s m e p = f p) := by
  unfold rot
  refine ⟨fun h => ?_, fun h h' => ?_, fun h h' => ?_, fun h => ?_⟩
  · rw [if_neg (by omega), if_neg (by omega)]
  · rw [if_pos (by omega)]
  · rw [if_neg (by omega), if_pos (by omega)]
  · rw [if_neg (by omega), if_neg (by omega)]
/-- What a merge wants. -/
structure Two (a m b : Nat) (f : Nat → E) : Prop where
  one : Srt a m f
  two : Srt m b f
  tag : ∀ p q, a ≤ p → p < m → m ≤ q → q < b → (f p).t < (f q).t
/-- Where the search ended. -/
structure Cutt (a m b mid s e : Nat) (f : Nat → E) : Prop where
  fst : a ≤ s
  sm : s ≤ m
  me : m ≤ e
  eb : e ≤ b
  sum : s + (e - m) = mid
  low : s = a ∨ e = b ∨ (f (s - 1)).a ≤ (f e).a
  high : s = m ∨ e = m ∨ (f (e - 1)).a < (f s).a
theorem left {a m b mid s e : Nat} {f : Nat → E} (h : Two a m b f) (c : Cutt a m b mid s e f) : Two a s mid (rot f s m e) ∧ (s = a ∨ s = mid → Srt a mid (rot f s m e)) := by
  obtain ⟨k1, k2, k3, k4, k5, k6, k7⟩ := c
  have v := rot_at f k2 k3 k5
  have t1 : Srt a s (rot f s m e) := fun i j h1 h2 h3 => by
    rw [(v i).1 (by omega), (v j).1 h3]
    exact h.one _ _ h1 h2 (by omega)
  have t2 : Srt s mid (rot f s m e) := fun i j h1 h2 h3 => by
    rw [(v i).2.1 h1 (by omega), (v j).2.1 (by omega) h3]
    exact h.two _ _ (by omega) (by omega) (by omega)
  refine ⟨⟨t1, t2, fun p q h1 h2 h3 h4 => ?_⟩, fun hs => ?_⟩
  · rw [(v p).1 h2, (v q).2.1 h3 h4]
    exact h.tag _ _ h1 (by omega) (by omega) (by omega)
  · rcases hs with hs | hs
    · rw [hs] at t2 ⊢; exact t2
    · rw [hs] at t1 ⊢; exact t1
end Go.Proofs.Ytkbakbacomidbaa.So
namespace Go.Proofs.Ytkbakbacomidbaa
open Go.RowKit So
theorem gcells_at : ∀ (L : List (Int × Int)) (i : Nat) (p : Int × Int), L[i]? = some p → (L.flatMap gcells)[i * 2]? = some (.int .i64 p.1) ∧ (L.flatMap gcells)[i * 2 + 1]? = some (.int .i64 p.2)
  | [], i, p, h => by simp at h
  | q :: L, 0, p, h => by
    simp at h
    subst h
    simp [gcells, G4.gcells]
  | q :: L, i + 1, p, h => by
    have := gcells_at L i p (by simpa using h)
    rw [show (i + 1) * 2 = i * 2 + 1 + 1 by omega]
    simpa [gcells, G4.gcells] using this
end Go.Proofs.Ytkbakbacomidbaa
