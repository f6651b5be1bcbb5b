import Derived.Test.YtkbakbacomidbaaProg
import Derived.Below
import Derived.BigQuiet
import Derived.BigRegion
import Derived.Deep.DeepCutAuto
import Derived.Deep.LoopGhost
import Derived.Deep.QuietTactic
import Derived.Deep.RegionHeld3
import Derived.Deep.RegionLaw
import Derived.Deep.RegionWith
import Derived.Deep.Upon
import Derived.Laws.EntriesVeiled
import Derived.Laws.StructEq
import Derived.Lib.RuneBytes
import Derived.Maps.AppendAt
import Derived.Maps.OwnSet
import Derived.OwnWalk
import Derived.WalkArith
import Derived.WalkKit
import Derived.WalkLawsBesides
import Derived.WalkMore
import Derived.WalkSpells
import Derived.Test.YtkbakbacomidbaaZa
import Derived.BigCall
import Derived.Laws.AppendOwn
import Derived.Laws.BytesArg
import Derived.Laws.IdiomStrings
import Derived.Lib.AppendStr
import Derived.ScopeJumps
import Derived.Shelf.Abstract
import Derived.Shelf.Small.Strs
import Derived.Shelf.Strings.Builder1
import Derived.Shelf.Strings.BuilderF
import Derived.Shelf.Strings.BuilderK
import Derived.Shelf.Strings.BuilderRune
import Derived.Shelf.Strings.Prefix
import Derived.StillTailTactics
import Derived.StringKeys
import Derived.Test.YtkbakbacomidbaaZq
namespace Go.Proofs.Ytkbakbacomidbaa
open Go.RowKit
theorem smx {P : Program} {f : FuncId} {a : Array Value} {w : World} {v : Ending} {Q : Ending → World → Prop} (c : Calls P f a w fun e w' => e = v ∧ w' = w) (h : Q v w) : Calls P f a w Q := c.mono fun _ _ k => by
  rw [k.1, k.2]
  exact h
end Go.Proofs.Ytkbakbacomidbaa
namespace Go.Proofs.Ytkbakbacomidbaa
open Go.RowKit
theorem twx {S : Nat → Prop} {x : Nat} {E : Env} {r : List Ch} {sc : Sc} {dn : Bool} {w W : World} {f : FuncId} {a : Array Value} {v : Ending} {Q : Ending → World → Prop} (c : Calls Try.prog f a W fun e w' => e = v ∧ TW S x E r sc dn w w') (h : ∀ w', Hid (TW S x E r sc dn w w') → x < w'.heap.size → Q v w') : Calls Try.prog f a W Q := c.mono fun _ w' k => by
  rw [k.1]
  exact h w' k.2 k.2.lt
theorem TW.advx {S : Nat → Prop} {x : Nat} {E : Env} {c : Ch} {t : List Ch} {sc : Sc} {dn : Bool} {w W : World} (h : TW S x E (c :: t) sc dn w W) : ∃ p : Int, W.cell? ⟨x, 1, none⟩ = some (.int .i64 p) ∧ W.frozen? ⟨x, 1, none⟩ = false ∧ 0 ≤ p ∧ p ≤ 100000 ∧ Hid (TW S x E t sc dn w (W.setCell ⟨x, 1, none⟩ (.int .i64 (p + 1)))) := by
  obtain ⟨a, b, c, d, _⟩ := h.at
  exact ⟨_, a, b, c, d, h.adv⟩
theorem rbx (r : Int) (w : World) {Q : Ending → World → Prop} (h : Q (.returned (.bool (blk r))) w) : Calls Try.prog 51 #[.int .i64 r] w Q := smx (G7.rblank_any r w) h
end Go.Proofs.Ytkbakbacomidbaa
