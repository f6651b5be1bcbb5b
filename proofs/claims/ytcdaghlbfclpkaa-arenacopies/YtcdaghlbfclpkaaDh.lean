/- A deed on both arenas: Do, where both are called at once. -/
import Derived.Test.YtcdaghlbfclpkaaDg
import Derived.Shelf.Abstract
namespace Go.Proofs.Ytcdaghlbfclpkaa
open Go.RowKit

theorem step_call3 {P : Program} {ops : Array Oper} {o : Oper} {a : Act} {w : World} {K : Act → World → Prop} {Q : Exit → Act → World → Prop} {E : Prop} (f : FuncId) (x y z : Operand) (ts : Array TypeId)
    (hg : o.guard = none) (hop : o.op = Op.call { callee := Callee.value (.func f), args := #[x, y, z], argTypes := ts }) (henter : ∀ args w, (callFunc f args).run P w = .ok (.enter f args) w)
    (u v q : Value) (hx : a.eval x = u) (hy : a.eval y = v) (hz : a.eval z = q) {R : Ending → World → Prop} (hc : Calls P f #[u, v, q] w R) (hK : ∀ e w', R e w' → ∃ r, e = .returned r ∧ K (a.put o.dst r) w') :
    if Region.wanted o (yielded ops a.tmps) = true then Oper.wp P o a w K Q else E := by
  have hw : Region.wanted o (yielded ops a.tmps) = true := by simp [Region.wanted, hg]
  rw [if_pos hw]
  unfold Oper.wp
  have he : a.eval (.func f) = .func (.func f) #[] #[] := rfl
  have hrun : (execOp a.eval o).run P w = .ok (.enter f #[u, v, q]) w := by
    simp [execOp, hop, resolve, Deferred.ofValue, he, hx, hy, hz, invoke, henter]
  rw [hrun]
  refine Calls.mono (show Calls P f _ w R from hc) ?_
  intro e w' h
  obtain ⟨r, rfl, hk⟩ := hK e w' h
  exact hk
theorem step_call4 {P : Program} {ops : Array Oper} {o : Oper} {a : Act} {w : World} {K : Act → World → Prop} {Q : Exit → Act → World → Prop} {E : Prop} (f : FuncId) (x y z t : Operand) (ts : Array TypeId)
    (hg : o.guard = none) (hop : o.op = Op.call { callee := Callee.value (.func f), args := #[x, y, z, t], argTypes := ts }) (henter : ∀ args w, (callFunc f args).run P w = .ok (.enter f args) w)
    (u v q r' : Value) (hx : a.eval x = u) (hy : a.eval y = v) (hz : a.eval z = q) (ht : a.eval t = r') {R : Ending → World → Prop} (hc : Calls P f #[u, v, q, r'] w R) (hK : ∀ e w', R e w' → ∃ r, e = .returned r ∧ K (a.put o.dst r) w') :
    if Region.wanted o (yielded ops a.tmps) = true then Oper.wp P o a w K Q else E := by
  have hw : Region.wanted o (yielded ops a.tmps) = true := by simp [Region.wanted, hg]
  rw [if_pos hw]
  unfold Oper.wp
  have he : a.eval (.func f) = .func (.func f) #[] #[] := rfl
  have hrun : (execOp a.eval o).run P w = .ok (.enter f #[u, v, q, r']) w := by
    simp [execOp, hop, resolve, Deferred.ofValue, he, hx, hy, hz, ht, invoke, henter]
  rw [hrun]
  refine Calls.mono (show Calls P f _ w R from hc) ?_
  intro e w' h
  obtain ⟨r, rfl, hk⟩ := hK e w' h
  exact hk
theorem enters23 : ∀ args w, (callFunc 23 args).run Try.prog w = .ok (.enter 23 args) w := enters_of Try.func23 (by kernel_rfl) rfl
theorem enters24 : ∀ args w, (callFunc 24 args).run Try.prog w = .ok (.enter 24 args) w := enters_of Try.func24 (by kernel_rfl) rfl
theorem enters26 : ∀ args w, (callFunc 26 args).run Try.prog w = .ok (.enter 26 args) w := enters_of Try.func26 (by kernel_rfl) rfl
theorem enters27 : ∀ args w, (callFunc 27 args).run Try.prog w = .ok (.enter 27 args) w := enters_of Try.func27 (by kernel_rfl) rfl
theorem enters28 : ∀ args w, (callFunc 28 args).run Try.prog w = .ok (.enter 28 args) w := enters_of Try.func28 (by kernel_rfl) rfl
theorem enters29 : ∀ args w, (callFunc 29 args).run Try.prog w = .ok (.enter 29 args) w := enters_of Try.func29 (by kernel_rfl) rfl
theorem enters32 : ∀ args w, (callFunc 32 args).run Try.prog w = .ok (.enter 32 args) w := enters_of Try.func32 (by kernel_rfl) rfl
theorem enters33 : ∀ args w, (callFunc 33 args).run Try.prog w = .ok (.enter 33 args) w := enters_of Try.func33 (by kernel_rfl) rfl
theorem enters34 : ∀ args w, (callFunc 34 args).run Try.prog w = .ok (.enter 34 args) w := enters_of Try.func34 (by kernel_rfl) rfl
theorem enters35 : ∀ args w, (callFunc 35 args).run Try.prog w = .ok (.enter 35 args) w := enters_of Try.func35 (by kernel_rfl) rfl
theorem enters36 : ∀ args w, (callFunc 36 args).run Try.prog w = .ok (.enter 36 args) w := enters_of Try.func36 (by kernel_rfl) rfl
theorem enters37 : ∀ args w, (callFunc 37 args).run Try.prog w = .ok (.enter 37 args) w := enters_of Try.func37 (by kernel_rfl) rfl
/-- Behind a deed. -/
def Fin (Z : Nat → Prop) (w : World) (x y n : Nat) (w' : World) : Prop :=
  Keep Z w w' ∧ ∃ N' P' E' L', Rel N' P' E' L' ∧ L'.length ≤ n + 1 ∧ Two Z w' x y N' P' E' L'
theorem Deal.both {Z : Nat → Prop} {w : World} {x y : Nat} {N : List Nd} {P : List Sp} {E : List En} {L : List RN} {f g : FuncId} {args brgs : Array Value} {v : Value} (h : Deal Z w x y N P E L f args g brgs v) (t : Two Z w x y N P E L) :
    Calls Try.prog f args w.drew (fun e w1 => e = .returned v ∧ Keep Z w w1 ∧ Calls Try.prog g brgs w1 (fun e w2 => e = .returned v ∧ Keep Z w w2 ∧ ∃ N' P' E' L', Rel N' P' E' L' ∧ L'.length ≤ L.length + 1 ∧ Two Z w2 x y N' P' E' L')) ∧
    Calls Try.prog g brgs w.drew (fun e w1 => e = .returned v ∧ Keep Z w w1 ∧ Calls Try.prog f args w1 (fun e w2 => e = .returned v ∧ Keep Z w w2 ∧ ∃ N' P' E' L', Rel N' P' E' L' ∧ L'.length ≤ L.length + 1 ∧ Two Z w2 x y N' P' E' L')) := by
  obtain ⟨R, Q, hp, hr, hq, _, _⟩ := h
  obtain ⟨k1, k2⟩ := two_both t hp hr
  refine ⟨k1.mono ?_, k2.mono ?_⟩
  · rintro e w1 ⟨rfl, a1, c1⟩
    refine ⟨rfl, a1, c1.mono ?_⟩
    rintro e w2 ⟨rfl, a2, N', P', E', L', r1, r2, r3⟩
    obtain ⟨z1, z2⟩ := hq N' P' E' L' r1 r2
    exact ⟨rfl, a2, N', P', E', L', z1, z2, r3⟩
  · rintro e w1 ⟨rfl, a1, c1⟩
    refine ⟨rfl, a1, c1.mono ?_⟩
    rintro e w2 ⟨rfl, a2, N', P', E', L', r1, r2, r3⟩
    obtain ⟨z1, z2⟩ := hq N' P' E' L' r1 r2
    exact ⟨rfl, a2, N', P', E', L', z1, z2, r3⟩
end Go.Proofs.Ytcdaghlbfclpkaa
