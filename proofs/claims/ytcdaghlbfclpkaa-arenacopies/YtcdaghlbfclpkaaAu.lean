/- What is made later is not the arena's; a call of two arguments within a region that draws. -/
import Derived.Test.YtcdaghlbfclpkaaAs
namespace Go.Proofs.Ytcdaghlbfclpkaa
open Go.RowKit

/-- S, and what is new in w'. -/
def Wide (S : Nat → Prop) (w w' : World) (k : Nat) : Prop := S k ∨ (w.heap.size ≤ k ∧ k < w'.heap.size)
theorem Rw.wide {S : Nat → Prop} {w w' : World} {e s n : Nat} {v : Value} {xs : List Value} (h : Rw S w e s v n xs) (b : Below w.heap.size w w') : Rw (Wide S w w') w' e s v n xs :=
  ⟨(h.old b).own, fun g hg hW => by
    rcases hW with hW | hW
    · exact h.out g hg hW
    · have := (own_blk h.own hg).1
      omega⟩
theorem Ar.wide {S : Nat → Prop} {w w' : World} {x : Nat} {N : List Nd} {P : List Sp} {E : List En} (h : Ar S w x N P E) (b : Below w.heap.size w w') : Ar (Wide S w w') w' x N P E := by
  obtain ⟨nv, sv, ev, h⟩ := h
  refine ⟨nv, sv, ev, ⟨fun k hk => ?_, fun hW => ?_, (h.old b).blk, h.nr.wide b, h.sr.wide b, h.er.wide b, fun d hd => (h.ats d hd).wide b, h.pl, h.el, h.few⟩⟩
  · rcases hk with hk | hk
    · exact Nat.lt_of_lt_of_le (h.low k hk) b.size
    · exact hk.2
  · rcases hW with hW | hW
    · exact h.hx hW
    · have := (Array.getElem?_eq_some_iff.1 h.blk).1
      omega
theorem Ar.sub {S U : Nat → Prop} {w : World} {x : Nat} {N : List Nd} {P : List Sp} {E : List En} (h : Ar S w x N P E) (k : ∀ i, U i → S i) : Ar U w x N P E := by
  obtain ⟨nv, sv, ev, h⟩ := h
  exact ⟨nv, sv, ev, ⟨fun i hi => h.low i (k i hi), fun hU => h.hx (k x hU), h.blk, h.nr.sub k, h.sr.sub k, h.er.sub k, fun d hd => (h.ats d hd).sub k, h.pl, h.el, h.few⟩⟩
/-- What turns in S alone leaves the arena as it is. -/
theorem Ar.others {S : Nat → Prop} {w w' : World} {x : Nat} {N : List Nd} {P : List Sp} {E : List En} (h : Ar S w x N P E) (hs : w.heap.size ≤ w'.heap.size) (k : ∀ i, ¬ S i → i < w.heap.size → w'.heap[i]? = w.heap[i]?) : Ar S w' x N P E := by
  obtain ⟨nv, sv, ev, h⟩ := h
  have m : ∀ {e s n : Nat} {v : Value} {xs : List Value}, Rw S w e s v n xs → Rw S w' e s v n xs := fun hq => hq.mv fun g hg => k g (hq.out g hg) (own_blk hq.own hg).1
  exact ⟨nv, sv, ev, ⟨fun i hi => Nat.lt_of_lt_of_le (h.low i hi) hs, h.hx, (k x h.hx (Array.getElem?_eq_some_iff.1 h.blk).1).trans h.blk, m h.nr, m h.sr, m h.er, fun d hd => m (h.ats d hd), h.pl, h.el, h.few⟩⟩
/-- A call of a function of two arguments by its contract, as one step of a region that draws. -/
theorem step_call2 {P : Program} {ops : Array Oper} {o : Oper} {a : Act} {w : World} {K : Act → World → Prop} {Q : Exit → Act → World → Prop} {E : Prop} (f : FuncId) (x y : Operand) (ts : Array TypeId)
    (hg : o.guard = none) (hop : o.op = Op.call { callee := Callee.value (.func f), args := #[x, y], argTypes := ts }) (henter : ∀ args w, (callFunc f args).run P w = .ok (.enter f args) w)
    (u v : Value) (hx : a.eval x = u) (hy : a.eval y = v) {R : Ending → World → Prop} (hc : Calls P f #[u, v] w R) (hK : ∀ e w', R e w' → ∃ r, e = .returned r ∧ K (a.put o.dst r) w') :
    if Region.wanted o (yielded ops a.tmps) = true then Oper.wp P o a w K Q else E := by
  have hw : Region.wanted o (yielded ops a.tmps) = true := by simp [Region.wanted, hg]
  rw [if_pos hw]
  unfold Oper.wp
  have he : a.eval (.func f) = .func (.func f) #[] #[] := rfl
  have hrun : (execOp a.eval o).run P w = .ok (.enter f #[u, v]) w := by
    simp [execOp, hop, resolve, Deferred.ofValue, he, hx, hy, invoke, henter]
  rw [hrun]
  refine Calls.mono (show Calls P f _ w R from hc) ?_
  intro e w' h
  obtain ⟨r, rfl, hk⟩ := hK e w' h
  exact hk
theorem enters42 : ∀ args w, (callFunc 42 args).run Try.prog w = .ok (.enter 42 args) w := enters_of Try.func42 (by kernel_rfl) rfl
end Go.Proofs.Ytcdaghlbfclpkaa
