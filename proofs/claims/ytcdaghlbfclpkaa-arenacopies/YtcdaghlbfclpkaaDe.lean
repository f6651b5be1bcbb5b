/- Both arenas in memory. -/
import Derived.Test.YtcdaghlbfclpkaaDd
import Derived.Test.YtcdaghlbfclpkaaAu
namespace Go.Proofs.Ytcdaghlbfclpkaa
open Go.RowKit

/-- All but F. -/
abbrev Rst (F : Nat → Prop) (w : World) (k : Nat) : Prop := k < w.heap.size ∧ ¬ F k
theorem Ar.turn {F : Nat → Prop} {w w' : World} {x : Nat} {N : List Nd} {P : List Sp} {E : List En} (h : Ar (Rst F w) w x N P E) (k : Keep F w w') : Ar (Rst F w') w' x N P E := by
  have h' := h.others k.size (fun i hi hl => k.block i (Classical.byContradiction fun q => hi ⟨hl, q⟩) hl)
  have hb : ∀ g, g < w.heap.size → ¬ Rst F w g → ¬ Rst F w' g := fun g hg hn hr => hn ⟨hg, hr.2⟩
  obtain ⟨nv, sv, ev, h0⟩ := h
  obtain ⟨nv', sv', ev', h1⟩ := h'
  have m : ∀ {e s n : Nat} {v : Value} {xs : List Value}, Rw (Rst F w) w e s v n xs → Rw (Rst F w') w' e s v n xs := fun hq =>
    ⟨own_mv hq.own (fun g hg => k.block g (Classical.byContradiction fun q => hq.out g hg ⟨(own_blk hq.own hg).1, q⟩) (own_blk hq.own hg).1), fun g hg => hb g (own_blk hq.own hg).1 (hq.out g hg)⟩
  have hx := (Array.getElem?_eq_some_iff.1 h0.blk).1
  exact ⟨nv, sv, ev, ⟨fun i hi => hi.1, hb x hx h0.hx, (k.block x (Classical.byContradiction fun q => h0.hx ⟨hx, q⟩) hx).trans h0.blk, m h0.nr, m h0.sr, m h0.er, fun d hd => m (h0.ats d hd), h0.pl, h0.el, h0.few⟩⟩
theorem Ra.mv {S U : Nat → Prop} {w w' : World} {y : Nat} {L : List RN} (h : Ra S w y L) (hU : ∀ k, U k → k < w'.heap.size) (hout : ∀ k, k < w.heap.size → ¬ S k → ¬ U k) (hk : ∀ k, k < w.heap.size → ¬ S k → w'.heap[k]? = w.heap[k]?) : Ra U w' y L := by
  obtain ⟨rv, h⟩ := h
  have m : ∀ {e s n : Nat} {v : Value} {xs : List Value}, Rw S w e s v n xs → Rw U w' e s v n xs := fun hq =>
    ⟨own_mv hq.own (fun g hg => hk g (own_blk hq.own hg).1 (hq.out g hg)), fun g hg => hout g (own_blk hq.own hg).1 (hq.out g hg)⟩
  have hx := (Array.getElem?_eq_some_iff.1 h.blk).1
  exact ⟨rv, ⟨hU, hout y hx h.hx, (hk y hx h.hx).trans h.blk, m h.nr, fun d hd => m (h.ats d hd), fun d hd => m (h.kds d hd), h.few⟩⟩
/-- Both arenas, apart from one another and from Z. -/
structure TwoF (F Z : Nat → Prop) (w : World) (x y : Nat) (N : List Nd) (P : List Sp) (E : List En) (L : List RN) : Prop where
  hF : ∀ k, F k → k < w.heap.size ∧ ¬ Z k
  hZ : ∀ k, Z k → k < w.heap.size
  a : Ar (Rst F w) w x N P E
  r : Ra (fun k => F k ∨ Z k) w y L
def Two (Z : Nat → Prop) (w : World) (x y : Nat) (N : List Nd) (P : List Sp) (E : List En) (L : List RN) : Prop := ∃ F, TwoF F Z w x y N P E L
theorem Two.old {Z : Nat → Prop} {w w' : World} {x y : Nat} {N : List Nd} {P : List Sp} {E : List En} {L : List RN} (h : Two Z w x y N P E L) (b : Below w.heap.size w w') : Two Z w' x y N P E L := by
  obtain ⟨F, h⟩ := h
  exact ⟨F, fun k hk => ⟨Nat.lt_of_lt_of_le (h.hF k hk).1 b.size, (h.hF k hk).2⟩, fun k hk => Nat.lt_of_lt_of_le (h.hZ k hk) b.size, h.a.turn (Keep.old b), h.r.old b⟩
/-- What is new besides must stand, too. -/
theorem Two.wide {Z : Nat → Prop} {w w' : World} {x y : Nat} {N : List Nd} {P : List Sp} {E : List En} {L : List RN} (h : Two Z w x y N P E L) (b : Below w.heap.size w w') : Two (Wide Z w w') w' x y N P E L := by
  obtain ⟨F, h⟩ := h
  refine ⟨F, fun k hk => ⟨Nat.lt_of_lt_of_le (h.hF k hk).1 b.size, fun hW => ?_⟩, fun k hk => ?_, h.a.turn (Keep.old b), h.r.mv (fun k hk => ?_) (fun k hl hn hU => ?_) (fun k hl _ => b.block k hl)⟩
  · rcases hW with q | q
    · exact (h.hF k hk).2 q
    · have := (h.hF k hk).1
      omega
  · rcases hk with q | q
    · exact Nat.lt_of_lt_of_le (h.hZ k q) b.size
    · exact q.2
  · rcases hk with q | q | q
    · exact Nat.lt_of_lt_of_le (h.hF k q).1 b.size
    · exact Nat.lt_of_lt_of_le (h.hZ k q) b.size
    · exact q.2
  · rcases hU with q | q | q
    · exact hn (.inl q)
    · exact hn (.inr q)
    · omega
theorem Two.sub {Z U : Nat → Prop} {w : World} {x y : Nat} {N : List Nd} {P : List Sp} {E : List En} {L : List RN} (h : Two Z w x y N P E L) (k : ∀ i, U i → Z i) : Two U w x y N P E L := by
  obtain ⟨F, h⟩ := h
  refine ⟨F, fun i hi => ⟨(h.hF i hi).1, fun q => (h.hF i hi).2 (k i q)⟩, fun i hi => h.hZ i (k i hi), h.a, h.r.mv (fun i hi => ?_) (fun i _ hn hU => hn ?_) (fun _ _ _ => rfl)⟩
  · rcases hi with q | q
    · exact (h.hF i q).1
    · exact h.hZ i (k i q)
  · rcases hU with q | q
    · exact .inl q
    · exact .inr (k i q)
/-- A call on the program's arena. -/
theorem two_prog {Z : Nat → Prop} {w : World} {x y : Nat} {N : List Nd} {P : List Sp} {E : List En} {L : List RN} (h : Two Z w x y N P E L) {f : FuncId} {args : Array Value} {v : Value} {R : List Nd → List Sp → List En → Prop}
    (hc : ∀ S, Ar S w x N P E → Calls Try.prog f args w (fun e w' => e = .returned v ∧ ∃ N' P' E', R N' P' E' ∧ Ar S w' x N' P' E' ∧ Keep S w w')) :
    Calls Try.prog f args w (fun e w' => e = .returned v ∧ (∃ N' P' E', R N' P' E' ∧ Two Z w' x y N' P' E' L) ∧ Keep Z w w') := by
  obtain ⟨F, h⟩ := h
  refine (hc _ h.a).mono ?_
  rintro e w' ⟨rfl, N', P', E', hR, ha, hk⟩
  refine ⟨rfl, ⟨N', P', E', hR, fun k => F k ∨ (w.heap.size ≤ k ∧ k < w'.heap.size), fun k hk' => ?_, fun k hk' => Nat.lt_of_lt_of_le (h.hZ k hk') hk.size, ?_, h.r.mv (fun k hk' => ?_) (fun k hl hn hU => ?_) (fun k hl hn => hk.block k ⟨hl, fun q => hn (.inl q)⟩ hl)⟩, hk.sub fun k hz => ⟨h.hZ k hz, fun q => (h.hF k q).2 hz⟩⟩
  · rcases hk' with q | q
    · exact ⟨Nat.lt_of_lt_of_le (h.hF k q).1 hk.size, (h.hF k q).2⟩
    · exact ⟨q.2, fun z => by have := h.hZ k z; omega⟩
  · refine ha.sub fun k hk' => ?_
    obtain ⟨q1, q2⟩ := hk'
    exact ⟨Nat.lt_of_not_le fun q => q2 (.inr ⟨q, q1⟩), fun q => q2 (.inl q)⟩
  · rcases hk' with (q | q) | q
    · exact Nat.lt_of_lt_of_le (h.hF k q).1 hk.size
    · exact q.2
    · exact Nat.lt_of_lt_of_le (h.hZ k q) hk.size
  · rcases hU with (q | q) | q
    · exact hn (.inl q)
    · omega
    · exact hn (.inr q)
/-- A call on the document's arena. -/
theorem two_ref {Z : Nat → Prop} {w : World} {x y : Nat} {N : List Nd} {P : List Sp} {E : List En} {L : List RN} (h : Two Z w x y N P E L) {f : FuncId} {args : Array Value} {v : Value} {R : List RN → Prop}
    (hc : ∀ S, Ra S w y L → Calls Try.prog f args w (fun e w' => e = .returned v ∧ ∃ L', R L' ∧ Ra S w' y L' ∧ Keep S w w')) :
    Calls Try.prog f args w (fun e w' => e = .returned v ∧ (∃ L', R L' ∧ Two Z w' x y N P E L') ∧ Keep Z w w') := by
  obtain ⟨F, h⟩ := h
  refine (hc _ h.r).mono ?_
  rintro e w' ⟨rfl, L', hR, hr, hk⟩
  exact ⟨rfl, ⟨L', hR, F, fun k hk' => ⟨Nat.lt_of_lt_of_le (h.hF k hk').1 hk.size, (h.hF k hk').2⟩, fun k hk' => Nat.lt_of_lt_of_le (h.hZ k hk') hk.size, h.a.turn (hk.sub fun k q => .inl q), hr⟩, hk.sub fun k q => .inr q⟩
/-- A call on both: the program's first, or the document's. -/
theorem two_both {Z : Nat → Prop} {w : World} {x y : Nat} {N : List Nd} {P : List Sp} {E : List En} {L : List RN} (h : Two Z w x y N P E L) {f g : FuncId} {args brgs : Array Value} {v : Value} {R : List Nd → List Sp → List En → Prop} {Q : List RN → Prop}
    (hp : ∀ w', Keep Z w w' → ∀ S, Ar S w' x N P E → Calls Try.prog f args w' (fun e w'' => e = .returned v ∧ ∃ N' P' E', R N' P' E' ∧ Ar S w'' x N' P' E' ∧ Keep S w' w''))
    (hr : ∀ w', Keep Z w w' → ∀ S, Ra S w' y L → Calls Try.prog g brgs w' (fun e w'' => e = .returned v ∧ ∃ L', Q L' ∧ Ra S w'' y L' ∧ Keep S w' w'')) :
    Calls Try.prog f args w.drew (fun e w1 => e = .returned v ∧ Keep Z w w1 ∧ Calls Try.prog g brgs w1 (fun e w2 => e = .returned v ∧ Keep Z w w2 ∧ ∃ N' P' E' L', R N' P' E' ∧ Q L' ∧ Two Z w2 x y N' P' E' L')) ∧
    Calls Try.prog g brgs w.drew (fun e w1 => e = .returned v ∧ Keep Z w w1 ∧ Calls Try.prog f args w1 (fun e w2 => e = .returned v ∧ Keep Z w w2 ∧ ∃ N' P' E' L', R N' P' E' ∧ Q L' ∧ Two Z w2 x y N' P' E' L')) := by
  have bd : Below w.heap.size w w.drew := (Below.refl _ _).drew
  have kd : Keep Z w w.drew := Keep.old bd
  refine ⟨?_, ?_⟩
  · refine (two_prog (h.old bd) (hp _ kd)).mono ?_
    rintro e w1 ⟨rfl, ⟨N', P', E', hR, ht⟩, k1⟩
    refine ⟨rfl, kd.trans k1, (two_ref ht (hr _ (kd.trans k1))).mono ?_⟩
    rintro e w2 ⟨rfl, ⟨L', hQ, ht2⟩, k2⟩
    exact ⟨rfl, (kd.trans k1).trans k2, N', P', E', L', hR, hQ, ht2⟩
  · refine (two_ref (h.old bd) (hr _ kd)).mono ?_
    rintro e w1 ⟨rfl, ⟨L', hQ, ht⟩, k1⟩
    refine ⟨rfl, kd.trans k1, (two_prog ht (hp _ (kd.trans k1))).mono ?_⟩
    rintro e w2 ⟨rfl, ⟨N', P', E', hR, ht2⟩, k2⟩
    exact ⟨rfl, (kd.trans k1).trans k2, N', P', E', L', hR, hQ, ht2⟩
end Go.Proofs.Ytcdaghlbfclpkaa
