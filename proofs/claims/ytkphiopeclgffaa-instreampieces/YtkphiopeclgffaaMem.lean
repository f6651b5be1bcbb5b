/- How a decoder, and what a call tells, lie in memory; how a row of characters or faults grows by one. -/
import Derived.Test.YtkphiopeclgffaaProg
import Derived.Test.YtkphiopeclgffaaFlow
import Derived.WalkKit
import Derived.WalkSpells
import Derived.WalkLawsBesides
import Derived.Deep.RegionLaw
import Derived.Deep.QuietTactic
import Derived.BigQuiet
import Derived.BigRegion
import Derived.WalkMore
import Derived.ScopeJumps
import Derived.Deep.RegionHeld3
namespace Go.Proofs.Ytkphiopeclgffaa
open Go.RowKit

theorem info37 : (Try.prog.info? 37).map (fun i => (i.zero, i.size, i.bytes)) = some (some (.agg #[.int .i64 0, .int .i64 0, .int .i64 0]), 3, 24) := by kernel_rfl
theorem info39 : (Try.prog.info? 39).map (fun i => (i.zero, i.size, i.bytes)) = some (some (.agg #[.int .i64 0, .int .i64 0]), 2, 16) := by kernel_rfl

def Ch.cells (c : Ch) : List Value := [.int .i64 c.r, .int .i64 c.a, .int .i64 c.z]
def fcells (p : Int) : List Value := [.int .i64 1, .int .i64 p]

theorem ch_flat (cs : List Ch) : (cs.flatMap Ch.cells).length = cs.length * 3 := by
  induction cs with
  | nil => rfl
  | cons e r ih => rw [List.flatMap_cons, List.length_append, ih]; simp [Ch.cells]; omega

/-- A decoder: where what waits begins, where the next byte is, what the bytes that wait say. -/
def DecIs (d : Nat) (p q : Int) (f : F) (w : World) : Prop :=
  w.heap[d]? = some (.cells #[.int .i64 p, .int .i64 q, .int .i64 f.bits, .int .i64 f.more, .int .u8 (f.lo : Nat), .int .u8 (f.hi : Nat)] 61 (0, 0))

/-- What a call has told so far. -/
structure Told (B t : Nat) (cs : List Ch) (fs : List Int) (w : World) : Prop where
  hB : B ≤ t
  blk : ∃ cv fv, w.heap[t]? = some (.cells #[cv, fv] 63 (0, 0)) ∧ w.ownsRow B 37 3 cv cs.length (cs.flatMap Ch.cells) ∧ w.ownsRow B 39 2 fv fs.length (fs.flatMap fcells)

/-- Nothing below B has turned but d. -/
structure Turn (B d : Nat) (w w' : World) : Prop where
  os : w'.os = w.os
  tape : w'.tape = w.tape
  output : w'.output = w.output
  size : w.heap.size ≤ w'.heap.size
  block : ∀ k, k < w.heap.size → k < B → k ≠ d → w'.heap[k]? = w.heap[k]?

theorem Turn.refl (B d : Nat) (w : World) : Turn B d w w := ⟨rfl, rfl, rfl, Nat.le_refl _, fun _ _ _ _ => rfl⟩
theorem Turn.trans {B d : Nat} {a b c : World} (h : Turn B d a b) (k : Turn B d b c) : Turn B d a c :=
  ⟨k.os.trans h.os, k.tape.trans h.tape, k.output.trans h.output, Nat.le_trans h.size k.size, fun i h1 h2 h3 => (k.block i (Nat.lt_of_lt_of_le h1 h.size) h2 h3).trans (h.block i h1 h2 h3)⟩
theorem Turn.ofBelow {B C d : Nat} {w w' : World} (h : Below C w w') (hC : B ≤ C) : Turn B d w w' := ⟨h.os, h.tape, h.output, h.size, fun k _ hk _ => h.block k (by omega)⟩
theorem Turn.ofOld {B d : Nat} {w w' : World} (h : Below w.heap.size w w') : Turn B d w w' := ⟨h.os, h.tape, h.output, h.size, fun k hk _ _ => h.block k hk⟩
theorem Turn.drew {B d : Nat} {w w' : World} (h : Turn B d w w') : Turn B d w w'.drew := ⟨h.os, h.tape, h.output, h.size, h.block⟩
theorem Turn.setCell {B d : Nat} {w w' : World} (h : Turn B d w w') {p : Addr} (hp : p.block = d ∨ B ≤ p.block) (u : Value) : Turn B d w (w'.setCell p u) :=
  h.trans ⟨rfl, rfl, rfl, by simp [World.setCell], fun k _ hB hd => Below.heap_setCell _ _ _ _ (fun e => by omega)⟩
theorem Turn.below {B C d : Nat} {w w' : World} (h : Turn B d w w') (h1 : C ≤ B) (h2 : C ≤ w.heap.size) (h3 : C ≤ d) : Below C w w' :=
  ⟨h.os, h.tape, h.output, h.size, fun k hk => h.block k (by omega) (by omega) (by omega)⟩

theorem own_form {w : World} {B e s n : Nat} {v : Value} {xs : List Value} (h : w.ownsRow B e s v n xs) : ∃ ao c, v = .slice ao n c ∧ n ≤ c ∧ c ≤ maxLen := by
  rcases h.2 with ⟨hv, h0⟩ | ⟨g, cap, cur, hv, _, _, h1, h2, _⟩
  · exact ⟨none, 0, by rw [hv, h0], by omega, by unfold maxLen; omega⟩
  · exact ⟨_, _, hv, h1, h2⟩

theorem own_base {w : World} {B C e s n : Nat} {v : Value} {xs : List Value} (h : w.ownsRow B e s v n xs) (hC : C ≤ B) : w.ownsRow C e s v n xs := by
  refine ⟨h.1, ?_⟩
  rcases h.2 with hn | ⟨g, cap, cur, hv, hb, rest⟩
  · exact .inl hn
  · exact .inr ⟨g, cap, cur, hv, by omega, rest⟩

/-- A row stands where its block does. -/
theorem own_same {w w' : World} {B e s n : Nat} {v : Value} {xs : List Value} (h : w.ownsRow B e s v n xs) (k : ∀ g cur m, B ≤ g → w.heap[g]? = some (.cells cur e m) → w'.heap[g]? = some (.cells cur e m)) : w'.ownsRow B e s v n xs := by
  refine ⟨h.1, ?_⟩
  rcases h.2 with hn | ⟨g, cap, cur, hv, hb, hg, rest⟩
  · exact .inl hn
  · exact .inr ⟨g, cap, cur, hv, hb, k g cur (0, 0) hb hg, rest⟩
theorem own_below {w w' : World} {B e s n : Nat} {v : Value} {xs : List Value} (h : w.ownsRow B e s v n xs) (b : Below w.heap.size w w') : w'.ownsRow B e s v n xs :=
  own_same h fun g _ _ _ hg => (b.block g (Array.getElem?_eq_some_iff.1 hg).1).trans hg

theorem grown_of_drew {w w' : World} {r : Option Nat} (h : w.drew.grownBy w' r) : w.grownBy w' r := ⟨h.os, h.tape, h.output, h.size, h.block⟩

/-- One more element, put into a block of its own first, appended to a row. -/
theorem row_grow {B t e size bytes n : Nat} {z : Value} {W : World} {ao : Option Addr} {c : Nat} {xs news : List Value} (ht : Try.prog.underlying t = some (.slice e)) (hinfo : (Try.prog.info? e).map (fun i => (i.zero, i.size, i.bytes)) = some (some z, size, bytes))
    (hzs : z.cells.size = size) (hsz : 0 < size) (hb : bytes ≤ 32) (hown : W.ownsRow B e size (.slice ao n c) n xs) (hB : B ≤ W.heap.size) (hn : n ≤ 1000000) (hl : news.length = size) (h1 : ∀ u ∈ news, u.oneCell' = true) :
    ∃ ao' c' W', (Builtin.append_ #[t, t] t #[.slice ao n c, .slice (some ⟨W.heap.size, 0, none⟩) 1 1]).run Try.prog (W.alloc (.cells news.toArray e)).drew = .ok (.slice ao' (n + 1) c') W' ∧
      W'.ownsRow B e size (.slice ao' (n + 1) c') (n + 1) (xs ++ news) ∧ Below B W W' ∧ (∀ (k : Nat) (cur : Array Value) (e' : TypeId) (m : Nat × Nat), e' ≠ e → W.heap[k]? = some (Obj.cells cur e' m) → W'.heap[k]? = some (Obj.cells cur e' m)) := by
  obtain ⟨i0, hi0, hz0, hzs0, hzb⟩ := info_parts hinfo
  obtain ⟨W1, hW1⟩ : ∃ W1, W1 = W.alloc (.cells news.toArray e) := ⟨_, rfl⟩
  have hbe : Below W.heap.size W W1 := by rw [hW1]; exact (Below.refl _ _).alloc (Nat.le_refl _) _
  have hnew : W1.heap[W.heap.size]? = some (.cells news.toArray e (0, 0)) := by rw [hW1]; exact heap_alloc_new _ _
  have ho1 : W1.ownsRow B e size (.slice ao n c) n xs := own_below hown hbe
  have hz : W1.heap.size = W.heap.size + 1 := by rw [hW1]; simp
  obtain ⟨v', W', hrun, ho, hg, _⟩ := run_append_own (P := Try.prog) W1.drew B t t e i0 _ size bytes ht hi0 hz0 hzs0 hzb hzs hsz (.slice ao n c) n xs ho1 ⟨W.heap.size, 0, none⟩ 1 1 news (by omega)
    (fun j u hj => by
      rw [Addr.add_lit, Nat.zero_add]
      simp only [World.cell?_drew]
      simp [World.cell?, hnew]; exact hj)
    h1 (by unfold maxLen; omega) (by have := Nat.mul_le_mul (show n + 1 ≤ 1000001 by omega) hb; omega) (by show B ≤ W1.heap.size; omega)
  obtain ⟨ao', c', rfl, _, _⟩ := own_form ho
  have hg1 : W1.grownBy W' (Value.slice ao n c).ownBlock := grown_of_drew hg
  have hrow : ∀ k, (Value.slice ao n c).ownBlock = some k → B ≤ k ∧ k < W.heap.size ∧ ∃ cu, W1.heap[k]? = some (.cells cu e (0, 0)) := fun k hk => by
    rcases hown.2 with ⟨hv, _⟩ | ⟨g, cap, cur, hv, hB', hgb, _⟩
    · rw [hv] at hk; simp [Value.ownBlock] at hk
    · rw [hv] at hk; simp [Value.ownBlock] at hk; subst hk
      have hlt := (Array.getElem?_eq_some_iff.1 hgb).1
      exact ⟨hB', hlt, cur, by rw [hbe.block g hlt]; exact hgb⟩
  refine ⟨ao', c', W', by rw [← hW1]; exact hrun, ho, ?_, ?_⟩
  · refine ⟨hg1.os.trans hbe.os, hg1.tape.trans hbe.tape, hg1.output.trans hbe.output, Nat.le_trans hbe.size hg1.size, fun k hk => ?_⟩
    rw [hg1.block k (by omega) (fun e => by have := (hrow k e.symm).1; omega), hbe.block k (by omega)]
  · intro k cur e' m hne hk
    have hlt := (Array.getElem?_eq_some_iff.1 hk).1
    rw [hg1.block k (by omega) (fun e2 => by
      obtain ⟨_, _, cu, hc⟩ := hrow k e2.symm
      rw [hbe.block k hlt, hk] at hc; simp at hc; exact hne hc.2.1), hbe.block k hlt]
    exact hk

/-- 'append' where its run is known by an equation, as one step of a region that draws. -/
theorem step_append_eq {P : Program} {ops : Array Oper} {o : Oper} {a : Act} {w : World} {K : Act → World → Prop} {Q : Exit → Act → World → Prop} {E : Prop}
    (hg : o.guard = none) (d x : Operand) (dT sT : TypeId) (hop : o.op = Op.call { callee := Callee.builtin Builtin.append, args := #[d, x], argTypes := #[dT, sT] })
    (v u : Value) (hd : a.eval d = v) (hx : a.eval x = u) {v' : Value} {w' : World} (hr : (Builtin.append_ #[dT, sT] o.type #[v, u]).run P w = .ok v' w') (hK : K (a.put o.dst v') w') :
    if Region.wanted o (yielded ops a.tmps) = true then Oper.wp P o a w K Q else E := by
  have hw : Region.wanted o (yielded ops a.tmps) = true := by simp [Region.wanted, hg]
  rw [if_pos hw]
  unfold Oper.wp
  simp [execOp, hop, resolve, invoke, builtin, hd, hx, hr, Result.andThen]
  exact hK

theorem dec_cells {d : Nat} {p q : Int} {f : F} {w : World} (h : DecIs d p q f w) : d < w.heap.size ∧ w.cell? ⟨d, 0, none⟩ = some (.int .i64 p) ∧ w.cell? ⟨d, 1, none⟩ = some (.int .i64 q) ∧ w.cell? ⟨d, 2, none⟩ = some (.int .i64 f.bits) ∧ w.cell? ⟨d, 3, none⟩ = some (.int .i64 f.more) ∧
    w.cell? ⟨d, 4, none⟩ = some (.int .u8 (f.lo : Nat)) ∧ w.cell? ⟨d, 5, none⟩ = some (.int .u8 (f.hi : Nat)) ∧ ∀ i, w.frozen? ⟨d, i, none⟩ = false := by
  unfold DecIs at h
  refine ⟨(Array.getElem?_eq_some_iff.1 h).1, ?_, ?_, ?_, ?_, ?_, ?_, fun i => ?_⟩
  all_goals first | simp [World.cell?, h] | simp [World.frozen?, h]

theorem dec_below {d : Nat} {p q : Int} {f : F} {w w' : World} (h : DecIs d p q f w) (b : Below w.heap.size w w') : DecIs d p q f w' := (b.block d (dec_cells h).1).trans h

theorem told_below {B t : Nat} {cs : List Ch} {fs : List Int} {w w' : World} (h : Told B t cs fs w) (b : Below w.heap.size w w') : Told B t cs fs w' := by
  obtain ⟨cv, fv, hb, h1, h2⟩ := h.blk
  exact ⟨h.hB, cv, fv, (b.block t (Array.getElem?_eq_some_iff.1 hb).1).trans hb, own_below h1 b, own_below h2 b⟩

end Go.Proofs.Ytkphiopeclgffaa
