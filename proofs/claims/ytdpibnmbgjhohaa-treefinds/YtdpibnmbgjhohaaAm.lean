/- The document's Sorted of numbers. -/
import Derived.Test.YtdpibnmbgjhohaaAl
import Derived.Laws.Cover1
namespace Go.Proofs.Ytdpibnmbgjhohaa
open Go.RowKit

/-- A row of numbers that lies in memory. -/
def IntRow (w : World) (ao : Option Addr) (L : List Int) : Prop := ∀ (i : Nat) x, L[i]? = some x → ∃ b off, ao = some ⟨b, off, none⟩ ∧ b < w.heap.size ∧ w.cell? ⟨b, off + i, none⟩ = some (iv x)
theorem IntRow.old {w w' : World} {ao : Option Addr} {L : List Int} (h : IntRow w ao L) (b : Below w.heap.size w w') : IntRow w' ao L := fun i x hx => by
  obtain ⟨k, off, h1, h2, h3⟩ := h i x hx
  exact ⟨k, off, h1, Nat.lt_of_lt_of_le h2 b.size, (b.cell (p := ⟨k, off + i, none⟩) h2).trans h3⟩
theorem IntRow.take {w : World} {ao : Option Addr} {A : List Int} (h : IntRow w ao A) (k : Nat) : IntRow w ao (A.take k) := fun i x hx => by
  have hil : i < k := by
    have := (List.getElem?_eq_some_iff.1 hx).1
    rw [List.length_take] at this
    omega
  rw [List.getElem?_take_of_lt hil] at hx
  exact h i x hx
theorem IntRow.drop {w : World} {ao : Option Addr} {A : List Int} (h : IntRow w ao A) (k cap : Nat) (hc : A.length ≤ cap) : IntRow w (if cap = k then ao else ao.map (·.add k)) (A.drop k) := fun i x hx => by
  have hil := (List.getElem?_eq_some_iff.1 hx).1
  rw [List.length_drop] at hil
  rw [List.getElem?_drop] at hx
  obtain ⟨b, off, rfl, h1, h2⟩ := h _ x hx
  rw [if_neg (by omega)]
  refine ⟨b, off + k, by simp [Addr.add_lit], h1, ?_⟩
  rw [show off + k + i = off + (k + i) by omega]; exact h2
theorem Rw.ints {S : Nat → Prop} {w : World} {v : Value} {n : Nat} {L : List Int} (h : Rw S w 3 1 v n (ivs L)) : ∃ ao c, v = .slice ao n c ∧ n ≤ c ∧ c ≤ maxLen ∧ L.length = n ∧ IntRow w ao L := by
  have hn : L.length = n := by have := h.own.1; simpa using this
  obtain ⟨ao, c, rfl, h1, h2⟩ := h.slice
  refine ⟨ao, c, rfl, h1, h2, hn, fun i x hx => ?_⟩
  have hl := (List.getElem?_eq_some_iff.1 hx).1
  obtain ⟨g, cap, cur, e, _, hg, _⟩ := h.form (by omega)
  simp only [Value.slice.injEq, true_and] at e
  obtain ⟨rfl, rfl⟩ := e
  exact ⟨g, 0, rfl, hg, by rw [Nat.zero_add]; exact h.cell (by simp [ivs, hx])⟩
/-- A row of numbers copied behind nothing. -/
theorem ints_copy {w : World} {ao : Option Addr} {L : List Int} (n c : Nat) (h : IntRow w ao L) (hn : L.length = n) (hn2 : n ≤ 1000000000) :
    ∃ ao' c' W, (Builtin.append_ #[31, 31] 31 #[.slice none 0 0, .slice ao n c]).run Try.prog w = .ok (.slice ao' n c') W ∧ n ≤ c' ∧ c' ≤ maxLen ∧ IntRow W ao' L ∧ Below w.heap.size w W := by
  cases L with
  | nil =>
    subst hn
    obtain ⟨i0, hi, hz0, hz1, hz2⟩ := info_parts info3
    have hs : Src Try.prog i0.size 31 (.slice ao 0 c) 0 [] w := by
      cases ao with
      | none => exact Src.ofNil w Try.underlying31 c
      | some a => exact Src.ofSlice w Try.underlying31 a 0 c [] (by simp) (by simp) (by simp)
    exact ⟨none, 0, w, run_append_nothing (P := Try.prog) w 31 31 31 3 i0 Try.underlying31 hi none 0 0 (Nat.le_refl _) _ hs, Nat.le_refl _, by unfold maxLen; omega, fun i x hx => by simp at hx, Below.refl _ _⟩
  | cons a L =>
    obtain ⟨b, off, rfl, hb, _⟩ := h 0 a rfl
    obtain ⟨v', W, q1, q2, q3, _⟩ := Rw.app (t := 31) (e := 3) (S := fun k => k < w.heap.size) (v := .slice none 0 0) (n := 0) (xs := []) Try.underlying31 info3 rfl (by decide) (by decide) (Rw.nil _ w 3 1) (fun k hk => hk) b off n c (ivs (a :: L)) (by rw [← hn]; simp)
      (fun j x hj => by
        have hj' : (a :: L)[j]?.map (fun i => iv i) = some x := by rw [← List.getElem?_map]; exact hj
        obtain ⟨i, hi, rfl⟩ := Option.map_eq_some_iff.1 hj'
        obtain ⟨b', off', e, _, c1⟩ := h j i hi
        simp only [Option.some.injEq, Addr.mk.injEq, and_true] at e
        obtain ⟨rfl, rfl⟩ := e
        exact c1) (fun x hx => by simp only [ivs, List.mem_map] at hx; obtain ⟨i, _, rfl⟩ := hx; rfl) (by omega)
    rw [Nat.zero_add, List.nil_append] at q2
    obtain ⟨ao', c', rfl, r1, r2, _, r3⟩ := q2.ints
    exact ⟨ao', c', W, q1, r1, r2, r3, Keep.below (S := fun k => k < w.heap.size) (Keep.grown q3 (fun g hg => by simp [Value.ownBlock] at hg)) (fun k hk => hk) (Nat.le_refl _)⟩
/-- One number behind a row of one's own. -/
theorem ints_more {w0 W : World} {v : Value} {n : Nat} {O : List Int} (hr : Rw (fun k => k < w0.heap.size) W 3 1 v n (ivs O)) (b : Below w0.heap.size w0 W) (x : Int) (hn : n ≤ 900000000) :
    ∃ v' W', (Builtin.append_ #[31, 31] 31 #[v, .slice (some ⟨W.heap.size, 0, none⟩) 1 1]).run Try.prog (W.alloc (.cells #[iv x] 3)) = .ok v' W' ∧ Rw (fun k => k < w0.heap.size) W' 3 1 v' (n + 1) (ivs (O ++ [x])) ∧ Below w0.heap.size w0 W' := by
  have b1 : Below W.heap.size W (W.alloc (.cells #[iv x] 3)) := (Below.refl _ _).alloc (Nat.le_refl _) _
  have r1 := hr.old b1
  obtain ⟨v', W', q1, q2, q3⟩ := ids_app (n := n) (m := 1) (xs := O) (ys := [x]) r1 (Nat.le_trans b.size b1.size) (one_row W x) (by decide) (by omega)
  exact ⟨v', W', q1, q2, (b.trans (b1.mono b.size)).trans q3⟩
theorem step_call1 {P : Program} {ops : Array Oper} {o : Oper} {a : Act} {w : World} {K : Act → World → Prop} {Q : Exit → Act → World → Prop} {E : Prop} (f : FuncId) (x : Operand) (ts : Array TypeId)
    (hg : o.guard = none) (hop : o.op = Op.call { callee := Callee.value (.func f), args := #[x], argTypes := ts }) (henter : ∀ args w, (callFunc f args).run P w = .ok (.enter f args) w)
    (u : Value) (hx : a.eval x = u) {R : Ending → World → Prop} (hc : Calls P f #[u] w R) (hK : ∀ e w', R e w' → ∃ r, e = .returned r ∧ K (a.put o.dst r) w') :
    if Region.wanted o (yielded ops a.tmps) = true then Oper.wp P o a w K Q else E := by
  have hw : Region.wanted o (yielded ops a.tmps) = true := by simp [Region.wanted, hg]
  rw [if_pos hw]
  unfold Oper.wp
  have he : a.eval (.func f) = .func (.func f) #[] #[] := rfl
  have hrun : (execOp a.eval o).run P w = .ok (.enter f #[u]) w := by
    simp [execOp, hop, resolve, Deferred.ofValue, he, hx, invoke, henter]
  rw [hrun]
  refine Calls.mono (show Calls P f _ w R from hc) ?_
  intro e w' h
  obtain ⟨r, rfl, hk⟩ := hK e w' h
  exact hk
theorem enters35 : ∀ args w, (callFunc 35 args).run Try.prog w = .ok (.enter 35 args) w := enters_of Try.func35 (by kernel_rfl) rfl
/-- What Sorted answers. -/
def SortedIs (L : List Int) (n : Nat) (w : World) (e : Ending) (w' : World) : Prop := ∃ ao' c S, e = .returned (.slice ao' n c) ∧ n ≤ c ∧ c ≤ maxLen ∧ S.length = n ∧ S.Perm L ∧ S.Pairwise (· ≤ ·) ∧ IntRow w' ao' S ∧ Below w.heap.size w w'
end Go.Proofs.Ytdpibnmbgjhohaa
