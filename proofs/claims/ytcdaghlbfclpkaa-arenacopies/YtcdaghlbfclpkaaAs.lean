/- An element's attributes are set: SetAttrs. -/
import Derived.Test.YtcdaghlbfclpkaaAo
import Derived.Shelf.Abstract
namespace Go.Proofs.Ytcdaghlbfclpkaa
open Go.RowKit

/-- A call of a function of one argument by its contract, as one step of a region that draws. -/
theorem step_call1 {P : Program} {ops : Array Oper} {o : Oper} {a : Act} {w : World} {K : Act → World → Prop} {Q : Exit → Act → World → Prop} {E : Prop} (f : FuncId) (x : Operand) (ts : Array TypeId)
    (hg : o.guard = none) (hop : o.op = Op.call { callee := Callee.value (.func f), args := #[x], argTypes := ts }) (henter : ∀ args w, (callFunc f args).run P w = .ok (.enter f args) w)
    (u : Value) (hx : a.eval x = u) {R : Ending → World → Prop} (hc : Calls P f #[u] w R) (hK : ∀ e w', R e w' → ∃ r, e = .returned r ∧ K (a.put o.dst r) w') :
    if Region.wanted o (yielded ops a.tmps) = true then Oper.wp P o a w K Q else E := by
  have hw : Region.wanted o (yielded ops a.tmps) = true := by simp [Region.wanted, hg]
  rw [if_pos hw]
  unfold Oper.wp
  have he : a.eval (.func f) = .func (.func f) #[] #[] := rfl
  have hrun : (execOp a.eval o).run P w = .ok (.enter f #[u]) w := by
    simp [execOp, hop, resolve, Deferred.ofValue, he, hx, invoke, henter]
  rw [hrun]
  refine Calls.mono (show Calls P f _ w R from hc) ?_
  intro e w' h
  obtain ⟨r, rfl, hk⟩ := hK e w' h
  exact hk
theorem enters43 : ∀ args w, (callFunc 43 args).run Try.prog w = .ok (.enter 43 args) w := enters_of Try.func43 (by kernel_rfl) rfl
theorem attrs_no {S : Nat → Prop} {w : World} {x g n cn h cs k ce : Nat} {N : List Nd} {P : List Sp} {E : List En} (o : Op3 S w x g n cn h cs k ce N P E) {i e : Int} (ao : Option Addr) (an ac : Nat) (he : wantP N i 1 1 = e) (h0 : e ≠ 0) :
    Calls Try.prog 28 #[ptr x, iv i, .slice ao an ac] w (Rd (iv e) w) := by
  have kw := wants_any o i 1 1
  rw [he] at kw
  clear o he
  go_enter Try.func28, Try.ntmps28
  go_wp2_with fail
  refine kw.mono ?_
  rintro e w' ⟨rfl, rfl⟩
  go_wp2_with fail
  go_ret
  exact ⟨rfl, rfl⟩
set_option maxHeartbeats 1000000 in
theorem attrs_any {S : Nat → Prop} {w : World} {x g n cn h cs k ce : Nat} {N : List Nd} {P : List Sp} {E : List En} (o : Op3 S w x g n cn h cs k ce N P E) {i : Nat} {d : Nd} {A : List At} {ao : Option Addr} {ac : Nat} (ha : Ats w (.slice ao A.length ac) A) (hd : N[i]? = some d) (he : wantP N (i : Int) 1 1 = 0) :
    Calls Try.prog 28 #[ptr x, iv (i : Int), .slice ao A.length ac] w (fun e w' => ∃ av, e = .returned (iv 0) ∧ Op3 S w' x g n cn h cs k ce (N.set i { d with av := av, al := A }) P E ∧ Keep S w w') := by
  have kw := wants_any o (i : Int) 1 1
  rw [he] at kw
  have hj : i < n := by rw [← o.nn]; exact (List.getElem?_eq_some_iff.1 hd).1
  have hj2 : (i : Int) < (n : Int) := by omega
  obtain ⟨c0, _, _⟩ := o.c
  have HC : Hid (∀ w', Below w.heap.size w w' → Calls Try.prog 43 #[.slice ao A.length ac] w' fun e w1 => ∃ ao2 ac2 old, e = .returned (.slice ao2 A.length ac2) ∧ w1.cell? ⟨x, 0, none⟩ = some (.slice (some ⟨g, 0, none⟩) n cn) ∧ w1.cell? ⟨g, i * 11 + 5, none⟩ = some old ∧ w1.frozen? ⟨g, i * 11 + 5, none⟩ = false ∧ (Op3 S (w1.setCell ⟨g, i * 11 + 5, none⟩ (.slice ao2 A.length ac2)) x g n cn h cs k ce (N.set i { d with av := .slice ao2 A.length ac2, al := A }) P E ∧ Keep S w (w1.setCell ⟨g, i * 11 + 5, none⟩ (.slice ao2 A.length ac2)))) := fun w' hb => by
    refine (copied_any (ha.old hb)).mono ?_
    rintro e w1 ⟨v, rfl, b1, hv⟩
    obtain ⟨ao2, ac2, rfl, _⟩ := (hv (fun _ => False) (fun _ h => h.elim)).slice
    have b2 : Below w.heap.size w w1 := hb.trans (b1.mono hb.size)
    have o1 : Op3 S w1 x g n cn h cs k ce N P E := ⟨o.v.old b2, o.nn⟩
    obtain ⟨o2, k2, f2⟩ := o1.setN (j := 5) (d' := { d with av := .slice ao2 A.length ac2, al := A }) (u := .slice ao2 A.length ac2) hd (by decide) rfl (hv S (fun k hk => Nat.lt_of_lt_of_le (o.v.low k hk) hb.size))
    exact ⟨ao2, ac2, d.av, rfl, o1.c.1, o1.nd (j := 5) hd (by decide), f2, o2, (Keep.old b2).trans k2⟩
  obtain ⟨al, hal⟩ : ∃ al, A.length = al := ⟨_, rfl⟩
  rw [hal] at HC
  rw [hal]
  clear o he hd ha hal
  go_enter Try.func28, Try.ntmps28
  go_wp2_with fail
  refine kw.mono ?_
  rintro e w' ⟨rfl, rfl⟩
  go_upto_region 3 with fail
  go_region_law (refine step_call1 43 _ _ rfl rfl enters43 _ (by first | (simp [Act.eval]; done) | simp [Act.eval, Act.put]) (HC.out _ ((Below.refl _ _).drew)) ?_; rintro e w1 ⟨ao2, ac2, old, rfl, q0, q5, f5, hres⟩; have HRES : Hid _ := hres; clear hres; refine ⟨_, rfl, ?_⟩)
  all_goals
    go_wp2_with fail
    go_ret
    exact ⟨_, rfl, HRES.out⟩
end Go.Proofs.Ytcdaghlbfclpkaa
