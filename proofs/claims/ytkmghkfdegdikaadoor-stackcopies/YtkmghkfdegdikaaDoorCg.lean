/- The document's Same; both stacks in memory. -/
import Derived.Test.YtkmghkfdegdikaaDoorCf
import Derived.Test.YtkmghkfdegdikaaDoorCe
namespace Go.Proofs.YtkmghkfdegdikaaDoor
open Go.RowKit

/-- A call of a function of two arguments by its contract, as one step of a region that draws. -/
theorem step_call2 {P : Program} {ops : Array Oper} {o : Oper} {a : Act} {w : World} {K : Act → World → Prop} {Q : Exit → Act → World → Prop} {E : Prop} (f : FuncId) (x y : Operand) (ts : Array TypeId)
    (hg : o.guard = none) (hop : o.op = Op.call { callee := Callee.value (.func f), args := #[x, y], argTypes := ts }) (henter : ∀ args w, (callFunc f args).run P w = .ok (.enter f args) w)
    (u v : Value) (hx : a.eval x = u) (hy : a.eval y = v) {R : Ending → World → Prop} (hc : Calls P f #[u, v] w R) (hK : ∀ e w', R e w' → ∃ r, e = .returned r ∧ K (a.put o.dst r) w') :
    if Region.wanted o (yielded ops a.tmps) = true then Oper.wp P o a w K Q else E := by
  have hw : Region.wanted o (yielded ops a.tmps) = true := by simp [Region.wanted, hg]
  rw [if_pos hw]
  unfold Oper.wp
  have he : a.eval (.func f) = .func (.func f) #[] #[] := rfl
  have hrun : (execOp a.eval o).run P w = .ok (.enter f #[u, v]) w := by
    simp [execOp, hop, resolve, Deferred.ofValue, he, hx, hy, invoke, henter]
  rw [hrun]
  refine Calls.mono (show Calls P f _ w R from hc) ?_
  intro e w' h
  obtain ⟨r, rfl, hk⟩ := hK e w' h
  exact hk
theorem enters14 : ∀ args w, (callFunc 14 args).run Tryd.prog w = .ok (.enter 14 args) w := enters_of Tryd.func14 (by kernel_rfl) rfl
/-- A row of elements, all of its own. -/
def RowIs (w : World) (v : Value) (A : List El) : Prop := Rw (fun _ => False) w 34 4 v A.length (A.flatMap El.cs) ∧ ∀ d ∈ A, Own w d.av d.al
theorem RowIs.old {w w' : World} {v : Value} {A : List El} (h : RowIs w v A) (b : Below w.heap.size w w') : RowIs w' v A := ⟨h.1.old b, fun d hd => (h.2 d hd).old b⟩
theorem RowIs.at {w : World} {v : Value} {A : List El} (h : RowIs w v A) {i : Nat} {d : El} (hi : A[i]? = some d) :
    ∃ g c, v = .slice (some ⟨g, 0, none⟩) A.length c ∧ w.cell? ⟨g, i * 4, none⟩ = some (iv d.id) ∧ w.cell? ⟨g, i * 4 + 1, none⟩ = some (iv d.sp) ∧ w.cell? ⟨g, i * 4 + 2, none⟩ = some (.string d.nm) ∧ w.cell? ⟨g, i * 4 + 3, none⟩ = some d.av ∧ Own w d.av d.al := by
  have hl := (List.getElem?_eq_some_iff.1 hi).1
  obtain ⟨g, c, cur, hv, _⟩ := h.1.form (by omega)
  have hr := h.1
  rw [hv] at hr
  obtain ⟨k0, k1, k2, k3⟩ := el_cells hr hi
  exact ⟨g, c, hv, k0, k1, k2, k3, h.2 d (List.mem_of_getElem? hi)⟩
set_option linter.unusedSimpArgs false in
set_option maxHeartbeats 2000000 in
set_option maxRecDepth 20000 in
theorem same_any {w : World} {ao bo : Option Addr} {A B : List El} (n m ca cb : Nat) (hA : RowIs w (.slice ao n ca) A) (hB : RowIs w (.slice bo m cb) B) (hn : A.length = n) (hm : B.length = m) (hn2 : n ≤ 1000000000) :
    Calls Tryd.prog 15 #[.slice ao n ca, .slice bo m cb] w fun e w' => ∃ b, e = .returned (.bool b) ∧ (A.map El.pu = B.map El.pu → b = true) ∧ Below w.heap.size w w' := by
  have HH : Hid (RowIs w (.slice ao n ca) A ∧ RowIs w (.slice bo m cb) B ∧ A.length = n ∧ B.length = m) := ⟨hA, hB, hn, hm⟩
  clear hA hB hn hm
  by_cases hnm : n = m
  · subst hnm
    go_enter Tryd.func15, Tryd.ntmps15
    go_wp2_with fail
    go_loopg [5] n (fun g2 iv' wr => ∃ (i : Nat), iv' = iv (i : Int) ∧ i + g2 = n ∧ Hid (Below w.heap.size w wr))
    case atStart => exact ⟨0, rfl, by omega, Below.refl _ _⟩
    case round =>
      obtain ⟨i, rfl, hig, HI⟩ := hrel
      cases gk with
      | zero =>
        obtain rfl : i = n := by omega
        have hg0 : decide ((i : Int) < (i : Int)) = false := decide_eq_false (by omega)
        go_wp2_with fail
        go_ret
        exact ⟨_, rfl, fun _ => rfl, HI.out⟩
      | succ k =>
        have hin : i < n := by omega
        obtain ⟨c, hc⟩ : ∃ c, A[i]? = some c := ⟨_, List.getElem?_eq_getElem (by rw [HH.out.2.2.1]; exact hin)⟩
        obtain ⟨d, hd⟩ : ∃ d, B[i]? = some d := ⟨_, List.getElem?_eq_getElem (by rw [HH.out.2.2.2]; exact hin)⟩
        obtain ⟨g, gc, hgv, p0, p1, p2, p3, oc⟩ := (HH.out.1.old HI.out).at hc
        obtain ⟨g', gc', hgv', q0, q1, q2, q3, od⟩ := (HH.out.2.1.old HI.out).at hd
        rw [HH.out.2.2.1] at hgv
        rw [HH.out.2.2.2] at hgv'
        simp only [Value.slice.injEq, true_and] at hgv hgv'
        obtain ⟨rfl, rfl⟩ := hgv
        obtain ⟨rfl, rfl⟩ := hgv'
        have k1 := one_any (w := wr.drew) c d (oc.ats.old (Below.refl wr.heap.size wr).drew) (od.ats.old (Below.refl wr.heap.size wr).drew)
        obtain ⟨cao, cac, hcav, _⟩ := oc.1.slice
        obtain ⟨dao, dac, hdav, _⟩ := od.1.slice
        have HN : Hid (A.map El.pu = B.map El.pu → c.pu = d.pu) := fun h => by
          have := congrArg (·[i]?) h
          simp only [List.getElem?_map, hc, hd] at this
          injection this
        obtain ⟨cid, csp, cnm, cav, cal⟩ := c
        obtain ⟨did, dsp, dnm, dav, dal⟩ := d
        simp only at p0 p1 p2 p3 q0 q1 q2 q3 hcav hdav
        subst hcav
        subst hdav
        have H14 : Hid (Calls Tryd.prog 14 #[.agg #[iv cid, iv csp, .string cnm, .slice cao cal.length cac], .agg #[iv did, iv dsp, .string dnm, .slice dao dal.length dac]] wr.drew fun e w' => ∃ b, e = .returned (.bool b) ∧ Hid ((A.map El.pu = B.map El.pu → b = true) ∧ Below w.heap.size w w')) := k1.mono (by
          rintro e w' ⟨b, rfl, hb, bb⟩
          exact ⟨b, rfl, fun h => hb (HN.out h), HI.out.trans (((Below.refl wr.heap.size wr).drew.trans bb).mono HI.out.size)⟩)
        have hinz : (i : Int) < (n : Int) := by omega
        have hi0 : (0 : Int) ≤ (i : Int) := by omega
        clear k1 oc od hc hd HN
        go_wp2_with fail
        go_cut [26] (fun s wc => ∃ b, s = .bool (!b) ∧ Hid ((A.map El.pu = B.map El.pu → b = true) ∧ Below w.heap.size w wc))
        case first =>
          go_region_law (refine step_call2 14 _ _ _ rfl rfl enters14 _ _ (by first | (simp [Act.eval]; done) | simp [Act.eval, Act.put]) (by first | (simp [Act.eval]; done) | simp [Act.eval, Act.put]) H14.out ?_; rintro e w1 ⟨b, rfl, HB⟩; refine ⟨_, rfl, ?_⟩)
          all_goals
            go_wp2_with fail
            go_meet
            case rel => exact ⟨b, rfl, HB⟩
        case rest =>
          obtain ⟨b, rfl, HB⟩ := hcut
          cases b with
          | true =>
            go_wp2_with fail
            go_roundg k
            case measure => omega
            case rel => exact ⟨i + 1, by go_num, by omega, HB.out.2⟩
          | false =>
            go_wp2_with fail
            go_ret
            exact ⟨_, rfl, HB.out.1, HB.out.2⟩
  · have h1 : ((n : Int) == (m : Int)) = false := beq_false_of_ne (by omega)
    have h2 : ¬ (n : Int) = (m : Int) := by omega
    have HE : Hid (¬ A.map El.pu = B.map El.pu) := fun e => hnm (by
      have := congrArg List.length e
      simp only [List.length_map] at this
      rw [← HH.out.2.2.1, ← HH.out.2.2.2, this])
    go_enter Tryd.func15, Tryd.ntmps15
    go_wp2_with fail
    go_ret
    exact ⟨_, rfl, fun h => (HE.out h).elim, Below.refl _ _⟩
/-- Both stacks, apart. -/
structure Two (Z : Nat → Prop) (w : World) (x y : Nat) (rv lv : Value) (M N : List El) : Prop where
  p : Stk Z w x rv M
  q : RStk Z w y lv N
  ap : ∀ g, rv.ownBlock = some g → lv.ownBlock ≠ some g
/-- What is new since V, and every row of attributes, stands. -/
def Stb (V V' V'' : World) : Prop := V'.heap.size ≤ V''.heap.size ∧ ∀ (k : Nat) (cu : Array Value) (T : Nat), V'.heap[k]? = some (.cells cu T (0, 0)) → (V.heap.size ≤ k ∨ T = 71) → V''.heap[k]? = V'.heap[k]?
/-- All but the document's stack's own two blocks: see Rest. -/
theorem Two.prog {Z : Nat → Prop} {w w' : World} {x y : Nat} {rv lv rv' : Value} {M N M' : List El} (t : Two Z w x y rv lv M N) (s' : Stk (Rest w x rv) w' x rv' M') (k : Keep (Rest w x rv) w w') :
    Two Z w' x y rv' lv M' N ∧ Keep Z w w' ∧ ∀ V : World, V.heap.size ≤ w.heap.size → x < V.heap.size → (∀ g, rv.ownBlock = some g → g < V.heap.size) → Stb V w w' := by
  have hx := t.p.blk
  have hy := t.q.blk
  unfold Bx at hx hy
  have hin : ∀ (g : Nat) (cu : Array Value) (T : Nat), w.heap[g]? = some (.cells cu T (0, 0)) → T ≠ 55 → rv.ownBlock ≠ some g → Rest w x rv g := fun g cu T hg hT hr =>
    ⟨(Array.getElem?_eq_some_iff.1 hg).1, fun e => by rw [e, hx] at hg; simp at hg; exact hT hg.2.symm, hr⟩
  have hrv : ∀ (g : Nat) (cu : Array Value) (T : Nat), w.heap[g]? = some (.cells cu T (0, 0)) → T ≠ 34 → rv.ownBlock ≠ some g := fun g cu T hg hT e => by
    obtain ⟨_, c, h5⟩ := own_blk t.p.row.own e
    rw [hg] at h5
    simp at h5
    exact hT h5.2
  have hyR : Rest w x rv y := hin y _ _ hy (by decide) (hrv y _ _ hy (by decide))
  refine ⟨⟨s'.sub fun i hi => t.p.in_rest i hi, ⟨fun i hi => Nat.lt_of_lt_of_le (t.q.low i hi) k.size, (k.block y hyR t.q.lt).trans t.q.blk, t.q.out, t.q.row.mv fun g hg => ?_, fun d hd => (t.q.own d hd).mv fun g cu hg => ?_⟩, fun g hg hl => ?_⟩, k.sub fun i hi => t.p.in_rest i hi, fun V hV hxV hrV => ⟨k.size, fun g cu T hg hT => ?_⟩⟩
  · obtain ⟨h1, c, h5⟩ := own_blk t.q.row.own hg
    exact k.block g (hin g c 34 h5 (by decide) (fun e => t.ap g e hg)) h1
  · exact k.block g (hin g cu 71 hg (by decide) (hrv g cu 71 hg (by decide))) (Array.getElem?_eq_some_iff.1 hg).1
  · obtain ⟨h1, c, h5⟩ := own_blk t.q.row.own hl
    exact s'.row.out g hg (hin g c 34 h5 (by decide) (fun e => t.ap g e hl))
  · refine k.block g ?_ (Array.getElem?_eq_some_iff.1 hg).1
    rcases hT with hT | hT
    · exact ⟨(Array.getElem?_eq_some_iff.1 hg).1, by omega, fun e => by have := hrV g e; omega⟩
    · subst hT
      exact hin g cu 71 hg (by decide) (hrv g cu 71 hg (by decide))
theorem Two.ref {Z : Nat → Prop} {w w' : World} {x y : Nat} {rv lv lv' : Value} {M N N' : List El} (t : Two Z w x y rv lv M N) (s' : RStk (Rest w y lv) w' y lv' N') (k : Keep (Rest w y lv) w w') :
    Two Z w' x y rv lv' M N' ∧ Keep Z w w' ∧ ∀ V : World, V.heap.size ≤ w.heap.size → y < V.heap.size → (∀ g, lv.ownBlock = some g → g < V.heap.size) → Stb V w w' := by
  have hx := t.p.blk
  have hy := t.q.blk
  unfold Bx at hx hy
  have hin : ∀ (g : Nat) (cu : Array Value) (T : Nat), w.heap[g]? = some (.cells cu T (0, 0)) → T ≠ 28 → lv.ownBlock ≠ some g → Rest w y lv g := fun g cu T hg hT hr =>
    ⟨(Array.getElem?_eq_some_iff.1 hg).1, fun e => by rw [e, hy] at hg; simp at hg; exact hT hg.2.symm, hr⟩
  have hrv : ∀ (g : Nat) (cu : Array Value) (T : Nat), w.heap[g]? = some (.cells cu T (0, 0)) → T ≠ 34 → lv.ownBlock ≠ some g := fun g cu T hg hT e => by
    obtain ⟨_, c, h5⟩ := own_blk t.q.row.own e
    rw [hg] at h5
    simp at h5
    exact hT h5.2
  have hxR : Rest w y lv x := hin x _ _ hx (by decide) (hrv x _ _ hx (by decide))
  refine ⟨⟨⟨fun i hi => Nat.lt_of_lt_of_le (t.p.low i hi) k.size, (k.block x hxR t.p.lt).trans t.p.blk, t.p.out, t.p.row.mv fun g hg => ?_, fun d hd => (t.p.own d hd).mv fun g cu hg => ?_⟩, s'.sub fun i hi => t.q.in_rest i hi, fun g hg hl => ?_⟩, k.sub fun i hi => t.q.in_rest i hi, fun V hV hxV hrV => ⟨k.size, fun g cu T hg hT => ?_⟩⟩
  · obtain ⟨h1, c, h5⟩ := own_blk t.p.row.own hg
    exact k.block g (hin g c 34 h5 (by decide) (fun e => t.ap g hg e)) h1
  · exact k.block g (hin g cu 71 hg (by decide) (hrv g cu 71 hg (by decide))) (Array.getElem?_eq_some_iff.1 hg).1
  · obtain ⟨h1, c, h5⟩ := own_blk t.p.row.own hg
    exact s'.row.out g hl (hin g c 34 h5 (by decide) (fun e => t.ap g hg e))
  · refine k.block g ?_ (Array.getElem?_eq_some_iff.1 hg).1
    rcases hT with hT | hT
    · exact ⟨(Array.getElem?_eq_some_iff.1 hg).1, by omega, fun e => by have := hrV g e; omega⟩
    · subst hT
      exact hin g cu 71 hg (by decide) (hrv g cu 71 hg (by decide))
theorem Two.old {Z : Nat → Prop} {w w' : World} {x y : Nat} {rv lv : Value} {M N : List El} (t : Two Z w x y rv lv M N) (b : Below w.heap.size w w') : Two Z w' x y rv lv M N := ⟨t.p.old b, t.q.old b, t.ap⟩
/-- What holds behind both calls: what each has left, and what each has answered. -/
def Fin2 (Z : Nat → Prop) (w : World) (x y : Nat) (PM QN : List El → Prop) (PR QR : World → Value → World → Prop) (v u : Value) (V2 : World) : Prop :=
  ∃ rv' lv' M' N', Two Z V2 x y rv' lv' M' N' ∧ Keep Z w V2 ∧ PM M' ∧ QN N' ∧ (∃ A, PR A v V2) ∧ ∃ A, QR A u V2
/-- What a call of the program says. -/
def PCall (Z : Nat → Prop) (w : World) (x : Nat) (rv : Value) (M : List El) (f : FuncId) (a : Array Value) (PM : List El → Prop) (PR : World → Value → World → Prop) : Prop :=
  ∀ V, Keep Z w V → Stk (Rest V x rv) V x rv M → Calls Tryd.prog f a V fun e V' => ∃ v rv' M', e = .returned v ∧ Stk (Rest V x rv) V' x rv' M' ∧ Keep (Rest V x rv) V V' ∧ PM M' ∧ PR V v V'
def QCall (Z : Nat → Prop) (w : World) (y : Nat) (lv : Value) (N : List El) (f : FuncId) (a : Array Value) (QN : List El → Prop) (QR : World → Value → World → Prop) : Prop :=
  ∀ V, Keep Z w V → RStk (Rest V y lv) V y lv N → Calls Tryd.prog f a V fun e V' => ∃ v lv' N', e = .returned v ∧ RStk (Rest V y lv) V' y lv' N' ∧ Keep (Rest V y lv) V V' ∧ QN N' ∧ QR V v V'
/-- Both calls, in either order. -/
theorem Two.both {Z : Nat → Prop} {w : World} {x y : Nat} {rv lv : Value} {M N : List El} (t : Two Z w x y rv lv M N) {f g : FuncId} {a b : Array Value} {PM QN : List El → Prop} {PR QR : World → Value → World → Prop}
    (hP : ∀ A v V V', PR A v V → Stb A V V' → PR A v V') (hQ : ∀ A v V V', QR A v V → Stb A V V' → QR A v V')
    (hp : PCall Z w x rv M f a PM PR) (hq : QCall Z w y lv N g b QN QR) :
    Calls Tryd.prog f a w.drew (fun e V1 => ∃ v, e = .returned v ∧ (∃ A, PR A v V1) ∧ Keep Z w V1 ∧ Calls Tryd.prog g b V1 fun e V2 => ∃ u, e = .returned u ∧ Keep Z w V2 ∧ (∃ A, QR A u V2) ∧ Fin2 Z w x y PM QN PR QR v u V2) ∧
    Calls Tryd.prog g b w.drew (fun e V1 => ∃ u, e = .returned u ∧ (∃ A, QR A u V1) ∧ Keep Z w V1 ∧ Calls Tryd.prog f a V1 fun e V2 => ∃ v, e = .returned v ∧ Keep Z w V2 ∧ (∃ A, PR A v V2) ∧ Fin2 Z w x y PM QN PR QR v u V2) := by
  have bd := (Below.refl w.heap.size w).drew
  have td := t.old bd
  have kd : Keep Z w w.drew := Keep.old bd
  have hxl : x < w.drew.heap.size := td.p.lt
  have hyl : y < w.drew.heap.size := td.q.lt
  have hrl : ∀ g, rv.ownBlock = some g → g < w.drew.heap.size := fun g hg => (own_blk td.p.row.own hg).1
  have hll : ∀ g, lv.ownBlock = some g → g < w.drew.heap.size := fun g hg => (own_blk td.q.row.own hg).1
  constructor
  · refine (hp _ kd td.p.rest).mono ?_
    rintro e V1 ⟨v, rv', M', rfl, s1, k1, m1, r1⟩
    obtain ⟨t1, z1, _⟩ := td.prog s1 k1
    refine ⟨v, rfl, ⟨_, r1⟩, kd.trans z1, (hq V1 (kd.trans z1) t1.q.rest).mono ?_⟩
    rintro e V2 ⟨u, lv', N', rfl, s2, k2, n2, r2⟩
    obtain ⟨t2, z2, st⟩ := t1.ref s2 k2
    exact ⟨u, rfl, (kd.trans z1).trans z2, ⟨_, r2⟩, rv', lv', M', N', t2, (kd.trans z1).trans z2, m1, n2, ⟨_, hP _ _ _ _ r1 (st _ k1.size hyl hll)⟩, _, r2⟩
  · refine (hq _ kd td.q.rest).mono ?_
    rintro e V1 ⟨u, lv', N', rfl, s1, k1, n1, r1⟩
    obtain ⟨t1, z1, _⟩ := td.ref s1 k1
    refine ⟨u, rfl, ⟨_, r1⟩, kd.trans z1, (hp V1 (kd.trans z1) t1.p.rest).mono ?_⟩
    rintro e V2 ⟨v, rv', M', rfl, s2, k2, m2, r2⟩
    obtain ⟨t2, z2, st⟩ := t1.prog s2 k2
    exact ⟨v, rfl, (kd.trans z1).trans z2, ⟨_, r2⟩, rv', lv', M', N', t2, (kd.trans z1).trans z2, m2, n1, ⟨_, r2⟩, _, hQ _ _ _ _ r1 (st _ k1.size hxl hrl)⟩
end Go.Proofs.YtkmghkfdegdikaaDoor
