/- slices.Compact of attributes. -/
import Derived.Test.YtdpibnmbgjhohaaFa
import Derived.Test.YtdpibnmbgjhohaaBj
import Derived.Laws.Tables
namespace Go.Proofs.Ytdpibnmbgjhohaa
open Go.RowKit

/-- Is what stands at a place what stands ahead of it? -/
def repA (L : List At) (m : Nat) (x : At) : Bool := decide (0 < m) && (match L[m - 1]? with | some y => At.eqb x y | none => false)
/-- Each once, of what stands side by side. -/
def cpU (L : List At) : Nat → List At
  | 0 => []
  | m + 1 => match L[m]? with
    | none => cpU L m
    | some x => if repA L m x = true then cpU L m else cpU L m ++ [x]
theorem cpU_len (L : List At) : ∀ m, (cpU L m).length ≤ m
  | 0 => Nat.le_refl _
  | m + 1 => by
    have := cpU_len L m
    rw [cpU]
    split
    · omega
    · split
      · omega
      · rw [List.length_append, List.length_singleton]; omega
theorem cpU_next {L : List At} {m : Nat} {x : At} (h : L[m]? = some x) : cpU L (m + 1) = if repA L m x = true then cpU L m else cpU L m ++ [x] := by
  rw [cpU, h]
theorem list_clear_eq {P : Program} {ops : Array Oper} {rest : List Oper} {o : Oper} {a : Act} {w : World} {Q : Exit → Act → World → Prop}
    (hg : o.guard = none) (d : Operand) (dT : TypeId) (hop : o.op = Op.call { callee := Callee.builtin Builtin.clear, args := #[d], argTypes := #[dT] })
    (v : Value) (hd : a.eval d = v) {v' : Value} {w' : World} (hr : (Builtin.clear_ #[dT] o.type #[v]).run P w = .ok v' w') (hK : wpList P ops Q rest (a.put o.dst v') w') :
    wpList P ops Q (o :: rest) a w :=
  wpList_plain hg fun K hK2 => by
    unfold Oper.wp
    simp [execOp, hop, resolve, invoke, builtin, hd, hr, Result.andThen]
    exact hK2 _ _ hK
theorem run_clear_s {w : World} {g : Nat} {cur : Array Value} (o n c ty : Nat) (hg : w.heap[g]? = some (.cells cur 53 (0, 0))) (h0 : 0 < n) (hfit : o + n * 2 ≤ cur.size) :
    ∃ W cur', (Builtin.clear_ #[22] ty #[.slice (some ⟨g, o, none⟩) n c]).run Try.prog w = .ok (.tuple #[]) W ∧ w.grownBy W (some g) ∧ W.heap[g]? = some (.cells cur' 53 (0, 0)) ∧ ∀ j, j < o → cur'[j]? = cur[j]? := by
  obtain ⟨z, hz⟩ : ∃ z : Array Value, Builtin.zeroCells (Value.agg #[.string ⟨#[]⟩, .string ⟨#[]⟩]).cells n = z := ⟨_, rfl⟩
  have hsz : z.toList.length = n * 2 := by
    rw [← hz, Array.length_toList, size_zeroCells]
    rfl
  have h1 : ∀ v ∈ z.toList, v.oneCell' = true := fun v hv => by
    rw [← hz, Builtin.zeroCells, Array.toList_map, List.mem_map] at hv
    obtain ⟨i, _, rfl⟩ := hv
    have hm : i % (Value.agg #[.string ⟨#[]⟩, .string ⟨#[]⟩]).cells.size < 2 := Nat.mod_lt _ (by decide)
    generalize i % (Value.agg #[.string ⟨#[]⟩, .string ⟨#[]⟩]).cells.size = r at hm
    match r, hm with
    | 0, _ => rfl
    | 1, _ => rfl
  have hst := run_storeCells_at (P := Try.prog) g o 53 z.toList 0 cur w hg (by rw [hsz]; omega) h1
  refine ⟨w.setRow g (cur.toList.take (o + 0) ++ z.toList ++ cur.toList.drop (o + 0 + z.toList.length)).toArray, (cur.toList.take (o + 0) ++ z.toList ++ cur.toList.drop (o + 0 + z.toList.length)).toArray, ?_, ?_, setRow_heap w g cur _ 53 (0, 0) hg, fun j hj => ?_⟩
  · cases n with
    | zero => omega
    | succ n =>
      simp only [Builtin.clear_]
      simp [run_underlying Try.underlying22, hz, hst]
  · exact ⟨by simp, by simp, by simp, by simp, fun k hk hne => setRow_other w g k _ (fun e => hne (by rw [e]))⟩
  · have hl : j < cur.size := by omega
    rw [List.getElem?_toArray, List.append_assoc, List.getElem?_append_left (by rw [List.length_take, Array.length_toList]; omega), List.getElem?_take, if_pos (by omega), Array.getElem?_toList]
/-- Two aggs of attributes, compared. -/
theorem cmp_facts (x y : At) : (∀ w : World, (binOp .eql 53 (.agg #[.string x.n, .string x.v]) (.agg #[.string y.n, .string y.v])).run Try.prog w = .ok (.bool (At.eqb x y)) w) ∧ (∀ w : World, (binOp .neq 53 (.agg #[.string x.n, .string x.v]) (.agg #[.string y.n, .string y.v])).run Try.prog w = .ok (.bool (!At.eqb x y)) w) :=
  ⟨fun w => eq53 x.n x.v y.n y.v w, fun w => ne53 x.n x.v y.n y.v w⟩
theorem row_cells {S : Nat → Prop} {w : World} {g n cap : Nat} {C : List At} (h : Rw S w 53 2 (.slice (some ⟨g, 0, none⟩) n cap) n (C.flatMap At.cells)) {i : Nat} {x : At} (hi : C[i]? = some x) : w.cell? ⟨g, i * 2, none⟩ = some (.string x.n) ∧ w.cell? ⟨g, i * 2 + 1, none⟩ = some (.string x.v) := by
  obtain ⟨q1, q2⟩ := at_at C i x hi
  exact ⟨h.cell q1, h.cell q2⟩
set_option maxRecDepth 20000 in
set_option maxHeartbeats 8000000 in
theorem compact_ats {S : Nat → Prop} {w : World} {g n cap : Nat} {L : List At} (h : Rw S w 53 2 (.slice (some ⟨g, 0, none⟩) n cap) n (L.flatMap At.cells)) (hl : L.length = n) (hn : n ≤ 1000000) :
    Calls Try.prog 75 #[.slice (some ⟨g, 0, none⟩) n cap] w fun e w' => ∃ m, e = .returned (.slice (some ⟨g, 0, none⟩) m cap) ∧ (cpU L n).length = m ∧ AtRow w' (some ⟨g, 0, none⟩) (cpU L n) ∧ w.grownBy w' (some g) := by
  have hcap : n ≤ cap ∧ cap ≤ maxLen := by
    obtain ⟨_, _, e, h1, h2⟩ := h.slice
    cases e
    exact ⟨h1, h2⟩
  by_cases h2 : n < 2
  · have g1 : decide ((n : Int) < 2) = true := decide_eq_true (by omega)
    have he : cpU L n = L := by
      match L, hl with
      | [], hl => subst hl; rfl
      | [x], hl =>
        subst hl
        show cpU [x] (0 + 1) = [x]
        rw [cpU_next (x := x) rfl]
        simp [repA, cpU]
      | x :: y :: l, hl => simp at hl; omega
    have hr : Hid (AtRow w (some ⟨g, 0, none⟩) L) := by
      subst hl
      exact h.atrow
    have HE : Hid ((cpU L n).length = n ∧ AtRow w (some ⟨g, 0, none⟩) (cpU L n)) := by
      refine ⟨by rw [he, hl], ?_⟩
      rw [he]
      exact hr.out
    clear h hl he hr
    go_enter Try.func75, Try.ntmps75
    go_wp2_with fail
    go_ret
    exact ⟨_, rfl, HE.out.1, HE.out.2, World.grownBy.refl _ _⟩
  · have g1 : decide ((n : Int) < 2) = false := decide_eq_false (by omega)
    have HR : Hid (Rw S w 53 2 (.slice (some ⟨g, 0, none⟩) n cap) n (L.flatMap At.cells) ∧ L.length = n) := ⟨h, hl⟩
    have hgw : g < w.heap.size := (own_blk h.own rfl).1
    obtain ⟨hc1, hc2⟩ := hcap
    have HP0 : Hid (cpU L 1 = L.take 1) := by
      show cpU L (0 + 1) = L.take 1
      obtain ⟨x, hx⟩ : ∃ x, L[0]? = some x := ⟨_, List.getElem?_eq_getElem (by omega)⟩
      rw [cpU_next hx, List.take_add_one, hx]
      simp [repA, cpU]
    clear h hl
    go_enter Try.func75, Try.ntmps75
    go_wp2_with fail
    go_loopg [3] (n - 1) (fun g2 kv wr => ∃ (k q : Nat), kv = .int .i64 k ∧ k + g2 = n ∧ 1 ≤ k ∧ wr = w.drewN q ∧ Hid (cpU L k = L.take k))
    case atStart => exact ⟨1, 0, rfl, by omega, by omega, rfl, HP0⟩
    case round =>
      obtain ⟨k, q, rfl, hkg, hk1, rfl, HT⟩ := hrel
      cases gk with
      | zero =>
        obtain rfl : k = n := by omega
        have hg0 : decide ((k : Int) < (k : Int)) = false := decide_eq_false (by omega)
        have HE : Hid ((cpU L k).length = k ∧ AtRow (w.drewN q) (some ⟨g, 0, none⟩) (cpU L k)) := by
          have e : cpU L k = L := by rw [HT.out, List.take_of_length_le (by rw [HR.out.2]; omega)]
          refine ⟨by rw [e, HR.out.2], ?_⟩
          rw [e]
          have := HR.out.1
          rw [← HR.out.2] at this
          exact fun i x hx => this.atrow i x hx
        clear hkg hk1
        go_wp2_with fail
        go_ret
        exact ⟨_, rfl, HE.out.1, HE.out.2, ⟨rfl, rfl, rfl, Nat.le_refl _, fun _ _ _ => rfl⟩⟩
      | succ gg =>
        have hkn : k < n := by omega
        obtain ⟨m, hm⟩ : ∃ m, k = m + 1 := ⟨k - 1, by omega⟩
        obtain ⟨x, hx⟩ : ∃ x, L[k]? = some x := ⟨_, List.getElem?_eq_getElem (by rw [HR.out.2]; exact hkn)⟩
        obtain ⟨y, hy⟩ : ∃ y, L[m]? = some y := ⟨_, List.getElem?_eq_getElem (by rw [HR.out.2]; omega)⟩
        obtain ⟨c0, c1⟩ := row_cells HR.out.1 hx
        obtain ⟨d0, d1⟩ := row_cells HR.out.1 hy
        have heq := (cmp_facts x y).1
        have hkn' : (k : Int) < n := by omega
        have hmn : m < n := by omega
        have hmn' : (m : Int) < n := by omega
        have hg0 : decide ((k : Int) < (n : Int)) = true := decide_eq_true hkn'
        have wm : IntKind.i64.wrap ((k : Int) - 1) = (m : Int) := by rw [IntKind.wrap_i64]; omega
        have HQ : Hid (k + (gg + 1) = n ∧ 1 ≤ k ∧ k = m + 1) := ⟨hkg, hk1, hm⟩
        have hrep : repA L k x = At.eqb x y := by
          rw [repA, decide_eq_true (by omega), Bool.true_and, show k - 1 = m by omega, hy]
        cases hE : At.eqb x y with
        | false =>
          rw [hE] at heq hrep
          have HT2 : Hid (cpU L (k + 1) = L.take (k + 1)) := by
            show cpU L (k + 1) = L.take (k + 1)
            rw [cpU_next hx, hrep, if_neg (by decide), HT.out, List.take_add_one, hx]
            rfl
          clear hx hy hE hrep hkg hk1 hm
          go_wp2_with fail
          go_quiet (fail)
          go_wp2_with fail
          go_roundg gg
          case measure => omega
          case rel => exact ⟨k + 1, _, by go_num, by have := HQ.out.1; omega, by omega, rfl, HT2⟩
        | true =>
          rw [hE] at heq hrep
          have HRep : Hid (cpU L (k + 1) = cpU L k ∧ cpU L k = L.take k) := by
            refine ⟨?_, HT.out⟩
            rw [cpU_next hx, hrep, if_pos rfl]
          have hcn : ¬ cap = k := by omega
          have hcn2 : ¬ (cap : Int) = (k : Int) := by omega
          have hkc : (k : Int) ≤ (n : Int) := by omega
          have hk0 : (0 : Int) ≤ (k : Int) := by omega
          have hnc : (n : Int) ≤ (cap : Int) := by omega
          have hkn2 : k ≤ n := by omega
          clear hx hy hE hrep hkg hk1 hm
          go_wp2_with fail
          go_quiet (fail)
          go_wp2_with fail
          obtain ⟨r, hr⟩ : ∃ r, n - k = r := ⟨_, rfl⟩
          rw [hr]
          have HW : Hid (n = k + r ∧ 1 ≤ r) := by
            refine ⟨?_, ?_⟩ <;> omega
          have hrn : r ≤ 1000000 := by omega
          clear hr heq wm c0 c1 d0 d1 hg0 hkn' hmn hmn' hcn hcn2
          go_loopg [3, 5] (r - 1) (fun g3 kv k2v wr => ∃ (kk k2 : Nat) (C : List At), kv = .int .i64 kk ∧ k2v = .int .i64 k2 ∧ k2 + g3 = r ∧ 1 ≤ k2 ∧ kk < k + k2 ∧ Hid (Rw S wr 53 2 (.slice (some ⟨g, 0, none⟩) n cap) n (C.flatMap At.cells) ∧ C.length = n ∧ C.take kk = cpU L (k + k2) ∧ (∀ j, kk ≤ j → C[j]? = L[j]?) ∧ w.grownBy wr (some g)))
          case atStart =>
            refine ⟨k, 1, L, rfl, rfl, by have := HW.out.2; omega, Nat.le_refl _, by omega, HR.out.1.mv (fun _ _ => rfl), HR.out.2, ?_, fun _ _ => rfl, ⟨rfl, rfl, rfl, Nat.le_refl _, fun _ _ _ => rfl⟩⟩
            rw [HRep.out.1, HRep.out.2]
          case round =>
            obtain ⟨kk, k2, C, rfl, rfl, hkg, hk2, hkk, HI⟩ := hrel
            cases gk with
            | zero =>
              obtain rfl : k2 = r := by omega
              have hg0 : decide ((k2 : Int) < (k2 : Int)) = false := decide_eq_false (by omega)
              have hn1 : kk < n := by have := HW.out.1; omega
              obtain ⟨hq1, cur, hcur⟩ := own_blk HI.out.1.own rfl
              have hcs : cur.size = cap * 2 := by
                rcases HI.out.1.own.2 with ⟨e0, _⟩ | ⟨_, _, cur2, e0, _, hc, _, _, h6, _⟩
                · cases e0
                · cases e0
                  rw [hcur] at hc
                  cases hc
                  exact h6
              obtain ⟨W9, cur', hrun, hgr, hcur', hsame⟩ := run_clear_s (w := wr) (kk * 2) (n - kk) (cap - kk) 0 hcur (by omega) (by omega)
              have hcn : ¬ cap = kk := by omega
              have i1 : (kk : Int) ≤ (n : Int) := by omega
              have i2 : kk ≤ n := by omega
              have i3 : kk ≤ cap := by omega
              have HE : Hid ((cpU L n).length = kk ∧ AtRow W9 (some ⟨g, 0, none⟩) (cpU L n) ∧ w.grownBy W9 (some g)) := by
                have e : cpU L n = C.take kk := by rw [HI.out.2.2.1, HW.out.1]
                refine ⟨by rw [e, List.length_take, HI.out.2.1]; omega, fun i z hz => ?_, HI.out.2.2.2.2.trans hgr⟩
                rw [e, List.getElem?_take] at hz
                by_cases hik : i < kk
                · rw [if_pos hik] at hz
                  obtain ⟨p0, p1⟩ := row_cells HI.out.1 hz
                  refine ⟨g, 0, rfl, (Array.getElem?_eq_some_iff.1 hcur').1, ?_, ?_⟩
                  · rw [Nat.zero_add, ← p0]
                    simp [World.cell?, hcur', hcur, hsame (i * 2) (by omega)]
                  · rw [Nat.zero_add, ← p1]
                    simp [World.cell?, hcur', hcur, hsame (i * 2 + 1) (by omega)]
                · rw [if_neg hik] at hz
                  cases hz
              clear hcur hcur' hsame hgr hcs hkg
              go_wp2_with (at_builtin; refine list_clear_eq rfl _ 22 rfl _ rfl hrun ?_)
              go_ret
              exact ⟨_, rfl, HE.out.1, HE.out.2.1, HE.out.2.2⟩
            | succ gg2 =>
              have h2r : k2 < r := by omega
              have h2r' : (k2 : Int) < r := by omega
              have hg0 : decide ((k2 : Int) < (r : Int)) = true := decide_eq_true h2r'
              obtain ⟨m2, hm2⟩ : ∃ m2, k2 = m2 + 1 := ⟨k2 - 1, by omega⟩
              obtain ⟨u, hu⟩ : ∃ u, L[k + k2]? = some u := ⟨_, List.getElem?_eq_getElem (by rw [HR.out.2]; have := HW.out.1; omega)⟩
              obtain ⟨v, hv⟩ : ∃ v, L[k + m2]? = some v := ⟨_, List.getElem?_eq_getElem (by rw [HR.out.2]; have := HW.out.1; omega)⟩
              obtain ⟨z, hz⟩ : ∃ z, C[kk]? = some z := ⟨_, List.getElem?_eq_getElem (by rw [HI.out.2.1]; have := HW.out.1; omega)⟩
              have hu' : C[k + k2]? = some u := (HI.out.2.2.2.1 _ (by omega)).trans hu
              have hv' : C[k + m2]? = some v := (HI.out.2.2.2.1 _ (by omega)).trans hv
              obtain ⟨p0, p1⟩ := row_cells HI.out.1 hu'
              obtain ⟨q0, q1⟩ := row_cells HI.out.1 hv'
              rw [show (k + k2) * 2 = k * 2 + k2 * 2 by omega] at p0 p1
              rw [show (k + m2) * 2 = k * 2 + m2 * 2 by omega] at q0 q1
              have hmr : m2 < r := by omega
              have hmr' : (m2 : Int) < r := by omega
              have wm2 : IntKind.i64.wrap ((k2 : Int) - 1) = (m2 : Int) := by rw [IntKind.wrap_i64]; omega
              have hne := (cmp_facts u v).2
              have hrep : repA L (k + k2) u = At.eqb u v := by
                rw [repA, decide_eq_true (by omega), Bool.true_and, show k + k2 - 1 = k + m2 by omega, hv]
              have HQ2 : Hid (k2 + (gg2 + 1) = r ∧ 1 ≤ k2 ∧ kk < k + k2) := ⟨hkg, hk2, hkk⟩
              have hkkn : kk < n := by have := HW.out.1; omega
              cases hE : At.eqb u v with
              | true =>
                rw [hE] at hne hrep
                have HN : Hid (C.take kk = cpU L (k + (k2 + 1))) := by
                  show C.take kk = cpU L (k + k2 + 1)
                  rw [cpU_next hu, hrep, if_pos rfl, HI.out.2.2.1]
                clear hu hv hz hu' hv' hE hrep hkg hk2 hkk hm2
                go_wp2_with fail
                go_quiet (fail)
                go_wp2_with fail
                go_roundg gg2
                case measure => omega
                case rel => exact ⟨kk, k2 + 1, C, rfl, by go_num, by have := HQ2.out.1; omega, by omega, by have := HQ2.out.2.2; omega, HI.out.1.mv (fun _ _ => rfl), HI.out.2.1, HN.out, HI.out.2.2.2.1, HI.out.2.2.2.2.trans ⟨rfl, rfl, rfl, Nat.le_refl _, fun _ _ _ => rfl⟩⟩
              | false =>
                rw [hE] at hne hrep
                have HN : Hid ((C.set kk u).take (kk + 1) = cpU L (k + (k2 + 1)) ∧ (C.set kk u).length = n ∧ ∀ j, kk + 1 ≤ j → (C.set kk u)[j]? = L[j]?) := by
                  refine ⟨?_, by rw [List.length_set, HI.out.2.1], fun j hj => ?_⟩
                  · show (C.set kk u).take (kk + 1) = cpU L (k + k2 + 1)
                    rw [cpU_next hu, hrep, if_neg (by decide), ← HI.out.2.2.1, List.take_add_one, List.take_set_of_le (Nat.le_refl _), List.getElem?_set_self (by rw [HI.out.2.1]; exact hkkn)]
                    rfl
                  · rw [List.getElem?_set_ne (by omega)]
                    exact HI.out.2.2.2.1 j (by omega)
                have hset1 := fl_set At.cells 2 (fun _ => rfl) C kk 0 z ⟨u.n, z.v⟩ (.string u.n) hz (by omega) rfl
                have hset2 := fl_set At.cells 2 (fun _ => rfl) (C.set kk ⟨u.n, z.v⟩) kk 1 ⟨u.n, z.v⟩ u (.string u.v) (List.getElem?_set_self (by rw [HI.out.2.1]; exact hkkn)) (by omega) rfl
                rw [List.set_set] at hset2
                rw [Nat.add_zero] at hset1
                obtain ⟨z0, z1⟩ := row_cells HI.out.1 hz
                have f0 : wr.frozen? ⟨g, kk * 2, none⟩ = false := World.ownsRow.frozenAt HI.out.1.own _
                have f1 : wr.frozen? ⟨g, kk * 2 + 1, none⟩ = false := World.ownsRow.frozenAt HI.out.1.own _
                have HST : Hid (∀ W : World, W.heap = wr.heap → W.os = wr.os → W.tape = wr.tape → W.output = wr.output → Rw S ((W.setCell ⟨g, kk * 2, none⟩ (.string u.n)).setCell ⟨g, kk * 2 + 1, none⟩ (.string u.v)) 53 2 (.slice (some ⟨g, 0, none⟩) n cap) n ((C.set kk u).flatMap At.cells) ∧ w.grownBy ((W.setCell ⟨g, kk * 2, none⟩ (.string u.n)).setCell ⟨g, kk * 2 + 1, none⟩ (.string u.v)) (some g)) := fun W e1 e2 e3 e4 => by
                  have r0 := HI.out.1.mv (w' := W) fun i _ => by rw [e1]
                  have r1 := (r0.set (kk * 2) (.string u.n)).1
                  rw [hset1] at r1
                  have r2 := (r1.set (kk * 2 + 1) (.string u.v)).1
                  rw [hset2] at r2
                  have hg0 := HI.out.2.2.2.2
                  refine ⟨r2, World.grownBy.trans (World.grownBy.trans ?_ (grown_set W ⟨g, kk * 2, none⟩ _)) (grown_set _ ⟨g, kk * 2 + 1, none⟩ _)⟩
                  exact ⟨e2.trans hg0.os, e3.trans hg0.tape, e4.trans hg0.output, by rw [e1]; exact hg0.size, fun i hi hne => by rw [e1]; exact hg0.block i hi hne⟩
                have hkkn' : (kk : Int) < n := by omega
                clear hu hv hz hu' hv' hE hrep hkg hk2 hkk hm2 hset1 hset2
                go_wp2_with fail
                go_quiet (fail)
                go_wp2_with fail
                go_roundg gg2
                case measure => omega
                case rel =>
                  exact ⟨kk + 1, k2 + 1, C.set kk u, by go_num, by go_num, by have := HQ2.out.1; omega, by omega, by have := HQ2.out.2.2; omega, (HST.out (wr.drewN _) rfl rfl rfl rfl).1, HN.out.2.1, HN.out.1, HN.out.2.2, (HST.out (wr.drewN _) rfl rfl rfl rfl).2⟩
end Go.Proofs.Ytdpibnmbgjhohaa
