/- The law's once: no element has two attributes of one name. -/
import Derived.Test.YtdpibnmbgjhohaaAk
import Derived.Shelf.Abstract
namespace Go.Proofs.Ytdpibnmbgjhohaa
open Go.RowKit

/-- A call of a function of two arguments by its contract, as one step of a region that draws. -/
theorem step_call2 {P : Program} {ops : Array Oper} {o : Oper} {a : Act} {w : World} {K : Act → World → Prop} {Q : Exit → Act → World → Prop} {E : Prop} (f : FuncId) (x y : Operand) (ts : Array TypeId)
    (hg : o.guard = none) (hop : o.op = Op.call { callee := Callee.value (.func f), args := #[x, y], argTypes := ts }) (henter : ∀ args w, (callFunc f args).run P w = .ok (.enter f args) w)
    (u v : Value) (hx : a.eval x = u) (hy : a.eval y = v) {R : Ending → World → Prop} (hc : Calls P f #[u, v] w R) (hK : ∀ e w', R e w' → ∃ r, e = .returned r ∧ K (a.put o.dst r) w') :
    if Region.wanted o (yielded ops a.tmps) = true then Oper.wp P o a w K Q else E := by
  have hw : Region.wanted o (yielded ops a.tmps) = true := by simp [Region.wanted, hg]
  rw [if_pos hw]
  unfold Oper.wp
  have he : a.eval (.func f) = .func (.func f) #[] #[] := rfl
  have hrun : (execOp a.eval o).run P w = .ok (.enter f #[u, v]) w := by
    simp [execOp, hop, resolve, Deferred.ofValue, he, hx, hy, invoke, henter]
  rw [hrun]
  refine Calls.mono (show Calls P f _ w R from hc) ?_
  intro e w' h
  obtain ⟨r, rfl, hk⟩ := hK e w' h
  exact hk
theorem enters42 : ∀ args w, (callFunc 42 args).run Try.prog w = .ok (.enter 42 args) w := enters_of Try.func42 (by kernel_rfl) rfl
theorem enters28 : ∀ args w, (callFunc 28 args).run Try.prog w = .ok (.enter 28 args) w := enters_of Try.func28 (by kernel_rfl) rfl
mutual
/-- No node of a tree has two attributes of one name. -/
noncomputable def oT : Tr → Bool
  | .mk d ks => eqA (missP [] d.al) d.al && oL ks
noncomputable def oL : List Tr → Bool
  | [] => true
  | t :: ts => oT t && oL ts
end
theorem oL_drop {ks : List Tr} {j : Nat} {u : Tr} (h : ks[j]? = some u) : oL (ks.drop j) = (oT u && oL (ks.drop (j + 1))) := by
  have e : ks.drop j = u :: ks.drop (j + 1) := by
    rw [← List.getElem_cons_drop (h := (List.getElem?_eq_some_iff.1 h).1)]
    rw [(List.getElem?_eq_some_iff.1 h).2]
  rw [e, oL]
set_option maxHeartbeats 4000000 in
set_option maxRecDepth 20000 in
theorem once_one {w : World} (d : Nd) (ks : List Tr) {ao kp : Option Addr} (an ac kn kc : Nat) (ha : AtRow w ao d.al) (han : d.al.length = an) (han2 : an ≤ 4000) (hkn : ks.length = kn) (hl : kn ≤ 140737488351232)
    (hk : ∀ (j : Nat) u, ks[j]? = some u → KidAt w kp j u fun w' a => Calls Try.prog 24 #[.agg a] w' fun e w'' => e = .returned (.bool (oT u)) ∧ Below w'.heap.size w' w'') :
    Calls Try.prog 24 #[.agg #[iv d.id, iv d.kind, iv d.space, .string d.name, .string d.text, .slice ao an ac, iv d.sf, iv d.st, iv d.ef, iv d.et, .slice kp kn kc]] w fun e w' => e = .returned (.bool (oT (.mk d ks))) ∧ Below w.heap.size w w' := by
  have b0 : Below w.heap.size w (w.alloc (.cells #[iv d.id, iv d.kind, iv d.space, .string d.name, .string d.text, .slice ao an ac, iv d.sf, iv d.st, iv d.ef, iv d.et, .slice kp kn kc] 27)) := (Below.refl _ _).alloc (Nat.le_refl _) _
  have n0 := heap_alloc_new w (.cells #[iv d.id, iv d.kind, iv d.space, .string d.name, .string d.text, .slice ao an ac, iv d.sf, iv d.st, iv d.ef, iv d.et, .slice kp kn kc] 27)
  obtain ⟨w0, hw0⟩ : ∃ w0, (w.alloc (.cells #[iv d.id, iv d.kind, iv d.space, .string d.name, .string d.text, .slice ao an ac, iv d.sf, iv d.st, iv d.ef, iv d.et, .slice kp kn kc] 27)) = w0 := ⟨_, rfl⟩
  have HW0 : Hid ((w.alloc (.cells #[iv d.id, iv d.kind, iv d.space, .string d.name, .string d.text, .slice ao an ac, iv d.sf, iv d.st, iv d.ef, iv d.et, .slice kp kn kc] 27)) = w0) := hw0
  rw [hw0] at b0 n0
  clear hw0
  obtain ⟨z, hz⟩ : ∃ z, eqA (missP [] d.al) d.al = z := ⟨_, rfl⟩
  have hlt : w.heap.size < w0.heap.size := (Array.getElem?_eq_some_iff.1 n0).1
  have p5 : w0.cell? ⟨w.heap.size, 5, none⟩ = some (.slice ao an ac) := by simp [World.cell?, n0]
  have p10 : w0.cell? ⟨w.heap.size, 10, none⟩ = some (.slice kp kn kc) := by simp [World.cell?, n0]
  have HC : Hid (∀ wd, Below w0.heap.size w0 wd → Calls Try.prog 42 #[.slice none 0 0, .slice ao an ac] wd fun e w1 => ∃ co k c, e = .returned (.slice co k c) ∧ w1.cell? ⟨w.heap.size, 5, none⟩ = some (.slice ao an ac) ∧
      (∀ we, Below w1.heap.size w1 we → Calls Try.prog 28 #[.slice co k c, .slice ao an ac] we fun e w2 => e = .returned (.bool z) ∧ w2.cell? ⟨w.heap.size, 10, none⟩ = some (.slice kp kn kc) ∧ Hid (Below w.heap.size w w2 ∧ w.heap.size < w2.heap.size))) := by
    intro wd bd
    have bw := b0.trans (bd.mono b0.size)
    refine (rmissing_any (L := []) (M := d.al) 0 an 0 ac (AtRow.nil _ _) (ha.old bw) rfl han (by omega) (Nat.le_refl _) (Nat.zero_le _)).mono ?_
    rintro e w1 ⟨co, k, c, rfl, q1, q2, q3, q4, q5⟩
    have b1 := bd.trans (q5.mono bd.size)
    refine ⟨co, k, c, rfl, (b1.cell (p := ⟨w.heap.size, 5, none⟩) hlt).trans p5, fun we be => ?_⟩
    have b2 := b1.trans (be.mono b1.size)
    refine (eq_ats k an c ac (q2.old be) (ha.old (b0.trans (b2.mono b0.size))) q1 han ?_).mono ?_
    · have := q3
      unfold maxLen at q4
      omega
    · rintro e w2 ⟨rfl, b3⟩
      have b4 := b2.trans (b3.mono b2.size)
      exact ⟨by rw [hz], (b4.cell (p := ⟨w.heap.size, 10, none⟩) hlt).trans p10, b0.trans (b4.mono b0.size), Nat.lt_of_lt_of_le hlt b4.size⟩
  have HK : Hid ((∀ (j : Nat) u, ks[j]? = some u → KidAt w kp j u fun w' a => Calls Try.prog 24 #[.agg a] w' fun e w'' => e = .returned (.bool (oT u)) ∧ Below w'.heap.size w' w'') ∧ ks.length = kn) := ⟨hk, hkn⟩
  have HV : Hid (oT (.mk d ks) = (z && oL ks)) := by
    show oT (.mk d ks) = _
    rw [oT, hz]
  clear b0 n0 hk hkn ha han p10 hlt hz
  go_enter Try.func24, Try.ntmps24
  go_upto_region 1 with fail
  rw [HW0.out]
  clear HW0
  go_region_law (first
      | (refine step_call2 42 _ _ _ rfl rfl enters42 _ _ (by simp [Act.eval]) (by simp [Act.eval]) (HC.out _ ((Below.refl _ _).drew)) ?_; rintro e w1 ⟨co, k, c, rfl, p6, HD⟩; refine ⟨_, rfl, ?_⟩)
      | (refine step_call2 28 _ _ _ rfl rfl enters28 _ _ (by simp [Act.eval]) (by simp [Act.eval]) (HD _ (Below.refl _ _)) ?_; rintro e w2 ⟨rfl, c8, HB⟩; refine ⟨_, rfl, ?_⟩))
  all_goals
    clear HC HD p5 p6
    cases z with
    | false =>
      have HN : Hid (oT (.mk d ks) = false) := HV.out
      go_wp2_with fail
      go_ret
      exact ⟨by rw [HN.out]; rfl, HB.out.1⟩
    | true =>
      have HE : Hid (oT (.mk d ks) = oL ks) := HV.out
      clear HV
      go_wp2_with fail
      go_loopg [3] kn (fun g2 jv wr => ∃ (j : Nat), jv = .int .i64 j ∧ j + g2 = kn ∧ Hid (Below w2.heap.size w2 wr ∧ oT (.mk d ks) = oL (ks.drop j)))
      case atStart => exact ⟨0, rfl, by omega, Below.refl _ _, HE.out⟩
      case round =>
        obtain ⟨j, rfl, hjg, HI⟩ := hrel
        have c10 : wr.cell? ⟨w.heap.size, 10, none⟩ = some (.slice kp kn kc) := below_at HI.out.1 HB.out.2 c8
        cases gk with
        | zero =>
          obtain rfl : j = kn := by omega
          have hg0 : decide ((j : Int) < (j : Int)) = false := decide_eq_false (by omega)
          have HN : Hid (oT (.mk d ks) = true) := by
            show oT (.mk d ks) = true
            rw [HI.out.2, List.drop_eq_nil_of_le (by rw [HK.out.2]; omega), oL]
          go_wp2_with fail
          go_ret
          exact ⟨by rw [HN.out]; rfl, HB.out.1.trans (HI.out.1.mono HB.out.1.size)⟩
        | succ g =>
          have hjk : j < kn := by omega
          have g2 : decide ((j : Int) < (kn : Int)) = true := decide_eq_true (by omega)
          obtain ⟨u, hu⟩ : ∃ u, ks[j]? = some u := ⟨_, List.getElem?_eq_getElem (by rw [HK.out.2]; exact hjk)⟩
          obtain ⟨kb, ko, av, kv, rfl, hkb, hc, hcall⟩ := HK.out.1 j u hu
          have bw : Below w.heap.size w wr := HB.out.1.trans (HI.out.1.mono HB.out.1.size)
          have hc' : CellsAt wr kb (ko + j * 11) (u.d.cs av kv) := hc.mv (bw.block kb hkb)
          have k0 : wr.cell? ⟨kb, ko + j * 11, none⟩ = some (iv u.d.id) := hc' 0 _ rfl
          have k1 : wr.cell? ⟨kb, ko + j * 11 + 1, none⟩ = some (iv u.d.kind) := hc' 1 _ rfl
          have k2 : wr.cell? ⟨kb, ko + j * 11 + 2, none⟩ = some (iv u.d.space) := hc' 2 _ rfl
          have k3 : wr.cell? ⟨kb, ko + j * 11 + 3, none⟩ = some (.string u.d.name) := hc' 3 _ rfl
          have k4 : wr.cell? ⟨kb, ko + j * 11 + 4, none⟩ = some (.string u.d.text) := hc' 4 _ rfl
          have k5 : wr.cell? ⟨kb, ko + j * 11 + 5, none⟩ = some (av) := hc' 5 _ rfl
          have k6 : wr.cell? ⟨kb, ko + j * 11 + 6, none⟩ = some (iv u.d.sf) := hc' 6 _ rfl
          have k7 : wr.cell? ⟨kb, ko + j * 11 + 7, none⟩ = some (iv u.d.st) := hc' 7 _ rfl
          have k8 : wr.cell? ⟨kb, ko + j * 11 + 8, none⟩ = some (iv u.d.ef) := hc' 8 _ rfl
          have k9 : wr.cell? ⟨kb, ko + j * 11 + 9, none⟩ = some (iv u.d.et) := hc' 9 _ rfl
          have k10 : wr.cell? ⟨kb, ko + j * 11 + 10, none⟩ = some (kv) := hc' 10 _ rfl
          have kd := hcall wr bw
          have hd := oL_drop hu
          obtain ⟨x, hx⟩ : ∃ x, oT u = x := ⟨_, rfl⟩
          rw [hx] at kd hd
          have HD : Hid (oT (.mk d ks) = (x && oL (ks.drop (j + 1))) ∧ Below w.heap.size w wr) := ⟨HI.out.2.trans hd, bw⟩
          clear hc hc' hcall bw hu hd hx
          go_wp2_with fail
          refine kd.mono ?_
          rintro e w5 ⟨rfl, b5⟩
          have HB5 : Hid (Below w2.heap.size w2 w5 ∧ Below w.heap.size w w5) := ⟨HI.out.1.trans (b5.mono HI.out.1.size), HD.out.2.trans (b5.mono HD.out.2.size)⟩
          clear b5 kd
          cases x with
          | false =>
            go_wp2_with fail
            go_ret
            exact ⟨by rw [HD.out.1]; rfl, HB5.out.2⟩
          | true =>
            go_wp2_with fail
            go_roundg g
            case measure => omega
            case rel => exact ⟨j + 1, by go_num, by omega, HB5.out.1, by rw [HD.out.1, Bool.true_and]⟩
/-- At most 4000 attributes at each node of a tree. -/
inductive Few4 : Tr → Prop
  | mk {d : Nd} {ks : List Tr} (ha : d.al.length ≤ 4000) (hk : ∀ t ∈ ks, Few4 t) : Few4 (.mk d ks)
theorem Few4.few {t : Tr} (h : Few4 t) : Few t := by
  induction h with
  | mk ha _ ih => exact .mk (by omega) ih
mutual
theorem few_of : ∀ (t : Tr) (deep left : Int), 0 ≤ left → left ≤ 3000 → 0 ≤ wT t deep left → Few4 t
  | .mk d ks, deep, left, h0, h1, h => by
    rw [wT] at h
    split at h
    · omega
    · have hw : (d.al.length : Int) ≤ ownW d ks.length := by unfold ownW; omega
      have hle := wL_le ks (deep - 1) (left - ownW d ks.length)
      exact .mk (by omega) (few_l ks (deep - 1) (left - ownW d ks.length) (by omega) h)
theorem few_l : ∀ (l : List Tr) (deep left : Int), left ≤ 3000 → 0 ≤ wL l deep left → ∀ t ∈ l, Few4 t
  | [], _, _, _, _ => fun t ht => by simp at ht
  | a :: l, deep, left, h1, h => by
    rw [wL] at h
    split at h
    · rename_i hl
      have ht : 0 ≤ wT a deep left := by
        refine Classical.byContradiction fun hn => ?_
        rw [wL_neg _ _ _ (by omega)] at h
        omega
      have hle := wT_le a deep left (by omega)
      intro t hm
      rcases List.mem_cons.1 hm with hq | hm
      · rw [hq]
        exact few_of a deep left hl h1 ht
      · exact few_l l deep _ (by omega) h t hm
    · omega
end
theorem small_few4 {t : Tr} (h : 0 ≤ wT t 200 3000) : Few4 t := few_of t 200 3000 (by omega) (by omega) h
theorem once_any {w : World} {t : Tr} {av kv : Value} (h : TrV w t av kv) : ∀ (_ : Ok t) (_ : Few4 t) (w' : World), Below w.heap.size w w' →
    Calls Try.prog 24 #[.agg #[iv t.d.id, iv t.d.kind, iv t.d.space, .string t.d.name, .string t.d.text, av, iv t.d.sf, iv t.d.st, iv t.d.ef, iv t.d.et, kv]] w' fun e w'' => e = .returned (.bool (oT t)) ∧ Below w'.heap.size w' w'' := by
  induction h with
  | mk ha hp hc hk ih =>
    rename_i d ks ac kc kb ko ao kp avs kvs
    intro hok hf w' b
    cases hok with
    | mk o1 o2 o3 o4 =>
      cases hf with
      | mk f1 f2 =>
        refine once_one d ks _ ac _ kc (ha.old b) rfl f1 rfl o3 fun j u hu => ?_
        have hne : ks ≠ [] := fun e => by rw [e] at hu; simp at hu
        obtain ⟨q1, q2⟩ := hc j u hu
        refine ⟨kb, ko, avs j, kvs j, hp hne, Nat.lt_of_lt_of_le q1 b.size, q2.mv (b.block kb q1), fun w2 b2 => ?_⟩
        exact ih j u hu (o4 u (List.mem_of_getElem? hu)) (f2 u (List.mem_of_getElem? hu)) w2 (b.trans (b2.mono b.size))
end Go.Proofs.Ytdpibnmbgjhohaa
