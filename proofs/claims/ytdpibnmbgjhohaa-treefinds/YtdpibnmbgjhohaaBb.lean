/- The program's iterator over nodes. -/
import Derived.Test.YtdpibnmbgjhohaaBa
namespace Go.Proofs.Ytdpibnmbgjhohaa
open Go.RowKit
attribute [local go_sem] Oper.semAt_some

abbrev Sl := Option Addr × Nat × Nat
def slv (s : Sl) : Value := .slice s.1 s.2.1 s.2.2
def encN : List Sl → Option (Array Value)
  | (some a, _ + 1, _) :: st => some #[.pointer (some a), iv ((st.length : Int) + 1)]
  | _ => none
def idleN : List Sl → Option (List Sl)
  | (_, 0, _) :: st => some st
  | _ => none
def nx (a : Addr) (c : Nat) : Addr := if c = 1 then a else ⟨a.block, a.off + 11, none⟩
def advN (s : List Sl) (W : World) (s' : List Sl) : Prop :=
  ∃ a n c st ks, s = (some a, n + 1, c) :: st ∧ W.cell? ⟨a.block, a.off + 10, none⟩ = some (slv ks) ∧ s' = ks :: (some (nx a c), n, c - 1) :: st
def fitN (s : List Sl) : Prop := s.length ≤ 1000000 ∧ ∀ x ∈ s, x.2.1 ≤ x.2.2 ∧ x.2.2 ≤ maxLen ∧ (0 < x.2.1 → ∃ b off, x.1 = some ⟨b, off, none⟩)
theorem Rw.take {S : Nat → Prop} {w : World} {e n g cap : Nat} {xs : List Value} (h : Rw S w e 1 (.slice (some ⟨g, 0, none⟩) n cap) n xs) (m : Nat) (hm : m ≤ n) : Rw S w e 1 (.slice (some ⟨g, 0, none⟩) m cap) m (xs.take m) := by
  have h1 := h.own.1
  rcases h.own.2 with ⟨hn, _⟩ | ⟨g', cap', cur, e1, hb, hg, h2, h3, h4, h5⟩
  · cases hn
  · cases e1
    refine ⟨⟨by simp; omega, .inr ⟨g, cap, cur, rfl, hb, hg, by omega, h3, h4, ?_⟩⟩, fun k hk => h.out k (by simpa [Value.ownBlock] using hk)⟩
    rw [← h5, List.take_take]
    congr 1
    omega
theorem rev_set (x y : Sl) (st : List Sl) : ((x :: st).reverse.map slv).set st.length (slv y) = (y :: st).reverse.map slv := by
  simp [List.set_append_right]
theorem rev_take (x : Sl) (st : List Sl) : ((x :: st).reverse.map slv).take st.length = st.reverse.map slv := by
  simp
theorem rev_at (x : Sl) (st : List Sl) : ((x :: st).reverse.map slv)[st.length]? = some (slv x) := by
  simp
theorem info25 : (Try.prog.info? 25).map (fun i => (i.zero, i.size, i.bytes)) = some (some (.slice none 0 0), 1, 24) := by kernel_rfl

/-- 'append' where its run is known by an equation, inside a fence. -/
theorem list_append_eqIn {F : Fence} {n : Nat} {P : Program} {ops : Array Oper} {rest : List Oper} {o : Oper} {a : Act} {w : World} {Q : Exit → Act → World → Prop}
    (hg : o.guard = none) (d x : Operand) (dT sT : TypeId) (hop : o.op = Op.call { callee := Callee.builtin Builtin.append, args := #[d, x], argTypes := #[dT, sT] })
    (v u : Value) (hd : a.eval d = v) (hx : a.eval x = u) {v' : Value} {w' : World} (hr : (Builtin.append_ #[dT, sT] o.type #[v, u]).run P w = .ok v' w') (hK : wpListIn F n P ops Q rest (a.put o.dst v') w') :
    wpListIn F n P ops Q (o :: rest) a w := by
  refine wpListIn_plain hg fun K hK2 => ?_
  unfold Oper.wpIn
  refine ⟨?_, ?_⟩
  · simp [Oper.about, hop, resolve, Target.leads, Sem.run_pure]
  · rw [Oper.semAt_plain F _ _ (by rw [hop]; intro c hc; cases hc)]
    simp [execOp, hop, resolve, invoke, builtin, hd, hx, hr, Result.andThen]
    exact hK2 _ _ hK

set_option maxRecDepth 20000 in
set_option maxHeartbeats 2000000 in
theorem nodes_seq (n bx B0 : Nat) (s0 : Sl) (w0 : World) (hbx : bx < B0) (hc : w0.cell? ⟨bx, 0, none⟩ = some (slv s0)) :
    Seq n 25 48 #[.pointer (some ⟨bx, 0, none⟩)] B0 encN idleN advN fitN (fun s => s = []) (fun _ _ s => s = [s0]) w0 := by
  intro l J Jx W g0 hb hB hJ hidle hfin hfit hY h0
  have hc0 : W.cell? ⟨bx, 0, none⟩ = some (slv s0) := (hb.cell (p := ⟨bx, 0, none⟩) hbx).trans hc
  obtain ⟨a0, n0, c0⟩ := s0
  simp only [slv] at hc0
  show CallsIn Fence.wide n Try.prog 48 #[.func (.yield l) #[] #[], .pointer (some ⟨bx, 0, none⟩)] W _
  have HS : Hid (∀ g s W1 W2, J g s W1 → Off 25 W.heap.size W1 W2 → J g s W2) := hJ
  have HY : Hid (∀ g s a W1, encN s = some a → J (g + 1) s W1 → YieldAt Fence.wide (n - 1) Try.prog l a W1 fun e W2 =>
      (e = .returned (.bool true) ∧ Kp 25 W1 W2 ∧ ∃ s', advN s W2 s' ∧ J g s' W2) ∨ (e = .returned (.bool false) ∧ Jx W2)) := hY
  have HI : Hid ((∀ g s s' W1, idleN s = some s' → J (g + 1) s W1 → J g s' W1) ∧ (∀ s W1, J 0 s W1 → s = []) ∧ (∀ g s W1, J g s W1 → fitN s)) := ⟨hidle, hfin, hfit⟩
  have H0 : Hid (J g0 [(a0, n0, c0)] (W.alloc (.cells #[.slice a0 n0 c0] 25))) := h0 _ _ (Off.alloc 25 W _ (Nat.le_refl _)) rfl
  have R0 : Hid (Rw (fun k => k < W.heap.size) (W.alloc (.cells #[.slice a0 n0 c0] 25)) 25 1 (.slice (some ⟨W.heap.size, 0, none⟩) 1 1) 1 ([(a0, n0, c0)].reverse.map slv)) := by
    refine ⟨⟨rfl, .inr ⟨W.heap.size, 1, #[.slice a0 n0 c0], rfl, Nat.zero_le _, heap_alloc_new W _, Nat.le_refl _, by unfold maxLen; omega, rfl, rfl⟩⟩, fun g hg => ?_⟩
    simp [Value.ownBlock] at hg
    subst hg
    exact Nat.lt_irrefl _
  clear hJ hidle hfin hfit hY h0 hb
  refine callsIn_of_wp Try.func48 rfl trivial ?_
  simp only [Try.ntmps48, List.size_toArray, List.length_cons, List.length_nil, Nat.reduceAdd, Nat.reduceSub, Array.replicate_succ, Array.replicate_zero, List.push_toArray, List.append_toArray, List.nil_append, List.cons_append]
  gi_wp2
  gi_loopg [3] g0 (fun g lv wr => ∃ st k cap q, lv = .slice (some ⟨q, 0, none⟩) k cap ∧ st.length = k ∧ k ≤ 1000000 ∧ k ≤ cap ∧ Hid (J g st wr ∧ Rw (fun k => k < W.heap.size) wr 25 1 (.slice (some ⟨q, 0, none⟩) k cap) k (st.reverse.map slv) ∧ W.heap.size ≤ wr.heap.size))
  case atStart =>
    exact ⟨[(a0, n0, c0)], 1, 1, W.heap.size, rfl, rfl, by omega, by omega, H0.out, R0.out, by simp⟩
  case round =>
    obtain ⟨st, k, cap, q, rfl, hk, hk2, hkc, HR⟩ := hrel
    cases st with
    | nil =>
      simp at hk
      subst hk
      have g1 : decide ((0 : Int) > 0) = false := by decide
      gi_wp2
      go_end0
      exact ⟨⟨_, rfl⟩, .inl ⟨_, [], rfl, HR.out.1⟩⟩
    | cons x st =>
      obtain ⟨ao, xn, xc⟩ := x
      obtain ⟨kk, hkk⟩ : ∃ kk, st.length = kk := ⟨_, rfl⟩
      have hk1 : k = kk + 1 := by simp at hk; omega
      have HF : Hid (fitN ((ao, xn, xc) :: st) ∧ st.length = kk ∧ k = kk + 1) := ⟨HI.out.2.2 _ _ _ HR.out.1, hkk, hk1⟩
      have hx1 := HF.out.1.2 (ao, xn, xc) (by simp)
      simp only [] at hx1
      have hx2 : xn ≤ xc := hx1.1
      have hx3 : xc ≤ maxLen := hx1.2.1
      have pk : wr.cell? ⟨q, kk, none⟩ = some (.slice ao xn xc) := HR.out.2.1.cell (by rw [← hkk]; exact rev_at _ _)
      have pf : wr.frozen? ⟨q, kk, none⟩ = false := World.ownsRow.frozenAt HR.out.2.1.own kk
      have g1 : decide ((k : Int) > 0) = true := decide_eq_true (by omega)
      have g1' : decide (0 < (k : Int)) = true := decide_eq_true (by omega)
      have wk : IntKind.i64.wrap ((k : Int) - 1) = (kk : Int) := by rw [IntKind.wrap_i64]; omega
      have ik : (kk : Int) < (k : Int) := by omega
      have ik' : kk < k := by omega
      have ik2 : kk ≤ cap := by omega
      have ik3 : 0 < k := by omega
      cases gk with
      | zero => exact absurd (HI.out.2.1 _ _ HR.out.1) (by simp)
      | succ g =>
        clear hk hk1 hkk
        gi_upto_region 4 with fail
        cases xn with
        | zero =>
          have g4 : ((0 : Int) == 0) = true := by decide
          have HN : Hid (J g st wr ∧ Rw (fun k => k < W.heap.size) wr 25 1 (.slice (some ⟨q, 0, none⟩) kk cap) kk (st.reverse.map slv)) := by
            refine ⟨HI.out.1 _ _ _ _ rfl HR.out.1, ?_⟩
            have := HR.out.2.1.take kk (by omega)
            rw [← HF.out.2.1, rev_take] at this
            rw [← HF.out.2.1]
            exact this
          gi_wp2
          gi_roundg g
          case measure => omega
          case rel => exact ⟨st, kk, cap, q, rfl, HF.out.2.1, by omega, ik2, HN.out.1, HN.out.2, HR.out.2.2⟩
        | succ m =>
          obtain ⟨b, off, rfl⟩ := hx1.2.2 (by omega)
          have g4 : (((m + 1 : Nat) : Int) == 0) = false := by rw [beq_eq_false_iff_ne]; omega
          gi_upto_region 7 with fail
          obtain ⟨ea, hea⟩ : ∃ ea, (if xc = 1 then some (⟨b, off, none⟩ : Addr) else some ⟨b, off + 11, none⟩) = ea := ⟨_, rfl⟩
          have HE : Hid (ea = some (nx ⟨b, off, none⟩ xc)) := by
            show ea = _
            rw [← hea, nx]
            split <;> rfl
          rw [hea]
          have hq1 : W.heap.size ≤ q ∧ ∃ cur, wr.heap[q]? = some (.cells cur 25 (0, 0)) := by
            refine ⟨?_, (own_blk HR.out.2.1.own rfl).2⟩
            have := HR.out.2.1.out q rfl
            omega
          obtain ⟨hqW, cur, hcur⟩ := hq1
          have hr1 := (HR.out.2.1.set kk (.slice ea m (xc - 1))).1
          have ho1 : Off 25 W.heap.size wr (wr.setCell ⟨q, kk, none⟩ (.slice ea m (xc - 1))) := Off.grown (grown_set wr ⟨q, kk, none⟩ _) HR.out.2.2 (fun i e => by cases e; exact ⟨hqW, _, hcur, rfl⟩)
          rw [show (Value.slice ea m (xc - 1)) = slv (some (nx ⟨b, off, none⟩ xc), m, xc - 1) by rw [HE.out]; rfl, ← HF.out.2.1, rev_set] at hr1
          rw [show slv (some (nx ⟨b, off, none⟩ xc), m, xc - 1) = (Value.slice ea m (xc - 1)) by rw [HE.out]; rfl, HF.out.2.1] at hr1
          have hj1 := HS.out _ _ _ _ HR.out.1 ho1
          have hs1 : W.heap.size ≤ (wr.setCell ⟨q, kk, none⟩ (.slice ea m (xc - 1))).heap.size := Nat.le_trans HR.out.2.2 ho1.size
          revert hr1 ho1 hj1 hs1
          generalize wr.setCell ⟨q, kk, none⟩ (.slice ea m (xc - 1)) = V
          intro hr1 ho1 hj1 hs1
          have hy0 := HY.out g _ _ V (by rw [encN]) hj1
          rw [show ((st.length : Int) + 1) = (k : Int) by rw [HF.out.2.1, HF.out.2.2]; rfl] at hy0
          have HV : Hid (Rw (fun k => k < W.heap.size) V 25 1 (.slice (some ⟨q, 0, none⟩) k cap) k (((some (nx ⟨b, off, none⟩ xc), m, xc - 1) :: st).reverse.map slv) ∧ W.heap.size ≤ V.heap.size) := ⟨hr1, hs1⟩
          clear hr1 ho1 hj1 hs1 hcur hqW pk pf hea hx1
          obtain ⟨fn, tmps, assign, body, hy, hR⟩ := hy0
          gi_wp2
          refine ⟨fun h => by simp [Fence.wide] at h, hR.mono ?_⟩
          rintro e V2 (⟨rfl, hkp, s', ⟨a, n', c', st', ks, e1, hcell, rfl⟩, hj2⟩ | ⟨rfl, hjx⟩)
          · simp only [List.cons.injEq, Prod.mk.injEq, Option.some.injEq, Nat.add_right_cancel_iff] at e1
            obtain ⟨⟨rfl, rfl, rfl⟩, rfl⟩ := e1
            obtain ⟨ka, kn, kc⟩ := ks
            have hq2 : W.heap.size ≤ q ∧ ∃ cur, V.heap[q]? = some (.cells cur 25 (0, 0)) := by
              refine ⟨?_, (own_blk HV.out.1.own rfl).2⟩
              have := HV.out.1.out q rfl
              omega
            obtain ⟨hqW, cur, hcur⟩ := hq2
            have hr2 := HV.out.1.mv (w' := V2) fun i hi => by
              simp [Value.ownBlock] at hi
              subst hi
              rw [hcur]
              exact hkp.same _ _ hcur rfl
            have hs2 : W.heap.size ≤ V2.heap.size := Nat.le_trans HV.out.2 hkp.size
            have hr3 := hr2.old (w' := V2.alloc (.cells #[.slice ka kn kc] 25)) ((Below.refl _ _).alloc (Nat.le_refl _) _)
            have hn3 : (V2.alloc (.cells #[.slice ka kn kc] 25)).cell? ⟨V2.heap.size, 0 + 0, none⟩ = some (.slice ka kn kc) := by
              have := heap_alloc_new V2 (.cells #[.slice ka kn kc] 25)
              revert this
              generalize V2.alloc (.cells #[.slice ka kn kc] 25) = V3
              intro h
              simp [World.cell?, h]
            obtain ⟨v4, V4, q1, q2, q3, q4⟩ := Rw.app (t := 61) (e := 25) Try.underlying61 info25 rfl (by decide) (by decide) hr3 (fun i hi => by simp; omega) V2.heap.size 0 1 1 [.slice ka kn kc] rfl
              (fun j u hj => by
                cases j with
                | zero => simp at hj; subst hj; exact hn3
                | succ j => simp at hj)
              (fun u hu => by simp at hu; subst hu; rfl) (by omega)
            have o3 : Off 25 W.heap.size V2 (V2.alloc (.cells #[.slice ka kn kc] 25)) := Off.alloc 25 _ _ hs2
            have hcur2 : V2.heap[q]? = some (.cells cur 25 (0, 0)) := hkp.same _ _ hcur rfl
            have o4 : Off 25 W.heap.size (V2.alloc (.cells #[.slice ka kn kc] 25)) V4 := Off.grown q3 (by simp; omega) (fun i e => by
              simp [Value.ownBlock] at e
              subst e
              exact ⟨hqW, _, (Below.heap_alloc _ _ _ (Array.getElem?_eq_some_iff.1 hcur2).1).trans hcur2, rfl⟩)
            have hj4 := HS.out _ _ _ _ hj2 (o3.trans o4)
            have hf4 := (HI.out.2.2 _ _ _ hj4).1
            simp only [List.length_cons] at hf4
            obtain ⟨q', cap', cur', rfl, _, _, hg', hc1, hc2, _, _⟩ := q2.form (by omega)
            have HN : Hid (J g ((ka, kn, kc) :: (some (nx ⟨b, off, none⟩ xc), m, xc - 1) :: st) V4 ∧ Rw (fun k => k < W.heap.size) V4 25 1 (.slice (some ⟨q', 0, none⟩) (k + 1) cap') (k + 1) (((ka, kn, kc) :: (some (nx ⟨b, off, none⟩ xc), m, xc - 1) :: st).reverse.map slv) ∧ W.heap.size ≤ V4.heap.size) := by
              refine ⟨hj4, ?_, Nat.le_trans hs2 (o3.trans o4).size⟩
              have e : ((ka, kn, kc) :: (some (nx ⟨b, off, none⟩ xc), m, xc - 1) :: st).reverse.map slv = ((some (nx ⟨b, off, none⟩ xc), m, xc - 1) :: st).reverse.map slv ++ [Value.slice ka kn kc] := by
                rw [List.reverse_cons, List.map_append]; rfl
              rw [e]
              exact q2
            have kl : k + 1 ≤ 1000000 := by have := HF.out.2.1; have := HF.out.2.2; omega
            simp only [slv] at hcell
            clear hj4 hf4 q2 q3 q4 o3 o4 hr3 hn3 hr2 hs2 hcur2 hcur hqW hj2 hkp hR hy hg'
            gi_wp2_with (gi_at_builtin; refine list_append_eqIn rfl _ _ 61 61 rfl _ _ rfl rfl q1 ?_)
            gi_roundg g
            case measure => omega
            case rel => exact ⟨_, k + 1, cap', q', rfl, by simp only [List.length_cons]; have := HF.out.2.1; have := HF.out.2.2; omega, kl, hc1, HN.out.1, HN.out.2.1, HN.out.2.2⟩
          · gi_wp2
            refine bodyPost_ret (results_none rfl _ _ _) rfl ?_
            exact ⟨⟨_, rfl⟩, .inr hjx⟩
end Go.Proofs.Ytdpibnmbgjhohaa
