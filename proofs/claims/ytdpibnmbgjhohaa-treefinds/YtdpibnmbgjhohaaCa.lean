/- The program's iterator over pairs of nodes. -/
import Derived.Test.YtdpibnmbgjhohaaBe
import Derived.Sort.QuietIn
import Derived.Stop.RegionWithIn
namespace Go.Proofs.Ytdpibnmbgjhohaa
open Go.RowKit
attribute [local go_sem] Oper.semAt_some

abbrev Sp := Sl × Sl
def pcs (s : Sp) : List Value := [slv s.1, slv s.2]
def encP : List Sp → Option (Array Value)
  | ((some a, _ + 1, _), (some b, _ + 1, _)) :: _ => some #[.pointer (some a), .pointer (some b)]
  | _ => none
def idleP : List Sp → Option (List Sp)
  | ((_, 0, _), _) :: st => some st
  | (_, (_, 0, _)) :: st => some st
  | _ => none
def advP (s : List Sp) (W : World) (s' : List Sp) : Prop :=
  ∃ a n c b m k st ks ls, s = ((some a, n + 1, c), (some b, m + 1, k)) :: st ∧ W.cell? ⟨a.block, a.off + 10, none⟩ = some (slv ks) ∧ W.cell? ⟨b.block, b.off + 10, none⟩ = some (slv ls) ∧ s' = (ks, ls) :: ((some (nx a c), n, c - 1), (some (nx b k), m, k - 1)) :: st
def okS (x : Sl) : Prop := x.2.1 ≤ x.2.2 ∧ x.2.2 ≤ maxLen ∧ (0 < x.2.1 → ∃ b off, x.1 = some ⟨b, off, none⟩)
def fitP (s : List Sp) : Prop := s.length ≤ 1000000 ∧ ∀ x ∈ s, okS x.1 ∧ okS x.2
theorem pcs_len (x : Sp) : (pcs x).length = 2 := rfl
theorem revp_set (x y : Sp) (st : List Sp) : ∀ u v, (y.1, y.2) = (u, v) → (((x :: st).reverse.flatMap pcs).set (st.length * 2) (slv u)).set (st.length * 2 + 1) (slv v) = (y :: st).reverse.flatMap pcs := by
  rintro u v ⟨⟩
  have hl : (st.reverse.flatMap pcs).length = st.length * 2 := by
    rw [fl_len pcs 2 pcs_len]
    simp
  rw [List.reverse_cons, List.flatMap_append, List.reverse_cons, List.flatMap_append, List.set_append_right _ _ (by omega), List.set_append_right _ _ (by omega)]
  simp [hl, pcs]
theorem revp_take (x : Sp) (st : List Sp) : ((x :: st).reverse.flatMap pcs).take (st.length * 2) = st.reverse.flatMap pcs := by
  have hl : (st.reverse.flatMap pcs).length = st.length * 2 := by
    rw [fl_len pcs 2 pcs_len]
    simp
  rw [List.reverse_cons, List.flatMap_append, ← hl, List.take_left']
  rfl
theorem revp_at (x : Sp) (st : List Sp) (j : Nat) (u : Value) (h : (pcs x)[j]? = some u) : ((x :: st).reverse.flatMap pcs)[st.length * 2 + j]? = some u := by
  have hl : (st.reverse.flatMap pcs).length = st.length * 2 := by
    rw [fl_len pcs 2 pcs_len]
    simp
  rw [List.reverse_cons, List.flatMap_append, List.getElem?_append_right (by omega), hl, Nat.add_sub_cancel_left]
  simpa using h
theorem Rw.taken {S : Nat → Prop} {w : World} {e s n g cap : Nat} {xs : List Value} (h : Rw S w e s (.slice (some ⟨g, 0, none⟩) n cap) n xs) (m : Nat) (hm : m ≤ n) : Rw S w e s (.slice (some ⟨g, 0, none⟩) m cap) m (xs.take (m * s)) := by
  have h1 := h.own.1
  have h9 : m * s ≤ n * s := Nat.mul_le_mul_right s hm
  rcases h.own.2 with ⟨hn, _⟩ | ⟨g', cap', cur, e1, hb, hg, h2, h3, h4, h5⟩
  · cases hn
  · cases e1
    refine ⟨⟨by simp; omega, .inr ⟨g, cap, cur, rfl, hb, hg, by omega, h3, h4, ?_⟩⟩, fun k hk => h.out k (by simpa [Value.ownBlock] using hk)⟩
    rw [← h5, List.take_take]
    congr 1
    omega
theorem info72 : (Try.prog.info? 72).map (fun i => (i.zero, i.size, i.bytes)) = some (some (.agg #[.slice none 0 0, .slice none 0 0]), 2, 48) := by kernel_rfl
theorem Off.drewN (q B : Nat) (W : World) (n : Nat) : Off q B W (W.drewN n) := ⟨rfl, rfl, rfl, Nat.le_refl _, fun _ _ => rfl, fun _ _ h _ => h⟩
/-- What the iterator begins with: each tree in a row of its own. -/
def iniP (a b : List Value) (W W1 : World) (s : List Sp) : Prop :=
  s = [((some ⟨W.heap.size, 0, none⟩, 1, 1), (some ⟨W.heap.size + 1, 0, none⟩, 1, 1))] ∧ W1.heap[W.heap.size]? = some (.cells a.toArray 27 (0, 0)) ∧ W1.heap[W.heap.size + 1]? = some (.cells b.toArray 27 (0, 0))
set_option maxRecDepth 20000 in
set_option maxHeartbeats 4000000 in
theorem pairs_seq (n ba bb B0 : Nat) (d d' : Nd) (ao kp ao' kp' : Option Addr) (an ac kn kc an' ac' kn' kc' : Nat) (w0 : World) (hba : ba < B0) (hbb : bb < B0) (ha : CellsAt w0 ba 0 (d.cs (.slice ao an ac) (.slice kp kn kc))) (hb' : CellsAt w0 bb 0 (d'.cs (.slice ao' an' ac') (.slice kp' kn' kc'))) :
    Seq n 72 58 #[ptr ba, ptr bb] B0 encP idleP advP fitP (fun s => s = []) (iniP (d.cs (.slice ao an ac) (.slice kp kn kc)) (d'.cs (.slice ao' an' ac') (.slice kp' kn' kc'))) w0 := by
  intro l J Jx W g0 hb hB hJ hidle hfin hfit hY h0
  show CallsIn Fence.wide n Try.prog 58 #[.func (.yield l) #[] #[], ptr ba, ptr bb] W _
  have HS : Hid (∀ g s W1 W2, J g s W1 → Off 72 W.heap.size W1 W2 → J g s W2) := hJ
  have HY : Hid (∀ g s a W1, encP s = some a → J (g + 1) s W1 → YieldAt Fence.wide (n - 1) Try.prog l a W1 fun e W2 =>
      (e = .returned (.bool true) ∧ Kp 72 W1 W2 ∧ ∃ s', advP s W2 s' ∧ J g s' W2) ∨ (e = .returned (.bool false) ∧ Jx W2)) := hY
  have HI : Hid ((∀ g s s' W1, idleP s = some s' → J (g + 1) s W1 → J g s' W1) ∧ (∀ s W1, J 0 s W1 → s = []) ∧ (∀ g s W1, J g s W1 → fitP s)) := ⟨hidle, hfin, hfit⟩
  have H0 : Hid (∀ W1 s, Off 72 W.heap.size W W1 → iniP (d.cs (.slice ao an ac) (.slice kp kn kc)) (d'.cs (.slice ao' an' ac') (.slice kp' kn' kc')) W W1 s → J g0 s W1) := h0
  have k0 : ∀ j u, (d.cs (.slice ao an ac) (.slice kp kn kc))[j]? = some u → W.cell? ⟨ba, j, none⟩ = some u := fun j u hj => (hb.cell (p := ⟨ba, j, none⟩) hba).trans (by simpa using ha j u hj)
  have m0 : ∀ j u, (d'.cs (.slice ao' an' ac') (.slice kp' kn' kc'))[j]? = some u → W.cell? ⟨bb, j, none⟩ = some u := fun j u hj => (hb.cell (p := ⟨bb, j, none⟩) hbb).trans (by simpa using hb' j u hj)
  have x0 : W.cell? ⟨ba, 0, none⟩ = some (iv d.id) := k0 0 _ rfl
  have x1 : W.cell? ⟨ba, 1, none⟩ = some (iv d.kind) := k0 1 _ rfl
  have x2 : W.cell? ⟨ba, 2, none⟩ = some (iv d.space) := k0 2 _ rfl
  have x3 : W.cell? ⟨ba, 3, none⟩ = some (.string d.name) := k0 3 _ rfl
  have x4 : W.cell? ⟨ba, 4, none⟩ = some (.string d.text) := k0 4 _ rfl
  have x5 : W.cell? ⟨ba, 5, none⟩ = some (.slice ao an ac) := k0 5 _ rfl
  have x6 : W.cell? ⟨ba, 6, none⟩ = some (iv d.sf) := k0 6 _ rfl
  have x7 : W.cell? ⟨ba, 7, none⟩ = some (iv d.st) := k0 7 _ rfl
  have x8 : W.cell? ⟨ba, 8, none⟩ = some (iv d.ef) := k0 8 _ rfl
  have x9 : W.cell? ⟨ba, 9, none⟩ = some (iv d.et) := k0 9 _ rfl
  have x10 : W.cell? ⟨ba, 10, none⟩ = some (.slice kp kn kc) := k0 10 _ rfl
  obtain ⟨V1, hV1⟩ : ∃ V, W.alloc (.cells #[iv d.id, iv d.kind, iv d.space, .string d.name, .string d.text, .slice ao an ac, iv d.sf, iv d.st, iv d.ef, iv d.et, .slice kp kn kc] 27) = V := ⟨_, rfl⟩
  obtain ⟨V2, hV2⟩ : ∃ V, V1.alloc (.cells #[iv d'.id, iv d'.kind, iv d'.space, .string d'.name, .string d'.text, .slice ao' an' ac', iv d'.sf, iv d'.st, iv d'.ef, iv d'.et, .slice kp' kn' kc'] 27) = V := ⟨_, rfl⟩
  have z1 : V1.heap.size = W.heap.size + 1 := by rw [← hV1]; simp
  have z2 : V2.heap.size = W.heap.size + 1 + 1 := by rw [← hV2]; simp [z1]
  have o1 : Off 72 W.heap.size W V1 := by rw [← hV1]; exact Off.alloc 72 W _ (Nat.le_refl _)
  have o2 : Off 72 W.heap.size V1 V2 := by rw [← hV2]; exact Off.alloc 72 V1 _ (by omega)
  have n1 : V1.heap[W.heap.size]? = some (.cells #[iv d.id, iv d.kind, iv d.space, .string d.name, .string d.text, .slice ao an ac, iv d.sf, iv d.st, iv d.ef, iv d.et, .slice kp kn kc] 27 (0, 0)) := by rw [← hV1]; exact heap_alloc_new W _
  have n2 : V2.heap[W.heap.size + 1]? = some (.cells #[iv d'.id, iv d'.kind, iv d'.space, .string d'.name, .string d'.text, .slice ao' an' ac', iv d'.sf, iv d'.st, iv d'.ef, iv d'.et, .slice kp' kn' kc'] 27 (0, 0)) := by rw [← hV2, ← z1]; exact heap_alloc_new V1 _
  have n3 : V2.heap[W.heap.size]? = some (.cells #[iv d.id, iv d.kind, iv d.space, .string d.name, .string d.text, .slice ao an ac, iv d.sf, iv d.st, iv d.ef, iv d.et, .slice kp kn kc] 27 (0, 0)) := (o2.oth _ _ n1 rfl)
  obtain ⟨V3, hV3⟩ : ∃ V, V2.alloc (.cells #[.slice (some ⟨W.heap.size, 0, none⟩) 1 1, .slice (some ⟨W.heap.size + 1, 0, none⟩) 1 1] 72) = V := ⟨_, rfl⟩
  have o3 : Off 72 W.heap.size V2 V3 := by rw [← hV3]; exact Off.alloc 72 V2 _ (by omega)
  have n5 : V3.heap[W.heap.size + 1 + 1]? = some (.cells #[.slice (some ⟨W.heap.size, 0, none⟩) 1 1, .slice (some ⟨W.heap.size + 1, 0, none⟩) 1 1] 72 (0, 0)) := by rw [← hV3, ← z2]; exact heap_alloc_new V2 _
  have R0 : Hid (J g0 [((some ⟨W.heap.size, 0, none⟩, 1, 1), (some ⟨W.heap.size + 1, 0, none⟩, 1, 1))] V3 ∧ Rw (fun k => k < W.heap.size) V3 72 2 (.slice (some ⟨W.heap.size + 1 + 1, 0, none⟩) 1 1) 1 ([((some ⟨W.heap.size, 0, none⟩, 1, 1), (some ⟨W.heap.size + 1, 0, none⟩, 1, 1))].reverse.flatMap pcs) ∧ W.heap.size ≤ V3.heap.size) := by
    refine ⟨h0 V3 _ ((o1.trans o2).trans o3) ⟨rfl, o3.oth _ _ n3 rfl, o3.oth _ _ n2 rfl⟩, ⟨⟨rfl, .inr ⟨W.heap.size + 1 + 1, 1, _, rfl, Nat.zero_le _, n5, Nat.le_refl _, by unfold maxLen; omega, rfl, rfl⟩⟩, fun g hg => ?_⟩, by have := o1.size; have := o2.size; have := o3.size; omega⟩
    simp [Value.ownBlock] at hg
    omega
  have y0 : V1.cell? ⟨bb, 0, none⟩ = some (iv d'.id) := (o1.below.cell (p := ⟨bb, 0, none⟩) (Nat.lt_of_lt_of_le hbb hB)).trans (m0 0 _ rfl)
  have y1 : V1.cell? ⟨bb, 1, none⟩ = some (iv d'.kind) := (o1.below.cell (p := ⟨bb, 1, none⟩) (Nat.lt_of_lt_of_le hbb hB)).trans (m0 1 _ rfl)
  have y2 : V1.cell? ⟨bb, 2, none⟩ = some (iv d'.space) := (o1.below.cell (p := ⟨bb, 2, none⟩) (Nat.lt_of_lt_of_le hbb hB)).trans (m0 2 _ rfl)
  have y3 : V1.cell? ⟨bb, 3, none⟩ = some (.string d'.name) := (o1.below.cell (p := ⟨bb, 3, none⟩) (Nat.lt_of_lt_of_le hbb hB)).trans (m0 3 _ rfl)
  have y4 : V1.cell? ⟨bb, 4, none⟩ = some (.string d'.text) := (o1.below.cell (p := ⟨bb, 4, none⟩) (Nat.lt_of_lt_of_le hbb hB)).trans (m0 4 _ rfl)
  have y5 : V1.cell? ⟨bb, 5, none⟩ = some ((.slice ao' an' ac')) := (o1.below.cell (p := ⟨bb, 5, none⟩) (Nat.lt_of_lt_of_le hbb hB)).trans (m0 5 _ rfl)
  have y6 : V1.cell? ⟨bb, 6, none⟩ = some (iv d'.sf) := (o1.below.cell (p := ⟨bb, 6, none⟩) (Nat.lt_of_lt_of_le hbb hB)).trans (m0 6 _ rfl)
  have y7 : V1.cell? ⟨bb, 7, none⟩ = some (iv d'.st) := (o1.below.cell (p := ⟨bb, 7, none⟩) (Nat.lt_of_lt_of_le hbb hB)).trans (m0 7 _ rfl)
  have y8 : V1.cell? ⟨bb, 8, none⟩ = some (iv d'.ef) := (o1.below.cell (p := ⟨bb, 8, none⟩) (Nat.lt_of_lt_of_le hbb hB)).trans (m0 8 _ rfl)
  have y9 : V1.cell? ⟨bb, 9, none⟩ = some (iv d'.et) := (o1.below.cell (p := ⟨bb, 9, none⟩) (Nat.lt_of_lt_of_le hbb hB)).trans (m0 9 _ rfl)
  have y10 : V1.cell? ⟨bb, 10, none⟩ = some ((.slice kp' kn' kc')) := (o1.below.cell (p := ⟨bb, 10, none⟩) (Nat.lt_of_lt_of_le hbb hB)).trans (m0 10 _ rfl)
  clear hJ hidle hfin hfit hY h0 hb ha hb' k0 m0 o1 o2 o3 n1 n2 n3 n5
  refine callsIn_of_wp Try.func58 rfl trivial ?_
  simp only [Try.ntmps58, List.size_toArray, List.length_cons, List.length_nil, Nat.reduceAdd, Nat.reduceSub, Array.replicate_succ, Array.replicate_zero, List.push_toArray, List.append_toArray, List.nil_append, List.cons_append]
  gi_wp2
  clear x0 x1 x2 x3 x4 x5 x6 x7 x8 x9 x10 y0 y1 y2 y3 y4 y5 y6 y7 y8 y9 y10 hV1 hV2 hV3 z1 z2
  gi_loopg [4] g0 (fun g lv wr => ∃ st k cap q, lv = .slice (some ⟨q, 0, none⟩) k cap ∧ st.length = k ∧ k ≤ 1000000 ∧ k ≤ cap ∧ Hid (J g st wr ∧ Rw (fun k => k < W.heap.size) wr 72 2 (.slice (some ⟨q, 0, none⟩) k cap) k (st.reverse.flatMap pcs) ∧ W.heap.size ≤ wr.heap.size))
  case atStart =>
    exact ⟨_, 1, 1, W.heap.size + 1 + 1, rfl, rfl, by omega, by omega, R0.out⟩
  case round =>
    obtain ⟨st, k, cap, q, rfl, hk, hk2, hkc, HR⟩ := hrel
    cases st with
    | nil =>
      simp at hk
      subst hk
      have g1 : decide ((0 : Int) > 0) = false := by decide
      gi_wp2
      go_end0
      exact ⟨⟨_, rfl⟩, .inl ⟨_, [], rfl, HR.out.1⟩⟩
    | cons x st =>
      obtain ⟨⟨ax, xn, xc⟩, ⟨ay, yn, yc⟩⟩ := x
      obtain ⟨kk, hkk⟩ : ∃ kk, st.length = kk := ⟨_, rfl⟩
      have hk1 : k = kk + 1 := by simp at hk; omega
      have HF : Hid (fitP (((ax, xn, xc), (ay, yn, yc)) :: st) ∧ st.length = kk ∧ k = kk + 1) := ⟨HI.out.2.2 _ _ _ HR.out.1, hkk, hk1⟩
      obtain ⟨hx1, hy1⟩ := HF.out.1.2 ((ax, xn, xc), (ay, yn, yc)) (by simp)
      have hx2 : xn ≤ xc := hx1.1
      have hx3 : xc ≤ maxLen := hx1.2.1
      have hy2 : yn ≤ yc := hy1.1
      have hy3 : yc ≤ maxLen := hy1.2.1
      have pk0 : wr.cell? ⟨q, kk * 2, none⟩ = some (.slice ax xn xc) := HR.out.2.1.cell (by rw [← hkk]; exact revp_at _ _ 0 _ rfl)
      have pk1 : wr.cell? ⟨q, kk * 2 + 1, none⟩ = some (.slice ay yn yc) := HR.out.2.1.cell (by rw [← hkk]; exact revp_at _ _ 1 _ rfl)
      have pf0 : wr.frozen? ⟨q, kk * 2, none⟩ = false := World.ownsRow.frozenAt HR.out.2.1.own _
      have pf1 : wr.frozen? ⟨q, kk * 2 + 1, none⟩ = false := World.ownsRow.frozenAt HR.out.2.1.own _
      have g1 : decide ((k : Int) > 0) = true := decide_eq_true (by omega)
      have g1' : decide (0 < (k : Int)) = true := decide_eq_true (by omega)
      have wk : IntKind.i64.wrap ((k : Int) - 1) = (kk : Int) := by rw [IntKind.wrap_i64]; omega
      have ik : (kk : Int) < (k : Int) := by omega
      have ik' : kk < k := by omega
      have ik2 : kk ≤ cap := by omega
      have ik3 : 0 < k := by omega
      cases gk with
      | zero => exact absurd (HI.out.2.1 _ _ HR.out.1) (by simp)
      | succ g =>
        clear hk hk1 hkk
        gi_upto_region 3 with fail
        gi_quiet (fail)
        gi_upto_region 4 with fail
        have HD : Hid (J (g + 1) (((ax, xn, xc), (ay, yn, yc)) :: st) (wr.drewN nq) ∧ Rw (fun k => k < W.heap.size) (wr.drewN nq) 72 2 (.slice (some ⟨q, 0, none⟩) k cap) k ((((ax, xn, xc), (ay, yn, yc)) :: st).reverse.flatMap pcs) ∧ W.heap.size ≤ (wr.drewN nq).heap.size) :=
          ⟨HS.out _ _ _ _ HR.out.1 (Off.drewN _ _ _ _), HR.out.2.1.mv fun _ _ => rfl, HR.out.2.2⟩
        clear HR pk0 pk1 pf0 pf1
        revert HD
        generalize wr.drewN nq = wd
        intro HD
        have pk0 : wd.cell? ⟨q, kk * 2, none⟩ = some (.slice ax xn xc) := HD.out.2.1.cell (by rw [← HF.out.2.1]; exact revp_at _ _ 0 _ rfl)
        have pk1 : wd.cell? ⟨q, kk * 2 + 1, none⟩ = some (.slice ay yn yc) := HD.out.2.1.cell (by rw [← HF.out.2.1]; exact revp_at _ _ 1 _ rfl)
        have pf0 : wd.frozen? ⟨q, kk * 2, none⟩ = false := World.ownsRow.frozenAt HD.out.2.1.own _
        have pf1 : wd.frozen? ⟨q, kk * 2 + 1, none⟩ = false := World.ownsRow.frozenAt HD.out.2.1.own _
        have HP : idleP (((ax, xn, xc), (ay, yn, yc)) :: st) = some st → Hid (J g st wd ∧ Rw (fun k => k < W.heap.size) wd 72 2 (.slice (some ⟨q, 0, none⟩) kk cap) kk (st.reverse.flatMap pcs)) := fun he => by
          refine ⟨HI.out.1 _ _ _ _ he HD.out.1, ?_⟩
          have := HD.out.2.1.taken kk (by omega)
          rw [← HF.out.2.1, revp_take] at this
          rw [← HF.out.2.1]
          exact this
        by_cases hx0 : xn = 0
        · subst hx0
          have g4 : ((0 : Int) == 0) = true := by decide
          have HN := HP rfl
          clear HP
          gi_wp2
          gi_roundg g
          case measure => omega
          case rel => exact ⟨st, kk, cap, q, rfl, HF.out.2.1, by omega, ik2, HN.out.1, HN.out.2, HD.out.2.2⟩
        by_cases hy0 : yn = 0
        · subst hy0
          have g4 : ((xn : Int) == 0) = false := by rw [beq_eq_false_iff_ne]; omega
          have g4' : ¬ ((xn : Int) = 0) := by omega
          have g5 : ((0 : Int) == 0) = true := by decide
          have HN := HP (by cases xn with | zero => exact absurd rfl hx0 | succ m => rfl)
          clear HP
          gi_wp2
          gi_roundg g
          case measure => omega
          case rel => exact ⟨st, kk, cap, q, rfl, HF.out.2.1, by omega, ik2, HN.out.1, HN.out.2, HD.out.2.2⟩
        have g4 : ((xn : Int) == 0) = false := by rw [beq_eq_false_iff_ne]; omega
        have g4' : ¬ ((xn : Int) = 0) := by omega
        have g5 : ((yn : Int) == 0) = false := by rw [beq_eq_false_iff_ne]; omega
        have g5' : ¬ ((yn : Int) = 0) := by omega
        have i1 : (1 : Int) ≤ xn := by omega
        have i2 : (xn : Int) ≤ xc := by omega
        have i3 : (1 : Int) ≤ yn := by omega
        have i4 : (yn : Int) ≤ yc := by omega
        have i5 : 0 < xn := by omega
        have i6 : 0 < yn := by omega
        obtain ⟨b, off, rfl⟩ := hx1.2.2 (Nat.pos_of_ne_zero hx0)
        obtain ⟨b', off', rfl⟩ := hy1.2.2 (Nat.pos_of_ne_zero hy0)
        clear HP hx1 hy1
        gi_upto_region 6 with fail
        gi_region_with fail
        obtain ⟨ea, hea⟩ : ∃ ea, (if xc = 1 then some (⟨b, off, none⟩ : Addr) else some ⟨b, off + 11, none⟩) = ea := ⟨_, rfl⟩
        obtain ⟨ey, hey⟩ : ∃ ea, (if yc = 1 then some (⟨b', off', none⟩ : Addr) else some ⟨b', off' + 11, none⟩) = ea := ⟨_, rfl⟩
        have HE : Hid (ea = some (nx ⟨b, off, none⟩ xc) ∧ ey = some (nx ⟨b', off', none⟩ yc)) := by
          refine ⟨?_, ?_⟩
          · rw [← hea, nx]; split <;> rfl
          · rw [← hey, nx]; split <;> rfl
        rw [hea, hey]
        have hq1 : W.heap.size ≤ q ∧ ∃ cur, wd.heap[q]? = some (.cells cur 72 (0, 0)) := by
          refine ⟨?_, (own_blk HD.out.2.1.own rfl).2⟩
          have := HD.out.2.1.out q rfl
          omega
        obtain ⟨hqW, cur, hcur⟩ := hq1
        have hr1 := (HD.out.2.1.set (kk * 2) (.slice ea (xn - 1) (xc - 1))).1
        have hr2 := (hr1.set (kk * 2 + 1) (.slice ey (yn - 1) (yc - 1))).1
        have ho1 : Off 72 W.heap.size wd ((wd.setCell ⟨q, kk * 2, none⟩ (.slice ea (xn - 1) (xc - 1))).setCell ⟨q, kk * 2 + 1, none⟩ (.slice ey (yn - 1) (yc - 1))).drew :=
          (Off.grown ((grown_set wd ⟨q, kk * 2, none⟩ _).trans (grown_set _ ⟨q, kk * 2 + 1, none⟩ _)) HD.out.2.2 (fun i e => by cases e; exact ⟨hqW, _, hcur, rfl⟩) : Off 72 W.heap.size wd _).trans (Off.drewN _ _ _ 1)
        have hr3 := revp_set ((some ⟨b, off, none⟩, xn, xc), (some ⟨b', off', none⟩, yn, yc)) ((some (nx ⟨b, off, none⟩ xc), xn - 1, xc - 1), (some (nx ⟨b', off', none⟩ yc), yn - 1, yc - 1)) st _ _ rfl
        simp only [slv, ← HE.out.1, ← HE.out.2] at hr3
        rw [HF.out.2.1] at hr3
        rw [hr3] at hr2
        have hr4 := hr2.mv (w' := ((wd.setCell ⟨q, kk * 2, none⟩ (.slice ea (xn - 1) (xc - 1))).setCell ⟨q, kk * 2 + 1, none⟩ (.slice ey (yn - 1) (yc - 1))).drew) fun _ _ => rfl
        have hj1 := HS.out _ _ _ _ HD.out.1 ho1
        have hs1 := Nat.le_trans HD.out.2.2 ho1.size
        clear hr1 hr2 hr3
        revert hr4 ho1 hj1 hs1
        generalize World.drew _ = V
        intro ho1 hr4 hj1 hs1
        gi_wp2
        refine wpIn_region_any (by kernel_rfl) ?_
        change wpAnyIn _ _ _ _ _ _ _ _ _ (World.drew _)
        have hj2 : J (g + 1) (((some ⟨b, off, none⟩, xn, xc), (some ⟨b', off', none⟩, yn, yc)) :: st) V.drew := HS.out _ _ _ _ hj1 (Off.drewN _ _ V 1)
        have hr5 := hr4.mv (w' := V.drew) fun _ _ => rfl
        have hs2 : W.heap.size ≤ V.drew.heap.size := hs1
        clear hr4 ho1 hj1 hs1
        revert hr5 hj2 hs2
        generalize V.drew = U
        intro hj2 hr5 hs2
        obtain ⟨m, hm⟩ : ∃ m, xn = m + 1 := ⟨xn - 1, by omega⟩
        obtain ⟨m', hm'⟩ : ∃ m, yn = m + 1 := ⟨yn - 1, by omega⟩
        have he : encP (((some ⟨b, off, none⟩, xn, xc), (some ⟨b', off', none⟩, yn, yc)) :: st) = some #[.pointer (some ⟨b, off, none⟩), .pointer (some ⟨b', off', none⟩)] := by rw [hm, hm']; rfl
        have hy0 := HY.out g _ _ U he hj2
        have HV : Hid (Rw (fun k => k < W.heap.size) U 72 2 (.slice (some ⟨q, 0, none⟩) k cap) k ((((ea, xn - 1, xc - 1), (ey, yn - 1, yc - 1)) :: st).reverse.flatMap pcs) ∧ W.heap.size ≤ U.heap.size ∧ xn = m + 1 ∧ yn = m' + 1) := ⟨hr5, hs2, hm, hm'⟩
        clear hr5 hj2 hs2 hcur hqW pk0 pk1 pf0 pf1 hea hey hm hm' he
        obtain ⟨fn, tmps, assign, body, hy, hR⟩ := hy0
        refine wpAnyIn_take (i := 0) (v := ?_) rfl rfl (by kernel_rfl) (by kernel_rfl) (by kernel_rfl) (fun _ _ _ h => h) ⟨Or.inl ⟨by rfl, ?_⟩, fun _ => rfl⟩ ?_
        rotate_left 1
        · intro w
          go_simp
          try with_reducible rfl
        refine wpAnyIn_take (i := 1) (v := ?_) rfl rfl (by kernel_rfl) (by kernel_rfl) (by kernel_rfl) (fun _ _ _ h => h) ⟨Or.inl ⟨by rfl, ?_⟩, fun _ => rfl⟩ ?_
        rotate_left 1
        · intro w
          go_simp
          try with_reducible rfl
        refine wpAnyIn_take (i := 2) (v := ?_) rfl rfl (by kernel_rfl) (by kernel_rfl) (by kernel_rfl) (fun _ _ _ h => h) ⟨Or.inl ⟨by rfl, ?_⟩, fun _ => rfl⟩ ?_
        rotate_left 1
        · intro w
          go_simp
          try with_reducible rfl
        refine wpAnyIn_take (i := 3) (v := ?_) rfl rfl (by kernel_rfl) (by kernel_rfl) (by kernel_rfl) (fun _ _ _ h => h) ⟨Or.inl ⟨by rfl, ?_⟩, fun _ => rfl⟩ ?_
        rotate_left 1
        · intro w
          go_simp
          try with_reducible rfl
        refine wpAnyIn_take (i := 4) (v := ?_) rfl rfl (by kernel_rfl) (by kernel_rfl) (by kernel_rfl) (fun _ _ _ h => h) ⟨Or.inl ⟨by rfl, ?_⟩, fun _ => rfl⟩ ?_
        rotate_left 1
        · intro w
          go_simp
          try with_reducible rfl
        refine wpAnyIn_ready (rs := [5]) (by kernel_rfl) (by simp) (AllReadyIn.cons rfl (fun K hK => ?_) AllReadyIn.nil)
        go_simp
        refine ⟨fun h => by simp [Fence.wide] at h, hR.mono ?_⟩
        rintro e V2 (⟨rfl, hkp, s', ⟨a, n', c', b2, m2, k2, st', ks, ls, e1, hcell, hcell2, rfl⟩, hj3⟩ | ⟨rfl, hjx⟩)
        · refine hK _ _ ?_; clear hK K
          refine wpAnyIn_ready (rs := [6]) (by kernel_rfl) (by simp) (AllReadyIn.cons rfl (fun K hK => ?_) AllReadyIn.nil)
          go_simp; refine hK _ _ ?_; clear hK K
          refine wpAnyIn_done (by kernel_rfl) ?_ _
          obtain ⟨hu1, hm, hm'⟩ := HV.out.2
          simp only [List.cons.injEq, Prod.mk.injEq, Option.some.injEq] at e1
          obtain ⟨⟨⟨rfl, e2, rfl⟩, ⟨rfl, e3, rfl⟩⟩, rfl⟩ := e1
          have e4 : n' = xn - 1 := by omega
          have e5 : m2 = yn - 1 := by omega
          subst e4 e5
          obtain ⟨ka, kn, kc⟩ := ks
          obtain ⟨la, ln, lc⟩ := ls
          rw [← HE.out.1, ← HE.out.2] at hj3
          have hq2 : W.heap.size ≤ q ∧ ∃ cur, U.heap[q]? = some (.cells cur 72 (0, 0)) := by
            refine ⟨?_, (own_blk HV.out.1.own rfl).2⟩
            have := HV.out.1.out q rfl
            omega
          obtain ⟨hqW, cur, hcur⟩ := hq2
          have hr2 := HV.out.1.mv (w' := V2) fun i hi => by
            simp [Value.ownBlock] at hi
            subst hi
            rw [hcur]
            exact hkp.same _ _ hcur rfl
          have hs2 : W.heap.size ≤ V2.heap.size := Nat.le_trans HV.out.2.1 hkp.size
          have hcur2 : V2.heap[q]? = some (.cells cur 72 (0, 0)) := hkp.same _ _ hcur rfl
          have o3 : Off 72 W.heap.size V2 (V2.alloc (.cells #[.slice ka kn kc, .slice la ln lc] 72)) := Off.alloc 72 _ _ hs2
          have hr3 := hr2.old (w' := V2.alloc (.cells #[.slice ka kn kc, .slice la ln lc] 72)) ((Below.refl _ _).alloc (Nat.le_refl _) _)
          have hn3 := heap_alloc_new V2 (.cells #[.slice ka kn kc, .slice la ln lc] 72)
          have hz3 : (V2.alloc (.cells #[.slice ka kn kc, .slice la ln lc] 72)).heap.size = V2.heap.size + 1 := by simp
          have hcur3 : (V2.alloc (.cells #[.slice ka kn kc, .slice la ln lc] 72)).heap[q]? = some (.cells cur 72 (0, 0)) := (Below.heap_alloc _ _ _ (Array.getElem?_eq_some_iff.1 hcur2).1).trans hcur2
          obtain ⟨V3, hV3⟩ : ∃ V, V2.alloc (.cells #[.slice ka kn kc, .slice la ln lc] 72) = V := ⟨_, rfl⟩
          rw [hV3] at o3 hr3 hn3 hz3 hcur3
          obtain ⟨v4, V4, q1, q2, q3, q4⟩ := Rw.app (W := V3.drew) (t := 73) (e := 72) Try.underlying73 info72 rfl (by decide) (by decide) (hr3.mv (w' := V3.drew) fun _ _ => rfl) (fun i hi => by show i < V3.heap.size; omega) V2.heap.size 0 1 1 [.slice ka kn kc, .slice la ln lc] rfl
            (fun j u hj => by
              match j, hj with
              | 0, hj => simp at hj; subst hj; show V3.cell? ⟨V2.heap.size, 0 + 0, none⟩ = _; simp [World.cell?, hn3]
              | 1, hj => simp at hj; subst hj; show V3.cell? ⟨V2.heap.size, 0 + 1, none⟩ = _; simp [World.cell?, hn3]
              | j + 2, hj => simp at hj)
            (fun u hu => by simp at hu; rcases hu with rfl | rfl <;> rfl) (by omega)
          have o4 : Off 72 W.heap.size V3.drew V4 := Off.grown q3 (by show W.heap.size ≤ V3.heap.size; omega) (fun i e => by
            simp [Value.ownBlock] at e
            subst e
            exact ⟨hqW, _, hcur3, rfl⟩)
          have hj4 := HS.out _ _ _ _ hj3 ((o3.trans (Off.drewN _ _ V3 1)).trans o4)
          have hf4 := (HI.out.2.2 _ _ _ hj4).1
          simp only [List.length_cons] at hf4
          obtain ⟨q', cap', cur', rfl, _, _, hg', hc1, hc2, _, _⟩ := q2.form (by omega)
          have HN : Hid (∃ st k' cap q, (Value.slice (some ⟨q', 0, none⟩) (k + 1) cap' : Value) = .slice (some ⟨q, 0, none⟩) k' cap ∧ st.length = k' ∧ k' ≤ 1000000 ∧ k' ≤ cap ∧ Hid (J g st V4 ∧ Rw (fun k => k < W.heap.size) V4 72 2 (.slice (some ⟨q, 0, none⟩) k' cap) k' (st.reverse.flatMap pcs) ∧ W.heap.size ≤ V4.heap.size)) := by
            refine ⟨((ka, kn, kc), (la, ln, lc)) :: ((ea, xn - 1, xc - 1), (ey, yn - 1, yc - 1)) :: st, k + 1, cap', q', rfl, by simp only [List.length_cons]; have := HF.out.2.1; have := HF.out.2.2; omega, by have := HF.out.2.1; have := HF.out.2.2; omega, hc1, hj4, ?_, ?_⟩
            · have e : (((ka, kn, kc), (la, ln, lc)) :: ((ea, xn - 1, xc - 1), (ey, yn - 1, yc - 1)) :: st).reverse.flatMap pcs = (((ea, xn - 1, xc - 1), (ey, yn - 1, yc - 1)) :: st).reverse.flatMap pcs ++ [Value.slice ka kn kc, Value.slice la ln lc] := by
                rw [List.reverse_cons, List.flatMap_append]; rfl
              rw [e]
              exact q2
            · exact Nat.le_trans hs2 (o3.trans ((Off.drewN 72 W.heap.size V3 1).trans o4)).size
          simp only [slv] at hcell hcell2
          clear hj4 hf4 q2 q3 q4 o3 o4 hr3 hn3 hr2 hs2 hcur2 hcur3 hcur hqW hj3 hkp hR hy hg' hm hm' hz3 hu1 e2 e3
          gi_wp2
          refine wpIn_region_any (by kernel_rfl) ?_
          change wpAnyIn _ _ _ _ _ _ _ _ _ (World.drew _)
          refine wpAnyIn_take (i := 0) (v := ?_) rfl rfl (by kernel_rfl) (by kernel_rfl) (by kernel_rfl) (fun _ _ _ h => h) ⟨Or.inl ⟨by rfl, ?_⟩, fun _ => rfl⟩ ?_
          rotate_left 1
          · intro w
            go_simp
            try with_reducible rfl
          refine wpAnyIn_take (i := 1) (v := ?_) rfl rfl (by kernel_rfl) (by kernel_rfl) (by kernel_rfl) (fun _ _ _ h => h) ⟨Or.inl ⟨by rfl, ?_⟩, fun _ => rfl⟩ ?_
          rotate_left 1
          · intro w
            go_simp
            try with_reducible rfl
          refine wpAnyIn_take (i := 2) (v := ?_) rfl rfl (by kernel_rfl) (by kernel_rfl) (by kernel_rfl) (fun _ _ _ h => h) ⟨Or.inl ⟨by rfl, ?_⟩, fun _ => rfl⟩ ?_
          rotate_left 1
          · intro w
            go_simp
            try with_reducible rfl
          refine wpAnyIn_take (i := 3) (v := ?_) rfl rfl (by kernel_rfl) (by kernel_rfl) (by kernel_rfl) (fun _ _ _ h => h) ⟨Or.inl ⟨by rfl, ?_⟩, fun _ => rfl⟩ ?_
          rotate_left 1
          · intro w
            go_simp
            try with_reducible rfl
          refine wpAnyIn_take (i := 5) (v := ?_) rfl rfl (by kernel_rfl) (by kernel_rfl) (by kernel_rfl) (fun _ _ _ h => h) ⟨Or.inl ⟨by rfl, ?_⟩, fun _ => rfl⟩ ?_
          rotate_left 1
          · intro w
            go_simp
            try with_reducible rfl
          refine wpAnyIn_take (i := 6) (v := ?_) rfl rfl (by kernel_rfl) (by kernel_rfl) (by kernel_rfl) (fun _ _ _ h => h) ⟨Or.inl ⟨by rfl, ?_⟩, fun _ => rfl⟩ ?_
          rotate_left 1
          · intro w
            go_simp
            try with_reducible rfl
          refine wpAnyIn_take (i := 7) (v := ?_) rfl rfl (by kernel_rfl) (by kernel_rfl) (by kernel_rfl) (fun _ _ _ h => h) ⟨Or.inl ⟨by rfl, ?_⟩, fun _ => rfl⟩ ?_
          rotate_left 1
          · intro w
            go_simp
            try with_reducible rfl
          refine wpAnyIn_ready (rs := [4, 8]) (by kernel_rfl) (by simp) (AllReadyIn.cons rfl (fun K hK => ?_) (AllReadyIn.cons rfl (fun K hK => ?_) AllReadyIn.nil))
          · go_simp; refine hK _ _ ?_; clear hK K
            refine wpAnyIn_ready (rs := [8]) (by kernel_rfl) (by simp) (AllReadyIn.cons rfl (fun K hK => ?_) AllReadyIn.nil)
            go_simp; refine hK _ _ ?_; clear hK K
            refine wpAnyIn_take (i := 9) (v := ?_) rfl rfl (by kernel_rfl) (by kernel_rfl) (by kernel_rfl) (fun _ _ _ h => h) ⟨Or.inl ⟨by rfl, ?_⟩, fun _ => rfl⟩ ?_
            rotate_left 1
            · intro w
              go_simp
              try with_reducible rfl
            refine wpAnyIn_ready (rs := [10]) (by kernel_rfl) (by simp) (AllReadyIn.cons rfl (fun K hK => ?_) AllReadyIn.nil)
            go_simp; refine hK _ _ ?_; clear hK K
            refine wpAnyIn_ready (rs := [11]) (by kernel_rfl) (by simp) (AllReadyIn.cons rfl (fun K hK => ?_) AllReadyIn.nil)
            refine step_append_eqIn rfl _ _ 73 73 73 (some 70) rfl rfl rfl (.slice (some ⟨q, 0, none⟩) k cap) (.slice (some ⟨V2.heap.size, 0, none⟩) 1 1) rfl rfl q1 ?_; refine hK _ _ ?_; clear hK K
            refine wpAnyIn_ready (rs := [12]) (by kernel_rfl) (by simp) (AllReadyIn.cons rfl (fun K hK => ?_) AllReadyIn.nil)
            go_simp; refine hK _ _ ?_; clear hK K
            refine wpAnyIn_done (by kernel_rfl) ?_ _
            gi_wp2
            gi_roundg g
            case measure => omega
            case rel => exact HN.out
          · go_simp; refine hK _ _ ?_; clear hK K
            refine wpAnyIn_ready (rs := [4]) (by kernel_rfl) (by simp) (AllReadyIn.cons rfl (fun K hK => ?_) AllReadyIn.nil)
            go_simp; refine hK _ _ ?_; clear hK K
            refine wpAnyIn_take (i := 9) (v := ?_) rfl rfl (by kernel_rfl) (by kernel_rfl) (by kernel_rfl) (fun _ _ _ h => h) ⟨Or.inl ⟨by rfl, ?_⟩, fun _ => rfl⟩ ?_
            rotate_left 1
            · intro w
              go_simp
              try with_reducible rfl
            refine wpAnyIn_ready (rs := [10]) (by kernel_rfl) (by simp) (AllReadyIn.cons rfl (fun K hK => ?_) AllReadyIn.nil)
            go_simp; refine hK _ _ ?_; clear hK K
            refine wpAnyIn_ready (rs := [11]) (by kernel_rfl) (by simp) (AllReadyIn.cons rfl (fun K hK => ?_) AllReadyIn.nil)
            refine step_append_eqIn rfl _ _ 73 73 73 (some 70) rfl rfl rfl (.slice (some ⟨q, 0, none⟩) k cap) (.slice (some ⟨V2.heap.size, 0, none⟩) 1 1) rfl rfl q1 ?_; refine hK _ _ ?_; clear hK K
            refine wpAnyIn_ready (rs := [12]) (by kernel_rfl) (by simp) (AllReadyIn.cons rfl (fun K hK => ?_) AllReadyIn.nil)
            go_simp; refine hK _ _ ?_; clear hK K
            refine wpAnyIn_done (by kernel_rfl) ?_ _
            gi_wp2
            gi_roundg g
            case measure => omega
            case rel => exact HN.out
        · refine hK _ _ ?_; clear hK K
          refine wpAnyIn_ready (rs := [6]) (by kernel_rfl) (by simp) (AllReadyIn.cons rfl (fun K hK => ?_) AllReadyIn.nil)
          go_simp; refine hK _ _ ?_; clear hK K
          refine wpAnyIn_done (by kernel_rfl) ?_ _
          gi_wp2
          refine bodyPost_ret (results_none rfl _ _ _) rfl ?_
          exact ⟨⟨_, rfl⟩, .inr hjx⟩
end Go.Proofs.Ytdpibnmbgjhohaa
