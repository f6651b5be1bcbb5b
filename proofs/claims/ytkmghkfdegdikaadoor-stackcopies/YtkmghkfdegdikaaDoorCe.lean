/- The document's Remove, Above. -/
import Derived.Test.YtkmghkfdegdikaaDoorCd
namespace Go.Proofs.YtkmghkfdegdikaaDoor
open Go.RowKit

/-- The stack's row is a new one. -/
theorem RStk.newrow {S : Nat → Prop} {w V : World} {y : Nat} {rv u : Value} {M N : List El} (h : RStk S w y rv M) (b : Below w.heap.size w V) (hr : Rw (fun k => k < w.heap.size) V 34 4 u N.length (N.flatMap El.cs)) (ho : ∀ d ∈ N, Own V d.av d.al) :
    V.cell? ⟨y, 0, none⟩ = some rv ∧ V.frozen? ⟨y, 0, none⟩ = false ∧ RStkE S (V.setCell ⟨y, 0, none⟩ u) y N ∧ Keep S w (V.setCell ⟨y, 0, none⟩ u) := by
  have hW := h.old b
  have sz : (V.setCell ⟨y, 0, none⟩ u).heap.size = V.heap.size := World.size_setCell _ _ _
  refine ⟨hW.blk.cell 0, hW.blk.frozen 0, ⟨u, ⟨fun k hk => by rw [sz]; exact hW.low k hk, by have := hW.blk.set 0 u; exact this, h.out, (hr.mv fun g hg => heap_setCell_other V ⟨y, 0, none⟩ g _ (fun e => ?_)).sub (fun k hk => h.low k hk), fun d hd => (ho d hd).mv fun g cur hg => heap_setCell_other V ⟨y, 0, none⟩ g _ (fun e => ?_)⟩⟩, (Keep.old b).trans ⟨rfl, rfl, rfl, by rw [sz]; exact Nat.le_refl _, fun k hk _ => heap_setCell_other V ⟨y, 0, none⟩ k _ (fun e => h.out ((show k = y from e) ▸ hk))⟩⟩
  · have := hr.out g hg
    rw [show g = y from e] at this
    exact this h.lt
  · have := hW.blk
    unfold Bx at this
    rw [show g = y from e, this] at hg
    simp at hg
theorem Rw.pre {S : Nat → Prop} {V : World} {g n c : Nat} {M : List El} (hr : Rw S V 34 4 (.slice (some ⟨g, 0, none⟩) n c) n (M.flatMap El.cs)) (hn : M.length = n) (k : Nat) (hk : k ≤ n) (hn0 : 0 < n) : Rw S V 34 4 (.slice (some ⟨g, 0, none⟩) k c) k ((M.take k).flatMap El.cs) := by
  obtain ⟨g', c', cur, he, hgS, hgl, hgb, hc1, hc2, hc3, hc4⟩ := hr.form hn0
  simp only [Value.slice.injEq, Option.some.injEq, Addr.mk.injEq, and_true, true_and] at he
  obtain ⟨rfl, rfl⟩ := he
  refine ⟨⟨by rw [el_len, List.length_take, hn, Nat.min_eq_left hk], .inr ⟨g, c, cur, rfl, Nat.zero_le _, hgb, by omega, hc2, hc3, ?_⟩⟩, fun t ht => ?_⟩
  · rw [fl_take El.cs 4 (fun _ => rfl), ← hc4, List.take_take, Nat.min_eq_left (by omega)]
  · simp [Value.ownBlock] at ht
    subst ht
    exact hgS
/-- Behind a row of one's own, what stands behind a place of a stack's row. -/
theorem app_rest {S T : Nat → Prop} {w V : World} {g n c : Nat} {M : List El} (hr : Rw S w 34 4 (.slice (some ⟨g, 0, none⟩) n c) n (M.flatMap El.cs)) (hl : M.length = n) (hn : n ≤ 100000000) (h1 : ∀ d ∈ M, d.av.oneCell' = true) (j : Nat) (hj : j ≤ n) (A : Addr) (hA : (if c = j then some (⟨g, 0, none⟩ : Addr) else some ⟨g, j * 4, none⟩) = some A)
    {u : Value} {k : Nat} {xs : List Value} (ho : Rw T V 34 4 u k xs) (hk : k ≤ 100000000) (hlow : ∀ i, T i → i < V.heap.size) (hb : ∀ t, t < w.heap.size → V.heap[t]? = w.heap[t]?) :
    ∃ u' W, (Builtin.append_ #[26, 26] 26 #[u, .slice (some A) (n - j) (c - j)]).run Tryd.prog V = .ok u' W ∧ Rw T W 34 4 u' (k + (n - j)) (xs ++ (M.drop j).flatMap El.cs) ∧ V.grownBy W u.ownBlock := by
  have hC : ((M.drop j).flatMap El.cs).length = (n - j) * 4 := by rw [el_len, List.length_drop, hl]
  obtain ⟨u', W, q1, q2, q3, _⟩ := Rw.apps (t := 26) (e := 34) Tryd.underlying26 info34 rfl (by decide) ho hlow (some A) (n - j) (c - j) ((M.drop j).flatMap El.cs) hC (fun t v hv => by
    have htl := (List.getElem?_eq_some_iff.1 hv).1
    by_cases hcj : c = j
    · have hcn : n ≤ c := by
        obtain ⟨_, _, e, h2, _⟩ := hr.slice
        cases e
        exact h2
      omega
    · rw [if_neg hcj] at hA
      cases hA
      refine ⟨g, j * 4, rfl, ?_⟩
      rw [fl_drop El.cs 4 (fun _ => rfl), List.getElem?_drop] at hv
      have hc := hr.cell hv
      have hgl : g < w.heap.size := World.block_lt_of_cell? w _ hc
      rw [← hc]
      simp [World.cell?, hb g hgl]) (el_one _ fun d hd => h1 d (List.drop_subset _ _ hd)) (by omega) (by omega)
  exact ⟨u', W, q1, q2, q3⟩
set_option linter.unusedSimpArgs false in
set_option maxHeartbeats 4000000 in
set_option maxRecDepth 20000 in
theorem rremove_any {S : Nat → Prop} {w : World} {y : Nat} {rv : Value} {M : List El} (h : RStk S w y rv M) (hM : M.length ≤ 10000000) (id : Int) :
    Calls Tryd.prog 34 #[ptr y, iv id] w fun e w' => e = .returned (.bool (decide (0 ≤ fnd id M M.length))) ∧ RStkE S w' y (remP id M) ∧ Keep S w w' := by
  have kf := rfind_any h (by omega) id
  have hb := fnd_le id M M.length
  obtain ⟨z, hz⟩ : ∃ z, fnd id M M.length = z := ⟨_, rfl⟩
  have HP : Hid (remP id M = if z < 0 then M else M.eraseIdx z.toNat) := by
    show remP id M = _
    rw [remP, hz]
  rw [hz] at kf hb ⊢
  by_cases h0 : z < 0
  · obtain rfl : z = -1 := by omega
    have HF : Hid (RStkE S w y (remP id M) ∧ Keep S w w) := ⟨⟨rv, by rw [HP.out, if_pos (by decide)]; exact h⟩, Keep.refl _ _⟩
    clear h hM hb hz h0 HP
    go_enter Tryd.func34, Tryd.ntmps34
    go_wp2_with fail
    refine kf.mono ?_
    rintro e w' ⟨rfl, hw'⟩
    rw [hw']
    clear hw' kf
    go_wp2_with fail
    go_ret
    exact ⟨rfl, HF.out⟩
  · obtain ⟨i, rfl⟩ : ∃ i : Nat, z = (i : Int) := ⟨z.toNat, by omega⟩
    obtain ⟨n, hn⟩ : ∃ n, M.length = n := ⟨_, rfl⟩
    rw [hn] at hb hM
    obtain ⟨g, c, cur, hrv, _, _, _, hc1, hc2, _⟩ := h.row.form (by omega)
    subst hrv
    rw [hn] at h hc1
    have hr := h.row
    rw [hn] at hr
    obtain ⟨j, hj⟩ : ∃ j, j = i + 1 := ⟨_, rfl⟩
    obtain ⟨A, hA⟩ : ∃ A : Addr, (if c = j then some (⟨g, 0, none⟩ : Addr) else some ⟨g, j * 4, none⟩) = some A := by
      by_cases hcj : c = j
      · exact ⟨_, if_pos hcj⟩
      · exact ⟨_, if_neg hcj⟩
    have hone := fun d hd => (h.own d hd).one
    have hpre := hr.pre hn i (by omega) (by omega)
    obtain ⟨oA, cA, WA, a1, a2, a3⟩ := dup_row (V := w.drew) rfl hpre.drew (el_one _ fun d hd => hone d (List.take_subset _ _ hd)) (by omega)
    obtain ⟨u, WB, b1, b2, b3⟩ := app_rest hr hn (by omega) hone j (by omega) A hA a2 (by omega) (fun k hk => Nat.lt_of_lt_of_le hk a3.size) (fun t ht => a3.block t ht)
    have hlen : (M.eraseIdx i).length = i + (n - j) := by
      rw [List.length_eraseIdx, if_pos (by omega), hn]
      omega
    have bA : Below w.heap.size w WA := (Below.refl w.heap.size w).drew.trans a3
    have bB : Below w.heap.size w WB := bA.trans ((a2.keep b3).below (fun k hk => hk) a3.size)
    have b2' : Rw (fun k => k < w.heap.size) WB 34 4 u (M.eraseIdx i).length ((M.eraseIdx i).flatMap El.cs) := by
      rw [hlen, List.eraseIdx_eq_take_drop_succ, List.flatMap_append, ← hj]
      exact b2
    obtain ⟨y1, f1, s1, k1⟩ := h.newrow bB b2' (fun d hd => (h.own d (List.eraseIdx_subset hd)).old bB)
    obtain ⟨oB, cB, rfl, _⟩ := b2'.slice
    rw [hlen] at b1 s1 k1
    have HF : Hid (RStkE S (WB.setCell ⟨y, 0, none⟩ (.slice oB (i + (n - j)) cB)) y (remP id M) ∧ Keep S w (WB.setCell ⟨y, 0, none⟩ (.slice oB (i + (n - j)) cB))) := ⟨by rw [HP.out, if_neg h0]; exact s1, k1⟩
    have cx : w.cell? ⟨y, 0, none⟩ = some (.slice (some ⟨g, 0, none⟩) n c) := h.blk.cell 0
    have cxA : WA.cell? ⟨y, 0, none⟩ = some (.slice (some ⟨g, 0, none⟩) n c) := (h.old bA).blk.cell 0
    have hji : (i : Int) + 1 = (j : Int) := by omega
    have hwj : IntKind.i64.wrap (j : Int) = (j : Int) := by rw [IntKind.wrap_i64]; omega
    have hd0 : decide ((0 : Int) ≤ (i : Int)) = true := decide_eq_true (by omega)
    have hneg : decide ((i : Int) < 0) = false := decide_eq_false (by omega)
    have hcm : c ≤ 9223372036854775807 := by unfold maxLen at hc2; omega
    have d1 : (i : Int) ≤ (c : Int) := by omega
    have d2 : (0 : Int) ≤ (i : Int) := by omega
    have d3 : (j : Int) ≤ (n : Int) := by omega
    have d4 : (0 : Int) ≤ (j : Int) := by omega
    have d5 : (n : Int) ≤ (c : Int) := by omega
    have d6 : i ≤ c := by omega
    have d7 : j ≤ n := by omega
    have hib : i ≤ 10000000 := by omega
    rw [hd0]
    clear h hr hn hz h0 HP hj hd0 hb hone hpre a2 a3 b2 b3 bA bB b2' hlen s1 k1 hc2 hc1
    go_enter Tryd.func34, Tryd.ntmps34
    go_wp2_with fail
    refine kf.mono ?_
    rintro e w' ⟨rfl, hw'⟩
    rw [hw']
    clear hw' kf w'
    go_upto_region 4 with fail
    go_region_law (first
      | refine step_append_eq rfl _ _ 26 26 rfl _ _ (by first | (simp [Act.eval]; done) | (simp [Act.eval, Act.put]; done)) (by first | (simp [Act.eval]; done) | (simp [Act.eval, Act.put]; done)) a1 ?_
      | refine step_append_eq rfl _ _ 26 26 rfl _ _ (by first | (simp [Act.eval]; done) | (simp [Act.eval, Act.put]; done)) (by first | (simp [Act.eval]; done) | (simp [Act.eval, Act.put]; done) | (simp [Act.eval, Act.put, hA]; done)) b1 ?_)
    all_goals
      go_wp2_with fail
      go_ret
      exact ⟨rfl, HF.out⟩
/-- What the document's Above answers. -/
def RAbv (S : Nat → Prop) (y : Nat) (id : Int) (M : List El) (d : El) (w : World) (e : Ending) (w' : World) : Prop := e = .returned (.bool (decide (0 ≤ fnd id M M.length))) ∧ (∃ v, RStkE S w' y (abvP id M { d with av := v })) ∧ Keep S w w'
set_option linter.unusedSimpArgs false in
set_option maxHeartbeats 4000000 in
set_option maxRecDepth 20000 in
theorem rabove_any {S : Nat → Prop} {w : World} {y : Nat} {rv : Value} {M : List El} (h : RStk S w y rv M) (hM : M.length ≤ 10000000) (id : Int) (d : El) (ha : Ats w d.av d.al) :
    Calls Tryd.prog 35 #[ptr y, iv id, .agg d.arr] w (RAbv S y id M d w) := by
  obtain ⟨did, dsp, dnm, dav, dal⟩ := d
  obtain ⟨ao2, ac2, hav, _⟩ := ha.ex
  simp only at hav
  subst hav
  obtain ⟨W1, hW1⟩ : ∃ W1, w.alloc (.cells #[iv did, iv dsp, .string dnm, .slice ao2 dal.length ac2] 34) = W1 := ⟨_, rfl⟩
  have HW1 : Hid (w.alloc (.cells #[iv did, iv dsp, .string dnm, .slice ao2 dal.length ac2] 34) = W1) := hW1
  have x1 : Bx W1 w.heap.size 34 #[iv did, iv dsp, .string dnm, .slice ao2 dal.length ac2] := by rw [← hW1]; exact heap_alloc_new w _
  have b1 : Below w.heap.size w W1 := by rw [← hW1]; exact (Below.refl _ _).alloc (Nat.le_refl _) _
  clear hW1
  have h1 := h.old b1
  have kf := rfind_any h1 (by omega) id
  have hb := fnd_le id M M.length
  obtain ⟨z, hz⟩ : ∃ z, fnd id M M.length = z := ⟨_, rfl⟩
  have HP : Hid (∀ d, abvP id M d = if z < 0 then M else M.take (z.toNat + 1) ++ [d] ++ M.drop (z.toNat + 1)) := fun d => by rw [abvP, hz]
  have HZ : Hid (fnd id M M.length = z) := hz
  rw [hz] at kf hb
  show Calls Tryd.prog 35 #[ptr y, iv id, .agg #[iv did, iv dsp, .string dnm, .slice ao2 dal.length ac2]] w _
  by_cases h0 : z < 0
  · obtain rfl : z = -1 := by omega
    have HF : Hid (RAbv S y id M ⟨did, dsp, dnm, .slice ao2 dal.length ac2, dal⟩ w (.returned (.bool false)) W1) := ⟨by rw [HZ.out]; rfl, ⟨.slice none 0 0, rv, by rw [HP.out, if_pos (by decide)]; exact h1⟩, Keep.old b1⟩
    clear h h1 hM hb hz h0 HP HZ x1 b1 ha
    go_enter Tryd.func35, Tryd.ntmps35
    go_upto_region 1 with fail
    rw [HW1.out]
    go_wp2_with fail
    refine kf.mono ?_
    rintro e w' ⟨rfl, hw'⟩
    rw [hw']
    clear hw' kf
    go_wp2_with fail
    go_ret
    exact HF.out
  · obtain ⟨k, rfl⟩ : ∃ k : Nat, z = (k : Int) := ⟨z.toNat, by omega⟩
    obtain ⟨n, hn⟩ : ∃ n, M.length = n := ⟨_, rfl⟩
    rw [hn] at hb hM
    obtain ⟨g, c, cur, hrv, _, _, _, hc1, hc2, _⟩ := h.row.form (by omega)
    subst hrv
    rw [hn] at h h1 hc1
    have hr := h1.row
    rw [hn] at hr
    obtain ⟨i, hi⟩ : ∃ i, i = k + 1 := ⟨_, rfl⟩
    obtain ⟨A, hA⟩ : ∃ A : Addr, (if c = i then some (⟨g, 0, none⟩ : Addr) else some ⟨g, i * 4, none⟩) = some A := by
      by_cases hcj : c = i
      · exact ⟨_, if_pos hcj⟩
      · exact ⟨_, if_neg hcj⟩
    have hone := fun d hd => (h.own d hd).one
    have hki : (k : Int) + 1 = (i : Int) := by omega
    have hwi : IntKind.i64.wrap (i : Int) = (i : Int) := by rw [IntKind.wrap_i64]; omega
    have hib : i ≤ 10000000 := by omega
    have hneg : decide ((k : Int) < 0) = false := decide_eq_false (by omega)
    have cx : W1.cell? ⟨y, 0, none⟩ = some (.slice (some ⟨g, 0, none⟩) n c) := h1.blk.cell 0
    have e0 : W1.cell? ⟨w.heap.size, 0, none⟩ = some (iv did) := x1.cell 0
    have e1 : W1.cell? ⟨w.heap.size, 1, none⟩ = some (iv dsp) := x1.cell 1
    have e2 : W1.cell? ⟨w.heap.size, 2, none⟩ = some (.string dnm) := x1.cell 2
    have e3 : W1.cell? ⟨w.heap.size, 3, none⟩ = some (.slice ao2 dal.length ac2) := x1.cell 3
    have bd := (Below.refl W1.heap.size W1).drew
    have HC : Hid (Calls Tryd.prog 48 #[.agg #[iv did, iv dsp, .string dnm, .slice ao2 dal.length ac2]] W1.drew fun e w1 => ∃ ao5 an5 ac5, e = .returned (.agg #[iv did, iv dsp, .string dnm, .slice ao5 an5 ac5]) ∧ w1.cell? ⟨y, 0, none⟩ = some (.slice (some ⟨g, 0, none⟩) n c) ∧ (w1.alloc (.cells #[iv did, iv dsp, .string dnm, .slice ao5 an5 ac5] 34)).cell? ⟨y, 0, none⟩ = some (.slice (some ⟨g, 0, none⟩) n c) ∧
        ∃ oR nR cR WR, (Builtin.append_ #[26, 26] 26 #[.slice (some ⟨w1.heap.size, 0, none⟩) 1 1, .slice (some A) (n - i) (c - i)]).run Tryd.prog (w1.alloc (.cells #[iv did, iv dsp, .string dnm, .slice ao5 an5 ac5] 34)) = .ok (.slice oR nR cR) WR ∧
        Hid (Below W1.heap.size W1 WR ∧ ∃ v, Own WR v dal ∧ Rw (fun t => t < W1.heap.size) WR 34 4 (.slice oR nR cR) (1 + (n - i)) ((⟨did, dsp, dnm, v, dal⟩ : El).cs ++ (M.drop i).flatMap El.cs) ∧ nR = 1 + (n - i))) := (rown_any (w := W1.drew) (d := ⟨did, dsp, dnm, .slice ao2 dal.length ac2, dal⟩) (ha.old (b1.trans (bd.mono b1.size)))).mono (by
      rintro e w1 ⟨v, rfl, o1, _, b2⟩
      obtain ⟨ao5, ac5, hv, _⟩ := o1.1.slice
      simp only at hv o1
      subst hv
      have b2' : Below W1.heap.size W1 w1 := bd.trans b2
      have bn : Below w1.heap.size w1 (w1.alloc (.cells #[iv did, iv dsp, .string dnm, .slice ao5 dal.length ac5] 34)) := (Below.refl _ _).alloc (Nat.le_refl _) _
      have xn : Bx (w1.alloc (.cells #[iv did, iv dsp, .string dnm, .slice ao5 dal.length ac5] 34)) w1.heap.size 34 #[iv did, iv dsp, .string dnm, .slice ao5 dal.length ac5] := heap_alloc_new w1 _
      have b3 := b2'.trans (bn.mono b2'.size)
      have hbox : Rw (fun t => t < W1.heap.size) (w1.alloc (.cells #[iv did, iv dsp, .string dnm, .slice ao5 dal.length ac5] 34)) 34 4 (.slice (some ⟨w1.heap.size, 0, none⟩) 1 1) 1 (⟨did, dsp, dnm, .slice ao5 dal.length ac5, dal⟩ : El).cs := ⟨⟨rfl, .inr ⟨w1.heap.size, 1, _, rfl, Nat.zero_le _, xn, Nat.le_refl _, by unfold maxLen; omega, rfl, rfl⟩⟩, fun t ht => by
        simp [Value.ownBlock] at ht
        have := b2'.size
        omega⟩
      obtain ⟨u, WR, p1, p2, p3⟩ := app_rest hr hn (by omega) hone i (by omega) A hA hbox (by omega) (fun t ht => Nat.lt_of_lt_of_le ht b3.size) (fun t ht => b3.block t ht)
      obtain ⟨oR, cR, rfl, _⟩ := p2.slice
      have bR : Below W1.heap.size W1 WR := b3.trans ((hbox.keep p3).below (fun t ht => ht) b3.size)
      refine ⟨_, _, _, rfl, (h1.old b2').blk.cell 0, (h1.old b3).blk.cell 0, oR, _, cR, WR, p1, bR, .slice ao5 dal.length ac5, (o1.old bn).mv fun t cu ht => p3.block t (Array.getElem?_eq_some_iff.1 ht).1 (fun e => ?_), p2, rfl⟩
      simp [Value.ownBlock] at e
      unfold Bx at xn
      rw [e, xn] at ht
      simp at ht)
    have HH : Hid (∀ (WR : World) (oR : Option Addr) (nR cR : Nat), Hid (Below W1.heap.size W1 WR ∧ ∃ v, Own WR v dal ∧ Rw (fun t => t < W1.heap.size) WR 34 4 (.slice oR nR cR) (1 + (n - i)) ((⟨did, dsp, dnm, v, dal⟩ : El).cs ++ (M.drop i).flatMap El.cs) ∧ nR = 1 + (n - i)) →
        WR.cell? ⟨y, 0, none⟩ = some (.slice (some ⟨g, 0, none⟩) n c) ∧ ∃ oA cA WA, (Builtin.append_ #[26, 26] 26 #[.slice none 0 0, .slice (some ⟨g, 0, none⟩) i c]).run Tryd.prog WR = .ok (.slice oA i cA) WA ∧ ∃ oB nB cB WB, (Builtin.append_ #[26, 26] 26 #[.slice oA i cA, .slice oR nR cR]).run Tryd.prog WA = .ok (.slice oB nB cB) WB ∧ WB.cell? ⟨y, 0, none⟩ = some (.slice (some ⟨g, 0, none⟩) n c) ∧ WB.frozen? ⟨y, 0, none⟩ = false ∧ Hid (RAbv S y id M ⟨did, dsp, dnm, .slice ao2 dal.length ac2, dal⟩ w (.returned (.bool true)) (WB.setCell ⟨y, 0, none⟩ (.slice oB nB cB)))) := by
      rintro WR oR nR cR ⟨bR, v, oR', rR, hnR⟩
      subst hnR
      have hR := h1.old bR
      have hrR := hR.row
      rw [hn] at hrR
      obtain ⟨oA, cA, WA, a1, a2, a3⟩ := dup_row (V := WR) rfl (hrR.pre hn i (by omega) (by omega)) (el_one _ fun d hd => hone d (List.take_subset _ _ hd)) (by omega)
      have rA := rR.old a3
      obtain ⟨u, WB, q1, q2, q3, _⟩ := Rw.apps (t := 26) (e := 34) Tryd.underlying26 info34 rfl (by decide) (a2.sub (U := fun t => t < W1.heap.size) (fun t ht => Nat.lt_of_lt_of_le ht bR.size)) (fun t ht => Nat.lt_of_lt_of_le ht (bR.trans (a3.mono bR.size)).size) oR (1 + (n - i)) cR ((⟨did, dsp, dnm, v, dal⟩ : El).cs ++ (M.drop i).flatMap El.cs) rA.own.1 (fun t u ht => by
        obtain ⟨g', cap, cur', e, _⟩ := rA.form (by omega)
        cases e
        exact ⟨g', 0, rfl, by rw [Nat.zero_add]; exact rA.cell ht⟩) (fun u hu => by
        rcases List.mem_append.1 hu with hu | hu
        · simp only [El.cs, List.mem_cons, List.not_mem_nil, or_false] at hu
          rcases hu with rfl | rfl | rfl | rfl
          · rfl
          · rfl
          · rfl
          · exact oR'.one
        · exact el_one _ (fun d hd => hone d (List.drop_subset _ _ hd)) u hu) (by omega) (by omega)
      have bA : Below W1.heap.size W1 WA := bR.trans (a3.mono bR.size)
      have bB : Below W1.heap.size W1 WB := bA.trans ((Rw.keep (a2.sub (U := fun t => t < W1.heap.size) (fun t ht => Nat.lt_of_lt_of_le ht bR.size)) q3).below (fun t ht => ht) bA.size)
      have hlen : (M.take i ++ [(⟨did, dsp, dnm, v, dal⟩ : El)] ++ M.drop i).length = i + (1 + (n - i)) := by
        rw [List.length_append, List.length_append, List.length_take, List.length_drop, hn]
        simp
        omega
      have q2' : Rw (fun t => t < W1.heap.size) WB 34 4 u (M.take i ++ [(⟨did, dsp, dnm, v, dal⟩ : El)] ++ M.drop i).length ((M.take i ++ [(⟨did, dsp, dnm, v, dal⟩ : El)] ++ M.drop i).flatMap El.cs) := by
        rw [hlen, ins_cells, List.append_assoc]
        exact q2
      have oB : Own WB v dal := (oR'.old a3).mv fun t cu ht => q3.block t (Array.getElem?_eq_some_iff.1 ht).1 (fun e => by
        obtain ⟨_, c', h5⟩ := own_blk a2.own e.symm
        rw [ht] at h5
        simp at h5)
      obtain ⟨y1, f1, s1, k1⟩ := h1.newrow bB q2' (fun d hd => by
        rcases List.mem_append.1 hd with hd | hd
        · rcases List.mem_append.1 hd with hd | hd
          · exact (h1.own d (List.take_subset _ _ hd)).old bB
          · simp at hd
            subst hd
            exact oB
        · exact (h1.own d (List.drop_subset _ _ hd)).old bB)
      obtain ⟨oB', cB, rfl, _⟩ := q2'.slice
      refine ⟨hR.blk.cell 0, oA, cA, WA, a1, oB', _, cB, WB, q1, y1, f1, by rw [HZ.out]; simp, ⟨v, ?_⟩, (Keep.old b1).trans k1⟩
      rw [HP.out, if_neg (by omega), show (k : Int).toNat + 1 = i by omega]
      exact s1
    have hcm : c ≤ 9223372036854775807 := by unfold maxLen at hc2; omega
    have d1 : (i : Int) ≤ (c : Int) := by omega
    have d2 : (0 : Int) ≤ (i : Int) := by omega
    have d3 : (i : Int) ≤ (n : Int) := by omega
    have d5 : (n : Int) ≤ (c : Int) := by omega
    have d6 : i ≤ c := by omega
    have d7 : i ≤ n := by omega
    clear h h1 hz HP HZ x1 b1 ha hb hn hi hr hone bd hc1 hc2
    go_enter Tryd.func35, Tryd.ntmps35
    go_upto_region 1 with fail
    rw [HW1.out]
    go_wp2_with fail
    refine kf.mono ?_
    rintro e w' ⟨rfl, hw'⟩
    rw [hw']
    clear hw' kf w'
    go_upto_region 4 with fail
    go_region_law (first
      | (refine step_call1 48 _ _ rfl rfl enters48 _ (by first | (simp [Act.eval]; done) | simp [Act.eval, Act.put]) HC.out ?_; rintro e w1 ⟨ao5, an5, ac5, rfl, y0, y1, oR, nR, cR, WR, hrR, HR⟩; refine ⟨_, rfl, ?_⟩)
      | refine step_append_eq rfl _ _ 26 26 rfl _ _ (by first | (simp [Act.eval]; done) | (simp [Act.eval, Act.put]; done)) (by first | (simp [Act.eval]; done) | (simp [Act.eval, Act.put]; done) | (simp [Act.eval, Act.put, hA]; done)) hrR ?_)
    all_goals
      obtain ⟨cR1, oA, cA, WA, a1, oB, nB, cB, WB, q1, y2, f2, HPU⟩ := HH.out WR oR nR cR HR
      go_wp2_with (first
        | (at_builtin; refine list_append_eq rfl _ _ 26 26 rfl _ _ rfl rfl a1 ?_)
        | (at_builtin; refine list_append_eq rfl _ _ 26 26 rfl _ _ rfl rfl q1 ?_))
      go_ret
      exact HPU.out
end Go.Proofs.YtkmghkfdegdikaaDoor
