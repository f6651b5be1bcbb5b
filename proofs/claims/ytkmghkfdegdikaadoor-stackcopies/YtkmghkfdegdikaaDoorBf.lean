/- Remove, Pop. -/
import Derived.Test.YtkmghkfdegdikaaDoorBe
namespace Go.Proofs.YtkmghkfdegdikaaDoor
open Go.RowKit

/-- A stack, its row's slice left open. -/
def StkE (S : Nat → Prop) (w : World) (x : Nat) (M : List El) : Prop := ∃ rv, Stk S w x rv M
/-- All but a stack's own two blocks. -/
def Rest (w : World) (x : Nat) (rv : Value) (k : Nat) : Prop := k < w.heap.size ∧ k ≠ x ∧ rv.ownBlock ≠ some k
theorem Stk.sub {S U : Nat → Prop} {w : World} {x : Nat} {rv : Value} {M : List El} (h : Stk S w x rv M) (k : ∀ i, U i → S i) : Stk U w x rv M :=
  ⟨fun i hi => h.low i (k i hi), h.blk, fun hx => h.out (k x hx), h.row.sub k, h.own⟩
theorem Stk.rest {S : Nat → Prop} {w : World} {x : Nat} {rv : Value} {M : List El} (h : Stk S w x rv M) : Stk (Rest w x rv) w x rv M :=
  ⟨fun _ hk => hk.1, h.blk, fun hx => hx.2.1 rfl, ⟨h.row.own, fun _ hg hR => hR.2.2 hg⟩, h.own⟩
theorem Stk.in_rest {S : Nat → Prop} {w : World} {x : Nat} {rv : Value} {M : List El} (h : Stk S w x rv M) (k : Nat) (hk : S k) : Rest w x rv k :=
  ⟨h.low k hk, fun e => h.out (e ▸ hk), fun e => h.row.out k e hk⟩
/-- What is left behind Remove. -/
def remP (id : Int) (M : List El) : List El := if fnd id M M.length < 0 then M else M.eraseIdx (fnd id M M.length).toNat
/-- The row of a stack is laid over. -/
theorem Stk.laid {S : Nat → Prop} {w W : World} {x g n c n' c' : Nat} {M N : List El} (h : Stk S w x (.slice (some ⟨g, 0, none⟩) n c) M) (hg : w.grownBy W (some g)) (hr : Rw S W 34 4 (.slice (some ⟨g, 0, none⟩) n' c') N.length (N.flatMap El.cs)) (ho : ∀ d ∈ N, Own w d.av d.al) :
    W.cell? ⟨x, 0, none⟩ = some (.slice (some ⟨g, 0, none⟩) n c) ∧ W.frozen? ⟨x, 0, none⟩ = false ∧ Stk S (W.setCell ⟨x, 0, none⟩ (.slice (some ⟨g, 0, none⟩) n' c')) x (.slice (some ⟨g, 0, none⟩) n' c') N ∧ Keep S w (W.setCell ⟨x, 0, none⟩ (.slice (some ⟨g, 0, none⟩) n' c')) := by
  have hgx : g ≠ x := fun e => by
    obtain ⟨_, c', h5⟩ := own_blk h.row.own (show (Value.slice (some ⟨g, 0, none⟩) n c).ownBlock = some g from rfl)
    have := h.blk
    unfold Bx at this
    rw [e, this] at h5
    simp at h5
  have x3 : Bx W x 55 #[.slice (some ⟨g, 0, none⟩) n c] := (hg.block x h.lt (fun e => hgx (by simpa using e.symm))).trans h.blk
  have sz : (W.setCell ⟨x, 0, none⟩ (.slice (some ⟨g, 0, none⟩) n' c')).heap.size = W.heap.size := World.size_setCell _ _ _
  have kk : ∀ k, k < w.heap.size → k ≠ g → k ≠ x → (W.setCell ⟨x, 0, none⟩ (.slice (some ⟨g, 0, none⟩) n' c')).heap[k]? = w.heap[k]? := fun k h1 h2 h3 =>
    (heap_setCell_other W ⟨x, 0, none⟩ k _ h3).trans (hg.block k h1 (fun e => h2 (by simpa using e)))
  refine ⟨x3.cell 0, x3.frozen 0, ⟨fun k hk => ?_, by have := x3.set 0 (.slice (some ⟨g, 0, none⟩) n' c'); exact this, h.out, hr.mv fun k hk => ?_, fun d hd => (ho d hd).mv fun k cu hk => ?_⟩, ⟨hg.os, hg.tape, hg.output, by rw [sz]; exact hg.size, fun k h1 h2 => kk k h2 (fun e => h.row.out g rfl (e ▸ h1)) (fun e => h.out (e ▸ h1))⟩⟩
  · rw [sz]
    exact Nat.lt_of_lt_of_le (h.low k hk) hg.size
  · simp [Value.ownBlock] at hk
    subst hk
    exact heap_setCell_other W ⟨x, 0, none⟩ g _ hgx
  · refine kk k (Array.getElem?_eq_some_iff.1 hk).1 (fun e => ?_) (fun e => ?_)
    · obtain ⟨_, c', h5⟩ := own_blk h.row.own (show (Value.slice (some ⟨g, 0, none⟩) n c).ownBlock = some g from rfl)
      rw [e, h5] at hk
      simp at hk
    · have := h.blk
      unfold Bx at this
      rw [e, this] at hk
      simp at hk
set_option maxHeartbeats 2000000 in
set_option maxRecDepth 20000 in
theorem remove_any {S : Nat → Prop} {w : World} {x : Nat} {rv : Value} {M : List El} (h : Stk S w x rv M) (hM : M.length ≤ 1000000000) (id : Int) :
    Calls Tryd.prog 24 #[ptr x, iv id] w fun e w' => e = .returned (.bool (decide (0 ≤ fnd id M M.length))) ∧ StkE S w' x (remP id M) ∧ Keep S w w' := by
  have kf := find_any h hM id
  have hb := fnd_le id M M.length
  obtain ⟨z, hz⟩ : ∃ z, fnd id M M.length = z := ⟨_, rfl⟩
  have HP : Hid (remP id M = if z < 0 then M else M.eraseIdx z.toNat) := by
    show remP id M = _
    rw [remP, hz]
  rw [hz] at kf hb ⊢
  by_cases h0 : z < 0
  · obtain rfl : z = -1 := by omega
    have HF : Hid (StkE S w x (remP id M) ∧ Keep S w w) := ⟨⟨rv, by rw [HP.out, if_pos (by decide)]; exact h⟩, Keep.refl _ _⟩
    clear h hM hb hz h0 HP
    go_enter Tryd.func24, Tryd.ntmps24
    go_wp2_with fail
    refine kf.mono ?_
    rintro e w' ⟨rfl, hw'⟩
    rw [hw']
    clear hw' kf
    go_wp2_with fail
    go_ret
    exact ⟨rfl, HF.out⟩
  · obtain ⟨i, rfl⟩ : ∃ i : Nat, z = (i : Int) := ⟨z.toNat, by omega⟩
    obtain ⟨n, hn⟩ : ∃ n, M.length = n := ⟨_, rfl⟩
    rw [hn] at hb hM
    obtain ⟨g, c, cur, hrv, _⟩ := h.row.form (by omega)
    subst hrv
    rw [hn] at h
    have hr := h.row
    rw [hn] at hr
    obtain ⟨j, hj⟩ : ∃ j, j = i + 1 := ⟨_, rfl⟩
    have kd := delete_any hr hn hM (fun d hd => (h.own d hd).one) i j hj (by omega)
    have hji : (i : Int) + 1 = (j : Int) := by omega
    have hjb : j ≤ 1000000000 := by omega
    have hne : ((i : Int) == -1) = false := beq_false_of_ne (by omega)
    have hd0 : decide ((0 : Int) ≤ (i : Int)) = true := decide_eq_true (by omega)
    have cx : w.cell? ⟨x, 0, none⟩ = some (.slice (some ⟨g, 0, none⟩) n c) := h.blk.cell 0
    have HH : Hid (Stk S w x (.slice (some ⟨g, 0, none⟩) n c) M ∧ M.length = n ∧ remP id M = M.eraseIdx i ∧ i < n) := ⟨h, hn, by rw [HP.out, if_neg h0]; rfl, by omega⟩
    rw [hd0]
    clear h hr hn hz h0 HP hj hd0 hb
    go_enter Tryd.func24, Tryd.ntmps24
    go_wp2_with fail
    refine kf.mono ?_
    rintro e w' ⟨rfl, hw'⟩
    rw [hw']
    clear hw' kf w'
    go_wp2_with fail
    refine kd.mono ?_
    rintro e w2 ⟨p, hpn, rfl, r2, g2⟩
    have hlen : (M.eraseIdx i).length = p := by
      rw [List.length_eraseIdx, if_pos (by rw [HH.out.2.1]; exact HH.out.2.2.2), HH.out.2.1]
      omega
    rw [← hlen] at r2
    obtain ⟨y0, f0, s3, k3⟩ := HH.out.1.laid g2 r2 (fun d hd => HH.out.1.own d (List.eraseIdx_subset hd))
    rw [hlen] at s3 k3
    have HF : Hid (StkE S (w2.setCell ⟨x, 0, none⟩ (.slice (some ⟨g, 0, none⟩) p c)) x (remP id M) ∧ Keep S w (w2.setCell ⟨x, 0, none⟩ (.slice (some ⟨g, 0, none⟩) p c))) := ⟨⟨_, by rw [HH.out.2.2.1]; exact s3⟩, k3⟩
    clear kd r2 g2 s3 k3 hlen hpn cx
    go_wp2_with fail
    go_ret
    exact ⟨rfl, HF.out⟩
set_option maxHeartbeats 1000000 in
theorem pop_none {S : Nat → Prop} {w : World} {x : Nat} {rv : Value} (h : Stk S w x rv []) : Calls Tryd.prog 22 #[ptr x] w fun e w' => e = .returned noEl ∧ Below w.heap.size w w' := by
  obtain ⟨W1, hW1, x1, b1⟩ := zbox w
  have HW1 : Hid _ := hW1
  have ks := size_any (h.old b1)
  have kc := cut_neg W1 (ptr x) (-1) (by decide)
  have y0 : W1.cell? ⟨w.heap.size, 0, none⟩ = some (iv 0) := x1.cell 0
  have y1 : W1.cell? ⟨w.heap.size, 1, none⟩ = some (iv 0) := x1.cell 1
  have y2 : W1.cell? ⟨w.heap.size, 2, none⟩ = some (.string ⟨#[]⟩) := x1.cell 2
  have y3 : W1.cell? ⟨w.heap.size, 3, none⟩ = some (.slice none 0 0) := x1.cell 3
  have f0 := x1.frozen 0
  have f1 := x1.frozen 1
  have f2 := x1.frozen 2
  have f3 := x1.frozen 3
  have HP : Hid _ := And.intro (x1.put4 (iv 0) (iv 0) (.string ⟨#[]⟩) (.slice none 0 0)) (below_put4 b1 (Nat.le_refl _) (iv 0) (iv 0) (.string ⟨#[]⟩) (.slice none 0 0))
  clear hW1 x1 b1 h
  go_enter Tryd.func22, Tryd.ntmps22
  go_upto_region 1 with fail
  rw [HW1.out]
  go_wp2_with fail
  refine ks.mono ?_
  rintro e w' ⟨rfl, hw'⟩
  rw [hw']
  clear hw' ks
  go_wp2_with fail
  refine kc.mono ?_
  rintro e w' ⟨rfl, hw'⟩
  rw [hw']
  clear hw' kc
  go_wp2_with fail
  refine bodyPost_ret (results34b Tryd.results22 rfl rfl HP.out.1) rfl ?_
  exact ⟨rfl, HP.out.2⟩
/-- A row of a stack stands where four cells of a new box are written. -/
theorem Stk.box4 {S : Nat → Prop} {w : World} {x y : Nat} {rv : Value} {M : List El} (h : Stk S w x rv M) (hy : ¬ S y) {a : Array Value} (hb : Bx w y 34 a) (hry : rv.ownBlock ≠ some y) (u0 u1 u2 u3 : Value) :
    Stk S ((((w.setCell ⟨y, 0, none⟩ u0).setCell ⟨y, 1, none⟩ u1).setCell ⟨y, 2, none⟩ u2).setCell ⟨y, 3, none⟩ u3) x rv M ∧ Keep S w ((((w.setCell ⟨y, 0, none⟩ u0).setCell ⟨y, 1, none⟩ u1).setCell ⟨y, 2, none⟩ u2).setCell ⟨y, 3, none⟩ u3) := by
  have hxy : x ≠ y := fun e => by
    have := h.blk
    unfold Bx at this hb
    rw [e, hb] at this
    simp at this
  have sz : ((((w.setCell ⟨y, 0, none⟩ u0).setCell ⟨y, 1, none⟩ u1).setCell ⟨y, 2, none⟩ u2).setCell ⟨y, 3, none⟩ u3).heap.size = w.heap.size := by simp
  refine ⟨⟨fun k hk => by rw [sz]; exact h.low k hk, (Sm4 w y 0 _ _ _ _ x hxy).trans h.blk, h.out, h.row.mv fun k hk => Sm4 w y 0 _ _ _ _ k (fun e => hry (e ▸ hk)), fun d hd => (h.own d hd).mv fun k cu hk => Sm4 w y 0 _ _ _ _ k (fun e => ?_)⟩, ⟨rfl, rfl, rfl, by rw [sz]; exact Nat.le_refl _, fun k hk _ => Sm4 w y 0 _ _ _ _ k (fun e => hy (e ▸ hk))⟩⟩
  unfold Bx at hb
  rw [e, hb] at hk
  simp at hk
set_option maxHeartbeats 2000000 in
set_option maxRecDepth 20000 in
theorem pop_any {S : Nat → Prop} {w : World} {x : Nat} {rv : Value} {M : List El} (h : Stk S w x rv M) {m : Nat} {d : El} (hm : M.length = m + 1) (hd : M[m]? = some d) (hM : m ≤ 100000000) :
    Calls Tryd.prog 22 #[ptr x] w fun e w' => e = .returned (.tuple #[.agg d.arr, .bool true]) ∧ Own w' d.av d.al ∧ StkE S w' x (M.take m) ∧ Keep S w w' := by
  obtain ⟨W1, hW1, x1, b1⟩ := zbox w
  have HW1 : Hid _ := hW1
  have h1 := h.old b1
  have ks := size_any h1
  have kc := cut_at h1.rest (by omega) m (by omega) (m : Int) rfl
  obtain ⟨n, hn⟩ : ∃ n, M.length = n := ⟨_, rfl⟩
  rw [hn] at ks hm
  have hz : (n : Int) - 1 = (m : Int) := by omega
  have HX : Hid (Bx W1 w.heap.size 34 #[iv 0, iv 0, .string ⟨#[]⟩, .slice none 0 0] ∧ Below w.heap.size w W1 ∧ M.length = n ∧ n = m + 1 ∧ M[m]? = some d ∧ (∀ k, S k → k < w.heap.size) ∧ Stk S W1 x rv M ∧ Stk S w x rv M) := ⟨x1, b1, hn, hm, hd, h.low, h1, h⟩
  have hmn : m < n := by omega
  clear h h1 x1 b1 hW1 hn hm hd
  go_enter Tryd.func22, Tryd.ntmps22
  go_upto_region 1 with fail
  rw [HW1.out]
  go_wp2_with fail
  refine ks.mono ?_
  rintro e w' ⟨rfl, hw'⟩
  rw [hw']
  clear hw' ks w'
  go_wp2_with fail
  refine kc.mono ?_
  rintro e w2 ⟨v, rv2, rfl, s2, k2, r2, o2⟩
  have hdr : (M.drop m).reverse = [d] := by
    have h1 := HX.out.2.2.1
    have h2 := HX.out.2.2.2.1
    have h3 := HX.out.2.2.2.2.1
    rw [List.drop_eq_getElem_cons (by omega), List.drop_of_length_le (by omega)]
    have := List.getElem?_eq_getElem (show m < M.length by omega)
    rw [h3] at this
    injection this with e
    rw [← e]
    rfl
  rw [hdr, HX.out.2.2.1, show n - m = 1 by have := HX.out.2.2.2.1; omega] at r2
  obtain ⟨g, cp, cur, rfl, hgS, _, hgb, hc1, hc2, _⟩ := r2.form (by decide)
  have od := o2 d (List.mem_of_getElem? HX.out.2.2.2.2.1)
  obtain ⟨ao, ac, hav, _⟩ := od.1.slice
  have q0 : w2.cell? ⟨g, 0, none⟩ = some (iv d.id) := r2.cell (j := 0) rfl
  have q1 : w2.cell? ⟨g, 1, none⟩ = some (iv d.sp) := r2.cell (j := 1) rfl
  have q2 : w2.cell? ⟨g, 2, none⟩ = some (.string d.nm) := r2.cell (j := 2) rfl
  have q3 : w2.cell? ⟨g, 3, none⟩ = some d.av := r2.cell (j := 3) rfl
  have hnotS : ¬ S w.heap.size := fun e => by have := HX.out.2.2.2.2.2.1 _ e; omega
  have hyl : w.heap.size < W1.heap.size := HX.out.1.lt
  have hxw : x ≠ w.heap.size := fun e => by
    have h1 := HX.out.2.2.2.2.2.2.1.blk
    have h2 := HX.out.1
    unfold Bx at h1 h2
    rw [e, h2] at h1
    simp at h1
  obtain ⟨id, sp, nm, av, al⟩ := d
  simp only at q0 q1 q2 q3 hav
  subst hav
  have hyR : Rest W1 x rv w.heap.size := ⟨hyl, fun e => hxw e.symm, fun e => by
    obtain ⟨q1, _⟩ := own_blk (HX.out.2.2.2.2.2.2.2).row.own e
    omega⟩
  have y2 : Bx w2 w.heap.size 34 #[iv 0, iv 0, .string ⟨#[]⟩, .slice none 0 0] := (k2.block _ hyR hyl).trans HX.out.1
  have hry : rv2.ownBlock ≠ some w.heap.size := fun e => s2.row.out _ e hyR
  have s3 := s2.sub (U := S) fun i hi => HX.out.2.2.2.2.2.2.1.in_rest i hi
  have k3 : Keep S w w2 := (Keep.old HX.out.2.1).trans (k2.sub fun i hi => HX.out.2.2.2.2.2.2.1.in_rest i hi)
  obtain ⟨s4, k4⟩ := s3.box4 hnotS y2 hry (iv id) (iv sp) (.string nm) (.slice ao al.length ac)
  have HF : Hid (Bx ((((w2.setCell ⟨w.heap.size, 0, none⟩ (iv id)).setCell ⟨w.heap.size, 1, none⟩ (iv sp)).setCell ⟨w.heap.size, 2, none⟩ (.string nm)).setCell ⟨w.heap.size, 3, none⟩ (.slice ao al.length ac)) w.heap.size 34 #[iv id, iv sp, .string nm, .slice ao al.length ac] ∧ Own ((((w2.setCell ⟨w.heap.size, 0, none⟩ (iv id)).setCell ⟨w.heap.size, 1, none⟩ (iv sp)).setCell ⟨w.heap.size, 2, none⟩ (.string nm)).setCell ⟨w.heap.size, 3, none⟩ (.slice ao al.length ac)) (.slice ao al.length ac) al ∧ StkE S ((((w2.setCell ⟨w.heap.size, 0, none⟩ (iv id)).setCell ⟨w.heap.size, 1, none⟩ (iv sp)).setCell ⟨w.heap.size, 2, none⟩ (.string nm)).setCell ⟨w.heap.size, 3, none⟩ (.slice ao al.length ac)) x (M.take m) ∧ Keep S w ((((w2.setCell ⟨w.heap.size, 0, none⟩ (iv id)).setCell ⟨w.heap.size, 1, none⟩ (iv sp)).setCell ⟨w.heap.size, 2, none⟩ (.string nm)).setCell ⟨w.heap.size, 3, none⟩ (.slice ao al.length ac))) :=
    ⟨y2.put4 _ _ _ _, od.mv fun k cu hk => Sm4 w2 w.heap.size 0 _ _ _ _ k (fun e => by
      have := y2
      unfold Bx at this
      rw [e, this] at hk
      simp at hk), ⟨_, s4⟩, k3.trans k4⟩
  have y0 : w2.cell? ⟨w.heap.size, 0, none⟩ = some (iv 0) := y2.cell 0
  have y1 : w2.cell? ⟨w.heap.size, 1, none⟩ = some (iv 0) := y2.cell 1
  have y2' : w2.cell? ⟨w.heap.size, 2, none⟩ = some (.string ⟨#[]⟩) := y2.cell 2
  have y3 : w2.cell? ⟨w.heap.size, 3, none⟩ = some (.slice none 0 0) := y2.cell 3
  have f0 := y2.frozen 0
  have f1 := y2.frozen 1
  have f2 := y2.frozen 2
  have f3 := y2.frozen 3
  clear y2 hry s2 k2 r2 o2 s3 k3 s4 k4 od hgS hgb hdr hyR kc hz hmn hxw hyl
  go_wp2_with fail
  refine bodyPost_ret (results34b Tryd.results22 rfl rfl HF.out.1) rfl ?_
  exact ⟨rfl, HF.out.2⟩
end Go.Proofs.YtkmghkfdegdikaaDoor
