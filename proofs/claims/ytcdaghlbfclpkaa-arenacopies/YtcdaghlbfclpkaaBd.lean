/- A tree, laid out node by node: Tree. -/
import Derived.Test.YtcdaghlbfclpkaaBc
namespace Go.Proofs.Ytcdaghlbfclpkaa
open Go.RowKit

/-- A tree as it is answered. -/
abbrev Treed (N : List Nd) (K : Nat → List Nat) (d : Nd) (i : Nat) (w : World) (e : Ending) (w' : World) : Prop :=
  ∃ ao ac kp kc kb, e = .returned (.agg #[(iv d.id), (iv d.kind), (iv d.space), (.string d.name), (.string d.text), (.slice ao d.al.length ac), (iv d.sf), (iv d.st), (iv d.ef), (iv d.et), (.slice kp (K i).length kc)]) ∧ Below w.heap.size w w' ∧ Rw (fun k => k < w.heap.size) w' 53 2 (.slice ao d.al.length ac) d.al.length (d.al.flatMap At.cells) ∧ (K i ≠ [] → kp = some ⟨kb, 0, none⟩) ∧ ∀ j k, (K i)[j]? = some k → TAt w.heap.size w' N K k kb (j * 11)
/-- The outer loop. -/
def LI (W0 : World) (N : List Nd) (K : Nat → List Nat) (sz : Nat → Nat) (r id : Nat) (g2 : Nat) (lv : Value) (wr : World) : Prop :=
  ∃ (Dn : Nat → Nat → Nat → Prop) (Q : List Spt), szs sz Q = g2 ∧ g2 ≤ sz id ∧ Rw (fun k => k < W0.heap.size) wr 81 1 lv Q.length (Q.map qv) ∧ TI W0.heap.size wr N K r id Dn Q ∧ Below W0.heap.size W0 wr
/-- The kids made so far. -/
def LK (w1 : World) (b p : Nat) (cur : Array Value) (N : List Nd) (L : List Nat) (j : Nat) (wr : World) : Prop :=
  ∃ M v, KR w1 wr b p cur M v ∧ M.length = j ∧ ∀ t k : Nat, t < j → L[t]? = some k → ∃ (d : Nd) (av : Value), N[k]? = some d ∧ M[t]? = some { d with av := av }
def LJ (w1 : World) (b p : Nat) (cur : Array Value) (N : List Nd) (L : List Nat) (g2 : Nat) (jv : Value) (wr : World) : Prop :=
  ∃ j : Nat, jv = iv (j : Int) ∧ j + g2 = L.length ∧ LK w1 b p cur N L j wr
theorem LK.more {w1 W : World} {b p j kj : Nat} {cur : Array Value} {N : List Nd} {L : List Nat} {M : List Nd} {dk : Nd} {av v' : Value} (hm : M.length = j) (hM : ∀ t k : Nat, t < j → L[t]? = some k → ∃ (d : Nd) (av : Value), N[k]? = some d ∧ M[t]? = some { d with av := av }) (hj : L[j]? = some kj) (hd : N[kj]? = some dk) (k : KR w1 W b p cur (M ++ [{ dk with av := av }]) v') : LK w1 b p cur N L (j + 1) W := by
  refine ⟨_, _, k, by simp [hm], fun t k ht hk => ?_⟩
  by_cases e : t = j
  · subst e
    rw [hj] at hk
    simp at hk
    subst hk
    exact ⟨dk, av, hd, by rw [List.getElem?_append_right (by omega), hm]; simp⟩
  · obtain ⟨d, a, h1, h2⟩ := hM t k (by omega) hk
    exact ⟨d, a, h1, by rw [List.getElem?_append_left (by omega)]; exact h2⟩
theorem LK.next {w1 W : World} {b p j q : Nat} {cur : Array Value} {N : List Nd} {L : List Nat} (hq : j + (q + 1) = L.length) (h : LK w1 b p cur N L (j + 1) W) : LJ w1 b p cur N L q (iv ((j : Int) + 1)) W := ⟨j + 1, by simp, by omega, h⟩
/-- What is left, the new kids behind it. -/
def LL (W0 : World) (N : List Nd) (K : Nat → List Nat) (r id : Nat) (Dn : Nat → Nat → Nat → Prop) (Q : List Spt) (kb : Nat) (L : List Nat) (g2 : Nat) (lv jv : Value) (wr : World) : Prop :=
  ∃ j : Nat, jv = iv (j : Int) ∧ j + g2 = L.length ∧ Rw (fun k => k < W0.heap.size) wr 81 1 lv (Q ++ news kb L j).length ((Q ++ news kb L j).map qv) ∧ TI W0.heap.size wr N K r id Dn (Q ++ news kb L L.length) ∧ Below W0.heap.size W0 wr

theorem Rw.kr {S : Nat → Prop} {w1 wr : World} {b o e s n : Nat} {cur : Array Value} {M : List Nd} {v u : Value} {xs : List Value} (h : Rw S w1 e s u n xs) (k : KR w1 wr b o cur M v) (he : e ≠ 35) : Rw S wr e s u n xs := h.mv fun g hg => by
  obtain ⟨h1, c, h2⟩ := own_blk h.own hg
  refine k.oth g h1 (fun e' => ?_)
  rw [e', k.was] at h2
  simp at h2
  exact he h2.2.symm
theorem LL.step {W0 wr : World} {N : List Nd} {K : Nat → List Nat} {r id j g2 qb : Nat} {Dn : Nat → Nat → Nat → Prop} {Q : List Spt} {kb : Nat} {L : List Nat} {lv : Value} {W' : World} {v' : Value} {cq : Array Value} (hj : j + (g2 + 1) = L.length) (hr : Rw (fun k => k < W0.heap.size) wr 81 1 lv (Q ++ news kb L j).length ((Q ++ news kb L j).map qv)) (ht : TI W0.heap.size wr N K r id Dn (Q ++ news kb L L.length)) (hb : Below W0.heap.size W0 wr) (hq : wr.heap[qb]? = some (.cells cq 35 (0, 0)))
    (h' : Rw (fun k => k < W0.heap.size) W' 81 1 v' (Q ++ news kb L j ++ [(L.getD j 0, kb, j * 11)]).length ((Q ++ news kb L j ++ [(L.getD j 0, kb, j * 11)]).map qv)) (g : wr.grownBy W' lv.ownBlock) :
    LL W0 N K r id Dn Q kb L g2 v' (iv ((j : Int) + 1)) W' ∧ W'.heap[qb]? = some (.cells cq 35 (0, 0)) := by
  have hk : ∀ (k : Nat) (cur : Array Value) (t : Nat), wr.heap[k]? = some (.cells cur t (0, 0)) → t ≠ 81 → W'.heap[k]? = wr.heap[k]? := fun k cur t h1 h2 => g.block k (Array.getElem?_eq_some_iff.1 h1).1 (fun e => by
    obtain ⟨_, c, h3⟩ := own_blk hr.own e.symm
    rw [h1] at h3
    simp at h3
    exact h2 h3.2)
  refine ⟨⟨j + 1, by simp, by omega, by rw [news_succ, ← List.append_assoc]; exact h', ht.same (fun k cur t h1 _ h2 => hk k cur t h1 h2), grown_low hb rfl hr g⟩, (hk qb _ _ hq (by decide)).trans hq⟩

set_option maxHeartbeats 4000000 in
set_option maxRecDepth 20000 in
theorem tree_any {S : Nat → Prop} {w : World} {x g n cn h cs k ce : Nat} {N : List Nd} {P : List Sp} {E : List En} (o : Op3 S w x g n cn h cs k ce N P E) {K : Nat → List Nat} {sz : Nat → Nat} (f : Fam n N P E K sz) {i : Nat} {d : Nd} (hd : N[i]? = some d) (hz : sz i ≤ 1000000000) :
    Calls Try.prog 20 #[ptr x, iv (i : Int)] w (Treed N K d i w) := by
  have hi : i < n := by rw [← o.nn]; exact (List.getElem?_eq_some_iff.1 hd).1
  have hi2 : (i : Int) < (n : Int) := by omega
  have b0 : Below w.heap.size w (w.alloc (.cells #[Value.int IntKind.i64 0, Value.int IntKind.i64 0, Value.int IntKind.i64 0, Value.string { data := #[] }, Value.string { data := #[] }, Value.slice none 0 0, Value.int IntKind.i64 0, Value.int IntKind.i64 0, Value.int IntKind.i64 0, Value.int IntKind.i64 0, Value.slice none 0 0] 35)) := (Below.refl _ _).alloc (Nat.le_refl _) _
  have n0 : Bx (w.alloc (.cells #[Value.int IntKind.i64 0, Value.int IntKind.i64 0, Value.int IntKind.i64 0, Value.string { data := #[] }, Value.string { data := #[] }, Value.slice none 0 0, Value.int IntKind.i64 0, Value.int IntKind.i64 0, Value.int IntKind.i64 0, Value.int IntKind.i64 0, Value.slice none 0 0] 35)) w.heap.size #[Value.int IntKind.i64 0, Value.int IntKind.i64 0, Value.int IntKind.i64 0, Value.string { data := #[] }, Value.string { data := #[] }, Value.slice none 0 0, Value.int IntKind.i64 0, Value.int IntKind.i64 0, Value.int IntKind.i64 0, Value.int IntKind.i64 0, Value.slice none 0 0] := heap_alloc_new w _
  obtain ⟨W0, hW0⟩ : ∃ W0, w.alloc (.cells #[Value.int IntKind.i64 0, Value.int IntKind.i64 0, Value.int IntKind.i64 0, Value.string { data := #[] }, Value.string { data := #[] }, Value.slice none 0 0, Value.int IntKind.i64 0, Value.int IntKind.i64 0, Value.int IntKind.i64 0, Value.int IntKind.i64 0, Value.slice none 0 0] 35) = W0 := ⟨_, rfl⟩
  have HW0 : Hid (w.alloc (.cells #[Value.int IntKind.i64 0, Value.int IntKind.i64 0, Value.int IntKind.i64 0, Value.string { data := #[] }, Value.string { data := #[] }, Value.slice none 0 0, Value.int IntKind.i64 0, Value.int IntKind.i64 0, Value.int IntKind.i64 0, Value.int IntKind.i64 0, Value.slice none 0 0] 35) = W0) := hW0
  rw [hW0] at b0 n0
  clear hW0
  have o0 : Op3 S W0 x g n cn h cs k ce N P E := o.old b0
  have kh := has_any o0 (i : Int)
  rw [isN_lt hi] at kh
  have ks := single_any o0 hd (f.al d (List.mem_of_getElem? hd))
  have HO : Hid (Op3 S W0 x g n cn h cs k ce N P E ∧ Fam n N P E K sz ∧ N[i]? = some d ∧ sz i ≤ 1000000000 ∧ Below w.heap.size w W0 ∧ Bx W0 w.heap.size #[Value.int IntKind.i64 0, Value.int IntKind.i64 0, Value.int IntKind.i64 0, Value.string { data := #[] }, Value.string { data := #[] }, Value.slice none 0 0, Value.int IntKind.i64 0, Value.int IntKind.i64 0, Value.int IntKind.i64 0, Value.int IntKind.i64 0, Value.slice none 0 0] ∧ w.heap.size < W0.heap.size) := ⟨o0, f, hd, hz, b0, n0, n0.lt⟩
  clear o f hd hz b0 n0 o0
  go_enter Try.func20, Try.ntmps20
  go_upto_region 1 with fail
  rw [HW0.out]
  go_wp2_with fail
  refine kh.mono ?_
  rintro e1 w1 ⟨rfl, h1⟩
  rw [h1]
  clear h1
  go_wp2_with fail
  refine ks.mono ?_
  rintro e2 w2 ⟨ao, ac, rfl, b2, hr⟩
  have HR : Hid (∀ S : Nat → Prop, (∀ k, S k → k < W0.heap.size) → Rw S w2 53 2 (.slice ao d.al.length ac) d.al.length (d.al.flatMap At.cells)) := hr
  have HB2 : Hid (Below W0.heap.size W0 w2) := b2
  clear hr b2 ks kh
  go_upto_region 4 with fail
  have b3 : Below w2.heap.size w2 (w2.alloc (.cells #[(iv d.id), (iv d.kind), (iv d.space), (.string d.name), (.string d.text), (.slice ao d.al.length ac), (iv d.sf), (iv d.st), (iv d.ef), (iv d.et), (.slice none 0 0)] 35)) := (Below.refl _ _).alloc (Nat.le_refl _) _
  have n3 : Bx (w2.alloc (.cells #[(iv d.id), (iv d.kind), (iv d.space), (.string d.name), (.string d.text), (.slice ao d.al.length ac), (iv d.sf), (iv d.st), (iv d.ef), (iv d.et), (.slice none 0 0)] 35)) w2.heap.size #[(iv d.id), (iv d.kind), (iv d.space), (.string d.name), (.string d.text), (.slice ao d.al.length ac), (iv d.sf), (iv d.st), (iv d.ef), (iv d.et), (.slice none 0 0)] := heap_alloc_new w2 _
  generalize hW3 : w2.alloc (.cells #[(iv d.id), (iv d.kind), (iv d.space), (.string d.name), (.string d.text), (.slice ao d.al.length ac), (iv d.sf), (iv d.st), (iv d.ef), (iv d.et), (.slice none 0 0)] 35) = W3 at *
  clear hW3
  go_upto_region 5 with fail
  have b4 : Below W3.heap.size W3 (W3.alloc (.cells #[qv (i, w2.heap.size, 0)] 81)) := (Below.refl _ _).alloc (Nat.le_refl _) _
  have n4 : (W3.alloc (.cells #[qv (i, w2.heap.size, 0)] 81)).heap[W3.heap.size]? = some (.cells #[qv (i, w2.heap.size, 0)] 81 (0, 0)) := heap_alloc_new W3 _
  have HS : Hid (LI W0 N K sz w2.heap.size i (sz i) (.slice (some ⟨W3.heap.size, 0, none⟩) 1 1) (W3.alloc (.cells #[qv (i, w2.heap.size, 0)] 81))) := by
    have q0 : Below W0.heap.size W0 W3 := HB2.out.trans (b3.mono HB2.out.size)
    refine ⟨fun _ _ _ => False, [(i, w2.heap.size, 0)], by simp [szs], Nat.le_refl _, ⟨⟨rfl, .inr ⟨_, 1, _, rfl, Nat.zero_le _, n4, Nat.le_refl _, by unfold maxLen; omega, rfl, rfl⟩⟩, fun g hg hS => ?_⟩, ⟨fun _ _ _ hf => hf.elim, fun i' b' off' hm => ?_, by simp, fun _ _ _ _ hf => hf.elim, .inr (by simp)⟩, q0.trans (b4.mono q0.size)⟩
    · simp [Value.ownBlock] at hg
      have := q0.size
      omega
    · simp at hm
      obtain ⟨rfl, rfl, rfl⟩ := hm
      refine ⟨d, HO.out.2.2.1, NAt.old (w := W3) ?_ b4, rfl⟩
      refine ⟨HB2.out.size, ⟨_, n3⟩, fun j h1 h2 => ?_, n3.cell 10, ao, ac, n3.cell 5, (HR.out _ (fun k hk => hk)).old b3⟩
      rw [Nat.zero_add, n3.cell j]
      match j, h1, h2 with
      | 0, _, _ => rfl
      | 1, _, _ => rfl
      | 2, _, _ => rfl
      | 3, _, _ => rfl
      | 4, _, _ => rfl
      | 6, _, _ => rfl
      | 7, _, _ => rfl
      | 8, _, _ => rfl
      | 9, _, _ => rfl
  clear b3 n3 b4 n4 HR HB2
  go_loopg [6] (sz i) (fun g2 lv wr => LI W0 N K sz w2.heap.size i g2 lv wr)
  case atStart => exact HS.out
  case round =>
    clear HS
    obtain ⟨Dn, Q, hsz, hle, hrow, hti, hbw⟩ := hrel
    rcases List.eq_nil_or_concat Q with rfl | ⟨Q', q, rfl⟩
    · obtain ⟨lo, lc, hlv, _⟩ := hrow.slice
      simp only [List.length_nil] at hlv
      subst hlv
      have hdn : Dn i w2.heap.size 0 := by
        rcases hti.rt with h1 | h1
        · exact h1
        · simp at h1
      obtain ⟨d', kp, kc, kb, hd', hn, _, hkp, hks⟩ := hti.dn _ _ _ hdn
      have hdd : d' = d := by
        have := HO.out.2.2.1
        rw [hd'] at this
        simpa using this
      subst hdd
      obtain ⟨ao2, ac2, h5, hr5⟩ := hn.at5
      have m2 : Bx wr w.heap.size #[Value.int IntKind.i64 0, Value.int IntKind.i64 0, Value.int IntKind.i64 0, Value.string { data := #[] }, Value.string { data := #[] }, Value.slice none 0 0, Value.int IntKind.i64 0, Value.int IntKind.i64 0, Value.int IntKind.i64 0, Value.int IntKind.i64 0, Value.slice none 0 0] := (hbw.block _ HO.out.2.2.2.2.2.2).trans HO.out.2.2.2.2.2.1
      obtain ⟨kl, hkl⟩ : ∃ kl, (K i).length = kl := ⟨_, rfl⟩
      have y0 : wr.cell? ⟨w2.heap.size, 0, none⟩ = some (iv d'.id) := hn.cs 0 (by decide) (by decide)
      have y1 : wr.cell? ⟨w2.heap.size, 1, none⟩ = some (iv d'.kind) := hn.cs 1 (by decide) (by decide)
      have y2 : wr.cell? ⟨w2.heap.size, 2, none⟩ = some (iv d'.space) := hn.cs 2 (by decide) (by decide)
      have y3 : wr.cell? ⟨w2.heap.size, 3, none⟩ = some (.string d'.name) := hn.cs 3 (by decide) (by decide)
      have y4 : wr.cell? ⟨w2.heap.size, 4, none⟩ = some (.string d'.text) := hn.cs 4 (by decide) (by decide)
      have y5 : wr.cell? ⟨w2.heap.size, 5, none⟩ = some (.slice ao2 d'.al.length ac2) := h5
      have y6 : wr.cell? ⟨w2.heap.size, 6, none⟩ = some (iv d'.sf) := hn.cs 6 (by decide) (by decide)
      have y7 : wr.cell? ⟨w2.heap.size, 7, none⟩ = some (iv d'.st) := hn.cs 7 (by decide) (by decide)
      have y8 : wr.cell? ⟨w2.heap.size, 8, none⟩ = some (iv d'.ef) := hn.cs 8 (by decide) (by decide)
      have y9 : wr.cell? ⟨w2.heap.size, 9, none⟩ = some (iv d'.et) := hn.cs 9 (by decide) (by decide)
      have y10 : wr.cell? ⟨w2.heap.size, 10, none⟩ = some (.slice kp kl kc) := by rw [← hkl]; exact hn.c10
      have x0 : wr.cell? ⟨w.heap.size, 0, none⟩ = some (iv 0) := m2.cell 0
      have f0 := m2.frozen 0
      have x1 : wr.cell? ⟨w.heap.size, 1, none⟩ = some (iv 0) := m2.cell 1
      have f1 := m2.frozen 1
      have x2 : wr.cell? ⟨w.heap.size, 2, none⟩ = some (iv 0) := m2.cell 2
      have f2 := m2.frozen 2
      have x3 : wr.cell? ⟨w.heap.size, 3, none⟩ = some (.string { data := #[] }) := m2.cell 3
      have f3 := m2.frozen 3
      have x4 : wr.cell? ⟨w.heap.size, 4, none⟩ = some (.string { data := #[] }) := m2.cell 4
      have f4 := m2.frozen 4
      have x5 : wr.cell? ⟨w.heap.size, 5, none⟩ = some (.slice none 0 0) := m2.cell 5
      have f5 := m2.frozen 5
      have x6 : wr.cell? ⟨w.heap.size, 6, none⟩ = some (iv 0) := m2.cell 6
      have f6 := m2.frozen 6
      have x7 : wr.cell? ⟨w.heap.size, 7, none⟩ = some (iv 0) := m2.cell 7
      have f7 := m2.frozen 7
      have x8 : wr.cell? ⟨w.heap.size, 8, none⟩ = some (iv 0) := m2.cell 8
      have f8 := m2.frozen 8
      have x9 : wr.cell? ⟨w.heap.size, 9, none⟩ = some (iv 0) := m2.cell 9
      have f9 := m2.frozen 9
      have x10 : wr.cell? ⟨w.heap.size, 10, none⟩ = some (.slice none 0 0) := m2.cell 10
      have f10 := m2.frozen 10
      have HR : Hid (Bx (((((((((((wr.setCell ⟨w.heap.size, 0, none⟩ (iv d'.id)).setCell ⟨w.heap.size, 1, none⟩ (iv d'.kind)).setCell ⟨w.heap.size, 2, none⟩ (iv d'.space)).setCell ⟨w.heap.size, 3, none⟩ (.string d'.name)).setCell ⟨w.heap.size, 4, none⟩ (.string d'.text)).setCell ⟨w.heap.size, 5, none⟩ (.slice ao2 d'.al.length ac2)).setCell ⟨w.heap.size, 6, none⟩ (iv d'.sf)).setCell ⟨w.heap.size, 7, none⟩ (iv d'.st)).setCell ⟨w.heap.size, 8, none⟩ (iv d'.ef)).setCell ⟨w.heap.size, 9, none⟩ (iv d'.et)).setCell ⟨w.heap.size, 10, none⟩ (.slice kp kl kc)) w.heap.size #[(iv d'.id), (iv d'.kind), (iv d'.space), (.string d'.name), (.string d'.text), (.slice ao2 d'.al.length ac2), (iv d'.sf), (iv d'.st), (iv d'.ef), (iv d'.et), (.slice kp kl kc)] ∧ Treed N K d' i w (.returned (.agg #[(iv d'.id), (iv d'.kind), (iv d'.space), (.string d'.name), (.string d'.text), (.slice ao2 d'.al.length ac2), (iv d'.sf), (iv d'.st), (iv d'.ef), (iv d'.et), (.slice kp kl kc)])) (((((((((((wr.setCell ⟨w.heap.size, 0, none⟩ (iv d'.id)).setCell ⟨w.heap.size, 1, none⟩ (iv d'.kind)).setCell ⟨w.heap.size, 2, none⟩ (iv d'.space)).setCell ⟨w.heap.size, 3, none⟩ (.string d'.name)).setCell ⟨w.heap.size, 4, none⟩ (.string d'.text)).setCell ⟨w.heap.size, 5, none⟩ (.slice ao2 d'.al.length ac2)).setCell ⟨w.heap.size, 6, none⟩ (iv d'.sf)).setCell ⟨w.heap.size, 7, none⟩ (iv d'.st)).setCell ⟨w.heap.size, 8, none⟩ (iv d'.ef)).setCell ⟨w.heap.size, 9, none⟩ (iv d'.et)).setCell ⟨w.heap.size, 10, none⟩ (.slice kp kl kc))) := by
        rw [← hkl]
        refine ⟨m2.put _ _ _ _ _ _ _ _ _ _ _, ao2, ac2, kp, kc, kb, rfl, below_put (HO.out.2.2.2.2.1.trans (hbw.mono HO.out.2.2.2.2.1.size)) (Nat.le_refl _) _ _ _ _ _ _ _ _ _ _ _, ?_, hkp, fun j k hj => ?_⟩
        · exact (hr5.sub (fun k hk => Nat.lt_trans hk HO.out.2.2.2.2.2.2)).off (b := w.heap.size) (fun g _ hg => put_other wr w.heap.size _ _ _ _ _ _ _ _ _ _ _ g hg) m2 (by decide)
        · have hd2 : Dn k kb (j * 11) := by
            rcases hks j k hj with h1 | h1
            · exact h1
            · simp at h1
          have t := hti.tree HO.out.2.1.lt (sz k + 1) k kb (j * 11) (Nat.lt_succ_self _) hd2
          have hlow : w.heap.size ≤ W0.heap.size := Nat.le_of_lt HO.out.2.2.2.2.2.2
          exact (t.mv (fun k' cur t hk1 hk2 _ => put_other wr w.heap.size _ _ _ _ _ _ _ _ _ _ _ k' (by have := HO.out.2.2.2.2.2.2; omega))).low hlow
      clear hti hrow hbw hn hks hkp hr5 m2 hd' h5 hdn hkl
      go_wp2_with fail
      refine bodyPost_ret (results_cell_row rfl _ _ w.heap.size 35 _ (0, 0) _ rfl HR.out.1 Try.underlying35 rfl size35) rfl ?_
      exact HR.out.2
    · rw [List.concat_eq_append] at hsz hrow hti
      obtain ⟨qi, qb, qo⟩ := q
      obtain ⟨m, hm⟩ : ∃ m, Q'.length = m := ⟨_, rfl⟩
      obtain ⟨m1, hm1⟩ : ∃ m1, m + 1 = m1 := ⟨_, rfl⟩
      have hlen : (Q' ++ [(qi, qb, qo)]).length = m1 := by rw [List.length_append, hm]; simpa using hm1
      rw [hlen] at hrow
      obtain ⟨lg, lc, _, hlv, _, _, _, hl1, hl2, _⟩ := hrow.form (by omega)
      subst hlv
      have hl3 : m1 ≤ lc := hl1
      clear hl1 hl2
      have hcell : wr.cell? ⟨lg, m, none⟩ = some (.pointer (some ⟨qb, qo, none⟩)) := hrow.cell (by rw [List.getElem?_map, List.getElem?_append_right (by omega), hm]; simp [qv])
      have hrow2 : Rw (fun k => k < W0.heap.size) wr 81 1 (.slice (some ⟨lg, 0, none⟩) m lc) m (Q'.map qv) := by
        rw [← hm1, List.map_append] at hrow
        exact hrow.init
      obtain ⟨dq, hdq, hnq, hoq⟩ := hti.pn qi qb qo (by simp)
      have hidq := HO.out.2.1.ids qi dq hdq
      have c0 : wr.cell? ⟨qb, qo, none⟩ = some (iv (qi : Int)) := by rw [← hidq]; exact hnq.cs 0 (by decide) (by decide)
      have hqn : qi < n := by rw [← HO.out.1.nn]; exact (List.getElem?_eq_some_iff.1 hdq).1
      have or := HO.out.1.old hbw
      obtain ⟨eq, heq⟩ := or.enAt hqn
      have kk := kids_any or heq (HO.out.2.1.ch qi eq heq) (HO.out.2.1.ln qi)
      have hmb : m ≤ 1000000000 := by
        have h1 := szs_len (sz := sz) (Q := Q' ++ [(qi, qb, qo)]) (fun q _ => Nat.one_le_of_lt (HO.out.2.1.dn q.1))
        have := HO.out.2.2.2.1
        omega
      have h0 : (0 : Int) < (m1 : Int) := by omega
      have hw : IntKind.i64.wrap ((m1 : Int) - 1) = (m : Int) := by rw [IntKind.wrap_i64]; omega
      have hlt : (m : Int) < (m1 : Int) := by omega
      have hlt2 : (m : Int) ≤ (lc : Int) := by omega
      have HT : Hid (TI W0.heap.size wr N K w2.heap.size i Dn (Q' ++ [(qi, qb, qo)]) ∧ Rw (fun k => k < W0.heap.size) wr 81 1 (.slice (some ⟨lg, 0, none⟩) m lc) m (Q'.map qv) ∧ Below W0.heap.size W0 wr ∧ szs sz (Q' ++ [(qi, qb, qo)]) = gk ∧ gk ≤ sz i ∧ Q'.length = m ∧ N[qi]? = some dq ∧ NAt W0.heap.size wr dq qb qo (.slice none 0 0) ∧ m ≤ 1000000000) := ⟨hti, hrow2, hbw, hsz, hle, hm, hdq, hnq, hmb⟩
      clear hti hrow hrow2 hbw hsz hle hm hlen hm1 hdq hnq hidq or heq hqn hoq hmb hl3
      obtain ⟨L, hL⟩ : ∃ L, K qi = L := ⟨_, rfl⟩
      rw [hL] at kk
      have HL : Hid (K qi = L) := hL
      clear hL
      go_upto_region 8 with fail
      clear h0 hw hlt hlt2 hcell
      go_wp2_with fail
      refine kk.mono ?_
      rintro e1 wk ⟨kv, rfl, bk, hkr⟩
      obtain ⟨ko, kc2, rfl, _⟩ := hkr.slice
      obtain ⟨ln, hln⟩ : ∃ ln, L.length = ln := ⟨_, rfl⟩
      rw [hln] at hkr
      rw [hln]
      have hnk : NAt W0.heap.size wk dq qb qo (.slice none 0 0) := HT.out.2.2.2.2.2.2.2.1.old bk
      obtain ⟨cur, hcur⟩ := hnk.ty
      have hc10 : cur[qo + 10]? = some (.slice none 0 0) := by
        have := hnk.c10
        simpa [World.cell?, hcur] using this
      have HK : Hid (TI W0.heap.size wk N K w2.heap.size i Dn (Q' ++ [(qi, qb, qo)]) ∧ Rw (fun k => k < W0.heap.size) wk 81 1 (.slice (some ⟨lg, 0, none⟩) m lc) m (Q'.map qv) ∧ Below W0.heap.size W0 wk ∧ NAt W0.heap.size wk dq qb qo (.slice none 0 0) ∧ Rw (fun k => k < wr.heap.size) wk 3 1 (.slice ko ln kc2) ln (iL L) ∧ L.length = ln ∧ ln ≤ n ∧ W0.heap.size ≤ wk.heap.size ∧ wk.heap[qb]? = some (.cells cur 35 (0, 0)) ∧ LJ wk qb (qo + 10) cur N L ln (iv 0) wk) :=
        ⟨HT.out.1.old bk, HT.out.2.1.old bk, HT.out.2.2.1.trans (bk.mono HT.out.2.2.1.size), hnk, hkr, hln, by rw [← hln, ← HL.out]; exact HO.out.2.1.ln qi, Nat.le_trans HT.out.2.2.1.size bk.size, hcur, ⟨0, rfl, by omega, [], .slice none 0 0, KR.start hcur hc10, rfl, fun t k ht => absurd ht (Nat.not_lt_zero t)⟩⟩
      clear hkr hnk hcur hc10 hln bk kk c0
      go_wp2_with fail
      go_loopg [41] ln (fun g2 jv wr2 => LJ wk qb (qo + 10) cur N L g2 jv wr2)
      case atStart => exact HK.out.2.2.2.2.2.2.2.2.2
      case round =>
        obtain ⟨j, rfl, hjg, M, v, hkr, hM, hMM⟩ := hrel
        cases gk with
        | succ q =>
          have hj : j < ln := by have := HK.out.2.2.2.2.2.1; omega
          obtain ⟨kj, hkj⟩ : ∃ kj, L[j]? = some kj := ⟨_, List.getElem?_eq_getElem (by have := HK.out.2.2.2.2.2.1; omega)⟩
          have hkn : kj < n := HO.out.2.1.kn qi kj (by rw [HL.out]; exact List.mem_of_getElem? hkj)
          obtain ⟨kg, kcc, _, he, _, hkl1, hkl2, _⟩ := HK.out.2.2.2.2.1.form (by omega)
          simp only [Value.slice.injEq, true_and] at he
          obtain ⟨rfl, rfl⟩ := he
          have hne : kg ≠ qb := by
            rintro rfl
            rw [HK.out.2.2.2.2.2.2.2.2.1] at hkl2
            simp at hkl2
          have hkc : wr.cell? ⟨kg, j, none⟩ = some (iv (kj : Int)) := by
            rw [cell_same (hkr.oth kg hkl1 hne) j]
            exact HK.out.2.2.2.2.1.cell (by simp [iL, hkj])
          have hbw : Below W0.heap.size W0 wr := hkr.below HK.out.2.2.1 HK.out.2.2.2.1.low (Nat.le_refl _)
          have or := HO.out.1.old hbw
          obtain ⟨dk, hdk⟩ := or.ndAt hkn
          have hj9 : j ≤ 1000000000 := by
            have h1 := HO.out.1.v.few
            have h2 := HO.out.1.nn
            have h3 := HK.out.2.2.2.2.2.2.1
            omega
          obtain ⟨kc1, kc3⟩ := kid_call or hkr hM hj9 hdk (HO.out.2.1.al dk (List.mem_of_getElem? hdk))
          obtain ⟨vo, vc, hv, _⟩ := hkr.row.slice
          rw [hM] at hv
          subst hv
          have c47 : wr.cell? ⟨qb, qo + 10, none⟩ = some (.slice vo j vc) := hkr.cell
          have hqb : qb < wr.heap.size := Nat.lt_of_lt_of_le hkr.hb hkr.sm.size
          have hj2 : (j : Int) < (ln : Int) := by omega
          have hin : (j : Int) < (j : Int) + 1 := by omega
          have hw1 : IntKind.i64.wrap ((j : Int) + 1) = (j : Int) + 1 := by rw [IntKind.wrap_i64]; omega
          have HM : Hid (M.length = j ∧ (∀ t k : Nat, t < j → L[t]? = some k → ∃ (d : Nd) (av : Value), N[k]? = some d ∧ M[t]? = some { d with av := av }) ∧ L[j]? = some kj ∧ N[kj]? = some dk) := ⟨hM, hMM, hkj, hdk⟩
          have KC1 : Hid _ := kc1
          have KC3 : Hid _ := kc3
          clear hkr hM hMM hkj hkn hkl1 hkl2 hne hbw or hdk hj9 kc1 kc3 hj
          have hjq : j + (q + 1) = L.length := hjg
          have HJ : Hid (j + (q + 1) = L.length) := hjq
          clear hjg hjq
          go_upto_region 11 with fail
          go_region_law (first
              | (refine step_call2 42 _ _ _ rfl rfl enters42 _ _ (by first | (simp [Act.eval]; done) | simp [Act.eval, Act.put]) (by first | (simp [Act.eval]; done) | simp [Act.eval, Act.put]) (KC1.out : _) ?_; rintro e2 w3 ⟨ao2, ac2, rfl, q0, q1, g', c', W, hrun, cx, fx, ⟨g0, g1, g2, g3, g4, g5, g6, g7, g8, g9, g10⟩, fg, hxg, k1, k2⟩; have R1 : Hid (LJ wk qb (qo + 10) cur N L q (iv ((j : Int) + 1)) _) := LK.next HJ.out (LK.more HM.out.1 HM.out.2.1 HM.out.2.2.1 HM.out.2.2.2 k1); have R2 : Hid (LJ wk qb (qo + 10) cur N L q (iv ((j : Int) + 1)) _) := LK.next HJ.out (LK.more HM.out.1 HM.out.2.1 HM.out.2.2.1 HM.out.2.2.2 k2); clear k1 k2; have fg0 := fg (j * 11); have fg1 := fg (j * 11 + 1); have fg2 := fg (j * 11 + 2); have fg3 := fg (j * 11 + 3); have fg4 := fg (j * 11 + 4); have fg5 := fg (j * 11 + 5); have fg6 := fg (j * 11 + 6); have fg7 := fg (j * 11 + 7); have fg8 := fg (j * 11 + 8); have fg9 := fg (j * 11 + 9); have fg10 := fg (j * 11 + 10); clear fg; have hgx : g' ≠ qb := fun e => hxg e.symm; refine ⟨_, rfl, ?_⟩)
              | (refine step_call2 42 _ _ _ rfl rfl enters42 _ _ (by first | (simp [Act.eval]; done) | simp [Act.eval, Act.put]) (by first | (simp [Act.eval]; done) | simp [Act.eval, Act.put]) (KC3.out : _) ?_; rintro e2 w3 ⟨ao2, ac2, rfl, q0, q1, g', c', W, hrun, cx, fx, ⟨g0, g1, g2, g3, g4, g5, g6, g7, g8, g9, g10⟩, fg, hxg, k1, k2⟩; have R1 : Hid (LJ wk qb (qo + 10) cur N L q (iv ((j : Int) + 1)) _) := LK.next HJ.out (LK.more HM.out.1 HM.out.2.1 HM.out.2.2.1 HM.out.2.2.2 k1); have R2 : Hid (LJ wk qb (qo + 10) cur N L q (iv ((j : Int) + 1)) _) := LK.next HJ.out (LK.more HM.out.1 HM.out.2.1 HM.out.2.2.1 HM.out.2.2.2 k2); clear k1 k2; have fg0 := fg (j * 11); have fg1 := fg (j * 11 + 1); have fg2 := fg (j * 11 + 2); have fg3 := fg (j * 11 + 3); have fg4 := fg (j * 11 + 4); have fg5 := fg (j * 11 + 5); have fg6 := fg (j * 11 + 6); have fg7 := fg (j * 11 + 7); have fg8 := fg (j * 11 + 8); have fg9 := fg (j * 11 + 9); have fg10 := fg (j * 11 + 10); clear fg; have hgx : g' ≠ qb := fun e => hxg e.symm; refine ⟨_, rfl, ?_⟩)
              | (refine step_append_eq rfl _ _ 33 33 rfl _ _ (by first | (simp [Act.eval]; done) | simp [Act.eval, Act.put]) (by first | (simp [Act.eval]; done) | simp [Act.eval, Act.put]) hrun ?_))
          all_goals
            clear hrun cx fx g0 g1 g2 g3 g4 g5 g6 g7 g8 g9 g10 fg0 fg1 fg2 fg3 fg4 fg5 fg6 fg7 fg8 fg9 fg10 hxg hgx q0 q1
            go_wp2_with fail
            go_roundg q
            case measure => omega
            case rel => first | with_reducible exact R1.out | with_reducible exact R2.out
        | zero =>
          have hjl : j = ln := by have := HK.out.2.2.2.2.2.1; omega
          subst hjl
          obtain ⟨vo, vc, hv, _⟩ := hkr.row.slice
          rw [hM] at hv
          subst hv
          have hLl := HK.out.2.2.2.2.2.1
          obtain ⟨kb, hkb, hti⟩ := HK.out.1.step HK.out.2.2.2.2.2.2.2.1 hkr (by rw [HL.out, hM, hLl]) (fun t k hk => hMM t k (by rw [HL.out] at hk; rw [← hLl]; exact (List.getElem?_eq_some_iff.1 hk).1) (by rw [← HL.out]; exact hk))
          rw [HL.out] at hkb hti
          have hbw : Below W0.heap.size W0 wr := hkr.below HK.out.2.2.1 HK.out.2.2.2.1.low (Nat.le_refl _)
          have c47 : wr.cell? ⟨qb, qo + 10, none⟩ = some (.slice vo j vc) := hkr.cell
          have hrow := HK.out.2.1.kr hkr (by decide)
          have hQl := HT.out.2.2.2.2.2.1
          have HV : Hid (∃ Dn', LL W0 N K w2.heap.size i Dn' Q' kb L j (.slice (some ⟨lg, 0, none⟩) m lc) (iv 0) wr ∧ (∀ t, t < j → ∃ cap, Value.slice vo j vc = .slice (some ⟨kb, 0, none⟩) j cap) ∧ wr.heap[qb]? = some (.cells (cur.setIfInBounds (qo + 10) (.slice vo j vc)) 35 (0, 0))) :=
            ⟨_, ⟨0, rfl, by omega, by simpa [news, hQl] using hrow, hti, hbw⟩, fun t ht => by rw [hLl] at hkb; exact hkb t ht, hkr.blk⟩
          obtain ⟨Dn', HV⟩ : ∃ Dn', Hid (LL W0 N K w2.heap.size i Dn' Q' kb L j (.slice (some ⟨lg, 0, none⟩) m lc) (iv 0) wr ∧ (∀ t, t < j → ∃ cap, Value.slice vo j vc = .slice (some ⟨kb, 0, none⟩) j cap) ∧ wr.heap[qb]? = some (.cells (cur.setIfInBounds (qo + 10) (.slice vo j vc)) 35 (0, 0))) := HV.out
          have HLl2 : Hid (L.length = j) := hLl
          clear hkr hM hMM hkb hti hbw hrow hQl hLl hjg
          go_wp2_with fail
          go_loopg [6, 64] j (fun g2 lv jv wr3 => LL W0 N K w2.heap.size i Dn' Q' kb L g2 lv jv wr3 ∧ wr3.heap[qb]? = some (.cells (cur.setIfInBounds (qo + 10) (.slice vo j vc)) 35 (0, 0)))
          case atStart => exact ⟨HV.out.1, HV.out.2.2⟩
          case round =>
            obtain ⟨⟨t, rfl, htg, hrow, hti, hbw⟩, hcq⟩ := hrel
            cases gk with
            | succ q =>
              have htj : t < j := by have := HLl2.out; omega
              obtain ⟨cap, he⟩ := HV.out.2.1 t htj
              simp only [Value.slice.injEq, true_and] at he
              obtain ⟨rfl, rfl⟩ := he
              have c48 : wr.cell? ⟨qb, qo + 10, none⟩ = some (.slice (some ⟨kb, 0, none⟩) j vc) := (cell_same (hcq.trans HV.out.2.2.symm) _).trans c47
              obtain ⟨v', W', hrun, hr', hg'⟩ := ptr_more (S := fun k => k < W0.heap.size) (fun k hk => Nat.lt_of_lt_of_le hk hbw.size) hrow (L.getD t 0, kb, t * 11) (by
                have h1 := HT.out.2.2.2.2.2.1
                have h2 := HT.out.2.2.2.2.2.2.2.2
                have h3 := HO.out.1.v.few
                have h4 := HO.out.1.nn
                have h5 := HK.out.2.2.2.2.2.2.1
                rw [List.length_append, news_len]
                omega)
              have hrun2 : (Builtin.append_ #[82, 82] 82 #[u6, .slice (some ⟨wr.heap.size, 0, none⟩) 1 1]).run Try.prog (wr.alloc (.cells #[.pointer (some ⟨kb, t * 11, none⟩)] 81)) = .ok v' W' := hrun
              have HN : Hid (LL W0 N K w2.heap.size i Dn' Q' kb L q v' (iv ((t : Int) + 1)) W' ∧ W'.heap[qb]? = some (.cells (cur.setIfInBounds (qo + 10) (.slice (some ⟨kb, 0, none⟩) j vc)) 35 (0, 0))) := LL.step htg hrow hti hbw hcq hr' hg'
              have ht2 : (t : Int) < (j : Int) := by omega
              have hw1 : IntKind.i64.wrap ((t : Int) + 1) = (t : Int) + 1 := by
                have h3 := HO.out.1.v.few
                have h4 := HO.out.1.nn
                have h5 := HK.out.2.2.2.2.2.2.1
                rw [IntKind.wrap_i64]
                omega
              clear hrow hti hbw hcq htg hr' hg' hrun c47
              go_wp2_with (at_builtin; refine list_append_eq rfl _ _ 82 82 rfl _ _ rfl rfl hrun2 ?_)
              go_roundg q
              case measure => omega
              case rel => exact HN.out
            | zero =>
              have htj : t = j := by have := HLl2.out; omega
              subst htj
              have HE : Hid (LI W0 N K sz w2.heap.size i (szs sz (Q' ++ news kb L t)) u6 wr ∧ szs sz (Q' ++ news kb L t) < szs sz (Q' ++ [(qi, qb, qo)])) := by
                have hs := HO.out.2.1.dn qi
                rw [HL.out] at hs
                have hlt : szs sz (Q' ++ news kb L t) < szs sz (Q' ++ [(qi, qb, qo)]) := by
                  have e1 := szs_news sz kb L
                  rw [HLl2.out] at e1
                  rw [szs_app, szs_app, e1]
                  simp only [szs, List.map_cons, List.map_nil, List.sum_cons, List.sum_nil] at *
                  omega
                refine ⟨⟨Dn', _, rfl, ?_, hrow, ?_, hbw⟩, hlt⟩
                · have h1 := HT.out.2.2.2.1
                  have h2 := HT.out.2.2.2.2.1
                  omega
                · rw [HLl2.out] at hti
                  exact hti
              have HG := HT.out.2.2.2.1
              have HG2 : Hid _ := HG
              clear hrow hti hbw hcq htg c47 HG
              go_wp2_with fail
              go_roundg (szs sz (Q' ++ news kb L t))
              case measure =>
                have h1 := HE.out.2
                have h2 := HG2.out
                omega
              case rel => exact HE.out.1
end Go.Proofs.Ytcdaghlbfclpkaa
