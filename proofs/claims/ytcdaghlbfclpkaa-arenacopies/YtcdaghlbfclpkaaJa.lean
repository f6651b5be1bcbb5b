/- A copy of the program's arena: what it is made of. -/
import Derived.Test.YtcdaghlbfclpkaaAs
import Derived.Test.YtcdaghlbfclpkaaAg
import Derived.Test.YtcdaghlbfclpkaaAh
import Derived.Test.YtcdaghlbfclpkaaAu
import Derived.Deep.RegionHeld3
import Derived.Deep.DeepCutAuto
import Derived.StillTailTactics
namespace Go.Proofs.Ytcdaghlbfclpkaa
open Go.RowKit

theorem cell_below {w w' : World} {x j : Nat} {v : Value} (b : Below w.heap.size w w') (h : w.cell? ⟨x, j, none⟩ = some v) : w'.cell? ⟨x, j, none⟩ = some v := by
  rw [← h]
  simp [World.cell?, b.block x (World.block_lt_of_cell? w _ h)]
theorem keep3 {w w' : World} {x : Nat} {u0 u1 u2 : Value} (b : Below w.heap.size w w') (h : w.cell? ⟨x, 0, none⟩ = some u0 ∧ w.cell? ⟨x, 1, none⟩ = some u1 ∧ w.cell? ⟨x, 2, none⟩ = some u2) : w'.cell? ⟨x, 0, none⟩ = some u0 ∧ w'.cell? ⟨x, 1, none⟩ = some u1 ∧ w'.cell? ⟨x, 2, none⟩ = some u2 :=
  ⟨cell_below b h.1, cell_below b h.2.1, cell_below b h.2.2⟩
/-- A slice of zeros, wherever it is made. -/
theorem mk_all {t e size bytes : Nat} {z0 : Value} (ht : Try.prog.underlying t = some (.slice e)) (hinfo : (Try.prog.info? e).map (fun i => (i.zero, i.size, i.bytes)) = some (some z0, size, bytes)) (hb : bytes ≤ 200) (n : Nat) (hn : n ≤ 1000000000) :
    ∃ f : World → World, ∀ w, (Instr.makeSlice t (.int .i64 (n : Int)) (.int .i64 (n : Int))).run Try.prog w = .ok (.slice (some ⟨w.heap.size, 0, none⟩) n n) (f w) ∧ Below w.heap.size w (f w) ∧ ∃ zs, Rw (fun k => k < w.heap.size) (f w) e size (.slice (some ⟨w.heap.size, 0, none⟩) n n) n zs := by
  obtain ⟨i0, hi0, hz0, hzs0, hzb⟩ := info_parts hinfo
  have h : ∀ w : World, ∃ w', (Instr.makeSlice t (.int .i64 (n : Int)) (.int .i64 (n : Int))).run Try.prog w = .ok (.slice (some ⟨w.heap.size, 0, none⟩) n n) w' ∧ Below w.heap.size w w' ∧ ∃ zs, Rw (fun k => k < w.heap.size) w' e size (.slice (some ⟨w.heap.size, 0, none⟩) n n) n zs := fun w => by
    obtain ⟨w1, hrun, r1, r2⟩ := run_make_full (P := Try.prog) w 0 t e i0 z0 size ht hi0 hz0 hzs0 .i64 .i64 n (by rw [hzb]; have := Nat.mul_le_mul hb hn; omega) (by unfold maxLen; omega) (Nat.zero_le _)
    exact ⟨w1, hrun, grown_below r2, _, r1, fun g hg => by simp [Value.ownBlock] at hg; subst hg; exact Nat.lt_irrefl _⟩
  exact ⟨fun w => (h w).choose, fun w => (h w).choose_spec⟩
/-- A new arena in block y, with its rows. -/
structure CI (w wc : World) (y g1 g2 g3 n : Nat) (A B C : List Value) : Prop where
  bw : Below w.heap.size w wc
  yb : wc.heap[y]? = some (.cells #[.slice (some ⟨g1, 0, none⟩) n n, .slice (some ⟨g2, 0, none⟩) n n, .slice (some ⟨g3, 0, none⟩) n n] 65 (0, 0))
  yn : w.heap.size ≤ y
  r1 : Rw (fun k => k < w.heap.size) wc 35 11 (.slice (some ⟨g1, 0, none⟩) n n) n A
  r2 : Rw (fun k => k < w.heap.size) wc 77 4 (.slice (some ⟨g2, 0, none⟩) n n) n B
  r3 : Rw (fun k => k < w.heap.size) wc 79 2 (.slice (some ⟨g3, 0, none⟩) n n) n C
def C0 (w wc : World) (y g1 g2 g3 n : Nat) : Prop := ∃ A B C, CI w wc y g1 g2 g3 n A B C
theorem Rw.gr {S : Nat → Prop} {w W : World} {e s n e' g s' n' : Nat} {v u : Value} {xs ys : List Value} (h : Rw S w e s v n xs) (hg : w.grownBy W (some g)) (hr : Rw S w e' s' u n' ys) (hu : u.ownBlock = some g) (hne : e ≠ e') : Rw S W e s v n xs := h.mv fun k hk => by
  obtain ⟨q1, c1, q2⟩ := own_blk h.own hk
  refine hg.block k q1 (fun e0 => ?_)
  obtain ⟨_, c2, q3⟩ := own_blk hr.own (hu.trans e0.symm)
  rw [q2] at q3
  simp at q3
  exact hne q3.2
theorem CI.below {w wc W : World} {y g1 g2 g3 n g e s n' : Nat} {A B C xs : List Value} {v : Value} (c : CI w wc y g1 g2 g3 n A B C) (hg : wc.grownBy W (some g)) (hr : Rw (fun k => k < w.heap.size) wc e s v n' xs) (hv : v.ownBlock = some g) (he : e ≠ 65) : Below w.heap.size w W ∧ W.heap[y]? = some (.cells #[.slice (some ⟨g1, 0, none⟩) n n, .slice (some ⟨g2, 0, none⟩) n n, .slice (some ⟨g3, 0, none⟩) n n] 65 (0, 0)) := by
  have hgl : ¬ g < w.heap.size := hr.out g hv
  refine ⟨c.bw.trans ⟨hg.os, hg.tape, hg.output, hg.size, fun k hk => hg.block k (Nat.lt_of_lt_of_le hk c.bw.size) (fun e0 => ?_)⟩, (hg.block y (Array.getElem?_eq_some_iff.1 c.yb).1 (fun e0 => ?_)).trans c.yb⟩
  · simp at e0
    omega
  · simp at e0
    obtain ⟨_, c2, q3⟩ := own_blk hr.own hv
    rw [← e0, c.yb] at q3
    simp at q3
    exact he q3.2.symm
/-- A row of one's own, laid over by another one. -/
theorem copy_row {w wc : World} {t e s n cn g1 g : Nat} {S0 : Nat → Prop} {zs xs : List Value} (hn : 0 < n) (ht : Try.prog.underlying t = some (.slice e)) (hs : (Try.prog.info? e).map (·.size) = some s) (hr : Rw (fun k => k < w.heap.size) wc e s (.slice (some ⟨g1, 0, none⟩) n n) n zs) (src : Rw S0 wc e s (.slice (some ⟨g, 0, none⟩) n cn) n xs) (h1 : ∀ v ∈ xs, v.oneCell' = true) :
    ∃ W, (Builtin.copy_ #[t, t] 3 #[.slice (some ⟨g1, 0, none⟩) n n, .slice (some ⟨g, 0, none⟩) n cn]).run Try.prog wc.drew = .ok (.int .i64 (n : Int)) W ∧ wc.grownBy W (some g1) ∧ Rw (fun k => k < w.heap.size) W e s (.slice (some ⟨g1, 0, none⟩) n n) n xs := by
  obtain ⟨g', cap, cur, he, _, _, hg, q1, q2, q3, _⟩ := hr.form hn
  simp only [Value.slice.injEq, Option.some.injEq, Addr.mk.injEq, and_true, true_and] at he
  obtain ⟨rfl, rfl⟩ := he
  have hlen : xs.length = n * s := src.own.1
  have hcp := run_copy_s (P := Try.prog) wc.drew t t 3 e g1 0 n n ⟨g, 0, none⟩ n cn s cur e xs ht hs hg (by rw [hlen]; simp) (fun j u hj => by rw [Addr.add_lit, Nat.zero_add]; exact src.cell hj) (by rw [hlen, q3]; omega) h1
  have hdr : cur.toList.drop (0 + xs.length) = [] := by rw [List.drop_eq_nil_iff]; simp [q3, hlen]
  rw [hdr] at hcp
  simp only [List.take_zero, List.nil_append, List.append_nil] at hcp
  have hmin : goInt (n.min n) = .int .i64 (n : Int) := by simp [goInt]
  rw [hmin] at hcp
  refine ⟨_, hcp, ⟨rfl, rfl, rfl, by simp, fun k _ hk => setRow_other wc.drew g1 k _ (fun e0 => hk (by rw [e0]))⟩, ⟨hlen, .inr ⟨g1, n, xs.toArray, rfl, Nat.zero_le _, setRow_heap wc.drew g1 cur _ e _ hg, Nat.le_refl _, q2, by simp [hlen], ?_⟩⟩, hr.out⟩
  rw [← hlen]
  simp
theorem CI.put1 {w wc : World} {y g1 g2 g3 n g cn : Nat} {A B C xs : List Value} {S0 : Nat → Prop} (c : CI w wc y g1 g2 g3 n A B C) (hn : 0 < n) (src : Rw S0 wc 35 11 (.slice (some ⟨g, 0, none⟩) n cn) n xs) (h1 : ∀ v ∈ xs, v.oneCell' = true) :
    ∃ W, (Builtin.copy_ #[33, 33] 3 #[.slice (some ⟨g1, 0, none⟩) n n, .slice (some ⟨g, 0, none⟩) n cn]).run Try.prog wc.drew = .ok (.int .i64 (n : Int)) W ∧ CI w W y g1 g2 g3 n xs B C := by
  obtain ⟨W, h, hg, hr⟩ := copy_row hn Try.underlying33 (by rw [show (11 : Nat) = 11 from rfl]; kernel_rfl) c.r1 src h1
  obtain ⟨b1, b2⟩ := c.below hg c.r1 rfl (by decide)
  exact ⟨W, h, b1, b2, c.yn, hr, c.r2.gr hg c.r1 rfl (by decide), c.r3.gr hg c.r1 rfl (by decide)⟩
theorem CI.put2 {w wc : World} {y g1 g2 g3 n g cn : Nat} {A B C xs : List Value} {S0 : Nat → Prop} (c : CI w wc y g1 g2 g3 n A B C) (hn : 0 < n) (src : Rw S0 wc 77 4 (.slice (some ⟨g, 0, none⟩) n cn) n xs) (h1 : ∀ v ∈ xs, v.oneCell' = true) :
    ∃ W, (Builtin.copy_ #[62, 62] 3 #[.slice (some ⟨g2, 0, none⟩) n n, .slice (some ⟨g, 0, none⟩) n cn]).run Try.prog wc.drew = .ok (.int .i64 (n : Int)) W ∧ CI w W y g1 g2 g3 n A xs C := by
  obtain ⟨W, h, hg, hr⟩ := copy_row hn Try.underlying62 (by kernel_rfl) c.r2 src h1
  obtain ⟨b1, b2⟩ := c.below hg c.r2 rfl (by decide)
  exact ⟨W, h, b1, b2, c.yn, c.r1.gr hg c.r2 rfl (by decide), hr, c.r3.gr hg c.r2 rfl (by decide)⟩
theorem CI.put3 {w wc : World} {y g1 g2 g3 n g cn : Nat} {A B C xs : List Value} {S0 : Nat → Prop} (c : CI w wc y g1 g2 g3 n A B C) (hn : 0 < n) (src : Rw S0 wc 79 2 (.slice (some ⟨g, 0, none⟩) n cn) n xs) (h1 : ∀ v ∈ xs, v.oneCell' = true) :
    ∃ W, (Builtin.copy_ #[63, 63] 3 #[.slice (some ⟨g3, 0, none⟩) n n, .slice (some ⟨g, 0, none⟩) n cn]).run Try.prog wc.drew = .ok (.int .i64 (n : Int)) W ∧ CI w W y g1 g2 g3 n A B xs := by
  obtain ⟨W, h, hg, hr⟩ := copy_row hn Try.underlying63 (by kernel_rfl) c.r3 src h1
  obtain ⟨b1, b2⟩ := c.below hg c.r3 rfl (by decide)
  exact ⟨W, h, b1, b2, c.yn, c.r1.gr hg c.r3 rfl (by decide), c.r2.gr hg c.r3 rfl (by decide), hr⟩
theorem CI.y {w wc : World} {y g1 g2 g3 n : Nat} {A B C : List Value} (c : CI w wc y g1 g2 g3 n A B C) : wc.cell? ⟨y, 0, none⟩ = some (.slice (some ⟨g1, 0, none⟩) n n) ∧ wc.cell? ⟨y, 1, none⟩ = some (.slice (some ⟨g2, 0, none⟩) n n) ∧ wc.cell? ⟨y, 2, none⟩ = some (.slice (some ⟨g3, 0, none⟩) n n) :=
  ⟨by simp [World.cell?, c.yb], by simp [World.cell?, c.yb], by simp [World.cell?, c.yb]⟩
theorem CI.setA {w wc : World} {y g1 g2 g3 n i : Nat} {M : List Nd} {B C : List Value} (c : CI w wc y g1 g2 g3 n (M.flatMap Nd.cells) B C) {d : Nd} (hd : M[i]? = some d) (u : Value) :
    CI w (wc.setCell ⟨g1, i * 11 + 5, none⟩ u) y g1 g2 g3 n ((M.set i { d with av := u }).flatMap Nd.cells) B C ∧ wc.grownBy (wc.setCell ⟨g1, i * 11 + 5, none⟩ u) (some g1) ∧ wc.frozen? ⟨g1, i * 11 + 5, none⟩ = false := by
  obtain ⟨q1, hg⟩ := c.r1.set (i * 11 + 5) u
  rw [fl_set Nd.cells 11 (fun _ => rfl) M i 5 d { d with av := u } u hd (by decide) rfl] at q1
  obtain ⟨b1, b2⟩ := c.below hg c.r1 rfl (by decide)
  exact ⟨⟨b1, b2, c.yn, q1, c.r2.gr hg c.r1 rfl (by decide), c.r3.gr hg c.r1 rfl (by decide)⟩, hg, World.ownsRow.frozenAt c.r1.own _⟩
theorem CI.old {w wc W : World} {y g1 g2 g3 n : Nat} {A B C : List Value} (c : CI w wc y g1 g2 g3 n A B C) (b : Below wc.heap.size wc W) : CI w W y g1 g2 g3 n A B C :=
  ⟨c.bw.trans (b.mono c.bw.size), (b.block y (Array.getElem?_eq_some_iff.1 c.yb).1).trans c.yb, c.yn, c.r1.old b, c.r2.old b, c.r3.old b⟩
/-- As many nodes have attributes of their own. -/
def CL (w wr : World) (y g1 g2 g3 n : Nat) (N : List Nd) (P : List Sp) (E : List En) (i : Nat) : Prop :=
  ∃ M : List Nd, CI w wr y g1 g2 g3 n (M.flatMap Nd.cells) (P.flatMap Sp.cells) (E.flatMap En.cells) ∧ M.length = n ∧ (∀ (j : Nat) d, N[j]? = some d → ∃ av, M[j]? = some { d with av := av } ∧ (j < i → Rw (fun k => k < w.heap.size) wr 53 2 av d.al.length (d.al.flatMap At.cells))) ∧ ∀ j, i ≤ j → M[j]? = N[j]?
theorem CL.next {w wr w1 : World} {y g1 g2 g3 n i : Nat} {N : List Nd} {P : List Sp} {E : List En} (c : CL w wr y g1 g2 g3 n N P E i) {d : Nd} (hd : N[i]? = some d) (b : Below wr.heap.size wr w1) {u : Value} (hu : Rw (fun k => k < wr.heap.size) w1 53 2 u d.al.length (d.al.flatMap At.cells)) :
    (∃ old, w1.cell? ⟨g1, i * 11 + 5, none⟩ = some old) ∧ w1.cell? ⟨y, 0, none⟩ = some (.slice (some ⟨g1, 0, none⟩) n n) ∧ w1.frozen? ⟨g1, i * 11 + 5, none⟩ = false ∧ CL w (w1.setCell ⟨g1, i * 11 + 5, none⟩ u) y g1 g2 g3 n N P E (i + 1) := by
  obtain ⟨M, c1, hl, h1, h2⟩ := c
  have hM : M[i]? = some d := (h2 i (Nat.le_refl _)).trans hd
  have c2 := c1.old b
  obtain ⟨c3, hg, hf⟩ := c2.setA hM u
  refine ⟨⟨d.av, c2.r1.cell ((fl_at Nd.cells 11 (fun _ => rfl) M i 5 d hM (by decide)).trans rfl)⟩, c2.y.1, hf, M.set i { d with av := u }, c3, by rw [List.length_set]; exact hl, fun j dj hj => ?_, fun j hj => ?_⟩
  · by_cases e : j = i
    · subst e
      rw [hd] at hj
      simp at hj
      subst hj
      refine ⟨u, by rw [List.getElem?_set_self (List.getElem?_eq_some_iff.1 hM).1], fun _ => ?_⟩
      exact (hu.sub fun k hk => Nat.lt_of_lt_of_le hk c1.bw.size).gr hg c2.r1 rfl (by decide)
    · obtain ⟨av, q1, q2⟩ := h1 j dj hj
      refine ⟨av, by rw [List.getElem?_set_ne (fun e0 => e e0.symm)]; exact q1, fun hlt => ?_⟩
      exact ((q2 (by omega)).old b).gr hg c2.r1 rfl (by decide)
  · rw [List.getElem?_set_ne (by omega)]
    exact h2 j (by omega)
theorem CL.done {w wr : World} {y g1 g2 g3 n : Nat} {N : List Nd} {P : List Sp} {E : List En} (c : CL w wr y g1 g2 g3 n N P E n) (hn : N.length = n) (hp : P.length = n) (he : E.length = n) (hf : n ≤ 1000000000) : ∃ M : List Nd, Ar (fun k => k < w.heap.size) wr y M P E ∧ M.length = N.length ∧ ∀ (j : Nat) d, N[j]? = some d → ∃ av, M[j]? = some { d with av := av } := by
  obtain ⟨M, c1, hl, h1, h2⟩ := c
  refine ⟨M, ⟨_, _, _, fun k hk => Nat.lt_of_lt_of_le hk c1.bw.size, fun h => by have := c1.yn; omega, c1.yb, by rw [hl]; exact c1.r1, by rw [hp]; exact c1.r2, by rw [he]; exact c1.r3, fun d hd => ?_, by rw [hp, hl], by rw [he, hl], by rw [hl]; exact hf⟩, by rw [hl, hn], fun j d hd => (h1 j d hd).imp fun av q => q.1⟩
  obtain ⟨j, hj⟩ := List.getElem?_of_mem hd
  have hjn : j < n := by rw [← hl]; exact (List.getElem?_eq_some_iff.1 hj).1
  obtain ⟨av, q1, q2⟩ := h1 j _ (List.getElem?_eq_getElem (by rw [hn]; exact hjn))
  rw [hj] at q1
  simp at q1
  subst q1
  exact q2 hjn
theorem nd_one {S : Nat → Prop} {w : World} {x g n cn h cs k ce : Nat} {N : List Nd} {P : List Sp} {E : List En} (o : Op3 S w x g n cn h cs k ce N P E) : ∀ v ∈ N.flatMap Nd.cells, v.oneCell' = true := fun v hv => by
  obtain ⟨d, hd, hv⟩ := List.mem_flatMap.1 hv
  have := (o.v.ats d hd).one
  simp only [Nd.cells, List.mem_cons, List.not_mem_nil, or_false] at hv
  rcases hv with rfl | rfl | rfl | rfl | rfl | rfl | rfl | rfl | rfl | rfl | rfl <;> first | rfl | exact this
theorem sp_one (P : List Sp) : ∀ v ∈ P.flatMap Sp.cells, v.oneCell' = true := fun v hv => by
  obtain ⟨d, hd, hv⟩ := List.mem_flatMap.1 hv
  simp only [Sp.cells, List.mem_cons, List.not_mem_nil, or_false] at hv
  rcases hv with rfl | rfl | rfl | rfl <;> rfl
theorem en_one (E : List En) : ∀ v ∈ E.flatMap En.cells, v.oneCell' = true := fun v hv => by
  obtain ⟨d, hd, hv⟩ := List.mem_flatMap.1 hv
  simp only [En.cells, List.mem_cons, List.not_mem_nil, or_false] at hv
  rcases hv with rfl | rfl <;> rfl
theorem mk3 {w w1 w2 w3 : World} {n eA sA eB sB eC sC : Nat} {vA vB vC : Value} (b1 : Below w.heap.size w w1) (b2 : Below w1.heap.size w1 w2) (b3 : Below w2.heap.size w2 w3) (hA : ∃ zs, Rw (fun k => k < w.heap.size) w1 eA sA vA n zs) (hB : ∃ zs, Rw (fun k => k < w1.heap.size) w2 eB sB vB n zs) (hC : ∃ zs, Rw (fun k => k < w2.heap.size) w3 eC sC vC n zs) :
    Below w.heap.size w w3 ∧ (∃ zs, Rw (fun k => k < w.heap.size) w3 eA sA vA n zs) ∧ (∃ zs, Rw (fun k => k < w.heap.size) w3 eB sB vB n zs) ∧ ∃ zs, Rw (fun k => k < w.heap.size) w3 eC sC vC n zs := by
  obtain ⟨zA, rA⟩ := hA
  obtain ⟨zB, rB⟩ := hB
  obtain ⟨zC, rC⟩ := hC
  have h1 := b1.size
  have h2 := b2.size
  exact ⟨(b1.trans (b2.mono h1)).trans (b3.mono (Nat.le_trans h1 h2)), ⟨zA, (rA.old b2).old b3⟩, ⟨zB, (rB.old b3).sub fun k hk => Nat.lt_of_lt_of_le hk h1⟩, ⟨zC, rC.sub fun k hk => Nat.lt_of_lt_of_le hk (Nat.le_trans h1 h2)⟩⟩
theorem c0_of {w w3 : World} {g1 g2 g3 n : Nat} (b : Below w.drew.heap.size w.drew w3) (r1 : ∃ zs, Rw (fun k => k < w.drew.heap.size) w3 35 11 (.slice (some ⟨g1, 0, none⟩) n n) n zs) (r2 : ∃ zs, Rw (fun k => k < w.drew.heap.size) w3 77 4 (.slice (some ⟨g2, 0, none⟩) n n) n zs) (r3 : ∃ zs, Rw (fun k => k < w.drew.heap.size) w3 79 2 (.slice (some ⟨g3, 0, none⟩) n n) n zs) :
    C0 w (w3.alloc (.cells #[.slice (some ⟨g1, 0, none⟩) n n, .slice (some ⟨g2, 0, none⟩) n n, .slice (some ⟨g3, 0, none⟩) n n] 65)) w3.heap.size g1 g2 g3 n := by
  have b0 : Below w.heap.size w w3 := ((Below.refl w.heap.size w).drew).trans b
  have ba : Below w3.heap.size w3 (w3.alloc (.cells #[.slice (some ⟨g1, 0, none⟩) n n, .slice (some ⟨g2, 0, none⟩) n n, .slice (some ⟨g3, 0, none⟩) n n] 65)) := (Below.refl _ _).alloc (Nat.le_refl _) _
  obtain ⟨z1, r1⟩ := r1
  obtain ⟨z2, r2⟩ := r2
  obtain ⟨z3, r3⟩ := r3
  exact ⟨z1, z2, z3, b0.trans (ba.mono b0.size), heap_alloc_new _ _, b0.size, r1.old ba, r2.old ba, r3.old ba⟩
set_option maxHeartbeats 4000000 in
set_option maxRecDepth 20000 in
theorem copy_any {S : Nat → Prop} {w : World} {x g n cn h cs k ce : Nat} {N : List Nd} {P : List Sp} {E : List En} (o : Op3 S w x g n cn h cs k ce N P E) (hf : ∀ d ∈ N, d.al.length ≤ 1000000000) (h0 : 0 < n) :
    Calls Try.prog 22 #[ptr x] w (fun e w' => ∃ y M, e = .returned (ptr y) ∧ Below w.heap.size w w' ∧ Ar (fun k => k < w.heap.size) w' y M P E ∧ M.length = N.length ∧ ∀ (j : Nat) d, N[j]? = some d → ∃ av, M[j]? = some { d with av := av }) := by
  have hn9 : n ≤ 1000000000 := by rw [← o.nn]; exact o.v.few
  obtain ⟨f1, hf1⟩ := mk_all Try.underlying33 info35 (by decide) n hn9
  obtain ⟨f2, hf2⟩ := mk_all Try.underlying62 info77 (by decide) n hn9
  obtain ⟨f3, hf3⟩ := mk_all Try.underlying63 info79 (by decide) n hn9
  obtain ⟨c0, c1, c2⟩ := o.c
  have m1 := fun w => (hf1 w).1
  have m2 := fun w => (hf2 w).1
  have m3 := fun w => (hf3 w).1
  have b1 := fun w => (hf1 w).2.1
  have b2 := fun w => (hf2 w).2.1
  have b3 := fun w => (hf3 w).2.1
  have HR : Hid ((∀ w, ∃ zs, Rw (fun k => k < w.heap.size) (f1 w) 35 11 (.slice (some ⟨w.heap.size, 0, none⟩) n n) n zs) ∧ (∀ w, ∃ zs, Rw (fun k => k < w.heap.size) (f2 w) 77 4 (.slice (some ⟨w.heap.size, 0, none⟩) n n) n zs) ∧ ∀ w, ∃ zs, Rw (fun k => k < w.heap.size) (f3 w) 79 2 (.slice (some ⟨w.heap.size, 0, none⟩) n n) n zs) := ⟨fun w => (hf1 w).2.2, fun w => (hf2 w).2.2, fun w => (hf3 w).2.2⟩
  have HO : Hid (Op3 S w x g n cn h cs k ce N P E ∧ (∀ d ∈ N, d.al.length ≤ 1000000000) ∧ 0 < n) := ⟨o, hf, h0⟩
  have HB : Hid ((∀ w, Below w.heap.size w (f1 w)) ∧ (∀ w, Below w.heap.size w (f2 w)) ∧ ∀ w, Below w.heap.size w (f3 w)) := ⟨b1, b2, b3⟩
  clear o hf h0 hf1 hf2 hf3 b1 b2 b3
  go_enter Try.func22, Try.ntmps22
  go_upto_region 3 with fail
  go_cut [3] (fun s wc => ∃ y g1 g2 g3, s = ptr y ∧ C0 w wc y g1 g2 g3 n)
  case first =>
    go_region_held3 (fun w' => w'.cell? ⟨x, 0, none⟩ = some (.slice (some ⟨g, 0, none⟩) n cn) ∧ w'.cell? ⟨x, 1, none⟩ = some (.slice (some ⟨h, 0, none⟩) n cs) ∧ w'.cell? ⟨x, 2, none⟩ = some (.slice (some ⟨k, 0, none⟩) n ce))
      (first | assumption | exact ⟨c0, c1, c2⟩ | exact keep3 (HB.out.1 _) (by assumption) | exact keep3 (HB.out.2.1 _) (by assumption) | exact keep3 (HB.out.2.2 _) (by assumption) | exact keep3 ((Below.refl _ _).alloc (Nat.le_refl _) _) (by assumption) | go_keep) (fail)
    all_goals (go_wp2_with fail; go_meet)
    all_goals first
      | (obtain ⟨qb, q0, q1, q2⟩ := mk3 (HB.out.1 w.drew) (HB.out.2.1 _) (HB.out.2.2 _) (HR.out.1 _) (HR.out.2.1 _) (HR.out.2.2 _); exact ⟨_, _, _, _, rfl, c0_of qb q0 q1 q2⟩)
      | (obtain ⟨qb, q0, q2, q1⟩ := mk3 (HB.out.1 w.drew) (HB.out.2.2 _) (HB.out.2.1 _) (HR.out.1 _) (HR.out.2.2 _) (HR.out.2.1 _); exact ⟨_, _, _, _, rfl, c0_of qb q0 q1 q2⟩)
      | (obtain ⟨qb, q1, q0, q2⟩ := mk3 (HB.out.2.1 w.drew) (HB.out.1 _) (HB.out.2.2 _) (HR.out.2.1 _) (HR.out.1 _) (HR.out.2.2 _); exact ⟨_, _, _, _, rfl, c0_of qb q0 q1 q2⟩)
      | (obtain ⟨qb, q1, q2, q0⟩ := mk3 (HB.out.2.1 w.drew) (HB.out.2.2 _) (HB.out.1 _) (HR.out.2.1 _) (HR.out.2.2 _) (HR.out.1 _); exact ⟨_, _, _, _, rfl, c0_of qb q0 q1 q2⟩)
      | (obtain ⟨qb, q2, q0, q1⟩ := mk3 (HB.out.2.2 w.drew) (HB.out.1 _) (HB.out.2.1 _) (HR.out.2.2 _) (HR.out.1 _) (HR.out.2.1 _); exact ⟨_, _, _, _, rfl, c0_of qb q0 q1 q2⟩)
      | (obtain ⟨qb, q2, q1, q0⟩ := mk3 (HB.out.2.2 w.drew) (HB.out.2.1 _) (HB.out.1 _) (HR.out.2.2 _) (HR.out.2.1 _) (HR.out.1 _); exact ⟨_, _, _, _, rfl, c0_of qb q0 q1 q2⟩)
  case rest =>
    obtain ⟨y, g1, g2, g3, rfl, A, B, C, hC⟩ := hcut
    have hn0 : 0 < n := by
      have := HO.out.2.2
      omega
    obtain ⟨W1, k1, hC1⟩ := hC.put1 (S0 := S) (g := g) (cn := cn) hn0 (by have := (HO.out.1.old hC.bw).v.nr; rw [HO.out.1.nn] at this; exact this) (nd_one HO.out.1)
    obtain ⟨W2, k2, hC2⟩ := hC1.put2 (S0 := S) (g := h) (cn := cs) hn0 (by have := (HO.out.1.old hC1.bw).v.sr; rw [HO.out.1.v.pl, HO.out.1.nn] at this; exact this) (sp_one P)
    obtain ⟨W3, k3, hC3⟩ := hC2.put3 (S0 := S) (g := k) (cn := ce) hn0 (by have := (HO.out.1.old hC2.bw).v.er; rw [HO.out.1.v.el, HO.out.1.nn] at this; exact this) (en_one E)
    have H : Hid (CI w wc y g1 g2 g3 n A B C ∧ CI w W1 y g1 g2 g3 n (N.flatMap Nd.cells) B C ∧ CI w W2 y g1 g2 g3 n (N.flatMap Nd.cells) (P.flatMap Sp.cells) C ∧ CI w W3 y g1 g2 g3 n (N.flatMap Nd.cells) (P.flatMap Sp.cells) (E.flatMap En.cells)) := ⟨hC, hC1, hC2, hC3⟩
    have x0 := cell_below hC.bw c0
    have y0 := hC.y.1
    have x1 := cell_below hC1.bw c1
    have y1 := hC1.y.2.1
    have x2 := cell_below hC2.bw c2
    have y2 := hC2.y.2.2
    clear hC hC1 hC2 hC3 c0 c1 c2 m1 m2 m3
    go_wp2_with fail
    go_still_tail 8, (show Try.prog.follows .mixedOrders = true by kernel_rfl)
    refine list_copy_eq rfl _ _ 33 33 rfl _ _ rfl rfl k1 ?_
    clear x0 y0 k1
    go_wp2_with fail
    go_still_tail 8, (show Try.prog.follows .mixedOrders = true by kernel_rfl)
    refine list_copy_eq rfl _ _ 62 62 rfl _ _ rfl rfl k2 ?_
    clear x1 y1 k2
    go_wp2_with fail
    go_still_tail 8, (show Try.prog.follows .mixedOrders = true by kernel_rfl)
    refine list_copy_eq rfl _ _ 63 63 rfl _ _ rfl rfl k3 ?_
    clear x2 y2 k3
    have y0 := H.out.2.2.2.y.1
    have HL0 : Hid (CL w W3 y g1 g2 g3 n N P E 0) := ⟨N, H.out.2.2.2, HO.out.1.nn, fun j d hd => ⟨d.av, hd, fun h => absurd h (Nat.not_lt_zero _)⟩, fun _ _ => rfl⟩
    clear H
    go_wp2_with fail
    clear y0
    go_loopg [59] n (fun g2' iv wr => ∃ i : Nat, iv = .int .i64 i ∧ i + g2' = n ∧ Hid (CL w wr y g1 g2 g3 n N P E i))
    case atStart => exact ⟨0, rfl, by omega, HL0⟩
    case round =>
      obtain ⟨i, rfl, hig, HI⟩ := hrel
      cases gk with
      | zero =>
        obtain rfl : i = n := by omega
        have hg0 : decide ((i : Int) < (i : Int)) = false := decide_eq_false (by omega)
        obtain ⟨M, hM⟩ := HI.out.done HO.out.1.nn (by rw [HO.out.1.v.pl]; exact HO.out.1.nn) (by rw [HO.out.1.v.el]; exact HO.out.1.nn) hn9
        have HM : Hid (Ar (fun k => k < w.heap.size) wr y M P E ∧ M.length = N.length ∧ ∀ (j : Nat) d, N[j]? = some d → ∃ av, M[j]? = some { d with av := av }) := hM
        have hb : Below w.heap.size w wr := by
          obtain ⟨_, q, _⟩ := HI.out
          exact q.bw
        clear hM
        go_wp2_with fail
        go_ret
        exact ⟨y, M, rfl, hb, HM.out⟩
      | succ kk =>
        have hin : i < n := by omega
        have hin2 : (i : Int) < (n : Int) := by omega
        have g1' : decide ((i : Int) < (n : Int)) = true := decide_eq_true (by omega)
        obtain ⟨d, hd⟩ : ∃ d, N[i]? = some d := ⟨_, List.getElem?_eq_getElem (by rw [HO.out.1.nn]; exact hin)⟩
        obtain ⟨M, hc1, _, _, hc4⟩ := HI.out
        have ow := HO.out.1.old hc1.bw
        obtain ⟨ao, ac, hav, _⟩ := (ow.v.ats d (List.mem_of_getElem? hd)).slice
        have hat := (ow.v.ats d (List.mem_of_getElem? hd)).atr (by have := HO.out.2.1 d (List.mem_of_getElem? hd); omega)
        rw [hav] at hat
        have y0 := hc1.y.1
        have y5 : wr.cell? ⟨g1, i * 11 + 5, none⟩ = some (.slice ao d.al.length ac) := by
          rw [← hav]
          exact hc1.r1.cell ((fl_at Nd.cells 11 (fun _ => rfl) M i 5 d ((hc4 i (Nat.le_refl _)).trans hd) (by decide)).trans rfl)
        have HK : Hid (∀ w', Below wr.heap.size wr w' → Calls Try.prog 43 #[.slice ao d.al.length ac] w' fun e w1 => ∃ ao2 ac2 old, e = .returned (.slice ao2 d.al.length ac2) ∧ w1.cell? ⟨y, 0, none⟩ = some (.slice (some ⟨g1, 0, none⟩) n n) ∧ w1.cell? ⟨g1, i * 11 + 5, none⟩ = some old ∧ w1.frozen? ⟨g1, i * 11 + 5, none⟩ = false ∧ Hid (CL w (w1.setCell ⟨g1, i * 11 + 5, none⟩ (.slice ao2 d.al.length ac2)) y g1 g2 g3 n N P E (i + 1))) := fun w' hb => by
          refine (copied_any (hat.old hb)).mono ?_
          rintro e w1 ⟨v, rfl, b1, hv⟩
          obtain ⟨ao2, ac2, rfl, _⟩ := (hv (fun _ => False) (fun _ h => h.elim)).slice
          obtain ⟨⟨old, q1⟩, q2, q3, q4⟩ := HI.out.next hd (hb.trans (b1.mono hb.size)) (hv (fun k => k < wr.heap.size) (fun k hk => Nat.lt_of_lt_of_le hk hb.size))
          exact ⟨ao2, ac2, old, rfl, q2, q1, q3, q4⟩
        obtain ⟨al, hal⟩ : ∃ al, d.al.length = al := ⟨_, rfl⟩
        rw [hal] at HK y5
        clear hc1 hc4 ow hat hav hal hd
        go_wp2_with fail
        go_region_law (refine step_call1 43 _ _ rfl rfl enters43 _ (by first | (simp [Act.eval]; done) | simp [Act.eval, Act.put]) (HK.out _ ((Below.refl _ _).drew)) ?_; rintro e w1 ⟨ao2, ac2, old, rfl, q0, q5, f5, HN⟩; refine ⟨_, rfl, ?_⟩)
        all_goals
          clear q0 q5 f5 y0 y5
          generalize w1.setCell ⟨g1, i * 11 + 5, none⟩ (.slice ao2 al ac2) = W9 at *
          go_wp2_with fail
          go_roundg kk
          case measure => omega
          case rel => exact ⟨i + 1, by go_num, by omega, HN⟩
end Go.Proofs.Ytcdaghlbfclpkaa
