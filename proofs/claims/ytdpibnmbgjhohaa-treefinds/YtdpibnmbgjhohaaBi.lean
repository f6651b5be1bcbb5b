/- A copy of a tree: its walk. -/
import Derived.Test.YtdpibnmbgjhohaaBh
namespace Go.Proofs.Ytdpibnmbgjhohaa
open Go.RowKit
attribute [local go_sem] Oper.semAt_some
attribute [local go_sem] wide_fn wide_depth round_fn round_depth

theorem St.top {w W : World} {N lo m M n c : Nat} {t0 : Tr} {a : Addr} {st : List Sl} {Op All : List (En × Nat)} (h : St w N lo m M t0 W ((some a, n + 1, c) :: st) Op All) :
    ∃ e k Op' u, Op = (e, k) :: Op' ∧ e.ts[k]? = some u ∧ a = ⟨e.g, k * 11, none⟩ ∧ lo ≤ e.g ∧ (∃ cur, W.heap[e.g]? = some (.cells cur 27 (0, 0))) ∧ (∀ (j : Nat) t, e.ts[j]? = some t → CellsAt W e.g (j * 11) (t.d.cs (e.av j) (e.kv j))) ∧ TrC w u (e.av k) (e.kv k) ∧ Sml u := by
  cases hr : h.rel with
  | cons hl ht =>
    rename_i p ps
    obtain ⟨e, k⟩ := p
    have hl1 := hl.1
    simp only [] at hl1
    have hk : k < e.ts.length := by omega
    obtain ⟨u, hu⟩ : ∃ u, e.ts[k]? = some u := ⟨_, List.getElem?_eq_getElem hk⟩
    have hin : (e, k) ∈ All := h.op (e, k) (by simp) hk
    have ok := h.ok _ hin
    refine ⟨e, k, ps, u, rfl, hu, ?_, ok.ge, ok.blk, ok.cs, ok.un k u hu (Nat.le_refl _), h.sml _ hin u (List.mem_of_getElem? hu)⟩
    have := hl.2.2.2 (by simp)
    simpa using this
/-- What is done to a node in the making, done: the next state. -/
theorem St.went {w W W' : World} {N lo m M n c : Nat} {t0 : Tr} {st : List Sl} {e : En} {k : Nat} {a : Addr} {d : Nd} {ks : List Tr} {Op All : List (En × Nat)} {avs kvs : Nat → Value} {v1 : Value} {kp : Option Addr} {kc : Nat}
    (h : St w N lo (m + 1) M t0 W ((some a, n + 1, c) :: st) ((e, k) :: Op) All) (hlo : lo < W.heap.size) (hN : N ≤ W.heap.size) (hu : e.ts[k]? = some (.mk d ks))
    (hall : ∀ (j : Nat) t, e.ts[j]? = some t → CellsAt W e.g (j * 11) (t.d.cs (e.av j) (e.kv j))) (q : Cpd W W' e.g (k * 11) d.al ks avs kvs v1 kp kc) (hk : ∀ (j : Nat) t, ks[j]? = some t → TrC w t (avs j) (kvs j)) :
    ∃ Op' All', St w N lo m M t0 W' ((kp, ks.length, kc) :: (some (nx a c), n, c - 1) :: st) Op' All' := by
  refine h.next hlo hN hu (v1 := v1) (kp := kp) (kc := kc) (avs := avs) (kvs := kvs) q.hold q.blk (fun j t hj hne => ?_) (q.mine d _ _ (hall k _ hu)) q.v1 q.kcap q.grow q.knew (fun hne => ?_)
  · refine q.out _ _ (hall j t hj) ?_
    simp only [Nd.cs, List.length_cons, List.length_nil]
    omega
  · obtain ⟨g2, h1, h2, h3, h4⟩ := q.kids hne
    exact ⟨g2, h1, h2, h3, fun j t hj => ⟨h4 j t hj, hk j t hj⟩⟩
/-- A copy: where its nodes lie. -/
def Made (w : World) (t : Tr) (av kv : Value) (w' : World) : Prop := ∃ (lo M : Nat) (All : List (En × Nat)), w.heap.size ≤ lo ∧ St w w.heap.size lo 0 M t w' [] [] All ∧ CellsAt w' lo 0 (t.d.cs av kv) ∧ ∃ e : En, (e, 1) ∈ All ∧ e.g = lo ∧ e.ts = [t] ∧ e.av 0 = av ∧ e.kv 0 = kv
theorem sets11 {W : World} {b : Nat} {z0 z1 z2 z3 z4 z5 z6 z7 z8 z9 z10 : Value} (h : W.heap[b]? = some (.cells #[z0, z1, z2, z3, z4, z5, z6, z7, z8, z9, z10] 27 (0, 0))) (u0 u1 u2 u3 u4 u5 u6 u7 u8 u9 u10 : Value) :
    ((((((((((((W.setCell ⟨b, 0, none⟩ u0).setCell ⟨b, 1, none⟩ u1).setCell ⟨b, 2, none⟩ u2).setCell ⟨b, 3, none⟩ u3).setCell ⟨b, 4, none⟩ u4).setCell ⟨b, 5, none⟩ u5).setCell ⟨b, 6, none⟩ u6).setCell ⟨b, 7, none⟩ u7).setCell ⟨b, 8, none⟩ u8).setCell ⟨b, 9, none⟩ u9).setCell ⟨b, 10, none⟩ u10)).heap[b]? = some (.cells #[u0, u1, u2, u3, u4, u5, u6, u7, u8, u9, u10] 27 (0, 0)) ∧ W.grownBy (((((((((((W.setCell ⟨b, 0, none⟩ u0).setCell ⟨b, 1, none⟩ u1).setCell ⟨b, 2, none⟩ u2).setCell ⟨b, 3, none⟩ u3).setCell ⟨b, 4, none⟩ u4).setCell ⟨b, 5, none⟩ u5).setCell ⟨b, 6, none⟩ u6).setCell ⟨b, 7, none⟩ u7).setCell ⟨b, 8, none⟩ u8).setCell ⟨b, 9, none⟩ u9).setCell ⟨b, 10, none⟩ u10) (some b) ∧ ((((((((((((W.setCell ⟨b, 0, none⟩ u0).setCell ⟨b, 1, none⟩ u1).setCell ⟨b, 2, none⟩ u2).setCell ⟨b, 3, none⟩ u3).setCell ⟨b, 4, none⟩ u4).setCell ⟨b, 5, none⟩ u5).setCell ⟨b, 6, none⟩ u6).setCell ⟨b, 7, none⟩ u7).setCell ⟨b, 8, none⟩ u8).setCell ⟨b, 9, none⟩ u9).setCell ⟨b, 10, none⟩ u10)).heap.size = W.heap.size := by
  have g0 := grown_set W ⟨b, 0, none⟩ u0
  have e0 : ((W.setCell ⟨b, 0, none⟩ u0)).heap[b]? = some (.cells #[u0, z1, z2, z3, z4, z5, z6, z7, z8, z9, z10] 27 (0, 0)) := heap_setCell_same W b 0 _ 27 u0 h
  have e1 : (((W.setCell ⟨b, 0, none⟩ u0).setCell ⟨b, 1, none⟩ u1)).heap[b]? = some (.cells #[u0, u1, z2, z3, z4, z5, z6, z7, z8, z9, z10] 27 (0, 0)) := heap_setCell_same _ b 1 _ 27 u1 e0
  have g1 := g0.trans (grown_set _ ⟨b, 1, none⟩ u1)
  have e2 : ((((W.setCell ⟨b, 0, none⟩ u0).setCell ⟨b, 1, none⟩ u1).setCell ⟨b, 2, none⟩ u2)).heap[b]? = some (.cells #[u0, u1, u2, z3, z4, z5, z6, z7, z8, z9, z10] 27 (0, 0)) := heap_setCell_same _ b 2 _ 27 u2 e1
  have g2 := g1.trans (grown_set _ ⟨b, 2, none⟩ u2)
  have e3 : (((((W.setCell ⟨b, 0, none⟩ u0).setCell ⟨b, 1, none⟩ u1).setCell ⟨b, 2, none⟩ u2).setCell ⟨b, 3, none⟩ u3)).heap[b]? = some (.cells #[u0, u1, u2, u3, z4, z5, z6, z7, z8, z9, z10] 27 (0, 0)) := heap_setCell_same _ b 3 _ 27 u3 e2
  have g3 := g2.trans (grown_set _ ⟨b, 3, none⟩ u3)
  have e4 : ((((((W.setCell ⟨b, 0, none⟩ u0).setCell ⟨b, 1, none⟩ u1).setCell ⟨b, 2, none⟩ u2).setCell ⟨b, 3, none⟩ u3).setCell ⟨b, 4, none⟩ u4)).heap[b]? = some (.cells #[u0, u1, u2, u3, u4, z5, z6, z7, z8, z9, z10] 27 (0, 0)) := heap_setCell_same _ b 4 _ 27 u4 e3
  have g4 := g3.trans (grown_set _ ⟨b, 4, none⟩ u4)
  have e5 : (((((((W.setCell ⟨b, 0, none⟩ u0).setCell ⟨b, 1, none⟩ u1).setCell ⟨b, 2, none⟩ u2).setCell ⟨b, 3, none⟩ u3).setCell ⟨b, 4, none⟩ u4).setCell ⟨b, 5, none⟩ u5)).heap[b]? = some (.cells #[u0, u1, u2, u3, u4, u5, z6, z7, z8, z9, z10] 27 (0, 0)) := heap_setCell_same _ b 5 _ 27 u5 e4
  have g5 := g4.trans (grown_set _ ⟨b, 5, none⟩ u5)
  have e6 : ((((((((W.setCell ⟨b, 0, none⟩ u0).setCell ⟨b, 1, none⟩ u1).setCell ⟨b, 2, none⟩ u2).setCell ⟨b, 3, none⟩ u3).setCell ⟨b, 4, none⟩ u4).setCell ⟨b, 5, none⟩ u5).setCell ⟨b, 6, none⟩ u6)).heap[b]? = some (.cells #[u0, u1, u2, u3, u4, u5, u6, z7, z8, z9, z10] 27 (0, 0)) := heap_setCell_same _ b 6 _ 27 u6 e5
  have g6 := g5.trans (grown_set _ ⟨b, 6, none⟩ u6)
  have e7 : (((((((((W.setCell ⟨b, 0, none⟩ u0).setCell ⟨b, 1, none⟩ u1).setCell ⟨b, 2, none⟩ u2).setCell ⟨b, 3, none⟩ u3).setCell ⟨b, 4, none⟩ u4).setCell ⟨b, 5, none⟩ u5).setCell ⟨b, 6, none⟩ u6).setCell ⟨b, 7, none⟩ u7)).heap[b]? = some (.cells #[u0, u1, u2, u3, u4, u5, u6, u7, z8, z9, z10] 27 (0, 0)) := heap_setCell_same _ b 7 _ 27 u7 e6
  have g7 := g6.trans (grown_set _ ⟨b, 7, none⟩ u7)
  have e8 : ((((((((((W.setCell ⟨b, 0, none⟩ u0).setCell ⟨b, 1, none⟩ u1).setCell ⟨b, 2, none⟩ u2).setCell ⟨b, 3, none⟩ u3).setCell ⟨b, 4, none⟩ u4).setCell ⟨b, 5, none⟩ u5).setCell ⟨b, 6, none⟩ u6).setCell ⟨b, 7, none⟩ u7).setCell ⟨b, 8, none⟩ u8)).heap[b]? = some (.cells #[u0, u1, u2, u3, u4, u5, u6, u7, u8, z9, z10] 27 (0, 0)) := heap_setCell_same _ b 8 _ 27 u8 e7
  have g8 := g7.trans (grown_set _ ⟨b, 8, none⟩ u8)
  have e9 : (((((((((((W.setCell ⟨b, 0, none⟩ u0).setCell ⟨b, 1, none⟩ u1).setCell ⟨b, 2, none⟩ u2).setCell ⟨b, 3, none⟩ u3).setCell ⟨b, 4, none⟩ u4).setCell ⟨b, 5, none⟩ u5).setCell ⟨b, 6, none⟩ u6).setCell ⟨b, 7, none⟩ u7).setCell ⟨b, 8, none⟩ u8).setCell ⟨b, 9, none⟩ u9)).heap[b]? = some (.cells #[u0, u1, u2, u3, u4, u5, u6, u7, u8, u9, z10] 27 (0, 0)) := heap_setCell_same _ b 9 _ 27 u9 e8
  have g9 := g8.trans (grown_set _ ⟨b, 9, none⟩ u9)
  have e10 : ((((((((((((W.setCell ⟨b, 0, none⟩ u0).setCell ⟨b, 1, none⟩ u1).setCell ⟨b, 2, none⟩ u2).setCell ⟨b, 3, none⟩ u3).setCell ⟨b, 4, none⟩ u4).setCell ⟨b, 5, none⟩ u5).setCell ⟨b, 6, none⟩ u6).setCell ⟨b, 7, none⟩ u7).setCell ⟨b, 8, none⟩ u8).setCell ⟨b, 9, none⟩ u9).setCell ⟨b, 10, none⟩ u10)).heap[b]? = some (.cells #[u0, u1, u2, u3, u4, u5, u6, u7, u8, u9, u10] 27 (0, 0)) := heap_setCell_same _ b 10 _ 27 u10 e9
  have g10 := g9.trans (grown_set _ ⟨b, 10, none⟩ u10)
  exact ⟨e10, g10, by simp [World.setCell]⟩
set_option maxRecDepth 20000 in
set_option maxHeartbeats 4000000 in
theorem copied_in (n : Nat) {w : World} {t : Tr} {av kv : Value} (ht : TrC w t av kv) (hs : Sml t) (hn : cT t ≤ 900000) :
    CallsIn Fence.wide n Try.prog 37 #[nv t.d av kv] w fun e w' => Below w.heap.size w w' ∧ ∃ av' kv', e = .returned (nv t.d av' kv') ∧ Made w t av' kv' w' := by
  obtain ⟨d, ks⟩ := t
  have ht' : ∃ s1 s2 : Sl, av = slv s1 ∧ kv = slv s2 := by
    cases ht
    exact ⟨(_, _, _), (_, _, _), rfl, rfl⟩
  obtain ⟨⟨ao, an, ac⟩, ⟨kp, kn, kc⟩, rfl, rfl⟩ := ht'
  simp only [slv] at ht
  simp only [Tr.d, slv]
  refine callsIn_of_wp_marks Try.func37 rfl trivial ?_ rfl
  simp only [Try.ntmps37, List.size_toArray, List.length_cons, List.length_nil, Nat.reduceAdd, Nat.reduceSub, Array.replicate_succ, Array.replicate_zero, List.push_toArray, List.append_toArray, List.nil_append, List.cons_append]
  gi_wp2_with (gi_at_call 32; refine wide_call (nodes_any _ _ _ _) ?_; rintro e w' ⟨rfl, rfl⟩)
  have hq := als_spec w [na d (.slice ao an ac) (.slice kp kn kc), .cells #[iv 0, iv 0, iv 0, .string { data := #[] }, .string { data := #[] }, .slice none 0 0, iv 0, iv 0, iv 0, iv 0, .slice none 0 0] 27, na d (.slice ao an ac) (.slice kp kn kc), .cells #[.slice (some ⟨w.heap.size + 1 + 1, 0, none⟩) 1 1] 25]
  simp only [als, List.length_cons, List.length_nil] at hq
  revert hq
  generalize World.alloc (World.alloc (World.alloc (World.alloc w _) _) _) _ = w2
  rintro ⟨b2, s2, h2⟩
  have q1 : w2.heap[w.heap.size + 1]? = some (.cells #[iv 0, iv 0, iv 0, .string { data := #[] }, .string { data := #[] }, .slice none 0 0, iv 0, iv 0, iv 0, iv 0, .slice none 0 0] 27 (0, 0)) := h2 1 _ rfl
  have q2 : w2.heap[w.heap.size + 1 + 1]? = some (na d (.slice ao an ac) (.slice kp kn kc)) := h2 2 _ rfl
  have q3 : w2.heap[w.heap.size + 1 + 1 + 1]? = some (.cells #[.slice (some ⟨w.heap.size + 1 + 1, 0, none⟩) 1 1] 25 (0, 0)) := h2 3 _ rfl
  clear h2
  obtain ⟨e0, he0⟩ : ∃ e : En, e = ⟨w.heap.size + 1 + 1, [.mk d ks], fun _ => .slice ao an ac, fun _ => .slice kp kn kc⟩ := ⟨_, rfl⟩
  have hts : e0.ts = [.mk d ks] := by rw [he0]
  have hg0 : e0.g = w.heap.size + 1 + 1 := by rw [he0]
  have hlf : lft (e0, 0) = [.mk d ks] := by rw [lft, hts]; rfl
  have S0 : St w w.heap.size (w.heap.size + 1 + 1) (1 + 2 * cT (.mk d ks)) (1 + cT (.mk d ks)) (.mk d ks) w2 [(some ⟨w.heap.size + 1 + 1, 0, none⟩, 1, 1)] [(e0, 0)] [(e0, 0)] := by
    refine ⟨.cons ⟨by simp only [hts]; rfl, Nat.le_refl _, by simp [maxLen], fun _ => by simp [hg0]⟩ .nil, fun p hp _ => hp, by simp, fun p hp _ => hp, fun p q hp hq _ => ?_, fun p hp => ?_, fun p q hp hq i j b hi => ?_, fun p q hp hq i j b hi => ?_, ⟨(e0, 0), by simp, hg0, hts⟩, fun p hp u hu => ?_, ?_, ?_⟩
    · simp at hp hq; rw [hp, hq]
    · simp only [List.mem_singleton] at hp
      subst hp
      refine ⟨by simp only [hg0]; omega, ⟨_, by simp only [hg0]; exact q2⟩, Nat.zero_le _, fun j u hj => ?_, fun j u hj hlt => absurd hlt (Nat.not_lt_zero _), fun j u hj _ => ?_⟩
      · simp only [hts] at hj
        cases j with
        | zero => simp at hj; subst hj; rw [he0]; exact na_cells q2
        | succ j => simp at hj
      · simp only [hts] at hj
        cases j with
        | zero => simp at hj; subst hj; rw [he0]; exact ht
        | succ j => simp at hj
    · simp only [List.mem_singleton] at hp; subst hp; exact absurd hi (Nat.not_lt_zero _)
    · simp only [List.mem_singleton] at hp; subst hp; exact absurd hi (Nat.not_lt_zero _)
    · simp only [List.mem_singleton] at hp
      subst hp
      simp only [hts, List.mem_singleton] at hu
      subst hu
      exact hs
    · simp only [msr, hlf, cL]; omega
    · simp only [cnt, hlf, cL, List.length_cons, List.length_nil]; omega
  refine range_law (nodes_seq (n - 1) (w.heap.size + 1 + 1 + 1) w2.heap.size (some ⟨w.heap.size + 1 + 1, 0, none⟩, 1, 1) w2 (by omega) (one_cell q3).1) (Nat.le_refl _) rfl (enters_of Try.func48 (by kernel_rfl) rfl) ?_ ?_
    (fun g s W => ∃ Op All, St w w.heap.size (w.heap.size + 1 + 1) g (1 + cT (.mk d ks)) (.mk d ks) W s Op All ∧ Below w.heap.size w W ∧ w2.heap.size ≤ W.heap.size ∧ W.heap[w.heap.size + 1]? = some (.cells #[iv 0, iv 0, iv 0, .string { data := #[] }, .string { data := #[] }, .slice none 0 0, iv 0, iv 0, iv 0, iv 0, .slice none 0 0] 27 (0, 0)))
    (fun _ _ => False) (1 + 2 * cT (.mk d ks)) ?_ (fun _ _ _ h _ => h) ?_ ?_ ?_ ?_
    (fun x => { tmps := #[nv d (.slice ao an ac) (.slice kp kn kc), ptr w.heap.size, ptr (w.heap.size + 1), .slice (some ⟨w.heap.size + 1 + 1, 0, none⟩) 1 1, x.getD 0 undef, nv d (.slice ao an ac) (.slice kp kn kc), .slice (some ⟨w.heap.size + 1 + 1, 0, none⟩) 1 1, .slice (some ⟨w.heap.size + 1 + 1, 0, none⟩) 1 1, .func (.func 48) #[] #[ptr (w.heap.size + 1 + 1 + 1)], x.getD 0 undef, x.getD 1 undef, undef, undef, undef, undef, undef, undef, undef, undef, undef, undef, undef, undef, undef, undef, undef, undef, undef, undef, undef, undef, undef], defers := [] }) ?_ ?_ ?_ (fun _ _ _ _ h => h.elim)
  · intro s x hx
    unfold encN at hx
    split at hx
    · cases hx; rfl
    · cases hx
  · rintro s W l o o' s' hl ho ⟨b, n, c, st, ks, rfl, hc, rfl⟩
    refine ⟨b, n, c, st, ks, rfl, ?_, rfl⟩
    rw [← hc]
    refine World.cell?_of_block (World.putObj_heap_other (fun e => ?_))
    obtain ⟨u, h1, h2⟩ := cells_of_cell hc
    rw [e, hl] at h1
    cases h1
    rw [ho] at h2
    cases h2
  · rintro g s W1 W2 ⟨Op, All, h1, h2, h3, h4⟩ ho
    refine ⟨Op, All, h1.mv (fun i cur hi => (ho.oth i _ hi rfl).trans hi.symm) (fun i cur hi _ => (ho.oth i _ hi rfl).trans hi.symm) ho.size, h2.trans (ho.below.mono (by omega)), Nat.le_trans h3 ho.size, ho.oth _ _ h4 rfl⟩
  · rintro g s s' W1 hs ⟨Op, All, h1, h2⟩
    unfold idleN at hs
    split at hs
    · cases hs
      obtain ⟨Op', h1'⟩ := h1.pop
      exact ⟨Op', All, h1', h2⟩
    · cases hs
  · rintro s W ⟨Op, All, h1, h2⟩
    have hm := h1.ms
    cases hr : h1.rel with
    | nil => rfl
    | cons _ _ => simp [msr] at hm; omega
  · rintro g s W ⟨Op, All, h1, h2⟩
    refine ⟨?_, h1.rel.fit⟩
    have := h1.dep
    omega
  · rintro Wc W1 s h1 h2 rfl
    have ho := h1.trans (h2.mono h1.size)
    exact ⟨_, _, S0.mv (fun i _ hi => (ho.oth i _ hi rfl).trans hi.symm) (fun i _ hi _ => (ho.oth i _ hi rfl).trans hi.symm) ho.size, b2.trans (ho.below.mono (by omega)), ho.size, ho.oth _ _ q1 rfl⟩
  · intro l s x W K hx hK
    unfold encN at hx
    split at hx
    · cases hx
      rw [fold2]
      simp only [List.setIfInBounds_toArray, List.set_cons_succ, List.set_cons_zero]
      gi_wp2
      exact hK
    · cases hx
  · rintro l g s x W hx ⟨Op, All, hS, hB, hL, hZ⟩
    unfold encN at hx
    split at hx
    · rename_i a m c st
      cases hx
      obtain ⟨e, k, Op', u, rfl, hu, rfl, hge, ⟨cur, hcur⟩, hall, hT, hSm⟩ := hS.top
      have hck := hall k u hu
      obtain ⟨av', hav⟩ : ∃ v, e.av k = v := ⟨_, rfl⟩
      obtain ⟨kv', hkv⟩ : ∃ v, e.kv k = v := ⟨_, rfl⟩
      rw [hav, hkv] at hck hT
      cases hT with
      | mk ha hp hc hk hl =>
        rename_i d' ks' ac' kc' kb' ko' ao' kp' avs kvs
        cases hSm with
        | mk m1 m2 m3 =>
          have c5 : W.cell? ⟨e.g, k * 11 + 5, none⟩ = some (.slice ao' d'.al.length ac') := hck 5 _ rfl
          have c10 : W.cell? ⟨e.g, k * 11 + 10, none⟩ = some (.slice kp' ks'.length kc') := hck 10 _ rfl
          have f5 : W.frozen? ⟨e.g, k * 11 + 5, none⟩ = false := cell_frozen hcur _
          obtain ⟨V1, hV1⟩ : ∃ V, W.alloc (.cells #[.slice ao' d'.al.length ac'] 22) = V := ⟨_, rfl⟩
          obtain ⟨z1, z2, z3⟩ := slot1 _ _ hV1
          have q51 := concat51_any (w := V1) d'.al.length ac' z1 z2 (at_len _) (at_src ha (hB.trans (z3.mono (by have := hB.size; omega)))) (at_one _) (by omega)
          have hWl : w.heap.size ≤ W.heap.size := hB.size
          have hel : e.g < W.heap.size := (Array.getElem?_eq_some_iff.1 hcur).1
          gi_wp2_with fail
          skip
          refine round_call q51 ?_
          rintro e1 W1 ⟨v1, rfl, r1, b1⟩
          have hcur1 : W1.heap[e.g]? = some (.cells cur 27 (0, 0)) := (b1.block _ (Nat.lt_of_lt_of_le hel z3.size)).trans ((z3.block _ hel).trans hcur)
          have g5 : W1.frozen? ⟨e.g, k * 11 + 5, none⟩ = false := cell_frozen hcur1 _
          have g10 : W1.cell? ⟨e.g, k * 11 + 10, none⟩ = some (.slice kp' ks'.length kc') := by
            rw [b1.cell (p := ⟨e.g, k * 11 + 10, none⟩) (Nat.lt_of_lt_of_le hel z3.size), z3.cell (p := ⟨e.g, k * 11 + 10, none⟩) hel]
            exact c10
          have g5c : W1.cell? ⟨e.g, k * 11 + 5, none⟩ = some (.slice ao' d'.al.length ac') := by
            rw [b1.cell (p := ⟨e.g, k * 11 + 5, none⟩) (Nat.lt_of_lt_of_le hel z3.size), z3.cell (p := ⟨e.g, k * 11 + 5, none⟩) hel]
            exact c5
          obtain ⟨a1, k1, hv1, _, _⟩ := r1.slice
          subst hv1
          have g10s : (W1.setCell ⟨e.g, k * 11 + 5, none⟩ (.slice a1 d'.al.length k1)).cell? ⟨e.g, k * 11 + 10, none⟩ = some (.slice kp' ks'.length kc') := by
            rw [World.cell?_setCell_other _ _ _ _ (fun e => by have := congrArg Addr.off e; simp only [] at this; omega)]
            exact g10
          obtain ⟨V2, hV2⟩ : ∃ V, (W1.setCell ⟨e.g, k * 11 + 5, none⟩ (.slice a1 d'.al.length k1)).alloc (.cells #[.slice kp' ks'.length kc'] 25) = V := ⟨_, rfl⟩
          obtain ⟨y1, y2, y3⟩ := slot1 _ _ hV2
          have sz1 : (W1.setCell ⟨e.g, k * 11 + 5, none⟩ (.slice a1 d'.al.length k1)).heap.size = W1.heap.size := by simp [World.setCell]
          rw [sz1] at y1 y2 y3
          have bV2 : Below w.heap.size w V2 := by
            refine hB.trans (((z3.mono hWl).trans (b1.mono (Nat.le_trans hWl z3.size))).trans (((Below.refl w.heap.size W1).setCell (p := ⟨e.g, k * 11 + 5, none⟩) (by simp only []; omega) _).trans (y3.mono ?_)))
            have := z3.size; have := b1.size; omega
          have q52 := concat52_any (w := V2) (A := kcells ks' avs kvs) ks'.length kc' y1 y2 (kcells_len _ _ _) (fun j x hx => by
            obtain ⟨j', i, t', h1, rfl, h3⟩ := kcells_inv _ _ _ _ _ hx
            obtain ⟨h4, h5⟩ := hc j' t' h1
            refine ⟨kb', ko', hp (fun e => by rw [e] at h1; simp at h1), Nat.lt_of_lt_of_le h4 bV2.size, ?_⟩
            rw [bV2.cell (p := ⟨kb', ko' + (j' * 11 + i), none⟩) h4, show ko' + (j' * 11 + i) = ko' + j' * 11 + i by omega]
            exact h5 i x h3) (kcells_one _ _ _ (fun j t hj => (hk j t hj).one)) (by omega)
          clear q51
          obtain ⟨W2, hW2⟩ : ∃ W2, W1.setCell ⟨e.g, k * 11 + 5, none⟩ (.slice a1 d'.al.length k1) = W2 := ⟨_, rfl⟩
          have HV2 : Hid ((W1.setCell ⟨e.g, k * 11 + 5, none⟩ (.slice a1 d'.al.length k1)).alloc (.cells #[.slice kp' ks'.length kc'] 25) = V2) := hV2
          rw [hW2] at hV2 sz1 g10s
          gi_wp2_with fail
          refine round_call q52 ?_
          rintro e2 W3 ⟨v2, rfl, r2, b3⟩
          obtain ⟨a2, k2, hv2, _, _⟩ := r2.slice
          subst hv2
          have hcur3 : ∃ cur, W3.heap[e.g]? = some (.cells cur 27 (0, 0)) := by
            have h1 := heap_setCell_same W1 e.g (k * 11 + 5) cur 27 (.slice a1 d'.al.length k1) hcur1
            have hl1 := (Array.getElem?_eq_some_iff.1 hcur1).1
            exact ⟨_, (b3.block _ (by omega)).trans ((y3.block _ (by omega)).trans h1)⟩
          obtain ⟨cur3, hcur3⟩ := hcur3
          have g10' : W3.frozen? ⟨e.g, k * 11 + 10, none⟩ = false := cell_frozen hcur3 _
          have g10c : W3.cell? ⟨e.g, k * 11 + 10, none⟩ = some (.slice kp' ks'.length kc') := by
            rw [b3.cell (p := ⟨e.g, k * 11 + 10, none⟩) (by show e.g < V2.heap.size; have := (Array.getElem?_eq_some_iff.1 hcur1).1; omega), y3.cell (p := ⟨e.g, k * 11 + 10, none⟩) (Array.getElem?_eq_some_iff.1 hcur1).1, hW2]
            exact g10s
          have hcp := Cpd.of (ks := ks') (avs := avs) (kvs := kvs) hcur hV1 b1 r1 HV2.out b3 r2
          clear q52
          gi_wp2_with fail
          obtain ⟨Op2, All2, hS2⟩ := hS.went (by omega) hWl hu hall hcp hk
          have hck2 := hcp.mine _ _ _ hck 10 _ rfl
          have hgr := hcp.grow
          refine ⟨⟨hgr, fun i o hi ho => ?_⟩, _, ⟨⟨e.g, k * 11, none⟩, m, c, st, (a2, ks'.length, k2), rfl, hck2, rfl⟩, Op2, All2, hS2, hB.trans ⟨hcp.os, hcp.tape, hcp.output, hcp.grow, fun i hi => hcp.hold i (by omega) (by omega)⟩, Nat.le_trans hL hcp.grow, (hcp.hold _ (by omega) (by omega)).trans hZ⟩
          refine (hcp.hold i (Array.getElem?_eq_some_iff.1 hi).1 (fun e' => ?_)).trans hi
          subst e'
          rw [hcur] at hi
          cases hi
          simp [Mine] at ho
    · cases hx
  · rintro D g s W hD hs ⟨Op, All, hS, hB, hL, hZ⟩ hd
    subst hs
    obtain ⟨p, hp, hpg, hpt⟩ := hS.root
    have ok := hS.ok p hp
    have h0 : Op = [] := by
      cases hr : hS.rel
      rfl
    have hp1 : p.2 = 1 := by
      have h1 := ok.le
      rw [hpt] at h1
      simp at h1
      by_cases h2 : p.2 < p.1.ts.length
      · have := hS.all p hp h2
        rw [h0] at this
        simp at this
      · rw [hpt] at h2
        simp at h2
        omega
    have c := ok.cs 0 (.mk d ks) (by rw [hpt]; rfl)
    obtain ⟨rw1, kp1, kc1, hkv, _, _, _⟩ := ok.dn 0 (.mk d ks) (by rw [hpt]; rfl) (by omega)
    obtain ⟨a1, k1, hav, _, _⟩ := rw1.slice
    simp only [Tr.d, Tr.k] at hav hkv
    rw [hkv, hav, hpg] at c
    have HC : Hid (CellsAt W (w.heap.size + 1 + 1) 0 (Nd.cs d (.slice a1 d.al.length k1) (.slice kp1 ks.length kc1))) := c
    have l0 : W.cell? ⟨w.heap.size + 1 + 1, 0, none⟩ = some (iv d.id) := c 0 _ rfl
    have l1 : W.cell? ⟨w.heap.size + 1 + 1, 1, none⟩ = some (iv d.kind) := c 1 _ rfl
    have l2 : W.cell? ⟨w.heap.size + 1 + 1, 2, none⟩ = some (iv d.space) := c 2 _ rfl
    have l3 : W.cell? ⟨w.heap.size + 1 + 1, 3, none⟩ = some (.string d.name) := c 3 _ rfl
    have l4 : W.cell? ⟨w.heap.size + 1 + 1, 4, none⟩ = some (.string d.text) := c 4 _ rfl
    have l5 : W.cell? ⟨w.heap.size + 1 + 1, 5, none⟩ = some (.slice a1 d.al.length k1) := c 5 _ rfl
    have l6 : W.cell? ⟨w.heap.size + 1 + 1, 6, none⟩ = some (iv d.sf) := c 6 _ rfl
    have l7 : W.cell? ⟨w.heap.size + 1 + 1, 7, none⟩ = some (iv d.st) := c 7 _ rfl
    have l8 : W.cell? ⟨w.heap.size + 1 + 1, 8, none⟩ = some (iv d.ef) := c 8 _ rfl
    have l9 : W.cell? ⟨w.heap.size + 1 + 1, 9, none⟩ = some (iv d.et) := c 9 _ rfl
    have l10 : W.cell? ⟨w.heap.size + 1 + 1, 10, none⟩ = some (.slice kp1 ks.length kc1) := c 10 _ rfl
    have z0 : W.cell? ⟨w.heap.size + 1, 0, none⟩ = some (iv 0) := by simp [World.cell?, hZ]
    have y0 : W.frozen? ⟨w.heap.size + 1, 0, none⟩ = false := cell_frozen hZ _
    have z1 : W.cell? ⟨w.heap.size + 1, 1, none⟩ = some (iv 0) := by simp [World.cell?, hZ]
    have y1 : W.frozen? ⟨w.heap.size + 1, 1, none⟩ = false := cell_frozen hZ _
    have z2 : W.cell? ⟨w.heap.size + 1, 2, none⟩ = some (iv 0) := by simp [World.cell?, hZ]
    have y2 : W.frozen? ⟨w.heap.size + 1, 2, none⟩ = false := cell_frozen hZ _
    have z3 : W.cell? ⟨w.heap.size + 1, 3, none⟩ = some (.string { data := #[] }) := by simp [World.cell?, hZ]
    have y3 : W.frozen? ⟨w.heap.size + 1, 3, none⟩ = false := cell_frozen hZ _
    have z4 : W.cell? ⟨w.heap.size + 1, 4, none⟩ = some (.string { data := #[] }) := by simp [World.cell?, hZ]
    have y4 : W.frozen? ⟨w.heap.size + 1, 4, none⟩ = false := cell_frozen hZ _
    have z5 : W.cell? ⟨w.heap.size + 1, 5, none⟩ = some (.slice none 0 0) := by simp [World.cell?, hZ]
    have y5 : W.frozen? ⟨w.heap.size + 1, 5, none⟩ = false := cell_frozen hZ _
    have z6 : W.cell? ⟨w.heap.size + 1, 6, none⟩ = some (iv 0) := by simp [World.cell?, hZ]
    have y6 : W.frozen? ⟨w.heap.size + 1, 6, none⟩ = false := cell_frozen hZ _
    have z7 : W.cell? ⟨w.heap.size + 1, 7, none⟩ = some (iv 0) := by simp [World.cell?, hZ]
    have y7 : W.frozen? ⟨w.heap.size + 1, 7, none⟩ = false := cell_frozen hZ _
    have z8 : W.cell? ⟨w.heap.size + 1, 8, none⟩ = some (iv 0) := by simp [World.cell?, hZ]
    have y8 : W.frozen? ⟨w.heap.size + 1, 8, none⟩ = false := cell_frozen hZ _
    have z9 : W.cell? ⟨w.heap.size + 1, 9, none⟩ = some (iv 0) := by simp [World.cell?, hZ]
    have y9 : W.frozen? ⟨w.heap.size + 1, 9, none⟩ = false := cell_frozen hZ _
    have z10 : W.cell? ⟨w.heap.size + 1, 10, none⟩ = some (.slice none 0 0) := by simp [World.cell?, hZ]
    have y10 : W.frozen? ⟨w.heap.size + 1, 10, none⟩ = false := cell_frozen hZ _
    clear c
    gi_wp2
    have sp := sets11 hZ (.int .i64 d.id) (.int .i64 d.kind) (.int .i64 d.space) (.string d.name) (.string d.text) (.slice a1 d.al.length k1) (.int .i64 d.sf) (.int .i64 d.st) (.int .i64 d.ef) (.int .i64 d.et) (.slice kp1 ks.length kc1)
    revert sp
    generalize World.setCell _ _ _ = W'
    rintro ⟨e1, e2, e3⟩
    have hD' : W'.heap[D]? = some (.deferred (some [])) := (e2.block D (Array.getElem?_eq_some_iff.1 hd).1 (fun e => by simp at e; omega)).trans hd
    have hf : Below w.heap.size W' (W'.putObj D (.deferred none)) := (Off.put (q := 25) _ (by omega) hD' rfl).below
    have hb1 : W'.heap[w.heap.size + 1]? = (W'.putObj D (.deferred none)).heap[w.heap.size + 1]? := (World.putObj_heap_other (by omega)).symm
    refine ⟨by simp, .inl ⟨_, _, rfl, run_takeDeferred hD', ?_⟩⟩
    refine ⟨_, results_cell_row rfl _ _ (w.heap.size + 1) 27 _ (0, 0) _ rfl (hb1.symm.trans e1) Try.underlying27 rfl (by kernel_rfl), (hB.trans ⟨e2.os, e2.tape, e2.output, e2.size, fun k hk => e2.block k (by omega) (fun e => by simp at e; omega)⟩).trans hf, .slice a1 d.al.length k1, .slice kp1 ks.length kc1, rfl, w.heap.size + 1 + 1, 1 + cT (.mk d ks), All, by omega, ?_, ?_, p.1, ?_, hpg, hpt, hav, hkv⟩
    · have hmv : ∀ g, g < W.heap.size → g ≠ w.heap.size + 1 → g ≠ D → (W'.putObj D (.deferred none)).heap[g]? = W.heap[g]? := fun g h1 h2 h3 => (World.putObj_heap_other h3).trans (e2.block g h1 (fun e => by simp at e; omega))
      have hDn : ∀ (g : Nat) (cur : Array Value) (t : Nat), W.heap[g]? = some (.cells cur t (0, 0)) → g ≠ D := fun g cur t hg e => by rw [e, hd] at hg; simp at hg
      rw [h0] at hS
      have hg0' : g = 0 := hS.ms
      rw [hg0'] at hS
      refine hS.mv (fun g cur hg => hmv g (Array.getElem?_eq_some_iff.1 hg).1 (fun e => ?_) (hDn g cur _ hg)) (fun g cur hg hge => hmv g (Array.getElem?_eq_some_iff.1 hg).1 (by omega) (hDn g cur _ hg)) (by simp only [World.putObj, Array.size_setIfInBounds]; omega)
      rw [e, hZ] at hg
      simp at hg
    · refine HC.out.mv ?_
      exact (World.putObj_heap_other (by omega)).trans (e2.block _ (by omega) (fun e => by simp at e))
    · rw [← hp1]; exact hp
end Go.Proofs.Ytdpibnmbgjhohaa
