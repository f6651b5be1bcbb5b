/- A node more in the document's arena: New, Make. -/
import Derived.Test.YtcdaghlbfclpkaaCb
namespace Go.Proofs.Ytcdaghlbfclpkaa
open Go.RowKit

theorem RaV.lt {S : Nat → Prop} {w : World} {x : Nat} {rv : Value} {L : List RN} (h : RaV S w x rv L) : x < w.heap.size := (Array.getElem?_eq_some_iff.1 h.blk).1
theorem cells13 (r : RN) : r.cells.length = 13 := rfl
theorem ra_grow {S : Nat → Prop} {w : World} {x : Nat} {rv : Value} {L : List RN} (h : RaV S w x rv L) {n : Nat} (hn : L.length = n) (hP : n ≤ 900000000) (r : RN) (arr : Array Value) (harr : arr.toList = r.cells) (h1c : ∀ u ∈ r.cells, u.oneCell' = true) (ha : Rw S w 53 2 r.d.av r.d.al.length (r.d.al.flatMap At.cells)) (hk : Rw S w 3 1 r.kv r.ks.length (iL r.ks)) :
    ∃ g c W, (Builtin.append_ #[39, 39] 39 #[rv, .slice (some ⟨w.heap.size, 0, none⟩) 1 1]).run Try.prog (w.alloc (.cells arr 68)) = .ok (.slice (some ⟨g, 0, none⟩) (n + 1) c) W ∧ W.cell? ⟨x, 0, none⟩ = some rv ∧ W.frozen? ⟨x, 0, none⟩ = false ∧
      RO S (W.setCell ⟨x, 0, none⟩ (.slice (some ⟨g, 0, none⟩) (n + 1) c)) x g (n + 1) c (L ++ [r]) ∧ Keep S w (W.setCell ⟨x, 0, none⟩ (.slice (some ⟨g, 0, none⟩) (n + 1) c)) := by
  have b1 : Below w.heap.size w (w.alloc (.cells arr 68)) := (Below.refl _ _).alloc (Nat.le_refl _) _
  obtain ⟨v', W, h1, h2, h3, h4⟩ := Rw.app (t := 39) (e := 68) (S := S) Try.underlying39 info68 rfl (by decide) (by decide) (h.nr.old b1) (fun k hk => Nat.lt_of_lt_of_le (h.low k hk) b1.size) w.heap.size 0 1 1 r.cells (cells13 r)
    (fun j u hj => by rw [Nat.zero_add, World.cell?_alloc_at _ _ _ _ rfl, ← hj, ← harr]; simp) h1c (by omega)
  obtain ⟨g, c, cur, rfl, hgS, _, hgb, _⟩ := h2.form (by omega)
  rw [hn] at h1 h2
  have hgr : w.grownBy W rv.ownBlock := ⟨h3.os.trans b1.os, h3.tape.trans b1.tape, h3.output.trans b1.output, Nat.le_trans b1.size h3.size, fun k hk hne => (h3.block k (Nat.lt_of_lt_of_le hk b1.size) hne).trans (b1.block k hk)⟩
  have hxr : some x ≠ rv.ownBlock := fun q => by
    obtain ⟨_, c', h5⟩ := own_blk h.nr.own q.symm
    rw [h.blk] at h5
    simp at h5
  have hx1 : W.heap[x]? = some (.cells #[rv] 41 (0, 0)) := (hgr.block x h.lt hxr).trans h.blk
  have hxg : x ≠ g := fun q => by rw [q, hgb] at hx1; simp at hx1
  have hnl : (L ++ [r]).length = n + 1 := by rw [List.length_append, hn]; rfl
  have hnd : (L ++ [r]).flatMap RN.cells = L.flatMap RN.cells ++ r.cells := by rw [List.flatMap_append]; simp
  have hk' : ∀ k, k < w.heap.size → k ≠ x → some k ≠ rv.ownBlock → (W.setCell ⟨x, 0, none⟩ (.slice (some ⟨g, 0, none⟩) (n + 1) c)).heap[k]? = w.heap[k]? := fun k q1 q2 q3 => (heap_setCell_other W ⟨x, 0, none⟩ k _ q2).trans (hgr.block k q1 q3)
  have p1 : ∀ {e s n' : Nat} {v : Value} {xs : List Value}, Rw S w e s v n' xs → 41 ≠ e → 68 ≠ e → Rw S (W.setCell ⟨x, 0, none⟩ (.slice (some ⟨g, 0, none⟩) (n + 1) c)) e s v n' xs := fun hq he ht => hq.mv fun k hk => by
    obtain ⟨q1, c1, q2⟩ := own_blk hq.own hk
    refine hk' k q1 (fun e' => ?_) (fun e' => ?_)
    · rw [e', h.blk] at q2
      simp at q2
      exact he q2.2
    · obtain ⟨_, c2, q3⟩ := own_blk h.nr.own e'.symm
      rw [q2] at q3
      simp at q3
      exact ht q3.2.symm
  refine ⟨g, c, W, h1, by simp [World.cell?, hx1], frozen_of_row W x 0 _ 41 hx1, ⟨⟨fun k hk => ?_, h.hx, ?_, ?_, fun q hq => ?_, fun q hq => ?_, by rw [hnl]; omega⟩, hnl⟩, ⟨hgr.os, hgr.tape, hgr.output, by simpa using hgr.size, fun k hk1 hk2 => hk' k hk2 (fun e => h.hx (e ▸ hk1)) (fun e => h.nr.out k e.symm hk1)⟩⟩
  · have := Nat.lt_of_lt_of_le (h.low k hk) hgr.size
    simpa using this
  · exact heap_setCell_same W x 0 _ 41 _ hx1
  · rw [hnl, hnd]
    exact h2.mv fun k hk => by
      simp [Value.ownBlock] at hk
      subst hk
      exact heap_setCell_other W ⟨x, 0, none⟩ g _ (fun e => hxg e.symm)
  · rcases List.mem_append.1 hq with hq | hq
    · exact p1 (h.ats q hq) (by decide) (by decide)
    · simp at hq
      subst hq
      exact p1 ha (by decide) (by decide)
  · rcases List.mem_append.1 hq with hq | hq
    · exact p1 (h.kds q hq) (by decide) (by decide)
    · simp at hq
      subst hq
      exact p1 hk (by decide) (by decide)

theorem enters50 : ∀ args w, (callFunc 50 args).run Try.prog w = .ok (.enter 50 args) w := enters_of Try.func50 (by kernel_rfl) rfl
theorem rmake_no {w : World} (x : Nat) (d : Nd) (ao : Option Addr) (ac : Nat) (ko : Option Addr) (kn kc : Nat) (hk : mkNo d.kind = true) : Calls Try.prog 32 #[ptr x, .agg #[iv d.id, iv d.kind, iv d.space, .string d.name, .string d.text, .slice ao d.al.length ac, iv d.sf, iv d.st, iv d.ef, iv d.et, .slice ko kn kc]] w (fun e w' => e = .returned (iv (-1)) ∧ Below w.heap.size w w') := by
  have b0 : Below w.heap.size w (w.alloc (.cells #[iv d.id, iv d.kind, iv d.space, .string d.name, .string d.text, .slice ao d.al.length ac, iv d.sf, iv d.st, iv d.ef, iv d.et, .slice ko kn kc] 35)) := (Below.refl _ _).alloc (Nat.le_refl _) _
  have n0 : Bx (w.alloc (.cells #[iv d.id, iv d.kind, iv d.space, .string d.name, .string d.text, .slice ao d.al.length ac, iv d.sf, iv d.st, iv d.ef, iv d.et, .slice ko kn kc] 35)) w.heap.size #[iv d.id, iv d.kind, iv d.space, .string d.name, .string d.text, .slice ao d.al.length ac, iv d.sf, iv d.st, iv d.ef, iv d.et, .slice ko kn kc] := heap_alloc_new w _
  obtain ⟨W0, hW0⟩ : ∃ W0, w.alloc (.cells #[iv d.id, iv d.kind, iv d.space, .string d.name, .string d.text, .slice ao d.al.length ac, iv d.sf, iv d.st, iv d.ef, iv d.et, .slice ko kn kc] 35) = W0 := ⟨_, rfl⟩
  have HW0 : Hid (w.alloc (.cells #[iv d.id, iv d.kind, iv d.space, .string d.name, .string d.text, .slice ao d.al.length ac, iv d.sf, iv d.st, iv d.ef, iv d.et, .slice ko kn kc] 35) = W0) := hW0
  rw [hW0] at b0 n0
  have y1 : W0.cell? ⟨w.heap.size, 1, none⟩ = some (iv d.kind) := n0.cell 1
  have HB : Hid (Below w.heap.size w W0) := b0
  clear hW0 b0 n0
  by_cases h1 : d.kind < 1
  · have hd : decide (d.kind < 1) = true := decide_eq_true h1
    go_enter Try.func32, Try.ntmps32
    go_upto_region 1 with fail
    rw [HW0.out]
    go_wp2_with fail
    go_ret
    exact ⟨rfl, HB.out⟩
  · have hd : decide (d.kind < 1) = false := decide_eq_false h1
    have hd2 : decide (d.kind > 4) = true := by simpa [mkNo, h1] using hk
    clear h1 hk
    go_enter Try.func32, Try.ntmps32
    go_upto_region 1 with fail
    rw [HW0.out]
    go_wp2_with fail
    go_ret
    exact ⟨rfl, HB.out⟩
/-- A new node, as the document's arena keeps it. -/
def Nd.rn (d : Nd) (av : Value) : RN := ⟨⟨0, d.kind, d.space, d.name, d.text, av, d.al, d.sf, d.st, d.ef, d.et⟩, -1, .slice none 0 0, []⟩
set_option maxHeartbeats 2000000 in
set_option maxRecDepth 20000 in
theorem rmake_any {S : Nat → Prop} {w : World} {x g n c : Nat} {L : List RN} (o : RO S w x g n c L) (hn2 : n ≤ 900000000) (d : Nd) (hk : mkNo d.kind = false) {ao : Option Addr} {ac : Nat} (ha : Ats w (.slice ao d.al.length ac) d.al) (hf : d.al.length ≤ 1000000000) (ko : Option Addr) (kn kc : Nat) :
    Calls Try.prog 32 #[ptr x, .agg #[iv d.id, iv d.kind, iv d.space, .string d.name, .string d.text, .slice ao d.al.length ac, iv d.sf, iv d.st, iv d.ef, iv d.et, .slice ko kn kc]] w (fun e w' => ∃ av, e = .returned (iv (n : Int)) ∧ Ra S w' x (L ++ [d.rn av]) ∧ Keep S w w') := by
  have b0 : Below w.heap.size w (w.alloc (.cells #[iv d.id, iv d.kind, iv d.space, .string d.name, .string d.text, .slice ao d.al.length ac, iv d.sf, iv d.st, iv d.ef, iv d.et, .slice ko kn kc] 35)) := (Below.refl _ _).alloc (Nat.le_refl _) _
  have n0 : Bx (w.alloc (.cells #[iv d.id, iv d.kind, iv d.space, .string d.name, .string d.text, .slice ao d.al.length ac, iv d.sf, iv d.st, iv d.ef, iv d.et, .slice ko kn kc] 35)) w.heap.size #[iv d.id, iv d.kind, iv d.space, .string d.name, .string d.text, .slice ao d.al.length ac, iv d.sf, iv d.st, iv d.ef, iv d.et, .slice ko kn kc] := heap_alloc_new w _
  obtain ⟨W0, hW0⟩ : ∃ W0, w.alloc (.cells #[iv d.id, iv d.kind, iv d.space, .string d.name, .string d.text, .slice ao d.al.length ac, iv d.sf, iv d.st, iv d.ef, iv d.et, .slice ko kn kc] 35) = W0 := ⟨_, rfl⟩
  have HW0 : Hid (w.alloc (.cells #[iv d.id, iv d.kind, iv d.space, .string d.name, .string d.text, .slice ao d.al.length ac, iv d.sf, iv d.st, iv d.ef, iv d.et, .slice ko kn kc] 35) = W0) := hW0
  rw [hW0] at b0 n0
  clear hW0
  have y0 : W0.cell? ⟨w.heap.size, 0, none⟩ = some (iv d.id) := n0.cell 0
  have y1 : W0.cell? ⟨w.heap.size, 1, none⟩ = some (iv d.kind) := n0.cell 1
  have y2 : W0.cell? ⟨w.heap.size, 2, none⟩ = some (iv d.space) := n0.cell 2
  have y3 : W0.cell? ⟨w.heap.size, 3, none⟩ = some (.string d.name) := n0.cell 3
  have y4 : W0.cell? ⟨w.heap.size, 4, none⟩ = some (.string d.text) := n0.cell 4
  have y5 : W0.cell? ⟨w.heap.size, 5, none⟩ = some (.slice ao d.al.length ac) := n0.cell 5
  have y6 : W0.cell? ⟨w.heap.size, 6, none⟩ = some (iv d.sf) := n0.cell 6
  have y7 : W0.cell? ⟨w.heap.size, 7, none⟩ = some (iv d.st) := n0.cell 7
  have y8 : W0.cell? ⟨w.heap.size, 8, none⟩ = some (iv d.ef) := n0.cell 8
  have y9 : W0.cell? ⟨w.heap.size, 9, none⟩ = some (iv d.et) := n0.cell 9
  have y10 : W0.cell? ⟨w.heap.size, 10, none⟩ = some (.slice ko kn kc) := n0.cell 10
  have o0 := o.old b0
  have c0 := o0.c
  have hd : decide (d.kind < 1) = false := decide_eq_false (fun q => by simp [mkNo, q] at hk)
  have hd2 : decide (d.kind > 4) = false := decide_eq_false (fun q => by simp [mkNo, q] at hk)
  have HC : Hid (∀ w', Below W0.heap.size W0 w' → Calls Try.prog 50 #[.agg #[iv d.id, iv d.kind, iv d.space, .string d.name, .string d.text, .slice ao d.al.length ac, iv d.sf, iv d.st, iv d.ef, iv d.et, .slice ko kn kc]] w' fun e w2 => ∃ ao2 ac2 g' c' W, e = .returned (.agg #[iv 0, iv d.kind, iv d.space, .string d.name, .string d.text, .slice ao2 d.al.length ac2, iv d.sf, iv d.st, iv d.ef, iv d.et, .slice none 0 0]) ∧ w2.cell? ⟨x, 0, none⟩ = some (.slice (some ⟨g, 0, none⟩) n c) ∧ x < w2.heap.size ∧ (Builtin.append_ #[39, 39] 39 #[.slice (some ⟨g, 0, none⟩) n c, .slice (some ⟨w2.heap.size, 0, none⟩) 1 1]).run Try.prog (w2.alloc (.cells #[iv 0, iv d.kind, iv d.space, .string d.name, .string d.text, .slice ao2 d.al.length ac2, iv d.sf, iv d.st, iv d.ef, iv d.et, .slice none 0 0, iv (-1), .slice none 0 0] 68)) = .ok (.slice (some ⟨g', 0, none⟩) (n + 1) c') W ∧ W.cell? ⟨x, 0, none⟩ = some (.slice (some ⟨g, 0, none⟩) n c) ∧ W.frozen? ⟨x, 0, none⟩ = false ∧ RO S (W.setCell ⟨x, 0, none⟩ (.slice (some ⟨g', 0, none⟩) (n + 1) c')) x g' (n + 1) c' (L ++ [d.rn (.slice ao2 d.al.length ac2)]) ∧ Keep S w (W.setCell ⟨x, 0, none⟩ (.slice (some ⟨g', 0, none⟩) (n + 1) c'))) := fun w' hb => by
    refine (bare_any d ((ha.old b0).old hb) hf ko kn kc).mono ?_
    rintro e w2 ⟨ao2, ac2, rfl, b2, hr⟩
    have b02 : Below w.heap.size w w2 := (b0.trans (hb.mono b0.size)).trans (b2.mono (Nat.le_trans b0.size hb.size))
    have o2 : RO S w2 x g n c L := o.old b02
    have hr2 := hr S (fun k hk => Nat.lt_of_lt_of_le (o.v.low k hk) (Nat.le_trans b0.size hb.size))
    obtain ⟨g', c', W, h1, h2, h3, h4, h5⟩ := ra_grow o2.v o.nn hn2 (d.rn (.slice ao2 d.al.length ac2)) #[iv 0, iv d.kind, iv d.space, .string d.name, .string d.text, .slice ao2 d.al.length ac2, iv d.sf, iv d.st, iv d.ef, iv d.et, .slice none 0 0, iv (-1), .slice none 0 0] rfl (by intro u hu; simp only [RN.cells, Nd.rn, List.mem_cons, List.not_mem_nil, or_false] at hu; rcases hu with rfl | rfl | rfl | rfl | rfl | rfl | rfl | rfl | rfl | rfl | rfl | rfl | rfl <;> rfl) hr2 (Rw.nil _ _ _ _)
    exact ⟨ao2, ac2, g', c', W, rfl, o2.c, o2.v.lt, h1, h2, h3, h4, (Keep.old b02).trans h5⟩
  have hwn : IntKind.i64.wrap ((n : Int) + 1 - 1) = (n : Int) := by rw [IntKind.wrap_i64]; omega
  have hwn2 : IntKind.i64.wrap (n : Int) = (n : Int) := by rw [IntKind.wrap_i64]; omega
  clear o o0 hk ha b0 n0
  go_enter Try.func32, Try.ntmps32
  go_upto_region 1 with fail
  rw [HW0.out]
  go_upto_region 3 with fail
  go_region_law (first
    | (refine step_call1 50 _ _ rfl rfl enters50 _ (by simp [Act.eval]) (HC.out _ ((Below.refl _ _).drew)) ?_; rintro e w2 ⟨ao2, ac2, g', c', W, rfl, q0, qx, hrun, q1, q2, q3, q4⟩; have HR : Hid (RO S (W.setCell ⟨x, 0, none⟩ (.slice (some ⟨g', 0, none⟩) (n + 1) c')) x g' (n + 1) c' (L ++ [d.rn (.slice ao2 d.al.length ac2)]) ∧ Keep S w (W.setCell ⟨x, 0, none⟩ (.slice (some ⟨g', 0, none⟩) (n + 1) c'))) := ⟨q3, q4⟩; clear q3 q4; refine ⟨_, rfl, ?_⟩)
    | (refine step_append_eq rfl _ _ 39 39 rfl _ _ (by first | (simp [Act.eval]; done) | simp [Act.eval, Act.put]) (by first | (simp [Act.eval]; done) | simp [Act.eval, Act.put]) hrun ?_))
  all_goals
    have cx := HR.out.1.c
    clear hrun q0 qx q1 q2
    generalize hWW : W.setCell ⟨x, 0, none⟩ (.slice (some ⟨g', 0, none⟩) (n + 1) c') = W9 at *
    clear hWW
    go_wp2_with fail
    go_ret
    exact ⟨_, rfl, ⟨_, HR.out.1.v⟩, HR.out.2⟩
end Go.Proofs.Ytcdaghlbfclpkaa
