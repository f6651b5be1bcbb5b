/- What is being made: keep, begin (an attribute; a tag, a comment, a doctype), endName. -/
import Derived.Test.YtdiealijjhfhjaaGreatDoorZl
import Derived.StillTailTactics
namespace Go.Proofs.YtdiealijjhfhjaaGreatDoor
open Go.RowKit Go.Maps
theorem MachW.set14 {Z : Nat → Prop} {S : Nat → Prop} {x : Nat} {m : Mc} {v : Vs} {T : List TL} {w : World} (h : MachW Z S x m v T w) (u : Value) : MachW Z S x m { v with m := u } T (w.setCell ⟨x, 14, none⟩ u) ∧ Keep S w (w.setCell ⟨x, 14, none⟩ u) := by
  have hk : Keep S w (w.setCell ⟨x, 14, none⟩ u) := (Keep.refl S w).setCell (p := ⟨x, 14, none⟩) h.hx u
  have hne : ∀ g, g ≠ x → (w.setCell ⟨x, 14, none⟩ u).heap[g]? = w.heap[g]? := fun g hg => Below.heap_setCell _ _ _ _ hg
  refine ⟨⟨fun k hS => Nat.lt_of_lt_of_le (h.low k hS) hk.size, h.hz, h.hi.keep hk, ?_, ?_, h.trie.keep hk, h.told, fun t ht => (h.toks t ht).keep hk⟩, hk⟩
  · have hc : (m.cells v).set! 14 u = m.cells { v with m := u } := by simp [Mc.cells]
    rw [← hc]
    simp [World.setCell, Array.getElem?_modify, h.blk]
  · exact h.bag.mv (fun g cur e zz he hg _ => hne g (fun e2 => by subst e2; rw [h.blk] at hg; simp at hg; exact he hg.2.1.symm)) (rows_ne _ _ _)
theorem MachW.grownM {Z : Nat → Prop} {S : Nat → Prop} {x : Nat} {m : Mc} {v : Vs} {T : List TL} {w W : World} (h : MachW Z S x m v T w) {b : Nat} (hb : ∀ cur e z, w.heap[b]? ≠ some (.cells cur e z)) (hS : ¬ S b) (hg : w.grownBy W (some b)) : MachW Z S x m v T W ∧ Keep S w W := by
  have hk : Keep S w W := Keep.grown hg (fun g e => by cases e; exact hS)
  refine ⟨⟨fun k hS => Nat.lt_of_lt_of_le (h.low k hS) hk.size, h.hz, h.hi.keep hk, ?_, ?_, h.trie.keep hk, h.told, fun t ht => (h.toks t ht).keep hk⟩, hk⟩
  · exact (hg.block x h.lt (fun e => by cases e; exact hb _ _ _ h.blk)).trans h.blk
  · exact h.bag.mv (fun g cur e zz _ hg2 _ => hg.block g (Array.getElem?_eq_some_iff.1 hg2).1 (fun e => by cases e; exact hb _ _ _ hg2)) (rows_ne _ _ _)
theorem set_same {w : World} {b : Nat} {cs : Array Value} {e : TypeId} {z : Nat × Nat} (h : w.heap[b]? = some (.cells cs e z)) (i : Nat) (u : Value) (hi : cs[i]? = some u) : w.setCell ⟨b, i, none⟩ u = w := by
  obtain ⟨hlt, hb⟩ := Array.getElem?_eq_some_iff.1 h
  obtain ⟨hil, hiu⟩ := Array.getElem?_eq_some_iff.1 hi
  have hs : cs.set! i u = cs := by
    subst hiu
    apply Array.ext'
    apply List.ext_getElem?
    intro k
    simp only [Array.set!_eq_setIfInBounds, Array.toList_setIfInBounds, List.getElem?_set]
    split
    · rename_i hik
      subst hik
      simp [hil]
    · rfl
  have hh : (w.setCell ⟨b, i, none⟩ u).heap = w.heap := by
    apply Array.ext_getElem?
    intro k
    by_cases hk : k = b
    · subst hk
      simp [World.setCell, Array.getElem?_modify, h]
      simpa using hs
    · exact Below.heap_setCell _ _ _ _ hk
  unfold World.setCell at hh ⊢
  cases w
  simp at hh ⊢
  exact hh
def Mc.noAttr (m : Mc) : Mc := { m with at_ := 0, an := [], av := [], cnt := false }
structure Cleared (Z : Nat → Prop) (S : Nat → Prop) (x : Nat) (m : Mc) (v : Vs) (T : List TL) (w W1 : World) : Prop where
  mach : MachV Z S x m.noAttr { v with an := .slice none 0 0, av := .slice none 0 0 } T W1
  keep : Keep S w W1
  an : OwnQ W1 false 5 1 v.an m.an.length (Lib.byteCells m.an)
  av : OwnQ W1 false 5 1 v.av m.av.length (Lib.byteCells m.av)
theorem cleared {Z : Nat → Prop} {S : Nat → Prop} {x : Nat} {m : Mc} {v : Vs} {T : List TL} {w W0 : World} (h : MachV Z S x m v T w) (b0 : Below w.heap.size w W0) : Cleared Z S x m v T w (setAll W0 x [(15, .int .i64 0), (16, .slice none 0 0), (17, .slice none 0 0), (18, .bool false)]) := by
  have h0 := h.below b0
  obtain ⟨q1, q2⟩ := h0.turn (m' := m.noAttr) (v' := { v with an := .slice none 0 0, av := .slice none 0 0 }) (T' := T) [(15, .int .i64 0), (16, .slice none 0 0), (17, .slice none 0 0), (18, .bool false)] rfl (by simp [Mc.cells, Mc.noAttr]) ((h0.bag.drop h0.low 5 _ rfl 5 1).drop h0.low 6 _ rfl 5 1) h0.names rfl h0.told h0.toks
  refine ⟨q1, (Keep.old b0).trans q2, ?_, ?_⟩
  · exact own_mv (h0.bag.own 5 _ rfl) fun g hg => setAll_ne x _ _ g (h0.toW.apart 5 _ rfl g hg)
  · exact own_mv (h0.bag.own 6 _ rfl) fun g hg => setAll_ne x _ _ g (h0.toW.apart 6 _ rfl g hg)
def Mc.oneMore (m : Mc) : Mc := { m.noAttr with attrs := m.attrs ++ [⟨bs m.an, bs m.av⟩] }
theorem keep_cnt {m : Mc} (h : m.cnt = true) : m.keep = m.oneMore := by simp [Mc.keep, Mc.oneMore, Mc.noAttr, h]
theorem keep_not {m : Mc} (h : m.cnt = false) : m.keep = m.noAttr := by simp [Mc.keep, Mc.noAttr, h]
theorem attrs_run {Z : Nat → Prop} {S : Nat → Prop} {x : Nat} {m : Mc} {v : Vs} {T : List TL} {w W1 : World} (h : Cleared Z S x m v T w W1) (hn : m.tot ≤ 1000000000) : ∃ ao c W2, (Builtin.append_ #[38, 38] 38 #[v.a, .slice (some ⟨W1.heap.size, 0, none⟩) 1 1]).run Tryz.prog (W1.alloc (.cells #[.string (bs m.an), .string (bs m.av)] 108)).drew = .ok (.slice ao (m.attrs.length + 1) c) W2 ∧
    MachW Z S x m.oneMore { v with an := .slice none 0 0, av := .slice none 0 0, a := .slice ao (m.attrs.length + 1) c } T (W2.setCell ⟨x, 13, none⟩ (.slice ao (m.attrs.length + 1) c)) ∧ Keep S W1 (W2.setCell ⟨x, 13, none⟩ (.slice ao (m.attrs.length + 1) c)) ∧ Names S (W2.setCell ⟨x, 13, none⟩ (.slice ao (m.attrs.length + 1) c)) m.attrs v.m ∧
    W2.cell? ⟨x, 13, none⟩ = some v.a ∧ W2.frozen? ⟨x, 13, none⟩ = false := by
  have h1 := h.mach
  have b0 : Below W1.heap.size W1 (W1.alloc (.cells #[.string (bs m.an), .string (bs m.av)] 108)).drew := ((Below.refl _ _).alloc (Nat.le_refl _) _).drew
  have hnew : (W1.alloc (.cells #[.string (bs m.an), .string (bs m.av)] 108)).drew.heap[W1.heap.size]? = some (.cells #[.string (bs m.an), .string (bs m.av)] 108 (0, 0)) := heap_alloc_new W1 _
  obtain ⟨V, hV⟩ : ∃ V, (W1.alloc (.cells #[.string (bs m.an), .string (bs m.av)] 108)).drew = V := ⟨_, rfl⟩
  rw [hV] at b0 hnew ⊢
  have h2 := h1.below b0
  obtain ⟨v', W', hrun, ho, hg, hat⟩ := row_app (t := 38) Tryz.underlying38 info49 rfl (by decide) (by decide) (h2.bag.own 4 _ rfl) W1.heap.size 0 1 1 [.string (bs m.an), .string (bs m.av)] rfl
    (fun j u hj => by
      rw [Nat.zero_add]
      match j, hj with
      | 0, hj => simp at hj; subst hj; simp [World.cell?, hnew]
      | 1, hj => simp at hj; subst hj; simp [World.cell?, hnew]
      | (j + 2), hj => simp at hj) (by simp [Value.oneCell']) (by unfold Mc.tot at hn; show m.attrs.length + 1 ≤ _; omega)
  obtain ⟨ao, c, rfl, _, _⟩ := own_form ho
  obtain ⟨q1, q2, q3, q4⟩ := h2.toW.put (m' := m.oneMore) (v' := { v with an := .slice none 0 0, av := .slice none 0 0, a := .slice ao (m.attrs.length + 1) c }) (T' := T) 4 13 _ ⟨.slice ao (m.attrs.length + 1) c, 108, 2, m.attrs.length + 1, m.attrs.flatMap G9.At.cells ++ [.string (bs m.an), .string (bs m.av)], false⟩ rfl ho (fun g hg2 => fresh_of hat g hg2) hg (by simp [Mc.rows, Mc.oneMore, Mc.noAttr, G9.At.cells]) (by simp [Mc.cells, Mc.oneMore, Mc.noAttr]) rfl h2.told h2.toks
  exact ⟨ao, c, W', hrun, q1, (Keep.old b0).trans q2, h2.toW.names h2.names 4 _ rfl hg 13 _, q3, q4⟩
theorem fine_more {m : Mc} (hn : m.tot ≤ 1000000000) (h : ∀ a ∈ m.attrs, a.n.size ≤ 1000000000) : ∀ a ∈ m.oneMore.attrs, a.n.size ≤ 1000000000 := fun a ha => by
  simp only [Mc.oneMore, List.mem_append, List.mem_singleton] at ha
  rcases ha with ha | ha
  · exact h a ha
  · subst ha
    rw [bs_size]
    unfold Mc.tot at hn
    omega
set_option maxHeartbeats 4000000 in
set_option maxRecDepth 20000 in
theorem keep_n {Z : Nat → Prop} {S : Nat → Prop} {x : Nat} {m : Mc} {w : World} (h : Mach Z S x m w) (hcnt : m.cnt = false) : Calls Tryz.prog 185 #[.pointer (some ⟨x, 8, none⟩)] w (Did Z S x m.keep w) := by
  rw [keep_not hcnt]
  obtain ⟨v, T, h⟩ := h
  have hxw := h.lt
  obtain ⟨ana, anc, en, _, _⟩ := own_form (h.bag.own 5 _ rfl)
  obtain ⟨ava, avc, ev, _, _⟩ := own_form (h.bag.own 6 _ rfl)
  simp only at en ev
  have c15 := h.cells 15 _ rfl
  have c16 := h.cells 16 v.an rfl
  have c17 := h.cells 17 v.av rfl
  have c18 : w.cell? ⟨x, 18, none⟩ = some (.bool false) := by rw [← hcnt]; exact h.cells 18 _ rfl
  have c15' : w.cell? ⟨x, 15, none⟩ = some (.int .i64 m.at_) := c15
  obtain ⟨W0, hW0⟩ : ∃ W0, w.alloc (.cells #[.int .i64 m.at_, v.an, v.av, .bool false] 71) = W0 := ⟨_, rfl⟩
  have b0 : Below w.heap.size w W0 := by rw [← hW0]; exact (Below.refl _ _).alloc (Nat.le_refl _) _
  have hnew : W0.heap[w.heap.size]? = some (.cells #[.int .i64 m.at_, v.an, v.av, .bool false] 71 (0, 0)) := by rw [← hW0]; exact heap_alloc_new _ _
  have h0 := h.below b0
  have hx0 := h0.lt
  have hne : w.heap.size ≠ x := by omega
  have e15 := h0.cells 15 _ rfl
  have f15 := h0.free 15
  have e16 := h0.cells 16 _ rfl
  have f16 := h0.free 16
  have e17 := h0.cells 17 _ rfl
  have f17 := h0.free 17
  have e18 := h0.cells 18 _ rfl
  have f18 := h0.free 18
  have hC := cleared h b0
  have HP : Hid (Post Z S x m.noAttr w (setAll W0 x [(15, .int .i64 0), (16, .slice none 0 0), (17, .slice none 0 0), (18, .bool false)])) := Post.of ⟨_, _, hC.mach⟩ hC.keep
  have d3 : W0.cell? ⟨w.heap.size, 3, none⟩ = some (.bool false) := by simp [World.cell?, hnew]
  have f3 : W0.frozen? ⟨w.heap.size, 3, none⟩ = false := by simp [World.frozen?, hnew]
  have hself := set_same hnew 3 (.bool false) rfl
  rw [en] at c16 hW0
  rw [ev] at c17 hW0
  clear h h0 hC hnew c15 b0 en ev
  go_enter Tryz.func185, Tryz.ntmps185
  go_wp2_with fail
  refine bodyPost_ret (results_none rfl _ _ _) rfl ?_
  exact ⟨rfl, HP.out⟩
set_option maxHeartbeats 4000000 in
set_option maxRecDepth 20000 in
theorem keep_a {Z : Nat → Prop} {S : Nat → Prop} {x : Nat} {m : Mc} {w : World} (h : Mach Z S x m w) (hn : m.tot ≤ 1000000000) (hcnt : m.cnt = true) (h8 : m.attrs.length < 8) : Calls Tryz.prog 185 #[.pointer (some ⟨x, 8, none⟩)] w (Did Z S x m.keep w) := by
  rw [keep_cnt hcnt]
  obtain ⟨v, T, h⟩ := h
  have hxw := h.lt
  obtain ⟨ana, anc, en, _, _⟩ := own_form (h.bag.own 5 _ rfl)
  obtain ⟨ava, avc, ev, _, _⟩ := own_form (h.bag.own 6 _ rfl)
  simp only at en ev
  have c15 := h.cells 15 _ rfl
  have c16 := h.cells 16 v.an rfl
  have c17 := h.cells 17 v.av rfl
  have c18 : w.cell? ⟨x, 18, none⟩ = some (.bool true) := by rw [← hcnt]; exact h.cells 18 _ rfl
  have c15' : w.cell? ⟨x, 15, none⟩ = some (.int .i64 m.at_) := c15
  obtain ⟨W0, hW0⟩ : ∃ W0, w.alloc (.cells #[.int .i64 m.at_, v.an, v.av, .bool true] 71) = W0 := ⟨_, rfl⟩
  have b0 : Below w.heap.size w W0 := by rw [← hW0]; exact (Below.refl _ _).alloc (Nat.le_refl _) _
  have hnew : W0.heap[w.heap.size]? = some (.cells #[.int .i64 m.at_, v.an, v.av, .bool true] 71 (0, 0)) := by rw [← hW0]; exact heap_alloc_new _ _
  have h0 := h.below b0
  have hx0 := h0.lt
  have hne : w.heap.size ≠ x := by omega
  have e15 := h0.cells 15 _ rfl
  have f15 := h0.free 15
  have e16 := h0.cells 16 _ rfl
  have f16 := h0.free 16
  have e17 := h0.cells 17 _ rfl
  have f17 := h0.free 17
  have e18 := h0.cells 18 _ rfl
  have f18 := h0.free 18
  have hC := cleared h b0
  obtain ⟨W1, hW1⟩ : ∃ W1, (((W0.setCell ⟨x, 15, none⟩ (.int .i64 0)).setCell ⟨x, 16, none⟩ (.slice none 0 0)).setCell ⟨x, 17, none⟩ (.slice none 0 0)).setCell ⟨x, 18, none⟩ (.bool false) = W1 := ⟨_, rfl⟩
  rw [show setAll W0 x [(15, .int .i64 0), (16, .slice none 0 0), (17, .slice none 0 0), (18, .bool false)] = W1 from hW1] at hC
  have hn1 : W1.heap[w.heap.size]? = some (.cells #[.int .i64 m.at_, v.an, v.av, .bool true] 71 (0, 0)) := by
    rw [← hW1]
    exact (setAll_ne x [(15, .int .i64 0), (16, .slice none 0 0), (17, .slice none 0 0), (18, .bool false)] W0 _ hne).trans hnew
  have hx1 := hC.mach.lt
  have d1 : W1.cell? ⟨w.heap.size, 1, none⟩ = some v.an := by simp [World.cell?, hn1]
  have d2 : W1.cell? ⟨w.heap.size, 2, none⟩ = some v.av := by simp [World.cell?, hn1]
  have d3 : W1.cell? ⟨w.heap.size, 3, none⟩ = some (.bool true) := by simp [World.cell?, hn1]
  have hb1 : w.heap.size < W1.heap.size := (Array.getElem?_eq_some_iff.1 hn1).1
  have a13 := hC.mach.cells 13 v.a rfl
  have hc1 := conv_own hC.an
  have hc2 : (convert 68 9 v.av).run Tryz.prog W1.drew = .ok (.string (bs m.av)) W1.drew := conv_own (W := W1.drew) hC.av
  obtain ⟨aoa, ca, ea, _, _⟩ := own_form (hC.mach.bag.own 4 _ rfl)
  simp only at ea
  have ea' : v.a = .slice aoa m.attrs.length ca := ea
  obtain ⟨ao, c, W2, hrun, q1, q2, q3, q4, q5⟩ := attrs_run hC hn
  have hfine := h.names.1
  have hm := h.names.2
  obtain ⟨n, hnn⟩ : ∃ n, m.attrs.length = n := ⟨_, rfl⟩
  have htt : n ≤ 1000000000 := by unfold Mc.tot at hn; omega
  obtain ⟨N1, hN1⟩ : ∃ N1, bs m.an = N1 := ⟨_, rfl⟩
  obtain ⟨N2, hN2⟩ : ∃ N2, bs m.av = N2 := ⟨_, rfl⟩
  rw [ea', hnn] at a13 q4
  rw [ea', hnn, hN1, hN2] at hrun
  rw [hnn] at q1 q2 q3 h8
  rw [en] at c16 hW0 d1 hc1
  rw [ev] at c17 hW0 d2 hc2
  rw [hN1] at hc1
  rw [hN2] at hc2
  obtain ⟨W3, hW3⟩ : ∃ W3, W2.setCell ⟨x, 13, none⟩ (.slice ao (n + 1) c) = W3 := ⟨_, rfl⟩
  rw [hW3] at q1 q2 q3
  have hx3 := q1.lt
  have g13 : W3.cell? ⟨x, 13, none⟩ = some (.slice ao (n + 1) c) := q1.cells 13 _ rfl
  have g14 : W3.cell? ⟨x, 14, none⟩ = some v.m := q1.cells 14 v.m rfl
  have f14 := q1.free 14
  have K3 : Hid (MachW Z S x m.oneMore { v with an := .slice none 0 0, av := .slice none 0 0, a := .slice ao (n + 1) c } T W3 ∧ Keep S w W3 ∧ Names S W3 m.attrs v.m ∧ m.attrs.length = n ∧ bs m.an = N1) := ⟨q1, hC.keep.trans q2, q3, hnn, hN1⟩
  have HF : Hid (∀ a ∈ m.oneMore.attrs, a.n.size ≤ 1000000000) := fine_more hn hfine
  have em : v.m = .map none := by
    rcases hm with ⟨_, e⟩ | ⟨h9, _⟩
    · exact e
    · rw [hnn] at h9; omega
  rw [em] at g14
  have hq := neq68 none W3
  have hP : Post Z S x m.oneMore w W3 := by
    refine Post.of ⟨_, _, q1.toV ⟨HF.out, Or.inl ⟨?_, em⟩⟩⟩ (hC.keep.trans q2)
    simp [Mc.oneMore, hnn]
    omega
  have HP : Hid (Post Z S x m.oneMore w W3) := hP
  have hgt : decide ((8 : Int) < ((n : Int) + 1)) = false := decide_eq_false (by omega)
  have hgt2 : ¬ (8 : Int) < (n : Int) + 1 := by omega
  clear hP
  clear h h0 hC hnew hn1 c15 b0 en ev ea ea' q1 q2 q3 hm hfine hnn hN1 hN2
  go_enter Tryz.func185, Tryz.ntmps185
  go_wp2_with fail
  go_region_law (refine step_append_eq rfl _ _ 38 38 rfl _ _ (by simp [Act.eval]) (by simp [Act.eval]) hrun ?_)
  all_goals
    go_wp2_with fail
    refine bodyPost_end (results_none rfl _ _ _) rfl ?_
    exact ⟨rfl, HP.out⟩
set_option maxHeartbeats 4000000 in
set_option maxRecDepth 20000 in
theorem keep_b {Z : Nat → Prop} {S : Nat → Prop} {x : Nat} {m : Mc} {w : World} (h : Mach Z S x m w) (hn : m.tot ≤ 1000000000) (hcnt : m.cnt = true) (h8 : m.attrs.length = 8) : Calls Tryz.prog 185 #[.pointer (some ⟨x, 8, none⟩)] w (Did Z S x m.keep w) := by
  rw [keep_cnt hcnt]
  obtain ⟨v, T, h⟩ := h
  have hxw := h.lt
  obtain ⟨ana, anc, en, _, _⟩ := own_form (h.bag.own 5 _ rfl)
  obtain ⟨ava, avc, ev, _, _⟩ := own_form (h.bag.own 6 _ rfl)
  simp only at en ev
  have c15 := h.cells 15 _ rfl
  have c16 := h.cells 16 v.an rfl
  have c17 := h.cells 17 v.av rfl
  have c18 : w.cell? ⟨x, 18, none⟩ = some (.bool true) := by rw [← hcnt]; exact h.cells 18 _ rfl
  have c15' : w.cell? ⟨x, 15, none⟩ = some (.int .i64 m.at_) := c15
  obtain ⟨W0, hW0⟩ : ∃ W0, w.alloc (.cells #[.int .i64 m.at_, v.an, v.av, .bool true] 71) = W0 := ⟨_, rfl⟩
  have b0 : Below w.heap.size w W0 := by rw [← hW0]; exact (Below.refl _ _).alloc (Nat.le_refl _) _
  have hnew : W0.heap[w.heap.size]? = some (.cells #[.int .i64 m.at_, v.an, v.av, .bool true] 71 (0, 0)) := by rw [← hW0]; exact heap_alloc_new _ _
  have h0 := h.below b0
  have hx0 := h0.lt
  have hne : w.heap.size ≠ x := by omega
  have e15 := h0.cells 15 _ rfl
  have f15 := h0.free 15
  have e16 := h0.cells 16 _ rfl
  have f16 := h0.free 16
  have e17 := h0.cells 17 _ rfl
  have f17 := h0.free 17
  have e18 := h0.cells 18 _ rfl
  have f18 := h0.free 18
  have hC := cleared h b0
  obtain ⟨W1, hW1⟩ : ∃ W1, (((W0.setCell ⟨x, 15, none⟩ (.int .i64 0)).setCell ⟨x, 16, none⟩ (.slice none 0 0)).setCell ⟨x, 17, none⟩ (.slice none 0 0)).setCell ⟨x, 18, none⟩ (.bool false) = W1 := ⟨_, rfl⟩
  rw [show setAll W0 x [(15, .int .i64 0), (16, .slice none 0 0), (17, .slice none 0 0), (18, .bool false)] = W1 from hW1] at hC
  have hn1 : W1.heap[w.heap.size]? = some (.cells #[.int .i64 m.at_, v.an, v.av, .bool true] 71 (0, 0)) := by
    rw [← hW1]
    exact (setAll_ne x [(15, .int .i64 0), (16, .slice none 0 0), (17, .slice none 0 0), (18, .bool false)] W0 _ hne).trans hnew
  have hx1 := hC.mach.lt
  have d1 : W1.cell? ⟨w.heap.size, 1, none⟩ = some v.an := by simp [World.cell?, hn1]
  have d2 : W1.cell? ⟨w.heap.size, 2, none⟩ = some v.av := by simp [World.cell?, hn1]
  have d3 : W1.cell? ⟨w.heap.size, 3, none⟩ = some (.bool true) := by simp [World.cell?, hn1]
  have hb1 : w.heap.size < W1.heap.size := (Array.getElem?_eq_some_iff.1 hn1).1
  have a13 := hC.mach.cells 13 v.a rfl
  have hc1 := conv_own hC.an
  have hc2 : (convert 68 9 v.av).run Tryz.prog W1.drew = .ok (.string (bs m.av)) W1.drew := conv_own (W := W1.drew) hC.av
  obtain ⟨aoa, ca, ea, _, _⟩ := own_form (hC.mach.bag.own 4 _ rfl)
  simp only at ea
  have ea' : v.a = .slice aoa m.attrs.length ca := ea
  obtain ⟨ao, c, W2, hrun, q1, q2, q3, q4, q5⟩ := attrs_run hC hn
  have hfine := h.names.1
  have hm := h.names.2
  obtain ⟨n, hnn⟩ : ∃ n, m.attrs.length = n := ⟨_, rfl⟩
  have htt : n ≤ 1000000000 := by unfold Mc.tot at hn; omega
  obtain ⟨N1, hN1⟩ : ∃ N1, bs m.an = N1 := ⟨_, rfl⟩
  obtain ⟨N2, hN2⟩ : ∃ N2, bs m.av = N2 := ⟨_, rfl⟩
  rw [ea', hnn] at a13 q4
  rw [ea', hnn, hN1, hN2] at hrun
  rw [hnn] at q1 q2 q3 h8
  rw [en] at c16 hW0 d1 hc1
  rw [ev] at c17 hW0 d2 hc2
  rw [hN1] at hc1
  rw [hN2] at hc2
  obtain ⟨W3, hW3⟩ : ∃ W3, W2.setCell ⟨x, 13, none⟩ (.slice ao (n + 1) c) = W3 := ⟨_, rfl⟩
  rw [hW3] at q1 q2 q3
  have hx3 := q1.lt
  have g13 : W3.cell? ⟨x, 13, none⟩ = some (.slice ao (n + 1) c) := q1.cells 13 _ rfl
  have g14 : W3.cell? ⟨x, 14, none⟩ = some v.m := q1.cells 14 v.m rfl
  have f14 := q1.free 14
  have K3 : Hid (MachW Z S x m.oneMore { v with an := .slice none 0 0, av := .slice none 0 0, a := .slice ao (n + 1) c } T W3 ∧ Keep S w W3 ∧ Names S W3 m.attrs v.m ∧ m.attrs.length = n ∧ bs m.an = N1) := ⟨q1, hC.keep.trans q2, q3, hnn, hN1⟩
  have HF : Hid (∀ a ∈ m.oneMore.attrs, a.n.size ≤ 1000000000) := fine_more hn hfine
  have em : v.m = .map none := by
    rcases hm with ⟨_, e⟩ | ⟨h9, _⟩
    · exact e
    · rw [hnn] at h9; omega
  rw [em] at g14
  have hq := neq68 none W3
  have hgt2 : (8 : Int) < (n : Int) + 1 := by omega
  have h8a : n ≤ 8 := by omega
  have h8b : 8 ≤ n := by omega
  clear h8
  clear h h0 hC hnew hn1 c15 b0 en ev ea ea' q1 q2 q3 hm hfine hnn hN1 hN2
  go_enter Tryz.func185, Tryz.ntmps185
  go_wp2_with fail
  go_region_law (refine step_append_eq rfl _ _ 38 38 rfl _ _ (by simp [Act.eval]) (by simp [Act.eval]) hrun ?_)
  all_goals
    clear hW0 hW1 hrun e15 e16 e17 e18 f15 f16 f17 f18 d1 d2 d3 hc1 hc2 c15' c16 c17 c18 a13
    go_wp2_with fail
    refine (namesOf_any (L := m.oneMore.attrs) (n + 1) c (by obtain ⟨_, _, e, hr⟩ := rowA (K3.out.1.bag.own 4 _ rfl); simp only [Value.slice.injEq] at e; obtain ⟨rfl, _⟩ := e; exact hr) (by simp [Mc.oneMore, K3.out.2.2.2.1]) (by omega) HF.out).mono ?_
    rintro e w4 ⟨b, rfl, h1, h2, h3⟩
    have hq1 := K3.out.1.below h3
    have z14 := hq1.cells 14 _ rfl
    have y14 := hq1.free 14
    have HP : Hid (Post Z S x m.oneMore w (w4.setCell ⟨x, 14, none⟩ (.map (some b)))) := by
      obtain ⟨p1, p2⟩ := hq1.set14 (.map (some b))
      refine Post.of ⟨_, _, p1.toV ⟨HF.out, Or.inr ⟨by simp [Mc.oneMore, K3.out.2.2.2.1]; omega, b, rfl, fun hS => ?_, ?_⟩⟩⟩ (K3.out.2.1.trans ((Keep.old h3).trans p2))
      · have := K3.out.1.low b hS
        omega
      · rw [show m.oneMore.attrs.length = n + 1 by simp [Mc.oneMore, K3.out.2.2.2.1]]
        exact h2.same (Below.heap_setCell _ _ _ _ (by show b ≠ x; omega))
    clear hq1 h1 h2 h3
    go_wp2_with fail
    refine bodyPost_end (results_none rfl _ _ _) rfl ?_
    exact ⟨rfl, HP.out⟩
set_option maxHeartbeats 4000000 in
set_option maxRecDepth 20000 in
theorem keep_c {Z : Nat → Prop} {S : Nat → Prop} {x : Nat} {m : Mc} {w : World} (h : Mach Z S x m w) (hn : m.tot ≤ 1000000000) (hcnt : m.cnt = true) (h8 : 8 < m.attrs.length) : Calls Tryz.prog 185 #[.pointer (some ⟨x, 8, none⟩)] w (Did Z S x m.keep w) := by
  rw [keep_cnt hcnt]
  obtain ⟨v, T, h⟩ := h
  have hxw := h.lt
  obtain ⟨ana, anc, en, _, _⟩ := own_form (h.bag.own 5 _ rfl)
  obtain ⟨ava, avc, ev, _, _⟩ := own_form (h.bag.own 6 _ rfl)
  simp only at en ev
  have c15 := h.cells 15 _ rfl
  have c16 := h.cells 16 v.an rfl
  have c17 := h.cells 17 v.av rfl
  have c18 : w.cell? ⟨x, 18, none⟩ = some (.bool true) := by rw [← hcnt]; exact h.cells 18 _ rfl
  have c15' : w.cell? ⟨x, 15, none⟩ = some (.int .i64 m.at_) := c15
  obtain ⟨W0, hW0⟩ : ∃ W0, w.alloc (.cells #[.int .i64 m.at_, v.an, v.av, .bool true] 71) = W0 := ⟨_, rfl⟩
  have b0 : Below w.heap.size w W0 := by rw [← hW0]; exact (Below.refl _ _).alloc (Nat.le_refl _) _
  have hnew : W0.heap[w.heap.size]? = some (.cells #[.int .i64 m.at_, v.an, v.av, .bool true] 71 (0, 0)) := by rw [← hW0]; exact heap_alloc_new _ _
  have h0 := h.below b0
  have hx0 := h0.lt
  have hne : w.heap.size ≠ x := by omega
  have e15 := h0.cells 15 _ rfl
  have f15 := h0.free 15
  have e16 := h0.cells 16 _ rfl
  have f16 := h0.free 16
  have e17 := h0.cells 17 _ rfl
  have f17 := h0.free 17
  have e18 := h0.cells 18 _ rfl
  have f18 := h0.free 18
  have hC := cleared h b0
  obtain ⟨W1, hW1⟩ : ∃ W1, (((W0.setCell ⟨x, 15, none⟩ (.int .i64 0)).setCell ⟨x, 16, none⟩ (.slice none 0 0)).setCell ⟨x, 17, none⟩ (.slice none 0 0)).setCell ⟨x, 18, none⟩ (.bool false) = W1 := ⟨_, rfl⟩
  rw [show setAll W0 x [(15, .int .i64 0), (16, .slice none 0 0), (17, .slice none 0 0), (18, .bool false)] = W1 from hW1] at hC
  have hn1 : W1.heap[w.heap.size]? = some (.cells #[.int .i64 m.at_, v.an, v.av, .bool true] 71 (0, 0)) := by
    rw [← hW1]
    exact (setAll_ne x [(15, .int .i64 0), (16, .slice none 0 0), (17, .slice none 0 0), (18, .bool false)] W0 _ hne).trans hnew
  have hx1 := hC.mach.lt
  have d1 : W1.cell? ⟨w.heap.size, 1, none⟩ = some v.an := by simp [World.cell?, hn1]
  have d2 : W1.cell? ⟨w.heap.size, 2, none⟩ = some v.av := by simp [World.cell?, hn1]
  have d3 : W1.cell? ⟨w.heap.size, 3, none⟩ = some (.bool true) := by simp [World.cell?, hn1]
  have hb1 : w.heap.size < W1.heap.size := (Array.getElem?_eq_some_iff.1 hn1).1
  have a13 := hC.mach.cells 13 v.a rfl
  have hc1 := conv_own hC.an
  have hc2 : (convert 68 9 v.av).run Tryz.prog W1.drew = .ok (.string (bs m.av)) W1.drew := conv_own (W := W1.drew) hC.av
  obtain ⟨aoa, ca, ea, _, _⟩ := own_form (hC.mach.bag.own 4 _ rfl)
  simp only at ea
  have ea' : v.a = .slice aoa m.attrs.length ca := ea
  obtain ⟨ao, c, W2, hrun, q1, q2, q3, q4, q5⟩ := attrs_run hC hn
  have hfine := h.names.1
  have hm := h.names.2
  obtain ⟨n, hnn⟩ : ∃ n, m.attrs.length = n := ⟨_, rfl⟩
  have htt : n ≤ 1000000000 := by unfold Mc.tot at hn; omega
  obtain ⟨N1, hN1⟩ : ∃ N1, bs m.an = N1 := ⟨_, rfl⟩
  obtain ⟨N2, hN2⟩ : ∃ N2, bs m.av = N2 := ⟨_, rfl⟩
  rw [ea', hnn] at a13 q4
  rw [ea', hnn, hN1, hN2] at hrun
  rw [hnn] at q1 q2 q3 h8
  rw [en] at c16 hW0 d1 hc1
  rw [ev] at c17 hW0 d2 hc2
  rw [hN1] at hc1
  rw [hN2] at hc2
  obtain ⟨W3, hW3⟩ : ∃ W3, W2.setCell ⟨x, 13, none⟩ (.slice ao (n + 1) c) = W3 := ⟨_, rfl⟩
  rw [hW3] at q1 q2 q3
  have hx3 := q1.lt
  have g13 : W3.cell? ⟨x, 13, none⟩ = some (.slice ao (n + 1) c) := q1.cells 13 _ rfl
  have g14 : W3.cell? ⟨x, 14, none⟩ = some v.m := q1.cells 14 v.m rfl
  have f14 := q1.free 14
  have K3 : Hid (MachW Z S x m.oneMore { v with an := .slice none 0 0, av := .slice none 0 0, a := .slice ao (n + 1) c } T W3 ∧ Keep S w W3 ∧ Names S W3 m.attrs v.m ∧ m.attrs.length = n ∧ bs m.an = N1) := ⟨q1, hC.keep.trans q2, q3, hnn, hN1⟩
  have HF : Hid (∀ a ∈ m.oneMore.attrs, a.n.size ≤ 1000000000) := fine_more hn hfine
  obtain ⟨b, em, hSb, hset⟩ : ∃ b, v.m = .map (some b) ∧ ¬ S b ∧ SetIs 9 W3 b n (fun u => ∃ a ∈ m.attrs, u = .string a.n) := by
    rcases q3.2 with ⟨h9, _⟩ | ⟨h9, b, e, h10, h11⟩
    · rw [hnn] at h9; omega
    · rw [hnn] at h11; exact ⟨b, e, h10, h11⟩
  rw [em] at g14
  have hq := neq68 (some b) W3
  have hkey := WideMaps.keyOf_string_mk (P := Tryz.prog) Tryz.underlying9 (s := N1) (by rw [← hN1, bs_size]; unfold maxLen; unfold Mc.tot at hn; omega)
  have HB : Hid (∀ cur e z, W3.heap[b]? ≠ some (.cells cur e z)) := hset.obj
  clear h h0 hC hnew hn1 c15 b0 en ev ea ea' q1 q2 q3 hm hfine hnn hN1 hN2
  go_enter Tryz.func185, Tryz.ntmps185
  go_wp2_with fail
  go_region_law (refine step_append_eq rfl _ _ 38 38 rfl _ _ (by simp [Act.eval]) (by simp [Act.eval]) hrun ?_)
  all_goals
    clear hW0 hW1 hrun e15 e16 e17 e18 f15 f16 f17 f18 d1 d2 d3 hc1 hc2 c15' c16 c17 c18 a13
    go_wp2_with (at_mapUpdate; refine wpList_put_set law9 Tryz.underlying69 rfl _ _ _ rfl b n rfl hset (by unfold maxLen; omega) _ _ rfl rfl hkey ?_; intro w2 hs2 hg2)
    have HP : Hid (Post Z S x m.oneMore w w2) := by
      obtain ⟨p1, p2⟩ := K3.out.1.grownM HB.out hSb hg2
      refine Post.of ⟨_, _, p1.toV ⟨HF.out, Or.inr ⟨by simp [Mc.oneMore, K3.out.2.2.2.1]; omega, b, em, hSb, ?_⟩⟩⟩ (K3.out.2.1.trans p2)
      rw [show m.oneMore.attrs.length = n + 1 by simp [Mc.oneMore, K3.out.2.2.2.1]]
      refine hs2.iff fun u => ?_
      simp only [Mc.oneMore, List.mem_append, List.mem_singleton]
      constructor
      · rintro (⟨a, h1, h2⟩ | h)
        · exact ⟨a, .inl h1, h2⟩
        · exact ⟨_, .inr rfl, by rw [K3.out.2.2.2.2]; exact h⟩
      · rintro ⟨a, h1 | h1, h2⟩
        · exact .inl ⟨a, h1, h2⟩
        · subst h1; exact .inr (by rw [← K3.out.2.2.2.2]; exact h2)
    clear hs2 hg2
    refine bodyPost_end (results_none rfl _ _ _) rfl ?_
    exact ⟨rfl, HP.out⟩
theorem keep_any {Z : Nat → Prop} {S : Nat → Prop} {x : Nat} {m : Mc} {w : World} (h : Mach Z S x m w) (hn : m.tot ≤ 1000000000) : Calls Tryz.prog 185 #[.pointer (some ⟨x, 8, none⟩)] w (Did Z S x m.keep w) := by
  cases hc : m.cnt with
  | false => exact keep_n h hc
  | true =>
    rcases Nat.lt_trichotomy m.attrs.length 8 with h8 | h8 | h8
    · exact keep_a h hn hc h8
    · exact keep_b h hn hc h8
    · exact keep_c h hn hc h8
end Go.Proofs.YtdiealijjhfhjaaGreatDoor
namespace Go.Proofs.YtdiealijjhfhjaaGreatDoor
open Go.RowKit Go.Maps
theorem Post.turn {Z : Nat → Prop} {S : Nat → Prop} {x : Nat} {m m' : Mc} {w W : World} (h : Post Z S x m w W) (l : List (Nat × Value)) (hc : ∀ v, l.foldl (fun a p => a.set! p.1 p.2) (m.cells v) = m'.cells v) (hr : ∀ v T, m'.rows v T = m.rows v T) (ha : m'.attrs = m.attrs) (ho : m'.out = m.out) : Post Z S x m' w (setAll W x l) := by
  obtain ⟨U, h1, ⟨v, T, h2⟩, h3⟩ := h
  exact Post.go h1 h3 (h2.turn1 l rfl (hc v) (hr v T) ha ho)
theorem Post.mach {Z : Nat → Prop} {S : Nat → Prop} {x : Nat} {m : Mc} {w W : World} (h : Post Z S x m w W) : ∃ v : Vs, x < W.heap.size ∧ (∀ i u, (m.cells v)[i]? = some u → W.cell? ⟨x, i, none⟩ = some u) ∧ (∀ i, W.frozen? ⟨x, i, none⟩ = false) := by
  obtain ⟨U, _, ⟨v, T, h2⟩, _⟩ := h
  exact ⟨v, h2.lt, h2.cells, h2.free⟩
theorem Post.call {Z : Nat → Prop} {S : Nat → Prop} {x : Nat} {m m' : Mc} {w W : World} (h : Post Z S x m w W) {f : Nat} {args : Array Value} (H : ∀ U, Mach Z U x m W → Calls Tryz.prog f args W (Did Z U x m' W)) : Calls Tryz.prog f args W (Did Z S x m' w) := by
  obtain ⟨U, h1, h2, h3⟩ := h
  refine (H U h2).mono ?_
  rintro e W' ⟨rfl, p⟩
  exact ⟨rfl, Post.go h1 h3 p⟩
set_option maxHeartbeats 1000000 in
set_option maxRecDepth 20000 in
theorem begA_any {Z : Nat → Prop} {S : Nat → Prop} {x : Nat} {m : Mc} {w : World} (h : Mach Z S x m w) (at' : Int) (hn : m.tot ≤ 1000000000) : Calls Tryz.prog 182 #[.pointer (some ⟨x, 8, none⟩), .int .i64 at'] w (Did Z S x (m.begA at') w) := by
  have HM : Hid (Mach Z S x m w) := h
  have hxw := h.low
  clear h
  go_enter Tryz.func182, Tryz.ntmps182
  go_wp2_with fail
  refine (keep_any HM.out hn).mono ?_
  rintro e w1 ⟨rfl, p1⟩
  obtain ⟨v, hx1, c1, f1⟩ := p1.mach
  have c15 := c1 15 _ rfl
  have f15 := f1 15
  have P2 : Hid (Post Z S x (m.begA at') w (setAll w1 x [(15, .int .i64 at')])) := p1.turn [(15, .int .i64 at')] (fun v => by simp [Mc.cells, Mc.begA]) (fun _ _ => rfl) rfl rfl
  clear p1 c1 f1
  go_wp2_with fail
  refine bodyPost_end (results_none rfl _ _ _) rfl ?_
  exact ⟨rfl, P2.out⟩
set_option maxHeartbeats 2000000 in
set_option maxRecDepth 20000 in
theorem beg_any {Z : Nat → Prop} {S : Nat → Prop} {x : Nat} {m : Mc} {w : World} (h : Mach Z S x m w) (kind : Int) (en : Nat) (hw : m.wait ≠ []) : Calls Tryz.prog 105 #[mp x, .int .i64 kind, fn en] w (Did Z S x (m.beg kind en) w) := by
  obtain ⟨v, T, h⟩ := h
  have hxw := h.lt
  obtain ⟨c, l, hcl⟩ : ∃ c l, m.wait = c :: l := by
    cases e : m.wait with
    | nil => exact absurd e hw
    | cons c l => exact ⟨c, l, rfl⟩
  obtain ⟨g, cap, eg, g1, g2, hg, _, d1, _⟩ := wait_cells h 0 c (by rw [hcl]; rfl)
  simp only [Nat.zero_mul, Nat.zero_add] at d1
  obtain ⟨n, hn⟩ : ∃ n, m.wait.length = n := ⟨_, rfl⟩
  have hn1 : 1 ≤ n := by rw [← hn, hcl]; simp
  have c5 := h.cells 5 v.w rfl
  rw [eg, hn] at c5
  rw [hn] at g1
  have hp : m.w0 = c.a := by unfold Mc.w0; rw [hcl]
  have HP : Hid (Post Z S x (m.beg kind en) w (setAll w x [(8, .int .i64 kind), (9, .int .i64 c.a), (10, .slice none 0 0), (11, .slice none 0 0), (12, .bool false), (13, .slice none 0 0), (14, .map none), (15, .int .i64 0), (16, .slice none 0 0), (17, .slice none 0 0), (18, .bool false), (5, .slice none 0 0), (1, fn en)])) := by
    obtain ⟨q1, q2⟩ := h.turn (m' := m.beg kind en) (v' := { v with w := .slice none 0 0, n := .slice none 0 0, t := .slice none 0 0, a := .slice none 0 0, m := .map none, an := .slice none 0 0, av := .slice none 0 0 }) (T' := T) [(8, .int .i64 kind), (9, .int .i64 c.a), (10, .slice none 0 0), (11, .slice none 0 0), (12, .bool false), (13, .slice none 0 0), (14, .map none), (15, .int .i64 0), (16, .slice none 0 0), (17, .slice none 0 0), (18, .bool false), (5, .slice none 0 0), (1, fn en)] rfl (by simp [Mc.cells, Mc.beg, Mc.noMade, hp]) (h.noMade.drop h.low 0 _ rfl 44 3) (Names.none _ _) rfl h.told h.toks
    exact Post.of ⟨_, _, q1⟩ q2
  have k1 := h.cells 1 _ rfl
  have f1 := h.free 1
  have k8 := h.cells 8 _ rfl
  have f8 := h.free 8
  have k9 := h.cells 9 _ rfl
  have f9 := h.free 9
  have k10 := h.cells 10 _ rfl
  have f10 := h.free 10
  have k11 := h.cells 11 _ rfl
  have f11 := h.free 11
  have k12 := h.cells 12 _ rfl
  have f12 := h.free 12
  have k13 := h.cells 13 _ rfl
  have f13 := h.free 13
  have k14 := h.cells 14 _ rfl
  have f14 := h.free 14
  have k15 := h.cells 15 _ rfl
  have f15 := h.free 15
  have k16 := h.cells 16 _ rfl
  have f16 := h.free 16
  have k17 := h.cells 17 _ rfl
  have f17 := h.free 17
  have k18 := h.cells 18 _ rfl
  have f18 := h.free 18
  have f5 := h.free 5
  have hgx : g ≠ x := h.toW.apart 0 _ rfl g (by simp [eg, Value.ownBlock])
  obtain ⟨ca, hca⟩ : ∃ ca, c.a = ca := ⟨_, rfl⟩
  rw [hca] at d1 HP
  clear h hp hcl hw eg hn hca
  unfold fn
  go_enter Tryz.func105, Tryz.ntmps105
  go_wp2_with fail
  refine bodyPost_end (results_none rfl _ _ _) rfl ?_
  exact ⟨rfl, HP.out⟩
set_option maxHeartbeats 2000000 in
set_option maxRecDepth 20000 in
theorem endName_any {Z : Nat → Prop} {S : Nat → Prop} {x : Nat} {m : Mc} {w : World} (h : Mach Z S x m w) (hn : m.tot ≤ 1000000000) : Calls Tryz.prog 210 #[mp x] w (Did Z S x m.endName w) := by
  have HM : Hid (Mach Z S x m w) := h
  obtain ⟨v, T, h⟩ := h
  have hxw := h.lt
  obtain ⟨ana, anc, en, _, _⟩ := own_form (h.bag.own 5 _ rfl)
  simp only at en
  have c16 := h.cells 16 v.an rfl
  have hc1 : (convert 68 9 v.an).run Tryz.prog w.drew = .ok (.string (bs m.an)) w.drew := conv_own (W := w.drew) (h.bag.own 5 _ rfl)
  have hsz : (bs m.an).size ≤ 1000000000 := by rw [bs_size]; unfold Mc.tot at hn; omega
  rw [en] at c16 hc1
  obtain ⟨k, hk⟩ : ∃ k, m.an.length = k := ⟨_, rfl⟩
  rw [hk] at c16 hc1
  obtain ⟨N1, hN1⟩ : ∃ N1, bs m.an = N1 := ⟨_, rfl⟩
  have HN : Hid (N1.data.toList = m.an) := by show N1.data.toList = m.an; rw [← hN1, bs_list]
  rw [hN1] at hc1 hsz
  obtain ⟨R, hR⟩ : ∃ R, m.has = R := ⟨_, rfl⟩
  have hR' : (m.attrs.any fun a => decide (a.nm = N1.data.toList)) = R := by rw [HN.out]; exact hR
  have hh := fun w1 (b : Below w.heap.size w w1) => has_any (HM.out.below b) N1 hsz
  rw [hR'] at hh
  have HH : Hid (∀ w1, Below w.heap.size w w1 → Calls Tryz.prog 223 #[.pointer (some ⟨x, 8, none⟩), .string N1] w1 fun e w' => e = .returned (.bool R) ∧ Below w1.heap.size w1 w') := hh
  have hE : m.endName = if R = true then m.fault 9 m.at_ else { m with cnt := true } := by unfold Mc.endName; rw [hR]
  rw [hE]
  clear h hh hR' en hk hN1 hE
  cases R with
  | true =>
    rw [if_pos rfl]
    go_enter Tryz.func210, Tryz.ntmps210
    go_wp2_with fail
    go_region_with (go_at_call 223; refine (HH.out _ ((Below.refl _ _).drew)).mono ?_; rintro e w1 ⟨rfl, b1⟩; have M1 : Hid (Mach Z S x m w1 ∧ Below w.heap.size w w1) := ⟨HM.out.below ((Below.refl _ _).drew.trans b1), (Below.refl _ _).drew.trans b1⟩; clear b1)
    all_goals
      have hx1 := M1.out.1.low
      obtain ⟨v1, T1, h1⟩ := M1.out.1
      have c15 : w1.cell? ⟨x, 15, none⟩ = some (.int .i64 m.at_) := h1.cells 15 _ rfl
      clear h1
      go_wp2_with fail
      refine (fault_any M1.out.1 9 m.at_ hn).mono ?_
      rintro e w2 ⟨rfl, p2⟩
      have P2 : Hid (Post Z S x (m.fault 9 m.at_) w w2) := Post.below M1.out.2 p2
      clear p2
      go_wp2_with fail
      refine bodyPost_ret (results_none rfl _ _ _) rfl ?_
      exact ⟨rfl, P2.out⟩
  | false =>
    rw [if_neg (by simp)]
    go_enter Tryz.func210, Tryz.ntmps210
    go_wp2_with fail
    go_region_with (go_at_call 223; refine (HH.out _ ((Below.refl _ _).drew)).mono ?_; rintro e w1 ⟨rfl, b1⟩; have M1 : Hid (Mach Z S x m w1 ∧ Below w.heap.size w w1) := ⟨HM.out.below ((Below.refl _ _).drew.trans b1), (Below.refl _ _).drew.trans b1⟩; clear b1)
    all_goals
      have hx1 := M1.out.1.low
      obtain ⟨v1, T1, h1⟩ := M1.out.1
      have c18 := h1.cells 18 _ rfl
      have f18 := h1.free 18
      have P2 : Hid (Post Z S x { m with cnt := true } w (setAll w1 x [(18, .bool true)])) := Post.below M1.out.2 (h1.turn1 [(18, .bool true)] rfl (by simp [Mc.cells]) rfl rfl rfl)
      clear h1
      go_wp2_with fail
      refine bodyPost_end (results_none rfl _ _ _) rfl ?_
      exact ⟨rfl, P2.out⟩
end Go.Proofs.YtdiealijjhfhjaaGreatDoor
namespace Go.Proofs.YtdiealijjhfhjaaGreatDoor
open Go.RowKit Go.Maps
set_option maxHeartbeats 4000000 in
set_option maxRecDepth 20000 in
theorem tellMade_any {Z : Nat → Prop} {S : Nat → Prop} {x : Nat} {m : Mc} {w : World} (h : Mach Z S x m w) (z : Int) (hn : m.tot ≤ 1000000000) : Calls Tryz.prog 148 #[mp x, .int .i64 z] w (Did Z S x (m.tellMade z) w) := by
  obtain ⟨v, T, h⟩ := h
  have hxw := h.lt
  have k8 : w.cell? ⟨x, 8, none⟩ = some (.int .i64 m.kind) := h.cells 8 _ rfl
  have k9 : w.cell? ⟨x, 9, none⟩ = some (.int .i64 m.frm) := h.cells 9 _ rfl
  have k10 := h.cells 10 v.n rfl
  have k11 := h.cells 11 v.t rfl
  have k12 : w.cell? ⟨x, 12, none⟩ = some (.bool m.self) := h.cells 12 _ rfl
  obtain ⟨na, nc, en, _, _⟩ := own_form (h.bag.own 2 _ rfl)
  obtain ⟨ta, tc, et, _, _⟩ := own_form (h.bag.own 3 _ rfl)
  simp only at en et
  have kd1 : (convert 68 9 v.n).run Tryz.prog w.drew = .ok (.string (bs m.nm)) w.drew := conv_own (W := w.drew) (h.bag.own 2 _ rfl)
  have kd2 : (convert 68 9 v.t).run Tryz.prog w.drew = .ok (.string (bs m.tx)) w.drew := conv_own (W := w.drew) (h.bag.own 3 _ rfl)
  rw [en] at k10 kd1
  rw [et] at k11 kd2
  obtain ⟨N1, hN1⟩ : ∃ N1, bs m.nm = N1 := ⟨_, rfl⟩
  obtain ⟨N2, hN2⟩ : ∃ N2, bs m.tx = N2 := ⟨_, rfl⟩
  obtain ⟨n1, hn1⟩ : ∃ n1, m.nm.length = n1 := ⟨_, rfl⟩
  obtain ⟨n2, hn2⟩ : ∃ n2, m.tx.length = n2 := ⟨_, rfl⟩
  obtain ⟨kk, hkk⟩ : ∃ kk, m.kind = kk := ⟨_, rfl⟩
  obtain ⟨kf, hkf⟩ : ∃ kf, m.frm = kf := ⟨_, rfl⟩
  obtain ⟨ks, hks⟩ : ∃ ks, m.self = ks := ⟨_, rfl⟩
  rw [hn1] at k10 kd1
  rw [hn2] at k11 kd2
  rw [hN1] at kd1
  rw [hN2] at kd2
  rw [hkk] at k8
  rw [hkf] at k9
  rw [hks] at k12
  have hpt : m.madePt z = ptOf (⟨kk, 0, N1, N2, none, 0, 0, ks, kf, z⟩, []) := by
    unfold Mc.madePt ptOf
    rw [hN1, hN2, hkk, hkf, hks]
  have KK : Hid (∀ w', Below w.heap.size w w' → Calls Tryz.prog 53 #[mp x, .agg #[.int .i64 kk, .int .i64 0, .string N1, .string N2, .slice none 0 0, .bool ks, .int .i64 kf, .int .i64 z]] w' (Did Z S x (m.tell (m.madePt z)) w)) := fun w' hb => by
    rw [hpt]
    refine (tell_any (Mach.below ⟨v, T, h⟩ hb) (⟨kk, 0, N1, N2, none, 0, 0, ks, kf, z⟩, []) hn (ok_none _ _ _ _ _ _ _)).mono ?_
    rintro e w2 ⟨rfl, p⟩
    exact ⟨rfl, Post.below hb p⟩
  clear h en et hN1 hN2 hn1 hn2 hkk hkf hks hpt
  go_enter Tryz.func148, Tryz.ntmps148
  go_wp2_with fail
  go_cut [] (fun wc => Post Z S x (m.tell (m.madePt z)) w wc)
  case first =>
    go_still_tail 26, (show Tryz.prog.follows .mixedOrders = true by kernel_rfl)
    go_wp2_with fail
    refine (KK.out _ ((Below.refl _ _).drew)).mono ?_
    rintro e w1 ⟨rfl, p1⟩
    have P1 : Hid (Post Z S x (m.tell (m.madePt z)) w w1) := p1
    clear p1
    go_wp2_with fail
    go_meet
    case rel => exact P1.out
  case rest =>
    have HP : Hid (Post Z S x (m.tell (m.madePt z)) w wc) := hcut
    obtain ⟨_, hxc, _, _⟩ := hcut.mach
    clear hcut KK k8 k9 k10 k11 k12 kd1 kd2
    go_wp2_with fail
    refine (HP.out.call (fun U h => toData_any h)).mono ?_
    rintro e w1 ⟨rfl, p1⟩
    have P1 : Hid (Post Z S x (m.tellMade z) w w1) := p1
    clear p1
    go_wp2_with fail
    refine bodyPost_end (results_none rfl _ _ _) rfl ?_
    exact ⟨rfl, P1.out⟩
end Go.Proofs.YtdiealijjhfhjaaGreatDoor
namespace Go.Proofs.YtdiealijjhfhjaaGreatDoor
open Go.RowKit Go.Maps
structure Loose (Z : Nat → Prop) (S : Nat → Prop) (x : Nat) (m : Mc) (v : Vs) (T : List TL) (w : World) : Prop where
  low : ∀ k, S k → k < w.heap.size
  hz : ¬ S x ∧ ∀ k, Z k → S k
  hi : Stays S w G6.Hi
  blk : w.heap[x]? = some (.cells (m.cells v) 75 (0, 0))
  bag : Bag S w [rwC v.r m.ref, rwT v.o T, rwF v.f m.fs]
  trie : TrS S w v.p
  told : T.map ptOf = m.out
  toks : ∀ t ∈ T, Stays S w fun w => TkS Z w t.1 t.2
theorem Loose.hx {Z S : Nat → Prop} {x : Nat} {m : Mc} {v : Vs} {T : List TL} {w : World} (h : Loose Z S x m v T w) : ¬ S x := h.hz.1
theorem bag_sub {Z : Nat → Prop} {S U : Nat → Prop} {x : Nat} {m : Mc} {v : Vs} {T : List TL} {w : World} (h : MachV Z S x m v T w) (hU : ∀ k, U k → S k ∨ v.a.ownBlock = some k) : Bag U w [rwC v.r m.ref, rwT v.o T, rwF v.f m.fs] := by
  have key : ∀ (i : Nat) (r : Rw), [rwC v.r m.ref, rwT v.o T, rwF v.f m.fs][i]? = some r → ∃ j, (j = 1 ∨ j = 7 ∨ j = 8) ∧ (m.rows v T)[j]? = some r ∧ (i = 0 ↔ j = 1) ∧ (i = 1 ↔ j = 7) ∧ (i = 2 ↔ j = 8) := fun i r hr => by
    match i, hr with
    | 0, hr => exact ⟨1, .inl rfl, hr, by simp⟩
    | 1, hr => exact ⟨7, .inr (.inl rfl), hr, by simp⟩
    | 2, hr => exact ⟨8, .inr (.inr rfl), hr, by simp⟩
    | (i + 3), hr => simp at hr
  refine ⟨fun i r hr => ?_, fun i r hr g hg hUg => ?_, fun i j a b hne ha hb => ?_⟩
  · obtain ⟨j, _, h2, _⟩ := key i r hr
    exact h.bag.own j r h2
  · obtain ⟨j, h1, h2, _⟩ := key i r hr
    rcases hU g hUg with h3 | h3
    · exact h.bag.out j r h2 g hg h3
    · exact h.bag.apart j 4 r (rwA v.a m.attrs) (by omega) h2 rfl g hg h3
  · obtain ⟨i', h1, h2, h3, h4, h5⟩ := key i a ha
    obtain ⟨j', g1, g2, g3, g4, g5⟩ := key j b hb
    exact h.bag.apart i' j' a b (by omega) h2 g2
theorem MachV.loose {Z : Nat → Prop} {S : Nat → Prop} {x : Nat} {m : Mc} {v : Vs} {T : List TL} {w : World} (h : MachV Z S x m v T w) : Loose Z (fun k => S k ∨ v.a.ownBlock = some k) x m v T w :=
  ⟨fun k hk => by
    rcases hk with hk | hk
    · exact h.low k hk
    · exact (own_blk (h.bag.own 4 _ rfl) hk).1, ⟨fun hk => by
    rcases hk with hk | hk
    · exact h.hx hk
    · exact h.toW.apart 4 _ rfl x hk rfl, fun k hk => .inl (h.hz.2 k hk)⟩, h.hi.mono (fun _ h => .inl h), h.blk, bag_sub h (fun _ h => h), h.trie.mono (fun _ h => .inl h), h.told, fun t ht => (h.toks t ht).mono (fun _ h => .inl h)⟩
theorem Loose.lt {Z : Nat → Prop} {S : Nat → Prop} {x : Nat} {m : Mc} {v : Vs} {T : List TL} {w : World} (h : Loose Z S x m v T w) : x < w.heap.size := (Array.getElem?_eq_some_iff.1 h.blk).1
theorem Loose.below {Z : Nat → Prop} {S : Nat → Prop} {x : Nat} {m : Mc} {v : Vs} {T : List TL} {w w' : World} (h : Loose Z S x m v T w) (b : Below w.heap.size w w') : Loose Z S x m v T w' :=
  ⟨fun k hk => Nat.lt_of_lt_of_le (h.low k hk) b.size, h.hz, h.hi.keep (Keep.old b), (b.block x h.lt).trans h.blk, h.bag.below b, h.trie.keep (Keep.old b), h.told, fun t ht => (h.toks t ht).keep (Keep.old b)⟩
theorem loose_ne (v : Vs) (m : Mc) (T : List TL) : ∀ r ∈ [rwC v.r m.ref, rwT v.o T, rwF v.f m.fs], r.e ≠ 75 := fun r hr => by
  simp only [List.mem_cons, List.not_mem_nil, or_false] at hr
  rcases hr with rfl | rfl | rfl <;> simp
theorem Loose.cells {Z : Nat → Prop} {S : Nat → Prop} {x : Nat} {m : Mc} {v : Vs} {T : List TL} {w : World} (h : Loose Z S x m v T w) (i : Nat) (u : Value) (hu : (m.cells v)[i]? = some u) : w.cell? ⟨x, i, none⟩ = some u := by
  simp only [World.cell?, h.blk]
  exact hu
theorem Loose.free {Z : Nat → Prop} {S : Nat → Prop} {x : Nat} {m : Mc} {v : Vs} {T : List TL} {w : World} (h : Loose Z S x m v T w) (i : Nat) : w.frozen? ⟨x, i, none⟩ = false := by
  simp [World.frozen?, h.blk]
theorem Loose.set {Z : Nat → Prop} {S : Nat → Prop} {x : Nat} {m m' : Mc} {v v' : Vs} {T : List TL} {w W : World} (h : Loose Z S x m v T w) (l : List (Nat × Value)) (hW : W = setAll w x l) (hc : l.foldl (fun a p => a.set! p.1 p.2) (m.cells v) = m'.cells v') (hr : v'.r = v.r ∧ v'.o = v.o ∧ v'.f = v.f ∧ v'.p = v.p) (hm : m'.ref = m.ref ∧ m'.fs = m.fs ∧ m'.out = m.out) : Loose Z S x m' v' T W ∧ Keep S w W := by
  subst hW
  have hk := setAll_keep h.hx l w
  have hne := setAll_ne x l w
  refine ⟨⟨fun k hS => Nat.lt_of_lt_of_le (h.low k hS) hk.size, h.hz, h.hi.keep hk, by rw [← hc]; exact setAll_blk x l w _ _ _ h.blk, ?_, by rw [hr.2.2.2]; exact h.trie.keep hk, by rw [hm.2.2]; exact h.told, fun t ht => (h.toks t ht).keep hk⟩, hk⟩
  rw [hr.1, hr.2.1, hr.2.2.1, hm.1, hm.2.1]
  exact h.bag.mv (fun g cur e zz he hg _ => hne g (fun e2 => by subst e2; rw [h.blk] at hg; simp at hg; exact he hg.2.1.symm)) (loose_ne _ _ _)
theorem Loose.mach {Z : Nat → Prop} {S : Nat → Prop} {x : Nat} {m : Mc} {v : Vs} {T : List TL} {w : World} (h : Loose Z S x m.toData { v with w := .slice none 0 0, n := .slice none 0 0, t := .slice none 0 0, a := .slice none 0 0, m := .map none, an := .slice none 0 0, av := .slice none 0 0 } T w) : Mach Z S x m.toData w := by
  refine ⟨_, T, h.low, h.hz, h.hi, h.blk, ?_, Names.none _ _, h.trie, h.told, h.toks⟩
  have nil : ∀ e s q, Rw.own w ⟨.slice none 0 0, e, s, 0, [], q⟩ := fun e s q => ⟨by simp, .inl ⟨rfl, rfl⟩⟩
  have key : ∀ (i : Nat) (r : Rw), (m.toData.rows { v with w := .slice none 0 0, n := .slice none 0 0, t := .slice none 0 0, a := .slice none 0 0, m := .map none, an := .slice none 0 0, av := .slice none 0 0 } T)[i]? = some r → (r.v = .slice none 0 0 ∧ r.own w) ∨ ∃ j, [rwC v.r m.ref, rwT v.o T, rwF v.f m.fs][j]? = some r ∧ (i = 1 ↔ j = 0) ∧ (i = 7 ↔ j = 1) ∧ (i = 8 ↔ j = 2) ∧ (i = 1 ∨ i = 7 ∨ i = 8) := fun i r hr => by
    match i, hr with
    | 0, hr => simp [Mc.rows, Mc.toData, Mc.noMade] at hr; subst hr; exact .inl ⟨rfl, nil _ _ _⟩
    | 1, hr => exact .inr ⟨0, hr, by simp⟩
    | 2, hr => simp [Mc.rows, Mc.toData, Mc.noMade] at hr; subst hr; exact .inl ⟨rfl, nil _ _ _⟩
    | 3, hr => simp [Mc.rows, Mc.toData, Mc.noMade] at hr; subst hr; exact .inl ⟨rfl, nil _ _ _⟩
    | 4, hr => simp [Mc.rows, Mc.toData, Mc.noMade] at hr; subst hr; exact .inl ⟨rfl, nil _ _ _⟩
    | 5, hr => simp [Mc.rows, Mc.toData, Mc.noMade] at hr; subst hr; exact .inl ⟨rfl, nil _ _ _⟩
    | 6, hr => simp [Mc.rows, Mc.toData, Mc.noMade] at hr; subst hr; exact .inl ⟨rfl, nil _ _ _⟩
    | 7, hr => exact .inr ⟨1, hr, by simp⟩
    | 8, hr => exact .inr ⟨2, hr, by simp⟩
    | (i + 9), hr => simp [Mc.rows] at hr
  refine ⟨fun i r hr => ?_, fun i r hr g hg => ?_, fun i j a b hne ha hb g hg => ?_⟩
  · rcases key i r hr with ⟨_, h1⟩ | ⟨j, h1, _⟩
    · exact h1
    · exact h.bag.own j r h1
  · rcases key i r hr with ⟨e, _⟩ | ⟨j, h1, _⟩
    · rw [e] at hg; simp [Value.ownBlock] at hg
    · exact h.bag.out j r h1 g hg
  · rcases key i a ha with ⟨e, _⟩ | ⟨i', h1, h2⟩
    · rw [e] at hg; simp [Value.ownBlock] at hg
    · rcases key j b hb with ⟨e, _⟩ | ⟨j', g1, g2⟩
      · rw [e]; simp [Value.ownBlock]
      · exact h.bag.apart i' j' a b (by omega) h1 g1 g hg
theorem Loose.app1 {Z : Nat → Prop} {S : Nat → Prop} {x : Nat} {m : Mc} {v : Vs} {T : List TL} {W : World} (h : Loose Z S x m v T W) (t : TL) (hn : T.length ≤ 1000000000) (ht : Stays S W fun w => TkS Z w t.1 t.2) :
    ∃ ao' c' W', (Builtin.append_ #[23, 23] 23 #[v.o, .slice (some ⟨W.heap.size, 0, none⟩) 1 1]).run Tryz.prog (W.alloc (.cells (tkCells t).toArray 42)).drew = .ok (.slice ao' (T.length + 1) c') W' ∧ Loose Z S x (m.tell (ptOf t)) { v with o := .slice ao' (T.length + 1) c' } (T ++ [t]) (W'.setCell ⟨x, 19, none⟩ (.slice ao' (T.length + 1) c')) ∧ Keep S W (W'.setCell ⟨x, 19, none⟩ (.slice ao' (T.length + 1) c')) ∧
      W'.cell? ⟨x, 19, none⟩ = some v.o ∧ W'.frozen? ⟨x, 19, none⟩ = false := by
  have b0 : Below W.heap.size W (W.alloc (.cells (tkCells t).toArray 42)).drew := ((Below.refl _ _).alloc (Nat.le_refl _) _).drew
  have hnew : (W.alloc (.cells (tkCells t).toArray 42)).drew.heap[W.heap.size]? = some (.cells (tkCells t).toArray 42 (0, 0)) := heap_alloc_new W _
  obtain ⟨W1, hW1⟩ : ∃ W1, (W.alloc (.cells (tkCells t).toArray 42)).drew = W1 := ⟨_, rfl⟩
  rw [hW1] at b0 hnew ⊢
  have h2 := h.below b0
  obtain ⟨v', W', hrun, ho, hg, hat⟩ := row_app Tryz.underlying23 info45 rfl (by decide) (by decide) (h2.bag.own 1 _ rfl) W.heap.size 0 1 1 (tkCells t) rfl (fun j u hj => by rw [Nat.zero_add]; simp [World.cell?, hnew]; exact hj) (tk_one _) (by simp only; omega)
  obtain ⟨ao', c', rfl, _, _⟩ := own_form ho
  have hrx : ∀ g, v.o.ownBlock = some g → g ≠ x := fun g hg e => by
    subst e
    obtain ⟨_, cur, zz, hc⟩ := own_blk (h2.bag.own 1 _ rfl) hg
    rw [h2.blk] at hc
    simp at hc
  have hWx : W'.heap[x]? = some (.cells (m.cells v) 75 (0, 0)) := (hg.block x h2.lt (fun e => hrx x e.symm rfl)).trans h2.blk
  have hk0 : Keep S W1 W' := Keep.grown hg (h2.bag.out 1 _ rfl)
  have hk : Keep S W1 (W'.setCell ⟨x, 19, none⟩ (.slice ao' (T.length + 1) c')) := hk0.setCell (p := ⟨x, 19, none⟩) h.hx _
  have hne : ∀ g, g ≠ x → (W'.setCell ⟨x, 19, none⟩ (.slice ao' (T.length + 1) c')).heap[g]? = W'.heap[g]? := fun g hg => Below.heap_setCell _ _ _ _ hg
  refine ⟨ao', c', W', hrun, ⟨fun k hS => Nat.lt_of_lt_of_le (h2.low k hS) hk.size, h.hz, h2.hi.keep hk, ?_, ?_, h2.trie.keep hk, by simp [Mc.tell, h.told], fun u hu => ?_⟩, (Keep.old b0).trans hk, by simp [World.cell?, hWx]; rfl, by simp [World.frozen?, hWx]⟩
  · have hc : (m.cells v).set! 19 (.slice ao' (T.length + 1) c') = (m.tell (ptOf t)).cells { v with o := .slice ao' (T.length + 1) c' } := by simp [Mc.cells, Mc.tell]
    rw [← hc]
    simp [World.setCell, Array.getElem?_modify, hWx]
  · have hb := h2.bag.put h2.low 1 _ ⟨.slice ao' (T.length + 1) c', 42, 8, T.length + 1, T.flatMap tkCells ++ tkCells t, false⟩ rfl ho (fun g hg2 => fresh_of hat g hg2) (fun d hd hne2 => hg.block d hd (fun e => hne2 e.symm))
    have e : [rwC v.r m.ref, rwT v.o T, rwF v.f m.fs].set 1 ⟨.slice ao' (T.length + 1) c', 42, 8, T.length + 1, T.flatMap tkCells ++ tkCells t, false⟩ = [rwC v.r (m.tell (ptOf t)).ref, rwT (.slice ao' (T.length + 1) c') (T ++ [t]), rwF v.f (m.tell (ptOf t)).fs] := by simp [Mc.tell]
    rw [e] at hb
    exact hb.mv (fun g cur e zz he hg _ => hne g (fun e2 => by subst e2; rw [hWx] at hg; simp at hg; exact he hg.2.1.symm)) (loose_ne { v with o := .slice ao' (T.length + 1) c' } (m.tell (ptOf t)) (T ++ [t]))
  · rcases List.mem_append.1 hu with hu | hu
    · exact (h2.toks u hu).keep hk
    · rw [List.mem_singleton] at hu; subst hu; exact (ht.keep (Keep.old b0)).keep hk
def ToldL (Z : Nat → Prop) (S : Nat → Prop) (x : Nat) (m : Mc) (v : Vs) (T : List TL) (t : TL) (w : World) (e : Ending) (w' : World) : Prop := e = .returned (.tuple #[]) ∧ ∃ o, Loose Z S x (m.tell (ptOf t)) { v with o := o } (T ++ [t]) w' ∧ Keep S w w'
set_option maxHeartbeats 2000000 in
set_option maxRecDepth 20000 in
theorem tell_l {Z : Nat → Prop} {S : Nat → Prop} {x : Nat} {m : Mc} {v : Vs} {T : List TL} {w : World} (h : Loose Z S x m v T w) (t : TL) (hn : m.tot ≤ 1000000000) (ht : Stays S w fun w => TkS Z w t.1 t.2) : Calls Tryz.prog 53 #[mp x, t.1.val] w (ToldL Z S x m v T t w) := by
  obtain ⟨⟨tk, tr, tnm, ttx, tao, tn, tcap, ts, tf, tt⟩, A⟩ := t
  have b0 : Below w.heap.size w (w.alloc (.cells #[.int .i64 tk, .int .i64 tr, .string tnm, .string ttx, .slice tao tn tcap, .bool ts, .int .i64 tf, .int .i64 tt] 42)) := (Below.refl _ _).alloc (Nat.le_refl _) _
  have h0 := h.below b0
  have hxw := h.lt
  have hx0 := h0.lt
  obtain ⟨k, hk⟩ : ∃ k, T.length = k := ⟨_, rfl⟩
  have hTk : T.length ≤ 1000000000 := by
    have := congrArg List.length h.told
    rw [List.length_map] at this
    unfold Mc.tot at hn
    omega
  obtain ⟨ao', c', W', hrun, q1, q2, q3, q4⟩ := h0.app1 (⟨tk, tr, tnm, ttx, tao, tn, tcap, ts, tf, tt⟩, A) hTk (ht.keep (Keep.old b0))
  have c5 := h0.cells 19 v.o rfl
  obtain ⟨ao, ca, e5, _, _⟩ := own_form (h0.bag.own 1 _ rfl)
  simp only at e5
  have q3' : W'.cell? ⟨x, 19, none⟩ = some v.o := q3
  rw [e5, hk] at c5 q3' hrun
  rw [hk] at q1 q2
  have HP : Hid (ToldL Z S x m v T (⟨tk, tr, tnm, ttx, tao, tn, tcap, ts, tf, tt⟩, A) w (.returned (.tuple #[])) (W'.setCell ⟨x, 19, none⟩ (.slice ao' (k + 1) c'))) := ⟨rfl, _, q1, (Keep.old b0).trans q2⟩
  have hnew := heap_alloc_new w (.cells #[.int .i64 tk, .int .i64 tr, .string tnm, .string ttx, .slice tao tn tcap, .bool ts, .int .i64 tf, .int .i64 tt] 42)
  have hz : w.heap.size < (w.alloc (.cells #[.int .i64 tk, .int .i64 tr, .string tnm, .string ttx, .slice tao tn tcap, .bool ts, .int .i64 tf, .int .i64 tt] 42)).heap.size := by simp
  clear h h0 q1 q2 q3 e5 b0 hk hTk ht
  simp only [G9.Tk.val, G9.Tk.arr]
  go_enter Tryz.func53, Tryz.ntmps53
  go_wp2_with fail
  generalize hW : w.alloc (.cells #[.int .i64 tk, .int .i64 tr, .string tnm, .string ttx, .slice tao tn tcap, .bool ts, .int .i64 tf, .int .i64 tt] 42) = W0 at *
  clear hW
  have d0 : W0.cell? ⟨w.heap.size, 0, none⟩ = some (.int .i64 tk) := by simp [World.cell?, hnew]
  have d1 : W0.cell? ⟨w.heap.size, 1, none⟩ = some (.int .i64 tr) := by simp [World.cell?, hnew]
  have d2 : W0.cell? ⟨w.heap.size, 2, none⟩ = some (.string tnm) := by simp [World.cell?, hnew]
  have d3 : W0.cell? ⟨w.heap.size, 3, none⟩ = some (.string ttx) := by simp [World.cell?, hnew]
  have d4 : W0.cell? ⟨w.heap.size, 4, none⟩ = some (.slice tao tn tcap) := by simp [World.cell?, hnew]
  have d5 : W0.cell? ⟨w.heap.size, 5, none⟩ = some (.bool ts) := by simp [World.cell?, hnew]
  have d6 : W0.cell? ⟨w.heap.size, 6, none⟩ = some (.int .i64 tf) := by simp [World.cell?, hnew]
  have d7 : W0.cell? ⟨w.heap.size, 7, none⟩ = some (.int .i64 tt) := by simp [World.cell?, hnew]
  clear hnew
  go_region_law (refine step_append_eq rfl _ _ 23 23 rfl _ _ (by simp [Act.eval]) (by simp [Act.eval]) hrun ?_)
  all_goals
    go_wp2_with fail
    refine bodyPost_end (results_none rfl _ _ _) rfl ?_
    exact HP.out
set_option maxHeartbeats 400000 in
set_option maxRecDepth 20000 in
theorem toData_l {Z : Nat → Prop} {S : Nat → Prop} {x : Nat} {m : Mc} {v : Vs} {T : List TL} {w : World} (h : Loose Z S x m v T w) : Calls Tryz.prog 149 #[mp x] w (Did Z S x m.toData w) := by
  have hxw := h.lt
  have HP : Hid (Post Z S x m.toData w (setAll w x [(5, .slice none 0 0), (8, .int .i64 0), (9, .int .i64 0), (10, .slice none 0 0), (11, .slice none 0 0), (12, .bool false), (13, .slice none 0 0), (14, .map none), (15, .int .i64 0), (16, .slice none 0 0), (17, .slice none 0 0), (18, .bool false), (0, fn 46), (1, fn 47)])) := by
    obtain ⟨q1, q2⟩ := h.set (m' := m.toData) (v' := { v with w := .slice none 0 0, n := .slice none 0 0, t := .slice none 0 0, a := .slice none 0 0, m := .map none, an := .slice none 0 0, av := .slice none 0 0 }) [(5, .slice none 0 0), (8, .int .i64 0), (9, .int .i64 0), (10, .slice none 0 0), (11, .slice none 0 0), (12, .bool false), (13, .slice none 0 0), (14, .map none), (15, .int .i64 0), (16, .slice none 0 0), (17, .slice none 0 0), (18, .bool false), (0, fn 46), (1, fn 47)] rfl (by simp [Mc.cells, Mc.toData, Mc.noMade]) ⟨rfl, rfl, rfl, rfl⟩ ⟨rfl, rfl, rfl⟩
    exact Post.of q1.mach q2
  have c0 := h.cells 0 _ rfl
  have f0 := h.free 0
  have c1 := h.cells 1 _ rfl
  have f1 := h.free 1
  have c5 := h.cells 5 _ rfl
  have f5 := h.free 5
  have c8 := h.cells 8 _ rfl
  have f8 := h.free 8
  have c9 := h.cells 9 _ rfl
  have f9 := h.free 9
  have c10 := h.cells 10 _ rfl
  have f10 := h.free 10
  have c11 := h.cells 11 _ rfl
  have f11 := h.free 11
  have c12 := h.cells 12 _ rfl
  have f12 := h.free 12
  have c13 := h.cells 13 _ rfl
  have f13 := h.free 13
  have c14 := h.cells 14 _ rfl
  have f14 := h.free 14
  have c15 := h.cells 15 _ rfl
  have f15 := h.free 15
  have c16 := h.cells 16 _ rfl
  have f16 := h.free 16
  have c17 := h.cells 17 _ rfl
  have f17 := h.free 17
  have c18 := h.cells 18 _ rfl
  have f18 := h.free 18
  clear h
  go_enter Tryz.func149, Tryz.ntmps149
  go_wp2_with fail
  refine bodyPost_end (results_none rfl _ _ _) rfl ?_
  exact ⟨rfl, HP.out⟩
end Go.Proofs.YtdiealijjhfhjaaGreatDoor
