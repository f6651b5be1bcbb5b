/- tellTag. -/
import Derived.Test.YtdiealijjhfhjaaGreatDoorZm
namespace Go.Proofs.YtdiealijjhfhjaaGreatDoor
open Go.RowKit Go.Maps
structure TokW (B : Nat) (t : Tk) (w1 W : World) : Prop where
  below : Below w1.heap.size w1 W
  hB : w1.heap.size ≤ B
  blk : W.heap[B]? = some (.cells t.arr 42 (0, 0))
theorem TokW.lt {B : Nat} {t : Tk} {w1 W : World} (h : TokW B t w1 W) : B < W.heap.size := (Array.getElem?_eq_some_iff.1 h.blk).1
theorem TokW.cells {B : Nat} {k r : Int} {nm tx : ByteArray} {ao : Option Addr} {n cap : Nat} {s : Bool} {f t : Int} {w1 W : World} (h : TokW B ⟨k, r, nm, tx, ao, n, cap, s, f, t⟩ w1 W) : W.cell? ⟨B, 0, none⟩ = some (.int .i64 k) ∧ W.cell? ⟨B, 1, none⟩ = some (.int .i64 r) ∧ W.cell? ⟨B, 2, none⟩ = some (.string nm) ∧ W.cell? ⟨B, 3, none⟩ = some (.string tx) ∧ W.cell? ⟨B, 4, none⟩ = some (.slice ao n cap) ∧ W.cell? ⟨B, 5, none⟩ = some (.bool s) ∧ W.cell? ⟨B, 6, none⟩ = some (.int .i64 f) ∧ W.cell? ⟨B, 7, none⟩ = some (.int .i64 t) ∧ (∀ i, W.frozen? ⟨B, i, none⟩ = false) := by
  have := h.blk
  refine ⟨?_, ?_, ?_, ?_, ?_, ?_, ?_, ?_, fun i => ?_⟩
  all_goals first | simp [World.cell?, this] | simp [World.frozen?, this]
structure Kept (Z : Nat → Prop) (S : Nat → Prop) (x : Nat) (m : Mc) (C : Nat) (c : Ch) (w : World) (U : Nat → Prop) (v : Vs) (T : List TL) (w1 : World) : Prop where
  sub : ∀ k, S k → U k
  mach : MachV Z U x m v T w1
  box : Stays U w1 (Box C c)
  keep : Keep S w w1
theorem below_set {n B : Nat} {w W : World} (h : Below n w W) (hB : n ≤ B) (l : List (Nat × Value)) : Below n w (setAll W B l) :=
  ⟨(setAll_rest B l W).1.trans h.os, (setAll_rest B l W).2.1.trans h.tape, (setAll_rest B l W).2.2.trans h.output, by rw [setAll_size]; exact h.size, fun k hk => (setAll_ne B l W k (by omega)).trans (h.block k hk)⟩
theorem tok_stays {Z : Nat → Prop} {S : Nat → Prop} {x : Nat} {m : Mc} {v : Vs} {T : List TL} {w : World} (h : MachV Z S x m v T w) {aa : Option Addr} {ac : Nat} (ea : v.a = .slice aa m.attrs.length ac) (hn : m.attrs.length ≤ 1000000000) (k r : Int) (nm tx : ByteArray) (s : Bool) (f t : Int) : Stays (fun k => S k ∨ v.a.ownBlock = some k) w fun w => TkS Z w ⟨k, r, nm, tx, aa, m.attrs.length, ac, s, f, t⟩ m.attrs := fun w' k => by
  have ho := h.bag.own 4 _ rfl
  have ho2 : Rw.own w' (rwA v.a m.attrs) := own_mv ho fun g hg => k.block g (.inr hg) (own_blk ho hg).1
  obtain ⟨ao, cap, e, hr⟩ := rowA ho2
  rw [ea] at e
  simp only [Value.slice.injEq, true_and] at e
  obtain ⟨rfl, rfl⟩ := e
  refine ⟨⟨rfl, hr, by simp only; omega⟩, fun hne => ?_⟩
  rcases ho2.2 with ⟨_, h0⟩ | ⟨g, cap, cur, z, e, hg, _⟩
  · exact absurd (List.eq_nil_of_length_eq_zero h0) hne
  · simp only at e
    rw [ea] at e
    simp only [Value.slice.injEq, true_and] at e
    exact ⟨g, cur, z, e.1, hg, fun hz => h.bag.out 4 _ rfl g (by rw [ea, e.1]; rfl) (h.hz.2 g hz)⟩
theorem keep_tot (m : Mc) : m.keep.tot ≤ m.tot + 1 ∧ m.keep.attrs.length ≤ m.tot + 1 := by
  unfold Mc.keep Mc.tot
  simp only [List.length_append, List.length_nil]
  split <;> simp <;> omega
theorem tag_s {m : Mc} {c : Ch} (h : m.kind = 2) : m.tellTag c = ({ ({ m.keep with last := bs m.nm } : Mc).tell ⟨2, 0, bs m.nm, ByteArray.empty, m.keep.attrs, m.self, m.frm, c.z⟩ with text := 0 } : Mc).toData := by
  simp [Mc.tellTag, Mc.keep, h, Mc.tell, Mc.toData, Mc.noMade, Mc.tagPt]
theorem tag_e {m : Mc} {c : Ch} (h : m.kind ≠ 2) (h2 : m.keep.attrs ≠ [] ∨ m.self = true) : m.tellTag c = ({ (m.keep.fault 13 m.frm).tell ⟨m.kind, 0, bs m.nm, ByteArray.empty, [], false, m.frm, c.z⟩ with text := 0 } : Mc).toData := by
  have h3 : ¬ (m.keep.attrs = [] ∧ m.self = false) := fun h => by
    rcases h2 with h2 | h2
    · exact h2 h.1
    · rw [h.2] at h2; cases h2
  have h4 : m.keep.attrs ≠ [] ∨ m.keep.self = true := h2
  have h5 : ¬ m.keep.kind = 2 := h
  unfold Mc.tellTag
  simp only [if_neg h5, if_pos h4, Mc.tagPt]
  rfl
theorem tag_n {m : Mc} {c : Ch} (h : m.kind ≠ 2) (h2 : m.keep.attrs = []) (h3 : m.self = false) : m.tellTag c = ({ m.keep.tell ⟨m.kind, 0, bs m.nm, ByteArray.empty, [], false, m.frm, c.z⟩ with text := 0 } : Mc).toData := by
  have h4 : ¬ (m.keep.attrs ≠ [] ∨ m.keep.self = true) := fun h => by
    rcases h with h | h
    · exact h h2
    · rw [show m.keep.self = m.self from rfl, h3] at h; cases h
  have h5 : ¬ m.keep.kind = 2 := h
  unfold Mc.tellTag
  simp only [if_neg h5, if_neg h4, Mc.tagPt]
  rfl
set_option maxHeartbeats 4000000 in
set_option maxRecDepth 20000 in
theorem tellTag_s {Z : Nat → Prop} {S : Nat → Prop} {x : Nat} {m : Mc} {w : World} (h : Mach Z S x m w) (c : Ch) (hn : m.tot ≤ 900000000) (hkind : m.kind = 2) : Calls Tryz.prog 153 #[mp x, cv c] w (Did Z S x (m.tellTag c) w) := by
  obtain ⟨r, p, q⟩ := c
  obtain ⟨W0, hW0, k0⟩ := Walk.start h ⟨r, p, q⟩
  have hxw := h.low
  obtain ⟨hb, d0, d1, d2⟩ := k0.box
  have hx0 := k0.lt
  have K0 : Hid (Walk Z S x m w.heap.size ⟨r, p, q⟩ w W0) := k0
  clear h k0
  go_enter Tryz.func153, Tryz.ntmps153
  go_wp2_with fail
  refine (K0.out.call (fun U h => keep_any h (by omega))).mono ?_
  rintro e w1 ⟨rfl, k1⟩
  obtain ⟨hb1, z0, z1, z2⟩ := k1.box
  have hx1 := k1.lt
  obtain ⟨U, hU, ⟨v, T, h1⟩, hbx⟩ := k1.ex
  have K1 : Hid (Kept Z S x m.keep w.heap.size ⟨r, p, q⟩ w U v T w1) := ⟨hU, h1, hbx, k1.keep⟩
  have k8 : w1.cell? ⟨x, 8, none⟩ = some (.int .i64 m.kind) := h1.cells 8 _ rfl
  have k9 : w1.cell? ⟨x, 9, none⟩ = some (.int .i64 m.frm) := h1.cells 9 _ rfl
  have k10 := h1.cells 10 v.n rfl
  have kd1 : (convert 68 9 v.n).run Tryz.prog w1.drew = .ok (.string (bs m.nm)) w1.drew := conv_own (W := w1.drew) (h1.bag.own 2 _ rfl)
  have kd2 : ∀ o, (convert 68 9 v.n).run Tryz.prog (w1.alloc o).drew = .ok (.string (bs m.nm)) (w1.alloc o).drew := fun o => conv_own (W := (w1.alloc o).drew) (own_mv (h1.bag.own 2 _ rfl) fun g hg => (((Below.refl w1.heap.size w1).alloc (Nat.le_refl _) o).drew).block g (own_blk (h1.bag.own 2 _ rfl) hg).1)
  obtain ⟨na, nc, en, _, _⟩ := own_form (h1.bag.own 2 _ rfl)
  simp only at en
  have en' : v.n = .slice na m.nm.length nc := en
  rw [en'] at k10 kd1
  simp only [en'] at kd2
  obtain ⟨aa, ac, ea, hrow⟩ := rowA (h1.bag.own 4 _ rfl)
  obtain ⟨N1, hN1⟩ : ∃ N1, bs m.nm = N1 := ⟨_, rfl⟩
  rw [hN1] at kd1
  simp only [hN1] at kd2
  obtain ⟨kk, hkk⟩ : ∃ kk, m.kind = kk := ⟨_, rfl⟩
  rw [hkk] at k8 hkind
  obtain ⟨kf, hkf⟩ : ∃ kf, m.frm = kf := ⟨_, rfl⟩
  rw [hkf] at k9
  have HE : Hid (v.a = .slice aa m.keep.attrs.length ac ∧ G9.AtRow w1 aa m.keep.attrs ∧ bs m.nm = N1 ∧ m.kind = kk ∧ m.frm = kf) := ⟨ea, hrow, hN1, hkk, hkf⟩
  clear d0 d1 d2 hb hx0 k1 h1 hbx hU en en' ea hrow hN1 hkk hkf hW0
  subst hkind
  go_wp2_with fail
  go_region
  have HT : Hid (TokW w1.heap.size ⟨2, 0, N1, ⟨#[]⟩, none, 0, 0, false, kf, q⟩ w1 (w1.alloc (.cells #[.int .i64 2, .int .i64 0, .string N1, .string ⟨#[]⟩, .slice none 0 0, .bool false, .int .i64 kf, .int .i64 q] 42)).drew) := ⟨((Below.refl _ _).alloc (Nat.le_refl _) _).drew, Nat.le_refl _, heap_alloc_new w1 _⟩
  obtain ⟨Wt, hWt⟩ : ∃ Wt, (w1.alloc (.cells #[.int .i64 2, .int .i64 0, .string N1, .string ⟨#[]⟩, .slice none 0 0, .bool false, .int .i64 kf, .int .i64 q] 42)).drew = Wt := ⟨_, rfl⟩
  rw [hWt] at HT ⊢
  have hne : w1.heap.size ≠ x := by omega
  have hm := K1.out.mach.below HT.out.below
  have hxt := hm.lt
  have hbt := HT.out.lt
  obtain ⟨t0, t1, t2, t3, t4, t5, t6, t7, tf⟩ := HT.out.cells
  have tf4 := tf 4
  have tf5 := tf 5
  have x8 : Wt.cell? ⟨x, 8, none⟩ = some (.int .i64 2) := by rw [← HE.out.2.2.2.1]; exact hm.cells 8 _ rfl
  have x9 : Wt.cell? ⟨x, 9, none⟩ = some (.int .i64 kf) := by rw [← HE.out.2.2.2.2]; exact hm.cells 9 _ rfl
  have x13 : Wt.cell? ⟨x, 13, none⟩ = some (.slice aa m.keep.attrs.length ac) := by rw [← HE.out.1]; exact hm.cells 13 v.a rfl
  have x12 : Wt.cell? ⟨x, 12, none⟩ = some (.bool m.self) := hm.cells 12 _ rfl
  have x4 := hm.cells 4 _ rfl
  have y4 := hm.free 4
  have x2 := hm.cells 2 _ rfl
  have y2 := hm.free 2
  clear tf hm kd1 kd2 z0 z1 z2 k8 k9 k10
  clear hWt
  go_wp2_with fail
  go_region
  go_wp2_with fail
  obtain ⟨n, hnn⟩ : ∃ n, m.keep.attrs.length = n := ⟨_, rfl⟩
  have hm2 := K1.out.mach.below (below_set HT.out.below HT.out.hB [(4, .slice aa m.keep.attrs.length ac), (5, .bool m.self)])
  obtain ⟨q1, q2⟩ := hm2.turn (m' := { m.keep with last := N1 }) (v' := v) (T' := T) [(4, .string N1)] rfl (by simp [Mc.cells]) hm2.bag hm2.names rfl hm2.told hm2.toks
  have q3 := q1.below (G9.below_drewN (Below.refl _ _) 1)
  have hkt := keep_tot m
  have hst := tok_stays q3 HE.out.1 (by show m.keep.attrs.length ≤ _; omega) 2 0 N1 ⟨#[]⟩ m.self kf q
  have hkeep : Keep S w (((Wt.setCell ⟨w1.heap.size, 4, none⟩ (.slice aa m.keep.attrs.length ac)).setCell ⟨w1.heap.size, 5, none⟩ (.bool m.self)).setCell ⟨x, 4, none⟩ (.string N1)).drew := K1.out.keep.trans ((Keep.sub ((Keep.old (below_set HT.out.below HT.out.hB [(4, .slice aa m.keep.attrs.length ac), (5, .bool m.self)])).trans (q2.trans (Keep.old (G9.below_drewN (Below.refl _ _) 1)))) K1.out.sub))
  refine (tell_l q3.loose (⟨2, 0, N1, ⟨#[]⟩, aa, m.keep.attrs.length, ac, m.self, kf, q⟩, m.keep.attrs) (by have := hkt.1; show m.keep.tot ≤ _; omega) hst).mono ?_
  rintro e w3 ⟨rfl, o, l1, l2⟩
  have hx3 := l1.lt
  have c2' := l1.cells 2 _ rfl
  have f2' := l1.free 2
  obtain ⟨l3, l4⟩ := l1.set (m' := { ({ m.keep with last := N1 } : Mc).tell (ptOf (⟨2, 0, N1, ⟨#[]⟩, aa, m.keep.attrs.length, ac, m.self, kf, q⟩, m.keep.attrs)) with text := 0 }) (v' := { v with o := o }) [(2, .int .i64 0)] rfl (by simp [Mc.cells]) ⟨rfl, rfl, rfl, rfl⟩ ⟨rfl, rfl, rfl⟩
  have HL : Hid (Loose Z (fun k => U k ∨ v.a.ownBlock = some k) x { ({ m.keep with last := N1 } : Mc).tell (ptOf (⟨2, 0, N1, ⟨#[]⟩, aa, m.keep.attrs.length, ac, m.self, kf, q⟩, m.keep.attrs)) with text := 0 } { v with o := o } (T ++ [(⟨2, 0, N1, ⟨#[]⟩, aa, m.keep.attrs.length, ac, m.self, kf, q⟩, m.keep.attrs)]) (w3.setCell ⟨x, 2, none⟩ (.int .i64 0)) ∧ Keep S w (w3.setCell ⟨x, 2, none⟩ (.int .i64 0))) := ⟨l3, hkeep.trans ((l2.trans l4).sub (fun k hk => .inl (K1.out.sub k hk)))⟩
  clear l1 l2 l3 l4 hst hkeep q1 q2 q3 hm2 hkt
  go_wp2_with fail
  refine (toData_l HL.out.1).mono ?_
  rintro e w4 ⟨rfl, p4⟩
  have HP : Hid (Post Z S x (m.tellTag ⟨r, p, q⟩) w w4) := by
    rw [tag_s HE.out.2.2.2.1, HE.out.2.2.1, HE.out.2.2.2.2]
    exact Post.go (fun k hk => .inl (K1.out.sub k hk)) HL.out.2 p4
  clear p4
  go_wp2_with fail
  refine bodyPost_end (results_none rfl _ _ _) rfl ?_
  exact ⟨rfl, HP.out⟩
end Go.Proofs.YtdiealijjhfhjaaGreatDoor
