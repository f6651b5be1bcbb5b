/- tellTag, of an end tag. -/
import Derived.Test.YtdiealijjhfhjaaGreatDoorZn
namespace Go.Proofs.YtdiealijjhfhjaaGreatDoor
open Go.RowKit Go.Maps
structure EndW (Z : Nat → Prop) (S : Nat → Prop) (x : Nat) (m : Mc) (B : Nat) (t : Tk) (w W : World) : Prop where
  ex : ∃ V, (∀ k, S k → V k) ∧ Mach Z V x m W ∧ Stays V W (fun w => w.heap[B]? = some (.cells t.arr 42 (0, 0)))
  keep : Keep S w W
theorem EndW.call {Z : Nat → Prop} {S : Nat → Prop} {x : Nat} {m m' : Mc} {B : Nat} {t : Tk} {w W : World} (h : EndW Z S x m B t w W) {f : Nat} {args : Array Value} (H : ∀ U, Mach Z U x m W → Calls Tryz.prog f args W (Did Z U x m' W)) : Calls Tryz.prog f args W fun e W' => e = .returned (.tuple #[]) ∧ EndW Z S x m' B t w W' := by
  obtain ⟨U, h1, h2, h3⟩ := h.ex
  refine (H U h2).mono ?_
  rintro e W' ⟨rfl, V, p1, p2, p3⟩
  exact ⟨rfl, ⟨V, fun k hk => p1 k (h1 k hk), p2, (h3.keep p3).mono p1⟩, h.keep.trans (p3.sub h1)⟩
theorem EndW.blk {Z : Nat → Prop} {S : Nat → Prop} {x : Nat} {m : Mc} {B : Nat} {t : Tk} {w W : World} (h : EndW Z S x m B t w W) : W.heap[B]? = some (.cells t.arr 42 (0, 0)) := by
  obtain ⟨V, _, _, h3⟩ := h.ex
  exact h3.now
theorem EndW.lt {Z : Nat → Prop} {S : Nat → Prop} {x : Nat} {m : Mc} {B : Nat} {t : Tk} {w W : World} (h : EndW Z S x m B t w W) : x < W.heap.size := by
  obtain ⟨V, _, h2, _⟩ := h.ex
  exact h2.low
theorem EndW.post {Z : Nat → Prop} {S : Nat → Prop} {x : Nat} {m : Mc} {B : Nat} {t : Tk} {w W : World} (h : EndW Z S x m B t w W) : Post Z S x m w W := by
  obtain ⟨V, h1, h2, _⟩ := h.ex
  exact ⟨V, h1, h2, h.keep⟩
theorem tk_cells {B : Nat} {k r : Int} {nm tx : ByteArray} {ao : Option Addr} {n cap : Nat} {s : Bool} {f t : Int} {W : World} (this : W.heap[B]? = some (.cells (G9.Tk.arr ⟨k, r, nm, tx, ao, n, cap, s, f, t⟩) 42 (0, 0))) : B < W.heap.size ∧ W.cell? ⟨B, 0, none⟩ = some (.int .i64 k) ∧ W.cell? ⟨B, 1, none⟩ = some (.int .i64 r) ∧ W.cell? ⟨B, 2, none⟩ = some (.string nm) ∧ W.cell? ⟨B, 3, none⟩ = some (.string tx) ∧ W.cell? ⟨B, 4, none⟩ = some (.slice ao n cap) ∧ W.cell? ⟨B, 5, none⟩ = some (.bool s) ∧ W.cell? ⟨B, 6, none⟩ = some (.int .i64 f) ∧ W.cell? ⟨B, 7, none⟩ = some (.int .i64 t) := by
  refine ⟨(Array.getElem?_eq_some_iff.1 this).1, ?_, ?_, ?_, ?_, ?_, ?_, ?_, ?_⟩
  all_goals simp [World.cell?, this]
theorem Kept.endW {Z : Nat → Prop} {S : Nat → Prop} {x : Nat} {m : Mc} {C : Nat} {c : Ch} {w : World} {U : Nat → Prop} {v : Vs} {T : List TL} {w1 Wt : World} {t : Tk} (h : Kept Z S x m C c w U v T w1) (ht : TokW w1.heap.size t w1 Wt) : EndW Z S x m w1.heap.size t w Wt := by
  refine ⟨⟨_, fun k hk => .inl (h.sub k hk), ⟨_, _, h.mach.one ht.below ht.lt⟩, fun w' k => ?_⟩, h.keep.trans (Keep.old ht.below)⟩
  exact (k.block _ (.inr rfl) ht.lt).trans ht.blk
set_option maxHeartbeats 4000000 in
set_option maxRecDepth 20000 in
theorem tellTag_e1 {Z : Nat → Prop} {S : Nat → Prop} {x : Nat} {m : Mc} {w : World} (h : Mach Z S x m w) (c : Ch) (hn : m.tot ≤ 900000000) (hkind : m.kind ≠ 2) (h1 : 0 < m.keep.attrs.length) : Calls Tryz.prog 153 #[mp x, cv c] w (Did Z S x (m.tellTag c) w) := by
  obtain ⟨r, p, q⟩ := c
  obtain ⟨W0, hW0, k0⟩ := Walk.start h ⟨r, p, q⟩
  have hxw := h.low
  obtain ⟨hb, d0, d1, d2⟩ := k0.box
  have hx0 := k0.lt
  have K0 : Hid (Walk Z S x m w.heap.size ⟨r, p, q⟩ w W0) := k0
  clear h k0
  go_enter Tryz.func153, Tryz.ntmps153
  go_wp2_with fail
  refine (K0.out.call (fun U h => keep_any h (by omega))).mono ?_
  rintro e w1 ⟨rfl, k1⟩
  obtain ⟨hb1, z0, z1, z2⟩ := k1.box
  have hx1 := k1.lt
  obtain ⟨U, hU, ⟨v, T, h1⟩, hbx⟩ := k1.ex
  have K1 : Hid (Kept Z S x m.keep w.heap.size ⟨r, p, q⟩ w U v T w1) := ⟨hU, h1, hbx, k1.keep⟩
  have k8 : w1.cell? ⟨x, 8, none⟩ = some (.int .i64 m.kind) := h1.cells 8 _ rfl
  have k9 : w1.cell? ⟨x, 9, none⟩ = some (.int .i64 m.frm) := h1.cells 9 _ rfl
  have k10 := h1.cells 10 v.n rfl
  have kd1 : (convert 68 9 v.n).run Tryz.prog w1.drew = .ok (.string (bs m.nm)) w1.drew := conv_own (W := w1.drew) (h1.bag.own 2 _ rfl)
  have kd2 : ∀ o, (convert 68 9 v.n).run Tryz.prog (w1.alloc o).drew = .ok (.string (bs m.nm)) (w1.alloc o).drew := fun o => conv_own (W := (w1.alloc o).drew) (own_mv (h1.bag.own 2 _ rfl) fun g hg => (((Below.refl w1.heap.size w1).alloc (Nat.le_refl _) o).drew).block g (own_blk (h1.bag.own 2 _ rfl) hg).1)
  obtain ⟨na, nc, en, _, _⟩ := own_form (h1.bag.own 2 _ rfl)
  simp only at en
  have en' : v.n = .slice na m.nm.length nc := en
  rw [en'] at k10 kd1
  simp only [en'] at kd2
  obtain ⟨aa, ac, ea, hrow⟩ := rowA (h1.bag.own 4 _ rfl)
  obtain ⟨N1, hN1⟩ : ∃ N1, bs m.nm = N1 := ⟨_, rfl⟩
  rw [hN1] at kd1
  simp only [hN1] at kd2
  obtain ⟨kk, hkk⟩ : ∃ kk, m.kind = kk := ⟨_, rfl⟩
  rw [hkk] at k8 hkind
  obtain ⟨kf, hkf⟩ : ∃ kf, m.frm = kf := ⟨_, rfl⟩
  rw [hkf] at k9
  have HE : Hid (v.a = .slice aa m.keep.attrs.length ac ∧ G9.AtRow w1 aa m.keep.attrs ∧ bs m.nm = N1 ∧ m.kind = kk ∧ m.frm = kf) := ⟨ea, hrow, hN1, hkk, hkf⟩
  clear d0 d1 d2 hb hx0 k1 h1 hbx hU en en' ea hrow hN1 hkk hkf hW0
  have hk2 : (kk == 2) = false := by simpa using hkind
  have HK : Hid (m.kind ≠ 2) := by show m.kind ≠ 2; rw [HE.out.2.2.2.1]; exact hkind
  clear hkind
  go_wp2_with fail
  go_region
  have HT : Hid (TokW w1.heap.size ⟨kk, 0, N1, ⟨#[]⟩, none, 0, 0, false, kf, q⟩ w1 (w1.alloc (.cells #[.int .i64 kk, .int .i64 0, .string N1, .string ⟨#[]⟩, .slice none 0 0, .bool false, .int .i64 kf, .int .i64 q] 42)).drew) := ⟨((Below.refl _ _).alloc (Nat.le_refl _) _).drew, Nat.le_refl _, heap_alloc_new w1 _⟩
  obtain ⟨Wt, hWt⟩ : ∃ Wt, (w1.alloc (.cells #[.int .i64 kk, .int .i64 0, .string N1, .string ⟨#[]⟩, .slice none 0 0, .bool false, .int .i64 kf, .int .i64 q] 42)).drew = Wt := ⟨_, rfl⟩
  rw [hWt] at HT ⊢
  have hne : w1.heap.size ≠ x := by omega
  have hm := K1.out.mach.below HT.out.below
  have hxt := hm.lt
  have hbt := HT.out.lt
  obtain ⟨t0, t1, t2, t3, t4, t5, t6, t7, tf⟩ := HT.out.cells
  have tf4 := tf 4
  have tf5 := tf 5
  have x8 : Wt.cell? ⟨x, 8, none⟩ = some (.int .i64 kk) := by rw [← HE.out.2.2.2.1]; exact hm.cells 8 _ rfl
  have x9 : Wt.cell? ⟨x, 9, none⟩ = some (.int .i64 kf) := by rw [← HE.out.2.2.2.2]; exact hm.cells 9 _ rfl
  have x13 : Wt.cell? ⟨x, 13, none⟩ = some (.slice aa m.keep.attrs.length ac) := by rw [← HE.out.1]; exact hm.cells 13 v.a rfl
  have x12 : Wt.cell? ⟨x, 12, none⟩ = some (.bool m.self) := hm.cells 12 _ rfl
  have x4 := hm.cells 4 _ rfl
  have y4 := hm.free 4
  have x2 := hm.cells 2 _ rfl
  have y2 := hm.free 2
  clear tf hm kd1 kd2 z0 z1 z2 k8 k9 k10
  obtain ⟨n, hnn⟩ : ∃ n, m.keep.attrs.length = n := ⟨_, rfl⟩
  have HN : Hid (m.keep.attrs.length = n) := hnn
  rw [hnn] at x13
  obtain ⟨ks, hks⟩ : ∃ ks, m.self = ks := ⟨_, rfl⟩
  have HS : Hid (m.self = ks) := hks
  rw [hks] at x12
  have g1 : decide ((0 : Int) < (n : Int)) = true := decide_eq_true (by omega)
  have g2 : (0 : Int) < (n : Int) := by omega
  have E0 : Hid (EndW Z S x m.keep w1.heap.size ⟨kk, 0, N1, ⟨#[]⟩, none, 0, 0, false, kf, q⟩ w Wt) := K1.out.endW HT.out
  clear hWt hnn
  try clear hks
  go_wp2_with fail
  refine (E0.out.call (fun U h => fault_any h 13 kf (by have := (keep_tot m).1; omega))).mono ?_
  rintro e w2 ⟨rfl, e2⟩
  have E2 : Hid (EndW Z S x (m.keep.fault 13 kf) w1.heap.size ⟨kk, 0, N1, ⟨#[]⟩, none, 0, 0, false, kf, q⟩ w w2) := e2
  clear e2 t0 t1 t2 t3 t4 t5 t6 t7 tf4 tf5 x8 x9 x13 x12 x4 y4 x2 y2 hxt hbt
  obtain ⟨hb2, t0, t1, t2, t3, t4, t5, t6, t7⟩ := tk_cells E2.out.blk
  have hx2 := E2.out.lt
  go_wp2_with fail
  refine (E2.out.call (fun U h => tell_any h (⟨kk, 0, N1, ⟨#[]⟩, none, 0, 0, false, kf, q⟩, []) (by have := (keep_tot m).1; unfold Mc.fault Mc.tot; unfold Mc.tot at this hn; simp only [List.length_append, List.length_cons, List.length_nil]; omega) (ok_none _ _ _ _ _ _ _))).mono ?_
  rintro e w3 ⟨rfl, e3⟩
  have p3 := e3.post
  obtain ⟨_, hx3, cc, ff⟩ := p3.mach
  have c2' := cc 2 _ rfl
  have f2' := ff 2
  have P3 : Hid (Post Z S x { ((m.keep.fault 13 kf).tell (ptOf (⟨kk, 0, N1, ⟨#[]⟩, none, 0, 0, false, kf, q⟩, []))) with text := 0 } w (w3.setCell ⟨x, 2, none⟩ (.int .i64 0))) := p3.turn [(2, .int .i64 0)] (fun v => by simp [Mc.cells]) (fun _ _ => rfl) rfl rfl
  clear e3 p3 cc ff
  go_wp2_with fail
  refine (P3.out.call (fun U h => toData_any h)).mono ?_
  rintro e w4 ⟨rfl, p4⟩
  have HP : Hid (Post Z S x (m.tellTag ⟨r, p, q⟩) w w4) := by
    rw [tag_e HK.out (.inl (fun e => by have := HN.out; rw [e] at this; simp at this; omega))]
    rw [HE.out.2.2.1, HE.out.2.2.2.1, HE.out.2.2.2.2]
    exact p4
  clear p4
  go_wp2_with fail
  refine bodyPost_end (results_none rfl _ _ _) rfl ?_
  exact ⟨rfl, HP.out⟩
set_option maxHeartbeats 4000000 in
set_option maxRecDepth 20000 in
theorem tellTag_e2 {Z : Nat → Prop} {S : Nat → Prop} {x : Nat} {m : Mc} {w : World} (h : Mach Z S x m w) (c : Ch) (hn : m.tot ≤ 900000000) (hkind : m.kind ≠ 2) (h1 : m.keep.attrs.length = 0) (h2 : m.self = true) : Calls Tryz.prog 153 #[mp x, cv c] w (Did Z S x (m.tellTag c) w) := by
  obtain ⟨r, p, q⟩ := c
  obtain ⟨W0, hW0, k0⟩ := Walk.start h ⟨r, p, q⟩
  have hxw := h.low
  obtain ⟨hb, d0, d1, d2⟩ := k0.box
  have hx0 := k0.lt
  have K0 : Hid (Walk Z S x m w.heap.size ⟨r, p, q⟩ w W0) := k0
  clear h k0
  go_enter Tryz.func153, Tryz.ntmps153
  go_wp2_with fail
  refine (K0.out.call (fun U h => keep_any h (by omega))).mono ?_
  rintro e w1 ⟨rfl, k1⟩
  obtain ⟨hb1, z0, z1, z2⟩ := k1.box
  have hx1 := k1.lt
  obtain ⟨U, hU, ⟨v, T, h1⟩, hbx⟩ := k1.ex
  have K1 : Hid (Kept Z S x m.keep w.heap.size ⟨r, p, q⟩ w U v T w1) := ⟨hU, h1, hbx, k1.keep⟩
  have k8 : w1.cell? ⟨x, 8, none⟩ = some (.int .i64 m.kind) := h1.cells 8 _ rfl
  have k9 : w1.cell? ⟨x, 9, none⟩ = some (.int .i64 m.frm) := h1.cells 9 _ rfl
  have k10 := h1.cells 10 v.n rfl
  have kd1 : (convert 68 9 v.n).run Tryz.prog w1.drew = .ok (.string (bs m.nm)) w1.drew := conv_own (W := w1.drew) (h1.bag.own 2 _ rfl)
  have kd2 : ∀ o, (convert 68 9 v.n).run Tryz.prog (w1.alloc o).drew = .ok (.string (bs m.nm)) (w1.alloc o).drew := fun o => conv_own (W := (w1.alloc o).drew) (own_mv (h1.bag.own 2 _ rfl) fun g hg => (((Below.refl w1.heap.size w1).alloc (Nat.le_refl _) o).drew).block g (own_blk (h1.bag.own 2 _ rfl) hg).1)
  obtain ⟨na, nc, en, _, _⟩ := own_form (h1.bag.own 2 _ rfl)
  simp only at en
  have en' : v.n = .slice na m.nm.length nc := en
  rw [en'] at k10 kd1
  simp only [en'] at kd2
  obtain ⟨aa, ac, ea, hrow⟩ := rowA (h1.bag.own 4 _ rfl)
  obtain ⟨N1, hN1⟩ : ∃ N1, bs m.nm = N1 := ⟨_, rfl⟩
  rw [hN1] at kd1
  simp only [hN1] at kd2
  obtain ⟨kk, hkk⟩ : ∃ kk, m.kind = kk := ⟨_, rfl⟩
  rw [hkk] at k8 hkind
  obtain ⟨kf, hkf⟩ : ∃ kf, m.frm = kf := ⟨_, rfl⟩
  rw [hkf] at k9
  have HE : Hid (v.a = .slice aa m.keep.attrs.length ac ∧ G9.AtRow w1 aa m.keep.attrs ∧ bs m.nm = N1 ∧ m.kind = kk ∧ m.frm = kf) := ⟨ea, hrow, hN1, hkk, hkf⟩
  clear d0 d1 d2 hb hx0 k1 h1 hbx hU en en' ea hrow hN1 hkk hkf hW0
  have hk2 : (kk == 2) = false := by simpa using hkind
  have HK : Hid (m.kind ≠ 2) := by show m.kind ≠ 2; rw [HE.out.2.2.2.1]; exact hkind
  clear hkind
  go_wp2_with fail
  go_region
  have HT : Hid (TokW w1.heap.size ⟨kk, 0, N1, ⟨#[]⟩, none, 0, 0, false, kf, q⟩ w1 (w1.alloc (.cells #[.int .i64 kk, .int .i64 0, .string N1, .string ⟨#[]⟩, .slice none 0 0, .bool false, .int .i64 kf, .int .i64 q] 42)).drew) := ⟨((Below.refl _ _).alloc (Nat.le_refl _) _).drew, Nat.le_refl _, heap_alloc_new w1 _⟩
  obtain ⟨Wt, hWt⟩ : ∃ Wt, (w1.alloc (.cells #[.int .i64 kk, .int .i64 0, .string N1, .string ⟨#[]⟩, .slice none 0 0, .bool false, .int .i64 kf, .int .i64 q] 42)).drew = Wt := ⟨_, rfl⟩
  rw [hWt] at HT ⊢
  have hne : w1.heap.size ≠ x := by omega
  have hm := K1.out.mach.below HT.out.below
  have hxt := hm.lt
  have hbt := HT.out.lt
  obtain ⟨t0, t1, t2, t3, t4, t5, t6, t7, tf⟩ := HT.out.cells
  have tf4 := tf 4
  have tf5 := tf 5
  have x8 : Wt.cell? ⟨x, 8, none⟩ = some (.int .i64 kk) := by rw [← HE.out.2.2.2.1]; exact hm.cells 8 _ rfl
  have x9 : Wt.cell? ⟨x, 9, none⟩ = some (.int .i64 kf) := by rw [← HE.out.2.2.2.2]; exact hm.cells 9 _ rfl
  have x13 : Wt.cell? ⟨x, 13, none⟩ = some (.slice aa m.keep.attrs.length ac) := by rw [← HE.out.1]; exact hm.cells 13 v.a rfl
  have x12 : Wt.cell? ⟨x, 12, none⟩ = some (.bool m.self) := hm.cells 12 _ rfl
  have x4 := hm.cells 4 _ rfl
  have y4 := hm.free 4
  have x2 := hm.cells 2 _ rfl
  have y2 := hm.free 2
  clear tf hm kd1 kd2 z0 z1 z2 k8 k9 k10
  obtain ⟨n, hnn⟩ : ∃ n, m.keep.attrs.length = n := ⟨_, rfl⟩
  have HN : Hid (m.keep.attrs.length = n) := hnn
  rw [hnn] at x13
  obtain ⟨ks, hks⟩ : ∃ ks, m.self = ks := ⟨_, rfl⟩
  have HS : Hid (m.self = ks) := hks
  rw [hks] at x12
  have hn0 : n = 0 := by omega
  subst hn0
  rw [h2] at hks
  subst hks
  have E0 : Hid (EndW Z S x m.keep w1.heap.size ⟨kk, 0, N1, ⟨#[]⟩, none, 0, 0, false, kf, q⟩ w Wt) := K1.out.endW HT.out
  clear hWt hnn
  try clear hks
  go_wp2_with fail
  refine (E0.out.call (fun U h => fault_any h 13 kf (by have := (keep_tot m).1; omega))).mono ?_
  rintro e w2 ⟨rfl, e2⟩
  have E2 : Hid (EndW Z S x (m.keep.fault 13 kf) w1.heap.size ⟨kk, 0, N1, ⟨#[]⟩, none, 0, 0, false, kf, q⟩ w w2) := e2
  clear e2 t0 t1 t2 t3 t4 t5 t6 t7 tf4 tf5 x8 x9 x13 x12 x4 y4 x2 y2 hxt hbt
  obtain ⟨hb2, t0, t1, t2, t3, t4, t5, t6, t7⟩ := tk_cells E2.out.blk
  have hx2 := E2.out.lt
  go_wp2_with fail
  refine (E2.out.call (fun U h => tell_any h (⟨kk, 0, N1, ⟨#[]⟩, none, 0, 0, false, kf, q⟩, []) (by have := (keep_tot m).1; unfold Mc.fault Mc.tot; unfold Mc.tot at this hn; simp only [List.length_append, List.length_cons, List.length_nil]; omega) (ok_none _ _ _ _ _ _ _))).mono ?_
  rintro e w3 ⟨rfl, e3⟩
  have p3 := e3.post
  obtain ⟨_, hx3, cc, ff⟩ := p3.mach
  have c2' := cc 2 _ rfl
  have f2' := ff 2
  have P3 : Hid (Post Z S x { ((m.keep.fault 13 kf).tell (ptOf (⟨kk, 0, N1, ⟨#[]⟩, none, 0, 0, false, kf, q⟩, []))) with text := 0 } w (w3.setCell ⟨x, 2, none⟩ (.int .i64 0))) := p3.turn [(2, .int .i64 0)] (fun v => by simp [Mc.cells]) (fun _ _ => rfl) rfl rfl
  clear e3 p3 cc ff
  go_wp2_with fail
  refine (P3.out.call (fun U h => toData_any h)).mono ?_
  rintro e w4 ⟨rfl, p4⟩
  have HP : Hid (Post Z S x (m.tellTag ⟨r, p, q⟩) w w4) := by
    rw [tag_e HK.out (.inr HS.out)]
    rw [HE.out.2.2.1, HE.out.2.2.2.1, HE.out.2.2.2.2]
    exact p4
  clear p4
  go_wp2_with fail
  refine bodyPost_end (results_none rfl _ _ _) rfl ?_
  exact ⟨rfl, HP.out⟩
set_option maxHeartbeats 4000000 in
set_option maxRecDepth 20000 in
theorem tellTag_e3 {Z : Nat → Prop} {S : Nat → Prop} {x : Nat} {m : Mc} {w : World} (h : Mach Z S x m w) (c : Ch) (hn : m.tot ≤ 900000000) (hkind : m.kind ≠ 2) (h1 : m.keep.attrs.length = 0) (h2 : m.self = false) : Calls Tryz.prog 153 #[mp x, cv c] w (Did Z S x (m.tellTag c) w) := by
  obtain ⟨r, p, q⟩ := c
  obtain ⟨W0, hW0, k0⟩ := Walk.start h ⟨r, p, q⟩
  have hxw := h.low
  obtain ⟨hb, d0, d1, d2⟩ := k0.box
  have hx0 := k0.lt
  have K0 : Hid (Walk Z S x m w.heap.size ⟨r, p, q⟩ w W0) := k0
  clear h k0
  go_enter Tryz.func153, Tryz.ntmps153
  go_wp2_with fail
  refine (K0.out.call (fun U h => keep_any h (by omega))).mono ?_
  rintro e w1 ⟨rfl, k1⟩
  obtain ⟨hb1, z0, z1, z2⟩ := k1.box
  have hx1 := k1.lt
  obtain ⟨U, hU, ⟨v, T, h1⟩, hbx⟩ := k1.ex
  have K1 : Hid (Kept Z S x m.keep w.heap.size ⟨r, p, q⟩ w U v T w1) := ⟨hU, h1, hbx, k1.keep⟩
  have k8 : w1.cell? ⟨x, 8, none⟩ = some (.int .i64 m.kind) := h1.cells 8 _ rfl
  have k9 : w1.cell? ⟨x, 9, none⟩ = some (.int .i64 m.frm) := h1.cells 9 _ rfl
  have k10 := h1.cells 10 v.n rfl
  have kd1 : (convert 68 9 v.n).run Tryz.prog w1.drew = .ok (.string (bs m.nm)) w1.drew := conv_own (W := w1.drew) (h1.bag.own 2 _ rfl)
  have kd2 : ∀ o, (convert 68 9 v.n).run Tryz.prog (w1.alloc o).drew = .ok (.string (bs m.nm)) (w1.alloc o).drew := fun o => conv_own (W := (w1.alloc o).drew) (own_mv (h1.bag.own 2 _ rfl) fun g hg => (((Below.refl w1.heap.size w1).alloc (Nat.le_refl _) o).drew).block g (own_blk (h1.bag.own 2 _ rfl) hg).1)
  obtain ⟨na, nc, en, _, _⟩ := own_form (h1.bag.own 2 _ rfl)
  simp only at en
  have en' : v.n = .slice na m.nm.length nc := en
  rw [en'] at k10 kd1
  simp only [en'] at kd2
  obtain ⟨aa, ac, ea, hrow⟩ := rowA (h1.bag.own 4 _ rfl)
  obtain ⟨N1, hN1⟩ : ∃ N1, bs m.nm = N1 := ⟨_, rfl⟩
  rw [hN1] at kd1
  simp only [hN1] at kd2
  obtain ⟨kk, hkk⟩ : ∃ kk, m.kind = kk := ⟨_, rfl⟩
  rw [hkk] at k8 hkind
  obtain ⟨kf, hkf⟩ : ∃ kf, m.frm = kf := ⟨_, rfl⟩
  rw [hkf] at k9
  have HE : Hid (v.a = .slice aa m.keep.attrs.length ac ∧ G9.AtRow w1 aa m.keep.attrs ∧ bs m.nm = N1 ∧ m.kind = kk ∧ m.frm = kf) := ⟨ea, hrow, hN1, hkk, hkf⟩
  clear d0 d1 d2 hb hx0 k1 h1 hbx hU en en' ea hrow hN1 hkk hkf hW0
  have hk2 : (kk == 2) = false := by simpa using hkind
  have HK : Hid (m.kind ≠ 2) := by show m.kind ≠ 2; rw [HE.out.2.2.2.1]; exact hkind
  clear hkind
  go_wp2_with fail
  go_region
  have HT : Hid (TokW w1.heap.size ⟨kk, 0, N1, ⟨#[]⟩, none, 0, 0, false, kf, q⟩ w1 (w1.alloc (.cells #[.int .i64 kk, .int .i64 0, .string N1, .string ⟨#[]⟩, .slice none 0 0, .bool false, .int .i64 kf, .int .i64 q] 42)).drew) := ⟨((Below.refl _ _).alloc (Nat.le_refl _) _).drew, Nat.le_refl _, heap_alloc_new w1 _⟩
  obtain ⟨Wt, hWt⟩ : ∃ Wt, (w1.alloc (.cells #[.int .i64 kk, .int .i64 0, .string N1, .string ⟨#[]⟩, .slice none 0 0, .bool false, .int .i64 kf, .int .i64 q] 42)).drew = Wt := ⟨_, rfl⟩
  rw [hWt] at HT ⊢
  have hne : w1.heap.size ≠ x := by omega
  have hm := K1.out.mach.below HT.out.below
  have hxt := hm.lt
  have hbt := HT.out.lt
  obtain ⟨t0, t1, t2, t3, t4, t5, t6, t7, tf⟩ := HT.out.cells
  have tf4 := tf 4
  have tf5 := tf 5
  have x8 : Wt.cell? ⟨x, 8, none⟩ = some (.int .i64 kk) := by rw [← HE.out.2.2.2.1]; exact hm.cells 8 _ rfl
  have x9 : Wt.cell? ⟨x, 9, none⟩ = some (.int .i64 kf) := by rw [← HE.out.2.2.2.2]; exact hm.cells 9 _ rfl
  have x13 : Wt.cell? ⟨x, 13, none⟩ = some (.slice aa m.keep.attrs.length ac) := by rw [← HE.out.1]; exact hm.cells 13 v.a rfl
  have x12 : Wt.cell? ⟨x, 12, none⟩ = some (.bool m.self) := hm.cells 12 _ rfl
  have x4 := hm.cells 4 _ rfl
  have y4 := hm.free 4
  have x2 := hm.cells 2 _ rfl
  have y2 := hm.free 2
  clear tf hm kd1 kd2 z0 z1 z2 k8 k9 k10
  obtain ⟨n, hnn⟩ : ∃ n, m.keep.attrs.length = n := ⟨_, rfl⟩
  have HN : Hid (m.keep.attrs.length = n) := hnn
  rw [hnn] at x13
  obtain ⟨ks, hks⟩ : ∃ ks, m.self = ks := ⟨_, rfl⟩
  have HS : Hid (m.self = ks) := hks
  rw [hks] at x12
  have hn0 : n = 0 := by omega
  subst hn0
  rw [h2] at hks
  subst hks
  have E0 : Hid (EndW Z S x m.keep w1.heap.size ⟨kk, 0, N1, ⟨#[]⟩, none, 0, 0, false, kf, q⟩ w Wt) := K1.out.endW HT.out
  clear hWt hnn
  try clear hks
  go_wp2_with fail
  refine (E0.out.call (fun U h => tell_any h (⟨kk, 0, N1, ⟨#[]⟩, none, 0, 0, false, kf, q⟩, []) (by have := (keep_tot m).1; omega) (ok_none _ _ _ _ _ _ _))).mono ?_
  rintro e w3 ⟨rfl, e3⟩
  have p3 := e3.post
  obtain ⟨_, hx3, cc, ff⟩ := p3.mach
  have c2' := cc 2 _ rfl
  have f2' := ff 2
  have P3 : Hid (Post Z S x { (m.keep.tell (ptOf (⟨kk, 0, N1, ⟨#[]⟩, none, 0, 0, false, kf, q⟩, []))) with text := 0 } w (w3.setCell ⟨x, 2, none⟩ (.int .i64 0))) := p3.turn [(2, .int .i64 0)] (fun v => by simp [Mc.cells]) (fun _ _ => rfl) rfl rfl
  clear e3 p3 cc ff
  go_wp2_with fail
  refine (P3.out.call (fun U h => toData_any h)).mono ?_
  rintro e w4 ⟨rfl, p4⟩
  have HP : Hid (Post Z S x (m.tellTag ⟨r, p, q⟩) w w4) := by
    rw [tag_n HK.out (List.eq_nil_of_length_eq_zero HN.out) HS.out]
    rw [HE.out.2.2.1, HE.out.2.2.2.1, HE.out.2.2.2.2]
    exact p4
  clear p4
  go_wp2_with fail
  refine bodyPost_end (results_none rfl _ _ _) rfl ?_
  exact ⟨rfl, HP.out⟩
theorem tellTag_any {Z : Nat → Prop} {S : Nat → Prop} {x : Nat} {m : Mc} {w : World} (h : Mach Z S x m w) (c : Ch) (hn : m.tot ≤ 900000000) : Calls Tryz.prog 153 #[mp x, cv c] w (Did Z S x (m.tellTag c) w) := by
  by_cases hk : m.kind = 2
  · exact tellTag_s h c hn hk
  · by_cases h1 : 0 < m.keep.attrs.length
    · exact tellTag_e1 h c hn hk h1
    · cases h2 : m.self with
      | true => exact tellTag_e2 h c hn hk (by omega) h2
      | false => exact tellTag_e3 h c hn hk (by omega) h2
end Go.Proofs.YtdiealijjhfhjaaGreatDoor
