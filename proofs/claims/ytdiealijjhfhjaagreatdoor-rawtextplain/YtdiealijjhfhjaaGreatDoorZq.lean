/- The states of comments and doctypes; Double, Single. -/
import Derived.Test.YtdiealijjhfhjaaGreatDoorZp
import Derived.BigCall
namespace Go.Proofs.YtdiealijjhfhjaaGreatDoor
open Go.RowKit Go.Maps
theorem en142 : Enters 175 := enters_of Tryz.func175 (by kernel_rfl) rfl
theorem en144 : Enters 177 := enters_of Tryz.func177 (by kernel_rfl) rfl
set_option maxHeartbeats 2000000 in
set_option maxRecDepth 20000 in
theorem inBogus_1 {Z : Nat → Prop} {S : Nat → Prop} {x : Nat} {m : Mc} {w : World} (h : Mach Z S x m w) (p q : Int)   (hn : m.tot ≤ 500000000) : Calls Tryz.prog 180 #[mp x, cv ⟨62, p, q⟩] w (Did Z S x (m.inBogus ⟨62, p, q⟩) w) := by
  have HE : Hid ((m.inBogus ⟨62, p, q⟩) = (m.tellMade q)) := by
    show (m.inBogus ⟨62, p, q⟩) = (m.tellMade q)
    simp [Mc.inBogus]
  obtain ⟨W0, hW0, k0⟩ := Walk.start h ⟨62, p, q⟩
  have hxw := h.low
  obtain ⟨hb0, d0, d1, d2⟩ := k0.box
  have hx0 := k0.lt
  have hne : w.heap.size ≠ x := by omega
  obtain ⟨s0, s1, s2, s3⟩ := k0.st0
  have K0 : Hid (Walk Z S x m w.heap.size ⟨62, p, q⟩ w W0) := k0
  clear h k0
  go_enter Tryz.func180, Tryz.ntmps180
  go_wp2_with fail
  refine (K0.out.call (fun U h => tellMade_any h q (by show m.tot ≤ _; omega))).mono ?_
  rintro e W1 ⟨rfl, k1⟩
  have K1 : Hid (Walk Z S x (m.tellMade q) w.heap.size ⟨62, p, q⟩ w W1) := k1
  clear hb0 d0 d1 d2 hx0 s0 s1 s2 s3
  obtain ⟨hb1, d0, d1, d2⟩ := k1.box
  have hx1 := k1.lt
  obtain ⟨s0, s1, s2, s3⟩ := k1.st0
  clear k1
  go_wp2_with fail
  first
    | refine bodyPost_end (results_none rfl _ _ _) rfl ?_
    | refine bodyPost_ret (results_none rfl _ _ _) rfl ?_
  refine ⟨rfl, ?_⟩
  rw [HE.out]
  exact K1.out.post
set_option maxHeartbeats 2000000 in
set_option maxRecDepth 20000 in
theorem inBogus_2 {Z : Nat → Prop} {S : Nat → Prop} {x : Nat} {m : Mc} {w : World} (h : Mach Z S x m w) (r p q : Int) (h62 : (r == 62) = false)  (hn : m.tot ≤ 500000000) : Calls Tryz.prog 180 #[mp x, cv ⟨r, p, q⟩] w (Did Z S x (m.inBogus ⟨r, p, q⟩) w) := by
  have HE : Hid ((m.inBogus ⟨r, p, q⟩) = (m.addText r)) := by
    show (m.inBogus ⟨r, p, q⟩) = (m.addText r)
    simp at h62; simp [Mc.inBogus, h62]
  obtain ⟨W0, hW0, k0⟩ := Walk.start h ⟨r, p, q⟩
  have hxw := h.low
  obtain ⟨hb0, d0, d1, d2⟩ := k0.box
  have hx0 := k0.lt
  have hne : w.heap.size ≠ x := by omega
  obtain ⟨s0, s1, s2, s3⟩ := k0.st0
  have K0 : Hid (Walk Z S x m w.heap.size ⟨r, p, q⟩ w W0) := k0
  clear h k0
  go_enter Tryz.func180, Tryz.ntmps180
  go_wp2_with fail
  go_still_tail 5, (show Tryz.prog.follows .mixedOrders = true by kernel_rfl)
  go_wp2_with fail
  refine (K0.out.drew.call (fun U h => addText_any h r (by show m.tot ≤ _; omega))).mono ?_
  rintro e W1 ⟨rfl, k1⟩
  have K1 : Hid (Walk Z S x (m.addText r) w.heap.size ⟨r, p, q⟩ w W1) := k1
  clear hb0 d0 d1 d2 hx0 s0 s1 s2 s3
  obtain ⟨hb1, d0, d1, d2⟩ := k1.box
  have hx1 := k1.lt
  obtain ⟨s0, s1, s2, s3⟩ := k1.st0
  clear k1
  go_wp2_with fail
  first
    | refine bodyPost_end (results_none rfl _ _ _) rfl ?_
    | refine bodyPost_ret (results_none rfl _ _ _) rfl ?_
  refine ⟨rfl, ?_⟩
  rw [HE.out]
  exact K1.out.post
theorem inBogus_any {Z : Nat → Prop} {S : Nat → Prop} {x : Nat} {m : Mc} {w : World} (h : Mach Z S x m w) (c : Ch) (hn : m.tot ≤ 500000000) : Calls Tryz.prog 180 #[mp x, cv c] w (Did Z S x (m.inBogus c) w) := by
  obtain ⟨r, p, q⟩ := c
  by_cases h62 : r = 62
  · subst h62
    exact inBogus_1 h p q hn
  exact inBogus_2 h r p q (by simpa using h62) hn
set_option maxHeartbeats 2000000 in
set_option maxRecDepth 20000 in
theorem comment_1 {Z : Nat → Prop} {S : Nat → Prop} {x : Nat} {m : Mc} {w : World} (h : Mach Z S x m w) (p q : Int)   (_hn : m.tot ≤ 500000000) : Calls Tryz.prog 175 #[mp x, cv ⟨45, p, q⟩] w (Did Z S x (m.comment ⟨45, p, q⟩) w) := by
  have HE : Hid ((m.comment ⟨45, p, q⟩) = ({ m with st := 205 } : Mc)) := by
    show (m.comment ⟨45, p, q⟩) = ({ m with st := 205 } : Mc)
    simp [Mc.comment]
  obtain ⟨W0, hW0, k0⟩ := Walk.start h ⟨45, p, q⟩
  have hxw := h.low
  obtain ⟨hb0, d0, d1, d2⟩ := k0.box
  have hx0 := k0.lt
  have hne : w.heap.size ≠ x := by omega
  obtain ⟨s0, s1, s2, s3⟩ := k0.st0
  have K0 : Hid (Walk Z S x m w.heap.size ⟨45, p, q⟩ w W0) := k0
  clear h k0
  go_enter Tryz.func175, Tryz.ntmps175
  have K1 : Hid (Walk Z S x ({ m with st := 205 } : Mc) w.heap.size ⟨45, p, q⟩ w (W0.setCell ⟨x, 0, none⟩ (.func (.func 205) #[] #[]))) := K0.out.st 205
  have hb1 := hb0
  have hx1 := hx0
  go_wp2_with fail
  first
    | refine bodyPost_end (results_none rfl _ _ _) rfl ?_
    | refine bodyPost_ret (results_none rfl _ _ _) rfl ?_
  refine ⟨rfl, ?_⟩
  rw [HE.out]
  exact K1.out.post
set_option maxHeartbeats 2000000 in
set_option maxRecDepth 20000 in
theorem comment_2 {Z : Nat → Prop} {S : Nat → Prop} {x : Nat} {m : Mc} {w : World} (h : Mach Z S x m w) (r p q : Int) (h45 : (r == 45) = false)  (hn : m.tot ≤ 500000000) : Calls Tryz.prog 175 #[mp x, cv ⟨r, p, q⟩] w (Did Z S x (m.comment ⟨r, p, q⟩) w) := by
  have HE : Hid ((m.comment ⟨r, p, q⟩) = (m.addText r)) := by
    show (m.comment ⟨r, p, q⟩) = (m.addText r)
    simp at h45; simp [Mc.comment, h45]
  obtain ⟨W0, hW0, k0⟩ := Walk.start h ⟨r, p, q⟩
  have hxw := h.low
  obtain ⟨hb0, d0, d1, d2⟩ := k0.box
  have hx0 := k0.lt
  have hne : w.heap.size ≠ x := by omega
  obtain ⟨s0, s1, s2, s3⟩ := k0.st0
  have K0 : Hid (Walk Z S x m w.heap.size ⟨r, p, q⟩ w W0) := k0
  clear h k0
  go_enter Tryz.func175, Tryz.ntmps175
  go_wp2_with fail
  go_still_tail 5, (show Tryz.prog.follows .mixedOrders = true by kernel_rfl)
  go_wp2_with fail
  refine (K0.out.drew.call (fun U h => addText_any h r (by show m.tot ≤ _; omega))).mono ?_
  rintro e W1 ⟨rfl, k1⟩
  have K1 : Hid (Walk Z S x (m.addText r) w.heap.size ⟨r, p, q⟩ w W1) := k1
  clear hb0 d0 d1 d2 hx0 s0 s1 s2 s3
  obtain ⟨hb1, d0, d1, d2⟩ := k1.box
  have hx1 := k1.lt
  obtain ⟨s0, s1, s2, s3⟩ := k1.st0
  clear k1
  go_wp2_with fail
  first
    | refine bodyPost_end (results_none rfl _ _ _) rfl ?_
    | refine bodyPost_ret (results_none rfl _ _ _) rfl ?_
  refine ⟨rfl, ?_⟩
  rw [HE.out]
  exact K1.out.post
theorem comment_any {Z : Nat → Prop} {S : Nat → Prop} {x : Nat} {m : Mc} {w : World} (h : Mach Z S x m w) (c : Ch) (hn : m.tot ≤ 500000000) : Calls Tryz.prog 175 #[mp x, cv c] w (Did Z S x (m.comment c) w) := by
  obtain ⟨r, p, q⟩ := c
  by_cases h45 : r = 45
  · subst h45
    exact comment_1 h p q hn
  exact comment_2 h r p q (by simpa using h45) hn
set_option maxHeartbeats 2000000 in
set_option maxRecDepth 20000 in
theorem abrupt_1 {Z : Nat → Prop} {S : Nat → Prop} {x : Nat} {m : Mc} {w : World} (h : Mach Z S x m w) (r p q : Int)   (hn : m.tot ≤ 500000000) : Calls Tryz.prog 174 #[mp x, cv ⟨r, p, q⟩] w (Did Z S x (m.abrupt ⟨r, p, q⟩) w) := by
  have HE : Hid ((m.abrupt ⟨r, p, q⟩) = ((m.fault 15 (p)).tellMade q)) := by
    show (m.abrupt ⟨r, p, q⟩) = ((m.fault 15 (p)).tellMade q)
    rfl
  obtain ⟨W0, hW0, k0⟩ := Walk.start h ⟨r, p, q⟩
  have hxw := h.low
  obtain ⟨hb0, d0, d1, d2⟩ := k0.box
  have hx0 := k0.lt
  have hne : w.heap.size ≠ x := by omega
  obtain ⟨s0, s1, s2, s3⟩ := k0.st0
  have K0 : Hid (Walk Z S x m w.heap.size ⟨r, p, q⟩ w W0) := k0
  clear h k0
  go_enter Tryz.func174, Tryz.ntmps174
  go_wp2_with fail
  refine (K0.out.call (fun U h => fault_any h 15 p (by show m.tot ≤ _; omega))).mono ?_
  rintro e W1 ⟨rfl, k1⟩
  have K1 : Hid (Walk Z S x (m.fault 15 (p)) w.heap.size ⟨r, p, q⟩ w W1) := k1
  clear hb0 d0 d1 d2 hx0 s0 s1 s2 s3
  obtain ⟨hb1, d0, d1, d2⟩ := k1.box
  have hx1 := k1.lt
  obtain ⟨s0, s1, s2, s3⟩ := k1.st0
  clear k1
  go_wp2_with fail
  refine (K1.out.call (fun U h => tellMade_any h q (by show (m.fault 15 (p)).tot ≤ _; have t0 := tot_fault m 15 (p); omega))).mono ?_
  rintro e W2 ⟨rfl, k2⟩
  have K2 : Hid (Walk Z S x ((m.fault 15 (p)).tellMade q) w.heap.size ⟨r, p, q⟩ w W2) := k2
  clear hb1 d0 d1 d2 hx1 s0 s1 s2 s3
  obtain ⟨hb2, d0, d1, d2⟩ := k2.box
  have hx2 := k2.lt
  obtain ⟨s0, s1, s2, s3⟩ := k2.st0
  clear k2
  go_wp2_with fail
  first
    | refine bodyPost_end (results_none rfl _ _ _) rfl ?_
    | refine bodyPost_ret (results_none rfl _ _ _) rfl ?_
  refine ⟨rfl, ?_⟩
  rw [HE.out]
  exact K2.out.post
theorem abrupt_any {Z : Nat → Prop} {S : Nat → Prop} {x : Nat} {m : Mc} {w : World} (h : Mach Z S x m w) (c : Ch) (hn : m.tot ≤ 500000000) : Calls Tryz.prog 174 #[mp x, cv c] w (Did Z S x (m.abrupt c) w) := by
  obtain ⟨r, p, q⟩ := c
  exact abrupt_1 h r p q hn
set_option maxHeartbeats 2000000 in
set_option maxRecDepth 20000 in
theorem commentAgain_1 {Z : Nat → Prop} {S : Nat → Prop} {x : Nat} {m : Mc} {w : World} (h : Mach Z S x m w) (r p q : Int)  (s : ByteArray) (hs : s.size ≤ 8) (h0 : 0 < s.size) (hn : m.tot ≤ 490000000) : Calls Tryz.prog 204 #[mp x, .string s, cv ⟨r, p, q⟩] w (Did Z S x (m.commentAgain s.data.toList ⟨r, p, q⟩) w) := by
  have HE : Hid ((m.commentAgain s.data.toList ⟨r, p, q⟩) = (({ (m.addDashes s.data.toList) with st := 175 } : Mc).comment ⟨r, p, q⟩)) := by
    show (m.commentAgain s.data.toList ⟨r, p, q⟩) = (({ (m.addDashes s.data.toList) with st := 175 } : Mc).comment ⟨r, p, q⟩)
    rfl
  obtain ⟨W0, hW0, k0⟩ := Walk.start h ⟨r, p, q⟩
  have hxw := h.low
  obtain ⟨hb0, d0, d1, d2⟩ := k0.box
  have hx0 := k0.lt
  have hne : w.heap.size ≠ x := by omega
  obtain ⟨s0, s1, s2, s3⟩ := k0.st0
  have K0 : Hid (Walk Z S x m w.heap.size ⟨r, p, q⟩ w W0) := k0
  clear h k0
  go_enter Tryz.func204, Tryz.ntmps204
  go_wp2_with fail
  refine (K0.out.call (fun U h => addDashes_any h s hs h0 (by show m.tot ≤ _; omega))).mono ?_
  rintro e W1 ⟨rfl, k1⟩
  have K1 : Hid (Walk Z S x (m.addDashes s.data.toList) w.heap.size ⟨r, p, q⟩ w W1) := k1
  clear hb0 d0 d1 d2 hx0 s0 s1 s2 s3
  obtain ⟨hb1, d0, d1, d2⟩ := k1.box
  have hx1 := k1.lt
  obtain ⟨s0, s1, s2, s3⟩ := k1.st0
  clear k1
  go_wp2_with fail
  refine (K1.out.call (fun U h => again_any 175 en142 h ⟨r, p, q⟩ (fun U W h => comment_any h ⟨r, p, q⟩ (by show (m.addDashes s.data.toList).tot ≤ _; have t0 := tot_addDashes m s.data.toList; have t1 : s.data.toList.length = s.size := Array.length_toList; omega)))).mono ?_
  rintro e W2 ⟨rfl, k2⟩
  have K2 : Hid (Walk Z S x (({ (m.addDashes s.data.toList) with st := 175 } : Mc).comment ⟨r, p, q⟩) w.heap.size ⟨r, p, q⟩ w W2) := k2
  clear hb1 d0 d1 d2 hx1 s0 s1 s2 s3
  obtain ⟨hb2, d0, d1, d2⟩ := k2.box
  have hx2 := k2.lt
  obtain ⟨s0, s1, s2, s3⟩ := k2.st0
  clear k2
  go_wp2_with fail
  first
    | refine bodyPost_end (results_none rfl _ _ _) rfl ?_
    | refine bodyPost_ret (results_none rfl _ _ _) rfl ?_
  refine ⟨rfl, ?_⟩
  rw [HE.out]
  exact K2.out.post
set_option maxHeartbeats 2000000 in
set_option maxRecDepth 20000 in
theorem comStart_1 {Z : Nat → Prop} {S : Nat → Prop} {x : Nat} {m : Mc} {w : World} (h : Mach Z S x m w) (p q : Int)   (_hn : m.tot ≤ 480000000) : Calls Tryz.prog 141 #[mp x, cv ⟨45, p, q⟩] w (Did Z S x (m.comStart ⟨45, p, q⟩) w) := by
  have HE : Hid ((m.comStart ⟨45, p, q⟩) = ({ m with st := 173 } : Mc)) := by
    show (m.comStart ⟨45, p, q⟩) = ({ m with st := 173 } : Mc)
    simp [Mc.comStart]
  obtain ⟨W0, hW0, k0⟩ := Walk.start h ⟨45, p, q⟩
  have hxw := h.low
  obtain ⟨hb0, d0, d1, d2⟩ := k0.box
  have hx0 := k0.lt
  have hne : w.heap.size ≠ x := by omega
  obtain ⟨s0, s1, s2, s3⟩ := k0.st0
  have K0 : Hid (Walk Z S x m w.heap.size ⟨45, p, q⟩ w W0) := k0
  clear h k0
  go_enter Tryz.func141, Tryz.ntmps141
  have K1 : Hid (Walk Z S x ({ m with st := 173 } : Mc) w.heap.size ⟨45, p, q⟩ w (W0.setCell ⟨x, 0, none⟩ (.func (.func 173) #[] #[]))) := K0.out.st 173
  have hb1 := hb0
  have hx1 := hx0
  go_wp2_with fail
  first
    | refine bodyPost_end (results_none rfl _ _ _) rfl ?_
    | refine bodyPost_ret (results_none rfl _ _ _) rfl ?_
  refine ⟨rfl, ?_⟩
  rw [HE.out]
  exact K1.out.post
set_option maxHeartbeats 2000000 in
set_option maxRecDepth 20000 in
theorem comStart_2 {Z : Nat → Prop} {S : Nat → Prop} {x : Nat} {m : Mc} {w : World} (h : Mach Z S x m w) (p q : Int)   (hn : m.tot ≤ 480000000) : Calls Tryz.prog 141 #[mp x, cv ⟨62, p, q⟩] w (Did Z S x (m.comStart ⟨62, p, q⟩) w) := by
  have HE : Hid ((m.comStart ⟨62, p, q⟩) = (m.abrupt ⟨62, p, q⟩)) := by
    show (m.comStart ⟨62, p, q⟩) = (m.abrupt ⟨62, p, q⟩)
    simp [Mc.comStart]
  obtain ⟨W0, hW0, k0⟩ := Walk.start h ⟨62, p, q⟩
  have hxw := h.low
  obtain ⟨hb0, d0, d1, d2⟩ := k0.box
  have hx0 := k0.lt
  have hne : w.heap.size ≠ x := by omega
  obtain ⟨s0, s1, s2, s3⟩ := k0.st0
  have K0 : Hid (Walk Z S x m w.heap.size ⟨62, p, q⟩ w W0) := k0
  clear h k0
  go_enter Tryz.func141, Tryz.ntmps141
  go_wp2_with fail
  refine (K0.out.call (fun U h => abrupt_any h ⟨62, p, q⟩ (by show m.tot ≤ _; omega))).mono ?_
  rintro e W1 ⟨rfl, k1⟩
  have K1 : Hid (Walk Z S x (m.abrupt ⟨62, p, q⟩) w.heap.size ⟨62, p, q⟩ w W1) := k1
  clear hb0 d0 d1 d2 hx0 s0 s1 s2 s3
  obtain ⟨hb1, d0, d1, d2⟩ := k1.box
  have hx1 := k1.lt
  obtain ⟨s0, s1, s2, s3⟩ := k1.st0
  clear k1
  go_wp2_with fail
  first
    | refine bodyPost_end (results_none rfl _ _ _) rfl ?_
    | refine bodyPost_ret (results_none rfl _ _ _) rfl ?_
  refine ⟨rfl, ?_⟩
  rw [HE.out]
  exact K1.out.post
set_option maxHeartbeats 2000000 in
set_option maxRecDepth 20000 in
theorem comStart_3 {Z : Nat → Prop} {S : Nat → Prop} {x : Nat} {m : Mc} {w : World} (h : Mach Z S x m w) (r p q : Int) (h45 : (r == 45) = false) (h62 : (r == 62) = false)  (hn : m.tot ≤ 480000000) : Calls Tryz.prog 141 #[mp x, cv ⟨r, p, q⟩] w (Did Z S x (m.comStart ⟨r, p, q⟩) w) := by
  have HE : Hid ((m.comStart ⟨r, p, q⟩) = (({ m with st := 175 } : Mc).comment ⟨r, p, q⟩)) := by
    show (m.comStart ⟨r, p, q⟩) = (({ m with st := 175 } : Mc).comment ⟨r, p, q⟩)
    simp at h45 h62; simp [Mc.comStart, h45, h62]
  obtain ⟨W0, hW0, k0⟩ := Walk.start h ⟨r, p, q⟩
  have hxw := h.low
  obtain ⟨hb0, d0, d1, d2⟩ := k0.box
  have hx0 := k0.lt
  have hne : w.heap.size ≠ x := by omega
  obtain ⟨s0, s1, s2, s3⟩ := k0.st0
  have K0 : Hid (Walk Z S x m w.heap.size ⟨r, p, q⟩ w W0) := k0
  clear h k0
  go_enter Tryz.func141, Tryz.ntmps141
  go_wp2_with fail
  refine (K0.out.call (fun U h => again_any 175 en142 h ⟨r, p, q⟩ (fun U W h => comment_any h ⟨r, p, q⟩ (by show m.tot ≤ _; omega)))).mono ?_
  rintro e W1 ⟨rfl, k1⟩
  have K1 : Hid (Walk Z S x (({ m with st := 175 } : Mc).comment ⟨r, p, q⟩) w.heap.size ⟨r, p, q⟩ w W1) := k1
  clear hb0 d0 d1 d2 hx0 s0 s1 s2 s3
  obtain ⟨hb1, d0, d1, d2⟩ := k1.box
  have hx1 := k1.lt
  obtain ⟨s0, s1, s2, s3⟩ := k1.st0
  clear k1
  go_wp2_with fail
  first
    | refine bodyPost_end (results_none rfl _ _ _) rfl ?_
    | refine bodyPost_ret (results_none rfl _ _ _) rfl ?_
  refine ⟨rfl, ?_⟩
  rw [HE.out]
  exact K1.out.post
theorem comStart_any {Z : Nat → Prop} {S : Nat → Prop} {x : Nat} {m : Mc} {w : World} (h : Mach Z S x m w) (c : Ch) (hn : m.tot ≤ 480000000) : Calls Tryz.prog 141 #[mp x, cv c] w (Did Z S x (m.comStart c) w) := by
  obtain ⟨r, p, q⟩ := c
  by_cases h45 : r = 45
  · subst h45
    exact comStart_1 h p q hn
  by_cases h62 : r = 62
  · subst h62
    exact comStart_2 h p q hn
  exact comStart_3 h r p q (by simpa using h45) (by simpa using h62) hn
set_option maxHeartbeats 2000000 in
set_option maxRecDepth 20000 in
theorem comStartDash_1 {Z : Nat → Prop} {S : Nat → Prop} {x : Nat} {m : Mc} {w : World} (h : Mach Z S x m w) (p q : Int)   (_hn : m.tot ≤ 480000000) : Calls Tryz.prog 173 #[mp x, cv ⟨45, p, q⟩] w (Did Z S x (m.comStartDash ⟨45, p, q⟩) w) := by
  have HE : Hid ((m.comStartDash ⟨45, p, q⟩) = ({ m with st := 203 } : Mc)) := by
    show (m.comStartDash ⟨45, p, q⟩) = ({ m with st := 203 } : Mc)
    simp [Mc.comStartDash]
  obtain ⟨W0, hW0, k0⟩ := Walk.start h ⟨45, p, q⟩
  have hxw := h.low
  obtain ⟨hb0, d0, d1, d2⟩ := k0.box
  have hx0 := k0.lt
  have hne : w.heap.size ≠ x := by omega
  obtain ⟨s0, s1, s2, s3⟩ := k0.st0
  have K0 : Hid (Walk Z S x m w.heap.size ⟨45, p, q⟩ w W0) := k0
  clear h k0
  go_enter Tryz.func173, Tryz.ntmps173
  have K1 : Hid (Walk Z S x ({ m with st := 203 } : Mc) w.heap.size ⟨45, p, q⟩ w (W0.setCell ⟨x, 0, none⟩ (.func (.func 203) #[] #[]))) := K0.out.st 203
  have hb1 := hb0
  have hx1 := hx0
  go_wp2_with fail
  first
    | refine bodyPost_end (results_none rfl _ _ _) rfl ?_
    | refine bodyPost_ret (results_none rfl _ _ _) rfl ?_
  refine ⟨rfl, ?_⟩
  rw [HE.out]
  exact K1.out.post
set_option maxHeartbeats 2000000 in
set_option maxRecDepth 20000 in
theorem comStartDash_2 {Z : Nat → Prop} {S : Nat → Prop} {x : Nat} {m : Mc} {w : World} (h : Mach Z S x m w) (p q : Int)   (hn : m.tot ≤ 480000000) : Calls Tryz.prog 173 #[mp x, cv ⟨62, p, q⟩] w (Did Z S x (m.comStartDash ⟨62, p, q⟩) w) := by
  have HE : Hid ((m.comStartDash ⟨62, p, q⟩) = (m.abrupt ⟨62, p, q⟩)) := by
    show (m.comStartDash ⟨62, p, q⟩) = (m.abrupt ⟨62, p, q⟩)
    simp [Mc.comStartDash]
  obtain ⟨W0, hW0, k0⟩ := Walk.start h ⟨62, p, q⟩
  have hxw := h.low
  obtain ⟨hb0, d0, d1, d2⟩ := k0.box
  have hx0 := k0.lt
  have hne : w.heap.size ≠ x := by omega
  obtain ⟨s0, s1, s2, s3⟩ := k0.st0
  have K0 : Hid (Walk Z S x m w.heap.size ⟨62, p, q⟩ w W0) := k0
  clear h k0
  go_enter Tryz.func173, Tryz.ntmps173
  go_wp2_with fail
  refine (K0.out.call (fun U h => abrupt_any h ⟨62, p, q⟩ (by show m.tot ≤ _; omega))).mono ?_
  rintro e W1 ⟨rfl, k1⟩
  have K1 : Hid (Walk Z S x (m.abrupt ⟨62, p, q⟩) w.heap.size ⟨62, p, q⟩ w W1) := k1
  clear hb0 d0 d1 d2 hx0 s0 s1 s2 s3
  obtain ⟨hb1, d0, d1, d2⟩ := k1.box
  have hx1 := k1.lt
  obtain ⟨s0, s1, s2, s3⟩ := k1.st0
  clear k1
  go_wp2_with fail
  first
    | refine bodyPost_end (results_none rfl _ _ _) rfl ?_
    | refine bodyPost_ret (results_none rfl _ _ _) rfl ?_
  refine ⟨rfl, ?_⟩
  rw [HE.out]
  exact K1.out.post
set_option maxHeartbeats 2000000 in
set_option maxRecDepth 20000 in
theorem comStartDash_3 {Z : Nat → Prop} {S : Nat → Prop} {x : Nat} {m : Mc} {w : World} (h : Mach Z S x m w) (r p q : Int) (h45 : (r == 45) = false) (h62 : (r == 62) = false)  (hn : m.tot ≤ 480000000) : Calls Tryz.prog 173 #[mp x, cv ⟨r, p, q⟩] w (Did Z S x (m.comStartDash ⟨r, p, q⟩) w) := by
  have HE : Hid ((m.comStartDash ⟨r, p, q⟩) = (m.commentAgain [45] ⟨r, p, q⟩)) := by
    show (m.comStartDash ⟨r, p, q⟩) = (m.commentAgain [45] ⟨r, p, q⟩)
    simp at h45 h62; simp [Mc.comStartDash, h45, h62]
  obtain ⟨W0, hW0, k0⟩ := Walk.start h ⟨r, p, q⟩
  have hxw := h.low
  obtain ⟨hb0, d0, d1, d2⟩ := k0.box
  have hx0 := k0.lt
  have hne : w.heap.size ≠ x := by omega
  obtain ⟨s0, s1, s2, s3⟩ := k0.st0
  have K0 : Hid (Walk Z S x m w.heap.size ⟨r, p, q⟩ w W0) := k0
  clear h k0
  go_enter Tryz.func173, Tryz.ntmps173
  go_wp2_with fail
  refine (K0.out.call (fun U h => commentAgain_1 h r p q ⟨#[45]⟩ (by decide) (by decide) (by show m.tot ≤ _; omega))).mono ?_
  rintro e W1 ⟨rfl, k1⟩
  have K1 : Hid (Walk Z S x (m.commentAgain [45] ⟨r, p, q⟩) w.heap.size ⟨r, p, q⟩ w W1) := k1
  clear hb0 d0 d1 d2 hx0 s0 s1 s2 s3
  obtain ⟨hb1, d0, d1, d2⟩ := k1.box
  have hx1 := k1.lt
  obtain ⟨s0, s1, s2, s3⟩ := k1.st0
  clear k1
  go_wp2_with fail
  first
    | refine bodyPost_end (results_none rfl _ _ _) rfl ?_
    | refine bodyPost_ret (results_none rfl _ _ _) rfl ?_
  refine ⟨rfl, ?_⟩
  rw [HE.out]
  exact K1.out.post
theorem comStartDash_any {Z : Nat → Prop} {S : Nat → Prop} {x : Nat} {m : Mc} {w : World} (h : Mach Z S x m w) (c : Ch) (hn : m.tot ≤ 480000000) : Calls Tryz.prog 173 #[mp x, cv c] w (Did Z S x (m.comStartDash c) w) := by
  obtain ⟨r, p, q⟩ := c
  by_cases h45 : r = 45
  · subst h45
    exact comStartDash_1 h p q hn
  by_cases h62 : r = 62
  · subst h62
    exact comStartDash_2 h p q hn
  exact comStartDash_3 h r p q (by simpa using h45) (by simpa using h62) hn
set_option maxHeartbeats 2000000 in
set_option maxRecDepth 20000 in
theorem comDash_1 {Z : Nat → Prop} {S : Nat → Prop} {x : Nat} {m : Mc} {w : World} (h : Mach Z S x m w) (p q : Int)   (_hn : m.tot ≤ 480000000) : Calls Tryz.prog 205 #[mp x, cv ⟨45, p, q⟩] w (Did Z S x (m.comDash ⟨45, p, q⟩) w) := by
  have HE : Hid ((m.comDash ⟨45, p, q⟩) = ({ m with st := 203 } : Mc)) := by
    show (m.comDash ⟨45, p, q⟩) = ({ m with st := 203 } : Mc)
    simp [Mc.comDash]
  obtain ⟨W0, hW0, k0⟩ := Walk.start h ⟨45, p, q⟩
  have hxw := h.low
  obtain ⟨hb0, d0, d1, d2⟩ := k0.box
  have hx0 := k0.lt
  have hne : w.heap.size ≠ x := by omega
  obtain ⟨s0, s1, s2, s3⟩ := k0.st0
  have K0 : Hid (Walk Z S x m w.heap.size ⟨45, p, q⟩ w W0) := k0
  clear h k0
  go_enter Tryz.func205, Tryz.ntmps205
  have K1 : Hid (Walk Z S x ({ m with st := 203 } : Mc) w.heap.size ⟨45, p, q⟩ w (W0.setCell ⟨x, 0, none⟩ (.func (.func 203) #[] #[]))) := K0.out.st 203
  have hb1 := hb0
  have hx1 := hx0
  go_wp2_with fail
  first
    | refine bodyPost_end (results_none rfl _ _ _) rfl ?_
    | refine bodyPost_ret (results_none rfl _ _ _) rfl ?_
  refine ⟨rfl, ?_⟩
  rw [HE.out]
  exact K1.out.post
set_option maxHeartbeats 2000000 in
set_option maxRecDepth 20000 in
theorem comDash_2 {Z : Nat → Prop} {S : Nat → Prop} {x : Nat} {m : Mc} {w : World} (h : Mach Z S x m w) (r p q : Int) (h45 : (r == 45) = false)  (hn : m.tot ≤ 480000000) : Calls Tryz.prog 205 #[mp x, cv ⟨r, p, q⟩] w (Did Z S x (m.comDash ⟨r, p, q⟩) w) := by
  have HE : Hid ((m.comDash ⟨r, p, q⟩) = (m.commentAgain [45] ⟨r, p, q⟩)) := by
    show (m.comDash ⟨r, p, q⟩) = (m.commentAgain [45] ⟨r, p, q⟩)
    simp at h45; simp [Mc.comDash, h45]
  obtain ⟨W0, hW0, k0⟩ := Walk.start h ⟨r, p, q⟩
  have hxw := h.low
  obtain ⟨hb0, d0, d1, d2⟩ := k0.box
  have hx0 := k0.lt
  have hne : w.heap.size ≠ x := by omega
  obtain ⟨s0, s1, s2, s3⟩ := k0.st0
  have K0 : Hid (Walk Z S x m w.heap.size ⟨r, p, q⟩ w W0) := k0
  clear h k0
  go_enter Tryz.func205, Tryz.ntmps205
  go_wp2_with fail
  refine (K0.out.call (fun U h => commentAgain_1 h r p q ⟨#[45]⟩ (by decide) (by decide) (by show m.tot ≤ _; omega))).mono ?_
  rintro e W1 ⟨rfl, k1⟩
  have K1 : Hid (Walk Z S x (m.commentAgain [45] ⟨r, p, q⟩) w.heap.size ⟨r, p, q⟩ w W1) := k1
  clear hb0 d0 d1 d2 hx0 s0 s1 s2 s3
  obtain ⟨hb1, d0, d1, d2⟩ := k1.box
  have hx1 := k1.lt
  obtain ⟨s0, s1, s2, s3⟩ := k1.st0
  clear k1
  go_wp2_with fail
  first
    | refine bodyPost_end (results_none rfl _ _ _) rfl ?_
    | refine bodyPost_ret (results_none rfl _ _ _) rfl ?_
  refine ⟨rfl, ?_⟩
  rw [HE.out]
  exact K1.out.post
theorem comDash_any {Z : Nat → Prop} {S : Nat → Prop} {x : Nat} {m : Mc} {w : World} (h : Mach Z S x m w) (c : Ch) (hn : m.tot ≤ 480000000) : Calls Tryz.prog 205 #[mp x, cv c] w (Did Z S x (m.comDash c) w) := by
  obtain ⟨r, p, q⟩ := c
  by_cases h45 : r = 45
  · subst h45
    exact comDash_1 h p q hn
  exact comDash_2 h r p q (by simpa using h45) hn
set_option maxHeartbeats 2000000 in
set_option maxRecDepth 20000 in
theorem comEnd_1 {Z : Nat → Prop} {S : Nat → Prop} {x : Nat} {m : Mc} {w : World} (h : Mach Z S x m w) (p q : Int)   (hn : m.tot ≤ 480000000) : Calls Tryz.prog 203 #[mp x, cv ⟨62, p, q⟩] w (Did Z S x (m.comEnd ⟨62, p, q⟩) w) := by
  have HE : Hid ((m.comEnd ⟨62, p, q⟩) = (m.tellMade q)) := by
    show (m.comEnd ⟨62, p, q⟩) = (m.tellMade q)
    simp [Mc.comEnd]
  obtain ⟨W0, hW0, k0⟩ := Walk.start h ⟨62, p, q⟩
  have hxw := h.low
  obtain ⟨hb0, d0, d1, d2⟩ := k0.box
  have hx0 := k0.lt
  have hne : w.heap.size ≠ x := by omega
  obtain ⟨s0, s1, s2, s3⟩ := k0.st0
  have K0 : Hid (Walk Z S x m w.heap.size ⟨62, p, q⟩ w W0) := k0
  clear h k0
  go_enter Tryz.func203, Tryz.ntmps203
  go_wp2_with fail
  refine (K0.out.call (fun U h => tellMade_any h q (by show m.tot ≤ _; omega))).mono ?_
  rintro e W1 ⟨rfl, k1⟩
  have K1 : Hid (Walk Z S x (m.tellMade q) w.heap.size ⟨62, p, q⟩ w W1) := k1
  clear hb0 d0 d1 d2 hx0 s0 s1 s2 s3
  obtain ⟨hb1, d0, d1, d2⟩ := k1.box
  have hx1 := k1.lt
  obtain ⟨s0, s1, s2, s3⟩ := k1.st0
  clear k1
  go_wp2_with fail
  first
    | refine bodyPost_end (results_none rfl _ _ _) rfl ?_
    | refine bodyPost_ret (results_none rfl _ _ _) rfl ?_
  refine ⟨rfl, ?_⟩
  rw [HE.out]
  exact K1.out.post
set_option maxHeartbeats 2000000 in
set_option maxRecDepth 20000 in
theorem comEnd_2 {Z : Nat → Prop} {S : Nat → Prop} {x : Nat} {m : Mc} {w : World} (h : Mach Z S x m w) (p q : Int)   (_hn : m.tot ≤ 480000000) : Calls Tryz.prog 203 #[mp x, cv ⟨33, p, q⟩] w (Did Z S x (m.comEnd ⟨33, p, q⟩) w) := by
  have HE : Hid ((m.comEnd ⟨33, p, q⟩) = ({ m with st := 217 } : Mc)) := by
    show (m.comEnd ⟨33, p, q⟩) = ({ m with st := 217 } : Mc)
    simp [Mc.comEnd]
  obtain ⟨W0, hW0, k0⟩ := Walk.start h ⟨33, p, q⟩
  have hxw := h.low
  obtain ⟨hb0, d0, d1, d2⟩ := k0.box
  have hx0 := k0.lt
  have hne : w.heap.size ≠ x := by omega
  obtain ⟨s0, s1, s2, s3⟩ := k0.st0
  have K0 : Hid (Walk Z S x m w.heap.size ⟨33, p, q⟩ w W0) := k0
  clear h k0
  go_enter Tryz.func203, Tryz.ntmps203
  have K1 : Hid (Walk Z S x ({ m with st := 217 } : Mc) w.heap.size ⟨33, p, q⟩ w (W0.setCell ⟨x, 0, none⟩ (.func (.func 217) #[] #[]))) := K0.out.st 217
  have hb1 := hb0
  have hx1 := hx0
  go_wp2_with fail
  first
    | refine bodyPost_end (results_none rfl _ _ _) rfl ?_
    | refine bodyPost_ret (results_none rfl _ _ _) rfl ?_
  refine ⟨rfl, ?_⟩
  rw [HE.out]
  exact K1.out.post
set_option maxHeartbeats 2000000 in
set_option maxRecDepth 20000 in
theorem comEnd_3 {Z : Nat → Prop} {S : Nat → Prop} {x : Nat} {m : Mc} {w : World} (h : Mach Z S x m w) (p q : Int)   (hn : m.tot ≤ 480000000) : Calls Tryz.prog 203 #[mp x, cv ⟨45, p, q⟩] w (Did Z S x (m.comEnd ⟨45, p, q⟩) w) := by
  have HE : Hid ((m.comEnd ⟨45, p, q⟩) = (m.addDashes [45])) := by
    show (m.comEnd ⟨45, p, q⟩) = (m.addDashes [45])
    simp [Mc.comEnd]
  obtain ⟨W0, hW0, k0⟩ := Walk.start h ⟨45, p, q⟩
  have hxw := h.low
  obtain ⟨hb0, d0, d1, d2⟩ := k0.box
  have hx0 := k0.lt
  have hne : w.heap.size ≠ x := by omega
  obtain ⟨s0, s1, s2, s3⟩ := k0.st0
  have K0 : Hid (Walk Z S x m w.heap.size ⟨45, p, q⟩ w W0) := k0
  clear h k0
  go_enter Tryz.func203, Tryz.ntmps203
  go_wp2_with fail
  refine (K0.out.call (fun U h => addDashes_any h ⟨#[45]⟩ (by decide) (by decide) (by show m.tot ≤ _; omega))).mono ?_
  rintro e W1 ⟨rfl, k1⟩
  have K1 : Hid (Walk Z S x (m.addDashes [45]) w.heap.size ⟨45, p, q⟩ w W1) := k1
  clear hb0 d0 d1 d2 hx0 s0 s1 s2 s3
  obtain ⟨hb1, d0, d1, d2⟩ := k1.box
  have hx1 := k1.lt
  obtain ⟨s0, s1, s2, s3⟩ := k1.st0
  clear k1
  go_wp2_with fail
  first
    | refine bodyPost_end (results_none rfl _ _ _) rfl ?_
    | refine bodyPost_ret (results_none rfl _ _ _) rfl ?_
  refine ⟨rfl, ?_⟩
  rw [HE.out]
  exact K1.out.post
set_option maxHeartbeats 2000000 in
set_option maxRecDepth 20000 in
theorem comEnd_4 {Z : Nat → Prop} {S : Nat → Prop} {x : Nat} {m : Mc} {w : World} (h : Mach Z S x m w) (r p q : Int) (h62 : (r == 62) = false) (h33 : (r == 33) = false) (h45 : (r == 45) = false)  (hn : m.tot ≤ 480000000) : Calls Tryz.prog 203 #[mp x, cv ⟨r, p, q⟩] w (Did Z S x (m.comEnd ⟨r, p, q⟩) w) := by
  have HE : Hid ((m.comEnd ⟨r, p, q⟩) = (m.commentAgain [45, 45] ⟨r, p, q⟩)) := by
    show (m.comEnd ⟨r, p, q⟩) = (m.commentAgain [45, 45] ⟨r, p, q⟩)
    simp at h62 h33 h45; simp [Mc.comEnd, h62, h33, h45]
  obtain ⟨W0, hW0, k0⟩ := Walk.start h ⟨r, p, q⟩
  have hxw := h.low
  obtain ⟨hb0, d0, d1, d2⟩ := k0.box
  have hx0 := k0.lt
  have hne : w.heap.size ≠ x := by omega
  obtain ⟨s0, s1, s2, s3⟩ := k0.st0
  have K0 : Hid (Walk Z S x m w.heap.size ⟨r, p, q⟩ w W0) := k0
  clear h k0
  go_enter Tryz.func203, Tryz.ntmps203
  go_wp2_with fail
  refine (K0.out.call (fun U h => commentAgain_1 h r p q ⟨#[45, 45]⟩ (by decide) (by decide) (by show m.tot ≤ _; omega))).mono ?_
  rintro e W1 ⟨rfl, k1⟩
  have K1 : Hid (Walk Z S x (m.commentAgain [45, 45] ⟨r, p, q⟩) w.heap.size ⟨r, p, q⟩ w W1) := k1
  clear hb0 d0 d1 d2 hx0 s0 s1 s2 s3
  obtain ⟨hb1, d0, d1, d2⟩ := k1.box
  have hx1 := k1.lt
  obtain ⟨s0, s1, s2, s3⟩ := k1.st0
  clear k1
  go_wp2_with fail
  first
    | refine bodyPost_end (results_none rfl _ _ _) rfl ?_
    | refine bodyPost_ret (results_none rfl _ _ _) rfl ?_
  refine ⟨rfl, ?_⟩
  rw [HE.out]
  exact K1.out.post
theorem comEnd_any {Z : Nat → Prop} {S : Nat → Prop} {x : Nat} {m : Mc} {w : World} (h : Mach Z S x m w) (c : Ch) (hn : m.tot ≤ 480000000) : Calls Tryz.prog 203 #[mp x, cv c] w (Did Z S x (m.comEnd c) w) := by
  obtain ⟨r, p, q⟩ := c
  by_cases h62 : r = 62
  · subst h62
    exact comEnd_1 h p q hn
  by_cases h33 : r = 33
  · subst h33
    exact comEnd_2 h p q hn
  by_cases h45 : r = 45
  · subst h45
    exact comEnd_3 h p q hn
  exact comEnd_4 h r p q (by simpa using h62) (by simpa using h33) (by simpa using h45) hn
set_option maxHeartbeats 2000000 in
set_option maxRecDepth 20000 in
theorem comBang_1 {Z : Nat → Prop} {S : Nat → Prop} {x : Nat} {m : Mc} {w : World} (h : Mach Z S x m w) (p q : Int)   (hn : m.tot ≤ 480000000) : Calls Tryz.prog 217 #[mp x, cv ⟨45, p, q⟩] w (Did Z S x (m.comBang ⟨45, p, q⟩) w) := by
  have HE : Hid ((m.comBang ⟨45, p, q⟩) = ({ (m.addDashes [45, 45, 33]) with st := 205 } : Mc)) := by
    show (m.comBang ⟨45, p, q⟩) = ({ (m.addDashes [45, 45, 33]) with st := 205 } : Mc)
    simp [Mc.comBang]
  obtain ⟨W0, hW0, k0⟩ := Walk.start h ⟨45, p, q⟩
  have hxw := h.low
  obtain ⟨hb0, d0, d1, d2⟩ := k0.box
  have hx0 := k0.lt
  have hne : w.heap.size ≠ x := by omega
  obtain ⟨s0, s1, s2, s3⟩ := k0.st0
  have K0 : Hid (Walk Z S x m w.heap.size ⟨45, p, q⟩ w W0) := k0
  clear h k0
  go_enter Tryz.func217, Tryz.ntmps217
  go_wp2_with fail
  refine (K0.out.call (fun U h => addDashes_any h ⟨#[45, 45, 33]⟩ (by decide) (by decide) (by show m.tot ≤ _; omega))).mono ?_
  rintro e W1 ⟨rfl, k1⟩
  have K1 : Hid (Walk Z S x (m.addDashes [45, 45, 33]) w.heap.size ⟨45, p, q⟩ w W1) := k1
  clear hb0 d0 d1 d2 hx0 s0 s1 s2 s3
  obtain ⟨hb1, d0, d1, d2⟩ := k1.box
  have hx1 := k1.lt
  obtain ⟨s0, s1, s2, s3⟩ := k1.st0
  clear k1
  have K2 : Hid (Walk Z S x ({ (m.addDashes [45, 45, 33]) with st := 205 } : Mc) w.heap.size ⟨45, p, q⟩ w (W1.setCell ⟨x, 0, none⟩ (.func (.func 205) #[] #[]))) := K1.out.st 205
  have hb2 := hb1
  have hx2 := hx1
  go_wp2_with fail
  first
    | refine bodyPost_end (results_none rfl _ _ _) rfl ?_
    | refine bodyPost_ret (results_none rfl _ _ _) rfl ?_
  refine ⟨rfl, ?_⟩
  rw [HE.out]
  exact K2.out.post
set_option maxHeartbeats 2000000 in
set_option maxRecDepth 20000 in
theorem comBang_2 {Z : Nat → Prop} {S : Nat → Prop} {x : Nat} {m : Mc} {w : World} (h : Mach Z S x m w) (p q : Int)   (hn : m.tot ≤ 480000000) : Calls Tryz.prog 217 #[mp x, cv ⟨62, p, q⟩] w (Did Z S x (m.comBang ⟨62, p, q⟩) w) := by
  have HE : Hid ((m.comBang ⟨62, p, q⟩) = (m.abrupt ⟨62, p, q⟩)) := by
    show (m.comBang ⟨62, p, q⟩) = (m.abrupt ⟨62, p, q⟩)
    simp [Mc.comBang]
  obtain ⟨W0, hW0, k0⟩ := Walk.start h ⟨62, p, q⟩
  have hxw := h.low
  obtain ⟨hb0, d0, d1, d2⟩ := k0.box
  have hx0 := k0.lt
  have hne : w.heap.size ≠ x := by omega
  obtain ⟨s0, s1, s2, s3⟩ := k0.st0
  have K0 : Hid (Walk Z S x m w.heap.size ⟨62, p, q⟩ w W0) := k0
  clear h k0
  go_enter Tryz.func217, Tryz.ntmps217
  go_wp2_with fail
  refine (K0.out.call (fun U h => abrupt_any h ⟨62, p, q⟩ (by show m.tot ≤ _; omega))).mono ?_
  rintro e W1 ⟨rfl, k1⟩
  have K1 : Hid (Walk Z S x (m.abrupt ⟨62, p, q⟩) w.heap.size ⟨62, p, q⟩ w W1) := k1
  clear hb0 d0 d1 d2 hx0 s0 s1 s2 s3
  obtain ⟨hb1, d0, d1, d2⟩ := k1.box
  have hx1 := k1.lt
  obtain ⟨s0, s1, s2, s3⟩ := k1.st0
  clear k1
  go_wp2_with fail
  first
    | refine bodyPost_end (results_none rfl _ _ _) rfl ?_
    | refine bodyPost_ret (results_none rfl _ _ _) rfl ?_
  refine ⟨rfl, ?_⟩
  rw [HE.out]
  exact K1.out.post
set_option maxHeartbeats 2000000 in
set_option maxRecDepth 20000 in
theorem comBang_3 {Z : Nat → Prop} {S : Nat → Prop} {x : Nat} {m : Mc} {w : World} (h : Mach Z S x m w) (r p q : Int) (h45 : (r == 45) = false) (h62 : (r == 62) = false)  (hn : m.tot ≤ 480000000) : Calls Tryz.prog 217 #[mp x, cv ⟨r, p, q⟩] w (Did Z S x (m.comBang ⟨r, p, q⟩) w) := by
  have HE : Hid ((m.comBang ⟨r, p, q⟩) = (m.commentAgain [45, 45, 33] ⟨r, p, q⟩)) := by
    show (m.comBang ⟨r, p, q⟩) = (m.commentAgain [45, 45, 33] ⟨r, p, q⟩)
    simp at h45 h62; simp [Mc.comBang, h45, h62]
  obtain ⟨W0, hW0, k0⟩ := Walk.start h ⟨r, p, q⟩
  have hxw := h.low
  obtain ⟨hb0, d0, d1, d2⟩ := k0.box
  have hx0 := k0.lt
  have hne : w.heap.size ≠ x := by omega
  obtain ⟨s0, s1, s2, s3⟩ := k0.st0
  have K0 : Hid (Walk Z S x m w.heap.size ⟨r, p, q⟩ w W0) := k0
  clear h k0
  go_enter Tryz.func217, Tryz.ntmps217
  go_wp2_with fail
  refine (K0.out.call (fun U h => commentAgain_1 h r p q ⟨#[45, 45, 33]⟩ (by decide) (by decide) (by show m.tot ≤ _; omega))).mono ?_
  rintro e W1 ⟨rfl, k1⟩
  have K1 : Hid (Walk Z S x (m.commentAgain [45, 45, 33] ⟨r, p, q⟩) w.heap.size ⟨r, p, q⟩ w W1) := k1
  clear hb0 d0 d1 d2 hx0 s0 s1 s2 s3
  obtain ⟨hb1, d0, d1, d2⟩ := k1.box
  have hx1 := k1.lt
  obtain ⟨s0, s1, s2, s3⟩ := k1.st0
  clear k1
  go_wp2_with fail
  first
    | refine bodyPost_end (results_none rfl _ _ _) rfl ?_
    | refine bodyPost_ret (results_none rfl _ _ _) rfl ?_
  refine ⟨rfl, ?_⟩
  rw [HE.out]
  exact K1.out.post
theorem comBang_any {Z : Nat → Prop} {S : Nat → Prop} {x : Nat} {m : Mc} {w : World} (h : Mach Z S x m w) (c : Ch) (hn : m.tot ≤ 480000000) : Calls Tryz.prog 217 #[mp x, cv c] w (Did Z S x (m.comBang c) w) := by
  obtain ⟨r, p, q⟩ := c
  by_cases h45 : r = 45
  · subst h45
    exact comBang_1 h p q hn
  by_cases h62 : r = 62
  · subst h62
    exact comBang_2 h p q hn
  exact comBang_3 h r p q (by simpa using h45) (by simpa using h62) hn
set_option maxHeartbeats 2000000 in
set_option maxRecDepth 20000 in
theorem wrongDoc_any {Z : Nat → Prop} {S : Nat → Prop} {x : Nat} {m : Mc} {w : World} (h : Mach Z S x m w) (at' : Int) (hn : m.tot ≤ 500000000) : Calls Tryz.prog 176 #[mp x, .int .i64 at'] w (Did Z S x (m.wrongDoc at') w) := by
  have HE : Hid ((m.wrongDoc at') = ({ (m.fault 17 at') with self := true } : Mc)) := by
    show (m.wrongDoc at') = ({ (m.fault 17 at') with self := true } : Mc)
    rfl
  have hx0 := h.low
  have p0 := Post.refl h
  obtain ⟨v0, _, cc, ff⟩ := p0.mach
  have s0 := cc 0 _ rfl
  have s1 := ff 0
  have s2 := cc 1 _ rfl
  have s3 := ff 1
  have s4 := cc 12 _ rfl
  have s5 := ff 12
  have P0 : Hid (Post Z S x m w w) := p0
  clear h p0 cc ff
  go_enter Tryz.func176, Tryz.ntmps176
  go_wp2_with fail
  refine (P0.out.call (fun U h => fault_any h 17 at' (by show m.tot ≤ _; omega))).mono ?_
  rintro e W1 ⟨rfl, p1⟩
  clear s0 s1 s2 s3 s4 s5
  obtain ⟨v1, hx1, cc, ff⟩ := p1.mach
  have s0 := cc 0 _ rfl
  have s1 := ff 0
  have s2 := cc 1 _ rfl
  have s3 := ff 1
  have s4 := cc 12 _ rfl
  have s5 := ff 12
  have P1 : Hid (Post Z S x (m.fault 17 at') w W1) := p1
  clear p1 cc ff
  have P2 : Hid (Post Z S x ({ (m.fault 17 at') with self := true } : Mc) w (W1.setCell ⟨x, 12, none⟩ (.bool true))) := P1.out.turn [(12, .bool true)] (fun v => by simp [Mc.cells]) (fun _ _ => rfl) rfl rfl
  go_wp2_with fail
  first
    | refine bodyPost_end (results_none rfl _ _ _) rfl ?_
    | refine bodyPost_ret (results_none rfl _ _ _) rfl ?_
  refine ⟨rfl, ?_⟩
  rw [HE.out]
  exact P2.out
set_option maxHeartbeats 2000000 in
set_option maxRecDepth 20000 in
theorem docName_1 {Z : Nat → Prop} {S : Nat → Prop} {x : Nat} {m : Mc} {w : World} (h : Mach Z S x m w) (r p q : Int) (hbl : blk r = true)  (_hn : m.tot ≤ 500000000) : Calls Tryz.prog 177 #[mp x, cv ⟨r, p, q⟩] w (Did Z S x (m.docName ⟨r, p, q⟩) w) := by
  have HE : Hid ((m.docName ⟨r, p, q⟩) = ({ m with st := 207 } : Mc)) := by
    show (m.docName ⟨r, p, q⟩) = ({ m with st := 207 } : Mc)
    simp [Mc.docName, hbl]
  obtain ⟨W0, hW0, k0⟩ := Walk.start h ⟨r, p, q⟩
  have hxw := h.low
  obtain ⟨hb0, d0, d1, d2⟩ := k0.box
  have hx0 := k0.lt
  have hne : w.heap.size ≠ x := by omega
  obtain ⟨s0, s1, s2, s3⟩ := k0.st0
  have K0 : Hid (Walk Z S x m w.heap.size ⟨r, p, q⟩ w W0) := k0
  clear h k0
  go_enter Tryz.func177, Tryz.ntmps177
  have K1 : Hid (Walk Z S x ({ m with st := 207 } : Mc) w.heap.size ⟨r, p, q⟩ w (W0.setCell ⟨x, 0, none⟩ (.func (.func 207) #[] #[]))) := K0.out.st 207
  have hb1 := hb0
  have hx1 := hx0
  go_wp2_with (first | (go_at_call 150; refine (blank_as (r) true _ hbl).mono ?_; rintro e w' ⟨rfl, hw'⟩; obtain rfl := hw'.symm; clear hw'))
  first
    | refine bodyPost_end (results_none rfl _ _ _) rfl ?_
    | refine bodyPost_ret (results_none rfl _ _ _) rfl ?_
  refine ⟨rfl, ?_⟩
  rw [HE.out]
  exact K1.out.post
set_option maxHeartbeats 2000000 in
set_option maxRecDepth 20000 in
theorem docName_2 {Z : Nat → Prop} {S : Nat → Prop} {x : Nat} {m : Mc} {w : World} (h : Mach Z S x m w) (p q : Int)   (hn : m.tot ≤ 500000000) : Calls Tryz.prog 177 #[mp x, cv ⟨62, p, q⟩] w (Did Z S x (m.docName ⟨62, p, q⟩) w) := by
  have HE : Hid ((m.docName ⟨62, p, q⟩) = (m.tellMade q)) := by
    show (m.docName ⟨62, p, q⟩) = (m.tellMade q)
    simp [Mc.docName, show blk 62 = false from rfl]
  have hbl : blk 62 = false := rfl
  obtain ⟨W0, hW0, k0⟩ := Walk.start h ⟨62, p, q⟩
  have hxw := h.low
  obtain ⟨hb0, d0, d1, d2⟩ := k0.box
  have hx0 := k0.lt
  have hne : w.heap.size ≠ x := by omega
  obtain ⟨s0, s1, s2, s3⟩ := k0.st0
  have K0 : Hid (Walk Z S x m w.heap.size ⟨62, p, q⟩ w W0) := k0
  clear h k0
  go_enter Tryz.func177, Tryz.ntmps177
  go_wp2_with (first | (go_at_call 150; refine (blank_as (62) false _ hbl).mono ?_; rintro e w' ⟨rfl, hw'⟩; obtain rfl := hw'.symm; clear hw'))
  refine (K0.out.call (fun U h => tellMade_any h q (by show m.tot ≤ _; omega))).mono ?_
  rintro e W1 ⟨rfl, k1⟩
  have K1 : Hid (Walk Z S x (m.tellMade q) w.heap.size ⟨62, p, q⟩ w W1) := k1
  clear hb0 d0 d1 d2 hx0 s0 s1 s2 s3
  obtain ⟨hb1, d0, d1, d2⟩ := k1.box
  have hx1 := k1.lt
  obtain ⟨s0, s1, s2, s3⟩ := k1.st0
  clear k1
  go_wp2_with fail
  first
    | refine bodyPost_end (results_none rfl _ _ _) rfl ?_
    | refine bodyPost_ret (results_none rfl _ _ _) rfl ?_
  refine ⟨rfl, ?_⟩
  rw [HE.out]
  exact K1.out.post
set_option maxHeartbeats 2000000 in
set_option maxRecDepth 20000 in
theorem docName_3 {Z : Nat → Prop} {S : Nat → Prop} {x : Nat} {m : Mc} {w : World} (h : Mach Z S x m w) (r p q : Int) (hbl : blk r = false) (h62 : (r == 62) = false)  (hn : m.tot ≤ 500000000) : Calls Tryz.prog 177 #[mp x, cv ⟨r, p, q⟩] w (Did Z S x (m.docName ⟨r, p, q⟩) w) := by
  have HE : Hid ((m.docName ⟨r, p, q⟩) = (m.addName r)) := by
    show (m.docName ⟨r, p, q⟩) = (m.addName r)
    simp at h62; simp [Mc.docName, hbl, h62]
  obtain ⟨W0, hW0, k0⟩ := Walk.start h ⟨r, p, q⟩
  have hxw := h.low
  obtain ⟨hb0, d0, d1, d2⟩ := k0.box
  have hx0 := k0.lt
  have hne : w.heap.size ≠ x := by omega
  obtain ⟨s0, s1, s2, s3⟩ := k0.st0
  have K0 : Hid (Walk Z S x m w.heap.size ⟨r, p, q⟩ w W0) := k0
  clear h k0
  go_enter Tryz.func177, Tryz.ntmps177
  go_wp2_with (first | (go_at_call 150; refine (blank_as (r) false _ hbl).mono ?_; rintro e w' ⟨rfl, hw'⟩; obtain rfl := hw'.symm; clear hw'))
  go_still_tail 5, (show Tryz.prog.follows .mixedOrders = true by kernel_rfl)
  go_wp2_with fail
  refine (K0.out.drew.call (fun U h => addName_any h r (by show m.tot ≤ _; omega))).mono ?_
  rintro e W1 ⟨rfl, k1⟩
  have K1 : Hid (Walk Z S x (m.addName r) w.heap.size ⟨r, p, q⟩ w W1) := k1
  clear hb0 d0 d1 d2 hx0 s0 s1 s2 s3
  obtain ⟨hb1, d0, d1, d2⟩ := k1.box
  have hx1 := k1.lt
  obtain ⟨s0, s1, s2, s3⟩ := k1.st0
  clear k1
  go_wp2_with fail
  first
    | refine bodyPost_end (results_none rfl _ _ _) rfl ?_
    | refine bodyPost_ret (results_none rfl _ _ _) rfl ?_
  refine ⟨rfl, ?_⟩
  rw [HE.out]
  exact K1.out.post
theorem docName_any {Z : Nat → Prop} {S : Nat → Prop} {x : Nat} {m : Mc} {w : World} (h : Mach Z S x m w) (c : Ch) (hn : m.tot ≤ 500000000) : Calls Tryz.prog 177 #[mp x, cv c] w (Did Z S x (m.docName c) w) := by
  obtain ⟨r, p, q⟩ := c
  cases hbl : blk r with
  | true => exact docName_1 h r p q hbl hn
  | false =>
    by_cases h62 : r = 62
    · subst h62
      exact docName_2 h p q hn
    exact docName_3 h r p q hbl (by simpa using h62) hn
set_option maxHeartbeats 2000000 in
set_option maxRecDepth 20000 in
theorem afterDoc_1 {Z : Nat → Prop} {S : Nat → Prop} {x : Nat} {m : Mc} {w : World} (h : Mach Z S x m w) (r p q : Int) (hbl : blk r = true)  (_hn : m.tot ≤ 500000000) : Calls Tryz.prog 207 #[mp x, cv ⟨r, p, q⟩] w (Did Z S x (m.afterDoc ⟨r, p, q⟩) w) := by
  have HE : Hid ((m.afterDoc ⟨r, p, q⟩) = m) := by
    show (m.afterDoc ⟨r, p, q⟩) = m
    simp [Mc.afterDoc, hbl]
  obtain ⟨W0, hW0, k0⟩ := Walk.start h ⟨r, p, q⟩
  have hxw := h.low
  obtain ⟨hb0, d0, d1, d2⟩ := k0.box
  have hx0 := k0.lt
  have hne : w.heap.size ≠ x := by omega
  obtain ⟨s0, s1, s2, s3⟩ := k0.st0
  have K0 : Hid (Walk Z S x m w.heap.size ⟨r, p, q⟩ w W0) := k0
  clear h k0
  go_enter Tryz.func207, Tryz.ntmps207
  go_wp2_with (first | (go_at_call 150; refine (blank_as (r) true _ hbl).mono ?_; rintro e w' ⟨rfl, hw'⟩; obtain rfl := hw'.symm; clear hw'))
  first
    | refine bodyPost_end (results_none rfl _ _ _) rfl ?_
    | refine bodyPost_ret (results_none rfl _ _ _) rfl ?_
  refine ⟨rfl, ?_⟩
  rw [HE.out]
  exact K0.out.post
set_option maxHeartbeats 2000000 in
set_option maxRecDepth 20000 in
theorem afterDoc_2 {Z : Nat → Prop} {S : Nat → Prop} {x : Nat} {m : Mc} {w : World} (h : Mach Z S x m w) (p q : Int)   (hn : m.tot ≤ 500000000) : Calls Tryz.prog 207 #[mp x, cv ⟨62, p, q⟩] w (Did Z S x (m.afterDoc ⟨62, p, q⟩) w) := by
  have HE : Hid ((m.afterDoc ⟨62, p, q⟩) = (m.tellMade q)) := by
    show (m.afterDoc ⟨62, p, q⟩) = (m.tellMade q)
    simp [Mc.afterDoc, show blk 62 = false from rfl]
  have hbl : blk 62 = false := rfl
  obtain ⟨W0, hW0, k0⟩ := Walk.start h ⟨62, p, q⟩
  have hxw := h.low
  obtain ⟨hb0, d0, d1, d2⟩ := k0.box
  have hx0 := k0.lt
  have hne : w.heap.size ≠ x := by omega
  obtain ⟨s0, s1, s2, s3⟩ := k0.st0
  have K0 : Hid (Walk Z S x m w.heap.size ⟨62, p, q⟩ w W0) := k0
  clear h k0
  go_enter Tryz.func207, Tryz.ntmps207
  go_wp2_with (first | (go_at_call 150; refine (blank_as (62) false _ hbl).mono ?_; rintro e w' ⟨rfl, hw'⟩; obtain rfl := hw'.symm; clear hw'))
  refine (K0.out.call (fun U h => tellMade_any h q (by show m.tot ≤ _; omega))).mono ?_
  rintro e W1 ⟨rfl, k1⟩
  have K1 : Hid (Walk Z S x (m.tellMade q) w.heap.size ⟨62, p, q⟩ w W1) := k1
  clear hb0 d0 d1 d2 hx0 s0 s1 s2 s3
  obtain ⟨hb1, d0, d1, d2⟩ := k1.box
  have hx1 := k1.lt
  obtain ⟨s0, s1, s2, s3⟩ := k1.st0
  clear k1
  go_wp2_with fail
  first
    | refine bodyPost_end (results_none rfl _ _ _) rfl ?_
    | refine bodyPost_ret (results_none rfl _ _ _) rfl ?_
  refine ⟨rfl, ?_⟩
  rw [HE.out]
  exact K1.out.post
set_option maxHeartbeats 2000000 in
set_option maxRecDepth 20000 in
theorem afterDoc_3 {Z : Nat → Prop} {S : Nat → Prop} {x : Nat} {m : Mc} {w : World} (h : Mach Z S x m w) (r p q : Int) (hbl : blk r = false) (h62 : (r == 62) = false)  (hn : m.tot ≤ 500000000) : Calls Tryz.prog 207 #[mp x, cv ⟨r, p, q⟩] w (Did Z S x (m.afterDoc ⟨r, p, q⟩) w) := by
  have HE : Hid ((m.afterDoc ⟨r, p, q⟩) = ({ (m.wrongDoc p) with st := 219 } : Mc)) := by
    show (m.afterDoc ⟨r, p, q⟩) = ({ (m.wrongDoc p) with st := 219 } : Mc)
    simp at h62; simp [Mc.afterDoc, hbl, h62]
  obtain ⟨W0, hW0, k0⟩ := Walk.start h ⟨r, p, q⟩
  have hxw := h.low
  obtain ⟨hb0, d0, d1, d2⟩ := k0.box
  have hx0 := k0.lt
  have hne : w.heap.size ≠ x := by omega
  obtain ⟨s0, s1, s2, s3⟩ := k0.st0
  have K0 : Hid (Walk Z S x m w.heap.size ⟨r, p, q⟩ w W0) := k0
  clear h k0
  go_enter Tryz.func207, Tryz.ntmps207
  go_wp2_with (first | (go_at_call 150; refine (blank_as (r) false _ hbl).mono ?_; rintro e w' ⟨rfl, hw'⟩; obtain rfl := hw'.symm; clear hw'))
  refine (K0.out.call (fun U h => wrongDoc_any h p (by show m.tot ≤ _; omega))).mono ?_
  rintro e W1 ⟨rfl, k1⟩
  have K1 : Hid (Walk Z S x (m.wrongDoc p) w.heap.size ⟨r, p, q⟩ w W1) := k1
  clear hb0 d0 d1 d2 hx0 s0 s1 s2 s3
  obtain ⟨hb1, d0, d1, d2⟩ := k1.box
  have hx1 := k1.lt
  obtain ⟨s0, s1, s2, s3⟩ := k1.st0
  clear k1
  have K2 : Hid (Walk Z S x ({ (m.wrongDoc p) with st := 219 } : Mc) w.heap.size ⟨r, p, q⟩ w (W1.setCell ⟨x, 0, none⟩ (.func (.func 219) #[] #[]))) := K1.out.st 219
  have hb2 := hb1
  have hx2 := hx1
  go_wp2_with fail
  first
    | refine bodyPost_end (results_none rfl _ _ _) rfl ?_
    | refine bodyPost_ret (results_none rfl _ _ _) rfl ?_
  refine ⟨rfl, ?_⟩
  rw [HE.out]
  exact K2.out.post
theorem afterDoc_any {Z : Nat → Prop} {S : Nat → Prop} {x : Nat} {m : Mc} {w : World} (h : Mach Z S x m w) (c : Ch) (hn : m.tot ≤ 500000000) : Calls Tryz.prog 207 #[mp x, cv c] w (Did Z S x (m.afterDoc c) w) := by
  obtain ⟨r, p, q⟩ := c
  cases hbl : blk r with
  | true => exact afterDoc_1 h r p q hbl hn
  | false =>
    by_cases h62 : r = 62
    · subst h62
      exact afterDoc_2 h p q hn
    exact afterDoc_3 h r p q hbl (by simpa using h62) hn
set_option maxHeartbeats 2000000 in
set_option maxRecDepth 20000 in
theorem bogusDoc_1 {Z : Nat → Prop} {S : Nat → Prop} {x : Nat} {m : Mc} {w : World} (h : Mach Z S x m w) (p q : Int)   (hn : m.tot ≤ 500000000) : Calls Tryz.prog 219 #[mp x, cv ⟨62, p, q⟩] w (Did Z S x (m.bogusDoc ⟨62, p, q⟩) w) := by
  have HE : Hid ((m.bogusDoc ⟨62, p, q⟩) = (m.tellMade q)) := by
    show (m.bogusDoc ⟨62, p, q⟩) = (m.tellMade q)
    simp [Mc.bogusDoc]
  obtain ⟨W0, hW0, k0⟩ := Walk.start h ⟨62, p, q⟩
  have hxw := h.low
  obtain ⟨hb0, d0, d1, d2⟩ := k0.box
  have hx0 := k0.lt
  have hne : w.heap.size ≠ x := by omega
  obtain ⟨s0, s1, s2, s3⟩ := k0.st0
  have K0 : Hid (Walk Z S x m w.heap.size ⟨62, p, q⟩ w W0) := k0
  clear h k0
  go_enter Tryz.func219, Tryz.ntmps219
  go_wp2_with fail
  refine (K0.out.call (fun U h => tellMade_any h q (by show m.tot ≤ _; omega))).mono ?_
  rintro e W1 ⟨rfl, k1⟩
  have K1 : Hid (Walk Z S x (m.tellMade q) w.heap.size ⟨62, p, q⟩ w W1) := k1
  clear hb0 d0 d1 d2 hx0 s0 s1 s2 s3
  obtain ⟨hb1, d0, d1, d2⟩ := k1.box
  have hx1 := k1.lt
  obtain ⟨s0, s1, s2, s3⟩ := k1.st0
  clear k1
  go_wp2_with fail
  first
    | refine bodyPost_end (results_none rfl _ _ _) rfl ?_
    | refine bodyPost_ret (results_none rfl _ _ _) rfl ?_
  refine ⟨rfl, ?_⟩
  rw [HE.out]
  exact K1.out.post
set_option maxHeartbeats 2000000 in
set_option maxRecDepth 20000 in
theorem bogusDoc_2 {Z : Nat → Prop} {S : Nat → Prop} {x : Nat} {m : Mc} {w : World} (h : Mach Z S x m w) (r p q : Int) (h62 : (r == 62) = false)  (_hn : m.tot ≤ 500000000) : Calls Tryz.prog 219 #[mp x, cv ⟨r, p, q⟩] w (Did Z S x (m.bogusDoc ⟨r, p, q⟩) w) := by
  have HE : Hid ((m.bogusDoc ⟨r, p, q⟩) = m) := by
    show (m.bogusDoc ⟨r, p, q⟩) = m
    simp at h62; simp [Mc.bogusDoc, h62]
  obtain ⟨W0, hW0, k0⟩ := Walk.start h ⟨r, p, q⟩
  have hxw := h.low
  obtain ⟨hb0, d0, d1, d2⟩ := k0.box
  have hx0 := k0.lt
  have hne : w.heap.size ≠ x := by omega
  obtain ⟨s0, s1, s2, s3⟩ := k0.st0
  have K0 : Hid (Walk Z S x m w.heap.size ⟨r, p, q⟩ w W0) := k0
  clear h k0
  go_enter Tryz.func219, Tryz.ntmps219
  go_wp2_with fail
  first
    | refine bodyPost_end (results_none rfl _ _ _) rfl ?_
    | refine bodyPost_ret (results_none rfl _ _ _) rfl ?_
  refine ⟨rfl, ?_⟩
  rw [HE.out]
  exact K0.out.post
theorem bogusDoc_any {Z : Nat → Prop} {S : Nat → Prop} {x : Nat} {m : Mc} {w : World} (h : Mach Z S x m w) (c : Ch) (hn : m.tot ≤ 500000000) : Calls Tryz.prog 219 #[mp x, cv c] w (Did Z S x (m.bogusDoc c) w) := by
  obtain ⟨r, p, q⟩ := c
  by_cases h62 : r = 62
  · subst h62
    exact bogusDoc_1 h p q hn
  exact bogusDoc_2 h r p q (by simpa using h62) hn
set_option maxHeartbeats 2000000 in
set_option maxRecDepth 20000 in
theorem beforeDoc_1 {Z : Nat → Prop} {S : Nat → Prop} {x : Nat} {m : Mc} {w : World} (h : Mach Z S x m w) (r p q : Int) (hbl : blk r = true)  (_hn : m.tot ≤ 490000000) : Calls Tryz.prog 144 #[mp x, cv ⟨r, p, q⟩] w (Did Z S x (m.beforeDoc ⟨r, p, q⟩) w) := by
  have HE : Hid ((m.beforeDoc ⟨r, p, q⟩) = m) := by
    show (m.beforeDoc ⟨r, p, q⟩) = m
    simp [Mc.beforeDoc, hbl]
  obtain ⟨W0, hW0, k0⟩ := Walk.start h ⟨r, p, q⟩
  have hxw := h.low
  obtain ⟨hb0, d0, d1, d2⟩ := k0.box
  have hx0 := k0.lt
  have hne : w.heap.size ≠ x := by omega
  obtain ⟨s0, s1, s2, s3⟩ := k0.st0
  have K0 : Hid (Walk Z S x m w.heap.size ⟨r, p, q⟩ w W0) := k0
  clear h k0
  go_enter Tryz.func144, Tryz.ntmps144
  go_wp2_with (first | (go_at_call 150; refine (blank_as (r) true _ hbl).mono ?_; rintro e w' ⟨rfl, hw'⟩; obtain rfl := hw'.symm; clear hw'))
  first
    | refine bodyPost_end (results_none rfl _ _ _) rfl ?_
    | refine bodyPost_ret (results_none rfl _ _ _) rfl ?_
  refine ⟨rfl, ?_⟩
  rw [HE.out]
  exact K0.out.post
set_option maxHeartbeats 2000000 in
set_option maxRecDepth 20000 in
theorem beforeDoc_2 {Z : Nat → Prop} {S : Nat → Prop} {x : Nat} {m : Mc} {w : World} (h : Mach Z S x m w) (p q : Int)   (hn : m.tot ≤ 490000000) : Calls Tryz.prog 144 #[mp x, cv ⟨62, p, q⟩] w (Did Z S x (m.beforeDoc ⟨62, p, q⟩) w) := by
  have HE : Hid ((m.beforeDoc ⟨62, p, q⟩) = ((m.wrongDoc p).tellMade q)) := by
    show (m.beforeDoc ⟨62, p, q⟩) = ((m.wrongDoc p).tellMade q)
    simp [Mc.beforeDoc, show blk 62 = false from rfl]
  have hbl : blk 62 = false := rfl
  obtain ⟨W0, hW0, k0⟩ := Walk.start h ⟨62, p, q⟩
  have hxw := h.low
  obtain ⟨hb0, d0, d1, d2⟩ := k0.box
  have hx0 := k0.lt
  have hne : w.heap.size ≠ x := by omega
  obtain ⟨s0, s1, s2, s3⟩ := k0.st0
  have K0 : Hid (Walk Z S x m w.heap.size ⟨62, p, q⟩ w W0) := k0
  clear h k0
  go_enter Tryz.func144, Tryz.ntmps144
  go_wp2_with (first | (go_at_call 150; refine (blank_as (62) false _ hbl).mono ?_; rintro e w' ⟨rfl, hw'⟩; obtain rfl := hw'.symm; clear hw'))
  refine (K0.out.call (fun U h => wrongDoc_any h p (by show m.tot ≤ _; omega))).mono ?_
  rintro e W1 ⟨rfl, k1⟩
  have K1 : Hid (Walk Z S x (m.wrongDoc p) w.heap.size ⟨62, p, q⟩ w W1) := k1
  clear hb0 d0 d1 d2 hx0 s0 s1 s2 s3
  obtain ⟨hb1, d0, d1, d2⟩ := k1.box
  have hx1 := k1.lt
  obtain ⟨s0, s1, s2, s3⟩ := k1.st0
  clear k1
  go_wp2_with fail
  refine (K1.out.call (fun U h => tellMade_any h q (by show (m.fault 17 p).tot ≤ _; have t0 := tot_fault m 17 p; omega))).mono ?_
  rintro e W2 ⟨rfl, k2⟩
  have K2 : Hid (Walk Z S x ((m.wrongDoc p).tellMade q) w.heap.size ⟨62, p, q⟩ w W2) := k2
  clear hb1 d0 d1 d2 hx1 s0 s1 s2 s3
  obtain ⟨hb2, d0, d1, d2⟩ := k2.box
  have hx2 := k2.lt
  obtain ⟨s0, s1, s2, s3⟩ := k2.st0
  clear k2
  go_wp2_with fail
  first
    | refine bodyPost_end (results_none rfl _ _ _) rfl ?_
    | refine bodyPost_ret (results_none rfl _ _ _) rfl ?_
  refine ⟨rfl, ?_⟩
  rw [HE.out]
  exact K2.out.post
set_option maxHeartbeats 2000000 in
set_option maxRecDepth 20000 in
theorem beforeDoc_3 {Z : Nat → Prop} {S : Nat → Prop} {x : Nat} {m : Mc} {w : World} (h : Mach Z S x m w) (r p q : Int) (hbl : blk r = false) (h62 : (r == 62) = false)  (hn : m.tot ≤ 490000000) : Calls Tryz.prog 144 #[mp x, cv ⟨r, p, q⟩] w (Did Z S x (m.beforeDoc ⟨r, p, q⟩) w) := by
  have HE : Hid ((m.beforeDoc ⟨r, p, q⟩) = (({ m with st := 177 } : Mc).docName ⟨r, p, q⟩)) := by
    show (m.beforeDoc ⟨r, p, q⟩) = (({ m with st := 177 } : Mc).docName ⟨r, p, q⟩)
    simp at h62; simp [Mc.beforeDoc, hbl, h62]
  obtain ⟨W0, hW0, k0⟩ := Walk.start h ⟨r, p, q⟩
  have hxw := h.low
  obtain ⟨hb0, d0, d1, d2⟩ := k0.box
  have hx0 := k0.lt
  have hne : w.heap.size ≠ x := by omega
  obtain ⟨s0, s1, s2, s3⟩ := k0.st0
  have K0 : Hid (Walk Z S x m w.heap.size ⟨r, p, q⟩ w W0) := k0
  clear h k0
  go_enter Tryz.func144, Tryz.ntmps144
  go_wp2_with (first | (go_at_call 150; refine (blank_as (r) false _ hbl).mono ?_; rintro e w' ⟨rfl, hw'⟩; obtain rfl := hw'.symm; clear hw'))
  refine (K0.out.call (fun U h => again_any 177 en144 h ⟨r, p, q⟩ (fun U W h => docName_any h ⟨r, p, q⟩ (by show m.tot ≤ _; omega)))).mono ?_
  rintro e W1 ⟨rfl, k1⟩
  have K1 : Hid (Walk Z S x (({ m with st := 177 } : Mc).docName ⟨r, p, q⟩) w.heap.size ⟨r, p, q⟩ w W1) := k1
  clear hb0 d0 d1 d2 hx0 s0 s1 s2 s3
  obtain ⟨hb1, d0, d1, d2⟩ := k1.box
  have hx1 := k1.lt
  obtain ⟨s0, s1, s2, s3⟩ := k1.st0
  clear k1
  go_wp2_with fail
  first
    | refine bodyPost_end (results_none rfl _ _ _) rfl ?_
    | refine bodyPost_ret (results_none rfl _ _ _) rfl ?_
  refine ⟨rfl, ?_⟩
  rw [HE.out]
  exact K1.out.post
theorem beforeDoc_any {Z : Nat → Prop} {S : Nat → Prop} {x : Nat} {m : Mc} {w : World} (h : Mach Z S x m w) (c : Ch) (hn : m.tot ≤ 490000000) : Calls Tryz.prog 144 #[mp x, cv c] w (Did Z S x (m.beforeDoc c) w) := by
  obtain ⟨r, p, q⟩ := c
  cases hbl : blk r with
  | true => exact beforeDoc_1 h r p q hbl hn
  | false =>
    by_cases h62 : r = 62
    · subst h62
      exact beforeDoc_2 h p q hn
    exact beforeDoc_3 h r p q hbl (by simpa using h62) hn
set_option maxHeartbeats 2000000 in
set_option maxRecDepth 20000 in
theorem quoted_1 {Z : Nat → Prop} {S : Nat → Prop} {x : Nat} {m : Mc} {w : World} (h : Mach Z S x m w) (sg p q : Int)   (_hn : m.tot ≤ 500000000) : Calls Tryz.prog 224 #[mp x, cv ⟨sg, p, q⟩, .int .i64 sg] w (Did Z S x (m.quoted ⟨sg, p, q⟩ sg) w) := by
  have HE : Hid ((m.quoted ⟨sg, p, q⟩ sg) = ({ m with st := 226 } : Mc)) := by
    show (m.quoted ⟨sg, p, q⟩ sg) = ({ m with st := 226 } : Mc)
    simp [Mc.quoted]
  obtain ⟨W0, hW0, k0⟩ := Walk.start h ⟨sg, p, q⟩
  have hxw := h.low
  obtain ⟨hb0, d0, d1, d2⟩ := k0.box
  have hx0 := k0.lt
  have hne : w.heap.size ≠ x := by omega
  obtain ⟨s0, s1, s2, s3⟩ := k0.st0
  have K0 : Hid (Walk Z S x m w.heap.size ⟨sg, p, q⟩ w W0) := k0
  clear h k0
  go_enter Tryz.func224, Tryz.ntmps224
  have K1 : Hid (Walk Z S x ({ m with st := 226 } : Mc) w.heap.size ⟨sg, p, q⟩ w (W0.setCell ⟨x, 0, none⟩ (.func (.func 226) #[] #[]))) := K0.out.st 226
  have hb1 := hb0
  have hx1 := hx0
  go_wp2_with fail
  first
    | refine bodyPost_end (results_none rfl _ _ _) rfl ?_
    | refine bodyPost_ret (results_none rfl _ _ _) rfl ?_
  refine ⟨rfl, ?_⟩
  rw [HE.out]
  exact K1.out.post
set_option maxHeartbeats 2000000 in
set_option maxRecDepth 20000 in
theorem quoted_2 {Z : Nat → Prop} {S : Nat → Prop} {x : Nat} {m : Mc} {w : World} (h : Mach Z S x m w) (sg p q : Int) (hsg : ((38 : Int) == sg) = false)  (_hn : m.tot ≤ 500000000) : Calls Tryz.prog 224 #[mp x, cv ⟨38, p, q⟩, .int .i64 sg] w (Did Z S x (m.quoted ⟨38, p, q⟩ sg) w) := by
  have HE : Hid ((m.quoted ⟨38, p, q⟩ sg) = ({ m with ref := [⟨38, p, q⟩] } : Mc)) := by
    show (m.quoted ⟨38, p, q⟩ sg) = ({ m with ref := [⟨38, p, q⟩] } : Mc)
    simp at hsg; simp [Mc.quoted, hsg]
  obtain ⟨W0, hW0, k0⟩ := Walk.start h ⟨38, p, q⟩
  have hxw := h.low
  obtain ⟨hb0, d0, d1, d2⟩ := k0.box
  have hx0 := k0.lt
  have hne : w.heap.size ≠ x := by omega
  obtain ⟨s0, s1, s2, s3⟩ := k0.st0
  have K0 : Hid (Walk Z S x m w.heap.size ⟨38, p, q⟩ w W0) := k0
  clear h k0
  go_enter Tryz.func224, Tryz.ntmps224
  have hV0 : ∃ V, W0.alloc (.cells #[.int .i64 38, .int .i64 p, .int .i64 q] 44) = V := ⟨_, rfl⟩
  obtain ⟨V, hV⟩ := hV0
  obtain ⟨⟨u6, r6⟩, g6, hxV, kV⟩ := Walk.ref K0.out hV
  have K1 : Hid (Walk Z S x ({ m with ref := [⟨38, p, q⟩] } : Mc) w.heap.size ⟨38, p, q⟩ w (V.setCell ⟨x, 6, none⟩ (.slice (some ⟨W0.heap.size, 0, none⟩) 1 1))) := kV
  clear kV
  go_wp2_with fail
  first
    | refine bodyPost_end (results_none rfl _ _ _) rfl ?_
    | refine bodyPost_ret (results_none rfl _ _ _) rfl ?_
  refine ⟨rfl, ?_⟩
  rw [HE.out]
  exact K1.out.post
set_option maxHeartbeats 2000000 in
set_option maxRecDepth 20000 in
theorem quoted_3 {Z : Nat → Prop} {S : Nat → Prop} {x : Nat} {m : Mc} {w : World} (h : Mach Z S x m w) (sg r p q : Int) (hsg : (r == sg) = false) (h38 : (r == 38) = false)  (hn : m.tot ≤ 500000000) : Calls Tryz.prog 224 #[mp x, cv ⟨r, p, q⟩, .int .i64 sg] w (Did Z S x (m.quoted ⟨r, p, q⟩ sg) w) := by
  have HE : Hid ((m.quoted ⟨r, p, q⟩ sg) = (m.addValue r)) := by
    show (m.quoted ⟨r, p, q⟩ sg) = (m.addValue r)
    simp at hsg h38; simp [Mc.quoted, hsg, h38]
  obtain ⟨W0, hW0, k0⟩ := Walk.start h ⟨r, p, q⟩
  have hxw := h.low
  obtain ⟨hb0, d0, d1, d2⟩ := k0.box
  have hx0 := k0.lt
  have hne : w.heap.size ≠ x := by omega
  obtain ⟨s0, s1, s2, s3⟩ := k0.st0
  have K0 : Hid (Walk Z S x m w.heap.size ⟨r, p, q⟩ w W0) := k0
  clear h k0
  go_enter Tryz.func224, Tryz.ntmps224
  go_wp2_with fail
  go_still_tail 5, (show Tryz.prog.follows .mixedOrders = true by kernel_rfl)
  go_wp2_with fail
  refine (K0.out.drew.call (fun U h => addValue_any h r (by show m.tot ≤ _; omega))).mono ?_
  rintro e W1 ⟨rfl, k1⟩
  have K1 : Hid (Walk Z S x (m.addValue r) w.heap.size ⟨r, p, q⟩ w W1) := k1
  clear hb0 d0 d1 d2 hx0 s0 s1 s2 s3
  obtain ⟨hb1, d0, d1, d2⟩ := k1.box
  have hx1 := k1.lt
  obtain ⟨s0, s1, s2, s3⟩ := k1.st0
  clear k1
  go_wp2_with fail
  first
    | refine bodyPost_end (results_none rfl _ _ _) rfl ?_
    | refine bodyPost_ret (results_none rfl _ _ _) rfl ?_
  refine ⟨rfl, ?_⟩
  rw [HE.out]
  exact K1.out.post
theorem quoted_any {Z : Nat → Prop} {S : Nat → Prop} {x : Nat} {m : Mc} {w : World} (h : Mach Z S x m w) (c : Ch) (sg : Int) (hn : m.tot ≤ 500000000) : Calls Tryz.prog 224 #[mp x, cv c, .int .i64 sg] w (Did Z S x (m.quoted c sg) w) := by
  obtain ⟨r, p, q⟩ := c
  by_cases h1 : r = sg
  · subst h1
    exact quoted_1 h r p q hn
  by_cases h2 : r = 38
  · subst h2
    exact quoted_2 h sg p q (by simpa using h1) hn
  exact quoted_3 h sg r p q (by simpa using h1) (by simpa using h2) hn
set_option maxHeartbeats 2000000 in
set_option maxRecDepth 20000 in
theorem double_1 {Z : Nat → Prop} {S : Nat → Prop} {x : Nat} {m : Mc} {w : World} (h : Mach Z S x m w) (r p q : Int)   (hn : m.tot ≤ 490000000) : Calls Tryz.prog 220 #[mp x, cv ⟨r, p, q⟩] w (Did Z S x (m.quoted ⟨r, p, q⟩ 34) w) := by
  obtain ⟨W0, hW0, k0⟩ := Walk.start h ⟨r, p, q⟩
  have hxw := h.low
  obtain ⟨hb0, d0, d1, d2⟩ := k0.box
  have hx0 := k0.lt
  have hne : w.heap.size ≠ x := by omega
  obtain ⟨s0, s1, s2, s3⟩ := k0.st0
  have K0 : Hid (Walk Z S x m w.heap.size ⟨r, p, q⟩ w W0) := k0
  clear h k0
  go_enter Tryz.func220, Tryz.ntmps220
  go_wp2_with fail
  refine (K0.out.call (fun U h => quoted_any h ⟨r, p, q⟩ 34 (by show m.tot ≤ _; omega))).mono ?_
  rintro e W1 ⟨rfl, k1⟩
  have K1 : Hid (Walk Z S x (m.quoted ⟨r, p, q⟩ 34) w.heap.size ⟨r, p, q⟩ w W1) := k1
  clear hb0 d0 d1 d2 hx0 s0 s1 s2 s3
  obtain ⟨hb1, d0, d1, d2⟩ := k1.box
  have hx1 := k1.lt
  obtain ⟨s0, s1, s2, s3⟩ := k1.st0
  clear k1
  go_wp2_with fail
  first
    | refine bodyPost_end (results_none rfl _ _ _) rfl ?_
    | refine bodyPost_ret (results_none rfl _ _ _) rfl ?_
  refine ⟨rfl, ?_⟩
  exact K1.out.post
set_option maxHeartbeats 2000000 in
set_option maxRecDepth 20000 in
theorem single_1 {Z : Nat → Prop} {S : Nat → Prop} {x : Nat} {m : Mc} {w : World} (h : Mach Z S x m w) (r p q : Int)   (hn : m.tot ≤ 490000000) : Calls Tryz.prog 221 #[mp x, cv ⟨r, p, q⟩] w (Did Z S x (m.quoted ⟨r, p, q⟩ 39) w) := by
  obtain ⟨W0, hW0, k0⟩ := Walk.start h ⟨r, p, q⟩
  have hxw := h.low
  obtain ⟨hb0, d0, d1, d2⟩ := k0.box
  have hx0 := k0.lt
  have hne : w.heap.size ≠ x := by omega
  obtain ⟨s0, s1, s2, s3⟩ := k0.st0
  have K0 : Hid (Walk Z S x m w.heap.size ⟨r, p, q⟩ w W0) := k0
  clear h k0
  go_enter Tryz.func221, Tryz.ntmps221
  go_wp2_with fail
  refine (K0.out.call (fun U h => quoted_any h ⟨r, p, q⟩ 39 (by show m.tot ≤ _; omega))).mono ?_
  rintro e W1 ⟨rfl, k1⟩
  have K1 : Hid (Walk Z S x (m.quoted ⟨r, p, q⟩ 39) w.heap.size ⟨r, p, q⟩ w W1) := k1
  clear hb0 d0 d1 d2 hx0 s0 s1 s2 s3
  obtain ⟨hb1, d0, d1, d2⟩ := k1.box
  have hx1 := k1.lt
  obtain ⟨s0, s1, s2, s3⟩ := k1.st0
  clear k1
  go_wp2_with fail
  first
    | refine bodyPost_end (results_none rfl _ _ _) rfl ?_
    | refine bodyPost_ret (results_none rfl _ _ _) rfl ?_
  refine ⟨rfl, ?_⟩
  exact K1.out.post
end Go.Proofs.YtdiealijjhfhjaaGreatDoor
namespace Go.Proofs.YtdiealijjhfhjaaGreatDoor
open Go.RowKit Go.Maps
theorem en113 : Enters 145 := enters_of Tryz.func145 (by kernel_rfl) rfl
set_option maxHeartbeats 2000000 in
set_option maxRecDepth 20000 in
theorem data_r0 {Z : Nat → Prop} {S : Nat → Prop} {x : Nat} {m : Mc} {w : World} (h : Mach Z S x m w) (p q : Int) (ht : m.text = 0)  (_hn : m.tot ≤ 500000000) : Calls Tryz.prog 46 #[mp x, cv ⟨38, p, q⟩] w (Did Z S x (m.data ⟨38, p, q⟩) w) := by
  have HE : Hid ((m.data ⟨38, p, q⟩) = ({ m with ref := [⟨38, p, q⟩] } : Mc)) := by
    show (m.data ⟨38, p, q⟩) = ({ m with ref := [⟨38, p, q⟩] } : Mc)
    simp [Mc.data, ht]
  obtain ⟨W0, hW0, k0⟩ := Walk.start h ⟨38, p, q⟩
  have hxw := h.low
  obtain ⟨hb0, d0, d1, d2⟩ := k0.box
  have hx0 := k0.lt
  have hne : w.heap.size ≠ x := by omega
  obtain ⟨s0, s1, s2, s3⟩ := k0.st0
  have c2 : W0.cell? ⟨x, 2, none⟩ = some (.int .i64 0) := by rw [← ht]; exact k0.txt.1
  have K0 : Hid (Walk Z S x m w.heap.size ⟨38, p, q⟩ w W0) := k0
  clear h k0
  go_enter Tryz.func46, Tryz.ntmps46
  have hV0 : ∃ V, W0.alloc (.cells #[.int .i64 38, .int .i64 p, .int .i64 q] 44) = V := ⟨_, rfl⟩
  obtain ⟨V, hV⟩ := hV0
  obtain ⟨⟨u6, r6⟩, g6, hxV, kV⟩ := Walk.ref K0.out hV
  have K1 : Hid (Walk Z S x ({ m with ref := [⟨38, p, q⟩] } : Mc) w.heap.size ⟨38, p, q⟩ w (V.setCell ⟨x, 6, none⟩ (.slice (some ⟨W0.heap.size, 0, none⟩) 1 1))) := kV
  clear kV
  go_wp2_with fail
  first
    | refine bodyPost_end (results_none rfl _ _ _) rfl ?_
    | refine bodyPost_ret (results_none rfl _ _ _) rfl ?_
  refine ⟨rfl, ?_⟩
  rw [HE.out]
  exact K1.out.post
set_option maxHeartbeats 2000000 in
set_option maxRecDepth 20000 in
theorem data_r1 {Z : Nat → Prop} {S : Nat → Prop} {x : Nat} {m : Mc} {w : World} (h : Mach Z S x m w) (p q : Int) (ht : m.text = 1)  (_hn : m.tot ≤ 500000000) : Calls Tryz.prog 46 #[mp x, cv ⟨38, p, q⟩] w (Did Z S x (m.data ⟨38, p, q⟩) w) := by
  have HE : Hid ((m.data ⟨38, p, q⟩) = ({ m with ref := [⟨38, p, q⟩] } : Mc)) := by
    show (m.data ⟨38, p, q⟩) = ({ m with ref := [⟨38, p, q⟩] } : Mc)
    simp [Mc.data, ht]
  obtain ⟨W0, hW0, k0⟩ := Walk.start h ⟨38, p, q⟩
  have hxw := h.low
  obtain ⟨hb0, d0, d1, d2⟩ := k0.box
  have hx0 := k0.lt
  have hne : w.heap.size ≠ x := by omega
  obtain ⟨s0, s1, s2, s3⟩ := k0.st0
  have c2 : W0.cell? ⟨x, 2, none⟩ = some (.int .i64 1) := by rw [← ht]; exact k0.txt.1
  have K0 : Hid (Walk Z S x m w.heap.size ⟨38, p, q⟩ w W0) := k0
  clear h k0
  go_enter Tryz.func46, Tryz.ntmps46
  have hV0 : ∃ V, W0.alloc (.cells #[.int .i64 38, .int .i64 p, .int .i64 q] 44) = V := ⟨_, rfl⟩
  obtain ⟨V, hV⟩ := hV0
  obtain ⟨⟨u6, r6⟩, g6, hxV, kV⟩ := Walk.ref K0.out hV
  have K1 : Hid (Walk Z S x ({ m with ref := [⟨38, p, q⟩] } : Mc) w.heap.size ⟨38, p, q⟩ w (V.setCell ⟨x, 6, none⟩ (.slice (some ⟨W0.heap.size, 0, none⟩) 1 1))) := kV
  clear kV
  go_wp2_with fail
  first
    | refine bodyPost_end (results_none rfl _ _ _) rfl ?_
    | refine bodyPost_ret (results_none rfl _ _ _) rfl ?_
  refine ⟨rfl, ?_⟩
  rw [HE.out]
  exact K1.out.post
set_option maxHeartbeats 2000000 in
set_option maxRecDepth 20000 in
theorem data_t0 {Z : Nat → Prop} {S : Nat → Prop} {x : Nat} {m : Mc} {w : World} (h : Mach Z S x m w) (p q : Int) (ht : m.text = 0)  (hn : m.tot ≤ 500000000) : Calls Tryz.prog 46 #[mp x, cv ⟨60, p, q⟩] w (Did Z S x (m.data ⟨60, p, q⟩) w) := by
  have HE : Hid ((m.data ⟨60, p, q⟩) = ({ (m.hold ⟨60, p, q⟩) with st := 71, en := 72 } : Mc)) := by
    show (m.data ⟨60, p, q⟩) = ({ (m.hold ⟨60, p, q⟩) with st := 71, en := 72 } : Mc)
    simp [Mc.data, ht]
  obtain ⟨W0, hW0, k0⟩ := Walk.start h ⟨60, p, q⟩
  have hxw := h.low
  obtain ⟨hb0, d0, d1, d2⟩ := k0.box
  have hx0 := k0.lt
  have hne : w.heap.size ≠ x := by omega
  obtain ⟨s0, s1, s2, s3⟩ := k0.st0
  have c2 : W0.cell? ⟨x, 2, none⟩ = some (.int .i64 0) := by rw [← ht]; exact k0.txt.1
  have K0 : Hid (Walk Z S x m w.heap.size ⟨60, p, q⟩ w W0) := k0
  clear h k0
  go_enter Tryz.func46, Tryz.ntmps46
  go_wp2_with fail
  refine (K0.out.call (fun U h => hold_any h ⟨60, p, q⟩ (by show m.tot ≤ _; omega))).mono ?_
  rintro e W1 ⟨rfl, k1⟩
  have K1 : Hid (Walk Z S x (m.hold ⟨60, p, q⟩) w.heap.size ⟨60, p, q⟩ w W1) := k1
  clear hb0 d0 d1 d2 hx0 s0 s1 s2 s3
  obtain ⟨hb1, d0, d1, d2⟩ := k1.box
  have hx1 := k1.lt
  obtain ⟨s0, s1, s2, s3⟩ := k1.st0
  clear k1
  have K2 : Hid (Walk Z S x ({ (m.hold ⟨60, p, q⟩) with st := 71 } : Mc) w.heap.size ⟨60, p, q⟩ w (W1.setCell ⟨x, 0, none⟩ (.func (.func 71) #[] #[]))) := K1.out.st 71
  have hb2 := hb1
  have hx2 := hx1
  have K3 : Hid (Walk Z S x ({ (m.hold ⟨60, p, q⟩) with st := 71, en := 72 } : Mc) w.heap.size ⟨60, p, q⟩ w ((W1.setCell ⟨x, 0, none⟩ (.func (.func 71) #[] #[])).setCell ⟨x, 1, none⟩ (.func (.func 72) #[] #[]))) := K2.out.en 72
  have hb3 := hb2
  have hx3 := hx2
  go_wp2_with fail
  first
    | refine bodyPost_end (results_none rfl _ _ _) rfl ?_
    | refine bodyPost_ret (results_none rfl _ _ _) rfl ?_
  refine ⟨rfl, ?_⟩
  rw [HE.out]
  exact K3.out.post
set_option maxHeartbeats 2000000 in
set_option maxRecDepth 20000 in
theorem data_t1 {Z : Nat → Prop} {S : Nat → Prop} {x : Nat} {m : Mc} {w : World} (h : Mach Z S x m w) (p q : Int) (ht0 : m.text ≠ 0) (ht3 : m.text ≠ 3)  (hn : m.tot ≤ 500000000) : Calls Tryz.prog 46 #[mp x, cv ⟨60, p, q⟩] w (Did Z S x (m.data ⟨60, p, q⟩) w) := by
  have HE : Hid ((m.data ⟨60, p, q⟩) = ({ (m.hold ⟨60, p, q⟩) with st := 73 } : Mc)) := by
    show (m.data ⟨60, p, q⟩) = ({ (m.hold ⟨60, p, q⟩) with st := 73 } : Mc)
    simp [Mc.data, ht0, ht3]
  obtain ⟨W0, hW0, k0⟩ := Walk.start h ⟨60, p, q⟩
  have hxw := h.low
  obtain ⟨hb0, d0, d1, d2⟩ := k0.box
  have hx0 := k0.lt
  have hne : w.heap.size ≠ x := by omega
  obtain ⟨s0, s1, s2, s3⟩ := k0.st0
  obtain ⟨tx, htx⟩ : ∃ tx, m.text = tx := ⟨_, rfl⟩
  have c2 : W0.cell? ⟨x, 2, none⟩ = some (.int .i64 tx) := by rw [← htx]; exact k0.txt.1
  have e0 : (tx == 0) = false := by rw [← htx]; simpa using ht0
  have e3 : (tx == 3) = false := by rw [← htx]; simpa using ht3
  clear htx ht0 ht3
  have K0 : Hid (Walk Z S x m w.heap.size ⟨60, p, q⟩ w W0) := k0
  clear h k0
  go_enter Tryz.func46, Tryz.ntmps46
  go_wp2_with fail
  refine (K0.out.call (fun U h => hold_any h ⟨60, p, q⟩ (by show m.tot ≤ _; omega))).mono ?_
  rintro e W1 ⟨rfl, k1⟩
  have K1 : Hid (Walk Z S x (m.hold ⟨60, p, q⟩) w.heap.size ⟨60, p, q⟩ w W1) := k1
  clear hb0 d0 d1 d2 hx0 s0 s1 s2 s3
  obtain ⟨hb1, d0, d1, d2⟩ := k1.box
  have hx1 := k1.lt
  obtain ⟨s0, s1, s2, s3⟩ := k1.st0
  clear k1
  have K2 : Hid (Walk Z S x ({ (m.hold ⟨60, p, q⟩) with st := 73 } : Mc) w.heap.size ⟨60, p, q⟩ w (W1.setCell ⟨x, 0, none⟩ (.func (.func 73) #[] #[]))) := K1.out.st 73
  have hb2 := hb1
  have hx2 := hx1
  go_wp2_with fail
  first
    | refine bodyPost_end (results_none rfl _ _ _) rfl ?_
    | refine bodyPost_ret (results_none rfl _ _ _) rfl ?_
  refine ⟨rfl, ?_⟩
  rw [HE.out]
  exact K2.out.post
set_option maxHeartbeats 2000000 in
set_option maxRecDepth 20000 in
theorem data_t3 {Z : Nat → Prop} {S : Nat → Prop} {x : Nat} {m : Mc} {w : World} (h : Mach Z S x m w) (p q : Int) (ht : m.text = 3)  (hn : m.tot ≤ 500000000) : Calls Tryz.prog 46 #[mp x, cv ⟨60, p, q⟩] w (Did Z S x (m.data ⟨60, p, q⟩) w) := by
  have HE : Hid ((m.data ⟨60, p, q⟩) = (m.tellChar ⟨60, p, q⟩)) := by
    show (m.data ⟨60, p, q⟩) = (m.tellChar ⟨60, p, q⟩)
    simp [Mc.data, ht]
  obtain ⟨W0, hW0, k0⟩ := Walk.start h ⟨60, p, q⟩
  have hxw := h.low
  obtain ⟨hb0, d0, d1, d2⟩ := k0.box
  have hx0 := k0.lt
  have hne : w.heap.size ≠ x := by omega
  obtain ⟨s0, s1, s2, s3⟩ := k0.st0
  have c2 : W0.cell? ⟨x, 2, none⟩ = some (.int .i64 3) := by rw [← ht]; exact k0.txt.1
  have K0 : Hid (Walk Z S x m w.heap.size ⟨60, p, q⟩ w W0) := k0
  clear h k0
  go_enter Tryz.func46, Tryz.ntmps46
  go_wp2_with fail
  refine (K0.out.call (fun U h => tellChar_any h ⟨60, p, q⟩ (by show m.tot ≤ _; omega))).mono ?_
  rintro e W1 ⟨rfl, k1⟩
  have K1 : Hid (Walk Z S x (m.tellChar ⟨60, p, q⟩) w.heap.size ⟨60, p, q⟩ w W1) := k1
  clear hb0 d0 d1 d2 hx0 s0 s1 s2 s3
  obtain ⟨hb1, d0, d1, d2⟩ := k1.box
  have hx1 := k1.lt
  obtain ⟨s0, s1, s2, s3⟩ := k1.st0
  clear k1
  go_wp2_with fail
  first
    | refine bodyPost_end (results_none rfl _ _ _) rfl ?_
    | refine bodyPost_ret (results_none rfl _ _ _) rfl ?_
  refine ⟨rfl, ?_⟩
  rw [HE.out]
  exact K1.out.post
set_option maxHeartbeats 2000000 in
set_option maxRecDepth 20000 in
theorem data_n {Z : Nat → Prop} {S : Nat → Prop} {x : Nat} {m : Mc} {w : World} (h : Mach Z S x m w) (p q : Int) (ht0 : m.text ≠ 0) (ht1 : m.text ≠ 1)  (hn : m.tot ≤ 500000000) : Calls Tryz.prog 46 #[mp x, cv ⟨38, p, q⟩] w (Did Z S x (m.data ⟨38, p, q⟩) w) := by
  have HE : Hid ((m.data ⟨38, p, q⟩) = (m.tellChar ⟨38, p, q⟩)) := by
    show (m.data ⟨38, p, q⟩) = (m.tellChar ⟨38, p, q⟩)
    simp [Mc.data, ht0, ht1]
  obtain ⟨W0, hW0, k0⟩ := Walk.start h ⟨38, p, q⟩
  have hxw := h.low
  obtain ⟨hb0, d0, d1, d2⟩ := k0.box
  have hx0 := k0.lt
  have hne : w.heap.size ≠ x := by omega
  obtain ⟨s0, s1, s2, s3⟩ := k0.st0
  obtain ⟨tx, htx⟩ : ∃ tx, m.text = tx := ⟨_, rfl⟩
  have c2 : W0.cell? ⟨x, 2, none⟩ = some (.int .i64 tx) := by rw [← htx]; exact k0.txt.1
  have e0 : (tx == 0) = false := by rw [← htx]; simpa using ht0
  have e1 : (tx == 1) = false := by rw [← htx]; simpa using ht1
  clear htx ht0 ht1
  have K0 : Hid (Walk Z S x m w.heap.size ⟨38, p, q⟩ w W0) := k0
  clear h k0
  go_enter Tryz.func46, Tryz.ntmps46
  go_wp2_with fail
  refine (K0.out.call (fun U h => tellChar_any h ⟨38, p, q⟩ (by show m.tot ≤ _; omega))).mono ?_
  rintro e W1 ⟨rfl, k1⟩
  have K1 : Hid (Walk Z S x (m.tellChar ⟨38, p, q⟩) w.heap.size ⟨38, p, q⟩ w W1) := k1
  clear hb0 d0 d1 d2 hx0 s0 s1 s2 s3
  obtain ⟨hb1, d0, d1, d2⟩ := k1.box
  have hx1 := k1.lt
  obtain ⟨s0, s1, s2, s3⟩ := k1.st0
  clear k1
  go_wp2_with fail
  first
    | refine bodyPost_end (results_none rfl _ _ _) rfl ?_
    | refine bodyPost_ret (results_none rfl _ _ _) rfl ?_
  refine ⟨rfl, ?_⟩
  rw [HE.out]
  exact K1.out.post
set_option maxHeartbeats 2000000 in
set_option maxRecDepth 20000 in
theorem data_e {Z : Nat → Prop} {S : Nat → Prop} {x : Nat} {m : Mc} {w : World} (h : Mach Z S x m w) (r p q : Int) (h38 : (r == 38) = false) (h60 : (r == 60) = false)  (hn : m.tot ≤ 500000000) : Calls Tryz.prog 46 #[mp x, cv ⟨r, p, q⟩] w (Did Z S x (m.data ⟨r, p, q⟩) w) := by
  have HE : Hid ((m.data ⟨r, p, q⟩) = (m.tellChar ⟨r, p, q⟩)) := by
    show (m.data ⟨r, p, q⟩) = (m.tellChar ⟨r, p, q⟩)
    simp at h38 h60; simp [Mc.data, h38, h60]
  obtain ⟨W0, hW0, k0⟩ := Walk.start h ⟨r, p, q⟩
  have hxw := h.low
  obtain ⟨hb0, d0, d1, d2⟩ := k0.box
  have hx0 := k0.lt
  have hne : w.heap.size ≠ x := by omega
  obtain ⟨s0, s1, s2, s3⟩ := k0.st0
  have K0 : Hid (Walk Z S x m w.heap.size ⟨r, p, q⟩ w W0) := k0
  clear h k0
  go_enter Tryz.func46, Tryz.ntmps46
  go_wp2_with fail
  refine (K0.out.call (fun U h => tellChar_any h ⟨r, p, q⟩ (by show m.tot ≤ _; omega))).mono ?_
  rintro e W1 ⟨rfl, k1⟩
  have K1 : Hid (Walk Z S x (m.tellChar ⟨r, p, q⟩) w.heap.size ⟨r, p, q⟩ w W1) := k1
  clear hb0 d0 d1 d2 hx0 s0 s1 s2 s3
  obtain ⟨hb1, d0, d1, d2⟩ := k1.box
  have hx1 := k1.lt
  obtain ⟨s0, s1, s2, s3⟩ := k1.st0
  clear k1
  go_wp2_with fail
  first
    | refine bodyPost_end (results_none rfl _ _ _) rfl ?_
    | refine bodyPost_ret (results_none rfl _ _ _) rfl ?_
  refine ⟨rfl, ?_⟩
  rw [HE.out]
  exact K1.out.post
theorem data_any {Z : Nat → Prop} {S : Nat → Prop} {x : Nat} {m : Mc} {w : World} (h : Mach Z S x m w) (c : Ch) (hn : m.tot ≤ 500000000) : Calls Tryz.prog 46 #[mp x, cv c] w (Did Z S x (m.data c) w) := by
  obtain ⟨r, p, q⟩ := c
  by_cases h38 : r = 38
  · subst h38
    by_cases h0 : m.text = 0
    · exact data_r0 h p q h0 hn
    by_cases h1 : m.text = 1
    · exact data_r1 h p q h1 hn
    exact data_n h p q h0 h1 hn
  by_cases h60 : r = 60
  · subst h60
    by_cases h0 : m.text = 0
    · exact data_t0 h p q h0 hn
    by_cases h3 : m.text = 3
    · exact data_t3 h p q h3 hn
    exact data_t1 h p q h0 h3 hn
  exact data_e h r p q (by simpa using h38) (by simpa using h60) hn
set_option maxHeartbeats 2000000 in
set_option maxRecDepth 20000 in
theorem dataAgain_1 {Z : Nat → Prop} {S : Nat → Prop} {x : Nat} {m : Mc} {w : World} (h : Mach Z S x m w) (r p q : Int)   (hn : m.tot ≤ 490000000) : Calls Tryz.prog 110 #[mp x, cv ⟨r, p, q⟩] w (Did Z S x (m.dataAgain ⟨r, p, q⟩) w) := by
  have HE : Hid ((m.dataAgain ⟨r, p, q⟩) = (m.release.toData.data ⟨r, p, q⟩)) := by
    show (m.dataAgain ⟨r, p, q⟩) = (m.release.toData.data ⟨r, p, q⟩)
    rfl
  obtain ⟨W0, hW0, k0⟩ := Walk.start h ⟨r, p, q⟩
  have hxw := h.low
  obtain ⟨hb0, d0, d1, d2⟩ := k0.box
  have hx0 := k0.lt
  have hne : w.heap.size ≠ x := by omega
  obtain ⟨s0, s1, s2, s3⟩ := k0.st0
  have K0 : Hid (Walk Z S x m w.heap.size ⟨r, p, q⟩ w W0) := k0
  clear h k0
  go_enter Tryz.func110, Tryz.ntmps110
  go_wp2_with fail
  refine (K0.out.call (fun U h => release_any h (by show m.tot ≤ _; omega))).mono ?_
  rintro e W1 ⟨rfl, k1⟩
  have K1 : Hid (Walk Z S x m.release w.heap.size ⟨r, p, q⟩ w W1) := k1
  clear hb0 d0 d1 d2 hx0 s0 s1 s2 s3
  obtain ⟨hb1, d0, d1, d2⟩ := k1.box
  have hx1 := k1.lt
  obtain ⟨s0, s1, s2, s3⟩ := k1.st0
  clear k1
  go_wp2_with fail
  refine (K1.out.call (fun U h => toData_any h)).mono ?_
  rintro e W2 ⟨rfl, k2⟩
  have K2 : Hid (Walk Z S x m.release.toData w.heap.size ⟨r, p, q⟩ w W2) := k2
  clear hb1 d0 d1 d2 hx1 s0 s1 s2 s3
  obtain ⟨hb2, d0, d1, d2⟩ := k2.box
  have hx2 := k2.lt
  obtain ⟨s0, s1, s2, s3⟩ := k2.st0
  clear k2
  go_wp2_with fail
  refine (K2.out.call (fun U h => data_any h ⟨r, p, q⟩ (by show m.release.toData.tot ≤ _; have t0 := tot_release m; have t1 := tot_toData m.release; omega))).mono ?_
  rintro e W3 ⟨rfl, k3⟩
  have K3 : Hid (Walk Z S x (m.release.toData.data ⟨r, p, q⟩) w.heap.size ⟨r, p, q⟩ w W3) := k3
  clear hb2 d0 d1 d2 hx2 s0 s1 s2 s3
  obtain ⟨hb3, d0, d1, d2⟩ := k3.box
  have hx3 := k3.lt
  obtain ⟨s0, s1, s2, s3⟩ := k3.st0
  clear k3
  go_wp2_with fail
  first
    | refine bodyPost_end (results_none rfl _ _ _) rfl ?_
    | refine bodyPost_ret (results_none rfl _ _ _) rfl ?_
  refine ⟨rfl, ?_⟩
  rw [HE.out]
  exact K3.out.post
theorem dataAgain_any {Z : Nat → Prop} {S : Nat → Prop} {x : Nat} {m : Mc} {w : World} (h : Mach Z S x m w) (c : Ch) (hn : m.tot ≤ 490000000) : Calls Tryz.prog 110 #[mp x, cv c] w (Did Z S x (m.dataAgain c) w) := by
  obtain ⟨r, p, q⟩ := c
  exact dataAgain_1 h r p q hn
set_option maxHeartbeats 2000000 in
set_option maxRecDepth 20000 in
theorem cdata_1 {Z : Nat → Prop} {S : Nat → Prop} {x : Nat} {m : Mc} {w : World} (h : Mach Z S x m w) (p q : Int)   (hn : m.tot ≤ 500000000) : Calls Tryz.prog 145 #[mp x, cv ⟨93, p, q⟩] w (Did Z S x (m.cdata ⟨93, p, q⟩) w) := by
  have HE : Hid ((m.cdata ⟨93, p, q⟩) = ({ (m.hold ⟨93, p, q⟩) with st := 178 } : Mc)) := by
    show (m.cdata ⟨93, p, q⟩) = ({ (m.hold ⟨93, p, q⟩) with st := 178 } : Mc)
    simp [Mc.cdata]
  obtain ⟨W0, hW0, k0⟩ := Walk.start h ⟨93, p, q⟩
  have hxw := h.low
  obtain ⟨hb0, d0, d1, d2⟩ := k0.box
  have hx0 := k0.lt
  have hne : w.heap.size ≠ x := by omega
  obtain ⟨s0, s1, s2, s3⟩ := k0.st0
  have K0 : Hid (Walk Z S x m w.heap.size ⟨93, p, q⟩ w W0) := k0
  clear h k0
  go_enter Tryz.func145, Tryz.ntmps145
  go_wp2_with fail
  refine (K0.out.call (fun U h => hold_any h ⟨93, p, q⟩ (by show m.tot ≤ _; omega))).mono ?_
  rintro e W1 ⟨rfl, k1⟩
  have K1 : Hid (Walk Z S x (m.hold ⟨93, p, q⟩) w.heap.size ⟨93, p, q⟩ w W1) := k1
  clear hb0 d0 d1 d2 hx0 s0 s1 s2 s3
  obtain ⟨hb1, d0, d1, d2⟩ := k1.box
  have hx1 := k1.lt
  obtain ⟨s0, s1, s2, s3⟩ := k1.st0
  clear k1
  have K2 : Hid (Walk Z S x ({ (m.hold ⟨93, p, q⟩) with st := 178 } : Mc) w.heap.size ⟨93, p, q⟩ w (W1.setCell ⟨x, 0, none⟩ (.func (.func 178) #[] #[]))) := K1.out.st 178
  have hb2 := hb1
  have hx2 := hx1
  go_wp2_with fail
  first
    | refine bodyPost_end (results_none rfl _ _ _) rfl ?_
    | refine bodyPost_ret (results_none rfl _ _ _) rfl ?_
  refine ⟨rfl, ?_⟩
  rw [HE.out]
  exact K2.out.post
set_option maxHeartbeats 2000000 in
set_option maxRecDepth 20000 in
theorem cdata_2 {Z : Nat → Prop} {S : Nat → Prop} {x : Nat} {m : Mc} {w : World} (h : Mach Z S x m w) (r p q : Int) (h93 : (r == 93) = false)  (hn : m.tot ≤ 500000000) : Calls Tryz.prog 145 #[mp x, cv ⟨r, p, q⟩] w (Did Z S x (m.cdata ⟨r, p, q⟩) w) := by
  have HE : Hid ((m.cdata ⟨r, p, q⟩) = (m.tellChar ⟨r, p, q⟩)) := by
    show (m.cdata ⟨r, p, q⟩) = (m.tellChar ⟨r, p, q⟩)
    simp at h93; simp [Mc.cdata, h93]
  obtain ⟨W0, hW0, k0⟩ := Walk.start h ⟨r, p, q⟩
  have hxw := h.low
  obtain ⟨hb0, d0, d1, d2⟩ := k0.box
  have hx0 := k0.lt
  have hne : w.heap.size ≠ x := by omega
  obtain ⟨s0, s1, s2, s3⟩ := k0.st0
  have K0 : Hid (Walk Z S x m w.heap.size ⟨r, p, q⟩ w W0) := k0
  clear h k0
  go_enter Tryz.func145, Tryz.ntmps145
  go_wp2_with fail
  refine (K0.out.call (fun U h => tellChar_any h ⟨r, p, q⟩ (by show m.tot ≤ _; omega))).mono ?_
  rintro e W1 ⟨rfl, k1⟩
  have K1 : Hid (Walk Z S x (m.tellChar ⟨r, p, q⟩) w.heap.size ⟨r, p, q⟩ w W1) := k1
  clear hb0 d0 d1 d2 hx0 s0 s1 s2 s3
  obtain ⟨hb1, d0, d1, d2⟩ := k1.box
  have hx1 := k1.lt
  obtain ⟨s0, s1, s2, s3⟩ := k1.st0
  clear k1
  go_wp2_with fail
  first
    | refine bodyPost_end (results_none rfl _ _ _) rfl ?_
    | refine bodyPost_ret (results_none rfl _ _ _) rfl ?_
  refine ⟨rfl, ?_⟩
  rw [HE.out]
  exact K1.out.post
theorem cdata_any {Z : Nat → Prop} {S : Nat → Prop} {x : Nat} {m : Mc} {w : World} (h : Mach Z S x m w) (c : Ch) (hn : m.tot ≤ 500000000) : Calls Tryz.prog 145 #[mp x, cv c] w (Did Z S x (m.cdata c) w) := by
  obtain ⟨r, p, q⟩ := c
  by_cases h93 : r = 93
  · subst h93
    exact cdata_1 h p q hn
  exact cdata_2 h r p q (by simpa using h93) hn
set_option maxHeartbeats 2000000 in
set_option maxRecDepth 20000 in
theorem cdataOne_1 {Z : Nat → Prop} {S : Nat → Prop} {x : Nat} {m : Mc} {w : World} (h : Mach Z S x m w) (p q : Int)   (hn : m.tot ≤ 490000000) : Calls Tryz.prog 178 #[mp x, cv ⟨93, p, q⟩] w (Did Z S x (m.cdataOne ⟨93, p, q⟩) w) := by
  have HE : Hid ((m.cdataOne ⟨93, p, q⟩) = ({ (m.hold ⟨93, p, q⟩) with st := 208 } : Mc)) := by
    show (m.cdataOne ⟨93, p, q⟩) = ({ (m.hold ⟨93, p, q⟩) with st := 208 } : Mc)
    simp [Mc.cdataOne]
  obtain ⟨W0, hW0, k0⟩ := Walk.start h ⟨93, p, q⟩
  have hxw := h.low
  obtain ⟨hb0, d0, d1, d2⟩ := k0.box
  have hx0 := k0.lt
  have hne : w.heap.size ≠ x := by omega
  obtain ⟨s0, s1, s2, s3⟩ := k0.st0
  have K0 : Hid (Walk Z S x m w.heap.size ⟨93, p, q⟩ w W0) := k0
  clear h k0
  go_enter Tryz.func178, Tryz.ntmps178
  go_wp2_with fail
  refine (K0.out.call (fun U h => hold_any h ⟨93, p, q⟩ (by show m.tot ≤ _; omega))).mono ?_
  rintro e W1 ⟨rfl, k1⟩
  have K1 : Hid (Walk Z S x (m.hold ⟨93, p, q⟩) w.heap.size ⟨93, p, q⟩ w W1) := k1
  clear hb0 d0 d1 d2 hx0 s0 s1 s2 s3
  obtain ⟨hb1, d0, d1, d2⟩ := k1.box
  have hx1 := k1.lt
  obtain ⟨s0, s1, s2, s3⟩ := k1.st0
  clear k1
  have K2 : Hid (Walk Z S x ({ (m.hold ⟨93, p, q⟩) with st := 208 } : Mc) w.heap.size ⟨93, p, q⟩ w (W1.setCell ⟨x, 0, none⟩ (.func (.func 208) #[] #[]))) := K1.out.st 208
  have hb2 := hb1
  have hx2 := hx1
  go_wp2_with fail
  first
    | refine bodyPost_end (results_none rfl _ _ _) rfl ?_
    | refine bodyPost_ret (results_none rfl _ _ _) rfl ?_
  refine ⟨rfl, ?_⟩
  rw [HE.out]
  exact K2.out.post
set_option maxHeartbeats 2000000 in
set_option maxRecDepth 20000 in
theorem cdataOne_2 {Z : Nat → Prop} {S : Nat → Prop} {x : Nat} {m : Mc} {w : World} (h : Mach Z S x m w) (r p q : Int) (h93 : (r == 93) = false)  (hn : m.tot ≤ 490000000) : Calls Tryz.prog 178 #[mp x, cv ⟨r, p, q⟩] w (Did Z S x (m.cdataOne ⟨r, p, q⟩) w) := by
  have HE : Hid ((m.cdataOne ⟨r, p, q⟩) = (({ m.release with st := 145 } : Mc).cdata ⟨r, p, q⟩)) := by
    show (m.cdataOne ⟨r, p, q⟩) = (({ m.release with st := 145 } : Mc).cdata ⟨r, p, q⟩)
    simp at h93; simp [Mc.cdataOne, h93]
  obtain ⟨W0, hW0, k0⟩ := Walk.start h ⟨r, p, q⟩
  have hxw := h.low
  obtain ⟨hb0, d0, d1, d2⟩ := k0.box
  have hx0 := k0.lt
  have hne : w.heap.size ≠ x := by omega
  obtain ⟨s0, s1, s2, s3⟩ := k0.st0
  have K0 : Hid (Walk Z S x m w.heap.size ⟨r, p, q⟩ w W0) := k0
  clear h k0
  go_enter Tryz.func178, Tryz.ntmps178
  go_wp2_with fail
  refine (K0.out.call (fun U h => release_any h (by show m.tot ≤ _; omega))).mono ?_
  rintro e W1 ⟨rfl, k1⟩
  have K1 : Hid (Walk Z S x m.release w.heap.size ⟨r, p, q⟩ w W1) := k1
  clear hb0 d0 d1 d2 hx0 s0 s1 s2 s3
  obtain ⟨hb1, d0, d1, d2⟩ := k1.box
  have hx1 := k1.lt
  obtain ⟨s0, s1, s2, s3⟩ := k1.st0
  clear k1
  go_wp2_with fail
  refine (K1.out.call (fun U h => again_any 145 en113 h ⟨r, p, q⟩ (fun U W h => cdata_any h ⟨r, p, q⟩ (by show m.release.tot ≤ _; have t0 := tot_release m; omega)))).mono ?_
  rintro e W2 ⟨rfl, k2⟩
  have K2 : Hid (Walk Z S x (({ m.release with st := 145 } : Mc).cdata ⟨r, p, q⟩) w.heap.size ⟨r, p, q⟩ w W2) := k2
  clear hb1 d0 d1 d2 hx1 s0 s1 s2 s3
  obtain ⟨hb2, d0, d1, d2⟩ := k2.box
  have hx2 := k2.lt
  obtain ⟨s0, s1, s2, s3⟩ := k2.st0
  clear k2
  go_wp2_with fail
  first
    | refine bodyPost_end (results_none rfl _ _ _) rfl ?_
    | refine bodyPost_ret (results_none rfl _ _ _) rfl ?_
  refine ⟨rfl, ?_⟩
  rw [HE.out]
  exact K2.out.post
theorem cdataOne_any {Z : Nat → Prop} {S : Nat → Prop} {x : Nat} {m : Mc} {w : World} (h : Mach Z S x m w) (c : Ch) (hn : m.tot ≤ 490000000) : Calls Tryz.prog 178 #[mp x, cv c] w (Did Z S x (m.cdataOne c) w) := by
  obtain ⟨r, p, q⟩ := c
  by_cases h93 : r = 93
  · subst h93
    exact cdataOne_1 h p q hn
  exact cdataOne_2 h r p q (by simpa using h93) hn
set_option maxHeartbeats 2000000 in
set_option maxRecDepth 20000 in
theorem cdataTwo_2 {Z : Nat → Prop} {S : Nat → Prop} {x : Nat} {m : Mc} {w : World} (h : Mach Z S x m w) (p q : Int)   (_hn : m.tot ≤ 490000000) : Calls Tryz.prog 208 #[mp x, cv ⟨62, p, q⟩] w (Did Z S x (m.cdataTwo ⟨62, p, q⟩) w) := by
  have HE : Hid ((m.cdataTwo ⟨62, p, q⟩) = m.toData) := by
    show (m.cdataTwo ⟨62, p, q⟩) = m.toData
    simp [Mc.cdataTwo]
  obtain ⟨W0, hW0, k0⟩ := Walk.start h ⟨62, p, q⟩
  have hxw := h.low
  obtain ⟨hb0, d0, d1, d2⟩ := k0.box
  have hx0 := k0.lt
  have hne : w.heap.size ≠ x := by omega
  obtain ⟨s0, s1, s2, s3⟩ := k0.st0
  have K0 : Hid (Walk Z S x m w.heap.size ⟨62, p, q⟩ w W0) := k0
  clear h k0
  go_enter Tryz.func208, Tryz.ntmps208
  go_wp2_with fail
  refine (K0.out.call (fun U h => toData_any h)).mono ?_
  rintro e W1 ⟨rfl, k1⟩
  have K1 : Hid (Walk Z S x m.toData w.heap.size ⟨62, p, q⟩ w W1) := k1
  clear hb0 d0 d1 d2 hx0 s0 s1 s2 s3
  obtain ⟨hb1, d0, d1, d2⟩ := k1.box
  have hx1 := k1.lt
  obtain ⟨s0, s1, s2, s3⟩ := k1.st0
  clear k1
  go_wp2_with fail
  first
    | refine bodyPost_end (results_none rfl _ _ _) rfl ?_
    | refine bodyPost_ret (results_none rfl _ _ _) rfl ?_
  refine ⟨rfl, ?_⟩
  rw [HE.out]
  exact K1.out.post
set_option maxHeartbeats 2000000 in
set_option maxRecDepth 20000 in
theorem cdataTwo_3 {Z : Nat → Prop} {S : Nat → Prop} {x : Nat} {m : Mc} {w : World} (h : Mach Z S x m w) (r p q : Int) (h93 : (r == 93) = false) (h62 : (r == 62) = false)  (hn : m.tot ≤ 490000000) : Calls Tryz.prog 208 #[mp x, cv ⟨r, p, q⟩] w (Did Z S x (m.cdataTwo ⟨r, p, q⟩) w) := by
  have HE : Hid ((m.cdataTwo ⟨r, p, q⟩) = (({ m.release with st := 145 } : Mc).cdata ⟨r, p, q⟩)) := by
    show (m.cdataTwo ⟨r, p, q⟩) = (({ m.release with st := 145 } : Mc).cdata ⟨r, p, q⟩)
    simp at h93 h62; simp [Mc.cdataTwo, h93, h62]
  obtain ⟨W0, hW0, k0⟩ := Walk.start h ⟨r, p, q⟩
  have hxw := h.low
  obtain ⟨hb0, d0, d1, d2⟩ := k0.box
  have hx0 := k0.lt
  have hne : w.heap.size ≠ x := by omega
  obtain ⟨s0, s1, s2, s3⟩ := k0.st0
  have K0 : Hid (Walk Z S x m w.heap.size ⟨r, p, q⟩ w W0) := k0
  clear h k0
  go_enter Tryz.func208, Tryz.ntmps208
  go_wp2_with fail
  refine (K0.out.call (fun U h => release_any h (by show m.tot ≤ _; omega))).mono ?_
  rintro e W1 ⟨rfl, k1⟩
  have K1 : Hid (Walk Z S x m.release w.heap.size ⟨r, p, q⟩ w W1) := k1
  clear hb0 d0 d1 d2 hx0 s0 s1 s2 s3
  obtain ⟨hb1, d0, d1, d2⟩ := k1.box
  have hx1 := k1.lt
  obtain ⟨s0, s1, s2, s3⟩ := k1.st0
  clear k1
  go_wp2_with fail
  refine (K1.out.call (fun U h => again_any 145 en113 h ⟨r, p, q⟩ (fun U W h => cdata_any h ⟨r, p, q⟩ (by show m.release.tot ≤ _; have t0 := tot_release m; omega)))).mono ?_
  rintro e W2 ⟨rfl, k2⟩
  have K2 : Hid (Walk Z S x (({ m.release with st := 145 } : Mc).cdata ⟨r, p, q⟩) w.heap.size ⟨r, p, q⟩ w W2) := k2
  clear hb1 d0 d1 d2 hx1 s0 s1 s2 s3
  obtain ⟨hb2, d0, d1, d2⟩ := k2.box
  have hx2 := k2.lt
  obtain ⟨s0, s1, s2, s3⟩ := k2.st0
  clear k2
  go_wp2_with fail
  first
    | refine bodyPost_end (results_none rfl _ _ _) rfl ?_
    | refine bodyPost_ret (results_none rfl _ _ _) rfl ?_
  refine ⟨rfl, ?_⟩
  rw [HE.out]
  exact K2.out.post
set_option maxHeartbeats 2000000 in
set_option maxRecDepth 20000 in
theorem rawOpen_1 {Z : Nat → Prop} {S : Nat → Prop} {x : Nat} {m : Mc} {w : World} (h : Mach Z S x m w) (p q : Int)   (hn : m.tot ≤ 480000000) : Calls Tryz.prog 73 #[mp x, cv ⟨47, p, q⟩] w (Did Z S x (m.rawOpen ⟨47, p, q⟩) w) := by
  have HE : Hid ((m.rawOpen ⟨47, p, q⟩) = ({ (m.hold ⟨47, p, q⟩) with st := 111 } : Mc)) := by
    show (m.rawOpen ⟨47, p, q⟩) = ({ (m.hold ⟨47, p, q⟩) with st := 111 } : Mc)
    simp [Mc.rawOpen]
  obtain ⟨W0, hW0, k0⟩ := Walk.start h ⟨47, p, q⟩
  have hxw := h.low
  obtain ⟨hb0, d0, d1, d2⟩ := k0.box
  have hx0 := k0.lt
  have hne : w.heap.size ≠ x := by omega
  obtain ⟨s0, s1, s2, s3⟩ := k0.st0
  have K0 : Hid (Walk Z S x m w.heap.size ⟨47, p, q⟩ w W0) := k0
  clear h k0
  go_enter Tryz.func73, Tryz.ntmps73
  go_wp2_with fail
  refine (K0.out.call (fun U h => hold_any h ⟨47, p, q⟩ (by show m.tot ≤ _; omega))).mono ?_
  rintro e W1 ⟨rfl, k1⟩
  have K1 : Hid (Walk Z S x (m.hold ⟨47, p, q⟩) w.heap.size ⟨47, p, q⟩ w W1) := k1
  clear hb0 d0 d1 d2 hx0 s0 s1 s2 s3
  obtain ⟨hb1, d0, d1, d2⟩ := k1.box
  have hx1 := k1.lt
  obtain ⟨s0, s1, s2, s3⟩ := k1.st0
  clear k1
  have K2 : Hid (Walk Z S x ({ (m.hold ⟨47, p, q⟩) with st := 111 } : Mc) w.heap.size ⟨47, p, q⟩ w (W1.setCell ⟨x, 0, none⟩ (.func (.func 111) #[] #[]))) := K1.out.st 111
  have hb2 := hb1
  have hx2 := hx1
  go_wp2_with fail
  first
    | refine bodyPost_end (results_none rfl _ _ _) rfl ?_
    | refine bodyPost_ret (results_none rfl _ _ _) rfl ?_
  refine ⟨rfl, ?_⟩
  rw [HE.out]
  exact K2.out.post
set_option maxHeartbeats 2000000 in
set_option maxRecDepth 20000 in
theorem rawOpen_2 {Z : Nat → Prop} {S : Nat → Prop} {x : Nat} {m : Mc} {w : World} (h : Mach Z S x m w) (r p q : Int) (h47 : (r == 47) = false)  (hn : m.tot ≤ 480000000) : Calls Tryz.prog 73 #[mp x, cv ⟨r, p, q⟩] w (Did Z S x (m.rawOpen ⟨r, p, q⟩) w) := by
  have HE : Hid ((m.rawOpen ⟨r, p, q⟩) = (m.dataAgain ⟨r, p, q⟩)) := by
    show (m.rawOpen ⟨r, p, q⟩) = (m.dataAgain ⟨r, p, q⟩)
    simp at h47; simp [Mc.rawOpen, h47]
  obtain ⟨W0, hW0, k0⟩ := Walk.start h ⟨r, p, q⟩
  have hxw := h.low
  obtain ⟨hb0, d0, d1, d2⟩ := k0.box
  have hx0 := k0.lt
  have hne : w.heap.size ≠ x := by omega
  obtain ⟨s0, s1, s2, s3⟩ := k0.st0
  have K0 : Hid (Walk Z S x m w.heap.size ⟨r, p, q⟩ w W0) := k0
  clear h k0
  go_enter Tryz.func73, Tryz.ntmps73
  go_wp2_with fail
  refine (K0.out.call (fun U h => dataAgain_any h ⟨r, p, q⟩ (by show m.tot ≤ _; omega))).mono ?_
  rintro e W1 ⟨rfl, k1⟩
  have K1 : Hid (Walk Z S x (m.dataAgain ⟨r, p, q⟩) w.heap.size ⟨r, p, q⟩ w W1) := k1
  clear hb0 d0 d1 d2 hx0 s0 s1 s2 s3
  obtain ⟨hb1, d0, d1, d2⟩ := k1.box
  have hx1 := k1.lt
  obtain ⟨s0, s1, s2, s3⟩ := k1.st0
  clear k1
  go_wp2_with fail
  first
    | refine bodyPost_end (results_none rfl _ _ _) rfl ?_
    | refine bodyPost_ret (results_none rfl _ _ _) rfl ?_
  refine ⟨rfl, ?_⟩
  rw [HE.out]
  exact K1.out.post
theorem rawOpen_any {Z : Nat → Prop} {S : Nat → Prop} {x : Nat} {m : Mc} {w : World} (h : Mach Z S x m w) (c : Ch) (hn : m.tot ≤ 480000000) : Calls Tryz.prog 73 #[mp x, cv c] w (Did Z S x (m.rawOpen c) w) := by
  obtain ⟨r, p, q⟩ := c
  by_cases h47 : r = 47
  · subst h47
    exact rawOpen_1 h p q hn
  exact rawOpen_2 h r p q (by simpa using h47) hn
set_option maxHeartbeats 2000000 in
set_option maxRecDepth 20000 in
theorem endWaiting_any {Z : Nat → Prop} {S : Nat → Prop} {x : Nat} {m : Mc} {w : World} (h : Mach Z S x m w) (at' : Int) (hn : m.tot ≤ 480000000) : Calls Tryz.prog 47 #[mp x, .int .i64 at'] w (Did Z S x (m.release) w) := by
  have hx0 := h.low
  have p0 := Post.refl h
  obtain ⟨v0, _, cc, ff⟩ := p0.mach
  have s0 := cc 0 _ rfl
  have s1 := ff 0
  have s2 := cc 1 _ rfl
  have s3 := ff 1
  have s4 := cc 12 _ rfl
  have s5 := ff 12
  have P0 : Hid (Post Z S x m w w) := p0
  clear h p0 cc ff
  go_enter Tryz.func47, Tryz.ntmps47
  go_wp2_with fail
  refine (P0.out.call (fun U h => release_any h (by show m.tot ≤ _; omega))).mono ?_
  rintro e W1 ⟨rfl, p1⟩
  clear s0 s1 s2 s3 s4 s5
  obtain ⟨v1, hx1, cc, ff⟩ := p1.mach
  have s0 := cc 0 _ rfl
  have s1 := ff 0
  have s2 := cc 1 _ rfl
  have s3 := ff 1
  have s4 := cc 12 _ rfl
  have s5 := ff 12
  have P1 : Hid (Post Z S x m.release w W1) := p1
  clear p1 cc ff
  go_wp2_with fail
  first
    | refine bodyPost_end (results_none rfl _ _ _) rfl ?_
    | refine bodyPost_ret (results_none rfl _ _ _) rfl ?_
  refine ⟨rfl, ?_⟩
  exact P1.out
set_option maxHeartbeats 2000000 in
set_option maxRecDepth 20000 in
theorem endTagOpen_any {Z : Nat → Prop} {S : Nat → Prop} {x : Nat} {m : Mc} {w : World} (h : Mach Z S x m w) (at' : Int) (hn : m.tot ≤ 480000000) : Calls Tryz.prog 72 #[mp x, .int .i64 at'] w (Did Z S x ((m.fault 5 at').release) w) := by
  have hx0 := h.low
  have p0 := Post.refl h
  obtain ⟨v0, _, cc, ff⟩ := p0.mach
  have s0 := cc 0 _ rfl
  have s1 := ff 0
  have s2 := cc 1 _ rfl
  have s3 := ff 1
  have s4 := cc 12 _ rfl
  have s5 := ff 12
  have P0 : Hid (Post Z S x m w w) := p0
  clear h p0 cc ff
  go_enter Tryz.func72, Tryz.ntmps72
  go_wp2_with fail
  refine (P0.out.call (fun U h => fault_any h 5 at' (by show m.tot ≤ _; omega))).mono ?_
  rintro e W1 ⟨rfl, p1⟩
  clear s0 s1 s2 s3 s4 s5
  obtain ⟨v1, hx1, cc, ff⟩ := p1.mach
  have s0 := cc 0 _ rfl
  have s1 := ff 0
  have s2 := cc 1 _ rfl
  have s3 := ff 1
  have s4 := cc 12 _ rfl
  have s5 := ff 12
  have P1 : Hid (Post Z S x (m.fault 5 at') w W1) := p1
  clear p1 cc ff
  go_wp2_with fail
  refine (P1.out.call (fun U h => release_any h (by show (m.fault 5 at').tot ≤ _; have t0 := tot_fault m 5 at'; omega))).mono ?_
  rintro e W2 ⟨rfl, p2⟩
  clear s0 s1 s2 s3 s4 s5
  obtain ⟨v2, hx2, cc, ff⟩ := p2.mach
  have s0 := cc 0 _ rfl
  have s1 := ff 0
  have s2 := cc 1 _ rfl
  have s3 := ff 1
  have s4 := cc 12 _ rfl
  have s5 := ff 12
  have P2 : Hid (Post Z S x (m.fault 5 at').release w W2) := p2
  clear p2 cc ff
  go_wp2_with fail
  first
    | refine bodyPost_end (results_none rfl _ _ _) rfl ?_
    | refine bodyPost_ret (results_none rfl _ _ _) rfl ?_
  refine ⟨rfl, ?_⟩
  exact P2.out
set_option maxHeartbeats 2000000 in
set_option maxRecDepth 20000 in
theorem endEndOpen_any {Z : Nat → Prop} {S : Nat → Prop} {x : Nat} {m : Mc} {w : World} (h : Mach Z S x m w) (at' : Int) (hn : m.tot ≤ 480000000) : Calls Tryz.prog 103 #[mp x, .int .i64 at'] w (Did Z S x ((m.fault 6 at').release) w) := by
  have hx0 := h.low
  have p0 := Post.refl h
  obtain ⟨v0, _, cc, ff⟩ := p0.mach
  have s0 := cc 0 _ rfl
  have s1 := ff 0
  have s2 := cc 1 _ rfl
  have s3 := ff 1
  have s4 := cc 12 _ rfl
  have s5 := ff 12
  have P0 : Hid (Post Z S x m w w) := p0
  clear h p0 cc ff
  go_enter Tryz.func103, Tryz.ntmps103
  go_wp2_with fail
  refine (P0.out.call (fun U h => fault_any h 6 at' (by show m.tot ≤ _; omega))).mono ?_
  rintro e W1 ⟨rfl, p1⟩
  clear s0 s1 s2 s3 s4 s5
  obtain ⟨v1, hx1, cc, ff⟩ := p1.mach
  have s0 := cc 0 _ rfl
  have s1 := ff 0
  have s2 := cc 1 _ rfl
  have s3 := ff 1
  have s4 := cc 12 _ rfl
  have s5 := ff 12
  have P1 : Hid (Post Z S x (m.fault 6 at') w W1) := p1
  clear p1 cc ff
  go_wp2_with fail
  refine (P1.out.call (fun U h => release_any h (by show (m.fault 6 at').tot ≤ _; have t0 := tot_fault m 6 at'; omega))).mono ?_
  rintro e W2 ⟨rfl, p2⟩
  clear s0 s1 s2 s3 s4 s5
  obtain ⟨v2, hx2, cc, ff⟩ := p2.mach
  have s0 := cc 0 _ rfl
  have s1 := ff 0
  have s2 := cc 1 _ rfl
  have s3 := ff 1
  have s4 := cc 12 _ rfl
  have s5 := ff 12
  have P2 : Hid (Post Z S x (m.fault 6 at').release w W2) := p2
  clear p2 cc ff
  go_wp2_with fail
  first
    | refine bodyPost_end (results_none rfl _ _ _) rfl ?_
    | refine bodyPost_ret (results_none rfl _ _ _) rfl ?_
  refine ⟨rfl, ?_⟩
  exact P2.out
set_option maxHeartbeats 2000000 in
set_option maxRecDepth 20000 in
theorem endTag_any {Z : Nat → Prop} {S : Nat → Prop} {x : Nat} {m : Mc} {w : World} (h : Mach Z S x m w) (at' : Int) (hn : m.tot ≤ 480000000) : Calls Tryz.prog 106 #[mp x, .int .i64 at'] w (Did Z S x (m.fault 7 at') w) := by
  have hx0 := h.low
  have p0 := Post.refl h
  obtain ⟨v0, _, cc, ff⟩ := p0.mach
  have s0 := cc 0 _ rfl
  have s1 := ff 0
  have s2 := cc 1 _ rfl
  have s3 := ff 1
  have s4 := cc 12 _ rfl
  have s5 := ff 12
  have P0 : Hid (Post Z S x m w w) := p0
  clear h p0 cc ff
  go_enter Tryz.func106, Tryz.ntmps106
  go_wp2_with fail
  refine (P0.out.call (fun U h => fault_any h 7 at' (by show m.tot ≤ _; omega))).mono ?_
  rintro e W1 ⟨rfl, p1⟩
  clear s0 s1 s2 s3 s4 s5
  obtain ⟨v1, hx1, cc, ff⟩ := p1.mach
  have s0 := cc 0 _ rfl
  have s1 := ff 0
  have s2 := cc 1 _ rfl
  have s3 := ff 1
  have s4 := cc 12 _ rfl
  have s5 := ff 12
  have P1 : Hid (Post Z S x (m.fault 7 at') w W1) := p1
  clear p1 cc ff
  go_wp2_with fail
  first
    | refine bodyPost_end (results_none rfl _ _ _) rfl ?_
    | refine bodyPost_ret (results_none rfl _ _ _) rfl ?_
  refine ⟨rfl, ?_⟩
  exact P1.out
set_option maxHeartbeats 2000000 in
set_option maxRecDepth 20000 in
theorem endBogus_any {Z : Nat → Prop} {S : Nat → Prop} {x : Nat} {m : Mc} {w : World} (h : Mach Z S x m w) (at' : Int) (hn : m.tot ≤ 480000000) : Calls Tryz.prog 179 #[mp x, .int .i64 at'] w (Did Z S x (m.tellMade at') w) := by
  have hx0 := h.low
  have p0 := Post.refl h
  obtain ⟨v0, _, cc, ff⟩ := p0.mach
  have s0 := cc 0 _ rfl
  have s1 := ff 0
  have s2 := cc 1 _ rfl
  have s3 := ff 1
  have s4 := cc 12 _ rfl
  have s5 := ff 12
  have P0 : Hid (Post Z S x m w w) := p0
  clear h p0 cc ff
  go_enter Tryz.func179, Tryz.ntmps179
  go_wp2_with fail
  refine (P0.out.call (fun U h => tellMade_any h at' (by show m.tot ≤ _; omega))).mono ?_
  rintro e W1 ⟨rfl, p1⟩
  clear s0 s1 s2 s3 s4 s5
  obtain ⟨v1, hx1, cc, ff⟩ := p1.mach
  have s0 := cc 0 _ rfl
  have s1 := ff 0
  have s2 := cc 1 _ rfl
  have s3 := ff 1
  have s4 := cc 12 _ rfl
  have s5 := ff 12
  have P1 : Hid (Post Z S x (m.tellMade at') w W1) := p1
  clear p1 cc ff
  go_wp2_with fail
  first
    | refine bodyPost_end (results_none rfl _ _ _) rfl ?_
    | refine bodyPost_ret (results_none rfl _ _ _) rfl ?_
  refine ⟨rfl, ?_⟩
  exact P1.out
set_option maxHeartbeats 2000000 in
set_option maxRecDepth 20000 in
theorem endComment_any {Z : Nat → Prop} {S : Nat → Prop} {x : Nat} {m : Mc} {w : World} (h : Mach Z S x m w) (at' : Int) (hn : m.tot ≤ 480000000) : Calls Tryz.prog 140 #[mp x, .int .i64 at'] w (Did Z S x ((m.fault 16 at').tellMade at') w) := by
  have hx0 := h.low
  have p0 := Post.refl h
  obtain ⟨v0, _, cc, ff⟩ := p0.mach
  have s0 := cc 0 _ rfl
  have s1 := ff 0
  have s2 := cc 1 _ rfl
  have s3 := ff 1
  have s4 := cc 12 _ rfl
  have s5 := ff 12
  have P0 : Hid (Post Z S x m w w) := p0
  clear h p0 cc ff
  go_enter Tryz.func140, Tryz.ntmps140
  go_wp2_with fail
  refine (P0.out.call (fun U h => fault_any h 16 at' (by show m.tot ≤ _; omega))).mono ?_
  rintro e W1 ⟨rfl, p1⟩
  clear s0 s1 s2 s3 s4 s5
  obtain ⟨v1, hx1, cc, ff⟩ := p1.mach
  have s0 := cc 0 _ rfl
  have s1 := ff 0
  have s2 := cc 1 _ rfl
  have s3 := ff 1
  have s4 := cc 12 _ rfl
  have s5 := ff 12
  have P1 : Hid (Post Z S x (m.fault 16 at') w W1) := p1
  clear p1 cc ff
  go_wp2_with fail
  refine (P1.out.call (fun U h => tellMade_any h at' (by show (m.fault 16 at').tot ≤ _; have t0 := tot_fault m 16 at'; omega))).mono ?_
  rintro e W2 ⟨rfl, p2⟩
  clear s0 s1 s2 s3 s4 s5
  obtain ⟨v2, hx2, cc, ff⟩ := p2.mach
  have s0 := cc 0 _ rfl
  have s1 := ff 0
  have s2 := cc 1 _ rfl
  have s3 := ff 1
  have s4 := cc 12 _ rfl
  have s5 := ff 12
  have P2 : Hid (Post Z S x ((m.fault 16 at').tellMade at') w W2) := p2
  clear p2 cc ff
  go_wp2_with fail
  first
    | refine bodyPost_end (results_none rfl _ _ _) rfl ?_
    | refine bodyPost_ret (results_none rfl _ _ _) rfl ?_
  refine ⟨rfl, ?_⟩
  exact P2.out
set_option maxHeartbeats 2000000 in
set_option maxRecDepth 20000 in
theorem endDoctype_any {Z : Nat → Prop} {S : Nat → Prop} {x : Nat} {m : Mc} {w : World} (h : Mach Z S x m w) (at' : Int) (hn : m.tot ≤ 480000000) : Calls Tryz.prog 143 #[mp x, .int .i64 at'] w (Did Z S x ((m.wrongDoc at').tellMade at') w) := by
  have hx0 := h.low
  have p0 := Post.refl h
  obtain ⟨v0, _, cc, ff⟩ := p0.mach
  have s0 := cc 0 _ rfl
  have s1 := ff 0
  have s2 := cc 1 _ rfl
  have s3 := ff 1
  have s4 := cc 12 _ rfl
  have s5 := ff 12
  have P0 : Hid (Post Z S x m w w) := p0
  clear h p0 cc ff
  go_enter Tryz.func143, Tryz.ntmps143
  go_wp2_with fail
  refine (P0.out.call (fun U h => wrongDoc_any h at' (by show m.tot ≤ _; omega))).mono ?_
  rintro e W1 ⟨rfl, p1⟩
  clear s0 s1 s2 s3 s4 s5
  obtain ⟨v1, hx1, cc, ff⟩ := p1.mach
  have s0 := cc 0 _ rfl
  have s1 := ff 0
  have s2 := cc 1 _ rfl
  have s3 := ff 1
  have s4 := cc 12 _ rfl
  have s5 := ff 12
  have P1 : Hid (Post Z S x (m.wrongDoc at') w W1) := p1
  clear p1 cc ff
  go_wp2_with fail
  refine (P1.out.call (fun U h => tellMade_any h at' (by show (m.fault 17 at').tot ≤ _; have t0 := tot_fault m 17 at'; omega))).mono ?_
  rintro e W2 ⟨rfl, p2⟩
  clear s0 s1 s2 s3 s4 s5
  obtain ⟨v2, hx2, cc, ff⟩ := p2.mach
  have s0 := cc 0 _ rfl
  have s1 := ff 0
  have s2 := cc 1 _ rfl
  have s3 := ff 1
  have s4 := cc 12 _ rfl
  have s5 := ff 12
  have P2 : Hid (Post Z S x ((m.wrongDoc at').tellMade at') w W2) := p2
  clear p2 cc ff
  go_wp2_with fail
  first
    | refine bodyPost_end (results_none rfl _ _ _) rfl ?_
    | refine bodyPost_ret (results_none rfl _ _ _) rfl ?_
  refine ⟨rfl, ?_⟩
  exact P2.out
end Go.Proofs.YtdiealijjhfhjaaGreatDoor
namespace Go.Proofs.YtdiealijjhfhjaaGreatDoor
open Go.RowKit Go.Maps
def ChRow (ao : Option Addr) (l : List Ch) (w : World) : Prop :=
  ∀ i c, l[i]? = some c → ∃ b off, ao = some ⟨b, off, none⟩ ∧ b < w.heap.size ∧ w.cell? ⟨b, off + i * 3, none⟩ = some (.int .i64 c.r) ∧ w.cell? ⟨b, off + i * 3 + 1, none⟩ = some (.int .i64 c.a) ∧ w.cell? ⟨b, off + i * 3 + 2, none⟩ = some (.int .i64 c.z)
theorem ChRow.below {ao : Option Addr} {l : List Ch} {w w' : World} (h : ChRow ao l w) (b : Below w.heap.size w w') : ChRow ao l w' := fun i c hc => by
  obtain ⟨k, off, h1, h2, h3, h4, h5⟩ := h i c hc
  exact ⟨k, off, h1, Nat.lt_of_lt_of_le h2 b.size, (b.cell (p := ⟨k, off + i * 3, none⟩) h2).trans h3, (b.cell (p := ⟨k, off + i * 3 + 1, none⟩) h2).trans h4, (b.cell (p := ⟨k, off + i * 3 + 2, none⟩) h2).trans h5⟩
theorem rowC {w : World} {v : Value} {l : List Ch} (h : Rw.own w (rwC v l)) : ∃ ao cap, v = .slice ao l.length cap ∧ l.length ≤ cap ∧ ChRow ao l w ∧ (∀ b off, ao = some ⟨b, off, none⟩ → off = 0 ∧ v.ownBlock = some b) ∧ cap ≤ maxLen := by
  rcases h.2 with ⟨e, h0⟩ | ⟨g, cap, cur, z, e, hg, _, h1, h2, h3, h4⟩
  · simp only at e h0
    have : l = [] := List.eq_nil_of_length_eq_zero h0
    subst this
    exact ⟨none, 0, e, Nat.le_refl _, fun i c hc => (by simp at hc), fun b off hb => (by cases hb), Nat.zero_le _⟩
  · simp only at e h1 h3 h4
    refine ⟨some ⟨g, 0, none⟩, cap, e, h1, fun i c hc => ?_, fun b off hb => ?_, h2⟩
    · have hl := (List.getElem?_eq_some_iff.1 hc).1
      obtain ⟨q0, q1, q2⟩ := G4.ch_at l i c hc
      rw [← h4] at q0 q1 q2
      rw [List.getElem?_take_of_lt (by omega), Array.getElem?_toList] at q0 q1 q2
      refine ⟨g, 0, rfl, (Array.getElem?_eq_some_iff.1 hg).1, ?_, ?_, ?_⟩
      · simp [World.cell?, hg, q0]
      · simp [World.cell?, hg, q1]
      · simp [World.cell?, hg, q2]
    · simp only [Option.some.injEq, Addr.mk.injEq, and_true] at hb
      obtain ⟨rfl, rfl⟩ := hb
      simp [e, Value.ownBlock]
theorem ChRow.drop {ao : Option Addr} {l : List Ch} {w : World} (h : ChRow ao l w) (k cap : Nat) (hc : l.length ≤ cap) : ChRow (if cap = k then ao else ao.map (·.add (k * 3))) (l.drop k) w := fun i x hx => by
  have hil := (List.getElem?_eq_some_iff.1 hx).1
  rw [List.length_drop] at hil
  rw [List.getElem?_drop] at hx
  obtain ⟨b, off, rfl, h1, h2, h3, h4⟩ := h _ x hx
  rw [if_neg (by omega)]
  refine ⟨b, off + k * 3, by simp [Addr.add_lit], h1, ?_, ?_, ?_⟩
  · rw [show off + k * 3 + i * 3 = off + (k + i) * 3 by omega]; exact h2
  · rw [show off + k * 3 + i * 3 = off + (k + i) * 3 by omega]; exact h3
  · rw [show off + k * 3 + i * 3 = off + (k + i) * 3 by omega]; exact h4
theorem encs_len (l : List Ch) : (encs l).length ≤ 4 * l.length := by
  induction l with
  | nil => exact Nat.le_refl _
  | cons c l ih =>
    unfold encs at ih ⊢
    rw [List.flatMap_cons, List.length_append, List.length_cons]
    have := enc_len c.r
    omega
set_option maxHeartbeats 2000000 in
set_option maxRecDepth 20000 in
theorem textOf_any {w : World} {lo : Option Addr} {L : List Ch} (n cap : Nat) (ha : ChRow lo L w) (hn : L.length = n) (hn2 : n ≤ 2000000000000) :
    Calls Tryz.prog 83 #[.slice lo n cap] w fun e w' => e = .returned (.string (bs (encs L))) ∧ Below w.heap.size w w' := by
  have HA : Hid (ChRow lo L w ∧ L.length = n) := ⟨ha, hn⟩
  clear ha hn
  go_enter Tryz.func83, Tryz.ntmps83
  go_wp2_with fail
  go_loopg [8] n (fun g2 iv wr => ∃ (i : Nat), iv = .int .i64 i ∧ i + g2 = n ∧ Lib.IsBuilderF 144 5 w.heap.size w.heap.size (Lib.byteCells (encs (L.take i))) wr ∧ w.heap.size < wr.heap.size ∧ Below w.heap.size w wr)
  case atStart => exact ⟨0, rfl, by omega, Lib.IsBuilderF.of (Lib.fresh_isBuilder 144 5 w), by simp, (Below.refl _ w).alloc (Nat.le_refl _) _⟩
  case round =>
    obtain ⟨i, rfl, hig, hI, hsz, hbw⟩ := hrel
    have HW : Hid (Lib.IsBuilderF 144 5 w.heap.size w.heap.size (Lib.byteCells (encs (L.take i))) wr ∧ w.heap.size < wr.heap.size ∧ Below w.heap.size w wr) := ⟨hI, hsz, hbw⟩
    clear hI hsz hbw
    cases gk with
    | zero =>
      obtain rfl : i = n := by omega
      have hg0 : decide ((i : Int) < (i : Int)) = false := decide_eq_false (by omega)
      have ks := G6.string_k w.heap.size w.heap.size (encs (L.take i)) wr HW.out.1 (Nat.le_of_lt HW.out.2.1)
      rw [List.take_of_length_le (by rw [HA.out.2]; exact Nat.le_refl _)] at ks
      go_wp2_with fail
      refine ks.mono ?_
      rintro e w1 ⟨rfl, h1, b1, k1⟩
      have HB : Hid (Below w.heap.size w w1) := HW.out.2.2.trans b1
      clear h1 b1 k1 ks
      go_wp2_with fail
      go_ret
      exact ⟨rfl, HB.out⟩
    | succ k =>
      have hin : i < n := by omega
      obtain ⟨x, hx⟩ : ∃ x, L[i]? = some x := ⟨_, List.getElem?_eq_getElem (by rw [HA.out.2]; exact hin)⟩
      obtain ⟨b1, o1, rfl, h1, c0, c1, c2⟩ := (HA.out.1.below HW.out.2.2) i x hx
      have HD : Hid (encs (L.take (i + 1)) = encs (L.take i) ++ enc x.r) := by
        obtain ⟨h1, rfl⟩ := List.getElem?_eq_some_iff.1 hx
        show encs _ = _
        rw [← List.take_append_getElem h1]
        unfold encs
        rw [List.flatMap_append]
        simp
      have hl0 := encs_len (L.take i)
      rw [List.length_take] at hl0
      clear hx
      obtain ⟨r, p, q⟩ := x
      simp only at c0 c1 c2
      obtain ⟨U, hU⟩ : ∃ U, wr.alloc (.cells #[.int .i64 r, .int .i64 p, .int .i64 q] 44) = U := ⟨_, rfl⟩
      have HU : Hid (Lib.IsBuilderF 144 5 w.heap.size w.heap.size (Lib.byteCells (encs (L.take i))) U ∧ w.heap.size < U.heap.size ∧ Below w.heap.size w U) := by
        show _ ∧ _ ∧ _
        rw [← hU]
        exact ⟨HW.out.1.alloc _, by have := HW.out.2.1; simp; omega, HW.out.2.2.alloc (Nat.le_of_lt HW.out.2.1) _⟩
      have hnew : U.heap[wr.heap.size]? = some (.cells #[.int .i64 r, .int .i64 p, .int .i64 q] 44 (0, 0)) := by rw [← hU]; exact heap_alloc_new _ _
      have p0 : U.cell? ⟨wr.heap.size, 0, none⟩ = some (.int .i64 r) := by simp [World.cell?, hnew]
      have p1 : U.cell? ⟨wr.heap.size, 1, none⟩ = some (.int .i64 p) := by simp [World.cell?, hnew]
      have p2 : U.cell? ⟨wr.heap.size, 2, none⟩ = some (.int .i64 q) := by simp [World.cell?, hnew]
      clear hnew
      have kc := G9.char_any r U
      have hcr := chr_ok r
      have HE : Hid (enc r = Lib.encodeRune (G9.chr r)) := rfl
      obtain ⟨c, hc⟩ : ∃ c, G9.chr r = c := ⟨_, rfl⟩
      rw [hc] at kc HE hcr
      have kw := G6.writeRune_k w.heap.size w.heap.size (Lib.byteCells (encs (L.take i))) c (by omega) (by omega) U HU.out.1 (by rw [Lib.byteCells_length]; omega) (Nat.le_of_lt HU.out.2.1)
      clear hc
      go_wp2_with fail
      refine kc.mono ?_
      rintro e w1 ⟨rfl, hw1⟩
      obtain rfl := hw1.symm
      clear kc hw1
      go_wp2_with fail
      refine kw.mono ?_
      rintro e w2 ⟨rfl, q1, q2, q3⟩
      have H2 : Hid (Lib.IsBuilderF 144 5 w.heap.size w.heap.size (Lib.byteCells (encs (L.take (i + 1)))) w2 ∧ w.heap.size < w2.heap.size ∧ Below w.heap.size w w2) := by
        refine ⟨?_, Nat.lt_of_lt_of_le HU.out.2.1 q2.size, HU.out.2.2.trans q2⟩
        rw [HD.out]
        show Lib.IsBuilderF _ _ _ _ (Lib.byteCells (encs (L.take i) ++ enc r)) _
        rw [HE.out, Lib.byteCells_append, Lib.byteCells_encodeRune]
        exact Or.inr q1
      clear q1 q2 q3 kw hU p0 p1 p2 c0 c1 c2
      go_wp2_with fail
      go_roundg k
      case measure => omega
      case rel => exact ⟨i + 1, by go_num, by omega, H2.out⟩
theorem lowP_list (s : ByteArray) : (G7.lowP s).data.toList = Mc.lowL s.data.toList := by
  unfold Mc.lowL
  have : bs s.data.toList = s := by
    cases s
    simp [bs]
  rw [this]
set_option maxHeartbeats 2000000 in
set_option maxRecDepth 20000 in
theorem begun_any {w : World} (s : ByteArray) (hs : s.size ≤ 100000) : Calls Tryz.prog 147 #[.string s] w fun e w' => e = .returned (.bool (Mc.begun s.data.toList)) ∧ Below w.heap.size w w' := by
  have p1 := fun w => G6.strings_HasPrefix ⟨#[45, 45]⟩ s w
  have p2 := fun w => G6.strings_HasPrefix ⟨#[100, 111, 99, 116, 121, 112, 101]⟩ (G7.lowP s) w
  have p3 := fun w => G6.strings_HasPrefix ⟨#[91, 67, 68, 65, 84, 65, 91]⟩ s w
  have kl := fun w => G7.lower_any s w hs
  rw [show Lib.hasPrefix (ByteArray.mk #[45, 45]).data.toList s.data.toList = s.data.toList.isPrefixOf Mc.dashW from rfl] at p1
  rw [show Lib.hasPrefix (ByteArray.mk #[100, 111, 99, 116, 121, 112, 101]).data.toList (G7.lowP s).data.toList = (G7.lowP s).data.toList.isPrefixOf Mc.docW from rfl, lowP_list] at p2
  rw [show Lib.hasPrefix (ByteArray.mk #[91, 67, 68, 65, 84, 65, 91]).data.toList s.data.toList = s.data.toList.isPrefixOf Mc.cdW from rfl] at p3
  have hb : Mc.begun s.data.toList = (s.data.toList.isPrefixOf Mc.dashW || (Mc.lowL s.data.toList).isPrefixOf Mc.docW || s.data.toList.isPrefixOf Mc.cdW) := rfl
  rw [hb]
  clear hb
  obtain ⟨LP, hLP⟩ : ∃ LP, G7.lowP s = LP := ⟨_, rfl⟩
  rw [hLP] at p2
  simp only [hLP] at kl
  clear hLP
  generalize s.data.toList.isPrefixOf Mc.dashW = b1 at p1 ⊢
  generalize (Mc.lowL s.data.toList).isPrefixOf Mc.docW = b2 at p2 ⊢
  generalize s.data.toList.isPrefixOf Mc.cdW = b3 at p3 ⊢
  have P1 : Hid (∀ w, Calls Tryz.prog 158 #[.string ⟨#[45, 45]⟩, .string s] w fun e w' => e = .returned (.bool b1) ∧ w' = w) := p1
  have P2 : Hid (∀ w, Calls Tryz.prog 158 #[.string ⟨#[100, 111, 99, 116, 121, 112, 101]⟩, .string LP] w fun e w' => e = .returned (.bool b2) ∧ w' = w) := p2
  have P3 : Hid (∀ w, Calls Tryz.prog 158 #[.string ⟨#[91, 67, 68, 65, 84, 65, 91]⟩, .string s] w fun e w' => e = .returned (.bool b3) ∧ w' = w) := p3
  have KL : Hid (∀ w, Calls Tryz.prog 142 #[.string s] w fun e w' => e = .returned (.string LP) ∧ Below w.heap.size w w') := kl
  clear p1 p2 p3 kl
  cases b1 with
  | true =>
    go_enter Tryz.func147, Tryz.ntmps147
    go_wp2_with fail
    refine (P1.out _).mono ?_
    rintro e w1 ⟨rfl, hw1⟩
    obtain rfl := hw1.symm
    clear hw1
    go_wp2_with fail
    go_ret
    exact ⟨by simp, Below.refl _ _⟩
  | false =>
    cases b2 with
    | true =>
      go_enter Tryz.func147, Tryz.ntmps147
      go_wp2_with fail
      refine (P1.out _).mono ?_
      rintro e w1 ⟨rfl, hw1⟩
      obtain rfl := hw1.symm
      clear hw1
      go_wp2_with fail
      refine (KL.out _).mono ?_
      rintro e w2 ⟨rfl, b2⟩
      have B2 : Hid (Below w.heap.size w w2) := b2
      clear b2
      go_wp2_with fail
      refine (P2.out _).mono ?_
      rintro e w3 ⟨rfl, hw3⟩
      obtain rfl := hw3.symm
      clear hw3
      go_wp2_with fail
      go_ret
      exact ⟨by simp, B2.out⟩
    | false =>
      go_enter Tryz.func147, Tryz.ntmps147
      go_wp2_with fail
      refine (P1.out _).mono ?_
      rintro e w1 ⟨rfl, hw1⟩
      obtain rfl := hw1.symm
      clear hw1
      go_wp2_with fail
      refine (KL.out _).mono ?_
      rintro e w2 ⟨rfl, b2⟩
      have B2 : Hid (Below w.heap.size w w2) := b2
      clear b2
      go_wp2_with fail
      refine (P2.out _).mono ?_
      rintro e w3 ⟨rfl, hw3⟩
      obtain rfl := hw3.symm
      clear hw3
      go_wp2_with fail
      refine (P3.out _).mono ?_
      rintro e w4 ⟨rfl, hw4⟩
      obtain rfl := hw4.symm
      clear hw4
      go_wp2_with fail
      go_ret
      exact ⟨by simp, B2.out⟩
end Go.Proofs.YtdiealijjhfhjaaGreatDoor
