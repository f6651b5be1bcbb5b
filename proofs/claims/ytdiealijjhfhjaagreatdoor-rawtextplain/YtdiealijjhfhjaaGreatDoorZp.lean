/- The states of a tag: its name, its attributes, their values. -/
import Derived.Test.YtdiealijjhfhjaaGreatDoorZo
import Derived.StillTailTactics
namespace Go.Proofs.YtdiealijjhfhjaaGreatDoor
open Go.RowKit Go.Maps
theorem blank_as (r : Int) (b : Bool) (w : World) (h : blk r = b) : Calls Tryz.prog 150 #[.int .i64 r] w fun e w' => e = .returned (.bool b) ∧ w' = w := by
  subst h
  exact G7.blank_any r w
set_option maxHeartbeats 1000000 in
set_option maxRecDepth 20000 in
theorem letter_any (r : Int) (w : World) : Calls Tryz.prog 104 #[.int .i64 r] w fun e w' => e = .returned (.bool (ltr r)) ∧ w' = w := by
  go_enter Tryz.func104, Tryz.ntmps104
  go_wp2
  all_goals
    go_ret
    refine ⟨G7.ret_bool ?_, rfl⟩
    unfold ltr
    first | (symm; apply decide_eq_true; omega) | (rw [Bool.eq_iff_iff]; simp; omega)
theorem letter_as (r : Int) (b : Bool) (w : World) (h : ltr r = b) : Calls Tryz.prog 104 #[.int .i64 r] w fun e w' => e = .returned (.bool b) ∧ w' = w := by
  subst h
  exact letter_any r w
theorem enc_len (r : Int) : (enc r).length ≤ 4 := by
  unfold enc
  rw [← Lib.runeCells_length]
  exact (Lib.runeCells_le _).2
theorem tot_fault (m : Mc) (c a : Int) : (m.fault c a).tot = m.tot + 1 := by unfold Mc.fault Mc.tot; simp only [List.length_append, List.length_cons, List.length_nil]; omega
theorem tot_hold (m : Mc) (c : Ch) : (m.hold c).tot = m.tot + 1 := by unfold Mc.hold Mc.tot; simp only [List.length_append, List.length_cons, List.length_nil]; omega
theorem tot_release (m : Mc) : m.release.tot = m.tot := by unfold Mc.release Mc.tot; simp only [List.length_append, List.length_map, List.length_nil]; omega
theorem tot_toData (m : Mc) : m.toData.tot ≤ m.tot := by unfold Mc.toData Mc.noMade Mc.tot; simp only [List.length_nil]; omega
theorem tot_begA (m : Mc) (a : Int) : (m.begA a).tot ≤ m.tot + 1 := (keep_tot m).1
theorem tot_addText (m : Mc) (r : Int) : (m.addText r).tot ≤ m.tot + 4 := by have := enc_len r; unfold Mc.addText Mc.tot; simp only [List.length_append]; omega
theorem tot_addDashes (m : Mc) (l : List UInt8) : (m.addDashes l).tot = m.tot + l.length := by unfold Mc.addDashes Mc.tot; simp only [List.length_append]; omega
theorem tot_beg (m : Mc) (k : Int) (en : Nat) : (m.beg k en).tot ≤ m.tot := by unfold Mc.beg Mc.noMade Mc.tot; simp only [List.length_nil]; omega
theorem tot_endName (m : Mc) : m.endName.tot ≤ m.tot + 1 := by
  unfold Mc.endName
  split
  · exact Nat.le_of_eq (tot_fault m _ _)
  · exact Nat.le_succ _
theorem tot_tell (m : Mc) (t : Pt) : (m.tell t).tot = m.tot + 1 := by unfold Mc.tell Mc.tot; simp only [List.length_append, List.length_cons, List.length_nil]; omega
theorem tot_tellMade (m : Mc) (z : Int) : (m.tellMade z).tot ≤ m.tot + 1 := by
  unfold Mc.tellMade
  exact Nat.le_trans (tot_toData _) (Nat.le_of_eq (tot_tell m _))
theorem Walk.ref {Z : Nat → Prop} {S : Nat → Prop} {x : Nat} {m : Mc} {B : Nat} {c : Ch} {w W V : World} (h : Walk Z S x m B c w W) (hV : W.alloc (.cells #[.int .i64 c.r, .int .i64 c.a, .int .i64 c.z] 44) = V) :
    (∃ u, V.cell? ⟨x, 6, none⟩ = some u) ∧ V.frozen? ⟨x, 6, none⟩ = false ∧ x < V.heap.size ∧ Walk Z S x { m with ref := [c] } B c w (V.setCell ⟨x, 6, none⟩ (.slice (some ⟨W.heap.size, 0, none⟩) 1 1)) := by
  obtain ⟨U, h1, ⟨v, T, h2⟩, h3⟩ := h.ex
  have hn : V.heap[W.heap.size]? = some (.cells #[.int .i64 c.r, .int .i64 c.a, .int .i64 c.z] 44 (0, 0)) := by rw [← hV]; exact heap_alloc_new _ _
  have b0 : Below W.heap.size W V := by rw [← hV]; exact (Below.refl _ _).alloc (Nat.le_refl _) _
  have hg : ∀ o, W.grownBy V o := fun o => by rw [← hV]; exact World.grownBy_alloc _ _ _
  obtain ⟨q1, q2, q3, q4⟩ := h2.put (m' := { m with ref := [c] }) (v' := { v with r := .slice (some ⟨W.heap.size, 0, none⟩) 1 1 }) (T' := T) 1 6 _ (rwC (.slice (some ⟨W.heap.size, 0, none⟩) 1 1) [c]) rfl
    ⟨rfl, .inr ⟨W.heap.size, 1, _, _, rfl, hn, .inl rfl, Nat.le_refl _, by unfold maxLen; omega, rfl, rfl⟩⟩ (fun g hg => by simp [Value.ownBlock] at hg; exact .inr (by omega)) (hg _) (by simp [Mc.rows]) (by simp [Mc.cells]) rfl rfl rfl h2.told h2.toks
  exact ⟨⟨_, q3⟩, q4, Nat.lt_of_lt_of_le h2.lt b0.size, ⟨U, h1, ⟨_, _, q1⟩, h3.keep q2⟩, h.keep.trans (q2.sub h1)⟩
theorem Walk.txt {Z : Nat → Prop} {S : Nat → Prop} {x : Nat} {m : Mc} {B : Nat} {c : Ch} {w W : World} (h : Walk Z S x m B c w W) : W.cell? ⟨x, 2, none⟩ = some (.int .i64 m.text) ∧ W.cell? ⟨x, 3, none⟩ = some (.bool m.cd) ∧ W.cell? ⟨x, 4, none⟩ = some (.string m.last) := by
  obtain ⟨v, h1, _⟩ := h.mach
  exact ⟨h1 2 _ rfl, h1 3 _ rfl, h1 4 _ rfl⟩
theorem en119 : Enters 151 := enters_of Tryz.func151 (by kernel_rfl) rfl
theorem en148 : Enters 181 := enters_of Tryz.func181 (by kernel_rfl) rfl
theorem en151 : Enters 184 := enters_of Tryz.func184 (by kernel_rfl) rfl
theorem en183 : Enters 222 := enters_of Tryz.func222 (by kernel_rfl) rfl
set_option maxHeartbeats 2000000 in
set_option maxRecDepth 20000 in
theorem tagName_1 {Z : Nat → Prop} {S : Nat → Prop} {x : Nat} {m : Mc} {w : World} (h : Mach Z S x m w) (r p q : Int) (hbl : blk r = true)  (_hn : m.tot ≤ 500000000) : Calls Tryz.prog 108 #[mp x, cv ⟨r, p, q⟩] w (Did Z S x (m.tagName ⟨r, p, q⟩) w) := by
  have HE : Hid ((m.tagName ⟨r, p, q⟩) = ({ m with st := 151 } : Mc)) := by
    show (m.tagName ⟨r, p, q⟩) = ({ m with st := 151 } : Mc)
    simp [Mc.tagName, hbl]
  obtain ⟨W0, hW0, k0⟩ := Walk.start h ⟨r, p, q⟩
  have hxw := h.low
  obtain ⟨hb0, d0, d1, d2⟩ := k0.box
  have hx0 := k0.lt
  have hne : w.heap.size ≠ x := by omega
  obtain ⟨s0, s1, s2, s3⟩ := k0.st0
  have K0 : Hid (Walk Z S x m w.heap.size ⟨r, p, q⟩ w W0) := k0
  clear h k0
  go_enter Tryz.func108, Tryz.ntmps108
  have K1 : Hid (Walk Z S x ({ m with st := 151 } : Mc) w.heap.size ⟨r, p, q⟩ w (W0.setCell ⟨x, 0, none⟩ (.func (.func 151) #[] #[]))) := K0.out.st 151
  have hb1 := hb0
  have hx1 := hx0
  go_wp2_with (first | (go_at_call 150; refine (blank_as (r) true _ hbl).mono ?_; rintro e w' ⟨rfl, hw'⟩; obtain rfl := hw'.symm; clear hw'))
  first
    | refine bodyPost_end (results_none rfl _ _ _) rfl ?_
    | refine bodyPost_ret (results_none rfl _ _ _) rfl ?_
  refine ⟨rfl, ?_⟩
  rw [HE.out]
  exact K1.out.post
set_option maxHeartbeats 2000000 in
set_option maxRecDepth 20000 in
theorem tagName_2 {Z : Nat → Prop} {S : Nat → Prop} {x : Nat} {m : Mc} {w : World} (h : Mach Z S x m w) (p q : Int)   (_hn : m.tot ≤ 500000000) : Calls Tryz.prog 108 #[mp x, cv ⟨47, p, q⟩] w (Did Z S x (m.tagName ⟨47, p, q⟩) w) := by
  have HE : Hid ((m.tagName ⟨47, p, q⟩) = ({ m with st := 152 } : Mc)) := by
    show (m.tagName ⟨47, p, q⟩) = ({ m with st := 152 } : Mc)
    simp [Mc.tagName, show blk 47 = false from rfl]
  have hbl : blk 47 = false := rfl
  obtain ⟨W0, hW0, k0⟩ := Walk.start h ⟨47, p, q⟩
  have hxw := h.low
  obtain ⟨hb0, d0, d1, d2⟩ := k0.box
  have hx0 := k0.lt
  have hne : w.heap.size ≠ x := by omega
  obtain ⟨s0, s1, s2, s3⟩ := k0.st0
  have K0 : Hid (Walk Z S x m w.heap.size ⟨47, p, q⟩ w W0) := k0
  clear h k0
  go_enter Tryz.func108, Tryz.ntmps108
  have K1 : Hid (Walk Z S x ({ m with st := 152 } : Mc) w.heap.size ⟨47, p, q⟩ w (W0.setCell ⟨x, 0, none⟩ (.func (.func 152) #[] #[]))) := K0.out.st 152
  have hb1 := hb0
  have hx1 := hx0
  go_wp2_with (first | (go_at_call 150; refine (blank_as (47) false _ hbl).mono ?_; rintro e w' ⟨rfl, hw'⟩; obtain rfl := hw'.symm; clear hw'))
  first
    | refine bodyPost_end (results_none rfl _ _ _) rfl ?_
    | refine bodyPost_ret (results_none rfl _ _ _) rfl ?_
  refine ⟨rfl, ?_⟩
  rw [HE.out]
  exact K1.out.post
set_option maxHeartbeats 2000000 in
set_option maxRecDepth 20000 in
theorem tagName_3 {Z : Nat → Prop} {S : Nat → Prop} {x : Nat} {m : Mc} {w : World} (h : Mach Z S x m w) (p q : Int)   (hn : m.tot ≤ 500000000) : Calls Tryz.prog 108 #[mp x, cv ⟨62, p, q⟩] w (Did Z S x (m.tagName ⟨62, p, q⟩) w) := by
  have HE : Hid ((m.tagName ⟨62, p, q⟩) = (m.tellTag ⟨62, p, q⟩)) := by
    show (m.tagName ⟨62, p, q⟩) = (m.tellTag ⟨62, p, q⟩)
    simp [Mc.tagName, show blk 62 = false from rfl]
  have hbl : blk 62 = false := rfl
  obtain ⟨W0, hW0, k0⟩ := Walk.start h ⟨62, p, q⟩
  have hxw := h.low
  obtain ⟨hb0, d0, d1, d2⟩ := k0.box
  have hx0 := k0.lt
  have hne : w.heap.size ≠ x := by omega
  obtain ⟨s0, s1, s2, s3⟩ := k0.st0
  have K0 : Hid (Walk Z S x m w.heap.size ⟨62, p, q⟩ w W0) := k0
  clear h k0
  go_enter Tryz.func108, Tryz.ntmps108
  go_wp2_with (first | (go_at_call 150; refine (blank_as (62) false _ hbl).mono ?_; rintro e w' ⟨rfl, hw'⟩; obtain rfl := hw'.symm; clear hw'))
  refine (K0.out.call (fun U h => tellTag_any h ⟨62, p, q⟩ (by show m.tot ≤ _; omega))).mono ?_
  rintro e W1 ⟨rfl, k1⟩
  have K1 : Hid (Walk Z S x (m.tellTag ⟨62, p, q⟩) w.heap.size ⟨62, p, q⟩ w W1) := k1
  clear hb0 d0 d1 d2 hx0 s0 s1 s2 s3
  obtain ⟨hb1, d0, d1, d2⟩ := k1.box
  have hx1 := k1.lt
  obtain ⟨s0, s1, s2, s3⟩ := k1.st0
  clear k1
  go_wp2_with fail
  first
    | refine bodyPost_end (results_none rfl _ _ _) rfl ?_
    | refine bodyPost_ret (results_none rfl _ _ _) rfl ?_
  refine ⟨rfl, ?_⟩
  rw [HE.out]
  exact K1.out.post
set_option maxHeartbeats 2000000 in
set_option maxRecDepth 20000 in
theorem tagName_4 {Z : Nat → Prop} {S : Nat → Prop} {x : Nat} {m : Mc} {w : World} (h : Mach Z S x m w) (r p q : Int) (hbl : blk r = false) (h47 : (r == 47) = false) (h62 : (r == 62) = false)  (hn : m.tot ≤ 500000000) : Calls Tryz.prog 108 #[mp x, cv ⟨r, p, q⟩] w (Did Z S x (m.tagName ⟨r, p, q⟩) w) := by
  have HE : Hid ((m.tagName ⟨r, p, q⟩) = (m.addName r)) := by
    show (m.tagName ⟨r, p, q⟩) = (m.addName r)
    simp at h47 h62; simp [Mc.tagName, hbl, h47, h62]
  obtain ⟨W0, hW0, k0⟩ := Walk.start h ⟨r, p, q⟩
  have hxw := h.low
  obtain ⟨hb0, d0, d1, d2⟩ := k0.box
  have hx0 := k0.lt
  have hne : w.heap.size ≠ x := by omega
  obtain ⟨s0, s1, s2, s3⟩ := k0.st0
  have K0 : Hid (Walk Z S x m w.heap.size ⟨r, p, q⟩ w W0) := k0
  clear h k0
  go_enter Tryz.func108, Tryz.ntmps108
  go_wp2_with (first | (go_at_call 150; refine (blank_as (r) false _ hbl).mono ?_; rintro e w' ⟨rfl, hw'⟩; obtain rfl := hw'.symm; clear hw'))
  go_still_tail 5, (show Tryz.prog.follows .mixedOrders = true by kernel_rfl)
  go_wp2_with fail
  refine (K0.out.drew.call (fun U h => addName_any h r (by show m.tot ≤ _; omega))).mono ?_
  rintro e W1 ⟨rfl, k1⟩
  have K1 : Hid (Walk Z S x (m.addName r) w.heap.size ⟨r, p, q⟩ w W1) := k1
  clear hb0 d0 d1 d2 hx0 s0 s1 s2 s3
  obtain ⟨hb1, d0, d1, d2⟩ := k1.box
  have hx1 := k1.lt
  obtain ⟨s0, s1, s2, s3⟩ := k1.st0
  clear k1
  go_wp2_with fail
  first
    | refine bodyPost_end (results_none rfl _ _ _) rfl ?_
    | refine bodyPost_ret (results_none rfl _ _ _) rfl ?_
  refine ⟨rfl, ?_⟩
  rw [HE.out]
  exact K1.out.post
theorem tagName_any {Z : Nat → Prop} {S : Nat → Prop} {x : Nat} {m : Mc} {w : World} (h : Mach Z S x m w) (c : Ch) (hn : m.tot ≤ 500000000) : Calls Tryz.prog 108 #[mp x, cv c] w (Did Z S x (m.tagName c) w) := by
  obtain ⟨r, p, q⟩ := c
  cases hbl : blk r with
  | true => exact tagName_1 h r p q hbl hn
  | false =>
    by_cases h47 : r = 47
    · subst h47
      exact tagName_2 h p q hn
    by_cases h62 : r = 62
    · subst h62
      exact tagName_3 h p q hn
    exact tagName_4 h r p q hbl (by simpa using h47) (by simpa using h62) hn
set_option maxHeartbeats 2000000 in
set_option maxRecDepth 20000 in
theorem bare_1 {Z : Nat → Prop} {S : Nat → Prop} {x : Nat} {m : Mc} {w : World} (h : Mach Z S x m w) (r p q : Int) (hbl : blk r = true)  (_hn : m.tot ≤ 500000000) : Calls Tryz.prog 222 #[mp x, cv ⟨r, p, q⟩] w (Did Z S x (m.bare ⟨r, p, q⟩) w) := by
  have HE : Hid ((m.bare ⟨r, p, q⟩) = ({ m with st := 151 } : Mc)) := by
    show (m.bare ⟨r, p, q⟩) = ({ m with st := 151 } : Mc)
    simp [Mc.bare, hbl]
  obtain ⟨W0, hW0, k0⟩ := Walk.start h ⟨r, p, q⟩
  have hxw := h.low
  obtain ⟨hb0, d0, d1, d2⟩ := k0.box
  have hx0 := k0.lt
  have hne : w.heap.size ≠ x := by omega
  obtain ⟨s0, s1, s2, s3⟩ := k0.st0
  have K0 : Hid (Walk Z S x m w.heap.size ⟨r, p, q⟩ w W0) := k0
  clear h k0
  go_enter Tryz.func222, Tryz.ntmps222
  have K1 : Hid (Walk Z S x ({ m with st := 151 } : Mc) w.heap.size ⟨r, p, q⟩ w (W0.setCell ⟨x, 0, none⟩ (.func (.func 151) #[] #[]))) := K0.out.st 151
  have hb1 := hb0
  have hx1 := hx0
  go_wp2_with (first | (go_at_call 150; refine (blank_as (r) true _ hbl).mono ?_; rintro e w' ⟨rfl, hw'⟩; obtain rfl := hw'.symm; clear hw'))
  first
    | refine bodyPost_end (results_none rfl _ _ _) rfl ?_
    | refine bodyPost_ret (results_none rfl _ _ _) rfl ?_
  refine ⟨rfl, ?_⟩
  rw [HE.out]
  exact K1.out.post
set_option maxHeartbeats 2000000 in
set_option maxRecDepth 20000 in
theorem bare_2 {Z : Nat → Prop} {S : Nat → Prop} {x : Nat} {m : Mc} {w : World} (h : Mach Z S x m w) (p q : Int)   (_hn : m.tot ≤ 500000000) : Calls Tryz.prog 222 #[mp x, cv ⟨38, p, q⟩] w (Did Z S x (m.bare ⟨38, p, q⟩) w) := by
  have HE : Hid ((m.bare ⟨38, p, q⟩) = ({ m with ref := [⟨38, p, q⟩] } : Mc)) := by
    show (m.bare ⟨38, p, q⟩) = ({ m with ref := [⟨38, p, q⟩] } : Mc)
    simp [Mc.bare, show blk 38 = false from rfl]
  have hbl : blk 38 = false := rfl
  obtain ⟨W0, hW0, k0⟩ := Walk.start h ⟨38, p, q⟩
  have hxw := h.low
  obtain ⟨hb0, d0, d1, d2⟩ := k0.box
  have hx0 := k0.lt
  have hne : w.heap.size ≠ x := by omega
  obtain ⟨s0, s1, s2, s3⟩ := k0.st0
  have K0 : Hid (Walk Z S x m w.heap.size ⟨38, p, q⟩ w W0) := k0
  clear h k0
  go_enter Tryz.func222, Tryz.ntmps222
  have hV0 : ∃ V, W0.alloc (.cells #[.int .i64 38, .int .i64 p, .int .i64 q] 44) = V := ⟨_, rfl⟩
  obtain ⟨V, hV⟩ := hV0
  obtain ⟨⟨u6, r6⟩, g6, hxV, kV⟩ := Walk.ref K0.out hV
  have K1 : Hid (Walk Z S x ({ m with ref := [⟨38, p, q⟩] } : Mc) w.heap.size ⟨38, p, q⟩ w (V.setCell ⟨x, 6, none⟩ (.slice (some ⟨W0.heap.size, 0, none⟩) 1 1))) := kV
  clear kV
  go_wp2_with (first | (go_at_call 150; refine (blank_as (38) false _ hbl).mono ?_; rintro e w' ⟨rfl, hw'⟩; obtain rfl := hw'.symm; clear hw'))
  first
    | refine bodyPost_end (results_none rfl _ _ _) rfl ?_
    | refine bodyPost_ret (results_none rfl _ _ _) rfl ?_
  refine ⟨rfl, ?_⟩
  rw [HE.out]
  exact K1.out.post
set_option maxHeartbeats 2000000 in
set_option maxRecDepth 20000 in
theorem bare_3 {Z : Nat → Prop} {S : Nat → Prop} {x : Nat} {m : Mc} {w : World} (h : Mach Z S x m w) (p q : Int)   (hn : m.tot ≤ 500000000) : Calls Tryz.prog 222 #[mp x, cv ⟨62, p, q⟩] w (Did Z S x (m.bare ⟨62, p, q⟩) w) := by
  have HE : Hid ((m.bare ⟨62, p, q⟩) = (m.tellTag ⟨62, p, q⟩)) := by
    show (m.bare ⟨62, p, q⟩) = (m.tellTag ⟨62, p, q⟩)
    simp [Mc.bare, show blk 62 = false from rfl]
  have hbl : blk 62 = false := rfl
  obtain ⟨W0, hW0, k0⟩ := Walk.start h ⟨62, p, q⟩
  have hxw := h.low
  obtain ⟨hb0, d0, d1, d2⟩ := k0.box
  have hx0 := k0.lt
  have hne : w.heap.size ≠ x := by omega
  obtain ⟨s0, s1, s2, s3⟩ := k0.st0
  have K0 : Hid (Walk Z S x m w.heap.size ⟨62, p, q⟩ w W0) := k0
  clear h k0
  go_enter Tryz.func222, Tryz.ntmps222
  go_wp2_with (first | (go_at_call 150; refine (blank_as (62) false _ hbl).mono ?_; rintro e w' ⟨rfl, hw'⟩; obtain rfl := hw'.symm; clear hw'))
  refine (K0.out.call (fun U h => tellTag_any h ⟨62, p, q⟩ (by show m.tot ≤ _; omega))).mono ?_
  rintro e W1 ⟨rfl, k1⟩
  have K1 : Hid (Walk Z S x (m.tellTag ⟨62, p, q⟩) w.heap.size ⟨62, p, q⟩ w W1) := k1
  clear hb0 d0 d1 d2 hx0 s0 s1 s2 s3
  obtain ⟨hb1, d0, d1, d2⟩ := k1.box
  have hx1 := k1.lt
  obtain ⟨s0, s1, s2, s3⟩ := k1.st0
  clear k1
  go_wp2_with fail
  first
    | refine bodyPost_end (results_none rfl _ _ _) rfl ?_
    | refine bodyPost_ret (results_none rfl _ _ _) rfl ?_
  refine ⟨rfl, ?_⟩
  rw [HE.out]
  exact K1.out.post
set_option maxHeartbeats 2000000 in
set_option maxRecDepth 20000 in
theorem bare_f34 {Z : Nat → Prop} {S : Nat → Prop} {x : Nat} {m : Mc} {w : World} (h : Mach Z S x m w) (p q : Int)   (hn : m.tot ≤ 500000000) : Calls Tryz.prog 222 #[mp x, cv ⟨34, p, q⟩] w (Did Z S x (m.bare ⟨34, p, q⟩) w) := by
  have HE : Hid ((m.bare ⟨34, p, q⟩) = ((m.fault 8 (p)).addValue 34)) := by
    show (m.bare ⟨34, p, q⟩) = ((m.fault 8 (p)).addValue 34)
    simp [Mc.bare, show blk 34 = false from rfl]
  have hbl : blk 34 = false := rfl
  obtain ⟨W0, hW0, k0⟩ := Walk.start h ⟨34, p, q⟩
  have hxw := h.low
  obtain ⟨hb0, d0, d1, d2⟩ := k0.box
  have hx0 := k0.lt
  have hne : w.heap.size ≠ x := by omega
  obtain ⟨s0, s1, s2, s3⟩ := k0.st0
  have K0 : Hid (Walk Z S x m w.heap.size ⟨34, p, q⟩ w W0) := k0
  clear h k0
  go_enter Tryz.func222, Tryz.ntmps222
  go_wp2_with (first | (go_at_call 150; refine (blank_as (34) false _ hbl).mono ?_; rintro e w' ⟨rfl, hw'⟩; obtain rfl := hw'.symm; clear hw'))
  refine (K0.out.call (fun U h => fault_any h 8 p (by show m.tot ≤ _; omega))).mono ?_
  rintro e W1 ⟨rfl, k1⟩
  have K1 : Hid (Walk Z S x (m.fault 8 (p)) w.heap.size ⟨34, p, q⟩ w W1) := k1
  clear hb0 d0 d1 d2 hx0 s0 s1 s2 s3
  obtain ⟨hb1, d0, d1, d2⟩ := k1.box
  have hx1 := k1.lt
  obtain ⟨s0, s1, s2, s3⟩ := k1.st0
  clear k1
  go_wp2_with fail
  go_still_tail 5, (show Tryz.prog.follows .mixedOrders = true by kernel_rfl)
  go_wp2_with fail
  refine (K1.out.drew.call (fun U h => addValue_any h 34 (by show (m.fault 8 (p)).tot ≤ _; have t0 := tot_fault m 8 (p); omega))).mono ?_
  rintro e W2 ⟨rfl, k2⟩
  have K2 : Hid (Walk Z S x ((m.fault 8 (p)).addValue 34) w.heap.size ⟨34, p, q⟩ w W2) := k2
  clear hb1 d0 d1 d2 hx1 s0 s1 s2 s3
  obtain ⟨hb2, d0, d1, d2⟩ := k2.box
  have hx2 := k2.lt
  obtain ⟨s0, s1, s2, s3⟩ := k2.st0
  clear k2
  go_wp2_with fail
  first
    | refine bodyPost_end (results_none rfl _ _ _) rfl ?_
    | refine bodyPost_ret (results_none rfl _ _ _) rfl ?_
  refine ⟨rfl, ?_⟩
  rw [HE.out]
  exact K2.out.post
set_option maxHeartbeats 2000000 in
set_option maxRecDepth 20000 in
theorem bare_f39 {Z : Nat → Prop} {S : Nat → Prop} {x : Nat} {m : Mc} {w : World} (h : Mach Z S x m w) (p q : Int)   (hn : m.tot ≤ 500000000) : Calls Tryz.prog 222 #[mp x, cv ⟨39, p, q⟩] w (Did Z S x (m.bare ⟨39, p, q⟩) w) := by
  have HE : Hid ((m.bare ⟨39, p, q⟩) = ((m.fault 8 (p)).addValue 39)) := by
    show (m.bare ⟨39, p, q⟩) = ((m.fault 8 (p)).addValue 39)
    simp [Mc.bare, show blk 39 = false from rfl]
  have hbl : blk 39 = false := rfl
  obtain ⟨W0, hW0, k0⟩ := Walk.start h ⟨39, p, q⟩
  have hxw := h.low
  obtain ⟨hb0, d0, d1, d2⟩ := k0.box
  have hx0 := k0.lt
  have hne : w.heap.size ≠ x := by omega
  obtain ⟨s0, s1, s2, s3⟩ := k0.st0
  have K0 : Hid (Walk Z S x m w.heap.size ⟨39, p, q⟩ w W0) := k0
  clear h k0
  go_enter Tryz.func222, Tryz.ntmps222
  go_wp2_with (first | (go_at_call 150; refine (blank_as (39) false _ hbl).mono ?_; rintro e w' ⟨rfl, hw'⟩; obtain rfl := hw'.symm; clear hw'))
  refine (K0.out.call (fun U h => fault_any h 8 p (by show m.tot ≤ _; omega))).mono ?_
  rintro e W1 ⟨rfl, k1⟩
  have K1 : Hid (Walk Z S x (m.fault 8 (p)) w.heap.size ⟨39, p, q⟩ w W1) := k1
  clear hb0 d0 d1 d2 hx0 s0 s1 s2 s3
  obtain ⟨hb1, d0, d1, d2⟩ := k1.box
  have hx1 := k1.lt
  obtain ⟨s0, s1, s2, s3⟩ := k1.st0
  clear k1
  go_wp2_with fail
  go_still_tail 5, (show Tryz.prog.follows .mixedOrders = true by kernel_rfl)
  go_wp2_with fail
  refine (K1.out.drew.call (fun U h => addValue_any h 39 (by show (m.fault 8 (p)).tot ≤ _; have t0 := tot_fault m 8 (p); omega))).mono ?_
  rintro e W2 ⟨rfl, k2⟩
  have K2 : Hid (Walk Z S x ((m.fault 8 (p)).addValue 39) w.heap.size ⟨39, p, q⟩ w W2) := k2
  clear hb1 d0 d1 d2 hx1 s0 s1 s2 s3
  obtain ⟨hb2, d0, d1, d2⟩ := k2.box
  have hx2 := k2.lt
  obtain ⟨s0, s1, s2, s3⟩ := k2.st0
  clear k2
  go_wp2_with fail
  first
    | refine bodyPost_end (results_none rfl _ _ _) rfl ?_
    | refine bodyPost_ret (results_none rfl _ _ _) rfl ?_
  refine ⟨rfl, ?_⟩
  rw [HE.out]
  exact K2.out.post
set_option maxHeartbeats 2000000 in
set_option maxRecDepth 20000 in
theorem bare_f60 {Z : Nat → Prop} {S : Nat → Prop} {x : Nat} {m : Mc} {w : World} (h : Mach Z S x m w) (p q : Int)   (hn : m.tot ≤ 500000000) : Calls Tryz.prog 222 #[mp x, cv ⟨60, p, q⟩] w (Did Z S x (m.bare ⟨60, p, q⟩) w) := by
  have HE : Hid ((m.bare ⟨60, p, q⟩) = ((m.fault 8 (p)).addValue 60)) := by
    show (m.bare ⟨60, p, q⟩) = ((m.fault 8 (p)).addValue 60)
    simp [Mc.bare, show blk 60 = false from rfl]
  have hbl : blk 60 = false := rfl
  obtain ⟨W0, hW0, k0⟩ := Walk.start h ⟨60, p, q⟩
  have hxw := h.low
  obtain ⟨hb0, d0, d1, d2⟩ := k0.box
  have hx0 := k0.lt
  have hne : w.heap.size ≠ x := by omega
  obtain ⟨s0, s1, s2, s3⟩ := k0.st0
  have K0 : Hid (Walk Z S x m w.heap.size ⟨60, p, q⟩ w W0) := k0
  clear h k0
  go_enter Tryz.func222, Tryz.ntmps222
  go_wp2_with (first | (go_at_call 150; refine (blank_as (60) false _ hbl).mono ?_; rintro e w' ⟨rfl, hw'⟩; obtain rfl := hw'.symm; clear hw'))
  refine (K0.out.call (fun U h => fault_any h 8 p (by show m.tot ≤ _; omega))).mono ?_
  rintro e W1 ⟨rfl, k1⟩
  have K1 : Hid (Walk Z S x (m.fault 8 (p)) w.heap.size ⟨60, p, q⟩ w W1) := k1
  clear hb0 d0 d1 d2 hx0 s0 s1 s2 s3
  obtain ⟨hb1, d0, d1, d2⟩ := k1.box
  have hx1 := k1.lt
  obtain ⟨s0, s1, s2, s3⟩ := k1.st0
  clear k1
  go_wp2_with fail
  go_still_tail 5, (show Tryz.prog.follows .mixedOrders = true by kernel_rfl)
  go_wp2_with fail
  refine (K1.out.drew.call (fun U h => addValue_any h 60 (by show (m.fault 8 (p)).tot ≤ _; have t0 := tot_fault m 8 (p); omega))).mono ?_
  rintro e W2 ⟨rfl, k2⟩
  have K2 : Hid (Walk Z S x ((m.fault 8 (p)).addValue 60) w.heap.size ⟨60, p, q⟩ w W2) := k2
  clear hb1 d0 d1 d2 hx1 s0 s1 s2 s3
  obtain ⟨hb2, d0, d1, d2⟩ := k2.box
  have hx2 := k2.lt
  obtain ⟨s0, s1, s2, s3⟩ := k2.st0
  clear k2
  go_wp2_with fail
  first
    | refine bodyPost_end (results_none rfl _ _ _) rfl ?_
    | refine bodyPost_ret (results_none rfl _ _ _) rfl ?_
  refine ⟨rfl, ?_⟩
  rw [HE.out]
  exact K2.out.post
set_option maxHeartbeats 2000000 in
set_option maxRecDepth 20000 in
theorem bare_f61 {Z : Nat → Prop} {S : Nat → Prop} {x : Nat} {m : Mc} {w : World} (h : Mach Z S x m w) (p q : Int)   (hn : m.tot ≤ 500000000) : Calls Tryz.prog 222 #[mp x, cv ⟨61, p, q⟩] w (Did Z S x (m.bare ⟨61, p, q⟩) w) := by
  have HE : Hid ((m.bare ⟨61, p, q⟩) = ((m.fault 8 (p)).addValue 61)) := by
    show (m.bare ⟨61, p, q⟩) = ((m.fault 8 (p)).addValue 61)
    simp [Mc.bare, show blk 61 = false from rfl]
  have hbl : blk 61 = false := rfl
  obtain ⟨W0, hW0, k0⟩ := Walk.start h ⟨61, p, q⟩
  have hxw := h.low
  obtain ⟨hb0, d0, d1, d2⟩ := k0.box
  have hx0 := k0.lt
  have hne : w.heap.size ≠ x := by omega
  obtain ⟨s0, s1, s2, s3⟩ := k0.st0
  have K0 : Hid (Walk Z S x m w.heap.size ⟨61, p, q⟩ w W0) := k0
  clear h k0
  go_enter Tryz.func222, Tryz.ntmps222
  go_wp2_with (first | (go_at_call 150; refine (blank_as (61) false _ hbl).mono ?_; rintro e w' ⟨rfl, hw'⟩; obtain rfl := hw'.symm; clear hw'))
  refine (K0.out.call (fun U h => fault_any h 8 p (by show m.tot ≤ _; omega))).mono ?_
  rintro e W1 ⟨rfl, k1⟩
  have K1 : Hid (Walk Z S x (m.fault 8 (p)) w.heap.size ⟨61, p, q⟩ w W1) := k1
  clear hb0 d0 d1 d2 hx0 s0 s1 s2 s3
  obtain ⟨hb1, d0, d1, d2⟩ := k1.box
  have hx1 := k1.lt
  obtain ⟨s0, s1, s2, s3⟩ := k1.st0
  clear k1
  go_wp2_with fail
  go_still_tail 5, (show Tryz.prog.follows .mixedOrders = true by kernel_rfl)
  go_wp2_with fail
  refine (K1.out.drew.call (fun U h => addValue_any h 61 (by show (m.fault 8 (p)).tot ≤ _; have t0 := tot_fault m 8 (p); omega))).mono ?_
  rintro e W2 ⟨rfl, k2⟩
  have K2 : Hid (Walk Z S x ((m.fault 8 (p)).addValue 61) w.heap.size ⟨61, p, q⟩ w W2) := k2
  clear hb1 d0 d1 d2 hx1 s0 s1 s2 s3
  obtain ⟨hb2, d0, d1, d2⟩ := k2.box
  have hx2 := k2.lt
  obtain ⟨s0, s1, s2, s3⟩ := k2.st0
  clear k2
  go_wp2_with fail
  first
    | refine bodyPost_end (results_none rfl _ _ _) rfl ?_
    | refine bodyPost_ret (results_none rfl _ _ _) rfl ?_
  refine ⟨rfl, ?_⟩
  rw [HE.out]
  exact K2.out.post
set_option maxHeartbeats 2000000 in
set_option maxRecDepth 20000 in
theorem bare_f96 {Z : Nat → Prop} {S : Nat → Prop} {x : Nat} {m : Mc} {w : World} (h : Mach Z S x m w) (p q : Int)   (hn : m.tot ≤ 500000000) : Calls Tryz.prog 222 #[mp x, cv ⟨96, p, q⟩] w (Did Z S x (m.bare ⟨96, p, q⟩) w) := by
  have HE : Hid ((m.bare ⟨96, p, q⟩) = ((m.fault 8 (p)).addValue 96)) := by
    show (m.bare ⟨96, p, q⟩) = ((m.fault 8 (p)).addValue 96)
    simp [Mc.bare, show blk 96 = false from rfl]
  have hbl : blk 96 = false := rfl
  obtain ⟨W0, hW0, k0⟩ := Walk.start h ⟨96, p, q⟩
  have hxw := h.low
  obtain ⟨hb0, d0, d1, d2⟩ := k0.box
  have hx0 := k0.lt
  have hne : w.heap.size ≠ x := by omega
  obtain ⟨s0, s1, s2, s3⟩ := k0.st0
  have K0 : Hid (Walk Z S x m w.heap.size ⟨96, p, q⟩ w W0) := k0
  clear h k0
  go_enter Tryz.func222, Tryz.ntmps222
  go_wp2_with (first | (go_at_call 150; refine (blank_as (96) false _ hbl).mono ?_; rintro e w' ⟨rfl, hw'⟩; obtain rfl := hw'.symm; clear hw'))
  refine (K0.out.call (fun U h => fault_any h 8 p (by show m.tot ≤ _; omega))).mono ?_
  rintro e W1 ⟨rfl, k1⟩
  have K1 : Hid (Walk Z S x (m.fault 8 (p)) w.heap.size ⟨96, p, q⟩ w W1) := k1
  clear hb0 d0 d1 d2 hx0 s0 s1 s2 s3
  obtain ⟨hb1, d0, d1, d2⟩ := k1.box
  have hx1 := k1.lt
  obtain ⟨s0, s1, s2, s3⟩ := k1.st0
  clear k1
  go_wp2_with fail
  go_still_tail 5, (show Tryz.prog.follows .mixedOrders = true by kernel_rfl)
  go_wp2_with fail
  refine (K1.out.drew.call (fun U h => addValue_any h 96 (by show (m.fault 8 (p)).tot ≤ _; have t0 := tot_fault m 8 (p); omega))).mono ?_
  rintro e W2 ⟨rfl, k2⟩
  have K2 : Hid (Walk Z S x ((m.fault 8 (p)).addValue 96) w.heap.size ⟨96, p, q⟩ w W2) := k2
  clear hb1 d0 d1 d2 hx1 s0 s1 s2 s3
  obtain ⟨hb2, d0, d1, d2⟩ := k2.box
  have hx2 := k2.lt
  obtain ⟨s0, s1, s2, s3⟩ := k2.st0
  clear k2
  go_wp2_with fail
  first
    | refine bodyPost_end (results_none rfl _ _ _) rfl ?_
    | refine bodyPost_ret (results_none rfl _ _ _) rfl ?_
  refine ⟨rfl, ?_⟩
  rw [HE.out]
  exact K2.out.post
set_option maxHeartbeats 2000000 in
set_option maxRecDepth 20000 in
theorem bare_4 {Z : Nat → Prop} {S : Nat → Prop} {x : Nat} {m : Mc} {w : World} (h : Mach Z S x m w) (r p q : Int) (hbl : blk r = false) (h38 : (r == 38) = false) (h62 : (r == 62) = false) (h34 : (r == 34) = false) (h39 : (r == 39) = false) (h60 : (r == 60) = false) (h61 : (r == 61) = false) (h96 : (r == 96) = false)  (hn : m.tot ≤ 500000000) : Calls Tryz.prog 222 #[mp x, cv ⟨r, p, q⟩] w (Did Z S x (m.bare ⟨r, p, q⟩) w) := by
  have HE : Hid ((m.bare ⟨r, p, q⟩) = (m.addValue r)) := by
    show (m.bare ⟨r, p, q⟩) = (m.addValue r)
    simp at h38 h62 h34 h39 h60 h61 h96; simp [Mc.bare, hbl, h38, h62, h34, h39, h60, h61, h96]
  obtain ⟨W0, hW0, k0⟩ := Walk.start h ⟨r, p, q⟩
  have hxw := h.low
  obtain ⟨hb0, d0, d1, d2⟩ := k0.box
  have hx0 := k0.lt
  have hne : w.heap.size ≠ x := by omega
  obtain ⟨s0, s1, s2, s3⟩ := k0.st0
  have K0 : Hid (Walk Z S x m w.heap.size ⟨r, p, q⟩ w W0) := k0
  clear h k0
  go_enter Tryz.func222, Tryz.ntmps222
  go_wp2_with (first | (go_at_call 150; refine (blank_as (r) false _ hbl).mono ?_; rintro e w' ⟨rfl, hw'⟩; obtain rfl := hw'.symm; clear hw'))
  go_still_tail 5, (show Tryz.prog.follows .mixedOrders = true by kernel_rfl)
  go_wp2_with fail
  refine (K0.out.drew.call (fun U h => addValue_any h r (by show m.tot ≤ _; omega))).mono ?_
  rintro e W1 ⟨rfl, k1⟩
  have K1 : Hid (Walk Z S x (m.addValue r) w.heap.size ⟨r, p, q⟩ w W1) := k1
  clear hb0 d0 d1 d2 hx0 s0 s1 s2 s3
  obtain ⟨hb1, d0, d1, d2⟩ := k1.box
  have hx1 := k1.lt
  obtain ⟨s0, s1, s2, s3⟩ := k1.st0
  clear k1
  go_wp2_with fail
  first
    | refine bodyPost_end (results_none rfl _ _ _) rfl ?_
    | refine bodyPost_ret (results_none rfl _ _ _) rfl ?_
  refine ⟨rfl, ?_⟩
  rw [HE.out]
  exact K1.out.post
theorem bare_any {Z : Nat → Prop} {S : Nat → Prop} {x : Nat} {m : Mc} {w : World} (h : Mach Z S x m w) (c : Ch) (hn : m.tot ≤ 500000000) : Calls Tryz.prog 222 #[mp x, cv c] w (Did Z S x (m.bare c) w) := by
  obtain ⟨r, p, q⟩ := c
  cases hbl : blk r with
  | true => exact bare_1 h r p q hbl hn
  | false =>
    by_cases h38 : r = 38
    · subst h38
      exact bare_2 h p q hn
    by_cases h62 : r = 62
    · subst h62
      exact bare_3 h p q hn
    by_cases h34 : r = 34
    · subst h34
      exact bare_f34 h p q hn
    by_cases h39 : r = 39
    · subst h39
      exact bare_f39 h p q hn
    by_cases h60 : r = 60
    · subst h60
      exact bare_f60 h p q hn
    by_cases h61 : r = 61
    · subst h61
      exact bare_f61 h p q hn
    by_cases h96 : r = 96
    · subst h96
      exact bare_f96 h p q hn
    exact bare_4 h r p q hbl (by simpa using h38) (by simpa using h62) (by simpa using h34) (by simpa using h39) (by simpa using h60) (by simpa using h61) (by simpa using h96) hn
set_option maxHeartbeats 2000000 in
set_option maxRecDepth 20000 in
theorem beforeValue_1 {Z : Nat → Prop} {S : Nat → Prop} {x : Nat} {m : Mc} {w : World} (h : Mach Z S x m w) (r p q : Int) (hbl : blk r = true)  (_hn : m.tot ≤ 490000000) : Calls Tryz.prog 209 #[mp x, cv ⟨r, p, q⟩] w (Did Z S x (m.beforeValue ⟨r, p, q⟩) w) := by
  have HE : Hid ((m.beforeValue ⟨r, p, q⟩) = m) := by
    show (m.beforeValue ⟨r, p, q⟩) = m
    simp [Mc.beforeValue, hbl]
  obtain ⟨W0, hW0, k0⟩ := Walk.start h ⟨r, p, q⟩
  have hxw := h.low
  obtain ⟨hb0, d0, d1, d2⟩ := k0.box
  have hx0 := k0.lt
  have hne : w.heap.size ≠ x := by omega
  obtain ⟨s0, s1, s2, s3⟩ := k0.st0
  have K0 : Hid (Walk Z S x m w.heap.size ⟨r, p, q⟩ w W0) := k0
  clear h k0
  go_enter Tryz.func209, Tryz.ntmps209
  go_wp2_with (first | (go_at_call 150; refine (blank_as (r) true _ hbl).mono ?_; rintro e w' ⟨rfl, hw'⟩; obtain rfl := hw'.symm; clear hw'))
  first
    | refine bodyPost_end (results_none rfl _ _ _) rfl ?_
    | refine bodyPost_ret (results_none rfl _ _ _) rfl ?_
  refine ⟨rfl, ?_⟩
  rw [HE.out]
  exact K0.out.post
set_option maxHeartbeats 2000000 in
set_option maxRecDepth 20000 in
theorem beforeValue_2 {Z : Nat → Prop} {S : Nat → Prop} {x : Nat} {m : Mc} {w : World} (h : Mach Z S x m w) (p q : Int)   (_hn : m.tot ≤ 490000000) : Calls Tryz.prog 209 #[mp x, cv ⟨34, p, q⟩] w (Did Z S x (m.beforeValue ⟨34, p, q⟩) w) := by
  have HE : Hid ((m.beforeValue ⟨34, p, q⟩) = ({ m with st := 220 } : Mc)) := by
    show (m.beforeValue ⟨34, p, q⟩) = ({ m with st := 220 } : Mc)
    simp [Mc.beforeValue, show blk 34 = false from rfl]
  have hbl : blk 34 = false := rfl
  obtain ⟨W0, hW0, k0⟩ := Walk.start h ⟨34, p, q⟩
  have hxw := h.low
  obtain ⟨hb0, d0, d1, d2⟩ := k0.box
  have hx0 := k0.lt
  have hne : w.heap.size ≠ x := by omega
  obtain ⟨s0, s1, s2, s3⟩ := k0.st0
  have K0 : Hid (Walk Z S x m w.heap.size ⟨34, p, q⟩ w W0) := k0
  clear h k0
  go_enter Tryz.func209, Tryz.ntmps209
  have K1 : Hid (Walk Z S x ({ m with st := 220 } : Mc) w.heap.size ⟨34, p, q⟩ w (W0.setCell ⟨x, 0, none⟩ (.func (.func 220) #[] #[]))) := K0.out.st 220
  have hb1 := hb0
  have hx1 := hx0
  go_wp2_with (first | (go_at_call 150; refine (blank_as (34) false _ hbl).mono ?_; rintro e w' ⟨rfl, hw'⟩; obtain rfl := hw'.symm; clear hw'))
  first
    | refine bodyPost_end (results_none rfl _ _ _) rfl ?_
    | refine bodyPost_ret (results_none rfl _ _ _) rfl ?_
  refine ⟨rfl, ?_⟩
  rw [HE.out]
  exact K1.out.post
set_option maxHeartbeats 2000000 in
set_option maxRecDepth 20000 in
theorem beforeValue_3 {Z : Nat → Prop} {S : Nat → Prop} {x : Nat} {m : Mc} {w : World} (h : Mach Z S x m w) (p q : Int)   (_hn : m.tot ≤ 490000000) : Calls Tryz.prog 209 #[mp x, cv ⟨39, p, q⟩] w (Did Z S x (m.beforeValue ⟨39, p, q⟩) w) := by
  have HE : Hid ((m.beforeValue ⟨39, p, q⟩) = ({ m with st := 221 } : Mc)) := by
    show (m.beforeValue ⟨39, p, q⟩) = ({ m with st := 221 } : Mc)
    simp [Mc.beforeValue, show blk 39 = false from rfl]
  have hbl : blk 39 = false := rfl
  obtain ⟨W0, hW0, k0⟩ := Walk.start h ⟨39, p, q⟩
  have hxw := h.low
  obtain ⟨hb0, d0, d1, d2⟩ := k0.box
  have hx0 := k0.lt
  have hne : w.heap.size ≠ x := by omega
  obtain ⟨s0, s1, s2, s3⟩ := k0.st0
  have K0 : Hid (Walk Z S x m w.heap.size ⟨39, p, q⟩ w W0) := k0
  clear h k0
  go_enter Tryz.func209, Tryz.ntmps209
  have K1 : Hid (Walk Z S x ({ m with st := 221 } : Mc) w.heap.size ⟨39, p, q⟩ w (W0.setCell ⟨x, 0, none⟩ (.func (.func 221) #[] #[]))) := K0.out.st 221
  have hb1 := hb0
  have hx1 := hx0
  go_wp2_with (first | (go_at_call 150; refine (blank_as (39) false _ hbl).mono ?_; rintro e w' ⟨rfl, hw'⟩; obtain rfl := hw'.symm; clear hw'))
  first
    | refine bodyPost_end (results_none rfl _ _ _) rfl ?_
    | refine bodyPost_ret (results_none rfl _ _ _) rfl ?_
  refine ⟨rfl, ?_⟩
  rw [HE.out]
  exact K1.out.post
set_option maxHeartbeats 2000000 in
set_option maxRecDepth 20000 in
theorem beforeValue_4 {Z : Nat → Prop} {S : Nat → Prop} {x : Nat} {m : Mc} {w : World} (h : Mach Z S x m w) (p q : Int)   (hn : m.tot ≤ 490000000) : Calls Tryz.prog 209 #[mp x, cv ⟨62, p, q⟩] w (Did Z S x (m.beforeValue ⟨62, p, q⟩) w) := by
  have HE : Hid ((m.beforeValue ⟨62, p, q⟩) = ((m.fault 10 (p)).tellTag ⟨62, p, q⟩)) := by
    show (m.beforeValue ⟨62, p, q⟩) = ((m.fault 10 (p)).tellTag ⟨62, p, q⟩)
    simp [Mc.beforeValue, show blk 62 = false from rfl]
  have hbl : blk 62 = false := rfl
  obtain ⟨W0, hW0, k0⟩ := Walk.start h ⟨62, p, q⟩
  have hxw := h.low
  obtain ⟨hb0, d0, d1, d2⟩ := k0.box
  have hx0 := k0.lt
  have hne : w.heap.size ≠ x := by omega
  obtain ⟨s0, s1, s2, s3⟩ := k0.st0
  have K0 : Hid (Walk Z S x m w.heap.size ⟨62, p, q⟩ w W0) := k0
  clear h k0
  go_enter Tryz.func209, Tryz.ntmps209
  go_wp2_with (first | (go_at_call 150; refine (blank_as (62) false _ hbl).mono ?_; rintro e w' ⟨rfl, hw'⟩; obtain rfl := hw'.symm; clear hw'))
  refine (K0.out.call (fun U h => fault_any h 10 p (by show m.tot ≤ _; omega))).mono ?_
  rintro e W1 ⟨rfl, k1⟩
  have K1 : Hid (Walk Z S x (m.fault 10 (p)) w.heap.size ⟨62, p, q⟩ w W1) := k1
  clear hb0 d0 d1 d2 hx0 s0 s1 s2 s3
  obtain ⟨hb1, d0, d1, d2⟩ := k1.box
  have hx1 := k1.lt
  obtain ⟨s0, s1, s2, s3⟩ := k1.st0
  clear k1
  go_wp2_with fail
  refine (K1.out.call (fun U h => tellTag_any h ⟨62, p, q⟩ (by show (m.fault 10 (p)).tot ≤ _; have t0 := tot_fault m 10 (p); omega))).mono ?_
  rintro e W2 ⟨rfl, k2⟩
  have K2 : Hid (Walk Z S x ((m.fault 10 (p)).tellTag ⟨62, p, q⟩) w.heap.size ⟨62, p, q⟩ w W2) := k2
  clear hb1 d0 d1 d2 hx1 s0 s1 s2 s3
  obtain ⟨hb2, d0, d1, d2⟩ := k2.box
  have hx2 := k2.lt
  obtain ⟨s0, s1, s2, s3⟩ := k2.st0
  clear k2
  go_wp2_with fail
  first
    | refine bodyPost_end (results_none rfl _ _ _) rfl ?_
    | refine bodyPost_ret (results_none rfl _ _ _) rfl ?_
  refine ⟨rfl, ?_⟩
  rw [HE.out]
  exact K2.out.post
set_option maxHeartbeats 2000000 in
set_option maxRecDepth 20000 in
theorem beforeValue_5 {Z : Nat → Prop} {S : Nat → Prop} {x : Nat} {m : Mc} {w : World} (h : Mach Z S x m w) (r p q : Int) (hbl : blk r = false) (h34 : (r == 34) = false) (h39 : (r == 39) = false) (h62 : (r == 62) = false)  (hn : m.tot ≤ 490000000) : Calls Tryz.prog 209 #[mp x, cv ⟨r, p, q⟩] w (Did Z S x (m.beforeValue ⟨r, p, q⟩) w) := by
  have HE : Hid ((m.beforeValue ⟨r, p, q⟩) = (({ m with st := 222 } : Mc).bare ⟨r, p, q⟩)) := by
    show (m.beforeValue ⟨r, p, q⟩) = (({ m with st := 222 } : Mc).bare ⟨r, p, q⟩)
    simp at h34 h39 h62; simp [Mc.beforeValue, hbl, h34, h39, h62]
  obtain ⟨W0, hW0, k0⟩ := Walk.start h ⟨r, p, q⟩
  have hxw := h.low
  obtain ⟨hb0, d0, d1, d2⟩ := k0.box
  have hx0 := k0.lt
  have hne : w.heap.size ≠ x := by omega
  obtain ⟨s0, s1, s2, s3⟩ := k0.st0
  have K0 : Hid (Walk Z S x m w.heap.size ⟨r, p, q⟩ w W0) := k0
  clear h k0
  go_enter Tryz.func209, Tryz.ntmps209
  go_wp2_with (first | (go_at_call 150; refine (blank_as (r) false _ hbl).mono ?_; rintro e w' ⟨rfl, hw'⟩; obtain rfl := hw'.symm; clear hw'))
  refine (K0.out.call (fun U h => again_any 222 en183 h ⟨r, p, q⟩ (fun U W h => bare_any h ⟨r, p, q⟩ (by show m.tot ≤ _; omega)))).mono ?_
  rintro e W1 ⟨rfl, k1⟩
  have K1 : Hid (Walk Z S x (({ m with st := 222 } : Mc).bare ⟨r, p, q⟩) w.heap.size ⟨r, p, q⟩ w W1) := k1
  clear hb0 d0 d1 d2 hx0 s0 s1 s2 s3
  obtain ⟨hb1, d0, d1, d2⟩ := k1.box
  have hx1 := k1.lt
  obtain ⟨s0, s1, s2, s3⟩ := k1.st0
  clear k1
  go_wp2_with fail
  first
    | refine bodyPost_end (results_none rfl _ _ _) rfl ?_
    | refine bodyPost_ret (results_none rfl _ _ _) rfl ?_
  refine ⟨rfl, ?_⟩
  rw [HE.out]
  exact K1.out.post
theorem beforeValue_any {Z : Nat → Prop} {S : Nat → Prop} {x : Nat} {m : Mc} {w : World} (h : Mach Z S x m w) (c : Ch) (hn : m.tot ≤ 490000000) : Calls Tryz.prog 209 #[mp x, cv c] w (Did Z S x (m.beforeValue c) w) := by
  obtain ⟨r, p, q⟩ := c
  cases hbl : blk r with
  | true => exact beforeValue_1 h r p q hbl hn
  | false =>
    by_cases h34 : r = 34
    · subst h34
      exact beforeValue_2 h p q hn
    by_cases h39 : r = 39
    · subst h39
      exact beforeValue_3 h p q hn
    by_cases h62 : r = 62
    · subst h62
      exact beforeValue_4 h p q hn
    exact beforeValue_5 h r p q hbl (by simpa using h34) (by simpa using h39) (by simpa using h62) hn
set_option maxHeartbeats 2000000 in
set_option maxRecDepth 20000 in
theorem afterEnd_1 {Z : Nat → Prop} {S : Nat → Prop} {x : Nat} {m : Mc} {w : World} (h : Mach Z S x m w) (r p q : Int) (hbl : blk r = true)  (_hn : m.tot ≤ 500000000) : Calls Tryz.prog 181 #[mp x, cv ⟨r, p, q⟩] w (Did Z S x (m.afterEnd ⟨r, p, q⟩) w) := by
  have HE : Hid ((m.afterEnd ⟨r, p, q⟩) = m) := by
    show (m.afterEnd ⟨r, p, q⟩) = m
    simp [Mc.afterEnd, hbl]
  obtain ⟨W0, hW0, k0⟩ := Walk.start h ⟨r, p, q⟩
  have hxw := h.low
  obtain ⟨hb0, d0, d1, d2⟩ := k0.box
  have hx0 := k0.lt
  have hne : w.heap.size ≠ x := by omega
  obtain ⟨s0, s1, s2, s3⟩ := k0.st0
  have K0 : Hid (Walk Z S x m w.heap.size ⟨r, p, q⟩ w W0) := k0
  clear h k0
  go_enter Tryz.func181, Tryz.ntmps181
  go_wp2_with (first | (go_at_call 150; refine (blank_as (r) true _ hbl).mono ?_; rintro e w' ⟨rfl, hw'⟩; obtain rfl := hw'.symm; clear hw'))
  first
    | refine bodyPost_end (results_none rfl _ _ _) rfl ?_
    | refine bodyPost_ret (results_none rfl _ _ _) rfl ?_
  refine ⟨rfl, ?_⟩
  rw [HE.out]
  exact K0.out.post
set_option maxHeartbeats 2000000 in
set_option maxRecDepth 20000 in
theorem afterEnd_2 {Z : Nat → Prop} {S : Nat → Prop} {x : Nat} {m : Mc} {w : World} (h : Mach Z S x m w) (p q : Int)   (_hn : m.tot ≤ 500000000) : Calls Tryz.prog 181 #[mp x, cv ⟨47, p, q⟩] w (Did Z S x (m.afterEnd ⟨47, p, q⟩) w) := by
  have HE : Hid ((m.afterEnd ⟨47, p, q⟩) = ({ m with st := 152 } : Mc)) := by
    show (m.afterEnd ⟨47, p, q⟩) = ({ m with st := 152 } : Mc)
    simp [Mc.afterEnd, show blk 47 = false from rfl]
  have hbl : blk 47 = false := rfl
  obtain ⟨W0, hW0, k0⟩ := Walk.start h ⟨47, p, q⟩
  have hxw := h.low
  obtain ⟨hb0, d0, d1, d2⟩ := k0.box
  have hx0 := k0.lt
  have hne : w.heap.size ≠ x := by omega
  obtain ⟨s0, s1, s2, s3⟩ := k0.st0
  have K0 : Hid (Walk Z S x m w.heap.size ⟨47, p, q⟩ w W0) := k0
  clear h k0
  go_enter Tryz.func181, Tryz.ntmps181
  have K1 : Hid (Walk Z S x ({ m with st := 152 } : Mc) w.heap.size ⟨47, p, q⟩ w (W0.setCell ⟨x, 0, none⟩ (.func (.func 152) #[] #[]))) := K0.out.st 152
  have hb1 := hb0
  have hx1 := hx0
  go_wp2_with (first | (go_at_call 150; refine (blank_as (47) false _ hbl).mono ?_; rintro e w' ⟨rfl, hw'⟩; obtain rfl := hw'.symm; clear hw'))
  first
    | refine bodyPost_end (results_none rfl _ _ _) rfl ?_
    | refine bodyPost_ret (results_none rfl _ _ _) rfl ?_
  refine ⟨rfl, ?_⟩
  rw [HE.out]
  exact K1.out.post
set_option maxHeartbeats 2000000 in
set_option maxRecDepth 20000 in
theorem afterEnd_3 {Z : Nat → Prop} {S : Nat → Prop} {x : Nat} {m : Mc} {w : World} (h : Mach Z S x m w) (p q : Int)   (hn : m.tot ≤ 500000000) : Calls Tryz.prog 181 #[mp x, cv ⟨62, p, q⟩] w (Did Z S x (m.afterEnd ⟨62, p, q⟩) w) := by
  have HE : Hid ((m.afterEnd ⟨62, p, q⟩) = (m.tellTag ⟨62, p, q⟩)) := by
    show (m.afterEnd ⟨62, p, q⟩) = (m.tellTag ⟨62, p, q⟩)
    simp [Mc.afterEnd, show blk 62 = false from rfl]
  have hbl : blk 62 = false := rfl
  obtain ⟨W0, hW0, k0⟩ := Walk.start h ⟨62, p, q⟩
  have hxw := h.low
  obtain ⟨hb0, d0, d1, d2⟩ := k0.box
  have hx0 := k0.lt
  have hne : w.heap.size ≠ x := by omega
  obtain ⟨s0, s1, s2, s3⟩ := k0.st0
  have K0 : Hid (Walk Z S x m w.heap.size ⟨62, p, q⟩ w W0) := k0
  clear h k0
  go_enter Tryz.func181, Tryz.ntmps181
  go_wp2_with (first | (go_at_call 150; refine (blank_as (62) false _ hbl).mono ?_; rintro e w' ⟨rfl, hw'⟩; obtain rfl := hw'.symm; clear hw'))
  refine (K0.out.call (fun U h => tellTag_any h ⟨62, p, q⟩ (by show m.tot ≤ _; omega))).mono ?_
  rintro e W1 ⟨rfl, k1⟩
  have K1 : Hid (Walk Z S x (m.tellTag ⟨62, p, q⟩) w.heap.size ⟨62, p, q⟩ w W1) := k1
  clear hb0 d0 d1 d2 hx0 s0 s1 s2 s3
  obtain ⟨hb1, d0, d1, d2⟩ := k1.box
  have hx1 := k1.lt
  obtain ⟨s0, s1, s2, s3⟩ := k1.st0
  clear k1
  go_wp2_with fail
  first
    | refine bodyPost_end (results_none rfl _ _ _) rfl ?_
    | refine bodyPost_ret (results_none rfl _ _ _) rfl ?_
  refine ⟨rfl, ?_⟩
  rw [HE.out]
  exact K1.out.post
set_option maxHeartbeats 2000000 in
set_option maxRecDepth 20000 in
theorem name_1 {Z : Nat → Prop} {S : Nat → Prop} {x : Nat} {m : Mc} {w : World} (h : Mach Z S x m w) (r p q : Int) (hbl : blk r = true)  (hn : m.tot ≤ 490000000) : Calls Tryz.prog 184 #[mp x, cv ⟨r, p, q⟩] w (Did Z S x (m.name ⟨r, p, q⟩) w) := by
  have HE : Hid ((m.name ⟨r, p, q⟩) = (({ m.endName with st := 181 } : Mc).afterEnd ⟨r, p, q⟩)) := by
    show (m.name ⟨r, p, q⟩) = (({ m.endName with st := 181 } : Mc).afterEnd ⟨r, p, q⟩)
    simp [Mc.name, Mc.inName, hbl]
  obtain ⟨W0, hW0, k0⟩ := Walk.start h ⟨r, p, q⟩
  have hxw := h.low
  obtain ⟨hb0, d0, d1, d2⟩ := k0.box
  have hx0 := k0.lt
  have hne : w.heap.size ≠ x := by omega
  obtain ⟨s0, s1, s2, s3⟩ := k0.st0
  have K0 : Hid (Walk Z S x m w.heap.size ⟨r, p, q⟩ w W0) := k0
  clear h k0
  go_enter Tryz.func184, Tryz.ntmps184
  go_wp2_with (first | (go_at_call 150; refine (blank_as (r) true _ hbl).mono ?_; rintro e w' ⟨rfl, hw'⟩; obtain rfl := hw'.symm; clear hw'))
  refine (K0.out.call (fun U h => endName_any h (by show m.tot ≤ _; omega))).mono ?_
  rintro e W1 ⟨rfl, k1⟩
  have K1 : Hid (Walk Z S x m.endName w.heap.size ⟨r, p, q⟩ w W1) := k1
  clear hb0 d0 d1 d2 hx0 s0 s1 s2 s3
  obtain ⟨hb1, d0, d1, d2⟩ := k1.box
  have hx1 := k1.lt
  obtain ⟨s0, s1, s2, s3⟩ := k1.st0
  clear k1
  go_wp2_with fail
  refine (K1.out.call (fun U h => again_any 181 en148 h ⟨r, p, q⟩ (fun U W h => afterEnd_1 h r p q hbl (by show m.endName.tot ≤ _; have t0 := tot_endName m; omega)))).mono ?_
  rintro e W2 ⟨rfl, k2⟩
  have K2 : Hid (Walk Z S x (({ m.endName with st := 181 } : Mc).afterEnd ⟨r, p, q⟩) w.heap.size ⟨r, p, q⟩ w W2) := k2
  clear hb1 d0 d1 d2 hx1 s0 s1 s2 s3
  obtain ⟨hb2, d0, d1, d2⟩ := k2.box
  have hx2 := k2.lt
  obtain ⟨s0, s1, s2, s3⟩ := k2.st0
  clear k2
  go_wp2_with fail
  first
    | refine bodyPost_end (results_none rfl _ _ _) rfl ?_
    | refine bodyPost_ret (results_none rfl _ _ _) rfl ?_
  refine ⟨rfl, ?_⟩
  rw [HE.out]
  exact K2.out.post
set_option maxHeartbeats 2000000 in
set_option maxRecDepth 20000 in
theorem name_2 {Z : Nat → Prop} {S : Nat → Prop} {x : Nat} {m : Mc} {w : World} (h : Mach Z S x m w) (p q : Int)   (hn : m.tot ≤ 490000000) : Calls Tryz.prog 184 #[mp x, cv ⟨47, p, q⟩] w (Did Z S x (m.name ⟨47, p, q⟩) w) := by
  have HE : Hid ((m.name ⟨47, p, q⟩) = (({ m.endName with st := 181 } : Mc).afterEnd ⟨47, p, q⟩)) := by
    show (m.name ⟨47, p, q⟩) = (({ m.endName with st := 181 } : Mc).afterEnd ⟨47, p, q⟩)
    simp [Mc.name, Mc.inName, show blk 47 = false from rfl]
  have hbl : blk 47 = false := rfl
  obtain ⟨W0, hW0, k0⟩ := Walk.start h ⟨47, p, q⟩
  have hxw := h.low
  obtain ⟨hb0, d0, d1, d2⟩ := k0.box
  have hx0 := k0.lt
  have hne : w.heap.size ≠ x := by omega
  obtain ⟨s0, s1, s2, s3⟩ := k0.st0
  have K0 : Hid (Walk Z S x m w.heap.size ⟨47, p, q⟩ w W0) := k0
  clear h k0
  go_enter Tryz.func184, Tryz.ntmps184
  go_wp2_with (first | (go_at_call 150; refine (blank_as (47) false _ hbl).mono ?_; rintro e w' ⟨rfl, hw'⟩; obtain rfl := hw'.symm; clear hw'))
  refine (K0.out.call (fun U h => endName_any h (by show m.tot ≤ _; omega))).mono ?_
  rintro e W1 ⟨rfl, k1⟩
  have K1 : Hid (Walk Z S x m.endName w.heap.size ⟨47, p, q⟩ w W1) := k1
  clear hb0 d0 d1 d2 hx0 s0 s1 s2 s3
  obtain ⟨hb1, d0, d1, d2⟩ := k1.box
  have hx1 := k1.lt
  obtain ⟨s0, s1, s2, s3⟩ := k1.st0
  clear k1
  go_wp2_with fail
  refine (K1.out.call (fun U h => again_any 181 en148 h ⟨47, p, q⟩ (fun U W h => afterEnd_2 h p q (by show m.endName.tot ≤ _; have t0 := tot_endName m; omega)))).mono ?_
  rintro e W2 ⟨rfl, k2⟩
  have K2 : Hid (Walk Z S x (({ m.endName with st := 181 } : Mc).afterEnd ⟨47, p, q⟩) w.heap.size ⟨47, p, q⟩ w W2) := k2
  clear hb1 d0 d1 d2 hx1 s0 s1 s2 s3
  obtain ⟨hb2, d0, d1, d2⟩ := k2.box
  have hx2 := k2.lt
  obtain ⟨s0, s1, s2, s3⟩ := k2.st0
  clear k2
  go_wp2_with fail
  first
    | refine bodyPost_end (results_none rfl _ _ _) rfl ?_
    | refine bodyPost_ret (results_none rfl _ _ _) rfl ?_
  refine ⟨rfl, ?_⟩
  rw [HE.out]
  exact K2.out.post
set_option maxHeartbeats 2000000 in
set_option maxRecDepth 20000 in
theorem name_3 {Z : Nat → Prop} {S : Nat → Prop} {x : Nat} {m : Mc} {w : World} (h : Mach Z S x m w) (p q : Int)   (hn : m.tot ≤ 490000000) : Calls Tryz.prog 184 #[mp x, cv ⟨62, p, q⟩] w (Did Z S x (m.name ⟨62, p, q⟩) w) := by
  have HE : Hid ((m.name ⟨62, p, q⟩) = (({ m.endName with st := 181 } : Mc).afterEnd ⟨62, p, q⟩)) := by
    show (m.name ⟨62, p, q⟩) = (({ m.endName with st := 181 } : Mc).afterEnd ⟨62, p, q⟩)
    simp [Mc.name, Mc.inName, show blk 62 = false from rfl]
  have hbl : blk 62 = false := rfl
  obtain ⟨W0, hW0, k0⟩ := Walk.start h ⟨62, p, q⟩
  have hxw := h.low
  obtain ⟨hb0, d0, d1, d2⟩ := k0.box
  have hx0 := k0.lt
  have hne : w.heap.size ≠ x := by omega
  obtain ⟨s0, s1, s2, s3⟩ := k0.st0
  have K0 : Hid (Walk Z S x m w.heap.size ⟨62, p, q⟩ w W0) := k0
  clear h k0
  go_enter Tryz.func184, Tryz.ntmps184
  go_wp2_with (first | (go_at_call 150; refine (blank_as (62) false _ hbl).mono ?_; rintro e w' ⟨rfl, hw'⟩; obtain rfl := hw'.symm; clear hw'))
  refine (K0.out.call (fun U h => endName_any h (by show m.tot ≤ _; omega))).mono ?_
  rintro e W1 ⟨rfl, k1⟩
  have K1 : Hid (Walk Z S x m.endName w.heap.size ⟨62, p, q⟩ w W1) := k1
  clear hb0 d0 d1 d2 hx0 s0 s1 s2 s3
  obtain ⟨hb1, d0, d1, d2⟩ := k1.box
  have hx1 := k1.lt
  obtain ⟨s0, s1, s2, s3⟩ := k1.st0
  clear k1
  go_wp2_with fail
  refine (K1.out.call (fun U h => again_any 181 en148 h ⟨62, p, q⟩ (fun U W h => afterEnd_3 h p q (by show m.endName.tot ≤ _; have t0 := tot_endName m; omega)))).mono ?_
  rintro e W2 ⟨rfl, k2⟩
  have K2 : Hid (Walk Z S x (({ m.endName with st := 181 } : Mc).afterEnd ⟨62, p, q⟩) w.heap.size ⟨62, p, q⟩ w W2) := k2
  clear hb1 d0 d1 d2 hx1 s0 s1 s2 s3
  obtain ⟨hb2, d0, d1, d2⟩ := k2.box
  have hx2 := k2.lt
  obtain ⟨s0, s1, s2, s3⟩ := k2.st0
  clear k2
  go_wp2_with fail
  first
    | refine bodyPost_end (results_none rfl _ _ _) rfl ?_
    | refine bodyPost_ret (results_none rfl _ _ _) rfl ?_
  refine ⟨rfl, ?_⟩
  rw [HE.out]
  exact K2.out.post
set_option maxHeartbeats 2000000 in
set_option maxRecDepth 20000 in
theorem name_4 {Z : Nat → Prop} {S : Nat → Prop} {x : Nat} {m : Mc} {w : World} (h : Mach Z S x m w) (p q : Int)   (hn : m.tot ≤ 490000000) : Calls Tryz.prog 184 #[mp x, cv ⟨61, p, q⟩] w (Did Z S x (m.name ⟨61, p, q⟩) w) := by
  have HE : Hid ((m.name ⟨61, p, q⟩) = ({ m.endName with st := 209 } : Mc)) := by
    show (m.name ⟨61, p, q⟩) = ({ m.endName with st := 209 } : Mc)
    simp [Mc.name, Mc.inName, show blk 61 = false from rfl]
  have hbl : blk 61 = false := rfl
  obtain ⟨W0, hW0, k0⟩ := Walk.start h ⟨61, p, q⟩
  have hxw := h.low
  obtain ⟨hb0, d0, d1, d2⟩ := k0.box
  have hx0 := k0.lt
  have hne : w.heap.size ≠ x := by omega
  obtain ⟨s0, s1, s2, s3⟩ := k0.st0
  have K0 : Hid (Walk Z S x m w.heap.size ⟨61, p, q⟩ w W0) := k0
  clear h k0
  go_enter Tryz.func184, Tryz.ntmps184
  go_wp2_with (first | (go_at_call 150; refine (blank_as (61) false _ hbl).mono ?_; rintro e w' ⟨rfl, hw'⟩; obtain rfl := hw'.symm; clear hw'))
  refine (K0.out.call (fun U h => endName_any h (by show m.tot ≤ _; omega))).mono ?_
  rintro e W1 ⟨rfl, k1⟩
  have K1 : Hid (Walk Z S x m.endName w.heap.size ⟨61, p, q⟩ w W1) := k1
  clear hb0 d0 d1 d2 hx0 s0 s1 s2 s3
  obtain ⟨hb1, d0, d1, d2⟩ := k1.box
  have hx1 := k1.lt
  obtain ⟨s0, s1, s2, s3⟩ := k1.st0
  clear k1
  have K2 : Hid (Walk Z S x ({ m.endName with st := 209 } : Mc) w.heap.size ⟨61, p, q⟩ w (W1.setCell ⟨x, 0, none⟩ (.func (.func 209) #[] #[]))) := K1.out.st 209
  have hb2 := hb1
  have hx2 := hx1
  go_wp2_with fail
  first
    | refine bodyPost_end (results_none rfl _ _ _) rfl ?_
    | refine bodyPost_ret (results_none rfl _ _ _) rfl ?_
  refine ⟨rfl, ?_⟩
  rw [HE.out]
  exact K2.out.post
set_option maxHeartbeats 2000000 in
set_option maxRecDepth 20000 in
theorem name_f34 {Z : Nat → Prop} {S : Nat → Prop} {x : Nat} {m : Mc} {w : World} (h : Mach Z S x m w) (p q : Int)   (hn : m.tot ≤ 490000000) : Calls Tryz.prog 184 #[mp x, cv ⟨34, p, q⟩] w (Did Z S x (m.name ⟨34, p, q⟩) w) := by
  have HE : Hid ((m.name ⟨34, p, q⟩) = ((m.fault 8 (p)).addAttr 34)) := by
    show (m.name ⟨34, p, q⟩) = ((m.fault 8 (p)).addAttr 34)
    simp [Mc.name, Mc.inName, show blk 34 = false from rfl]
  have hbl : blk 34 = false := rfl
  obtain ⟨W0, hW0, k0⟩ := Walk.start h ⟨34, p, q⟩
  have hxw := h.low
  obtain ⟨hb0, d0, d1, d2⟩ := k0.box
  have hx0 := k0.lt
  have hne : w.heap.size ≠ x := by omega
  obtain ⟨s0, s1, s2, s3⟩ := k0.st0
  have K0 : Hid (Walk Z S x m w.heap.size ⟨34, p, q⟩ w W0) := k0
  clear h k0
  go_enter Tryz.func184, Tryz.ntmps184
  go_wp2_with (first | (go_at_call 150; refine (blank_as (34) false _ hbl).mono ?_; rintro e w' ⟨rfl, hw'⟩; obtain rfl := hw'.symm; clear hw'))
  refine (K0.out.call (fun U h => fault_any h 8 p (by show m.tot ≤ _; omega))).mono ?_
  rintro e W1 ⟨rfl, k1⟩
  have K1 : Hid (Walk Z S x (m.fault 8 (p)) w.heap.size ⟨34, p, q⟩ w W1) := k1
  clear hb0 d0 d1 d2 hx0 s0 s1 s2 s3
  obtain ⟨hb1, d0, d1, d2⟩ := k1.box
  have hx1 := k1.lt
  obtain ⟨s0, s1, s2, s3⟩ := k1.st0
  clear k1
  go_wp2_with fail
  go_still_tail 5, (show Tryz.prog.follows .mixedOrders = true by kernel_rfl)
  go_wp2_with fail
  refine (K1.out.drew.call (fun U h => addAttr_any h 34 (by show (m.fault 8 (p)).tot ≤ _; have t0 := tot_fault m 8 (p); omega))).mono ?_
  rintro e W2 ⟨rfl, k2⟩
  have K2 : Hid (Walk Z S x ((m.fault 8 (p)).addAttr 34) w.heap.size ⟨34, p, q⟩ w W2) := k2
  clear hb1 d0 d1 d2 hx1 s0 s1 s2 s3
  obtain ⟨hb2, d0, d1, d2⟩ := k2.box
  have hx2 := k2.lt
  obtain ⟨s0, s1, s2, s3⟩ := k2.st0
  clear k2
  go_wp2_with fail
  first
    | refine bodyPost_end (results_none rfl _ _ _) rfl ?_
    | refine bodyPost_ret (results_none rfl _ _ _) rfl ?_
  refine ⟨rfl, ?_⟩
  rw [HE.out]
  exact K2.out.post
set_option maxHeartbeats 2000000 in
set_option maxRecDepth 20000 in
theorem name_f39 {Z : Nat → Prop} {S : Nat → Prop} {x : Nat} {m : Mc} {w : World} (h : Mach Z S x m w) (p q : Int)   (hn : m.tot ≤ 490000000) : Calls Tryz.prog 184 #[mp x, cv ⟨39, p, q⟩] w (Did Z S x (m.name ⟨39, p, q⟩) w) := by
  have HE : Hid ((m.name ⟨39, p, q⟩) = ((m.fault 8 (p)).addAttr 39)) := by
    show (m.name ⟨39, p, q⟩) = ((m.fault 8 (p)).addAttr 39)
    simp [Mc.name, Mc.inName, show blk 39 = false from rfl]
  have hbl : blk 39 = false := rfl
  obtain ⟨W0, hW0, k0⟩ := Walk.start h ⟨39, p, q⟩
  have hxw := h.low
  obtain ⟨hb0, d0, d1, d2⟩ := k0.box
  have hx0 := k0.lt
  have hne : w.heap.size ≠ x := by omega
  obtain ⟨s0, s1, s2, s3⟩ := k0.st0
  have K0 : Hid (Walk Z S x m w.heap.size ⟨39, p, q⟩ w W0) := k0
  clear h k0
  go_enter Tryz.func184, Tryz.ntmps184
  go_wp2_with (first | (go_at_call 150; refine (blank_as (39) false _ hbl).mono ?_; rintro e w' ⟨rfl, hw'⟩; obtain rfl := hw'.symm; clear hw'))
  refine (K0.out.call (fun U h => fault_any h 8 p (by show m.tot ≤ _; omega))).mono ?_
  rintro e W1 ⟨rfl, k1⟩
  have K1 : Hid (Walk Z S x (m.fault 8 (p)) w.heap.size ⟨39, p, q⟩ w W1) := k1
  clear hb0 d0 d1 d2 hx0 s0 s1 s2 s3
  obtain ⟨hb1, d0, d1, d2⟩ := k1.box
  have hx1 := k1.lt
  obtain ⟨s0, s1, s2, s3⟩ := k1.st0
  clear k1
  go_wp2_with fail
  go_still_tail 5, (show Tryz.prog.follows .mixedOrders = true by kernel_rfl)
  go_wp2_with fail
  refine (K1.out.drew.call (fun U h => addAttr_any h 39 (by show (m.fault 8 (p)).tot ≤ _; have t0 := tot_fault m 8 (p); omega))).mono ?_
  rintro e W2 ⟨rfl, k2⟩
  have K2 : Hid (Walk Z S x ((m.fault 8 (p)).addAttr 39) w.heap.size ⟨39, p, q⟩ w W2) := k2
  clear hb1 d0 d1 d2 hx1 s0 s1 s2 s3
  obtain ⟨hb2, d0, d1, d2⟩ := k2.box
  have hx2 := k2.lt
  obtain ⟨s0, s1, s2, s3⟩ := k2.st0
  clear k2
  go_wp2_with fail
  first
    | refine bodyPost_end (results_none rfl _ _ _) rfl ?_
    | refine bodyPost_ret (results_none rfl _ _ _) rfl ?_
  refine ⟨rfl, ?_⟩
  rw [HE.out]
  exact K2.out.post
set_option maxHeartbeats 2000000 in
set_option maxRecDepth 20000 in
theorem name_f60 {Z : Nat → Prop} {S : Nat → Prop} {x : Nat} {m : Mc} {w : World} (h : Mach Z S x m w) (p q : Int)   (hn : m.tot ≤ 490000000) : Calls Tryz.prog 184 #[mp x, cv ⟨60, p, q⟩] w (Did Z S x (m.name ⟨60, p, q⟩) w) := by
  have HE : Hid ((m.name ⟨60, p, q⟩) = ((m.fault 8 (p)).addAttr 60)) := by
    show (m.name ⟨60, p, q⟩) = ((m.fault 8 (p)).addAttr 60)
    simp [Mc.name, Mc.inName, show blk 60 = false from rfl]
  have hbl : blk 60 = false := rfl
  obtain ⟨W0, hW0, k0⟩ := Walk.start h ⟨60, p, q⟩
  have hxw := h.low
  obtain ⟨hb0, d0, d1, d2⟩ := k0.box
  have hx0 := k0.lt
  have hne : w.heap.size ≠ x := by omega
  obtain ⟨s0, s1, s2, s3⟩ := k0.st0
  have K0 : Hid (Walk Z S x m w.heap.size ⟨60, p, q⟩ w W0) := k0
  clear h k0
  go_enter Tryz.func184, Tryz.ntmps184
  go_wp2_with (first | (go_at_call 150; refine (blank_as (60) false _ hbl).mono ?_; rintro e w' ⟨rfl, hw'⟩; obtain rfl := hw'.symm; clear hw'))
  refine (K0.out.call (fun U h => fault_any h 8 p (by show m.tot ≤ _; omega))).mono ?_
  rintro e W1 ⟨rfl, k1⟩
  have K1 : Hid (Walk Z S x (m.fault 8 (p)) w.heap.size ⟨60, p, q⟩ w W1) := k1
  clear hb0 d0 d1 d2 hx0 s0 s1 s2 s3
  obtain ⟨hb1, d0, d1, d2⟩ := k1.box
  have hx1 := k1.lt
  obtain ⟨s0, s1, s2, s3⟩ := k1.st0
  clear k1
  go_wp2_with fail
  go_still_tail 5, (show Tryz.prog.follows .mixedOrders = true by kernel_rfl)
  go_wp2_with fail
  refine (K1.out.drew.call (fun U h => addAttr_any h 60 (by show (m.fault 8 (p)).tot ≤ _; have t0 := tot_fault m 8 (p); omega))).mono ?_
  rintro e W2 ⟨rfl, k2⟩
  have K2 : Hid (Walk Z S x ((m.fault 8 (p)).addAttr 60) w.heap.size ⟨60, p, q⟩ w W2) := k2
  clear hb1 d0 d1 d2 hx1 s0 s1 s2 s3
  obtain ⟨hb2, d0, d1, d2⟩ := k2.box
  have hx2 := k2.lt
  obtain ⟨s0, s1, s2, s3⟩ := k2.st0
  clear k2
  go_wp2_with fail
  first
    | refine bodyPost_end (results_none rfl _ _ _) rfl ?_
    | refine bodyPost_ret (results_none rfl _ _ _) rfl ?_
  refine ⟨rfl, ?_⟩
  rw [HE.out]
  exact K2.out.post
set_option maxHeartbeats 2000000 in
set_option maxRecDepth 20000 in
theorem name_5 {Z : Nat → Prop} {S : Nat → Prop} {x : Nat} {m : Mc} {w : World} (h : Mach Z S x m w) (r p q : Int) (hbl : blk r = false) (h47 : (r == 47) = false) (h62 : (r == 62) = false) (h61 : (r == 61) = false) (h34 : (r == 34) = false) (h39 : (r == 39) = false) (h60 : (r == 60) = false)  (hn : m.tot ≤ 490000000) : Calls Tryz.prog 184 #[mp x, cv ⟨r, p, q⟩] w (Did Z S x (m.name ⟨r, p, q⟩) w) := by
  have HE : Hid ((m.name ⟨r, p, q⟩) = (m.addAttr r)) := by
    show (m.name ⟨r, p, q⟩) = (m.addAttr r)
    simp at h47 h62 h61 h34 h39 h60; simp [Mc.name, Mc.inName, hbl, h47, h62, h61, h34, h39, h60]
  obtain ⟨W0, hW0, k0⟩ := Walk.start h ⟨r, p, q⟩
  have hxw := h.low
  obtain ⟨hb0, d0, d1, d2⟩ := k0.box
  have hx0 := k0.lt
  have hne : w.heap.size ≠ x := by omega
  obtain ⟨s0, s1, s2, s3⟩ := k0.st0
  have K0 : Hid (Walk Z S x m w.heap.size ⟨r, p, q⟩ w W0) := k0
  clear h k0
  go_enter Tryz.func184, Tryz.ntmps184
  go_wp2_with (first | (go_at_call 150; refine (blank_as (r) false _ hbl).mono ?_; rintro e w' ⟨rfl, hw'⟩; obtain rfl := hw'.symm; clear hw'))
  go_still_tail 5, (show Tryz.prog.follows .mixedOrders = true by kernel_rfl)
  go_wp2_with fail
  refine (K0.out.drew.call (fun U h => addAttr_any h r (by show m.tot ≤ _; omega))).mono ?_
  rintro e W1 ⟨rfl, k1⟩
  have K1 : Hid (Walk Z S x (m.addAttr r) w.heap.size ⟨r, p, q⟩ w W1) := k1
  clear hb0 d0 d1 d2 hx0 s0 s1 s2 s3
  obtain ⟨hb1, d0, d1, d2⟩ := k1.box
  have hx1 := k1.lt
  obtain ⟨s0, s1, s2, s3⟩ := k1.st0
  clear k1
  go_wp2_with fail
  first
    | refine bodyPost_end (results_none rfl _ _ _) rfl ?_
    | refine bodyPost_ret (results_none rfl _ _ _) rfl ?_
  refine ⟨rfl, ?_⟩
  rw [HE.out]
  exact K1.out.post
theorem name_any {Z : Nat → Prop} {S : Nat → Prop} {x : Nat} {m : Mc} {w : World} (h : Mach Z S x m w) (c : Ch) (hn : m.tot ≤ 490000000) : Calls Tryz.prog 184 #[mp x, cv c] w (Did Z S x (m.name c) w) := by
  obtain ⟨r, p, q⟩ := c
  cases hbl : blk r with
  | true => exact name_1 h r p q hbl hn
  | false =>
    by_cases h47 : r = 47
    · subst h47
      exact name_2 h p q hn
    by_cases h62 : r = 62
    · subst h62
      exact name_3 h p q hn
    by_cases h61 : r = 61
    · subst h61
      exact name_4 h p q hn
    by_cases h34 : r = 34
    · subst h34
      exact name_f34 h p q hn
    by_cases h39 : r = 39
    · subst h39
      exact name_f39 h p q hn
    by_cases h60 : r = 60
    · subst h60
      exact name_f60 h p q hn
    exact name_5 h r p q hbl (by simpa using h47) (by simpa using h62) (by simpa using h61) (by simpa using h34) (by simpa using h39) (by simpa using h60) hn
set_option maxHeartbeats 2000000 in
set_option maxRecDepth 20000 in
theorem afterName_1 {Z : Nat → Prop} {S : Nat → Prop} {x : Nat} {m : Mc} {w : World} (h : Mach Z S x m w) (r p q : Int) (hbl : blk r = true)  (_hn : m.tot ≤ 480000000) : Calls Tryz.prog 181 #[mp x, cv ⟨r, p, q⟩] w (Did Z S x (m.afterName ⟨r, p, q⟩) w) := by
  have HE : Hid ((m.afterName ⟨r, p, q⟩) = m) := by
    show (m.afterName ⟨r, p, q⟩) = m
    simp [Mc.afterName, hbl]
  obtain ⟨W0, hW0, k0⟩ := Walk.start h ⟨r, p, q⟩
  have hxw := h.low
  obtain ⟨hb0, d0, d1, d2⟩ := k0.box
  have hx0 := k0.lt
  have hne : w.heap.size ≠ x := by omega
  obtain ⟨s0, s1, s2, s3⟩ := k0.st0
  have K0 : Hid (Walk Z S x m w.heap.size ⟨r, p, q⟩ w W0) := k0
  clear h k0
  go_enter Tryz.func181, Tryz.ntmps181
  go_wp2_with (first | (go_at_call 150; refine (blank_as (r) true _ hbl).mono ?_; rintro e w' ⟨rfl, hw'⟩; obtain rfl := hw'.symm; clear hw'))
  first
    | refine bodyPost_end (results_none rfl _ _ _) rfl ?_
    | refine bodyPost_ret (results_none rfl _ _ _) rfl ?_
  refine ⟨rfl, ?_⟩
  rw [HE.out]
  exact K0.out.post
set_option maxHeartbeats 2000000 in
set_option maxRecDepth 20000 in
theorem afterName_2 {Z : Nat → Prop} {S : Nat → Prop} {x : Nat} {m : Mc} {w : World} (h : Mach Z S x m w) (p q : Int)   (_hn : m.tot ≤ 480000000) : Calls Tryz.prog 181 #[mp x, cv ⟨47, p, q⟩] w (Did Z S x (m.afterName ⟨47, p, q⟩) w) := by
  have HE : Hid ((m.afterName ⟨47, p, q⟩) = ({ m with st := 152 } : Mc)) := by
    show (m.afterName ⟨47, p, q⟩) = ({ m with st := 152 } : Mc)
    simp [Mc.afterName, show blk 47 = false from rfl]
  have hbl : blk 47 = false := rfl
  obtain ⟨W0, hW0, k0⟩ := Walk.start h ⟨47, p, q⟩
  have hxw := h.low
  obtain ⟨hb0, d0, d1, d2⟩ := k0.box
  have hx0 := k0.lt
  have hne : w.heap.size ≠ x := by omega
  obtain ⟨s0, s1, s2, s3⟩ := k0.st0
  have K0 : Hid (Walk Z S x m w.heap.size ⟨47, p, q⟩ w W0) := k0
  clear h k0
  go_enter Tryz.func181, Tryz.ntmps181
  have K1 : Hid (Walk Z S x ({ m with st := 152 } : Mc) w.heap.size ⟨47, p, q⟩ w (W0.setCell ⟨x, 0, none⟩ (.func (.func 152) #[] #[]))) := K0.out.st 152
  have hb1 := hb0
  have hx1 := hx0
  go_wp2_with (first | (go_at_call 150; refine (blank_as (47) false _ hbl).mono ?_; rintro e w' ⟨rfl, hw'⟩; obtain rfl := hw'.symm; clear hw'))
  first
    | refine bodyPost_end (results_none rfl _ _ _) rfl ?_
    | refine bodyPost_ret (results_none rfl _ _ _) rfl ?_
  refine ⟨rfl, ?_⟩
  rw [HE.out]
  exact K1.out.post
set_option maxHeartbeats 2000000 in
set_option maxRecDepth 20000 in
theorem afterName_3 {Z : Nat → Prop} {S : Nat → Prop} {x : Nat} {m : Mc} {w : World} (h : Mach Z S x m w) (p q : Int)   (_hn : m.tot ≤ 480000000) : Calls Tryz.prog 181 #[mp x, cv ⟨61, p, q⟩] w (Did Z S x (m.afterName ⟨61, p, q⟩) w) := by
  have HE : Hid ((m.afterName ⟨61, p, q⟩) = ({ m with st := 209 } : Mc)) := by
    show (m.afterName ⟨61, p, q⟩) = ({ m with st := 209 } : Mc)
    simp [Mc.afterName, show blk 61 = false from rfl]
  have hbl : blk 61 = false := rfl
  obtain ⟨W0, hW0, k0⟩ := Walk.start h ⟨61, p, q⟩
  have hxw := h.low
  obtain ⟨hb0, d0, d1, d2⟩ := k0.box
  have hx0 := k0.lt
  have hne : w.heap.size ≠ x := by omega
  obtain ⟨s0, s1, s2, s3⟩ := k0.st0
  have K0 : Hid (Walk Z S x m w.heap.size ⟨61, p, q⟩ w W0) := k0
  clear h k0
  go_enter Tryz.func181, Tryz.ntmps181
  have K1 : Hid (Walk Z S x ({ m with st := 209 } : Mc) w.heap.size ⟨61, p, q⟩ w (W0.setCell ⟨x, 0, none⟩ (.func (.func 209) #[] #[]))) := K0.out.st 209
  have hb1 := hb0
  have hx1 := hx0
  go_wp2_with (first | (go_at_call 150; refine (blank_as (61) false _ hbl).mono ?_; rintro e w' ⟨rfl, hw'⟩; obtain rfl := hw'.symm; clear hw'))
  first
    | refine bodyPost_end (results_none rfl _ _ _) rfl ?_
    | refine bodyPost_ret (results_none rfl _ _ _) rfl ?_
  refine ⟨rfl, ?_⟩
  rw [HE.out]
  exact K1.out.post
set_option maxHeartbeats 2000000 in
set_option maxRecDepth 20000 in
theorem afterName_4 {Z : Nat → Prop} {S : Nat → Prop} {x : Nat} {m : Mc} {w : World} (h : Mach Z S x m w) (p q : Int)   (hn : m.tot ≤ 480000000) : Calls Tryz.prog 181 #[mp x, cv ⟨62, p, q⟩] w (Did Z S x (m.afterName ⟨62, p, q⟩) w) := by
  have HE : Hid ((m.afterName ⟨62, p, q⟩) = (m.tellTag ⟨62, p, q⟩)) := by
    show (m.afterName ⟨62, p, q⟩) = (m.tellTag ⟨62, p, q⟩)
    simp [Mc.afterName, show blk 62 = false from rfl]
  have hbl : blk 62 = false := rfl
  obtain ⟨W0, hW0, k0⟩ := Walk.start h ⟨62, p, q⟩
  have hxw := h.low
  obtain ⟨hb0, d0, d1, d2⟩ := k0.box
  have hx0 := k0.lt
  have hne : w.heap.size ≠ x := by omega
  obtain ⟨s0, s1, s2, s3⟩ := k0.st0
  have K0 : Hid (Walk Z S x m w.heap.size ⟨62, p, q⟩ w W0) := k0
  clear h k0
  go_enter Tryz.func181, Tryz.ntmps181
  go_wp2_with (first | (go_at_call 150; refine (blank_as (62) false _ hbl).mono ?_; rintro e w' ⟨rfl, hw'⟩; obtain rfl := hw'.symm; clear hw'))
  refine (K0.out.call (fun U h => tellTag_any h ⟨62, p, q⟩ (by show m.tot ≤ _; omega))).mono ?_
  rintro e W1 ⟨rfl, k1⟩
  have K1 : Hid (Walk Z S x (m.tellTag ⟨62, p, q⟩) w.heap.size ⟨62, p, q⟩ w W1) := k1
  clear hb0 d0 d1 d2 hx0 s0 s1 s2 s3
  obtain ⟨hb1, d0, d1, d2⟩ := k1.box
  have hx1 := k1.lt
  obtain ⟨s0, s1, s2, s3⟩ := k1.st0
  clear k1
  go_wp2_with fail
  first
    | refine bodyPost_end (results_none rfl _ _ _) rfl ?_
    | refine bodyPost_ret (results_none rfl _ _ _) rfl ?_
  refine ⟨rfl, ?_⟩
  rw [HE.out]
  exact K1.out.post
set_option maxHeartbeats 2000000 in
set_option maxRecDepth 20000 in
theorem afterName_5 {Z : Nat → Prop} {S : Nat → Prop} {x : Nat} {m : Mc} {w : World} (h : Mach Z S x m w) (r p q : Int) (hbl : blk r = false) (h47 : (r == 47) = false) (h61 : (r == 61) = false) (h62 : (r == 62) = false)  (hn : m.tot ≤ 480000000) : Calls Tryz.prog 181 #[mp x, cv ⟨r, p, q⟩] w (Did Z S x (m.afterName ⟨r, p, q⟩) w) := by
  have HE : Hid ((m.afterName ⟨r, p, q⟩) = (({ (m.begA (p)) with st := 184 } : Mc).name ⟨r, p, q⟩)) := by
    show (m.afterName ⟨r, p, q⟩) = (({ (m.begA (p)) with st := 184 } : Mc).name ⟨r, p, q⟩)
    simp at h47 h61 h62; simp [Mc.afterName, hbl, h47, h61, h62]
  obtain ⟨W0, hW0, k0⟩ := Walk.start h ⟨r, p, q⟩
  have hxw := h.low
  obtain ⟨hb0, d0, d1, d2⟩ := k0.box
  have hx0 := k0.lt
  have hne : w.heap.size ≠ x := by omega
  obtain ⟨s0, s1, s2, s3⟩ := k0.st0
  have K0 : Hid (Walk Z S x m w.heap.size ⟨r, p, q⟩ w W0) := k0
  clear h k0
  go_enter Tryz.func181, Tryz.ntmps181
  go_wp2_with (first | (go_at_call 150; refine (blank_as (r) false _ hbl).mono ?_; rintro e w' ⟨rfl, hw'⟩; obtain rfl := hw'.symm; clear hw'))
  go_still_tail 5, (show Tryz.prog.follows .mixedOrders = true by kernel_rfl)
  go_wp2_with fail
  refine (K0.out.drew.call (fun U h => begA_any h p (by show m.tot ≤ _; omega))).mono ?_
  rintro e W1 ⟨rfl, k1⟩
  have K1 : Hid (Walk Z S x (m.begA (p)) w.heap.size ⟨r, p, q⟩ w W1) := k1
  clear hb0 d0 d1 d2 hx0 s0 s1 s2 s3
  obtain ⟨hb1, d0, d1, d2⟩ := k1.box
  have hx1 := k1.lt
  obtain ⟨s0, s1, s2, s3⟩ := k1.st0
  clear k1
  go_wp2_with fail
  refine (K1.out.call (fun U h => again_any 184 en151 h ⟨r, p, q⟩ (fun U W h => name_any h ⟨r, p, q⟩ (by show (m.begA (p)).tot ≤ _; have t0 := tot_begA m (p); omega)))).mono ?_
  rintro e W2 ⟨rfl, k2⟩
  have K2 : Hid (Walk Z S x (({ (m.begA (p)) with st := 184 } : Mc).name ⟨r, p, q⟩) w.heap.size ⟨r, p, q⟩ w W2) := k2
  clear hb1 d0 d1 d2 hx1 s0 s1 s2 s3
  obtain ⟨hb2, d0, d1, d2⟩ := k2.box
  have hx2 := k2.lt
  obtain ⟨s0, s1, s2, s3⟩ := k2.st0
  clear k2
  go_wp2_with fail
  first
    | refine bodyPost_end (results_none rfl _ _ _) rfl ?_
    | refine bodyPost_ret (results_none rfl _ _ _) rfl ?_
  refine ⟨rfl, ?_⟩
  rw [HE.out]
  exact K2.out.post
theorem afterName_any {Z : Nat → Prop} {S : Nat → Prop} {x : Nat} {m : Mc} {w : World} (h : Mach Z S x m w) (c : Ch) (hn : m.tot ≤ 480000000) : Calls Tryz.prog 181 #[mp x, cv c] w (Did Z S x (m.afterName c) w) := by
  obtain ⟨r, p, q⟩ := c
  cases hbl : blk r with
  | true => exact afterName_1 h r p q hbl hn
  | false =>
    by_cases h47 : r = 47
    · subst h47
      exact afterName_2 h p q hn
    by_cases h61 : r = 61
    · subst h61
      exact afterName_3 h p q hn
    by_cases h62 : r = 62
    · subst h62
      exact afterName_4 h p q hn
    exact afterName_5 h r p q hbl (by simpa using h47) (by simpa using h61) (by simpa using h62) hn
set_option maxHeartbeats 2000000 in
set_option maxRecDepth 20000 in
theorem beforeName_1 {Z : Nat → Prop} {S : Nat → Prop} {x : Nat} {m : Mc} {w : World} (h : Mach Z S x m w) (r p q : Int) (hbl : blk r = true)  (_hn : m.tot ≤ 470000000) : Calls Tryz.prog 151 #[mp x, cv ⟨r, p, q⟩] w (Did Z S x (m.beforeName ⟨r, p, q⟩) w) := by
  have HE : Hid ((m.beforeName ⟨r, p, q⟩) = m) := by
    show (m.beforeName ⟨r, p, q⟩) = m
    simp [Mc.beforeName, hbl]
  obtain ⟨W0, hW0, k0⟩ := Walk.start h ⟨r, p, q⟩
  have hxw := h.low
  obtain ⟨hb0, d0, d1, d2⟩ := k0.box
  have hx0 := k0.lt
  have hne : w.heap.size ≠ x := by omega
  obtain ⟨s0, s1, s2, s3⟩ := k0.st0
  have K0 : Hid (Walk Z S x m w.heap.size ⟨r, p, q⟩ w W0) := k0
  clear h k0
  go_enter Tryz.func151, Tryz.ntmps151
  go_wp2_with (first | (go_at_call 150; refine (blank_as (r) true _ hbl).mono ?_; rintro e w' ⟨rfl, hw'⟩; obtain rfl := hw'.symm; clear hw'))
  first
    | refine bodyPost_end (results_none rfl _ _ _) rfl ?_
    | refine bodyPost_ret (results_none rfl _ _ _) rfl ?_
  refine ⟨rfl, ?_⟩
  rw [HE.out]
  exact K0.out.post
set_option maxHeartbeats 2000000 in
set_option maxRecDepth 20000 in
theorem beforeName_s47 {Z : Nat → Prop} {S : Nat → Prop} {x : Nat} {m : Mc} {w : World} (h : Mach Z S x m w) (p q : Int)   (hn : m.tot ≤ 470000000) : Calls Tryz.prog 151 #[mp x, cv ⟨47, p, q⟩] w (Did Z S x (m.beforeName ⟨47, p, q⟩) w) := by
  have HE : Hid ((m.beforeName ⟨47, p, q⟩) = (({ m with st := 181 } : Mc).afterName ⟨47, p, q⟩)) := by
    show (m.beforeName ⟨47, p, q⟩) = (({ m with st := 181 } : Mc).afterName ⟨47, p, q⟩)
    simp [Mc.beforeName, show blk 47 = false from rfl]
  have hbl : blk 47 = false := rfl
  obtain ⟨W0, hW0, k0⟩ := Walk.start h ⟨47, p, q⟩
  have hxw := h.low
  obtain ⟨hb0, d0, d1, d2⟩ := k0.box
  have hx0 := k0.lt
  have hne : w.heap.size ≠ x := by omega
  obtain ⟨s0, s1, s2, s3⟩ := k0.st0
  have K0 : Hid (Walk Z S x m w.heap.size ⟨47, p, q⟩ w W0) := k0
  clear h k0
  go_enter Tryz.func151, Tryz.ntmps151
  go_wp2_with (first | (go_at_call 150; refine (blank_as (47) false _ hbl).mono ?_; rintro e w' ⟨rfl, hw'⟩; obtain rfl := hw'.symm; clear hw'))
  refine (K0.out.call (fun U h => again_any 181 en148 h ⟨47, p, q⟩ (fun U W h => afterName_any h ⟨47, p, q⟩ (by show m.tot ≤ _; omega)))).mono ?_
  rintro e W1 ⟨rfl, k1⟩
  have K1 : Hid (Walk Z S x (({ m with st := 181 } : Mc).afterName ⟨47, p, q⟩) w.heap.size ⟨47, p, q⟩ w W1) := k1
  clear hb0 d0 d1 d2 hx0 s0 s1 s2 s3
  obtain ⟨hb1, d0, d1, d2⟩ := k1.box
  have hx1 := k1.lt
  obtain ⟨s0, s1, s2, s3⟩ := k1.st0
  clear k1
  go_wp2_with fail
  first
    | refine bodyPost_end (results_none rfl _ _ _) rfl ?_
    | refine bodyPost_ret (results_none rfl _ _ _) rfl ?_
  refine ⟨rfl, ?_⟩
  rw [HE.out]
  exact K1.out.post
set_option maxHeartbeats 2000000 in
set_option maxRecDepth 20000 in
theorem beforeName_s62 {Z : Nat → Prop} {S : Nat → Prop} {x : Nat} {m : Mc} {w : World} (h : Mach Z S x m w) (p q : Int)   (hn : m.tot ≤ 470000000) : Calls Tryz.prog 151 #[mp x, cv ⟨62, p, q⟩] w (Did Z S x (m.beforeName ⟨62, p, q⟩) w) := by
  have HE : Hid ((m.beforeName ⟨62, p, q⟩) = (({ m with st := 181 } : Mc).afterName ⟨62, p, q⟩)) := by
    show (m.beforeName ⟨62, p, q⟩) = (({ m with st := 181 } : Mc).afterName ⟨62, p, q⟩)
    simp [Mc.beforeName, show blk 62 = false from rfl]
  have hbl : blk 62 = false := rfl
  obtain ⟨W0, hW0, k0⟩ := Walk.start h ⟨62, p, q⟩
  have hxw := h.low
  obtain ⟨hb0, d0, d1, d2⟩ := k0.box
  have hx0 := k0.lt
  have hne : w.heap.size ≠ x := by omega
  obtain ⟨s0, s1, s2, s3⟩ := k0.st0
  have K0 : Hid (Walk Z S x m w.heap.size ⟨62, p, q⟩ w W0) := k0
  clear h k0
  go_enter Tryz.func151, Tryz.ntmps151
  go_wp2_with (first | (go_at_call 150; refine (blank_as (62) false _ hbl).mono ?_; rintro e w' ⟨rfl, hw'⟩; obtain rfl := hw'.symm; clear hw'))
  refine (K0.out.call (fun U h => again_any 181 en148 h ⟨62, p, q⟩ (fun U W h => afterName_any h ⟨62, p, q⟩ (by show m.tot ≤ _; omega)))).mono ?_
  rintro e W1 ⟨rfl, k1⟩
  have K1 : Hid (Walk Z S x (({ m with st := 181 } : Mc).afterName ⟨62, p, q⟩) w.heap.size ⟨62, p, q⟩ w W1) := k1
  clear hb0 d0 d1 d2 hx0 s0 s1 s2 s3
  obtain ⟨hb1, d0, d1, d2⟩ := k1.box
  have hx1 := k1.lt
  obtain ⟨s0, s1, s2, s3⟩ := k1.st0
  clear k1
  go_wp2_with fail
  first
    | refine bodyPost_end (results_none rfl _ _ _) rfl ?_
    | refine bodyPost_ret (results_none rfl _ _ _) rfl ?_
  refine ⟨rfl, ?_⟩
  rw [HE.out]
  exact K1.out.post
set_option maxHeartbeats 2000000 in
set_option maxRecDepth 20000 in
theorem beforeName_3 {Z : Nat → Prop} {S : Nat → Prop} {x : Nat} {m : Mc} {w : World} (h : Mach Z S x m w) (p q : Int)   (hn : m.tot ≤ 470000000) : Calls Tryz.prog 151 #[mp x, cv ⟨61, p, q⟩] w (Did Z S x (m.beforeName ⟨61, p, q⟩) w) := by
  have HE : Hid ((m.beforeName ⟨61, p, q⟩) = ({ (((m.fault 8 (p)).begA (p)).addAttr 61) with st := 184 } : Mc)) := by
    show (m.beforeName ⟨61, p, q⟩) = ({ (((m.fault 8 (p)).begA (p)).addAttr 61) with st := 184 } : Mc)
    simp [Mc.beforeName, show blk 61 = false from rfl]
  have hbl : blk 61 = false := rfl
  obtain ⟨W0, hW0, k0⟩ := Walk.start h ⟨61, p, q⟩
  have hxw := h.low
  obtain ⟨hb0, d0, d1, d2⟩ := k0.box
  have hx0 := k0.lt
  have hne : w.heap.size ≠ x := by omega
  obtain ⟨s0, s1, s2, s3⟩ := k0.st0
  have K0 : Hid (Walk Z S x m w.heap.size ⟨61, p, q⟩ w W0) := k0
  clear h k0
  go_enter Tryz.func151, Tryz.ntmps151
  go_wp2_with (first | (go_at_call 150; refine (blank_as (61) false _ hbl).mono ?_; rintro e w' ⟨rfl, hw'⟩; obtain rfl := hw'.symm; clear hw'))
  refine (K0.out.call (fun U h => fault_any h 8 p (by show m.tot ≤ _; omega))).mono ?_
  rintro e W1 ⟨rfl, k1⟩
  have K1 : Hid (Walk Z S x (m.fault 8 (p)) w.heap.size ⟨61, p, q⟩ w W1) := k1
  clear hb0 d0 d1 d2 hx0 s0 s1 s2 s3
  obtain ⟨hb1, d0, d1, d2⟩ := k1.box
  have hx1 := k1.lt
  obtain ⟨s0, s1, s2, s3⟩ := k1.st0
  clear k1
  go_wp2_with fail
  go_still_tail 5, (show Tryz.prog.follows .mixedOrders = true by kernel_rfl)
  go_wp2_with fail
  refine (K1.out.drew.call (fun U h => begA_any h p (by show (m.fault 8 (p)).tot ≤ _; have t0 := tot_fault m 8 (p); omega))).mono ?_
  rintro e W2 ⟨rfl, k2⟩
  have K2 : Hid (Walk Z S x ((m.fault 8 (p)).begA (p)) w.heap.size ⟨61, p, q⟩ w W2) := k2
  clear hb1 d0 d1 d2 hx1 s0 s1 s2 s3
  obtain ⟨hb2, d0, d1, d2⟩ := k2.box
  have hx2 := k2.lt
  obtain ⟨s0, s1, s2, s3⟩ := k2.st0
  clear k2
  go_wp2_with fail
  go_still_tail 5, (show Tryz.prog.follows .mixedOrders = true by kernel_rfl)
  go_wp2_with fail
  refine (K2.out.drew.call (fun U h => addAttr_any h 61 (by show ((m.fault 8 (p)).begA (p)).tot ≤ _; have t0 := tot_fault m 8 (p); have t1 := tot_begA (m.fault 8 (p)) (p); omega))).mono ?_
  rintro e W3 ⟨rfl, k3⟩
  have K3 : Hid (Walk Z S x (((m.fault 8 (p)).begA (p)).addAttr 61) w.heap.size ⟨61, p, q⟩ w W3) := k3
  clear hb2 d0 d1 d2 hx2 s0 s1 s2 s3
  obtain ⟨hb3, d0, d1, d2⟩ := k3.box
  have hx3 := k3.lt
  obtain ⟨s0, s1, s2, s3⟩ := k3.st0
  clear k3
  have K4 : Hid (Walk Z S x ({ (((m.fault 8 (p)).begA (p)).addAttr 61) with st := 184 } : Mc) w.heap.size ⟨61, p, q⟩ w (W3.setCell ⟨x, 0, none⟩ (.func (.func 184) #[] #[]))) := K3.out.st 184
  have hb4 := hb3
  have hx4 := hx3
  go_wp2_with fail
  first
    | refine bodyPost_end (results_none rfl _ _ _) rfl ?_
    | refine bodyPost_ret (results_none rfl _ _ _) rfl ?_
  refine ⟨rfl, ?_⟩
  rw [HE.out]
  exact K4.out.post
set_option maxHeartbeats 2000000 in
set_option maxRecDepth 20000 in
theorem beforeName_4 {Z : Nat → Prop} {S : Nat → Prop} {x : Nat} {m : Mc} {w : World} (h : Mach Z S x m w) (r p q : Int) (hbl : blk r = false) (h47 : (r == 47) = false) (h62 : (r == 62) = false) (h61 : (r == 61) = false)  (hn : m.tot ≤ 470000000) : Calls Tryz.prog 151 #[mp x, cv ⟨r, p, q⟩] w (Did Z S x (m.beforeName ⟨r, p, q⟩) w) := by
  have HE : Hid ((m.beforeName ⟨r, p, q⟩) = (({ (m.begA (p)) with st := 184 } : Mc).name ⟨r, p, q⟩)) := by
    show (m.beforeName ⟨r, p, q⟩) = (({ (m.begA (p)) with st := 184 } : Mc).name ⟨r, p, q⟩)
    simp at h47 h62 h61; simp [Mc.beforeName, hbl, h47, h62, h61]
  obtain ⟨W0, hW0, k0⟩ := Walk.start h ⟨r, p, q⟩
  have hxw := h.low
  obtain ⟨hb0, d0, d1, d2⟩ := k0.box
  have hx0 := k0.lt
  have hne : w.heap.size ≠ x := by omega
  obtain ⟨s0, s1, s2, s3⟩ := k0.st0
  have K0 : Hid (Walk Z S x m w.heap.size ⟨r, p, q⟩ w W0) := k0
  clear h k0
  go_enter Tryz.func151, Tryz.ntmps151
  go_wp2_with (first | (go_at_call 150; refine (blank_as (r) false _ hbl).mono ?_; rintro e w' ⟨rfl, hw'⟩; obtain rfl := hw'.symm; clear hw'))
  go_still_tail 5, (show Tryz.prog.follows .mixedOrders = true by kernel_rfl)
  go_wp2_with fail
  refine (K0.out.drew.call (fun U h => begA_any h p (by show m.tot ≤ _; omega))).mono ?_
  rintro e W1 ⟨rfl, k1⟩
  have K1 : Hid (Walk Z S x (m.begA (p)) w.heap.size ⟨r, p, q⟩ w W1) := k1
  clear hb0 d0 d1 d2 hx0 s0 s1 s2 s3
  obtain ⟨hb1, d0, d1, d2⟩ := k1.box
  have hx1 := k1.lt
  obtain ⟨s0, s1, s2, s3⟩ := k1.st0
  clear k1
  go_wp2_with fail
  refine (K1.out.call (fun U h => again_any 184 en151 h ⟨r, p, q⟩ (fun U W h => name_any h ⟨r, p, q⟩ (by show (m.begA (p)).tot ≤ _; have t0 := tot_begA m (p); omega)))).mono ?_
  rintro e W2 ⟨rfl, k2⟩
  have K2 : Hid (Walk Z S x (({ (m.begA (p)) with st := 184 } : Mc).name ⟨r, p, q⟩) w.heap.size ⟨r, p, q⟩ w W2) := k2
  clear hb1 d0 d1 d2 hx1 s0 s1 s2 s3
  obtain ⟨hb2, d0, d1, d2⟩ := k2.box
  have hx2 := k2.lt
  obtain ⟨s0, s1, s2, s3⟩ := k2.st0
  clear k2
  go_wp2_with fail
  first
    | refine bodyPost_end (results_none rfl _ _ _) rfl ?_
    | refine bodyPost_ret (results_none rfl _ _ _) rfl ?_
  refine ⟨rfl, ?_⟩
  rw [HE.out]
  exact K2.out.post
theorem beforeName_any {Z : Nat → Prop} {S : Nat → Prop} {x : Nat} {m : Mc} {w : World} (h : Mach Z S x m w) (c : Ch) (hn : m.tot ≤ 470000000) : Calls Tryz.prog 151 #[mp x, cv c] w (Did Z S x (m.beforeName c) w) := by
  obtain ⟨r, p, q⟩ := c
  cases hbl : blk r with
  | true => exact beforeName_1 h r p q hbl hn
  | false =>
    by_cases h47 : r = 47
    · subst h47
      exact beforeName_s47 h p q hn
    by_cases h62 : r = 62
    · subst h62
      exact beforeName_s62 h p q hn
    by_cases h61 : r = 61
    · subst h61
      exact beforeName_3 h p q hn
    exact beforeName_4 h r p q hbl (by simpa using h47) (by simpa using h62) (by simpa using h61) hn
set_option maxHeartbeats 2000000 in
set_option maxRecDepth 20000 in
theorem afterValue_1 {Z : Nat → Prop} {S : Nat → Prop} {x : Nat} {m : Mc} {w : World} (h : Mach Z S x m w) (r p q : Int) (hbl : blk r = true)  (_hn : m.tot ≤ 460000000) : Calls Tryz.prog 226 #[mp x, cv ⟨r, p, q⟩] w (Did Z S x (m.afterValue ⟨r, p, q⟩) w) := by
  have HE : Hid ((m.afterValue ⟨r, p, q⟩) = ({ m with st := 151 } : Mc)) := by
    show (m.afterValue ⟨r, p, q⟩) = ({ m with st := 151 } : Mc)
    simp [Mc.afterValue, hbl]
  obtain ⟨W0, hW0, k0⟩ := Walk.start h ⟨r, p, q⟩
  have hxw := h.low
  obtain ⟨hb0, d0, d1, d2⟩ := k0.box
  have hx0 := k0.lt
  have hne : w.heap.size ≠ x := by omega
  obtain ⟨s0, s1, s2, s3⟩ := k0.st0
  have K0 : Hid (Walk Z S x m w.heap.size ⟨r, p, q⟩ w W0) := k0
  clear h k0
  go_enter Tryz.func226, Tryz.ntmps226
  have K1 : Hid (Walk Z S x ({ m with st := 151 } : Mc) w.heap.size ⟨r, p, q⟩ w (W0.setCell ⟨x, 0, none⟩ (.func (.func 151) #[] #[]))) := K0.out.st 151
  have hb1 := hb0
  have hx1 := hx0
  go_wp2_with (first | (go_at_call 150; refine (blank_as (r) true _ hbl).mono ?_; rintro e w' ⟨rfl, hw'⟩; obtain rfl := hw'.symm; clear hw'))
  first
    | refine bodyPost_end (results_none rfl _ _ _) rfl ?_
    | refine bodyPost_ret (results_none rfl _ _ _) rfl ?_
  refine ⟨rfl, ?_⟩
  rw [HE.out]
  exact K1.out.post
set_option maxHeartbeats 2000000 in
set_option maxRecDepth 20000 in
theorem afterValue_2 {Z : Nat → Prop} {S : Nat → Prop} {x : Nat} {m : Mc} {w : World} (h : Mach Z S x m w) (p q : Int)   (_hn : m.tot ≤ 460000000) : Calls Tryz.prog 226 #[mp x, cv ⟨47, p, q⟩] w (Did Z S x (m.afterValue ⟨47, p, q⟩) w) := by
  have HE : Hid ((m.afterValue ⟨47, p, q⟩) = ({ m with st := 152 } : Mc)) := by
    show (m.afterValue ⟨47, p, q⟩) = ({ m with st := 152 } : Mc)
    simp [Mc.afterValue, show blk 47 = false from rfl]
  have hbl : blk 47 = false := rfl
  obtain ⟨W0, hW0, k0⟩ := Walk.start h ⟨47, p, q⟩
  have hxw := h.low
  obtain ⟨hb0, d0, d1, d2⟩ := k0.box
  have hx0 := k0.lt
  have hne : w.heap.size ≠ x := by omega
  obtain ⟨s0, s1, s2, s3⟩ := k0.st0
  have K0 : Hid (Walk Z S x m w.heap.size ⟨47, p, q⟩ w W0) := k0
  clear h k0
  go_enter Tryz.func226, Tryz.ntmps226
  have K1 : Hid (Walk Z S x ({ m with st := 152 } : Mc) w.heap.size ⟨47, p, q⟩ w (W0.setCell ⟨x, 0, none⟩ (.func (.func 152) #[] #[]))) := K0.out.st 152
  have hb1 := hb0
  have hx1 := hx0
  go_wp2_with (first | (go_at_call 150; refine (blank_as (47) false _ hbl).mono ?_; rintro e w' ⟨rfl, hw'⟩; obtain rfl := hw'.symm; clear hw'))
  first
    | refine bodyPost_end (results_none rfl _ _ _) rfl ?_
    | refine bodyPost_ret (results_none rfl _ _ _) rfl ?_
  refine ⟨rfl, ?_⟩
  rw [HE.out]
  exact K1.out.post
set_option maxHeartbeats 2000000 in
set_option maxRecDepth 20000 in
theorem afterValue_3 {Z : Nat → Prop} {S : Nat → Prop} {x : Nat} {m : Mc} {w : World} (h : Mach Z S x m w) (p q : Int)   (hn : m.tot ≤ 460000000) : Calls Tryz.prog 226 #[mp x, cv ⟨62, p, q⟩] w (Did Z S x (m.afterValue ⟨62, p, q⟩) w) := by
  have HE : Hid ((m.afterValue ⟨62, p, q⟩) = (m.tellTag ⟨62, p, q⟩)) := by
    show (m.afterValue ⟨62, p, q⟩) = (m.tellTag ⟨62, p, q⟩)
    simp [Mc.afterValue, show blk 62 = false from rfl]
  have hbl : blk 62 = false := rfl
  obtain ⟨W0, hW0, k0⟩ := Walk.start h ⟨62, p, q⟩
  have hxw := h.low
  obtain ⟨hb0, d0, d1, d2⟩ := k0.box
  have hx0 := k0.lt
  have hne : w.heap.size ≠ x := by omega
  obtain ⟨s0, s1, s2, s3⟩ := k0.st0
  have K0 : Hid (Walk Z S x m w.heap.size ⟨62, p, q⟩ w W0) := k0
  clear h k0
  go_enter Tryz.func226, Tryz.ntmps226
  go_wp2_with (first | (go_at_call 150; refine (blank_as (62) false _ hbl).mono ?_; rintro e w' ⟨rfl, hw'⟩; obtain rfl := hw'.symm; clear hw'))
  refine (K0.out.call (fun U h => tellTag_any h ⟨62, p, q⟩ (by show m.tot ≤ _; omega))).mono ?_
  rintro e W1 ⟨rfl, k1⟩
  have K1 : Hid (Walk Z S x (m.tellTag ⟨62, p, q⟩) w.heap.size ⟨62, p, q⟩ w W1) := k1
  clear hb0 d0 d1 d2 hx0 s0 s1 s2 s3
  obtain ⟨hb1, d0, d1, d2⟩ := k1.box
  have hx1 := k1.lt
  obtain ⟨s0, s1, s2, s3⟩ := k1.st0
  clear k1
  go_wp2_with fail
  first
    | refine bodyPost_end (results_none rfl _ _ _) rfl ?_
    | refine bodyPost_ret (results_none rfl _ _ _) rfl ?_
  refine ⟨rfl, ?_⟩
  rw [HE.out]
  exact K1.out.post
set_option maxHeartbeats 2000000 in
set_option maxRecDepth 20000 in
theorem afterValue_4 {Z : Nat → Prop} {S : Nat → Prop} {x : Nat} {m : Mc} {w : World} (h : Mach Z S x m w) (r p q : Int) (hbl : blk r = false) (h47 : (r == 47) = false) (h62 : (r == 62) = false)  (hn : m.tot ≤ 460000000) : Calls Tryz.prog 226 #[mp x, cv ⟨r, p, q⟩] w (Did Z S x (m.afterValue ⟨r, p, q⟩) w) := by
  have HE : Hid ((m.afterValue ⟨r, p, q⟩) = (({ (m.fault 11 (p)) with st := 151 } : Mc).beforeName ⟨r, p, q⟩)) := by
    show (m.afterValue ⟨r, p, q⟩) = (({ (m.fault 11 (p)) with st := 151 } : Mc).beforeName ⟨r, p, q⟩)
    simp at h47 h62; simp [Mc.afterValue, hbl, h47, h62]
  obtain ⟨W0, hW0, k0⟩ := Walk.start h ⟨r, p, q⟩
  have hxw := h.low
  obtain ⟨hb0, d0, d1, d2⟩ := k0.box
  have hx0 := k0.lt
  have hne : w.heap.size ≠ x := by omega
  obtain ⟨s0, s1, s2, s3⟩ := k0.st0
  have K0 : Hid (Walk Z S x m w.heap.size ⟨r, p, q⟩ w W0) := k0
  clear h k0
  go_enter Tryz.func226, Tryz.ntmps226
  go_wp2_with (first | (go_at_call 150; refine (blank_as (r) false _ hbl).mono ?_; rintro e w' ⟨rfl, hw'⟩; obtain rfl := hw'.symm; clear hw'))
  refine (K0.out.call (fun U h => fault_any h 11 p (by show m.tot ≤ _; omega))).mono ?_
  rintro e W1 ⟨rfl, k1⟩
  have K1 : Hid (Walk Z S x (m.fault 11 (p)) w.heap.size ⟨r, p, q⟩ w W1) := k1
  clear hb0 d0 d1 d2 hx0 s0 s1 s2 s3
  obtain ⟨hb1, d0, d1, d2⟩ := k1.box
  have hx1 := k1.lt
  obtain ⟨s0, s1, s2, s3⟩ := k1.st0
  clear k1
  go_wp2_with fail
  refine (K1.out.call (fun U h => again_any 151 en119 h ⟨r, p, q⟩ (fun U W h => beforeName_any h ⟨r, p, q⟩ (by show (m.fault 11 (p)).tot ≤ _; have t0 := tot_fault m 11 (p); omega)))).mono ?_
  rintro e W2 ⟨rfl, k2⟩
  have K2 : Hid (Walk Z S x (({ (m.fault 11 (p)) with st := 151 } : Mc).beforeName ⟨r, p, q⟩) w.heap.size ⟨r, p, q⟩ w W2) := k2
  clear hb1 d0 d1 d2 hx1 s0 s1 s2 s3
  obtain ⟨hb2, d0, d1, d2⟩ := k2.box
  have hx2 := k2.lt
  obtain ⟨s0, s1, s2, s3⟩ := k2.st0
  clear k2
  go_wp2_with fail
  first
    | refine bodyPost_end (results_none rfl _ _ _) rfl ?_
    | refine bodyPost_ret (results_none rfl _ _ _) rfl ?_
  refine ⟨rfl, ?_⟩
  rw [HE.out]
  exact K2.out.post
theorem afterValue_any {Z : Nat → Prop} {S : Nat → Prop} {x : Nat} {m : Mc} {w : World} (h : Mach Z S x m w) (c : Ch) (hn : m.tot ≤ 460000000) : Calls Tryz.prog 226 #[mp x, cv c] w (Did Z S x (m.afterValue c) w) := by
  obtain ⟨r, p, q⟩ := c
  cases hbl : blk r with
  | true => exact afterValue_1 h r p q hbl hn
  | false =>
    by_cases h47 : r = 47
    · subst h47
      exact afterValue_2 h p q hn
    by_cases h62 : r = 62
    · subst h62
      exact afterValue_3 h p q hn
    exact afterValue_4 h r p q hbl (by simpa using h47) (by simpa using h62) hn
set_option maxHeartbeats 2000000 in
set_option maxRecDepth 20000 in
theorem slash_1 {Z : Nat → Prop} {S : Nat → Prop} {x : Nat} {m : Mc} {w : World} (h : Mach Z S x m w) (p q : Int)   (hn : m.tot ≤ 460000000) : Calls Tryz.prog 152 #[mp x, cv ⟨62, p, q⟩] w (Did Z S x (m.slash ⟨62, p, q⟩) w) := by
  have HE : Hid ((m.slash ⟨62, p, q⟩) = (({ m with self := true } : Mc).tellTag ⟨62, p, q⟩)) := by
    show (m.slash ⟨62, p, q⟩) = (({ m with self := true } : Mc).tellTag ⟨62, p, q⟩)
    simp [Mc.slash]
  obtain ⟨W0, hW0, k0⟩ := Walk.start h ⟨62, p, q⟩
  have hxw := h.low
  obtain ⟨hb0, d0, d1, d2⟩ := k0.box
  have hx0 := k0.lt
  have hne : w.heap.size ≠ x := by omega
  obtain ⟨s0, s1, s2, s3⟩ := k0.st0
  obtain ⟨vv, hcc, hff⟩ := k0.mach
  have c12 := hcc 12 _ rfl
  have f12 := hff 12
  clear hcc hff
  have K0 : Hid (Walk Z S x m w.heap.size ⟨62, p, q⟩ w W0) := k0
  clear h k0
  go_enter Tryz.func152, Tryz.ntmps152
  have K1 : Hid (Walk Z S x ({ m with self := true } : Mc) w.heap.size ⟨62, p, q⟩ w (W0.setCell ⟨x, 12, none⟩ (.bool true))) := K0.out.self true
  have hb1 := hb0
  have hx1 := hx0
  go_wp2_with fail
  refine (K1.out.call (fun U h => tellTag_any h ⟨62, p, q⟩ (by show m.tot ≤ _; omega))).mono ?_
  rintro e W2 ⟨rfl, k2⟩
  have K2 : Hid (Walk Z S x (({ m with self := true } : Mc).tellTag ⟨62, p, q⟩) w.heap.size ⟨62, p, q⟩ w W2) := k2
  clear hb1 d0 d1 d2 hx1 s0 s1 s2 s3
  obtain ⟨hb2, d0, d1, d2⟩ := k2.box
  have hx2 := k2.lt
  obtain ⟨s0, s1, s2, s3⟩ := k2.st0
  clear k2
  go_wp2_with fail
  first
    | refine bodyPost_end (results_none rfl _ _ _) rfl ?_
    | refine bodyPost_ret (results_none rfl _ _ _) rfl ?_
  refine ⟨rfl, ?_⟩
  rw [HE.out]
  exact K2.out.post
set_option maxHeartbeats 2000000 in
set_option maxRecDepth 20000 in
theorem slash_2 {Z : Nat → Prop} {S : Nat → Prop} {x : Nat} {m : Mc} {w : World} (h : Mach Z S x m w) (r p q : Int) (h62 : (r == 62) = false)  (hn : m.tot ≤ 460000000) : Calls Tryz.prog 152 #[mp x, cv ⟨r, p, q⟩] w (Did Z S x (m.slash ⟨r, p, q⟩) w) := by
  have HE : Hid ((m.slash ⟨r, p, q⟩) = (({ (m.fault 12 (p)) with st := 151 } : Mc).beforeName ⟨r, p, q⟩)) := by
    show (m.slash ⟨r, p, q⟩) = (({ (m.fault 12 (p)) with st := 151 } : Mc).beforeName ⟨r, p, q⟩)
    simp at h62; simp [Mc.slash, h62]
  obtain ⟨W0, hW0, k0⟩ := Walk.start h ⟨r, p, q⟩
  have hxw := h.low
  obtain ⟨hb0, d0, d1, d2⟩ := k0.box
  have hx0 := k0.lt
  have hne : w.heap.size ≠ x := by omega
  obtain ⟨s0, s1, s2, s3⟩ := k0.st0
  have K0 : Hid (Walk Z S x m w.heap.size ⟨r, p, q⟩ w W0) := k0
  clear h k0
  go_enter Tryz.func152, Tryz.ntmps152
  go_wp2_with fail
  refine (K0.out.call (fun U h => fault_any h 12 p (by show m.tot ≤ _; omega))).mono ?_
  rintro e W1 ⟨rfl, k1⟩
  have K1 : Hid (Walk Z S x (m.fault 12 (p)) w.heap.size ⟨r, p, q⟩ w W1) := k1
  clear hb0 d0 d1 d2 hx0 s0 s1 s2 s3
  obtain ⟨hb1, d0, d1, d2⟩ := k1.box
  have hx1 := k1.lt
  obtain ⟨s0, s1, s2, s3⟩ := k1.st0
  clear k1
  go_wp2_with fail
  refine (K1.out.call (fun U h => again_any 151 en119 h ⟨r, p, q⟩ (fun U W h => beforeName_any h ⟨r, p, q⟩ (by show (m.fault 12 (p)).tot ≤ _; have t0 := tot_fault m 12 (p); omega)))).mono ?_
  rintro e W2 ⟨rfl, k2⟩
  have K2 : Hid (Walk Z S x (({ (m.fault 12 (p)) with st := 151 } : Mc).beforeName ⟨r, p, q⟩) w.heap.size ⟨r, p, q⟩ w W2) := k2
  clear hb1 d0 d1 d2 hx1 s0 s1 s2 s3
  obtain ⟨hb2, d0, d1, d2⟩ := k2.box
  have hx2 := k2.lt
  obtain ⟨s0, s1, s2, s3⟩ := k2.st0
  clear k2
  go_wp2_with fail
  first
    | refine bodyPost_end (results_none rfl _ _ _) rfl ?_
    | refine bodyPost_ret (results_none rfl _ _ _) rfl ?_
  refine ⟨rfl, ?_⟩
  rw [HE.out]
  exact K2.out.post
theorem slash_any {Z : Nat → Prop} {S : Nat → Prop} {x : Nat} {m : Mc} {w : World} (h : Mach Z S x m w) (c : Ch) (hn : m.tot ≤ 460000000) : Calls Tryz.prog 152 #[mp x, cv c] w (Did Z S x (m.slash c) w) := by
  obtain ⟨r, p, q⟩ := c
  by_cases h62 : r = 62
  · subst h62
    exact slash_1 h p q hn
  exact slash_2 h r p q (by simpa using h62) hn
end Go.Proofs.YtdiealijjhfhjaaGreatDoor
