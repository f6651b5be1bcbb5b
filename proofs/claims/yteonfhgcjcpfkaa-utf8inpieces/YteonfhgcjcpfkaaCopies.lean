/- The law Utf8inCopies holds for all texts: a copy goes on as the decoder that it was copied of, and neither changes the other. No condition. -/
import Derived.Test.YteonfhgcjcpfkaaBase
import Derived.ProofKit
import Derived.OpenShut
import Derived.ShutString
import Derived.ChangeOld
import Derived.ChangeMaps
import Derived.Lib.SmallJoins
import Derived.SizedLaws
namespace Go.Proofs.Yteonfhgcjcpfkaa
open Go.ChangeShapes Go.WideShapes Go.ChangeAt Go.RowKit Go.Joins

theorem turn_dec {x d : Nat} {p : Int} {u : List UInt8} {w w' : World} (h : Dec x p u w) (k : Turn w.heap.size d w w') (hne : x ≠ d) : Dec x p u w' := (k.block x (dec_cells h).1 (dec_cells h).1 hne).trans h

theorem turn_own {B d e s n : Nat} {p : Int} {u : List UInt8} {v : Value} {xs : List Value} {w w' : World} (h : w.ownsRow B e s v n xs) (hd : Dec d p u w) (k : Turn w.heap.size d w w') (he : e ≠ 58) : w'.ownsRow B e s v n xs :=
  own_same h fun g cur m _ hg => by
    have hlt := (Array.getElem?_eq_some_iff.1 hg).1
    have hne : g ≠ d := fun x => by
      unfold Dec DecIs at hd
      rw [x, hd] at hg; simp at hg; exact he hg.2.1.symm
    exact (k.block g hlt hlt hne).trans hg

theorem copy_dec {d : Nat} {p : Int} {u : List UInt8} {w : World} (h : Dec d p u w) : Calls Try.prog 21 #[.pointer (some ⟨d, 0, none⟩)] w fun e w' => e = .returned (.pointer (some ⟨w.heap.size, 0, none⟩)) ∧ Dec w.heap.size p u w' ∧ Dec d p u w' ∧ Below w.heap.size w w' ∧ w'.heap.size = w.heap.size + 1 := by
  refine (copy_any h).mono ?_
  rintro e w' ⟨he, h1, h2, h3⟩
  exact ⟨he, h1, dec_below h h2, h2, h3⟩

set_option maxHeartbeats 1000000 in
theorem cop_long (s t u : ByteArray) (w : World) (hs : s.size ≤ 140737488355328) (ht : t.size ≤ 140737488355328) (hu : u.size ≤ 140737488355328) (h : 20000 < (s.size : Int) + t.size + u.size) : Calls Try.prog 6 #[.string s, .string t, .string u] w fun e w' => e = .returned (.bool true) ∧ Below w.heap.size w w' := by
  go_enter Try.func6, Try.ntmps6
  go_wp2_with fail
  refine (new_ok 0 (by omega) (by omega) _).mono ?_
  rintro e w1 ⟨rfl, n1, n2, n3⟩
  clear n1
  go_wp2_with (go_at_call 8; refine (awake_any _).mono ?_; rintro e w2 ⟨rfl, b2⟩)
  go_ret
  exact ⟨rfl, n2.trans (b2.mono n2.size)⟩

set_option maxHeartbeats 2000000 in
theorem cop_short (s t u : ByteArray) (w : World) (h : (s.size : Int) + t.size + u.size ≤ 20000) : Calls Try.prog 6 #[.string s, .string t, .string u] w fun e w' => e = .returned (.bool true) ∧ Below w.heap.size w w' := by
  obtain ⟨r1, _, _, r4⟩ := run_ok s.data.toList [] trivial
  have hsl : s.data.toList.length = s.size := Array.length_toList
  rw [hsl, List.length_nil] at r4
  obtain ⟨U, hU⟩ : ∃ U, (run [] s.data.toList).1 = U := ⟨_, rfl⟩
  obtain ⟨L, hL⟩ : ∃ L, (run [] s.data.toList).2 = L := ⟨_, rfl⟩
  rw [hU] at r1 r4
  rw [hL] at r4
  have HU : Hid ((run [] s.data.toList).1 = U) := hU
  have HL : Hid ((run [] s.data.toList).2 = L) := hL
  have hP : Hid (pend U) := r1
  have hfew := run_few t.data.toList U
  have htl : t.data.toList.length = t.size := Array.length_toList
  rw [htl] at hfew
  have hu3 : U.length ≤ 20000 := by omega
  clear hU hL r1 hsl htl
  have hsz : s.size ≤ 20000 := by omega
  have htz : t.size ≤ 20000 := by omega
  have huz : u.size ≤ 20000 := by omega
  go_enter Try.func6, Try.ntmps6
  go_wp2_with fail
  refine (new_ok 0 (by omega) (by omega) _).mono ?_
  rintro e w1 ⟨rfl, n1, n2, n3⟩
  have D1 : Hid (Dec w.heap.size 0 [] w1) := n1
  have B1 : Hid (Below w.heap.size w w1) := n2
  have Z1 : Hid (w1.heap.size = w.heap.size + 1) := n3
  clear n1 n2 n3
  go_wp2_with fail
  refine (feed_any (u := []) s trivial (by omega) (by omega) D1.out (by omega)).mono ?_
  rintro e w2 ⟨ca, cn, cc, fa, fn, fc, rfl, d2, _, _, t2⟩
  rw [HU.out, HL.out] at d2
  obtain ⟨P, hP0⟩ : ∃ P : Int, 0 + ((tot L : Nat) : Int) = P := ⟨_, rfl⟩
  rw [hP0] at d2
  have p0 : 0 ≤ P := by omega
  have p1 : P ≤ 100000 := by omega
  have D2 : Hid (Dec w.heap.size P U w2) := d2
  have B2 : Hid (Below w.heap.size w w2) := B1.out.trans (t2.below B1.out.size B1.out.size (Nat.le_refl _))
  have Z2 : Hid (w.heap.size + 1 ≤ w2.heap.size) := by have := t2.size; have := Z1.out; show _ ≤ _; omega
  clear d2 t2 D1 B1 hP0
  go_wp2_with fail
  refine (copy_dec D2.out).mono ?_
  rintro e w3 ⟨rfl, c3, d3, b3, z3⟩
  have C3 : Hid (Dec w2.heap.size P U w3) := c3
  have D3 : Hid (Dec w.heap.size P U w3) := d3
  have B3 : Hid (Below w.heap.size w w3) := B2.out.trans (b3.mono B2.out.size)
  clear c3 d3 b3 D2
  go_wp2_with fail
  refine (feed_any u hP.out p0 (by omega) C3.out (by omega)).mono ?_
  rintro e w4 ⟨ca4, cn4, cc4, fa4, fn4, fc4, rfl, c4, _, _, t4⟩
  have hne : w.heap.size ≠ w2.heap.size := by have := Z2.out; omega
  have D4 : Hid (Dec w.heap.size P U w4) := turn_dec D3.out t4 hne
  have B4 : Hid (Below w.heap.size w w4) := B3.out.trans (t4.below B3.out.size B3.out.size (by have := Z2.out; omega))
  have Z4 := t4.size
  generalize hq : P + ((tot (run U u.data.toList).2 : Nat) : Int) = Q at c4
  generalize hv : (run U u.data.toList).1 = V at c4
  have C4 : Hid (Dec w2.heap.size Q V w4) := c4
  clear c4 t4 D3 C3 B3 hq hv
  go_wp2_with fail
  refine (end_any C4.out).mono ?_
  rintro e w5 ⟨ca5, cn5, cc5, fa5, fn5, fc5, rfl, _, _, _, t5⟩
  have D5 : Hid (Dec w.heap.size P U w5) := turn_dec D4.out t5 hne
  have B5 : Hid (Below w.heap.size w w5) := B4.out.trans (t5.below B4.out.size B4.out.size (by have := Z2.out; omega))
  have Z5 := t5.size
  clear t5 D4 C4 B4
  go_wp2_with fail
  refine (copy_dec D5.out).mono ?_
  rintro e w6 ⟨rfl, e6, d6, b6, z6⟩
  have E6 : Hid (Dec w5.heap.size P U w6) := e6
  have D6 : Hid (Dec w.heap.size P U w6) := d6
  have B6 : Hid (Below w.heap.size w w6) := B5.out.trans (b6.mono B5.out.size)
  have hne2 : w.heap.size ≠ w5.heap.size := by have := Z2.out; omega
  have hZ : w.heap.size ≤ w5.heap.size := by have := Z2.out; omega
  clear e6 d6 b6 D5
  generalize w5.heap.size = E at *
  generalize hR : run U t.data.toList = R at *
  have HR : Hid (run U t.data.toList = R) := hR
  clear hR
  go_wp2_with fail
  refine (feed_any t hP.out p0 (by omega) D6.out (by omega)).mono ?_
  rintro e w7 ⟨a1, a2, a3, f1, f2, f3, rfl, d7, ra7, rf7, t7⟩
  rw [HR.out] at d7 ra7 rf7
  have D7 : Hid (Dec w.heap.size (P + (tot R.2 : Nat)) R.1 w7) := d7
  have E7 : Hid (Dec E P U w7) := turn_dec E6.out t7 (Ne.symm hne2)
  have RA7 : Hid (Chars w6.heap.size (.slice a1 a2 a3) (chs P R.2) w7) := ra7
  have RF7 : Hid (Faults w6.heap.size (.slice f1 f2 f3) (fls P R.2) w7) := rf7
  have B7 : Hid (Below w.heap.size w w7) := B6.out.trans (t7.below B6.out.size B6.out.size (Nat.le_refl _))
  clear d7 ra7 rf7 t7 D6 E6
  go_wp2_with fail
  refine (feed_any t hP.out p0 (by omega) E7.out (by omega)).mono ?_
  rintro e w8 ⟨b1, b2, b3, g1, g2, g3, rfl, e8, rb8, rg8, t8⟩
  rw [HR.out] at e8 rb8 rg8
  have E8 : Hid (Dec E (P + (tot R.2 : Nat)) R.1 w8) := e8
  have D8 : Hid (Dec w.heap.size (P + (tot R.2 : Nat)) R.1 w8) := turn_dec D7.out t8 hne2
  have RA8 : Hid (Chars w6.heap.size (.slice a1 a2 a3) (chs P R.2) w8) := turn_own RA7.out E7.out t8 (by decide)
  have RF8 : Hid (Faults w6.heap.size (.slice f1 f2 f3) (fls P R.2) w8) := turn_own RF7.out E7.out t8 (by decide)
  have RB8 : Hid (Chars w7.heap.size (.slice b1 b2 b3) (chs P R.2) w8) := rb8
  have RG8 : Hid (Faults w7.heap.size (.slice g1 g2 g3) (fls P R.2) w8) := rg8
  have B8 : Hid (Below w.heap.size w w8) := B7.out.trans (t8.below B7.out.size B7.out.size hZ)
  clear e8 rb8 rg8 t8 D7 E7 RA7 RF7
  go_wp2_with fail
  refine (end_any D8.out).mono ?_
  rintro e w9 ⟨x1, x2, x3, y1, y2, y3, rfl, _, rx9, ry9, t9⟩
  have E9 : Hid (Dec E (P + (tot R.2 : Nat)) R.1 w9) := turn_dec E8.out t9 (Ne.symm hne2)
  have RA9 : Hid (Chars w6.heap.size (.slice a1 a2 a3) (chs P R.2) w9) := turn_own RA8.out D8.out t9 (by decide)
  have RF9 : Hid (Faults w6.heap.size (.slice f1 f2 f3) (fls P R.2) w9) := turn_own RF8.out D8.out t9 (by decide)
  have RB9 : Hid (Chars w7.heap.size (.slice b1 b2 b3) (chs P R.2) w9) := turn_own RB8.out D8.out t9 (by decide)
  have RG9 : Hid (Faults w7.heap.size (.slice g1 g2 g3) (fls P R.2) w9) := turn_own RG8.out D8.out t9 (by decide)
  have RX9 : Hid (Chars w8.heap.size (.slice x1 x2 x3) (chs (P + (tot R.2 : Nat)) (fin R.1)) w9) := rx9
  have RY9 : Hid (Faults w8.heap.size (.slice y1 y2 y3) (fls (P + (tot R.2 : Nat)) (fin R.1)) w9) := ry9
  have B9 : Hid (Below w.heap.size w w9) := B8.out.trans (t9.below B8.out.size B8.out.size (Nat.le_refl _))
  clear rx9 ry9 t9 D8 E8 RA8 RF8 RB8 RG8
  go_wp2_with fail
  refine (end_any E9.out).mono ?_
  rintro e v0 ⟨z1, z2, z3, q1, q2, q3, rfl, _, rz, rq, t10⟩
  have RA : Hid (Chars w6.heap.size (.slice a1 a2 a3) (chs P R.2) v0) := turn_own RA9.out E9.out t10 (by decide)
  have RF : Hid (Faults w6.heap.size (.slice f1 f2 f3) (fls P R.2) v0) := turn_own RF9.out E9.out t10 (by decide)
  have RB : Hid (Chars w7.heap.size (.slice b1 b2 b3) (chs P R.2) v0) := turn_own RB9.out E9.out t10 (by decide)
  have RG : Hid (Faults w7.heap.size (.slice g1 g2 g3) (fls P R.2) v0) := turn_own RG9.out E9.out t10 (by decide)
  have RX : Hid (Chars w8.heap.size (.slice x1 x2 x3) (chs (P + (tot R.2 : Nat)) (fin R.1)) v0) := turn_own RX9.out E9.out t10 (by decide)
  have RY : Hid (Faults w8.heap.size (.slice y1 y2 y3) (fls (P + (tot R.2 : Nat)) (fin R.1)) v0) := turn_own RY9.out E9.out t10 (by decide)
  have RZ : Hid (Chars w9.heap.size (.slice z1 z2 z3) (chs (P + (tot R.2 : Nat)) (fin R.1)) v0) := rz
  have RQ : Hid (Faults w9.heap.size (.slice q1 q2 q3) (fls (P + (tot R.2 : Nat)) (fin R.1)) v0) := rq
  have BV : Hid (Below w.heap.size w v0) := B9.out.trans (t10.below B9.out.size B9.out.size hZ)
  have hfin : (fin R.1).length ≤ 1 := by unfold fin; split <;> simp
  clear rz rq t10 E9 RA9 RF9 RB9 RG9 RX9 RY9 B2 B5 B6 B7 B8 B9
  go_wp2_with fail
  refine (chars_same RA.out RB.out (by rw [chs_length]; omega)).mono ?_
  rintro e v1 ⟨rfl, k1⟩
  have s1 := k1.size
  go_wp2_with fail
  refine (faults_same (own_below RF.out k1) (own_below RG.out k1) (by have := fls_length R.2 P; omega)).mono ?_
  rintro e v2 ⟨rfl, k2⟩
  have k12 := k1.trans (k2.mono s1)
  have s2 := k12.size
  go_wp2_with fail
  refine (chars_same (own_below RX.out k12) (own_below RZ.out k12) (by rw [chs_length]; omega)).mono ?_
  rintro e v3 ⟨rfl, k3⟩
  have k13 := k12.trans (k3.mono s2)
  have s3 := k13.size
  go_wp2_with fail
  refine (faults_same (own_below RY.out k13) (own_below RQ.out k13) (by have := fls_length (fin R.1) (P + (tot R.2 : Nat)); omega)).mono ?_
  rintro e v4 ⟨rfl, k4⟩
  have k14 := k13.trans (k4.mono s3)
  have s4 := k14.size
  go_wp2_with fail
  refine (awake_any _).mono ?_
  rintro e v5 ⟨rfl, k5⟩
  go_wp2_with fail
  go_ret
  exact ⟨rfl, BV.out.trans ((k14.trans (k5.mono s4)).mono BV.out.size)⟩

theorem cop_walk (s t u : ByteArray) (w : World) (hs : s.size ≤ 140737488355328) (ht : t.size ≤ 140737488355328) (hu : u.size ≤ 140737488355328) : Calls Try.prog 6 #[.string s, .string t, .string u] w fun e w' => e = .returned (.bool true) ∧ Below w.heap.size w w' := by
  by_cases h : 20000 < (s.size : Int) + t.size + u.size
  · exact cop_long s t u w hs ht hu h
  · exact cop_short s t u w (by omega)

/-- A text is no longer than the form's reach. -/
theorem str_bound {H : Type} {ts : List TypeId} {ds : List (DataW H)} (hz : (DataW.weightsEach Try.prog ts ds).all (· ≤ reachBytes) = true) {j : Nat} {s : ByteArray}
    (ht : ts[j]? = some 9) (hd : ds[j]? = some (.lit (.string s.data.toList))) : s.size ≤ 140737488355328 := by
  have h1 : s.data.toList.length ∈ (DataW.lit (.string s.data.toList) : DataW H).weights Try.prog 9 := by
    simp [DataW.weights]
  have h2 := List.all_eq_true.1 hz _ (DataW.weights_mem_each ht hd _ h1)
  have h3 : s.data.toList.length = s.size := Array.length_toList
  rw [h3] at h2
  have h4 := of_decide_eq_true h2
  have h5 : reachBytes = 140737488351232 := by decide
  omega

set_option maxRecDepth 100000 in
theorem cop_lifted (os : Os) (started : os.Started) (H : Type) (enc : TypeId × Value → H) :
    ReturnsInHanded {} Try.checked os 6 .any (Rows.utf8inCopiesSpec.pre6 enc Try.prog Try.f6 Rows.utf8inCopiesRow.domain false) (Rows.utf8inCopiesSpec.post enc Try.prog Try.f6 false true false false) := by
  refine returnsInHanded_of_change_sized (C := Try.checked) own started (by kernel_rfl) Try.func6
    (ChangeSpec.witness6 (enc := enc) (C := Try.checked) false ⟨#[], #[.string ⟨#[]⟩, .string ⟨#[]⟩, .string ⟨#[]⟩], []⟩ 8 (by kernel_rfl) (by kernel_rfl) (by kernel_rfl) (by kernel_rfl)) ?_
  intro W base args ds gs before hval0 hW hcnd hz0 _
  have hval : ∀ (j : Nat) t v, Try.f6.params[j]? = some t → args[j]? = some v → Value.okWide Try.prog W .any base t v := hval0
  have hz : (DataW.weightsEach Try.prog (Try.f6.params.toList ++ Rows.utf8inCopiesSpec.plain.varTypes Try.prog) (ds ++ gs)).all (· ≤ reachBytes) = true := hz0
  have hW' := hW
  obtain ⟨p, q, hA0, hV, rfl, hfz, hnd⟩ := hW
  have hA : DataW.TrodAll enc Try.prog W 0 (fun _ => true) true Try.f6.params.toList args.toList ds p := hA0
  rw [Try.params6] at hA hval hz
  obtain ⟨v0, vs0, d0, ds0, p0, q0, hargs, rfl, rfl, h0, r0⟩ := trodAll_cons hA
  obtain ⟨v1, vs1, d1, ds1, p1, q1, rfl, rfl, rfl, h1, r1⟩ := trodAll_cons r0
  obtain ⟨v2, vs2, d2, ds2, p2, q2, rfl, rfl, rfl, h2, r2⟩ := trodAll_cons r1
  obtain ⟨rfl, rfl, rfl⟩ := trodAll_nil r2
  obtain rfl : args = #[v0, v1, v2] := by cases args; simp_all
  obtain ⟨rfl, rfl⟩ := trodVars_none hV
  have k0 := h0
  have lt0 : ∀ x ∈ p0, x.block < W.heap.size := by obtain ⟨m, hm⟩ := k0; exact DataW.trod_lt m _ _ _ hm
  have k1 := h1
  have lt1 : ∀ x ∈ p1, x.block < W.heap.size := by obtain ⟨m, hm⟩ := k1; exact DataW.trod_lt m _ _ _ hm
  have k2 := h2
  have lt2 : ∀ x ∈ p2, x.block < W.heap.size := by obtain ⟨m, hm⟩ := k2; exact DataW.trod_lt m _ _ _ hm
  obtain ⟨x0, hv0, hd0, _, wx0⟩ := Go.ChangeMaps.open_string Try.underlying9 (hval 0 9 v0 rfl rfl) h0
  obtain ⟨x1, hv1, hd1, _, wx1⟩ := Go.ChangeMaps.open_string Try.underlying9 (hval 1 9 v1 rfl rfl) h1
  obtain ⟨x2, hv2, hd2, _, wx2⟩ := Go.ChangeMaps.open_string Try.underlying9 (hval 2 9 v2 rfl rfl) h2
  subst hv0 hv1 hv2
  clear hA0 hval0
  refine (cop_walk x0 x1 x2 W (str_bound (j := 0) hz rfl (by rw [hd0]; rfl)) (str_bound (j := 1) hz rfl (by rw [hd1]; rfl)) (str_bound (j := 2) hz rfl (by rw [hd2]; rfl))).mono fun e W' ⟨he, bel⟩ => ?_
  subst he
  exact ⟨_, rfl, _, _, _, [], _, [], hW', trodAll_mk1 (shut_bool Try.underlying4 _), (trodAll_cons_mk (Below.trod laidOut (by kernel_rfl) (of_decide_eq_true (by kernel_rfl)) k0 bel lt0) (trodAll_cons_mk (Below.trod laidOut (by kernel_rfl) (of_decide_eq_true (by kernel_rfl)) k1 bel lt1) (trodAll_cons_mk (Below.trod laidOut (by kernel_rfl) (of_decide_eq_true (by kernel_rfl)) k2 bel lt2) trodAll_mk0))), rfl, bel.frame _, fun h => by cases h⟩

theorem copies_holds : Rows.Utf8inCopiesSaid :=
  OpenClaim.holds_of_wide 6 Try.f6 rfl rfl rfl rfl rfl rfl rfl ⟨rfl, rfl, rfl, rfl, rfl⟩ rfl rfl rfl rfl rfl (by kernel_rfl) Try.func6 (by kernel_rfl)
    (of_decide_eq_true (by kernel_rfl)) (by unfold Func.isWrapper; first | (rw [if_pos (by decide +kernel)]; kernel_rfl) | (rw [if_neg (by decide +kernel)]; exact ⟨rfl, rfl⟩))
    (fun os started H enc _ => cop_lifted os started H enc)
#print axioms copies_holds
end Go.Proofs.Yteonfhgcjcpfkaa
