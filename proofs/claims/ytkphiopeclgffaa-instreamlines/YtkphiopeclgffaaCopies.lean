/- The law InstreamCopies holds for all texts: a copy goes on as the stream that it was copied of, and neither changes the other. No condition. -/
import Derived.Test.YtkphiopeclgffaaBase
import Derived.ProofKit
import Derived.OpenShut
import Derived.ShutString
import Derived.ChangeOld
import Derived.ChangeMaps
import Derived.Lib.SmallJoins
import Derived.SizedLaws
namespace Go.Proofs.Ytkphiopeclgffaa
open Go.ChangeShapes Go.WideShapes Go.ChangeAt Go.RowKit Go.Joins

theorem keep_strm {x d y e : Nat} {p q : Int} {u v : List UInt8} {a b : Ch} {w w' : World} (h : Strm y e q v b w) (hx : Strm x d p u a w) (k : Keep (Rest w.heap.size x d) w w') (h1 : y ≠ x) (h2 : e ≠ d) : Strm y e q v b w' := by
  have y1 := (str_cells h.str).1
  have e1 := (dec_cells h.dec).1
  have y2 : y ≠ d := fun e' => by
    have h1 := h.str
    have h2 := hx.dec
    unfold StrIs at h1
    unfold Dec DecIs at h2
    rw [e', h2] at h1
    simp at h1
  have e2 : e ≠ x := fun e' => by
    have h1 := h.dec
    have h2 := hx.str
    unfold StrIs at h2
    unfold Dec DecIs at h1
    rw [e', h2] at h1
    simp at h1
  exact ⟨(k.block y ⟨y1, h1, y2⟩ y1).trans h.str, (k.block e ⟨e1, e2, h2⟩ e1).trans h.dec, h.ok⟩
theorem keep_own {x d B e s n : Nat} {p : Int} {u : List UInt8} {a : Ch} {v : Value} {xs : List Value} {w w' : World} (h : w.ownsRow B e s v n xs) (hx : Strm x d p u a w) (k : Keep (Rest w.heap.size x d) w w') (he : e ≠ 50) (he2 : e ≠ 61) : w'.ownsRow B e s v n xs :=
  own_same h fun g cur m _ hg => by
    have hlt := (Array.getElem?_eq_some_iff.1 hg).1
    have h1 : g ≠ x := fun y => by
      have h2 := hx.str
      unfold StrIs at h2
      rw [y, h2] at hg; simp at hg; exact he hg.2.1.symm
    have h2 : g ≠ d := fun y => by
      have h2 := hx.dec
      unfold Dec DecIs at h2
      rw [y, h2] at hg; simp at hg; exact he2 hg.2.1.symm
    exact (k.block g ⟨hlt, h1, h2⟩ hlt).trans hg
theorem keep_below {x d C : Nat} {w w' : World} (k : Keep (Rest w.heap.size x d) w w') (h0 : C ≤ w.heap.size) (h1 : C ≤ x) (h2 : C ≤ d) : Below C w w' :=
  ⟨k.os, k.tape, k.output, k.size, fun j hj => k.block j ⟨by omega, by omega, by omega⟩ (by omega)⟩

set_option maxHeartbeats 1000000 in
theorem cop_long (s t u : ByteArray) (w : World) (hs : s.size ≤ 140737488355328) (ht : t.size ≤ 140737488355328) (hu : u.size ≤ 140737488355328) (h : 20000 < (s.size : Int) + t.size + u.size) : Calls Try.prog 5 #[.string s, .string t, .string u] w fun e w' => e = .returned (.bool true) ∧ Below w.heap.size w w' := by
  go_enter Try.func5, Try.ntmps5
  go_wp2_with fail
  refine (snew_any _).mono ?_
  rintro e w1 ⟨rfl, n1, n2, n3⟩
  clear n1
  go_wp2_with (go_at_call 7; refine (awake_any _).mono ?_; rintro e w2 ⟨rfl, b2⟩)
  go_ret
  exact ⟨rfl, n2.trans (b2.mono n2.size)⟩

set_option maxHeartbeats 2000000 in
theorem cop_short (s t u : ByteArray) (w : World) (h : (s.size : Int) + t.size + u.size ≤ 20000) : Calls Try.prog 5 #[.string s, .string t, .string u] w fun e w' => e = .returned (.bool true) ∧ Below w.heap.size w w' := by
  obtain ⟨r1, _, _, r4⟩ := run_ok s.data.toList [] trivial
  have hsl : s.data.toList.length = s.size := Array.length_toList
  rw [hsl, List.length_nil] at r4
  obtain ⟨U, hU⟩ : ∃ U, (run [] s.data.toList).1 = U := ⟨_, rfl⟩
  obtain ⟨L, hL⟩ : ∃ L, (run [] s.data.toList).2 = L := ⟨_, rfl⟩
  rw [hU] at r1 r4
  rw [hL] at r4
  have HU : Hid ((run [] s.data.toList).1 = U) := hU
  have HL : Hid ((run [] s.data.toList).2 = L) := hL
  have hP : Hid (pend U) := r1
  have hfew := run_few t.data.toList U
  have htl : t.data.toList.length = t.size := Array.length_toList
  rw [htl] at hfew
  have hu3 : U.length ≤ 20000 := by omega
  obtain ⟨T, hT⟩ : ∃ T, (tsL Ch0 (chs 0 L)).1 = T := ⟨_, rfl⟩
  have HT : Hid ((tsL Ch0 (chs 0 L)).1 = T) := hT
  clear hU hL r1 hsl htl hT
  have hsz : s.size ≤ 20000 := by omega
  have htz : t.size ≤ 20000 := by omega
  have huz : u.size ≤ 20000 := by omega
  go_enter Try.func5, Try.ntmps5
  go_wp2_with fail
  refine (snew_any _).mono ?_
  rintro e w1 ⟨rfl, n1, n2, n3⟩
  obtain ⟨N, hN⟩ : ∃ N, w.heap.size = N := ⟨_, rfl⟩
  have HN : Hid (w.heap.size = N) := hN
  rw [hN] at n1 n2 n3 ⊢
  clear hN
  have D1 : Hid (Strm (N + 1) N 0 [] Ch0 w1) := n1
  have B1 : Hid (Below N w w1) := n2
  have Z1 : Hid (w1.heap.size = N + 2) := n3
  clear n1 n2 n3
  go_wp2_with fail
  refine (sfeed_any (u := []) s trivial (by omega) (by omega) D1.out (by omega)).mono ?_
  rintro e w2 ⟨ca, cn, cc, fa, fn, fc, rfl, d2, _, _, t2⟩
  rw [HU.out, HL.out, HT.out] at d2
  obtain ⟨P, hP0⟩ : ∃ P : Int, 0 + ((tot L : Nat) : Int) = P := ⟨_, rfl⟩
  rw [hP0] at d2
  have p0 : 0 ≤ P := by omega
  have p1 : P ≤ 100000 := by omega
  have D2 : Hid (Strm (N + 1) N P U T w2) := d2
  have B2 : Hid (Below N w w2) := B1.out.trans (keep_below t2 (by have := Z1.out; omega) (by omega) (Nat.le_refl _))
  have Z2 : Hid (N + 2 ≤ w2.heap.size) := by have := t2.size; have := Z1.out; show _ ≤ _; omega
  clear d2 t2 D1 B1 hP0
  go_wp2_with fail
  refine (scopy_any D2.out).mono ?_
  rintro e w3 ⟨rfl, c3, d3, b3, z3⟩
  obtain ⟨C, hC⟩ : ∃ C, w2.heap.size = C := ⟨_, rfl⟩
  rw [hC] at c3 b3 z3 Z2 ⊢
  have hCN : N + 2 ≤ C := Z2.out
  have C3 : Hid (Strm (C + 1) C P U T w3) := c3
  have D3 : Hid (Strm (N + 1) N P U T w3) := d3
  have B3 : Hid (Below N w w3) := B2.out.trans (b3.mono (by omega))
  have Z3 : Hid (w3.heap.size = C + 2) := z3
  clear c3 d3 b3 D2 z3 hC Z2
  go_wp2_with fail
  refine (sfeed_any u hP.out p0 (by omega) C3.out (by omega)).mono ?_
  rintro e w4 ⟨ca4, cn4, cc4, fa4, fn4, fc4, rfl, c4, _, _, t4⟩
  have D4 : Hid (Strm (N + 1) N P U T w4) := keep_strm D3.out C3.out t4 (by omega) (by omega)
  have B4 : Hid (Below N w w4) := B3.out.trans (keep_below t4 (by have := Z3.out; omega) (by omega) (by omega))
  have Z4 : Hid (C + 2 ≤ w4.heap.size) := by have := t4.size; have := Z3.out; show _ ≤ _; omega
  generalize hq : P + ((tot (run U u.data.toList).2 : Nat) : Int) = Q at c4
  generalize hv : (run U u.data.toList).1 = V at c4
  generalize hv2 : (tsL T (chs P (run U u.data.toList).2)).1 = T2 at c4
  have C4 : Hid (Strm (C + 1) C Q V T2 w4) := c4
  clear c4 t4 D3 C3 B3 hq hv hv2
  go_wp2_with fail
  refine (send_any C4.out).mono ?_
  rintro e w5 ⟨ca5, cn5, cc5, fa5, fn5, fc5, rfl, _, _, _, t5⟩
  have D5 : Hid (Strm (N + 1) N P U T w5) := keep_strm D4.out C4.out t5 (by omega) (by omega)
  have B5 : Hid (Below N w w5) := B4.out.trans (keep_below t5 (by have := Z4.out; omega) (by omega) (by omega))
  have Z5 : Hid (C + 2 ≤ w5.heap.size) := by have := t5.size; have := Z4.out; show _ ≤ _; omega
  clear t5 D4 C4 B4
  go_wp2_with fail
  refine (scopy_any D5.out).mono ?_
  rintro e w6 ⟨rfl, e6, d6, b6, z6⟩
  obtain ⟨E, hE⟩ : ∃ E, w5.heap.size = E := ⟨_, rfl⟩
  rw [hE] at e6 b6 z6 Z5 ⊢
  have hEN : C + 2 ≤ E := Z5.out
  have E6 : Hid (Strm (E + 1) E P U T w6) := e6
  have D6 : Hid (Strm (N + 1) N P U T w6) := d6
  have B6 : Hid (Below N w w6) := B5.out.trans (b6.mono (by omega))
  have Z6 : Hid (w6.heap.size = E + 2) := z6
  clear e6 d6 b6 D5 z6 hE Z5
  generalize hR : run U t.data.toList = R at *
  have HR : Hid (run U t.data.toList = R) := hR
  clear hR
  go_wp2_with fail
  refine (sfeed_any t hP.out p0 (by omega) D6.out (by omega)).mono ?_
  rintro e w7 ⟨a1, a2, a3, f1, f2, f3, rfl, d7, ra7, rf7, t7⟩
  rw [HR.out] at d7 ra7 rf7
  obtain ⟨Y, hY⟩ : ∃ Y, tsL T (chs P R.2) = Y := ⟨_, rfl⟩
  have hYl := tsL_len (chs P R.2) T
  rw [chs_length, hY] at hYl
  rw [hY] at d7 ra7
  have HY : Hid (tsL T (chs P R.2) = Y) := hY
  have D7 : Hid (Strm (N + 1) N (P + (tot R.2 : Nat)) R.1 Y.1 w7) := d7
  have E7 : Hid (Strm (E + 1) E P U T w7) := keep_strm E6.out D6.out t7 (by omega) (by omega)
  have RA7 : Hid (Chars w6.heap.size (.slice a1 a2 a3) Y.2 w7) := ra7
  have RF7 : Hid (FaultsC w6.heap.size (.slice f1 f2 f3) (fcs P R.2) w7) := rf7
  have B7 : Hid (Below N w w7) := B6.out.trans (keep_below t7 (by have := Z6.out; omega) (by omega) (Nat.le_refl _))
  have Z7 : Hid (E + 2 ≤ w7.heap.size) := by have := t7.size; have := Z6.out; show _ ≤ _; omega
  clear d7 ra7 rf7 t7 D6 E6 hY
  go_wp2_with fail
  refine (sfeed_any t hP.out p0 (by omega) E7.out (by omega)).mono ?_
  rintro e w8 ⟨b1, b2, b3, g1, g2, g3, rfl, e8, rb8, rg8, t8⟩
  rw [HR.out, HY.out] at e8 rb8
  rw [HR.out] at rg8
  have E8 : Hid (Strm (E + 1) E (P + (tot R.2 : Nat)) R.1 Y.1 w8) := e8
  have D8 : Hid (Strm (N + 1) N (P + (tot R.2 : Nat)) R.1 Y.1 w8) := keep_strm D7.out E7.out t8 (by omega) (by omega)
  have RA8 : Hid (Chars w6.heap.size (.slice a1 a2 a3) Y.2 w8) := keep_own RA7.out E7.out t8 (by decide) (by decide)
  have RF8 : Hid (FaultsC w6.heap.size (.slice f1 f2 f3) (fcs P R.2) w8) := keep_own RF7.out E7.out t8 (by decide) (by decide)
  have RB8 : Hid (Chars w7.heap.size (.slice b1 b2 b3) Y.2 w8) := rb8
  have RG8 : Hid (FaultsC w7.heap.size (.slice g1 g2 g3) (fcs P R.2) w8) := rg8
  have B8 : Hid (Below N w w8) := B7.out.trans (keep_below t8 (by have := Z7.out; omega) (by omega) (by omega))
  have Z8 : Hid (E + 2 ≤ w8.heap.size) := by have := t8.size; have := Z7.out; show _ ≤ _; omega
  clear e8 rb8 rg8 t8 D7 E7 RA7 RF7
  go_wp2_with fail
  obtain ⟨M, hM⟩ : ∃ M, (tsL Y.1 (chs (P + (tot R.2 : Nat)) (fin R.1))).2 ++ rel (tsL Y.1 (chs (P + (tot R.2 : Nat)) (fin R.1))).1 = M := ⟨_, rfl⟩
  have hMl : M.length ≤ 3 := by
    have h1 := tsL_len (chs (P + (tot R.2 : Nat)) (fin R.1)) Y.1
    have h2 := rel_len (tsL Y.1 (chs (P + (tot R.2 : Nat)) (fin R.1))).1
    have h3 := fin_few R.1
    rw [chs_length] at h1
    rw [← hM, List.length_append]
    omega
  have HM : Hid ((tsL Y.1 (chs (P + (tot R.2 : Nat)) (fin R.1))).2 ++ rel (tsL Y.1 (chs (P + (tot R.2 : Nat)) (fin R.1))).1 = M) := hM
  clear hM
  refine (send_any D8.out).mono ?_
  rintro e w9 ⟨x1, x2, x3, y1, y2, y3, rfl, _, rx9, ry9, t9⟩
  rw [HM.out] at rx9
  have E9 : Hid (Strm (E + 1) E (P + (tot R.2 : Nat)) R.1 Y.1 w9) := keep_strm E8.out D8.out t9 (by omega) (by omega)
  have RA9 : Hid (Chars w6.heap.size (.slice a1 a2 a3) Y.2 w9) := keep_own RA8.out D8.out t9 (by decide) (by decide)
  have RF9 : Hid (FaultsC w6.heap.size (.slice f1 f2 f3) (fcs P R.2) w9) := keep_own RF8.out D8.out t9 (by decide) (by decide)
  have RB9 : Hid (Chars w7.heap.size (.slice b1 b2 b3) Y.2 w9) := keep_own RB8.out D8.out t9 (by decide) (by decide)
  have RG9 : Hid (FaultsC w7.heap.size (.slice g1 g2 g3) (fcs P R.2) w9) := keep_own RG8.out D8.out t9 (by decide) (by decide)
  have RX9 : Hid (Chars w8.heap.size (.slice x1 x2 x3) M w9) := rx9
  have RY9 : Hid (FaultsC w8.heap.size (.slice y1 y2 y3) (fcs (P + (tot R.2 : Nat)) (fin R.1)) w9) := ry9
  have B9 : Hid (Below N w w9) := B8.out.trans (keep_below t9 (by have := Z8.out; omega) (by omega) (Nat.le_refl _))
  have Z9 : Hid (E + 2 ≤ w9.heap.size) := by have := t9.size; have := Z8.out; show _ ≤ _; omega
  clear rx9 ry9 t9 D8 E8 RA8 RF8 RB8 RG8
  go_wp2_with fail
  refine (send_any E9.out).mono ?_
  rintro e v0 ⟨z1, z2, z3, q1, q2, q3, rfl, _, rz, rq, t10⟩
  rw [HM.out] at rz
  have RA : Hid (Chars w6.heap.size (.slice a1 a2 a3) Y.2 v0) := keep_own RA9.out E9.out t10 (by decide) (by decide)
  have RF : Hid (FaultsC w6.heap.size (.slice f1 f2 f3) (fcs P R.2) v0) := keep_own RF9.out E9.out t10 (by decide) (by decide)
  have RB : Hid (Chars w7.heap.size (.slice b1 b2 b3) Y.2 v0) := keep_own RB9.out E9.out t10 (by decide) (by decide)
  have RG : Hid (FaultsC w7.heap.size (.slice g1 g2 g3) (fcs P R.2) v0) := keep_own RG9.out E9.out t10 (by decide) (by decide)
  have RX : Hid (Chars w8.heap.size (.slice x1 x2 x3) M v0) := keep_own RX9.out E9.out t10 (by decide) (by decide)
  have RY : Hid (FaultsC w8.heap.size (.slice y1 y2 y3) (fcs (P + (tot R.2 : Nat)) (fin R.1)) v0) := keep_own RY9.out E9.out t10 (by decide) (by decide)
  have RZ : Hid (Chars w9.heap.size (.slice z1 z2 z3) M v0) := rz
  have RQ : Hid (FaultsC w9.heap.size (.slice q1 q2 q3) (fcs (P + (tot R.2 : Nat)) (fin R.1)) v0) := rq
  have BV : Hid (Below N w v0) := B9.out.trans (keep_below t10 (by have := Z9.out; omega) (by omega) (by omega))
  have hfin := fin_few R.1
  clear rz rq t10 E9 RA9 RF9 RB9 RG9 RX9 RY9 B2 B5 B6 B7 B8 B9
  go_wp2_with fail
  refine (chars_same RA.out RB.out (by omega)).mono ?_
  rintro e v1 ⟨rfl, k1⟩
  have s1 := k1.size
  go_wp2_with fail
  refine (faults_same (own_below RF.out k1) (own_below RG.out k1) (by have := fcs_length R.2 P; omega)).mono ?_
  rintro e v2 ⟨rfl, k2⟩
  have k12 := k1.trans (k2.mono s1)
  have s2 := k12.size
  go_wp2_with fail
  refine (chars_same (own_below RX.out k12) (own_below RZ.out k12) (by omega)).mono ?_
  rintro e v3 ⟨rfl, k3⟩
  have k13 := k12.trans (k3.mono s2)
  have s3 := k13.size
  go_wp2_with fail
  refine (faults_same (own_below RY.out k13) (own_below RQ.out k13) (by have := fcs_length (fin R.1) (P + (tot R.2 : Nat)); omega)).mono ?_
  rintro e v4 ⟨rfl, k4⟩
  have k14 := k13.trans (k4.mono s3)
  have s4 := k14.size
  go_wp2_with fail
  refine (awake_any _).mono ?_
  rintro e v5 ⟨rfl, k5⟩
  go_wp2_with fail
  go_ret
  have hNv : N ≤ v0.heap.size := by have := BV.out.size; have := HN.out; omega
  rw [HN.out]
  exact ⟨rfl, BV.out.trans ((k14.trans (k5.mono s4)).mono hNv)⟩

theorem cop_walk (s t u : ByteArray) (w : World) (hs : s.size ≤ 140737488355328) (ht : t.size ≤ 140737488355328) (hu : u.size ≤ 140737488355328) : Calls Try.prog 5 #[.string s, .string t, .string u] w fun e w' => e = .returned (.bool true) ∧ Below w.heap.size w w' := by
  by_cases h : 20000 < (s.size : Int) + t.size + u.size
  · exact cop_long s t u w hs ht hu h
  · exact cop_short s t u w (by omega)

/-- A text is no longer than the form's reach. -/
theorem str_bound {H : Type} {ts : List TypeId} {ds : List (DataW H)} (hz : (DataW.weightsEach Try.prog ts ds).all (· ≤ reachBytes) = true) {j : Nat} {s : ByteArray}
    (ht : ts[j]? = some 9) (hd : ds[j]? = some (.lit (.string s.data.toList))) : s.size ≤ 140737488355328 := by
  have h1 : s.data.toList.length ∈ (DataW.lit (.string s.data.toList) : DataW H).weights Try.prog 9 := by
    simp [DataW.weights]
  have h2 := List.all_eq_true.1 hz _ (DataW.weights_mem_each ht hd _ h1)
  have h3 : s.data.toList.length = s.size := Array.length_toList
  rw [h3] at h2
  have h4 := of_decide_eq_true h2
  have h5 : reachBytes = 140737488351232 := by decide
  omega

set_option maxRecDepth 100000 in
theorem cop_lifted (os : Os) (started : os.Started) (H : Type) (enc : TypeId × Value → H) :
    ReturnsInHanded {} Try.checked os 5 .any (Rows.instreamCopiesSpec.pre6 enc Try.prog Try.f5 Rows.instreamCopiesRow.domain false) (Rows.instreamCopiesSpec.post enc Try.prog Try.f5 false true false false) := by
  refine returnsInHanded_of_change_sized (C := Try.checked) own started (by kernel_rfl) Try.func5
    (ChangeSpec.witness6 (enc := enc) (C := Try.checked) false ⟨#[], #[.string ⟨#[]⟩, .string ⟨#[]⟩, .string ⟨#[]⟩], []⟩ 8 (by kernel_rfl) (by kernel_rfl) (by kernel_rfl) (by kernel_rfl)) ?_
  intro W base args ds gs before hval0 hW hcnd hz0 _
  have hval : ∀ (j : Nat) t v, Try.f5.params[j]? = some t → args[j]? = some v → Value.okWide Try.prog W .any base t v := hval0
  have hz : (DataW.weightsEach Try.prog (Try.f5.params.toList ++ Rows.instreamCopiesSpec.plain.varTypes Try.prog) (ds ++ gs)).all (· ≤ reachBytes) = true := hz0
  have hW' := hW
  obtain ⟨p, q, hA0, hV, rfl, hfz, hnd⟩ := hW
  have hA : DataW.TrodAll enc Try.prog W 0 (fun _ => true) true Try.f5.params.toList args.toList ds p := hA0
  rw [Try.params5] at hA hval hz
  obtain ⟨v0, vs0, d0, ds0, p0, q0, hargs, rfl, rfl, h0, r0⟩ := trodAll_cons hA
  obtain ⟨v1, vs1, d1, ds1, p1, q1, rfl, rfl, rfl, h1, r1⟩ := trodAll_cons r0
  obtain ⟨v2, vs2, d2, ds2, p2, q2, rfl, rfl, rfl, h2, r2⟩ := trodAll_cons r1
  obtain ⟨rfl, rfl, rfl⟩ := trodAll_nil r2
  obtain rfl : args = #[v0, v1, v2] := by cases args; simp_all
  obtain ⟨rfl, rfl⟩ := trodVars_none hV
  have k0 := h0
  have lt0 : ∀ x ∈ p0, x.block < W.heap.size := by obtain ⟨m, hm⟩ := k0; exact DataW.trod_lt m _ _ _ hm
  have k1 := h1
  have lt1 : ∀ x ∈ p1, x.block < W.heap.size := by obtain ⟨m, hm⟩ := k1; exact DataW.trod_lt m _ _ _ hm
  have k2 := h2
  have lt2 : ∀ x ∈ p2, x.block < W.heap.size := by obtain ⟨m, hm⟩ := k2; exact DataW.trod_lt m _ _ _ hm
  obtain ⟨x0, hv0, hd0, _, wx0⟩ := Go.ChangeMaps.open_string Try.underlying9 (hval 0 9 v0 rfl rfl) h0
  obtain ⟨x1, hv1, hd1, _, wx1⟩ := Go.ChangeMaps.open_string Try.underlying9 (hval 1 9 v1 rfl rfl) h1
  obtain ⟨x2, hv2, hd2, _, wx2⟩ := Go.ChangeMaps.open_string Try.underlying9 (hval 2 9 v2 rfl rfl) h2
  subst hv0 hv1 hv2
  clear hA0 hval0
  refine (cop_walk x0 x1 x2 W (str_bound (j := 0) hz rfl (by rw [hd0]; rfl)) (str_bound (j := 1) hz rfl (by rw [hd1]; rfl)) (str_bound (j := 2) hz rfl (by rw [hd2]; rfl))).mono fun e W' ⟨he, bel⟩ => ?_
  subst he
  exact ⟨_, rfl, _, _, _, [], _, [], hW', trodAll_mk1 (shut_bool Try.underlying4 _), (trodAll_cons_mk (Below.trod laidOut (by kernel_rfl) (of_decide_eq_true (by kernel_rfl)) k0 bel lt0) (trodAll_cons_mk (Below.trod laidOut (by kernel_rfl) (of_decide_eq_true (by kernel_rfl)) k1 bel lt1) (trodAll_cons_mk (Below.trod laidOut (by kernel_rfl) (of_decide_eq_true (by kernel_rfl)) k2 bel lt2) trodAll_mk0))), rfl, bel.frame _, fun h => by cases h⟩

theorem copies_holds : Rows.InstreamCopiesSaid :=
  OpenClaim.holds_of_wide 5 Try.f5 rfl rfl rfl rfl rfl rfl rfl ⟨rfl, rfl, rfl, rfl, rfl⟩ rfl rfl rfl rfl rfl (by kernel_rfl) Try.func5 (by kernel_rfl)
    (of_decide_eq_true (by kernel_rfl)) (by unfold Func.isWrapper; first | (rw [if_pos (by decide +kernel)]; kernel_rfl) | (rw [if_neg (by decide +kernel)]; exact ⟨rfl, rfl⟩))
    (fun os started H enc _ => cop_lifted os started H enc)
#print axioms copies_holds
end Go.Proofs.Ytkphiopeclgffaa
