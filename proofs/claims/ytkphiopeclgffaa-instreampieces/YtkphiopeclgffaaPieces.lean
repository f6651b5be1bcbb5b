/- The law InstreamPieces holds for all pieces: however bytes are cut, the characters and faults are the same. No condition. -/
import Derived.Test.YtkphiopeclgffaaPcs
import Derived.ProofKit
import Derived.OpenShut
import Derived.ShutString
import Derived.ChangeOld
import Derived.ChangeMaps
import Derived.Lib.SmallJoins
namespace Go.Proofs.Ytkphiopeclgffaa
open Go.ChangeShapes Go.WideShapes Go.ChangeAt Go.RowKit Go.Joins

set_option maxHeartbeats 4000000 in
set_option maxRecDepth 100000 in
theorem pie_walk (lo : Option Addr) (len cap : Nat) (f : Nat → ByteArray) (w : World) (_hl : len ≤ cap) (_hcap : cap ≤ 9223372036854775807) (hrow : StrRow w lo len f) :
    Calls Try.prog 4 #[.slice lo len cap] w fun e w' => e = .returned (.bool true) ∧ Below w.heap.size w w' := by
  have HR : Hid (StrRow w lo len f) := hrow
  clear hrow
  go_enter Try.func4, Try.ntmps4
  go_wp2_with fail
  refine (snew_any _).mono ?_
  rintro e w1 ⟨rfl, n1, n2, n3⟩
  obtain ⟨N, hN⟩ : ∃ N, w.heap.size = N := ⟨_, rfl⟩
  have HN : Hid (w.heap.size = N) := hN
  rw [hN] at n1 n2 n3 ⊢
  clear hN
  have ST : Hid (Pcs N [] [] w w1 (.slice none 0 0) (.slice none 0 0)) := pcs_start n1 n2
  have hz1 : N ≤ w1.heap.size := by omega
  clear n1 n2 n3
  go_wp2_with fail
  go_loopw [4, 5, 6, 7] (fun sv av fv iv wr => ∃ (k : Nat) (S : ByteArray) (U : List UInt8) (L : List (Int × Nat)), k ≤ len ∧ iv = .int .i64 k ∧ sv = .string S ∧ S.size ≤ 40000 ∧ run [] S.data.toList = (U, L) ∧ Pcs N L U w wr av fv ∧ N ≤ wr.heap.size) (fun _ _ _ iv _ => len - (intOf iv).toNat)
  case atStart => exact ⟨0, ⟨#[]⟩, [], [], Nat.zero_le _, rfl, rfl, by decide, rfl, ST.out, hz1⟩
  case round =>
    obtain ⟨k, S, U, L, hk, rfl, rfl, hS, hru, hP, hz⟩ := hrel
    obtain ⟨r1, r2, r3, r4⟩ := run_ok S.data.toList [] trivial
    have hSl : S.data.toList.length = S.size := Array.length_toList
    have hfew := run_few S.data.toList []
    rw [hSl, List.length_nil, Nat.zero_add] at r4
    rw [hSl] at hfew
    rw [hru] at r1 r4 hfew
    have PU : Hid (pend U) := r1
    have HRU : Hid (run [] S.data.toList = (U, L)) := hru
    obtain ⟨ca, cc, rfl, _, _⟩ := own_form hP.ch
    obtain ⟨fa, fc, rfl, _, _⟩ := own_form hP.fl
    obtain ⟨cn, hcn⟩ : ∃ n, (toL L).length = n := ⟨_, rfl⟩
    obtain ⟨fn, hfn⟩ : ∃ n, (fcs 0 L).length = n := ⟨_, rfl⟩
    rw [hcn, hfn] at hP
    rw [hcn, hfn]
    have HP : Hid (Pcs N L U w wr (.slice ca cn cc) (.slice fa fn fc)) := hP
    have hLl : L.length ≤ 80000 := by simp only at hfew; omega
    have htl : tot L ≤ 40000 := by simp only at r4; omega
    clear r1 r2 r3 r4 hP hcn hfn hru hfew
    by_cases hlt : k < len ∧ S.size < 20000
    · obtain ⟨hl1, hl2⟩ := hlt
      obtain ⟨b0, off, hlo, hb0, hc0⟩ := HR.out k hl1
      subst hlo
      have hb0N : b0 < N := by have := HN.out; omega
      have c0 : wr.cell? ⟨b0, off + k, none⟩ = some (.string (f k)) := (HP.out.below.cell (p := ⟨b0, off + k, none⟩) hb0N).trans hc0
      have hb1 : b0 < wr.heap.size := Nat.lt_of_lt_of_le hb0N hz
      clear hc0
      obtain ⟨t, ht⟩ : ∃ t, f k = t := ⟨_, rfl⟩
      rw [ht] at c0
      clear ht
      by_cases htz : 20000 < t.size
      · go_wp2_with fail
        exact ⟨⟨k + 1, S, U, L, by omega, by go_num, rfl, hS, HRU.out, HP.out, hz⟩, by simp [intOf]; omega⟩
      · go_wp2_with fail
        refine (sfeed_any t PU.out (by omega) (by omega) HP.out.str (by omega)).mono ?_
        rintro e w2 ⟨xa, xn, xc, ya, yn, yc, rfl, s2, rx2, ry2, t2⟩
        have hMl : (run U t.data.toList).2.length ≤ 100000 := by
          have := run_few t.data.toList U
          have htl : t.data.toList.length = t.size := Array.length_toList
          omega
        obtain ⟨A2, F2, a2, f2, a3, f3, w3, w4, hrun, hrun2, hNext, hz4⟩ := pcs_next HP.out hz (by omega) hMl s2 rx2 ry2 t2
        have HNX : Hid (Pcs N (L ++ (run U t.data.toList).2) (run U t.data.toList).1 w w4 (.slice A2 a2 a3) (.slice F2 f2 f3)) := hNext
        clear s2 rx2 ry2 t2 hNext hMl
        have hST : (S ++ t).size ≤ 40000 := by rw [ByteArray.size_append]; omega
        have HRN : Hid (run [] (S ++ t).data.toList = ((run U t.data.toList).1, L ++ (run U t.data.toList).2)) := by
          show _ = _
          rw [cat_list, run_append, HRU.out]
        go_wp2_with (at_builtin; first | refine list_append_eq rfl _ _ 23 23 rfl _ _ rfl rfl hrun ?_ | refine list_append_eq rfl _ _ 24 24 rfl _ _ rfl rfl hrun2 ?_)
        exact ⟨⟨k + 1, S ++ t, _, _, by omega, by go_num, rfl, hST, HRN.out, HNX.out, hz4⟩, by simp [intOf]; omega⟩
    · have hout : ¬ k < len ∨ (k < len ∧ ¬ S.size < 20000) := by omega
      clear hlt
      have hoc := outc_few S (by omega)
      have hof := outf_few S (by omega)
      rcases hout with hlt | ⟨hkl, hlt⟩
      all_goals
        go_wp2_with fail
        refine (send_any HP.out.str).mono ?_
        rintro e w2 ⟨xa, xn, xc, ya, yn, yc, rfl, s2, rx2, ry2, t2⟩
        obtain ⟨A2, F2, a2, f2, a3, f3, w3, w4, hrun, hrun2, hCH, hFL, hb4⟩ := pcs_end HP.out HRU.out hz (by omega) s2 rx2 ry2 t2
        have HCH : Hid (Chars N (.slice A2 a2 a3) (outc S.data.toList) w4) := hCH
        have HFL : Hid (FaultsC N (.slice F2 f2 f3) (fcs 0 (items S.data.toList)) w4) := hFL
        have HB4 : Hid (Below N w w4) := hb4
        have hz4 : N ≤ w4.heap.size := by have := hb4.size; have := HN.out; omega
        clear s2 rx2 ry2 t2 hCH hFL hb4
        go_wp2_with (at_builtin; first | refine list_append_eq rfl _ _ 23 23 rfl _ _ rfl rfl hrun ?_ | refine list_append_eq rfl _ _ 24 24 rfl _ _ rfl rfl hrun2 ?_)
        refine (rchs_any S _ (by omega)).mono ?_
        rintro e w5 ⟨ga, gn, gc, ha, hn', hc', rfl, c5, f5, b5⟩
        have HCH5 : Hid (Chars N (.slice A2 a2 a3) (outc S.data.toList) w5) := own_below HCH.out b5
        have HFL5 : Hid (FaultsC N (.slice F2 f2 f3) (fcs 0 (items S.data.toList)) w5) := own_below HFL.out b5
        have C5 : Hid (Chars w4.heap.size (.slice ga gn gc) (outc S.data.toList) w5) := c5
        have F5 : Hid (FaultsC w4.heap.size (.slice ha hn' hc') (fcs 0 (items S.data.toList)) w5) := f5
        have HB5 : Hid (Below N w w5) := HB4.out.trans (b5.mono hz4)
        have hz5 : N ≤ w5.heap.size := Nat.le_trans hz4 b5.size
        clear c5 f5 b5 hrun hrun2
        go_wp2_with fail
        refine (chars_same HCH5.out C5.out (by omega)).mono ?_
        rintro e w6 ⟨rfl, b6⟩
        have s6 := b6.size
        go_wp2_with fail
        refine (faults_same (own_below HFL5.out b6) (own_below F5.out b6) (by omega)).mono ?_
        rintro e w7 ⟨rfl, b7⟩
        have b67 := b6.trans (b7.mono s6)
        have s7 := b67.size
        have HB7 : Hid (Below N w w7) := HB5.out.trans (b67.mono hz5)
        clear b6 b7 b67 s6
        go_wp2_with fail
        refine (awake_any _).mono ?_
        rintro e w9 ⟨rfl, b9⟩
        go_wp2_with fail
        go_ret
        rw [HN.out]
        exact ⟨rfl, HB7.out.trans (b9.mono (by omega))⟩

set_option maxRecDepth 100000 in
theorem pie_lifted (os : Os) (started : os.Started) (H : Type) (enc : TypeId × Value → H) :
    ReturnsInHanded {} Try.checked os 4 .any (Rows.instreamPiecesSpec.pre6 enc Try.prog Try.f4 Rows.instreamPiecesRow.domain false) (Rows.instreamPiecesSpec.post enc Try.prog Try.f4 false true false false) := by
  refine returnsInHanded_of_change (C := Try.checked) own started (by kernel_rfl) Try.func4
    (ChangeSpec.witness6 (enc := enc) (C := Try.checked) false ⟨#[], #[.slice none 0 0], []⟩ 8 (by kernel_rfl) (by kernel_rfl) (by kernel_rfl) (by kernel_rfl)) ?_
  intro W base args ds gs before hval0 hW hcnd _
  have hval : ∀ (j : Nat) t v, Try.f4.params[j]? = some t → args[j]? = some v → Value.okWide Try.prog W .any base t v := hval0
  have hW' := hW
  obtain ⟨p, q, hA0, hV, rfl, hfz, hnd⟩ := hW
  have hA : DataW.TrodAll enc Try.prog W 0 (fun _ => true) true Try.f4.params.toList args.toList ds p := hA0
  rw [Try.params4] at hA hval
  obtain ⟨v0, vs0, d0, ds0, p0, q0, hargs, rfl, rfl, h0, r0⟩ := trodAll_cons hA
  obtain ⟨rfl, rfl, rfl⟩ := trodAll_nil r0
  obtain rfl : args = #[v0] := by cases args; simp_all
  obtain ⟨rfl, rfl⟩ := trodVars_none hV
  have k0 := h0
  have lt0 : ∀ x ∈ p0, x.block < W.heap.size := by obtain ⟨m, hm⟩ := k0; exact DataW.trod_lt m _ _ _ hm
  obtain ⟨lo, len, cap, hv0⟩ := okWide_slice Try.underlying30 (hval 0 30 v0 rfl rfl)
  subst hv0
  obtain ⟨fuel, hf⟩ := h0
  obtain ⟨hl, hcm, f, hrow⟩ := open_texts (n := fuel) (by simpa [Value.cells] using hf)
  clear hA0 hval0
  refine (pie_walk lo len cap f W hl hcm hrow).mono fun e W' ⟨he, bel⟩ => ?_
  subst he
  exact ⟨_, rfl, _, _, _, [], _, [], hW', trodAll_mk1 (shut_bool Try.underlying4 _), (trodAll_cons_mk (Below.trod laidOut (by kernel_rfl) (of_decide_eq_true (by kernel_rfl)) k0 bel lt0) trodAll_mk0), rfl, bel.frame _, fun h => by cases h⟩

theorem pieces_holds : Rows.InstreamPiecesSaid :=
  OpenClaim.holds_of_wide 4 Try.f4 rfl rfl rfl rfl rfl rfl rfl ⟨rfl, rfl, rfl, rfl, rfl⟩ rfl rfl rfl rfl rfl (by kernel_rfl) Try.func4 (by kernel_rfl)
    (of_decide_eq_true (by kernel_rfl)) (by unfold Func.isWrapper; first | (rw [if_pos (by decide +kernel)]; kernel_rfl) | (rw [if_neg (by decide +kernel)]; exact ⟨rfl, rfl⟩))
    (fun os started H enc _ => pie_lifted os started H enc)
#print axioms pieces_holds
end Go.Proofs.Ytkphiopeclgffaa
