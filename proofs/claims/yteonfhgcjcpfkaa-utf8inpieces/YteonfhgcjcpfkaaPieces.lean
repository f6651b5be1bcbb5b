/- The law Utf8inPieces holds for all pieces and every place: however bytes are cut, the characters and faults are the same; what is told at once is sure. No condition. -/
import Derived.Test.YteonfhgcjcpfkaaPcs
import Derived.ProofKit
import Derived.OpenShut
import Derived.ShutString
import Derived.ChangeOld
import Derived.ChangeMaps
import Derived.Lib.SmallJoins
namespace Go.Proofs.Yteonfhgcjcpfkaa
open Go.ChangeShapes Go.WideShapes Go.ChangeAt Go.RowKit Go.Joins

set_option maxHeartbeats 4000000 in
set_option maxRecDepth 100000 in
theorem pie_in (q : Int) (lo : Option Addr) (len cap : Nat) (f : Nat → ByteArray) (w : World) (_hl : len ≤ cap) (_hcap : cap ≤ 9223372036854775807) (hrow : StrRow w lo len f) (q0 : 0 ≤ q) (q1 : q ≤ 1099511627776) :
    Calls Try.prog 5 #[.slice lo len cap, .int .i64 q] w fun e w' => e = .returned (.bool true) ∧ Below w.heap.size w w' := by
  have HR : Hid (StrRow w lo len f) := hrow
  clear hrow
  go_enter Try.func5, Try.ntmps5
  go_wp2_with fail
  refine (new_ok q q0 q1 _).mono ?_
  rintro e w1 ⟨rfl, n1, n2, n3⟩
  have ST : Hid (Pcs q w w1 ⟨#[]⟩ (.slice none 0 0) (.slice none 0 0)) := pcs_start n1 n2
  clear n1 n2 n3
  go_wp2_with fail
  go_loopw [6, 7, 8, 9] (fun sv av fv iv wr => ∃ (k : Nat) (S : ByteArray), k ≤ len ∧ iv = .int .i64 k ∧ sv = .string S ∧ S.size ≤ 40000 ∧ Pcs q w wr S av fv) (fun _ _ _ iv _ => len - (intOf iv).toNat)
  case atStart => exact ⟨0, ⟨#[]⟩, Nat.zero_le _, rfl, rfl, by decide, ST.out⟩
  case round =>
    obtain ⟨k, S, hk, rfl, rfl, hS, hP⟩ := hrel
    obtain ⟨r1, r2, r3, r4⟩ := run_ok S.data.toList [] trivial
    have hSl : S.data.toList.length = S.size := Array.length_toList
    have hfew := run_few S.data.toList []
    rw [hSl, List.length_nil, Nat.zero_add] at r4
    rw [hSl] at hfew
    rw [List.nil_append] at r2 r3
    obtain ⟨ca, cc, rfl, _, _⟩ := own_form hP.ch
    obtain ⟨fa, fc, rfl, _, _⟩ := own_form hP.fl
    have hcl : (chs q (run [] S.data.toList).2).length ≤ (run [] S.data.toList).2.length := Nat.le_of_eq (chs_length (run [] S.data.toList).2 q)
    have hfl := fls_length (run [] S.data.toList).2 q
    obtain ⟨cn, hcn⟩ : ∃ n, (chs q (run [] S.data.toList).2).length = n := ⟨_, rfl⟩
    obtain ⟨fn, hfn⟩ : ∃ n, (fls q (run [] S.data.toList).2).length = n := ⟨_, rfl⟩
    rw [hcn, hfn] at hP
    rw [hcn] at hcl
    rw [hfn] at hfl
    obtain ⟨U, hU⟩ : ∃ U, (run [] S.data.toList).1 = U := ⟨_, rfl⟩
    obtain ⟨L, hL⟩ : ∃ L, (run [] S.data.toList).2 = L := ⟨_, rfl⟩
    have HRU : Hid (run [] S.data.toList = (U, L)) := by show _ = _; rw [← hU, ← hL]
    have HP : Hid (Pcs q w wr S (.slice ca cn cc) (.slice fa fn fc)) := hP
    have HCN : Hid ((chs q L).length = cn) := by show _ = _; rw [← hL]; exact hcn
    have HFN : Hid ((fls q L).length = fn) := by show _ = _; rw [← hL]; exact hfn
    have hdec := hP.dec
    rw [hU] at r1 r2 r4 hdec
    rw [hL] at r2 r3 r4 hfew hcl hfl hdec
    have PU : Hid (pend U) := r1
    have HDC : Hid (Dec w.heap.size (q + (tot L : Nat)) U wr) := hdec
    have HI : Hid (items S.data.toList = L ++ fin U) := r2
    have hz := hP.below.size
    rw [hcn, hfn]
    clear r1 r2 r3 hU hL hP hdec hcn hfn
    by_cases hlt : k < len ∧ S.size < 20000
    · obtain ⟨hl1, hl2⟩ := hlt
      obtain ⟨b0, off, hlo, hb0, hc0⟩ := HR.out k hl1
      subst hlo
      have c0 : wr.cell? ⟨b0, off + k, none⟩ = some (.string (f k)) := (HP.out.below.cell (p := ⟨b0, off + k, none⟩) hb0).trans hc0
      have hb1 : b0 < wr.heap.size := Nat.lt_of_lt_of_le hb0 hz
      clear hc0
      obtain ⟨t, ht⟩ : ∃ t, f k = t := ⟨_, rfl⟩
      rw [ht] at c0
      clear ht
      by_cases htz : 20000 < t.size
      · go_wp2_with fail
        exact ⟨⟨k + 1, S, by omega, by go_num, rfl, hS, HP.out⟩, by simp [intOf]; omega⟩
      · go_wp2_with fail
        refine (feed_any t PU.out (by omega) (by omega) HDC.out (by omega)).mono ?_
        rintro e w2 ⟨xa, xn, xc, ya, yn, yc, rfl, d2, rx2, ry2, t2⟩
        obtain ⟨A2, F2, a2, f2, a3, f3, w3, w4, V, M, hrun, hrun2, hNext, hD4, hb4, hz4⟩ := pcs_next (t := t) HRU.out HP.out HDC.out HCN.out HFN.out hz (by omega) (by omega) (by omega) d2 rx2 ry2 t2
        have HNX : Hid (Pcs q w w4 (S ++ t) (.slice A2 a2 a3) (.slice F2 f2 f3)) := hNext
        have HD4 : Hid (Dec w.heap.size (q + (sure (S ++ t).data.toList : Nat)) V w4) := hD4
        clear d2 rx2 ry2 t2 hNext hD4 hb4
        have hST : (S ++ t).size ≤ 40000 := by rw [ByteArray.size_append]; omega
        have hsu : sure (S ++ t).data.toList ≤ 40000 := by have := sure_le (S ++ t).data.toList; have e : (S ++ t).data.toList.length = (S ++ t).size := Array.length_toList; omega
        go_wp2_with (at_builtin; first | refine list_append_eq rfl _ _ 23 23 rfl _ _ rfl rfl hrun ?_ | refine list_append_eq rfl _ _ 24 24 rfl _ _ rfl rfl hrun2 ?_)
        refine (sure_any (S ++ t) _ (by omega)).mono ?_
        rintro e w5 ⟨rfl, b5⟩
        obtain ⟨su, hsue⟩ : ∃ su : Nat, sure (S ++ t).data.toList = su := ⟨_, rfl⟩
        rw [hsue] at HD4 hsu ⊢
        have HD5 : Hid (Dec w.heap.size (q + (su : Nat)) V w5) := dec_below HD4.out b5
        have HN5 : Hid (Pcs q w w5 (S ++ t) (.slice A2 a2 a3) (.slice F2 f2 f3)) := HNX.out.under b5
        clear hsue b5 hrun hrun2 HD4 HNX
        go_wp2_with fail
        refine (offset_any HD5.out).mono ?_
        rintro e w6 ⟨rfl, rfl⟩
        go_wp2_with fail
        exact ⟨⟨k + 1, S ++ t, by omega, by go_num, rfl, hST, HN5.out⟩, by simp [intOf]; omega⟩
    · have hout : ¬ k < len ∨ (k < len ∧ ¬ S.size < 20000) := by omega
      clear hlt
      rcases hout with hlt | ⟨hkl, hlt⟩
      all_goals
        go_wp2_with fail
        refine (end_any HDC.out).mono ?_
        rintro e w2 ⟨xa, xn, xc, ya, yn, yc, rfl, d2, rx2, ry2, t2⟩
        obtain ⟨A2, F2, a2, f2, a3, f3, w3, w4, hrun, hrun2, hCH, hFL, hD4, hb4⟩ := pcs_end (S := S) HP.out HI.out HDC.out HCN.out HFN.out hz (by omega) (by omega) HRU.out d2 rx2 ry2 t2
        have HCH : Hid (Chars w.heap.size (.slice A2 a2 a3) (chs q (items S.data.toList)) w4) := hCH
        have HFL : Hid (Faults w.heap.size (.slice F2 f2 f3) (fls q (items S.data.toList)) w4) := hFL
        have e4 : q + ((tot L : Nat) : Int) + (U.length : Nat) = q + (S.size : Int) := by omega
        rw [e4] at hD4
        have HD4 : Hid (Dec w.heap.size (q + (S.size : Int)) [] w4) := hD4
        have HB4 : Hid (Below w.heap.size w w4) := hb4
        clear d2 rx2 ry2 t2 hCH hFL hD4 hb4 e4
        go_wp2_with (at_builtin; first | refine list_append_eq rfl _ _ 23 23 rfl _ _ rfl rfl hrun ?_ | refine list_append_eq rfl _ _ 24 24 rfl _ _ rfl rfl hrun2 ?_)
        refine (rdec_any S q _ (by omega) (by omega) (by omega)).mono ?_
        rintro e w5 ⟨ga, gn, gc, ha, hn', hc', rfl, c5, f5, b5⟩
        have hif := items_few S (by omega)
        have HCH5 : Hid (Chars w.heap.size (.slice A2 a2 a3) (chs q (items S.data.toList)) w5) := own_below HCH.out b5
        have HFL5 : Hid (Faults w.heap.size (.slice F2 f2 f3) (fls q (items S.data.toList)) w5) := own_below HFL.out b5
        have HD5 : Hid (Dec w.heap.size (q + (S.size : Int)) [] w5) := dec_below HD4.out b5
        have C5 : Hid (Chars w4.heap.size (.slice ga gn gc) (chs q (items S.data.toList)) w5) := c5
        have F5 : Hid (Faults w4.heap.size (.slice ha hn' hc') (fls q (items S.data.toList)) w5) := f5
        have HB5 : Hid (Below w.heap.size w w5) := HB4.out.trans (b5.mono HB4.out.size)
        clear c5 f5 b5 hrun hrun2
        go_wp2_with fail
        refine (chars_same HCH5.out C5.out (by rw [chs_length]; omega)).mono ?_
        rintro e w6 ⟨rfl, b6⟩
        have s6 := b6.size
        go_wp2_with fail
        refine (faults_same (own_below HFL5.out b6) (own_below F5.out b6) (by have := fls_length (items S.data.toList) q; omega)).mono ?_
        rintro e w7 ⟨rfl, b7⟩
        have b67 := b6.trans (b7.mono s6)
        have HD7 : Hid (Dec w.heap.size (q + (S.size : Int)) [] w7) := dec_below HD5.out b67
        have HB7 : Hid (Below w.heap.size w w7) := HB5.out.trans (b67.mono HB5.out.size)
        clear b6 b7 b67 s6
        go_wp2_with fail
        refine (offset_any HD7.out).mono ?_
        rintro e w8 ⟨rfl, rfl⟩
        go_wp2_with fail
        refine (awake_any _).mono ?_
        rintro e w9 ⟨rfl, b9⟩
        go_wp2_with fail
        go_ret
        exact ⟨rfl, HB7.out.trans (b9.mono HB7.out.size)⟩

set_option maxHeartbeats 4000000 in
set_option maxRecDepth 100000 in
theorem pie_low (q : Int) (lo : Option Addr) (len cap : Nat) (f : Nat → ByteArray) (w : World) (_hl : len ≤ cap) (_hcap : cap ≤ 9223372036854775807) (hrow : StrRow w lo len f) (q0 : q < 0) :
    Calls Try.prog 5 #[.slice lo len cap, .int .i64 q] w fun e w' => e = .returned (.bool true) ∧ Below w.heap.size w w' := by
  have HR : Hid (StrRow w lo len f) := hrow
  clear hrow
  go_enter Try.func5, Try.ntmps5
  go_wp2_with fail
  refine (new_no q (.inl q0) _).mono ?_
  rintro e w1 ⟨rfl, n1, n2, n3⟩
  have ST : Hid (Pcs (0 : Int) w w1 ⟨#[]⟩ (.slice none 0 0) (.slice none 0 0)) := pcs_start n1 n2
  clear n1 n2 n3
  go_wp2_with fail
  go_loopw [6, 7, 8, 9] (fun sv av fv iv wr => ∃ (k : Nat) (S : ByteArray), k ≤ len ∧ iv = .int .i64 k ∧ sv = .string S ∧ S.size ≤ 40000 ∧ Pcs (0 : Int) w wr S av fv) (fun _ _ _ iv _ => len - (intOf iv).toNat)
  case atStart => exact ⟨0, ⟨#[]⟩, Nat.zero_le _, rfl, rfl, by decide, ST.out⟩
  case round =>
    obtain ⟨k, S, hk, rfl, rfl, hS, hP⟩ := hrel
    obtain ⟨r1, r2, r3, r4⟩ := run_ok S.data.toList [] trivial
    have hSl : S.data.toList.length = S.size := Array.length_toList
    have hfew := run_few S.data.toList []
    rw [hSl, List.length_nil, Nat.zero_add] at r4
    rw [hSl] at hfew
    rw [List.nil_append] at r2 r3
    obtain ⟨ca, cc, rfl, _, _⟩ := own_form hP.ch
    obtain ⟨fa, fc, rfl, _, _⟩ := own_form hP.fl
    have hcl : (chs (0 : Int) (run [] S.data.toList).2).length ≤ (run [] S.data.toList).2.length := Nat.le_of_eq (chs_length (run [] S.data.toList).2 (0 : Int))
    have hfl := fls_length (run [] S.data.toList).2 (0 : Int)
    obtain ⟨cn, hcn⟩ : ∃ n, (chs (0 : Int) (run [] S.data.toList).2).length = n := ⟨_, rfl⟩
    obtain ⟨fn, hfn⟩ : ∃ n, (fls (0 : Int) (run [] S.data.toList).2).length = n := ⟨_, rfl⟩
    rw [hcn, hfn] at hP
    rw [hcn] at hcl
    rw [hfn] at hfl
    obtain ⟨U, hU⟩ : ∃ U, (run [] S.data.toList).1 = U := ⟨_, rfl⟩
    obtain ⟨L, hL⟩ : ∃ L, (run [] S.data.toList).2 = L := ⟨_, rfl⟩
    have HRU : Hid (run [] S.data.toList = (U, L)) := by show _ = _; rw [← hU, ← hL]
    have HP : Hid (Pcs (0 : Int) w wr S (.slice ca cn cc) (.slice fa fn fc)) := hP
    have HCN : Hid ((chs (0 : Int) L).length = cn) := by show _ = _; rw [← hL]; exact hcn
    have HFN : Hid ((fls (0 : Int) L).length = fn) := by show _ = _; rw [← hL]; exact hfn
    have hdec := hP.dec
    rw [hU] at r1 r2 r4 hdec
    rw [hL] at r2 r3 r4 hfew hcl hfl hdec
    have PU : Hid (pend U) := r1
    have HDC : Hid (Dec w.heap.size ((0 : Int) + (tot L : Nat)) U wr) := hdec
    have HI : Hid (items S.data.toList = L ++ fin U) := r2
    have hz := hP.below.size
    rw [hcn, hfn]
    clear r1 r2 r3 hU hL hP hdec hcn hfn
    by_cases hlt : k < len ∧ S.size < 20000
    · obtain ⟨hl1, hl2⟩ := hlt
      obtain ⟨b0, off, hlo, hb0, hc0⟩ := HR.out k hl1
      subst hlo
      have c0 : wr.cell? ⟨b0, off + k, none⟩ = some (.string (f k)) := (HP.out.below.cell (p := ⟨b0, off + k, none⟩) hb0).trans hc0
      have hb1 : b0 < wr.heap.size := Nat.lt_of_lt_of_le hb0 hz
      clear hc0
      obtain ⟨t, ht⟩ : ∃ t, f k = t := ⟨_, rfl⟩
      rw [ht] at c0
      clear ht
      by_cases htz : 20000 < t.size
      · go_wp2_with fail
        exact ⟨⟨k + 1, S, by omega, by go_num, rfl, hS, HP.out⟩, by simp [intOf]; omega⟩
      · go_wp2_with fail
        refine (feed_any t PU.out (by omega) (by omega) HDC.out (by omega)).mono ?_
        rintro e w2 ⟨xa, xn, xc, ya, yn, yc, rfl, d2, rx2, ry2, t2⟩
        obtain ⟨A2, F2, a2, f2, a3, f3, w3, w4, V, M, hrun, hrun2, hNext, hD4, hb4, hz4⟩ := pcs_next (t := t) HRU.out HP.out HDC.out HCN.out HFN.out hz (by omega) (by omega) (by omega) d2 rx2 ry2 t2
        have HNX : Hid (Pcs (0 : Int) w w4 (S ++ t) (.slice A2 a2 a3) (.slice F2 f2 f3)) := hNext
        have HD4 : Hid (Dec w.heap.size ((0 : Int) + (sure (S ++ t).data.toList : Nat)) V w4) := hD4
        clear d2 rx2 ry2 t2 hNext hD4 hb4
        have hST : (S ++ t).size ≤ 40000 := by rw [ByteArray.size_append]; omega
        have hsu : sure (S ++ t).data.toList ≤ 40000 := by have := sure_le (S ++ t).data.toList; have e : (S ++ t).data.toList.length = (S ++ t).size := Array.length_toList; omega
        go_wp2_with (at_builtin; first | refine list_append_eq rfl _ _ 23 23 rfl _ _ rfl rfl hrun ?_ | refine list_append_eq rfl _ _ 24 24 rfl _ _ rfl rfl hrun2 ?_)
        refine (sure_any (S ++ t) _ (by omega)).mono ?_
        rintro e w5 ⟨rfl, b5⟩
        obtain ⟨su, hsue⟩ : ∃ su : Nat, sure (S ++ t).data.toList = su := ⟨_, rfl⟩
        rw [hsue] at HD4 hsu ⊢
        have HD5 : Hid (Dec w.heap.size ((0 : Int) + (su : Nat)) V w5) := dec_below HD4.out b5
        have HN5 : Hid (Pcs (0 : Int) w w5 (S ++ t) (.slice A2 a2 a3) (.slice F2 f2 f3)) := HNX.out.under b5
        clear hsue b5 hrun hrun2 HD4 HNX
        go_wp2_with fail
        refine (offset_any HD5.out).mono ?_
        rintro e w6 ⟨rfl, rfl⟩
        go_wp2_with fail
        exact ⟨⟨k + 1, S ++ t, by omega, by go_num, rfl, hST, HN5.out⟩, by simp [intOf]; omega⟩
    · have hout : ¬ k < len ∨ (k < len ∧ ¬ S.size < 20000) := by omega
      clear hlt
      rcases hout with hlt | ⟨hkl, hlt⟩
      all_goals
        go_wp2_with fail
        refine (end_any HDC.out).mono ?_
        rintro e w2 ⟨xa, xn, xc, ya, yn, yc, rfl, d2, rx2, ry2, t2⟩
        obtain ⟨A2, F2, a2, f2, a3, f3, w3, w4, hrun, hrun2, hCH, hFL, hD4, hb4⟩ := pcs_end (S := S) HP.out HI.out HDC.out HCN.out HFN.out hz (by omega) (by omega) HRU.out d2 rx2 ry2 t2
        have HCH : Hid (Chars w.heap.size (.slice A2 a2 a3) (chs (0 : Int) (items S.data.toList)) w4) := hCH
        have HFL : Hid (Faults w.heap.size (.slice F2 f2 f3) (fls (0 : Int) (items S.data.toList)) w4) := hFL
        have e4 : (0 : Int) + ((tot L : Nat) : Int) + (U.length : Nat) = (0 : Int) + (S.size : Int) := by omega
        rw [e4] at hD4
        have HD4 : Hid (Dec w.heap.size ((0 : Int) + (S.size : Int)) [] w4) := hD4
        have HB4 : Hid (Below w.heap.size w w4) := hb4
        clear d2 rx2 ry2 t2 hCH hFL hD4 hb4 e4
        go_wp2_with (at_builtin; first | refine list_append_eq rfl _ _ 23 23 rfl _ _ rfl rfl hrun ?_ | refine list_append_eq rfl _ _ 24 24 rfl _ _ rfl rfl hrun2 ?_)
        refine (rdec_any S (0 : Int) _ (by omega) (by omega) (by omega)).mono ?_
        rintro e w5 ⟨ga, gn, gc, ha, hn', hc', rfl, c5, f5, b5⟩
        have hif := items_few S (by omega)
        have HCH5 : Hid (Chars w.heap.size (.slice A2 a2 a3) (chs (0 : Int) (items S.data.toList)) w5) := own_below HCH.out b5
        have HFL5 : Hid (Faults w.heap.size (.slice F2 f2 f3) (fls (0 : Int) (items S.data.toList)) w5) := own_below HFL.out b5
        have HD5 : Hid (Dec w.heap.size ((0 : Int) + (S.size : Int)) [] w5) := dec_below HD4.out b5
        have C5 : Hid (Chars w4.heap.size (.slice ga gn gc) (chs (0 : Int) (items S.data.toList)) w5) := c5
        have F5 : Hid (Faults w4.heap.size (.slice ha hn' hc') (fls (0 : Int) (items S.data.toList)) w5) := f5
        have HB5 : Hid (Below w.heap.size w w5) := HB4.out.trans (b5.mono HB4.out.size)
        clear c5 f5 b5 hrun hrun2
        go_wp2_with fail
        refine (chars_same HCH5.out C5.out (by rw [chs_length]; omega)).mono ?_
        rintro e w6 ⟨rfl, b6⟩
        have s6 := b6.size
        go_wp2_with fail
        refine (faults_same (own_below HFL5.out b6) (own_below F5.out b6) (by have := fls_length (items S.data.toList) (0 : Int); omega)).mono ?_
        rintro e w7 ⟨rfl, b7⟩
        have b67 := b6.trans (b7.mono s6)
        have HD7 : Hid (Dec w.heap.size ((0 : Int) + (S.size : Int)) [] w7) := dec_below HD5.out b67
        have HB7 : Hid (Below w.heap.size w w7) := HB5.out.trans (b67.mono HB5.out.size)
        clear b6 b7 b67 s6
        go_wp2_with fail
        refine (offset_any HD7.out).mono ?_
        rintro e w8 ⟨rfl, rfl⟩
        go_wp2_with fail
        refine (awake_any _).mono ?_
        rintro e w9 ⟨rfl, b9⟩
        go_wp2_with fail
        go_ret
        exact ⟨rfl, HB7.out.trans (b9.mono HB7.out.size)⟩

set_option maxHeartbeats 4000000 in
set_option maxRecDepth 100000 in
theorem pie_high (q : Int) (lo : Option Addr) (len cap : Nat) (f : Nat → ByteArray) (w : World) (_hl : len ≤ cap) (_hcap : cap ≤ 9223372036854775807) (hrow : StrRow w lo len f) (q0 : 1099511627776 < q) :
    Calls Try.prog 5 #[.slice lo len cap, .int .i64 q] w fun e w' => e = .returned (.bool true) ∧ Below w.heap.size w w' := by
  have HR : Hid (StrRow w lo len f) := hrow
  have q2 : ¬ q < 0 := by omega
  clear hrow
  go_enter Try.func5, Try.ntmps5
  go_wp2_with fail
  refine (new_no q (.inr q0) _).mono ?_
  rintro e w1 ⟨rfl, n1, n2, n3⟩
  have ST : Hid (Pcs (0 : Int) w w1 ⟨#[]⟩ (.slice none 0 0) (.slice none 0 0)) := pcs_start n1 n2
  clear n1 n2 n3
  go_wp2_with fail
  go_loopw [6, 7, 8, 9] (fun sv av fv iv wr => ∃ (k : Nat) (S : ByteArray), k ≤ len ∧ iv = .int .i64 k ∧ sv = .string S ∧ S.size ≤ 40000 ∧ Pcs (0 : Int) w wr S av fv) (fun _ _ _ iv _ => len - (intOf iv).toNat)
  case atStart => exact ⟨0, ⟨#[]⟩, Nat.zero_le _, rfl, rfl, by decide, ST.out⟩
  case round =>
    obtain ⟨k, S, hk, rfl, rfl, hS, hP⟩ := hrel
    obtain ⟨r1, r2, r3, r4⟩ := run_ok S.data.toList [] trivial
    have hSl : S.data.toList.length = S.size := Array.length_toList
    have hfew := run_few S.data.toList []
    rw [hSl, List.length_nil, Nat.zero_add] at r4
    rw [hSl] at hfew
    rw [List.nil_append] at r2 r3
    obtain ⟨ca, cc, rfl, _, _⟩ := own_form hP.ch
    obtain ⟨fa, fc, rfl, _, _⟩ := own_form hP.fl
    have hcl : (chs (0 : Int) (run [] S.data.toList).2).length ≤ (run [] S.data.toList).2.length := Nat.le_of_eq (chs_length (run [] S.data.toList).2 (0 : Int))
    have hfl := fls_length (run [] S.data.toList).2 (0 : Int)
    obtain ⟨cn, hcn⟩ : ∃ n, (chs (0 : Int) (run [] S.data.toList).2).length = n := ⟨_, rfl⟩
    obtain ⟨fn, hfn⟩ : ∃ n, (fls (0 : Int) (run [] S.data.toList).2).length = n := ⟨_, rfl⟩
    rw [hcn, hfn] at hP
    rw [hcn] at hcl
    rw [hfn] at hfl
    obtain ⟨U, hU⟩ : ∃ U, (run [] S.data.toList).1 = U := ⟨_, rfl⟩
    obtain ⟨L, hL⟩ : ∃ L, (run [] S.data.toList).2 = L := ⟨_, rfl⟩
    have HRU : Hid (run [] S.data.toList = (U, L)) := by show _ = _; rw [← hU, ← hL]
    have HP : Hid (Pcs (0 : Int) w wr S (.slice ca cn cc) (.slice fa fn fc)) := hP
    have HCN : Hid ((chs (0 : Int) L).length = cn) := by show _ = _; rw [← hL]; exact hcn
    have HFN : Hid ((fls (0 : Int) L).length = fn) := by show _ = _; rw [← hL]; exact hfn
    have hdec := hP.dec
    rw [hU] at r1 r2 r4 hdec
    rw [hL] at r2 r3 r4 hfew hcl hfl hdec
    have PU : Hid (pend U) := r1
    have HDC : Hid (Dec w.heap.size ((0 : Int) + (tot L : Nat)) U wr) := hdec
    have HI : Hid (items S.data.toList = L ++ fin U) := r2
    have hz := hP.below.size
    rw [hcn, hfn]
    clear r1 r2 r3 hU hL hP hdec hcn hfn
    by_cases hlt : k < len ∧ S.size < 20000
    · obtain ⟨hl1, hl2⟩ := hlt
      obtain ⟨b0, off, hlo, hb0, hc0⟩ := HR.out k hl1
      subst hlo
      have c0 : wr.cell? ⟨b0, off + k, none⟩ = some (.string (f k)) := (HP.out.below.cell (p := ⟨b0, off + k, none⟩) hb0).trans hc0
      have hb1 : b0 < wr.heap.size := Nat.lt_of_lt_of_le hb0 hz
      clear hc0
      obtain ⟨t, ht⟩ : ∃ t, f k = t := ⟨_, rfl⟩
      rw [ht] at c0
      clear ht
      by_cases htz : 20000 < t.size
      · go_wp2_with fail
        exact ⟨⟨k + 1, S, by omega, by go_num, rfl, hS, HP.out⟩, by simp [intOf]; omega⟩
      · go_wp2_with fail
        refine (feed_any t PU.out (by omega) (by omega) HDC.out (by omega)).mono ?_
        rintro e w2 ⟨xa, xn, xc, ya, yn, yc, rfl, d2, rx2, ry2, t2⟩
        obtain ⟨A2, F2, a2, f2, a3, f3, w3, w4, V, M, hrun, hrun2, hNext, hD4, hb4, hz4⟩ := pcs_next (t := t) HRU.out HP.out HDC.out HCN.out HFN.out hz (by omega) (by omega) (by omega) d2 rx2 ry2 t2
        have HNX : Hid (Pcs (0 : Int) w w4 (S ++ t) (.slice A2 a2 a3) (.slice F2 f2 f3)) := hNext
        have HD4 : Hid (Dec w.heap.size ((0 : Int) + (sure (S ++ t).data.toList : Nat)) V w4) := hD4
        clear d2 rx2 ry2 t2 hNext hD4 hb4
        have hST : (S ++ t).size ≤ 40000 := by rw [ByteArray.size_append]; omega
        have hsu : sure (S ++ t).data.toList ≤ 40000 := by have := sure_le (S ++ t).data.toList; have e : (S ++ t).data.toList.length = (S ++ t).size := Array.length_toList; omega
        go_wp2_with (at_builtin; first | refine list_append_eq rfl _ _ 23 23 rfl _ _ rfl rfl hrun ?_ | refine list_append_eq rfl _ _ 24 24 rfl _ _ rfl rfl hrun2 ?_)
        refine (sure_any (S ++ t) _ (by omega)).mono ?_
        rintro e w5 ⟨rfl, b5⟩
        obtain ⟨su, hsue⟩ : ∃ su : Nat, sure (S ++ t).data.toList = su := ⟨_, rfl⟩
        rw [hsue] at HD4 hsu ⊢
        have HD5 : Hid (Dec w.heap.size ((0 : Int) + (su : Nat)) V w5) := dec_below HD4.out b5
        have HN5 : Hid (Pcs (0 : Int) w w5 (S ++ t) (.slice A2 a2 a3) (.slice F2 f2 f3)) := HNX.out.under b5
        clear hsue b5 hrun hrun2 HD4 HNX
        go_wp2_with fail
        refine (offset_any HD5.out).mono ?_
        rintro e w6 ⟨rfl, rfl⟩
        go_wp2_with fail
        exact ⟨⟨k + 1, S ++ t, by omega, by go_num, rfl, hST, HN5.out⟩, by simp [intOf]; omega⟩
    · have hout : ¬ k < len ∨ (k < len ∧ ¬ S.size < 20000) := by omega
      clear hlt
      rcases hout with hlt | ⟨hkl, hlt⟩
      all_goals
        go_wp2_with fail
        refine (end_any HDC.out).mono ?_
        rintro e w2 ⟨xa, xn, xc, ya, yn, yc, rfl, d2, rx2, ry2, t2⟩
        obtain ⟨A2, F2, a2, f2, a3, f3, w3, w4, hrun, hrun2, hCH, hFL, hD4, hb4⟩ := pcs_end (S := S) HP.out HI.out HDC.out HCN.out HFN.out hz (by omega) (by omega) HRU.out d2 rx2 ry2 t2
        have HCH : Hid (Chars w.heap.size (.slice A2 a2 a3) (chs (0 : Int) (items S.data.toList)) w4) := hCH
        have HFL : Hid (Faults w.heap.size (.slice F2 f2 f3) (fls (0 : Int) (items S.data.toList)) w4) := hFL
        have e4 : (0 : Int) + ((tot L : Nat) : Int) + (U.length : Nat) = (0 : Int) + (S.size : Int) := by omega
        rw [e4] at hD4
        have HD4 : Hid (Dec w.heap.size ((0 : Int) + (S.size : Int)) [] w4) := hD4
        have HB4 : Hid (Below w.heap.size w w4) := hb4
        clear d2 rx2 ry2 t2 hCH hFL hD4 hb4 e4
        go_wp2_with (at_builtin; first | refine list_append_eq rfl _ _ 23 23 rfl _ _ rfl rfl hrun ?_ | refine list_append_eq rfl _ _ 24 24 rfl _ _ rfl rfl hrun2 ?_)
        refine (rdec_any S (0 : Int) _ (by omega) (by omega) (by omega)).mono ?_
        rintro e w5 ⟨ga, gn, gc, ha, hn', hc', rfl, c5, f5, b5⟩
        have hif := items_few S (by omega)
        have HCH5 : Hid (Chars w.heap.size (.slice A2 a2 a3) (chs (0 : Int) (items S.data.toList)) w5) := own_below HCH.out b5
        have HFL5 : Hid (Faults w.heap.size (.slice F2 f2 f3) (fls (0 : Int) (items S.data.toList)) w5) := own_below HFL.out b5
        have HD5 : Hid (Dec w.heap.size ((0 : Int) + (S.size : Int)) [] w5) := dec_below HD4.out b5
        have C5 : Hid (Chars w4.heap.size (.slice ga gn gc) (chs (0 : Int) (items S.data.toList)) w5) := c5
        have F5 : Hid (Faults w4.heap.size (.slice ha hn' hc') (fls (0 : Int) (items S.data.toList)) w5) := f5
        have HB5 : Hid (Below w.heap.size w w5) := HB4.out.trans (b5.mono HB4.out.size)
        clear c5 f5 b5 hrun hrun2
        go_wp2_with fail
        refine (chars_same HCH5.out C5.out (by rw [chs_length]; omega)).mono ?_
        rintro e w6 ⟨rfl, b6⟩
        have s6 := b6.size
        go_wp2_with fail
        refine (faults_same (own_below HFL5.out b6) (own_below F5.out b6) (by have := fls_length (items S.data.toList) (0 : Int); omega)).mono ?_
        rintro e w7 ⟨rfl, b7⟩
        have b67 := b6.trans (b7.mono s6)
        have HD7 : Hid (Dec w.heap.size ((0 : Int) + (S.size : Int)) [] w7) := dec_below HD5.out b67
        have HB7 : Hid (Below w.heap.size w w7) := HB5.out.trans (b67.mono HB5.out.size)
        clear b6 b7 b67 s6
        go_wp2_with fail
        refine (offset_any HD7.out).mono ?_
        rintro e w8 ⟨rfl, rfl⟩
        go_wp2_with fail
        refine (awake_any _).mono ?_
        rintro e w9 ⟨rfl, b9⟩
        go_wp2_with fail
        go_ret
        exact ⟨rfl, HB7.out.trans (b9.mono HB7.out.size)⟩

theorem pie_walk (lo : Option Addr) (len cap : Nat) (q : Int) (f : Nat → ByteArray) (w : World) (hl : len ≤ cap) (hcap : cap ≤ maxLen) (hrow : StrRow w lo len f) :
    Calls Try.prog 5 #[.slice lo len cap, .int .i64 q] w fun e w' => e = .returned (.bool true) ∧ Below w.heap.size w w' := by
  unfold maxLen at hcap
  by_cases h0 : q < 0
  · exact pie_low q lo len cap f w hl hcap hrow h0
  · by_cases h1 : 1099511627776 < q
    · exact pie_high q lo len cap f w hl hcap hrow h1
    · exact pie_in q lo len cap f w hl hcap hrow (by omega) (by omega)

set_option maxRecDepth 100000 in
theorem pie_lifted (os : Os) (started : os.Started) (H : Type) (enc : TypeId × Value → H) :
    ReturnsInHanded {} Try.checked os 5 .any (Rows.utf8inPiecesSpec.pre6 enc Try.prog Try.f5 Rows.utf8inPiecesRow.domain false) (Rows.utf8inPiecesSpec.post enc Try.prog Try.f5 false true false false) := by
  refine returnsInHanded_of_change (C := Try.checked) own started (by kernel_rfl) Try.func5
    (ChangeSpec.witness6 (enc := enc) (C := Try.checked) false ⟨#[], #[.slice none 0 0, .int .i64 0], []⟩ 8 (by kernel_rfl) (by kernel_rfl) (by kernel_rfl) (by kernel_rfl)) ?_
  intro W base args ds gs before hval0 hW hcnd _
  have hval : ∀ (j : Nat) t v, Try.f5.params[j]? = some t → args[j]? = some v → Value.okWide Try.prog W .any base t v := hval0
  have hW' := hW
  obtain ⟨p, q, hA0, hV, rfl, hfz, hnd⟩ := hW
  have hA : DataW.TrodAll enc Try.prog W 0 (fun _ => true) true Try.f5.params.toList args.toList ds p := hA0
  rw [Try.params5] at hA hval
  obtain ⟨v0, vs0, d0, ds0, p0, q0, hargs, rfl, rfl, h0, r0⟩ := trodAll_cons hA
  obtain ⟨v1, vs1, d1, ds1, p1, q1, rfl, rfl, rfl, h1, r1⟩ := trodAll_cons r0
  obtain ⟨rfl, rfl, rfl⟩ := trodAll_nil r1
  obtain rfl : args = #[v0, v1] := by cases args; simp_all
  obtain ⟨rfl, rfl⟩ := trodVars_none hV
  have k0 := h0
  have lt0 : ∀ x ∈ p0, x.block < W.heap.size := by obtain ⟨m, hm⟩ := k0; exact DataW.trod_lt m _ _ _ hm
  have k1 := h1
  have lt1 : ∀ x ∈ p1, x.block < W.heap.size := by obtain ⟨m, hm⟩ := k1; exact DataW.trod_lt m _ _ _ hm
  obtain ⟨lo, len, cap, hv0⟩ := okWide_slice Try.underlying35 (hval 0 35 v0 rfl rfl)
  obtain ⟨x1, hv1, _, _, wx1⟩ := open_int Try.underlying3 (hval 1 3 v1 rfl rfl) h1
  subst hv0 hv1
  obtain ⟨fuel, hf⟩ := h0
  obtain ⟨hl, hcm, f, hrow⟩ := open_texts (n := fuel) (by simpa [Value.cells] using hf)
  clear hA0 hval0
  refine (pie_walk lo len cap x1 f W hl hcm hrow).mono fun e W' ⟨he, bel⟩ => ?_
  subst he
  exact ⟨_, rfl, _, _, _, [], _, [], hW', trodAll_mk1 (shut_bool Try.underlying4 _), (trodAll_cons_mk (Below.trod laidOut (by kernel_rfl) (of_decide_eq_true (by kernel_rfl)) k0 bel lt0) (trodAll_cons_mk (Below.trod laidOut (by kernel_rfl) (of_decide_eq_true (by kernel_rfl)) k1 bel lt1) trodAll_mk0)), rfl, bel.frame _, fun h => by cases h⟩

theorem pieces_holds : Rows.Utf8inPiecesSaid :=
  OpenClaim.holds_of_wide 5 Try.f5 rfl rfl rfl rfl rfl rfl rfl ⟨rfl, rfl, rfl, rfl, rfl⟩ rfl rfl rfl rfl rfl (by kernel_rfl) Try.func5 (by kernel_rfl)
    (of_decide_eq_true (by kernel_rfl)) (by unfold Func.isWrapper; first | (rw [if_pos (by decide +kernel)]; kernel_rfl) | (rw [if_neg (by decide +kernel)]; exact ⟨rfl, rfl⟩))
    (fun os started H enc _ => pie_lifted os started H enc)
#print axioms pieces_holds
end Go.Proofs.Yteonfhgcjcpfkaa
