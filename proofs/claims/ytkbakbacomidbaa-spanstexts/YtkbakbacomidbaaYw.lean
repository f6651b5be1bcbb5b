/- Cover: the document's. -/
import Derived.Test.YtkbakbacomidbaaYv
namespace Go.Proofs.Ytkbakbacomidbaa.Sp
open Go.RowKit
set_option maxHeartbeats 4000000 in
set_option maxRecDepth 20000 in
theorem rcover_any {w : World} {ao : Option Addr} {A : List G9.Tk} (n c : Nat) (h : TkC w ao A) (hn : A.length = n) (hn2 : n ≤ 100000000) (N : Int) :
    Calls Try.prog 10 #[.slice ao n c, .int .i64 N] w (Rowed (coverP (A.map snOf) N) w) := by
  obtain ⟨M, hM⟩ : ∃ M, (if 0 > N then 0 else N) = M := ⟨_, rfl⟩
  have hM' : (if N < 0 then 0 else N) = M := hM
  have hMx : M = max N 0 := by rw [← hM]; split <;> omega
  obtain ⟨g, hg0⟩ : ∃ g, (A.map snOf).foldl (cov1 M) [] = g := ⟨_, rfl⟩
  have hcv : coverP (A.map snOf) N = fillP g M := by rw [← cover_max, ← hMx]; unfold coverP; rw [hg0]
  rw [hcv]
  have HA : Hid (TkC w ao A ∧ A.length = n ∧ ((A.drop 0).map snOf).foldl (cov1 M) [] = g) := ⟨h, hn, hg0⟩
  clear h hn hg0 hcv hMx
  go_enter Try.func10, Try.ntmps10
  go_wp2_with fail
  go_loopg [5, 6, 7] n (fun g2 pv av iv wr => ∃ (i : Nat) (L : List Pc) (po : Option Addr) (pcap : Nat), iv = .int .i64 i ∧ i + g2 = n ∧ ((A.drop i).map snOf).foldl (cov1 M) L = g ∧ pv = .slice po L.length pcap ∧ av = .int .i64 (ends L) ∧ PcRow wr po L ∧ L.length ≤ 2 * i ∧ Below w.heap.size w wr)
  case atStart => exact ⟨0, [], none, 0, rfl, by omega, HA.out.2.2, rfl, rfl, PcRow.nil _ _, by simp, Below.refl _ _⟩
  case round =>
    obtain ⟨i, L, po, pcap, rfl, hig, hgi, rfl, rfl, hrow, hlen, hbe⟩ := hrel
    have HG : Hid (((A.drop i).map snOf).foldl (cov1 M) L = g ∧ PcRow wr po L ∧ L.length ≤ 2 * i ∧ Below w.heap.size w wr) := ⟨hgi, hrow, hlen, hbe⟩
    clear hgi hbe hrow hlen
    obtain ⟨ln, hln⟩ : ∃ ln, L.length = ln := ⟨_, rfl⟩
    obtain ⟨ee, hee⟩ : ∃ ee, ends L = ee := ⟨_, rfl⟩
    have HM0 : Hid (L.length = ln ∧ ends L = ee) := ⟨hln, hee⟩
    rw [hln, hee]
    clear hln hee
    cases gk with
    | zero =>
      obtain rfl : i = n := by omega
      have hg0 : decide ((i : Int) < (i : Int)) = false := decide_eq_false (by omega)
      have e : L = g := by
        have h := HG.out.1
        rw [List.drop_of_length_le (by rw [HA.out.2.1]; exact Nat.le_refl _)] at h
        exact h
      have k22 := rput_any ln pcap HG.out.2.1 HM0.out.1 (by have := HG.out.2.2.1; have := HM0.out.1; omega) ee M 2
      rw [← HM0.out.2, rput_tag, HM0.out.2, e] at k22
      clear e
      go_wp2_with fail
      refine k22.mono ?_
      rintro e w1 ⟨ao', cap', rfl, h1, h2⟩
      have HZ : Hid (Rowed (fillP g M) w (.returned (.slice ao' (fillP g M).length cap')) w1) := ⟨ao', cap', rfl, h1, HG.out.2.2.2.trans (h2.mono HG.out.2.2.2.size)⟩
      clear h1 h2 k22
      obtain ⟨nl, hnl⟩ : ∃ nl, (fillP g M).length = nl := ⟨_, rfl⟩
      rw [hnl] at HZ ⊢
      clear hnl
      go_wp2_with fail
      go_ret
      exact HZ.out
    | succ k =>
      have hin : i < n := by omega
      obtain ⟨x, hx⟩ : ∃ x, A[i]? = some x := ⟨_, List.getElem?_eq_getElem (by rw [HA.out.2.1]; exact hin)⟩
      obtain ⟨b1, o1, rfl, hb1, hcl⟩ := (HA.out.1.below HG.out.2.2.2) i x hx
      have HD : Hid (A.drop i = x :: A.drop (i + 1)) := drop_at hx
      clear hx
      have c0 := hcl 0 _ rfl
      have c1 := hcl 1 _ rfl
      have c2 := hcl 2 _ rfl
      have c3 := hcl 3 _ rfl
      have c4 := hcl 4 _ rfl
      have c5 := hcl 5 _ rfl
      have c6 := hcl 6 _ rfl
      have c7 := hcl 7 _ rfl
      rw [Nat.add_zero] at c0
      clear hcl
      have k21 := rclass_any x wr
      have HN : Hid (((A.drop (i + 1)).map snOf).foldl (cov1 M) (cov1 M L (snOf x)) = g) := by
        have h := HG.out.1
        rw [HD.out] at h
        exact h
      obtain ⟨xk, xr, xn, xx, xa, xm, xp, xs, xf, xt⟩ := x
      simp only [G9.Tk.val, G9.Tk.arr, snOf] at k21 HN
      have hlt : decide ((i : Int) < (n : Int)) = true := decide_eq_true (by omega)
      have hin2 : (i : Int) < (n : Int) := by omega
      obtain ⟨cl, hcl⟩ : ∃ cl, clsP xk xs = cl := ⟨_, rfl⟩
      rw [hcl] at k21
      have HC : Hid (clsP xk xs = cl) := hcl
      clear hcl
      go_wp2_with fail
      refine k21.mono ?_
      rintro e w1 ⟨rfl, b1'⟩
      clear k21
      have d6 := (b1'.cell (p := ⟨b1, o1 + i * 8 + 6, none⟩) hb1).trans c6
      have d7 := (b1'.cell (p := ⟨b1, o1 + i * 8 + 7, none⟩) hb1).trans c7
      have H1 : Hid (Below w.heap.size w w1 ∧ PcRow w1 po L) := ⟨HG.out.2.2.2.trans (b1'.mono HG.out.2.2.2.size), HG.out.2.1.below b1'⟩
      clear c0 c1 c2 c3 c4 c5 c6 c7 b1'
      obtain ⟨m, hm⟩ : ∃ m, (if ee > xf then ee else xf) = m := ⟨_, rfl⟩
      have hm' : (if xf < ee then ee else xf) = m := hm
      obtain ⟨z, hz⟩ : ∃ z, (if M < xt then M else xt) = z := ⟨_, rfl⟩
      have HM : Hid (m = max xf (ends L) ∧ z = min xt M) := ⟨by rw [← hm, HM0.out.2]; split <;> omega, by rw [← hz]; split <;> omega⟩
      go_upto_region 8 with fail
      go_cut [9, 10] (fun a b wc => a = .int .i64 m ∧ b = .int .i64 z ∧ Below w1.heap.size w1 wc)
      case first =>
        go_region
        all_goals
          go_wp2_with fail
          go_meet
          exact ⟨rfl, rfl, by first | exact Below.refl _ _ | exact (Below.refl _ _).drew | exact below_drewN (Below.refl _ _) _⟩
      case rest =>
        obtain ⟨rfl, rfl, hbc⟩ := hcut
        have H2 : Hid (Below w.heap.size w wc ∧ PcRow wc po L) := ⟨H1.out.1.trans (hbc.mono H1.out.1.size), H1.out.2.below hbc⟩
        clear hbc d6 d7 hm hm' hz
        by_cases hc0 : cl = 0
        · subst hc0
          have HL : Hid (((A.drop (i + 1)).map snOf).foldl (cov1 M) L = g) := by
            have h := HN.out
            unfold cov1 at h
            rw [if_pos (.inl HC.out)] at h
            exact h
          go_wp2_with fail
          go_roundg k
          case measure => omega
          case rel => exact ⟨i + 1, L, po, pcap, by go_num, by omega, HL.out, by rw [HM0.out.1], by rw [HM0.out.2], H2.out.2, by have := HG.out.2.2.1; omega, H2.out.1⟩
        · have hd0 : (cl == 0) = false := beq_false_of_ne hc0
          by_cases hmz : m ≥ z
          · have hd1 : decide (m ≥ z) = true := decide_eq_true hmz
            have HL : Hid (((A.drop (i + 1)).map snOf).foldl (cov1 M) L = g) := by
              have h := HN.out
              unfold cov1 at h
              simp only at h
              rw [← HM.out.1, ← HM.out.2, if_pos (.inr hmz)] at h
              exact h
            clear hmz hc0
            go_wp2_with fail
            go_roundg k
            case measure => omega
            case rel => exact ⟨i + 1, L, po, pcap, by go_num, by omega, HL.out, by rw [HM0.out.1], by rw [HM0.out.2], H2.out.2, by have := HG.out.2.2.1; omega, H2.out.1⟩
          · have hd1 : decide (m ≥ z) = false := decide_eq_false hmz
            have HL : Hid (((A.drop (i + 1)).map snOf).foldl (cov1 M) (putP (fillP L m) ⟨m, z, cl⟩) = g) := by
              have h := HN.out
              unfold cov1 at h
              simp only at h
              rw [← HM.out.1, ← HM.out.2, HC.out, if_neg (by rintro (e | e); exact hc0 e; exact hmz e)] at h
              exact h
            have hR : rputP (fillP L m) m z cl = putP (fillP L m) ⟨m, z, cl⟩ := by unfold rputP; rw [if_neg hmz]
            have k1 := rput_any ln pcap H2.out.2 HM0.out.1 (by have := HG.out.2.2.1; have := HM0.out.1; omega) ee m 2
            rw [← HM0.out.2, rput_tag, HM0.out.2] at k1
            obtain ⟨L1, hL1⟩ : ∃ L1, fillP L m = L1 := ⟨_, rfl⟩
            rw [hL1] at k1 hR HL
            have HL1 : Hid (fillP L m = L1) := hL1
            clear hmz hc0 hL1
            go_wp2_with fail
            refine k1.mono ?_
            rintro e w2 ⟨ao1, cap1, rfl, r1, b2⟩
            have hl1 : L1.length ≤ 2 * i + 1 := by
              have h4 := len_fill L m
              rw [HL1.out] at h4
              have := HG.out.2.2.1
              omega
            have k2 := rput_any L1.length cap1 r1 rfl (by omega) m z cl
            rw [hR] at k2
            obtain ⟨L2, hL2⟩ : ∃ L2, putP L1 ⟨m, z, cl⟩ = L2 := ⟨_, rfl⟩
            have hl2 : L2.length ≤ 2 * (i + 1) ∧ ends L2 = z := ⟨by rw [← hL2]; have h3 := len_put L1 ⟨m, z, cl⟩; omega, by rw [← hL2]; exact ends_put _ _⟩
            rw [hL2] at k2 HL
            have H3 : Hid (Below w.heap.size w w2 ∧ L2.length ≤ 2 * (i + 1) ∧ ends L2 = z) := ⟨H2.out.1.trans (b2.mono H2.out.1.size), hl2.1, hl2.2⟩
            clear k1 r1 b2 hR hL2 hl2 hl1
            obtain ⟨n1, hn1⟩ : ∃ n1, L1.length = n1 := ⟨_, rfl⟩
            rw [hn1] at k2 ⊢
            clear hn1
            go_wp2_with fail
            refine k2.mono ?_
            rintro e w3 ⟨ao2, cap2, rfl, r2, b3⟩
            have H4 : Hid (Below w.heap.size w w3 ∧ PcRow w3 ao2 L2) := ⟨H3.out.1.trans (b3.mono H3.out.1.size), r2⟩
            clear k2 r2 b3
            obtain ⟨n2, hn2'⟩ : ∃ n2, L2.length = n2 := ⟨_, rfl⟩
            have HN2 : Hid (L2.length = n2) := hn2'
            rw [hn2']
            clear hn2'
            go_wp2_with fail
            go_roundg k
            case measure => omega
            case rel => exact ⟨i + 1, L2, ao2, cap2, by go_num, by omega, HL.out, by rw [HN2.out], by rw [H3.out.2.2], H4.out.2, H3.out.2.1, H4.out.1⟩
end Go.Proofs.Ytkbakbacomidbaa.Sp
