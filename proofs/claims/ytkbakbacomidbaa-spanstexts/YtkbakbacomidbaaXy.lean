/- The law's walk. -/
import Derived.Test.YtkbakbacomidbaaXx
namespace Go.Proofs.Ytkbakbacomidbaa.Sp
open Go.RowKit
set_option maxHeartbeats 4000000 in
set_option maxRecDepth 20000 in
theorem texts_walk (w : World) (s : ByteArray) (at0 : Int) :
    Calls Try.prog 6 #[.string s, .int .i64 at0] w fun e w' => e = .returned (.bool true) ∧ Below w.heap.size w w' := by
  by_cases hbig : s.size > 3000 ∨ s.size = 0
  · have k8 := cover_any (w := w) (ao := none) (A := []) 0 0 (fun i x hx => by simp at hx) rfl (by decide) 0
    rw [show coverP (([] : List G9.Tk).map snOf) 0 = [] from rfl] at k8
    rcases hbig with hbig | hbig
    · have hd : decide ((s.size : Int) > 3000) = true := decide_eq_true (by omega)
      clear hbig
      go_enter Try.func6, Try.ntmps6
      go_wp2_with fail
      refine k8.mono ?_
      rintro e w1 ⟨ao, cap, rfl, _, b1⟩
      clear k8
      simp only [List.length_nil]
      go_wp2_with fail
      refine (awake_any _).mono ?_
      rintro e w2 ⟨rfl, b2⟩
      have HZ : Hid (Below w.heap.size w w2) := b1.trans (b2.mono b1.size)
      go_wp2_with fail
      go_ret
      exact ⟨rfl, HZ.out⟩
    · have hd : decide ((s.size : Int) > 3000) = false := decide_eq_false (by omega)
      have hd2 : ((s.size : Int) == 0) = true := by rw [hbig]; rfl
      clear hbig
      go_enter Try.func6, Try.ntmps6
      go_wp2_with fail
      refine k8.mono ?_
      rintro e w1 ⟨ao, cap, rfl, _, b1⟩
      clear k8
      simp only [List.length_nil]
      go_wp2_with fail
      refine (awake_any _).mono ?_
      rintro e w2 ⟨rfl, b2⟩
      have HZ : Hid (Below w.heap.size w w2) := b1.trans (b2.mono b1.size)
      go_wp2_with fail
      go_ret
      exact ⟨rfl, HZ.out⟩
  · have hsm : s.size ≤ 3000 ∧ s.size ≠ 0 := by omega
    have hd : decide ((s.size : Int) > 3000) = false := decide_eq_false (by omega)
    have hd2 : ((s.size : Int) == 0) = false := by rw [beq_eq_false_iff_ne]; omega
    have k16 := data_any s w (by omega) (by have := toks_len s; omega)
    have HS : Hid (s.size ≤ 3000 ∧ s.size ≠ 0) := hsm
    have hz0 : (s.size : Int) ≠ 0 := by omega
    have hwu : IntKind.u64.wrap (s.size : Int) = (s.size : Int) := by rw [IntKind.wrap_u64]; omega
    clear hbig hsm
    go_enter Try.func6, Try.ntmps6
    go_wp2_with fail
    refine k16.mono ?_
    rintro e w1 ⟨oo, n, oc, fo, m, fc, A, rfl, hA, hn, hs, hn2, b1⟩
    have k8 := cover_any n oc hA hn hn2 (s.size : Int)
    rw [hs] at k8
    have H1 : Hid (TkC w1 oo A ∧ A.length = n ∧ A.map snOf = (toksOf s).map snP ∧ n ≤ 100000000 ∧ Below w.heap.size w w1) := ⟨hA, hn, hs, hn2, b1⟩
    clear hA hn hs hn2 b1 k16
    obtain ⟨C, hC⟩ : ∃ C, coverP ((toksOf s).map snP) (s.size : Int) = C := ⟨_, rfl⟩
    rw [hC] at k8
    have HC : Hid (coverP ((toksOf s).map snP) (s.size : Int) = C) := hC
    clear hC
    go_wp2_with fail
    refine k8.mono ?_
    rintro e w2 ⟨po, pc, rfl, rp, b2⟩
    clear k8
    obtain ⟨ln, hln⟩ : ∃ ln, C.length = ln := ⟨_, rfl⟩
    rw [hln]
    have H2 : Hid (PcRow w2 po C ∧ C.length = ln ∧ Below w1.heap.size w1 w2) := ⟨rp, hln, b2⟩
    clear rp hln b2
    have hnz : (s.size : Int) > 0 := by have := HS.out.2; omega
    have hu0 : 0 ≤ IntKind.u64.wrap at0 := by rw [IntKind.wrap_u64]; omega
    have hr0 := Int.tmod_nonneg (s.size : Int) hu0
    have hr1 := Int.tmod_lt_of_pos (IntKind.u64.wrap at0) hnz
    obtain ⟨r, hr⟩ : ∃ r, (IntKind.u64.wrap at0).tmod (s.size : Int) = r := ⟨_, rfl⟩
    rw [hr] at hr0 hr1
    have hw64 : wrap64 r = r := by
      have h3 := HS.out.1
      unfold wrap64
      omega
    obtain ⟨a, hae⟩ : ∃ a, wrap64 ((IntKind.u64.wrap at0).tmod (s.size : Int)) = a := ⟨_, rfl⟩
    have HR : Hid (0 ≤ a ∧ a < s.size) := by
      rw [← hae, hr, hw64]
      exact ⟨hr0, hr1⟩
    clear hr0 hr1 hr hw64 hu0 hnz
    go_upto_region 7 with fail
    rw [hae]
    clear hae
    obtain ⟨g, hg0⟩ : ∃ g, (A.map snOf).foldl (want1 a) 2 = g := ⟨_, rfl⟩
    have HA : Hid (TkC w2 oo A ∧ A.length = n ∧ ((A.drop 0).map snOf).foldl (want1 a) 2 = g ∧ n ≤ 100000000) := ⟨H1.out.1.below H2.out.2.2, H1.out.2.1, hg0, H1.out.2.2.2.1⟩
    clear hg0
    go_wp2_with fail
    go_loopg [8, 9] n (fun g2 vv iv wr => ∃ (i : Nat) (v : Int), vv = .int .i64 v ∧ iv = .int .i64 i ∧ i + g2 = n ∧ ((A.drop i).map snOf).foldl (want1 a) v = g ∧ Below w2.heap.size w2 wr)
    case atStart => exact ⟨0, 2, rfl, rfl, by omega, HA.out.2.2.1, Below.refl _ _⟩
    case round =>
      obtain ⟨i, v, rfl, rfl, hig, hgi, hbe⟩ := hrel
      have HG : Hid (((A.drop i).map snOf).foldl (want1 a) v = g ∧ Below w2.heap.size w2 wr) := ⟨hgi, hbe⟩
      clear hgi hbe
      have hnn : n ≤ 100000000 := HA.out.2.2.2
      cases gk with
      | zero =>
        obtain rfl : i = n := by omega
        have hg0 : decide ((i : Int) < (i : Int)) = false := decide_eq_false (by omega)
        have e : v = g := by
          have h := HG.out.1
          rw [List.drop_of_length_le (by rw [HA.out.2.1]; exact Nat.le_refl _)] at h
          exact h
        have hat : atP C a = v := by
          rw [e, ← HC.out, texts_at s a HR.out.1 HR.out.2, ← H1.out.2.2.1]
          exact HA.out.2.2.1
        have hlnb : ln ≤ 9223372036854775807 := by
          have h1 : ∀ (T : List Sn) (L : List Pc), (T.foldl (cov1 (s.size : Int)) L).length ≤ L.length + 2 * T.length := by
            intro T
            induction T with
            | nil => intro L; simp
            | cons x T ih => intro L; have h2 := ih (cov1 (s.size : Int) L x); have h3 := len_cov1 (s.size : Int) L x; rw [List.foldl_cons, List.length_cons]; omega
          have h2 := h1 ((toksOf s).map snP) []
          have h3 := len_fill (((toksOf s).map snP).foldl (cov1 (s.size : Int)) []) (s.size : Int)
          have h4 := toks_len s
          have h5 := HS.out.1
          have h6 := H2.out.2.1
          rw [← HC.out] at h6
          unfold coverP at h6
          rw [List.length_map] at h2
          simp only [List.length_nil] at h2
          omega
        have k12 := rcheck_any ln pc (H2.out.1.below HG.out.2) H2.out.2.1 hlnb (s.size : Int)
        rw [← HC.out, cover_check] at k12
        have k13 := fun w' (b : Below wr.heap.size wr w') => at_any ln pc ((H2.out.1.below HG.out.2).below b) H2.out.2.1 hlnb a
        simp only [hat] at k13
        have hvv : (v == v) = true := by simp
        clear e hat hlnb
        go_wp2_with fail
        refine k12.mono ?_
        rintro e w3 ⟨rfl, b3⟩
        go_wp2_with fail
        refine (k13 _ b3).mono ?_
        rintro e w4 ⟨rfl, b4'⟩
        have b4 := b3.trans (b4'.mono b3.size)
        clear b4'
        go_wp2_with fail
        refine (awake_any _).mono ?_
        rintro e w5 ⟨rfl, b5'⟩
        have b5 := b4.trans (b5'.mono b4.size)
        have c2 := H1.out.2.2.2.2.trans (H2.out.2.2.mono H1.out.2.2.2.2.size)
        have c3 := c2.trans (HG.out.2.mono c2.size)
        have HZ : Hid (Below w.heap.size w w5) := c3.trans (b5.mono c3.size)
        clear b5' k12 k13 b5 c2 c3
        go_wp2_with fail
        go_ret
        exact ⟨rfl, HZ.out⟩
      | succ k =>
        have hin : i < n := by omega
        obtain ⟨x, hx⟩ : ∃ x, A[i]? = some x := ⟨_, List.getElem?_eq_getElem (by rw [HA.out.2.1]; exact hin)⟩
        obtain ⟨b1, o1, rfl, hb1, hcl⟩ := (HA.out.1.below HG.out.2) i x hx
        have HN : Hid (((A.drop (i + 1)).map snOf).foldl (want1 a) (want1 a v (snOf x)) = g) := by
          have h := HG.out.1
          rw [drop_at hx] at h
          exact h
        clear hx
        have c0 := hcl 0 _ rfl
        have c5 := hcl 5 _ rfl
        have c6 := hcl 6 _ rfl
        have c7 := hcl 7 _ rfl
        rw [Nat.add_zero] at c0
        clear hcl
        obtain ⟨xk, xr, xn, xx, xa, xm, xp, xs, xf, xt⟩ := x
        simp only [snOf] at HN
        have hlt : decide ((i : Int) < (n : Int)) = true := decide_eq_true (by omega)
        have hin2 : (i : Int) < (n : Int) := by omega
        by_cases h1 : xf ≤ a
        · have g1 : decide (xf ≤ a) = true := decide_eq_true h1
          by_cases h2 : a < xt
          · have g2 : decide (a < xt) = true := decide_eq_true h2
            by_cases e1 : xk = 1
            · subst e1
              cases xs with
              | true =>
                have HV : Hid (((A.drop (i + 1)).map snOf).foldl (want1 a) 5 = g) := by
                  have h := HN.out
                  rw [show want1 a v _ = 5 from by simp [want1, h1, h2]] at h
                  exact h
                clear h1 h2
                go_wp2_with fail
                go_roundg k
                case measure => omega
                case rel => exact ⟨i + 1, 5, rfl, by go_num, by omega, HV.out, HG.out.2⟩
              | false =>
                have HV : Hid (((A.drop (i + 1)).map snOf).foldl (want1 a) 1 = g) := by
                  have h := HN.out
                  rw [show want1 a v _ = 1 from by simp [want1, h1, h2]] at h
                  exact h
                clear h1 h2
                go_wp2_with fail
                go_roundg k
                case measure => omega
                case rel => exact ⟨i + 1, 1, rfl, by go_num, by omega, HV.out, HG.out.2⟩
            · have f1 : (xk == 1) = false := beq_false_of_ne e1
              by_cases e4 : xk = 4
              · subst e4
                have HV : Hid (((A.drop (i + 1)).map snOf).foldl (want1 a) 3 = g) := by
                  have h := HN.out
                  rw [show want1 a v _ = 3 from by simp [want1, h1, h2]] at h
                  exact h
                clear h1 h2 e1
                go_wp2_with fail
                go_roundg k
                case measure => omega
                case rel => exact ⟨i + 1, 3, rfl, by go_num, by omega, HV.out, HG.out.2⟩
              · have f4 : (xk == 4) = false := beq_false_of_ne e4
                by_cases e5 : xk = 5
                · subst e5
                  have HV : Hid (((A.drop (i + 1)).map snOf).foldl (want1 a) 4 = g) := by
                    have h := HN.out
                    rw [show want1 a v _ = 4 from by simp [want1, h1, h2]] at h
                    exact h
                  clear h1 h2 e1 e4
                  go_wp2_with fail
                  go_roundg k
                  case measure => omega
                  case rel => exact ⟨i + 1, 4, rfl, by go_num, by omega, HV.out, HG.out.2⟩
                · have f5 : (xk == 5) = false := beq_false_of_ne e5
                  have HV : Hid (((A.drop (i + 1)).map snOf).foldl (want1 a) v = g) := by
                    have h := HN.out
                    rw [show want1 a v _ = v from by simp [want1, h1, h2, e1, e4, e5]] at h
                    exact h
                  clear h1 h2 e1 e4 e5
                  go_wp2_with fail
                  go_roundg k
                  case measure => omega
                  case rel => exact ⟨i + 1, v, rfl, by go_num, by omega, HV.out, HG.out.2⟩
          · have g2 : decide (a < xt) = false := decide_eq_false h2
            have HV : Hid (((A.drop (i + 1)).map snOf).foldl (want1 a) v = g) := by
              have h := HN.out
              rw [show want1 a v _ = v from by unfold want1; exact if_neg (fun hh => h2 hh.2)] at h
              exact h
            clear h1 h2
            go_wp2_with fail
            go_roundg k
            case measure => omega
            case rel => exact ⟨i + 1, v, rfl, by go_num, by omega, HV.out, HG.out.2⟩
        · have g1 : decide (xf ≤ a) = false := decide_eq_false h1
          have HV : Hid (((A.drop (i + 1)).map snOf).foldl (want1 a) v = g) := by
            have h := HN.out
            rw [show want1 a v _ = v from by unfold want1; exact if_neg (fun hh => h1 hh.1)] at h
            exact h
          clear h1
          go_wp2_with fail
          go_roundg k
          case measure => omega
          case rel => exact ⟨i + 1, v, rfl, by go_num, by omega, HV.out, HG.out.2⟩
end Go.Proofs.Ytkbakbacomidbaa.Sp
