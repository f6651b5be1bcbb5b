/- partitionEqualOrdered, at bytes. -/
import Derived.Test.YtfkhpcgccjlpgaaSb
import Derived.Deep.DeepCutAuto
namespace Go.Proofs.Ytfkhpcgccjlpgaa
open Go.RowKit Go.Sort

theorem up_yes {p : Int → Bool} {d : Array Int} {i j : Nat} (h : (decide (i ≤ j) && p d[i]!) = true) : scanUp p d j i = scanUp p d j (i + 1) := by
  conv => lhs; rw [scanUp]
  rw [if_pos h]
theorem up_no {p : Int → Bool} {d : Array Int} {i j : Nat} (h : (decide (i ≤ j) && p d[i]!) = false) : scanUp p d j i = i := by
  rw [scanUp, if_neg (by rw [h]; decide)]
theorem down_yes {p : Int → Bool} {d : Array Int} {i j : Nat} (hj : 0 < j) (h : (decide (i ≤ j) && p d[j]!) = true) : scanDown p d i j = scanDown p d i (j - 1) := by
  obtain ⟨q, rfl⟩ : ∃ q, j = q + 1 := ⟨j - 1, by omega⟩
  conv => lhs; rw [scanDown]
  rw [if_pos h]
  rfl
theorem down_no {p : Int → Bool} {d : Array Int} {i j : Nat} (h : (decide (i ≤ j) && p d[j]!) = false) : scanDown p d i j = j := by
  cases j with
  | zero => rfl
  | succ q => rw [scanDown, if_neg (by rw [h]; decide)]
theorem partEq_stop {a i j i2 j2 : Nat} {d : Array Int} (h1 : scanUp (fun x => !ltInt d[a]! x) d j i = i2) (h2 : scanDown (fun x => ltInt d[a]! x) d i2 j = j2) (h : i2 > j2) : partEqLoop ltInt a i j d = (i2, d) := by
  rw [partEqLoop]
  simp only [h1, h2]
  rw [if_pos h]
theorem partEq_go {a i j i2 j2 : Nat} {d : Array Int} (h1 : scanUp (fun x => !ltInt d[a]! x) d j i = i2) (h2 : scanDown (fun x => ltInt d[a]! x) d i2 j = j2) (h : i2 ≤ j2) (hi : i ≤ i2) (hj : j2 ≤ j) (h0 : 0 < j2) : partEqLoop ltInt a i j d = partEqLoop ltInt a (i2 + 1) (j2 - 1) (swp d i2 j2) := by
  conv => lhs; rw [partEqLoop]
  simp only [h1, h2]
  rw [if_neg (by omega), dif_pos (by omega)]

set_option maxHeartbeats 2000000 in
set_option maxRecDepth 10000 in
theorem parteq_walk (k n cap : Nat) (d : Array Int) (a b pv : Nat) (w : World) (hd : d.size = n) (hn : n ≤ 100000) (hH : HB w k d) (hb : b ≤ n) (hap : a ≤ pv) (hpb : pv < b) :
    Calls Try.prog 39 #[.slice (some ⟨k, 0, none⟩) n cap, .int .i64 a, .int .i64 b, .int .i64 pv] w fun e w' => e = .returned (.int .i64 ((partitionEqual ltInt d a b pv).1 : Nat)) ∧ HB w' k (partitionEqual ltInt d a b pv).2 ∧ Mv k w w' := by
  obtain ⟨b1, hb1⟩ : ∃ b1, b - 1 = b1 := ⟨_, rfl⟩
  have hbw : (b : Int) - 1 = (b1 : Int) := by omega
  have hb1n : b1 < n := by omega
  have hab1 : a ≤ b1 := by omega
  obtain ⟨x, hx, c1, f1, i1, i2⟩ := hb_at hH hd hn a (by omega)
  obtain ⟨y, hy, c0, f0, i3, i4⟩ := hb_at hH hd hn pv (by omega)
  obtain ⟨u, hst⟩ := st_any c1 c0 (.int .u8 y)
  have hkw : k < w.heap.size := lt_of_cell c0
  have HS : Hid (Mv k w ((w.setCell ⟨k, a, none⟩ (.int .u8 y)).setCell ⟨k, pv, none⟩ (.int .u8 x)).drew ∧ HB ((w.setCell ⟨k, a, none⟩ (.int .u8 y)).setCell ⟨k, pv, none⟩ (.int .u8 x)).drew k (swp d a pv) ∧ (swp d a pv).size = n) := sw_drew (Mv.refl k w) hH hd (by omega) (by omega) hx hy
  have HE : Hid (partitionEqual ltInt d a b pv = partEqLoop ltInt a (a + 1) b1 (swp d a pv)) := by show _ = _; rw [partitionEqual, hb1]
  clear hH hd hx hy hb1
  go_enter Try.func39, Try.ntmps39
  go_wp2_with fail
  go_region
  clear c0 c1 f0 f1 i3 i4 hst hkw
  generalize ((w.setCell ⟨k, a, none⟩ (.int .u8 y)).setCell ⟨k, pv, none⟩ (.int .u8 x)).drew = W at HS ⊢
  go_wp2_with fail
  go_loopg [9, 10] (n + 1) (fun g iv jv wr => ∃ (i j : Nat) (di : Array Int), iv = .int .i64 i ∧ jv = .int .i64 j ∧ a + 1 ≤ i ∧ i ≤ n + 1 ∧ j < n ∧ n + 1 ≤ g + i ∧ Mv k w wr ∧ HB wr k di ∧ partitionEqual ltInt d a b pv = partEqLoop ltInt a i j di ∧ di.size = n)
  case atStart => exact ⟨a + 1, b1, swp d a pv, by go_num, rfl, by omega, by omega, by omega, by omega, HS.out.1, HS.out.2.1, HE.out, HS.out.2.2⟩
  case round =>
    obtain ⟨i, j, di, rfl, rfl, hai, hin, hjn, hgi, hmv, hH, he, hz⟩ := hrel
    clear HS HE
    obtain ⟨g0, hg0⟩ : ∃ g0, g0 = gk := ⟨_, rfl⟩
    rw [← hg0] at hgi
    have HG0 : Hid (g0 = gk) := hg0
    clear hg0
    go_wp2_with fail
    go_loopg [9] (n + 1) (fun g iv wr2 => ∃ (t : Nat), iv = .int .i64 t ∧ i ≤ t ∧ t ≤ n + 1 ∧ n + 1 ≤ g + t ∧ Mv k w wr2 ∧ HB wr2 k di ∧ scanUp (fun x => !ltInt di[a]! x) di j i = scanUp (fun x => !ltInt di[a]! x) di j t)
    case atStart => exact ⟨i, rfl, Nat.le_refl _, hin, by omega, hmv, hH, rfl⟩
    case round =>
      obtain ⟨t, rfl, hit, htn, hgt, hmv, hH, hs⟩ := hrel
      have HW : Hid (Mv k w wr ∧ HB wr k di ∧ scanUp (fun x => !ltInt di[a]! x) di j i = scanUp (fun x => !ltInt di[a]! x) di j t) := ⟨hmv, hH, hs⟩
      clear hmv hs
      go_upto_region 3 with fail
      go_cut [43] (fun s43 wc => ∃ q, s43 = .bool (decide (t ≤ j) && !ltInt di[a]! di[t]!) ∧ wc = wr.drewN q)
      case first =>
        by_cases hg : t ≤ j
        · have hgd : decide ((t : Int) ≤ (j : Int)) = true := decide_eq_true (by omega)
          obtain ⟨xa, hxa, ca, fa, ia, ja⟩ := hb_at hH hz hn a (by omega)
          obtain ⟨xb, hxb, cb, fb, ib, jb⟩ := hb_at hH hz hn t (by omega)
          obtain ⟨lb, hlb⟩ : ∃ lb, ltInt xa xb = lb := ⟨_, rfl⟩
          have HR : Hid ((decide (t ≤ j) && !ltInt di[a]! di[t]!) = !lb) := by show _ = _; rw [hxa, hxb, hlb]; simp [hg]
          clear hxa hxb
          go_quiet (exact (less_as hlb _).mono fun _ _ h => ⟨h.1, _, h.2⟩)
          go_wp2_with fail
          go_meet
          exact ⟨_, by rw [HR.out], rfl⟩
        · have hgd : decide ((t : Int) ≤ (j : Int)) = false := decide_eq_false (by omega)
          have HR : Hid ((decide (t ≤ j) && !ltInt di[a]! di[t]!) = false) := by show _ = _; simp [hg]
          go_quiet (fail)
          go_wp2_with fail
          go_meet
          exact ⟨_, by rw [HR.out], rfl⟩
      case rest =>
        obtain ⟨q, hu, rfl⟩ := hcut
        clear hH
        cases hbb : (decide (t ≤ j) && !ltInt di[a]! di[t]!) with
        | true =>
          rw [hbb] at hu
          subst hu
          go_wp2_with fail
          go_roundg (gk - 1)
          case measure => have := (Bool.and_eq_true_iff.1 hbb).1; simp at this; omega
          case rel =>
            have := (Bool.and_eq_true_iff.1 hbb).1
            simp at this
            exact ⟨t + 1, by go_num, by omega, by omega, by omega, HW.out.1.drewN _, hb_drewN HW.out.2.1 _, by rw [HW.out.2.2]; exact up_yes hbb⟩
        | false =>
          rw [hbb] at hu
          subst hu
          have H1 : Hid (Mv k w (wr.drewN q) ∧ HB (wr.drewN q) k di ∧ scanUp (fun x => !ltInt di[a]! x) di j i = t) := ⟨HW.out.1.drewN _, hb_drewN HW.out.2.1 _, by rw [HW.out.2.2]; exact up_no hbb⟩
          clear HW hbb
          generalize wr.drewN q = W1 at H1 ⊢
          go_wp2_with fail
          go_loopg [10] (j + 1) (fun g jv wr2 => ∃ (r : Nat), jv = .int .i64 r ∧ r ≤ j ∧ (r = j ∨ t ≤ r + 1) ∧ r + 1 ≤ g ∧ Mv k w wr2 ∧ HB wr2 k di ∧ scanDown (fun x => ltInt di[a]! x) di t j = scanDown (fun x => ltInt di[a]! x) di t r)
          case atStart => exact ⟨j, rfl, Nat.le_refl _, .inl rfl, Nat.le_refl _, H1.out.1, H1.out.2.1, rfl⟩
          case round =>
            obtain ⟨r, rfl, hrj, hor, hgr, hmv, hH, hs⟩ := hrel
            have HW : Hid (Mv k w wr ∧ HB wr k di ∧ scanDown (fun x => ltInt di[a]! x) di t j = scanDown (fun x => ltInt di[a]! x) di t r) := ⟨hmv, hH, hs⟩
            clear hmv hs
            go_upto_region 5 with fail
            go_cut [59] (fun s59 wc => ∃ q, s59 = .bool (decide (t ≤ r) && ltInt di[a]! di[r]!) ∧ wc = wr.drewN q)
            case first =>
              by_cases hg : t ≤ r
              · have hgd : decide ((t : Int) ≤ (r : Int)) = true := decide_eq_true (by omega)
                obtain ⟨xa, hxa, ca, fa, ia, ja⟩ := hb_at hH hz hn a (by omega)
                obtain ⟨xb, hxb, cb, fb, ib, jb⟩ := hb_at hH hz hn r (by omega)
                obtain ⟨lb, hlb⟩ : ∃ lb, ltInt xa xb = lb := ⟨_, rfl⟩
                have HR : Hid ((decide (t ≤ r) && ltInt di[a]! di[r]!) = lb) := by show _ = _; rw [hxa, hxb, hlb]; simp [hg]
                clear hxa hxb
                go_quiet (exact (less_as hlb _).mono fun _ _ h => ⟨h.1, _, h.2⟩)
                go_wp2_with fail
                go_meet
                exact ⟨_, by rw [HR.out], rfl⟩
              · have hgd : decide ((t : Int) ≤ (r : Int)) = false := decide_eq_false (by omega)
                have HR : Hid ((decide (t ≤ r) && ltInt di[a]! di[r]!) = false) := by show _ = _; simp [hg]
                go_quiet (fail)
                go_wp2_with fail
                go_meet
                exact ⟨_, by rw [HR.out], rfl⟩
            case rest =>
              obtain ⟨q2, hu, rfl⟩ := hcut
              clear hH
              cases hbb : (decide (t ≤ r) && ltInt di[a]! di[r]!) with
              | true =>
                rw [hbb] at hu
                subst hu
                have htr := (Bool.and_eq_true_iff.1 hbb).1
                simp at htr
                obtain ⟨r1, hr1⟩ : ∃ r1, r - 1 = r1 := ⟨_, rfl⟩
                have e1 : (r : Int) - 1 = (r1 : Int) := by omega
                have HD := down_yes (p := fun x => ltInt di[a]! x) (d := di) (i := t) (j := r) (by omega) hbb
                rw [hr1] at HD
                have HD2 : Hid (scanDown (fun x => ltInt di[a]! x) di t r = scanDown (fun x => ltInt di[a]! x) di t r1) := HD
                have b1 : r1 + 1 ≤ gk - 1 := by omega
                have b2 : t ≤ r1 + 1 := by omega
                have b3 : r1 ≤ j := by omega
                have b4 : gk - 1 < gk := by omega
                clear HD hr1 hbb htr
                go_wp2_with fail
                go_roundg (gk - 1)
                case measure => exact b4
                case rel => exact ⟨r1, rfl, b3, .inr b2, b1, HW.out.1.drewN _, hb_drewN HW.out.2.1 _, by rw [HW.out.2.2]; exact HD2.out⟩
              | false =>
                rw [hbb] at hu
                subst hu
                have H2 : Hid (Mv k w (wr.drewN q2) ∧ HB (wr.drewN q2) k di ∧ scanDown (fun x => ltInt di[a]! x) di t j = r) := ⟨HW.out.1.drewN _, hb_drewN HW.out.2.1 _, by rw [HW.out.2.2]; exact down_no hbb⟩
                have H1' : Hid (scanUp (fun x => !ltInt di[a]! x) di j i = t) := H1.out.2.2
                have HE : Hid (partitionEqual ltInt d a b pv = partEqLoop ltInt a i j di ∧ di.size = n) := ⟨he, hz⟩
                clear HW hbb H1 he
                generalize wr.drewN q2 = W2 at H2 ⊢
                by_cases htr : r < t
                · have hgd : decide ((r : Int) < (t : Int)) = true := decide_eq_true (by omega)
                  go_wp2_with fail
                  go_ret
                  have e := partEq_stop H1'.out H2.out.2.2 htr
                  rw [HE.out.1, e]
                  exact ⟨rfl, H2.out.2.1, H2.out.1⟩
                · have hgd : decide ((r : Int) < (t : Int)) = false := decide_eq_false (by omega)
                  obtain ⟨r1, hr1⟩ : ∃ r1, r - 1 = r1 := ⟨_, rfl⟩
                  have e1 : (r : Int) - 1 = (r1 : Int) := by omega
                  obtain ⟨xt, hxt, c1, f1, i5, i6⟩ := hb_at H2.out.2.1 hz hn t (by omega)
                  obtain ⟨xr, hxr, c0, f0, i3, i4⟩ := hb_at H2.out.2.1 hz hn r (by omega)
                  obtain ⟨u, hst⟩ := st_any c1 c0 (.int .u8 xr)
                  have hkw : k < W2.heap.size := lt_of_cell c0
                  have e := partEq_go H1'.out H2.out.2.2 (by omega) hit hrj (by omega)
                  rw [hr1] at e
                  have HF : Hid (Mv k w ((W2.setCell ⟨k, t, none⟩ (.int .u8 xr)).setCell ⟨k, r, none⟩ (.int .u8 xt)).drew ∧ HB ((W2.setCell ⟨k, t, none⟩ (.int .u8 xr)).setCell ⟨k, r, none⟩ (.int .u8 xt)).drew k (swp di t r) ∧ (swp di t r).size = n) := sw_drew H2.out.1 H2.out.2.1 hz (by omega) (by omega) hxt hxr
                  have HP : Hid (partitionEqual ltInt d a b pv = partEqLoop ltInt a (t + 1) r1 (swp di t r)) := by show _ = _; rw [HE.out.1, e]
                  have b1 : r1 < n := by omega
                  have b2 : t + 1 ≤ n + 1 := by omega
                  clear e hxt hxr hr1 H1' H2 HE hz
                  go_wp2_with fail
                  go_region
                  clear c0 c1 f0 f1 hst hkw
                  generalize ((W2.setCell ⟨k, t, none⟩ (.int .u8 xr)).setCell ⟨k, r, none⟩ (.int .u8 xt)).drew = W3 at HF ⊢
                  go_wp2_with fail
                  go_roundg (g0 - 1)
                  case measure => have := HG0.out; omega
                  case rel => exact ⟨t + 1, r1, swp di t r, by go_num, rfl, by omega, b2, b1, by omega, HF.out.1, HF.out.2.1, HP.out, HF.out.2.2⟩
end Go.Proofs.Ytfkhpcgccjlpgaa
