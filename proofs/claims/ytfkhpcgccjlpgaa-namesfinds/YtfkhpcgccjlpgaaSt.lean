/- partitionOrdered, at bytes. -/
import Derived.Test.YtfkhpcgccjlpgaaSp
namespace Go.Proofs.Ytfkhpcgccjlpgaa
open Go.RowKit Go.Sort

theorem part_stop {a i j i2 j2 : Nat} {d : Array Int} (h1 : scanUp (fun x => ltInt x d[a]!) d j i = i2) (h2 : scanDown (fun x => !ltInt x d[a]!) d i2 j = j2) (h : j2 < i2) : partLoop ltInt a i j d = (j2, d) := by
  rw [partLoop]
  simp only [h1, h2]
  rw [if_pos h]
theorem part_go {a i j i2 j2 : Nat} {d : Array Int} (h1 : scanUp (fun x => ltInt x d[a]!) d j i = i2) (h2 : scanDown (fun x => !ltInt x d[a]!) d i2 j = j2) (h : i2 ≤ j2) (hi : i ≤ i2) (hj : j2 ≤ j) (h0 : 0 < j2) : partLoop ltInt a i j d = partLoop ltInt a (i2 + 1) (j2 - 1) (swp d i2 j2) := by
  conv => lhs; rw [partLoop]
  simp only [h1, h2]
  rw [if_neg (by omega), dif_pos (by omega)]
theorem part_eq (d : Array Int) (a b pv b1 : Nat) (d0 : Array Int) (h : b - 1 = b1) (hd : swp d a pv = d0) : partition ltInt d a b pv =
    (if scanUp (fun x => ltInt x d0[a]!) d0 b1 (a + 1) > scanDown (fun x => !ltInt x d0[a]!) d0 (scanUp (fun x => ltInt x d0[a]!) d0 b1 (a + 1)) b1 then
      (scanDown (fun x => !ltInt x d0[a]!) d0 (scanUp (fun x => ltInt x d0[a]!) d0 b1 (a + 1)) b1, true, swp d0 (scanDown (fun x => !ltInt x d0[a]!) d0 (scanUp (fun x => ltInt x d0[a]!) d0 b1 (a + 1)) b1) a)
    else ((partLoop ltInt a (scanUp (fun x => ltInt x d0[a]!) d0 b1 (a + 1) + 1) (scanDown (fun x => !ltInt x d0[a]!) d0 (scanUp (fun x => ltInt x d0[a]!) d0 b1 (a + 1)) b1 - 1) (swp d0 (scanUp (fun x => ltInt x d0[a]!) d0 b1 (a + 1)) (scanDown (fun x => !ltInt x d0[a]!) d0 (scanUp (fun x => ltInt x d0[a]!) d0 b1 (a + 1)) b1))).1, false,
      swp (partLoop ltInt a (scanUp (fun x => ltInt x d0[a]!) d0 b1 (a + 1) + 1) (scanDown (fun x => !ltInt x d0[a]!) d0 (scanUp (fun x => ltInt x d0[a]!) d0 b1 (a + 1)) b1 - 1) (swp d0 (scanUp (fun x => ltInt x d0[a]!) d0 b1 (a + 1)) (scanDown (fun x => !ltInt x d0[a]!) d0 (scanUp (fun x => ltInt x d0[a]!) d0 b1 (a + 1)) b1))).2 (partLoop ltInt a (scanUp (fun x => ltInt x d0[a]!) d0 b1 (a + 1) + 1) (scanDown (fun x => !ltInt x d0[a]!) d0 (scanUp (fun x => ltInt x d0[a]!) d0 b1 (a + 1)) b1 - 1) (swp d0 (scanUp (fun x => ltInt x d0[a]!) d0 b1 (a + 1)) (scanDown (fun x => !ltInt x d0[a]!) d0 (scanUp (fun x => ltInt x d0[a]!) d0 b1 (a + 1)) b1))).1 a)) := by
  subst hd; subst h
  rfl

set_option maxHeartbeats 4000000 in
set_option maxRecDepth 10000 in
theorem part_walk (k n cap : Nat) (d : Array Int) (a b pv : Nat) (w : World) (hd : d.size = n) (hn : n ≤ 100000) (hH : HB w k d) (hb : b ≤ n) (hap : a ≤ pv) (hpb : pv < b) :
    Calls Try.prog 40 #[.slice (some ⟨k, 0, none⟩) n cap, .int .i64 a, .int .i64 b, .int .i64 pv] w fun e w' => e = .returned (.tuple #[.int .i64 ((partition ltInt d a b pv).1 : Nat), .bool (partition ltInt d a b pv).2.1]) ∧ HB w' k (partition ltInt d a b pv).2.2 ∧ Mv k w w' := by
  obtain ⟨b1, hb1⟩ : ∃ b1, b - 1 = b1 := ⟨_, rfl⟩
  have hbw : (b : Int) - 1 = (b1 : Int) := by omega
  have hb1n : b1 < n := by omega
  have hab1 : a ≤ b1 := by omega
  obtain ⟨x, hx, c1, f1, i1, i2⟩ := hb_at hH hd hn a (by omega)
  obtain ⟨y, hy, c0, f0, i3, i4⟩ := hb_at hH hd hn pv (by omega)
  obtain ⟨u, hst⟩ := st_any c1 c0 (.int .u8 y)
  have hkw : k < w.heap.size := lt_of_cell c0
  have HS : Hid (Mv k w ((w.setCell ⟨k, a, none⟩ (.int .u8 y)).setCell ⟨k, pv, none⟩ (.int .u8 x)).drew ∧ HB ((w.setCell ⟨k, a, none⟩ (.int .u8 y)).setCell ⟨k, pv, none⟩ (.int .u8 x)).drew k (swp d a pv) ∧ (swp d a pv).size = n) := sw_drew (Mv.refl k w) hH hd (by omega) (by omega) hx hy
  obtain ⟨d0, hd0⟩ : ∃ d0, swp d a pv = d0 := ⟨_, rfl⟩
  have HE := (show Hid _ from part_eq d a b pv b1 d0 hb1 hd0)
  rw [hd0] at HS
  clear hH hd hx hy hb1 hd0
  go_enter Try.func40, Try.ntmps40
  go_wp2_with fail
  go_region
  clear c0 c1 f0 f1 i3 i4 hst hkw
  generalize ((w.setCell ⟨k, a, none⟩ (.int .u8 y)).setCell ⟨k, pv, none⟩ (.int .u8 x)).drew = W at HS ⊢
  have HI : Hid (Mv k w W ∧ HB W k d0) := ⟨HS.out.1, HS.out.2.1⟩
  have hz := HS.out.2.2
  obtain ⟨i, hi⟩ : ∃ i, a + 1 = i := ⟨_, rfl⟩
  have ei : (a : Int) + 1 = (i : Int) := by omega
  rw [hi] at HE
  have hai : a + 1 ≤ i := by omega
  have hin : i ≤ n + 1 := by omega
  have hjn : b1 < n := hb1n
  clear HS hi
  go_wp2_with fail
  go_loopg [10] (n + 1) (fun g iv wr2 => ∃ (t : Nat), iv = .int .i64 t ∧ i ≤ t ∧ t ≤ n + 1 ∧ n + 1 ≤ g + t ∧ Mv k w wr2 ∧ HB wr2 k d0 ∧ scanUp (fun x => ltInt x d0[a]!) d0 b1 i = scanUp (fun x => ltInt x d0[a]!) d0 b1 t)
  case atStart => exact ⟨i, rfl, Nat.le_refl _, hin, by omega, HI.out.1, HI.out.2, rfl⟩
  case round =>
    obtain ⟨t, rfl, hit, htn, hgt, hmv, hH, hs⟩ := hrel
    have HW : Hid (Mv k w wr ∧ HB wr k d0 ∧ scanUp (fun x => ltInt x d0[a]!) d0 b1 i = scanUp (fun x => ltInt x d0[a]!) d0 b1 t) := ⟨hmv, hH, hs⟩
    clear hmv hs HI
    go_upto_region 3 with fail
    go_cut [43] (fun sv wc => ∃ q, sv = .bool (decide (t ≤ b1) && ltInt d0[t]! d0[a]!) ∧ wc = wr.drewN q)
    case first =>
      by_cases hg : t ≤ b1
      · have hgd : decide ((t : Int) ≤ (b1 : Int)) = true := decide_eq_true (by omega)
        obtain ⟨xa, hxa, ca, fa, ia, ja⟩ := hb_at hH hz hn t (by omega)
        obtain ⟨xb, hxb, cb, fb, ib, jb⟩ := hb_at hH hz hn a (by omega)
        obtain ⟨lb, hlb⟩ : ∃ lb, ltInt xa xb = lb := ⟨_, rfl⟩
        have HR : Hid ((decide (t ≤ b1) && ltInt d0[t]! d0[a]!) = lb) := by show _ = _; rw [hxa, hxb, hlb]; simp [hg]
        clear hxa hxb
        go_quiet (exact (less_as hlb _).mono fun _ _ h => ⟨h.1, _, h.2⟩)
        go_wp2_with fail
        go_meet
        exact ⟨_, by rw [HR.out], rfl⟩
      · have hgd : decide ((t : Int) ≤ (b1 : Int)) = false := decide_eq_false (by omega)
        have HR : Hid ((decide (t ≤ b1) && ltInt d0[t]! d0[a]!) = false) := by show _ = _; simp [hg]
        go_quiet (fail)
        go_wp2_with fail
        go_meet
        exact ⟨_, by rw [HR.out], rfl⟩
    case rest =>
      obtain ⟨q, hu, rfl⟩ := hcut
      clear hH
      cases hbb : (decide (t ≤ b1) && ltInt d0[t]! d0[a]!) with
      | true =>
        rw [hbb] at hu
        subst hu
        have hlt := (Bool.and_eq_true_iff.1 hbb).1
        simp at hlt
        have z1 : gk - 1 < gk := by omega
        have z2 : n + 1 ≤ (gk - 1) + (t + 1) := by omega
        have HU : Hid (scanUp (fun x => ltInt x d0[a]!) d0 b1 i = scanUp (fun x => ltInt x d0[a]!) d0 b1 (t + 1)) := HW.out.2.2.trans (up_yes hbb)
        clear hbb
        go_wp2_with fail
        go_roundg (gk - 1)
        case measure => exact z1
        case rel => exact ⟨t + 1, by go_num, by omega, by omega, z2, HW.out.1.drewN _, hb_drewN HW.out.2.1 _, HU.out⟩
      | false =>
        rw [hbb] at hu
        subst hu
        have H1 : Hid (Mv k w (wr.drewN q) ∧ HB (wr.drewN q) k d0 ∧ scanUp (fun x => ltInt x d0[a]!) d0 b1 i = t) := ⟨HW.out.1.drewN _, hb_drewN HW.out.2.1 _, HW.out.2.2.trans (up_no hbb)⟩
        clear HW hbb
        generalize wr.drewN q = W1 at H1 ⊢
        go_wp2_with fail
        go_loopg [11] (b1 + 1) (fun g jv wr2 => ∃ (r : Nat), jv = .int .i64 r ∧ r ≤ b1 ∧ (r = b1 ∨ t ≤ r + 1) ∧ r + 1 ≤ g ∧ Mv k w wr2 ∧ HB wr2 k d0 ∧ scanDown (fun x => !ltInt x d0[a]!) d0 t b1 = scanDown (fun x => !ltInt x d0[a]!) d0 t r)
        case atStart => exact ⟨b1, rfl, Nat.le_refl _, .inl rfl, Nat.le_refl _, H1.out.1, H1.out.2.1, rfl⟩
        case round =>
          obtain ⟨r, rfl, hrj, hor, hgr, hmv, hH, hs⟩ := hrel
          have HW : Hid (Mv k w wr ∧ HB wr k d0 ∧ scanDown (fun x => !ltInt x d0[a]!) d0 t b1 = scanDown (fun x => !ltInt x d0[a]!) d0 t r) := ⟨hmv, hH, hs⟩
          clear hmv hs
          go_upto_region 5 with fail
          go_cut [60] (fun sv wc => ∃ q, sv = .bool (decide (t ≤ r) && !ltInt d0[r]! d0[a]!) ∧ wc = wr.drewN q)
          case first =>
            by_cases hg : t ≤ r
            · have hgd : decide ((t : Int) ≤ (r : Int)) = true := decide_eq_true (by omega)
              obtain ⟨xa, hxa, ca, fa, ia, ja⟩ := hb_at hH hz hn r (by omega)
              obtain ⟨xb, hxb, cb, fb, ib, jb⟩ := hb_at hH hz hn a (by omega)
              obtain ⟨lb, hlb⟩ : ∃ lb, ltInt xa xb = lb := ⟨_, rfl⟩
              have HR : Hid ((decide (t ≤ r) && !ltInt d0[r]! d0[a]!) = !lb) := by show _ = _; rw [hxa, hxb, hlb]; simp [hg]
              clear hxa hxb
              go_quiet (exact (less_as hlb _).mono fun _ _ h => ⟨h.1, _, h.2⟩)
              go_wp2_with fail
              go_meet
              exact ⟨_, by rw [HR.out], rfl⟩
            · have hgd : decide ((t : Int) ≤ (r : Int)) = false := decide_eq_false (by omega)
              have HR : Hid ((decide (t ≤ r) && !ltInt d0[r]! d0[a]!) = false) := by show _ = _; simp [hg]
              go_quiet (fail)
              go_wp2_with fail
              go_meet
              exact ⟨_, by rw [HR.out], rfl⟩
          case rest =>
            obtain ⟨q2, hu, rfl⟩ := hcut
            clear hH
            cases hbb : (decide (t ≤ r) && !ltInt d0[r]! d0[a]!) with
            | true =>
              rw [hbb] at hu
              subst hu
              have htr := (Bool.and_eq_true_iff.1 hbb).1
              simp at htr
              obtain ⟨r1, hr1⟩ : ∃ r1, r - 1 = r1 := ⟨_, rfl⟩
              have e1 : (r : Int) - 1 = (r1 : Int) := by omega
              have HD := down_yes (p := fun x => !ltInt x d0[a]!) (d := d0) (i := t) (j := r) (by omega) hbb
              rw [hr1] at HD
              have HD2 : Hid (scanDown (fun x => !ltInt x d0[a]!) d0 t b1 = scanDown (fun x => !ltInt x d0[a]!) d0 t r1) := HW.out.2.2.trans HD
              have z1 : r1 + 1 ≤ gk - 1 := by omega
              have z2 : t ≤ r1 + 1 := by omega
              have z3 : r1 ≤ b1 := by omega
              have z4 : gk - 1 < gk := by omega
              clear HD hr1 hbb htr
              go_wp2_with fail
              go_roundg (gk - 1)
              case measure => exact z4
              case rel => exact ⟨r1, rfl, z3, .inr z2, z1, HW.out.1.drewN _, hb_drewN HW.out.2.1 _, HD2.out⟩
            | false =>
              rw [hbb] at hu
              subst hu
              have H2 : Hid (Mv k w (wr.drewN q2) ∧ HB (wr.drewN q2) k d0 ∧ scanDown (fun x => !ltInt x d0[a]!) d0 t b1 = r) := ⟨HW.out.1.drewN _, hb_drewN HW.out.2.1 _, HW.out.2.2.trans (down_no hbb)⟩
              clear HW hbb
              generalize wr.drewN q2 = W2 at H2 ⊢
              by_cases htr : r < t
              · have hgd : decide ((r : Int) < (t : Int)) = true := decide_eq_true (by omega)
                have b0 : a < n := by omega
                have b9 : r < n := by omega
                obtain ⟨xr, hxr, s1, f1, _, _⟩ := hb_at H2.out.2.1 hz hn r b9
                obtain ⟨xa, hxa, s0, f0, _, _⟩ := hb_at H2.out.2.1 hz hn a b0
                obtain ⟨u, hst⟩ := st_any s1 s0 (.int .u8 xa)
                have hkw : k < W2.heap.size := lt_of_cell s0
                have HF : Hid (Mv k w ((W2.setCell ⟨k, r, none⟩ (.int .u8 xa)).setCell ⟨k, a, none⟩ (.int .u8 xr)).drew ∧ HB ((W2.setCell ⟨k, r, none⟩ (.int .u8 xa)).setCell ⟨k, a, none⟩ (.int .u8 xr)).drew k (swp d0 r a) ∧ (swp d0 r a).size = n) := sw_drew H2.out.1 H2.out.2.1 hz b9 b0 hxr hxa
                have HP : Hid (partition ltInt d a b pv = (r, true, swp d0 r a)) := by
                  show _ = _
                  rw [HE.out]
                  simp only [H1.out.2.2, H2.out.2.2]
                  rw [if_pos htr]
                clear hxr hxa
                go_wp2_with fail
                go_region
                clear s0 s1 f0 f1 hst hkw
                generalize ((W2.setCell ⟨k, r, none⟩ (.int .u8 xa)).setCell ⟨k, a, none⟩ (.int .u8 xr)).drew = W3 at HF ⊢
                go_wp2_with fail
                go_ret2
                rw [HP.out]
                exact ⟨rfl, HF.out.2.1, HF.out.1⟩
              · have hgd : decide ((r : Int) < (t : Int)) = false := decide_eq_false (by omega)
                obtain ⟨r1, hr1⟩ : ∃ r1, r - 1 = r1 := ⟨_, rfl⟩
                have e1 : (r : Int) - 1 = (r1 : Int) := by omega
                have b8 : t < n := by omega
                have b9 : r < n := by omega
                obtain ⟨xt, hxt, s1, f1, _, _⟩ := hb_at H2.out.2.1 hz hn t b8
                obtain ⟨xr, hxr, s0, f0, _, _⟩ := hb_at H2.out.2.1 hz hn r b9
                obtain ⟨u, hst⟩ := st_any s1 s0 (.int .u8 xr)
                have hkw : k < W2.heap.size := lt_of_cell s0
                have HF : Hid (Mv k w ((W2.setCell ⟨k, t, none⟩ (.int .u8 xr)).setCell ⟨k, r, none⟩ (.int .u8 xt)).drew ∧ HB ((W2.setCell ⟨k, t, none⟩ (.int .u8 xr)).setCell ⟨k, r, none⟩ (.int .u8 xt)).drew k (swp d0 t r) ∧ (swp d0 t r).size = n) := sw_drew H2.out.1 H2.out.2.1 hz b8 b9 hxt hxr
                have HP : Hid (partition ltInt d a b pv = ((partLoop ltInt a (t + 1) r1 (swp d0 t r)).1, false, swp (partLoop ltInt a (t + 1) r1 (swp d0 t r)).2 (partLoop ltInt a (t + 1) r1 (swp d0 t r)).1 a)) := by
                  show _ = _
                  rw [HE.out]
                  simp only [H1.out.2.2, H2.out.2.2]
                  rw [if_neg htr, hr1]
                have y1 : r1 < n := by omega
                have y2 : t + 1 ≤ n + 1 := by omega
                have y3 : a ≤ r1 := by omega
                clear hxt hxr hr1 H1 H2 HE hz
                go_wp2_with fail
                go_region
                clear s0 s1 f0 f1 hst hkw
                generalize ((W2.setCell ⟨k, t, none⟩ (.int .u8 xr)).setCell ⟨k, r, none⟩ (.int .u8 xt)).drew = W3 at HF ⊢
                go_wp2_with fail
                go_loopg [10, 11] (n + 1) (fun g iv jv wr => ∃ (i j : Nat) (di : Array Int), iv = .int .i64 i ∧ jv = .int .i64 j ∧ a + 1 ≤ i ∧ i ≤ n + 1 ∧ j < n ∧ a ≤ j ∧ n + 1 ≤ g + i ∧ Mv k w wr ∧ HB wr k di ∧ partition ltInt d a b pv = ((partLoop ltInt a i j di).1, false, swp (partLoop ltInt a i j di).2 (partLoop ltInt a i j di).1 a) ∧ di.size = n)
                case atStart => exact ⟨t + 1, r1, swp d0 t r, by go_num, rfl, by omega, y2, y1, y3, by omega, HF.out.1, HF.out.2.1, HP.out, HF.out.2.2⟩
                case round =>
                  obtain ⟨i, j, di, rfl, rfl, hai, hin, hjn, haj, hgi, hmv, hH, he, hz⟩ := hrel
                  clear HF HP
                  obtain ⟨g0, hg0⟩ : ∃ g0, g0 = gk := ⟨_, rfl⟩
                  rw [← hg0] at hgi
                  have HG0 : Hid (g0 = gk) := hg0
                  have HI : Hid (Mv k w wr ∧ HB wr k di) := ⟨hmv, hH⟩
                  have HE : Hid (partition ltInt d a b pv = ((partLoop ltInt a i j di).1, false, swp (partLoop ltInt a i j di).2 (partLoop ltInt a i j di).1 a) ∧ di.size = n) := ⟨he, hz⟩
                  clear hg0 hmv hH he
                  go_wp2_with fail
                  go_loopg [10] (n + 1) (fun g iv wr2 => ∃ (t : Nat), iv = .int .i64 t ∧ i ≤ t ∧ t ≤ n + 1 ∧ n + 1 ≤ g + t ∧ Mv k w wr2 ∧ HB wr2 k di ∧ scanUp (fun x => ltInt x di[a]!) di j i = scanUp (fun x => ltInt x di[a]!) di j t)
                  case atStart => exact ⟨i, rfl, Nat.le_refl _, hin, by omega, HI.out.1, HI.out.2, rfl⟩
                  case round =>
                    obtain ⟨t, rfl, hit, htn, hgt, hmv, hH, hs⟩ := hrel
                    have HW : Hid (Mv k w wr ∧ HB wr k di ∧ scanUp (fun x => ltInt x di[a]!) di j i = scanUp (fun x => ltInt x di[a]!) di j t) := ⟨hmv, hH, hs⟩
                    clear hmv hs HI
                    go_upto_region 13 with fail
                    go_cut [112] (fun sv wc => ∃ q, sv = .bool (decide (t ≤ j) && ltInt di[t]! di[a]!) ∧ wc = wr.drewN q)
                    case first =>
                      by_cases hg : t ≤ j
                      · have hgd : decide ((t : Int) ≤ (j : Int)) = true := decide_eq_true (by omega)
                        obtain ⟨xa, hxa, ca, fa, ia, ja⟩ := hb_at hH hz hn t (by omega)
                        obtain ⟨xb, hxb, cb, fb, ib, jb⟩ := hb_at hH hz hn a (by omega)
                        obtain ⟨lb, hlb⟩ : ∃ lb, ltInt xa xb = lb := ⟨_, rfl⟩
                        have HR : Hid ((decide (t ≤ j) && ltInt di[t]! di[a]!) = lb) := by show _ = _; rw [hxa, hxb, hlb]; simp [hg]
                        clear hxa hxb
                        go_quiet (exact (less_as hlb _).mono fun _ _ h => ⟨h.1, _, h.2⟩)
                        go_wp2_with fail
                        go_meet
                        exact ⟨_, by rw [HR.out], rfl⟩
                      · have hgd : decide ((t : Int) ≤ (j : Int)) = false := decide_eq_false (by omega)
                        have HR : Hid ((decide (t ≤ j) && ltInt di[t]! di[a]!) = false) := by show _ = _; simp [hg]
                        go_quiet (fail)
                        go_wp2_with fail
                        go_meet
                        exact ⟨_, by rw [HR.out], rfl⟩
                    case rest =>
                      obtain ⟨q, hu, rfl⟩ := hcut
                      clear hH
                      cases hbb : (decide (t ≤ j) && ltInt di[t]! di[a]!) with
                      | true =>
                        rw [hbb] at hu
                        subst hu
                        have hlt := (Bool.and_eq_true_iff.1 hbb).1
                        simp at hlt
                        have z1 : gk - 1 < gk := by omega
                        have z2 : n + 1 ≤ (gk - 1) + (t + 1) := by omega
                        have HU : Hid (scanUp (fun x => ltInt x di[a]!) di j i = scanUp (fun x => ltInt x di[a]!) di j (t + 1)) := HW.out.2.2.trans (up_yes hbb)
                        clear hbb
                        go_wp2_with fail
                        go_roundg (gk - 1)
                        case measure => exact z1
                        case rel => exact ⟨t + 1, by go_num, by omega, by omega, z2, HW.out.1.drewN _, hb_drewN HW.out.2.1 _, HU.out⟩
                      | false =>
                        rw [hbb] at hu
                        subst hu
                        have H1 : Hid (Mv k w (wr.drewN q) ∧ HB (wr.drewN q) k di ∧ scanUp (fun x => ltInt x di[a]!) di j i = t) := ⟨HW.out.1.drewN _, hb_drewN HW.out.2.1 _, HW.out.2.2.trans (up_no hbb)⟩
                        clear HW hbb
                        generalize wr.drewN q = W1 at H1 ⊢
                        go_wp2_with fail
                        go_loopg [11] (j + 1) (fun g jv wr2 => ∃ (r : Nat), jv = .int .i64 r ∧ r ≤ j ∧ (r = j ∨ t ≤ r + 1) ∧ r + 1 ≤ g ∧ Mv k w wr2 ∧ HB wr2 k di ∧ scanDown (fun x => !ltInt x di[a]!) di t j = scanDown (fun x => !ltInt x di[a]!) di t r)
                        case atStart => exact ⟨j, rfl, Nat.le_refl _, .inl rfl, Nat.le_refl _, H1.out.1, H1.out.2.1, rfl⟩
                        case round =>
                          obtain ⟨r, rfl, hrj, hor, hgr, hmv, hH, hs⟩ := hrel
                          have HW : Hid (Mv k w wr ∧ HB wr k di ∧ scanDown (fun x => !ltInt x di[a]!) di t j = scanDown (fun x => !ltInt x di[a]!) di t r) := ⟨hmv, hH, hs⟩
                          clear hmv hs
                          go_upto_region 15 with fail
                          go_cut [129] (fun sv wc => ∃ q, sv = .bool (decide (t ≤ r) && !ltInt di[r]! di[a]!) ∧ wc = wr.drewN q)
                          case first =>
                            by_cases hg : t ≤ r
                            · have hgd : decide ((t : Int) ≤ (r : Int)) = true := decide_eq_true (by omega)
                              obtain ⟨xa, hxa, ca, fa, ia, ja⟩ := hb_at hH hz hn r (by omega)
                              obtain ⟨xb, hxb, cb, fb, ib, jb⟩ := hb_at hH hz hn a (by omega)
                              obtain ⟨lb, hlb⟩ : ∃ lb, ltInt xa xb = lb := ⟨_, rfl⟩
                              have HR : Hid ((decide (t ≤ r) && !ltInt di[r]! di[a]!) = !lb) := by show _ = _; rw [hxa, hxb, hlb]; simp [hg]
                              clear hxa hxb
                              go_quiet (exact (less_as hlb _).mono fun _ _ h => ⟨h.1, _, h.2⟩)
                              go_wp2_with fail
                              go_meet
                              exact ⟨_, by rw [HR.out], rfl⟩
                            · have hgd : decide ((t : Int) ≤ (r : Int)) = false := decide_eq_false (by omega)
                              have HR : Hid ((decide (t ≤ r) && !ltInt di[r]! di[a]!) = false) := by show _ = _; simp [hg]
                              go_quiet (fail)
                              go_wp2_with fail
                              go_meet
                              exact ⟨_, by rw [HR.out], rfl⟩
                          case rest =>
                            obtain ⟨q2, hu, rfl⟩ := hcut
                            clear hH
                            cases hbb : (decide (t ≤ r) && !ltInt di[r]! di[a]!) with
                            | true =>
                              rw [hbb] at hu
                              subst hu
                              have htr := (Bool.and_eq_true_iff.1 hbb).1
                              simp at htr
                              obtain ⟨r1, hr1⟩ : ∃ r1, r - 1 = r1 := ⟨_, rfl⟩
                              have e1 : (r : Int) - 1 = (r1 : Int) := by omega
                              have HD := down_yes (p := fun x => !ltInt x di[a]!) (d := di) (i := t) (j := r) (by omega) hbb
                              rw [hr1] at HD
                              have HD2 : Hid (scanDown (fun x => !ltInt x di[a]!) di t j = scanDown (fun x => !ltInt x di[a]!) di t r1) := HW.out.2.2.trans HD
                              have z1 : r1 + 1 ≤ gk - 1 := by omega
                              have z2 : t ≤ r1 + 1 := by omega
                              have z3 : r1 ≤ j := by omega
                              have z4 : gk - 1 < gk := by omega
                              clear HD hr1 hbb htr
                              go_wp2_with fail
                              go_roundg (gk - 1)
                              case measure => exact z4
                              case rel => exact ⟨r1, rfl, z3, .inr z2, z1, HW.out.1.drewN _, hb_drewN HW.out.2.1 _, HD2.out⟩
                            | false =>
                              rw [hbb] at hu
                              subst hu
                              have H2 : Hid (Mv k w (wr.drewN q2) ∧ HB (wr.drewN q2) k di ∧ scanDown (fun x => !ltInt x di[a]!) di t j = r) := ⟨HW.out.1.drewN _, hb_drewN HW.out.2.1 _, HW.out.2.2.trans (down_no hbb)⟩
                              clear HW hbb
                              generalize wr.drewN q2 = W2 at H2 ⊢
                              by_cases htr : r < t
                              · have hgd : decide ((r : Int) < (t : Int)) = true := decide_eq_true (by omega)
                                have b0 : a < n := by omega
                                have b9 : r < n := by omega
                                obtain ⟨xr, hxr, s1, f1, _, _⟩ := hb_at H2.out.2.1 hz hn r b9
                                obtain ⟨xa, hxa, s0, f0, _, _⟩ := hb_at H2.out.2.1 hz hn a b0
                                obtain ⟨u, hst⟩ := st_any s1 s0 (.int .u8 xa)
                                have hkw : k < W2.heap.size := lt_of_cell s0
                                have HF : Hid (Mv k w ((W2.setCell ⟨k, r, none⟩ (.int .u8 xa)).setCell ⟨k, a, none⟩ (.int .u8 xr)).drew ∧ HB ((W2.setCell ⟨k, r, none⟩ (.int .u8 xa)).setCell ⟨k, a, none⟩ (.int .u8 xr)).drew k (swp di r a) ∧ (swp di r a).size = n) := sw_drew H2.out.1 H2.out.2.1 hz b9 b0 hxr hxa
                                have HP : Hid (partition ltInt d a b pv = (r, false, swp di r a)) := by
                                  show _ = _
                                  rw [HE.out.1, part_stop H1.out.2.2 H2.out.2.2 htr]
                                clear hxr hxa
                                go_wp2_with fail
                                go_region
                                clear s0 s1 f0 f1 hst hkw
                                generalize ((W2.setCell ⟨k, r, none⟩ (.int .u8 xa)).setCell ⟨k, a, none⟩ (.int .u8 xr)).drew = W3 at HF ⊢
                                go_wp2_with fail
                                go_ret2
                                rw [HP.out]
                                exact ⟨rfl, HF.out.2.1, HF.out.1⟩
                              · have hgd : decide ((r : Int) < (t : Int)) = false := decide_eq_false (by omega)
                                obtain ⟨r1, hr1⟩ : ∃ r1, r - 1 = r1 := ⟨_, rfl⟩
                                have e1 : (r : Int) - 1 = (r1 : Int) := by omega
                                have b8 : t < n := by omega
                                have b9 : r < n := by omega
                                obtain ⟨xt, hxt, s1, f1, _, _⟩ := hb_at H2.out.2.1 hz hn t b8
                                obtain ⟨xr, hxr, s0, f0, _, _⟩ := hb_at H2.out.2.1 hz hn r b9
                                obtain ⟨u, hst⟩ := st_any s1 s0 (.int .u8 xr)
                                have hkw : k < W2.heap.size := lt_of_cell s0
                                have HF : Hid (Mv k w ((W2.setCell ⟨k, t, none⟩ (.int .u8 xr)).setCell ⟨k, r, none⟩ (.int .u8 xt)).drew ∧ HB ((W2.setCell ⟨k, t, none⟩ (.int .u8 xr)).setCell ⟨k, r, none⟩ (.int .u8 xt)).drew k (swp di t r) ∧ (swp di t r).size = n) := sw_drew H2.out.1 H2.out.2.1 hz b8 b9 hxt hxr
                                have e := part_go H1.out.2.2 H2.out.2.2 (by omega) hit hrj (by omega)
                                rw [hr1] at e
                                have HP : Hid (partition ltInt d a b pv = ((partLoop ltInt a (t + 1) r1 (swp di t r)).1, false, swp (partLoop ltInt a (t + 1) r1 (swp di t r)).2 (partLoop ltInt a (t + 1) r1 (swp di t r)).1 a)) := by show _ = _; rw [HE.out.1, e]
                                have y1 : r1 < n := by omega
                                have y2 : t + 1 ≤ n + 1 := by omega
                                have y3 : a ≤ r1 := by omega
                                have b4 : g0 - 1 < g0 := by omega
                                have b5 : n + 1 ≤ (g0 - 1) + (t + 1) := by omega
                                clear e hxt hxr hr1 H1 H2 HE hz
                                go_wp2_with fail
                                go_region
                                clear s0 s1 f0 f1 hst hkw
                                generalize ((W2.setCell ⟨k, t, none⟩ (.int .u8 xr)).setCell ⟨k, r, none⟩ (.int .u8 xt)).drew = W3 at HF ⊢
                                go_wp2_with fail
                                go_roundg (g0 - 1)
                                case measure => have := HG0.out; omega
                                case rel => exact ⟨t + 1, r1, swp di t r, by go_num, rfl, by omega, y2, y1, y3, b5, HF.out.1, HF.out.2.1, HP.out, HF.out.2.2⟩
end Go.Proofs.Ytfkhpcgccjlpgaa
