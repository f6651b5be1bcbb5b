/- partialInsertionSortOrdered, at bytes. -/
import Derived.Test.YtfkhpcgccjlpgaaSb
import Derived.Deep.DeepCutAuto
namespace Go.Proofs.Ytfkhpcgccjlpgaa
open Go.RowKit Go.Sort

theorem ss_yes {d : Array Int} {b i : Nat} (h : (decide (i < b) && !ltInt d[i]! d[i - 1]!) = true) : scanSorted ltInt d b i = scanSorted ltInt d b (i + 1) := by
  conv => lhs; rw [scanSorted]
  rw [if_pos h]
theorem ss_no {d : Array Int} {b i : Nat} (h : (decide (i < b) && !ltInt d[i]! d[i - 1]!) = false) : scanSorted ltInt d b i = i := by
  rw [scanSorted, if_neg (by rw [h]; decide)]
theorem shd_size (j : Nat) (d : Array Int) : (shiftDown ltInt j d).size = d.size := by
  induction j generalizing d with
  | zero => rfl
  | succ j ih =>
    unfold shiftDown
    split
    · rfl
    · rw [ih, swp_size]
theorem shu_size (b j : Nat) (d : Array Int) : (shiftUp ltInt b j d).size = d.size := by
  fun_induction shiftUp ltInt b j d <;> simp_all [swp]
theorem shu_go {b j : Nat} {d : Array Int} (h : j < b) (hl : ltInt d[j]! d[j - 1]! = true) : shiftUp ltInt b j d = shiftUp ltInt b (j + 1) (swp d j (j - 1)) := by
  conv => lhs; rw [shiftUp]
  rw [if_pos h, hl]
  rfl
theorem shu_stop {b j : Nat} {d : Array Int} (hl : ltInt d[j]! d[j - 1]! = false) : shiftUp ltInt b j d = d := by
  rw [shiftUp, hl]
  simp
theorem shu_end {b j : Nat} {d : Array Int} (h : ¬ j < b) : shiftUp ltInt b j d = d := by
  rw [shiftUp, if_neg h]
theorem pin_step (a b s i : Nat) (d : Array Int) (i2 : Nat) (h : scanSorted ltInt d b i = i2) : partialIns ltInt a b (s + 1) i d =
    if i2 = b then (d, true) else if b - a < 50 then (d, false) else
      partialIns ltInt a b s i2 (if b - i2 ≥ 2 then shiftUp ltInt b (i2 + 1) (if i2 - a ≥ 2 then shiftDown ltInt (i2 - 1) (swp d i2 (i2 - 1)) else swp d i2 (i2 - 1)) else (if i2 - a ≥ 2 then shiftDown ltInt (i2 - 1) (swp d i2 (i2 - 1)) else swp d i2 (i2 - 1))) := by
  conv => lhs; rw [partialIns]
  simp only [h]

set_option maxHeartbeats 4000000 in
set_option maxRecDepth 10000 in
theorem pin_walk (k n cap : Nat) (d : Array Int) (a b : Nat) (w : World) (hd : d.size = n) (hn : n ≤ 100000) (hH : HB w k d) (hb : b ≤ n) (hab : a < b) :
    Calls Try.prog 37 #[.slice (some ⟨k, 0, none⟩) n cap, .int .i64 a, .int .i64 b] w fun e w' => e = .returned (.bool (partialInsertionSort ltInt d a b).2) ∧ HB w' k (partialInsertionSort ltInt d a b).1 ∧ Mv k w w' := by
  have HS : Hid (HB w k d ∧ d.size = n) := ⟨hH, hd⟩
  clear hH hd
  go_enter Try.func37, Try.ntmps37
  go_wp2_with fail
  go_loopg [7, 8] 5 (fun s iv cv wr => ∃ (i c : Nat) (di : Array Int), iv = .int .i64 i ∧ cv = .int .i64 c ∧ c + s = 5 ∧ a + 1 ≤ i ∧ i ≤ b ∧ Mv k w wr ∧ HB wr k di ∧ partialInsertionSort ltInt d a b = partialIns ltInt a b s i di ∧ di.size = n)
  case atStart => exact ⟨a + 1, 0, d, by go_num, rfl, rfl, Nat.le_refl _, by omega, Mv.refl _ _, HS.out.1, rfl, HS.out.2⟩
  case round =>
    obtain ⟨i, c, di, rfl, rfl, hcs, hai, hib, hmv, hH, he, hz⟩ := hrel
    clear HS
    cases gk with
    | zero =>
      obtain rfl : c = 5 := by omega
      have HE : Hid (Mv k w wr ∧ HB wr k di ∧ partialInsertionSort ltInt d a b = (di, false)) := ⟨hmv, hH, he⟩
      clear hmv hH he hz
      go_wp2_with fail
      go_ret
      rw [HE.out.2.2]
      exact ⟨rfl, HE.out.2.1, HE.out.1⟩
    | succ s =>
      have hc5 : decide ((c : Int) < 5) = true := decide_eq_true (by omega)
      have HI : Hid (Mv k w wr ∧ HB wr k di) := ⟨hmv, hH⟩
      have HE : Hid (partialInsertionSort ltInt d a b = partialIns ltInt a b (s + 1) i di) := he
      clear hmv hH he
      go_wp2_with fail
      go_loopg [7] (n + 1) (fun g iv wr2 => ∃ (t : Nat), iv = .int .i64 t ∧ i ≤ t ∧ t ≤ b ∧ n + 1 ≤ g + t ∧ Mv k w wr2 ∧ HB wr2 k di ∧ scanSorted ltInt di b i = scanSorted ltInt di b t)
      case atStart => exact ⟨i, rfl, Nat.le_refl _, hib, by omega, HI.out.1, HI.out.2, rfl⟩
      case round =>
        obtain ⟨t, rfl, hit, htb, hgt, hmv, hH, hs⟩ := hrel
        obtain ⟨t1, ht1⟩ : ∃ t1, t - 1 = t1 := ⟨_, rfl⟩
        have et : (t : Int) - 1 = (t1 : Int) := by omega
        have HW : Hid (Mv k w wr ∧ HB wr k di ∧ scanSorted ltInt di b i = scanSorted ltInt di b t ∧ t - 1 = t1) := ⟨hmv, hH, hs, ht1⟩
        have ht1n : t1 < n := by omega
        have ht1t : t1 < t := by omega
        clear hmv hs HI ht1
        go_upto_region 5 with fail
        go_cut [32] (fun sv wc => ∃ q, sv = .bool (decide (t < b) && !ltInt di[t]! di[t1]!) ∧ wc = wr.drewN q)
        case first =>
          by_cases hg : t < b
          · have hgd : decide ((t : Int) < (b : Int)) = true := decide_eq_true (by omega)
            obtain ⟨xa, hxa, ca, fa, ia, ja⟩ := hb_at hH hz hn t (by omega)
            obtain ⟨xb, hxb, cb, fb, ib, jb⟩ := hb_at hH hz hn t1 (by omega)
            obtain ⟨lb, hlb⟩ : ∃ lb, ltInt xa xb = lb := ⟨_, rfl⟩
            have HR : Hid ((decide (t < b) && !ltInt di[t]! di[t1]!) = !lb) := by show _ = _; rw [hxa, hxb, hlb]; simp [hg]
            clear hxa hxb
            go_quiet (exact (less_as hlb _).mono fun _ _ h => ⟨h.1, _, h.2⟩)
            go_wp2_with fail
            go_meet
            exact ⟨_, by rw [HR.out], rfl⟩
          · have hgd : decide ((t : Int) < (b : Int)) = false := decide_eq_false (by omega)
            have HR : Hid ((decide (t < b) && !ltInt di[t]! di[t1]!) = false) := by show _ = _; simp [hg]
            go_quiet (fail)
            go_wp2_with fail
            go_meet
            exact ⟨_, by rw [HR.out], rfl⟩
        case rest =>
          obtain ⟨q, hu, rfl⟩ := hcut
          clear hH
          cases hbb : (decide (t < b) && !ltInt di[t]! di[t1]!) with
          | true =>
            rw [hbb] at hu
            subst hu
            have hlt := (Bool.and_eq_true_iff.1 hbb).1
            simp at hlt
            have z1 : gk - 1 < gk := by omega
            have z2 : n + 1 ≤ (gk - 1) + (t + 1) := by omega
            have HU : Hid (scanSorted ltInt di b i = scanSorted ltInt di b (t + 1)) := HW.out.2.2.1.trans (ss_yes (by rw [HW.out.2.2.2]; exact hbb))
            clear hbb
            go_wp2_with fail
            go_roundg (gk - 1)
            case measure => exact z1
            case rel => exact ⟨t + 1, by go_num, by omega, by omega, z2, HW.out.1.drewN _, hb_drewN HW.out.2.1 _, HU.out⟩
          | false =>
            rw [hbb] at hu
            subst hu
            have H1 : Hid (Mv k w (wr.drewN q) ∧ HB (wr.drewN q) k di ∧ scanSorted ltInt di b i = t ∧ t - 1 = t1) := ⟨HW.out.1.drewN _, hb_drewN HW.out.2.1 _, HW.out.2.2.1.trans (ss_no (by rw [HW.out.2.2.2]; exact hbb)), HW.out.2.2.2⟩
            clear HW hbb
            generalize wr.drewN q = W1 at H1 ⊢
            have hstep := pin_step a b s i di t H1.out.2.2.1
            rw [H1.out.2.2.2] at hstep
            by_cases htb2 : t = b
            · have hgd : ((t : Int) == (b : Int)) = true := by rw [htb2]; simp
              have HP : Hid (partialInsertionSort ltInt d a b = (di, true)) := by show _ = _; rw [HE.out, hstep, if_pos htb2]
              clear hstep htb2
              go_wp2_with fail
              go_ret
              rw [HP.out]
              exact ⟨rfl, H1.out.2.1, H1.out.1⟩
            · have hgd : ((t : Int) == (b : Int)) = false := by rw [beq_eq_false_iff_ne]; omega
              rw [if_neg htb2] at hstep
              obtain ⟨l, hl⟩ : ∃ l, b - a = l := ⟨_, rfl⟩
              have el : (b : Int) - (a : Int) = (l : Int) := by omega
              rw [hl] at hstep
              by_cases h50 : l < 50
              · have hgd2 : decide ((l : Int) < 50) = true := decide_eq_true (by omega)
                have HP : Hid (partialInsertionSort ltInt d a b = (di, false)) := by show _ = _; rw [HE.out, hstep, if_pos h50]
                clear hstep hl
                go_wp2_with fail
                go_ret
                rw [HP.out]
                exact ⟨rfl, H1.out.2.1, H1.out.1⟩
              · have hgd2 : decide ((l : Int) < 50) = false := decide_eq_false (by omega)
                rw [if_neg h50] at hstep
                obtain ⟨d1, hd1⟩ : ∃ d1, swp di t t1 = d1 := ⟨_, rfl⟩
                obtain ⟨d2, hd2⟩ : ∃ d2, (if t - a ≥ 2 then shiftDown ltInt t1 d1 else d1) = d2 := ⟨_, rfl⟩
                obtain ⟨d3, hd3⟩ : ∃ d3, (if b - t ≥ 2 then shiftUp ltInt b (t + 1) d2 else d2) = d3 := ⟨_, rfl⟩
                rw [hd1, hd2, hd3] at hstep
                have tn : t < n := by omega
                obtain ⟨xa, hxa, s1, f1, ia, ja⟩ := hb_at H1.out.2.1 hz hn t tn
                obtain ⟨xb, hxb, s0, f0, ib, jb⟩ := hb_at H1.out.2.1 hz hn t1 ht1n
                obtain ⟨u, hst⟩ := st_any s1 s0 (.int .u8 xb)
                have hkw : k < W1.heap.size := lt_of_cell s0
                have HF : Hid (Mv k w ((W1.setCell ⟨k, t, none⟩ (.int .u8 xb)).setCell ⟨k, t1, none⟩ (.int .u8 xa)).drew ∧ HB ((W1.setCell ⟨k, t, none⟩ (.int .u8 xb)).setCell ⟨k, t1, none⟩ (.int .u8 xa)).drew k d1 ∧ d1.size = n) := hd1 ▸ sw_drew H1.out.1 H1.out.2.1 hz tn ht1n hxa hxb
                have HP : Hid (partialInsertionSort ltInt d a b = partialIns ltInt a b s t d3) := by show _ = _; rw [HE.out, hstep]
                have HD2 : Hid ((if t - a ≥ 2 then shiftDown ltInt t1 d1 else d1) = d2) := hd2
                have HD3 : Hid ((if b - t ≥ 2 then shiftUp ltInt b (t + 1) d2 else d2) = d3) := hd3
                obtain ⟨m, hm⟩ : ∃ m, t - a = m := ⟨_, rfl⟩
                have em : (t : Int) - (a : Int) = (m : Int) := by omega
                obtain ⟨m2, hm2⟩ : ∃ m2, b - t = m2 := ⟨_, rfl⟩
                have em2 : (b : Int) - (t : Int) = (m2 : Int) := by omega
                obtain ⟨t2, ht2⟩ : ∃ t2, t + 1 = t2 := ⟨_, rfl⟩
                have et2 : (t : Int) + 1 = (t2 : Int) := by omega
                have HM : Hid (t - a = m ∧ b - t = m2 ∧ t + 1 = t2) := ⟨hm, hm2, ht2⟩
                have at1 : a ≤ t1 := by omega
                have t2b : t2 ≤ b := by omega
                have tt2 : t < t2 := by omega
                clear hstep hd1 hd2 hd3 hxa hxb hl HE hm hm2 ht2 htb2
                go_wp2_with fail
                go_region
                clear s0 s1 f0 f1 hst hkw H1
                generalize ((W1.setCell ⟨k, t, none⟩ (.int .u8 xb)).setCell ⟨k, t1, none⟩ (.int .u8 xa)).drew = W2 at HF ⊢
                go_upto_if 61 with fail
                go_cut [] (fun wc => Mv k w wc ∧ HB wc k d2 ∧ d2.size = n)
                case first =>
                  by_cases hm2' : 2 ≤ m
                  · have hgd3 : decide ((2 : Int) ≤ (m : Int)) = true := decide_eq_true (by omega)
                    have HX : Hid (shiftDown ltInt t1 d1 = d2) := by show _ = _; rw [← HD2.out, if_pos (by rw [HM.out.1]; exact hm2')]
                    go_wp2_with fail
                    go_loopg [9] (n + 1) (fun g jv wr3 => ∃ (j : Nat) (dj : Array Int), jv = .int .i64 j ∧ j < n ∧ j ≤ g ∧ Mv k w wr3 ∧ HB wr3 k dj ∧ shiftDown ltInt j dj = d2 ∧ dj.size = n)
                    case atStart => exact ⟨t1, d1, rfl, ht1n, by omega, HF.out.1, HF.out.2.1, HX.out, HF.out.2.2⟩
                    case round =>
                      obtain ⟨j, dj, rfl, hjn, hjg, hmv, hH, hs, hzj⟩ := hrel
                      cases j with
                      | zero =>
                        have HK : Hid (Mv k w wr ∧ HB wr k d2 ∧ d2.size = n) := by
                          have e : dj = d2 := hs
                          rw [← e]
                          exact ⟨hmv, hH, hzj⟩
                        clear hmv hH hs
                        go_wp2_with fail
                        go_meet
                        exact HK.out
                      | succ j1 =>
                        obtain ⟨j, hj⟩ : ∃ j, j1 + 1 = j := ⟨_, rfl⟩
                        have ej : (j : Int) - 1 = (j1 : Int) := by omega
                        rw [hj] at hjn hjg hs ⊢
                        have hge : decide ((1 : Int) ≤ (j : Int)) = true := decide_eq_true (by omega)
                        have j1n : j1 < n := by omega
                        obtain ⟨ya, hya, s1, f1, ia, ja⟩ := hb_at hH hzj hn j hjn
                        obtain ⟨yb, hyb, s0, f0, ib, jb⟩ := hb_at hH hzj hn j1 j1n
                        obtain ⟨u, hst⟩ := st_any s1 s0 (.int .u8 yb)
                        have hst2 := st_drewN hst
                        have hkw : k < wr.heap.size := lt_of_cell s0
                        have HJ : Hid (Mv k w wr ∧ HB wr k dj ∧ shiftDown ltInt j dj = d2 ∧ dj.size = n ∧ dj[j]! = ya ∧ dj[j1]! = yb ∧ j1 + 1 = j) := ⟨hmv, hH, hs, hzj, hya, hyb, hj⟩
                        have z1 : gk - 1 < gk := by omega
                        have z2 : j1 ≤ gk - 1 := by omega
                        clear hmv hH hs hya hyb hj
                        cases hlt : ltInt ya yb with
                        | true =>
                          have HN : Hid (shiftDown ltInt j1 (swp dj j j1) = d2) := by
                            obtain ⟨h1, h2, h3, h4, h5, h6, h7⟩ := HJ.out
                            show _ = _
                            rw [← h3, ← h7, shiftDown, h7, h5, h6, hlt]
                            rfl
                          go_wp2_with fail
                          go_quiet (exact (less_as hlt _).mono fun _ _ h => ⟨h.1, _, h.2⟩)
                          go_wp2_with fail
                          go_region
                          go_wp2_with fail
                          go_roundg (gk - 1)
                          case measure => exact z1
                          case rel =>
                            obtain ⟨h1, h2, h3, h4, h5, h6, h7⟩ := HJ.out
                            exact ⟨j1, swp dj j j1, rfl, j1n, z2, (sw_drewN h1 h2 h4 hjn j1n h5 h6 _).1, (sw_drewN h1 h2 h4 hjn j1n h5 h6 _).2.1, HN.out, (sw_drewN h1 h2 h4 hjn j1n h5 h6 0).2.2⟩
                        | false =>
                          have HN : Hid (dj = d2) := by
                            obtain ⟨h1, h2, h3, h4, h5, h6, h7⟩ := HJ.out
                            show _ = _
                            rw [← h3, ← h7, shiftDown, h7, h5, h6, hlt]
                            rfl
                          go_wp2_with fail
                          go_quiet (exact (less_as hlt _).mono fun _ _ h => ⟨h.1, _, h.2⟩)
                          go_wp2_with fail
                          go_meet
                          obtain ⟨h1, h2, h3, h4, h5, h6, h7⟩ := HJ.out
                          exact ⟨h1.drewN _, HN.out ▸ hb_drewN h2 _, HN.out ▸ h4⟩
                  · have hgd3 : decide ((2 : Int) ≤ (m : Int)) = false := decide_eq_false (by omega)
                    have HX : Hid (d1 = d2) := by show _ = _; rw [← HD2.out, if_neg (by rw [HM.out.1]; exact hm2')]
                    go_wp2_with fail
                    go_meet
                    exact ⟨HF.out.1, HX.out ▸ HF.out.2.1, HX.out ▸ HF.out.2.2⟩
                case rest =>
                  have HC : Hid (Mv k w wc ∧ HB wc k d2 ∧ d2.size = n) := hcut
                  clear hcut HF HD2
                  by_cases hm2' : 2 ≤ m2
                  · have hgd3 : decide ((2 : Int) ≤ (m2 : Int)) = true := decide_eq_true (by omega)
                    have HX : Hid (shiftUp ltInt b t2 d2 = d3) := by show _ = _; rw [← HD3.out, if_pos (by rw [HM.out.2.1]; exact hm2'), HM.out.2.2]
                    go_wp2_with fail
                    go_loopg [10] (n + 1) (fun g jv wr3 => ∃ (j : Nat) (dj : Array Int), jv = .int .i64 j ∧ t < j ∧ j ≤ b ∧ n + 1 ≤ g + j ∧ Mv k w wr3 ∧ HB wr3 k dj ∧ shiftUp ltInt b j dj = d3 ∧ dj.size = n)
                    case atStart => exact ⟨t2, d2, rfl, tt2, t2b, by omega, HC.out.1, HC.out.2.1, HX.out, HC.out.2.2⟩
                    case round =>
                      obtain ⟨j, dj, rfl, htj, hjb, hjg, hmv, hH, hs, hzj⟩ := hrel
                      by_cases hjlt : j < b
                      · obtain ⟨j1, hj1⟩ : ∃ j1, j - 1 = j1 := ⟨_, rfl⟩
                        have ej : (j : Int) - 1 = (j1 : Int) := by omega
                        have hjn : j < n := by omega
                        have j1n : j1 < n := by omega
                        obtain ⟨ya, hya, s1, f1, ia, ja⟩ := hb_at hH hzj hn j hjn
                        obtain ⟨yb, hyb, s0, f0, ib, jb⟩ := hb_at hH hzj hn j1 j1n
                        obtain ⟨u, hst⟩ := st_any s1 s0 (.int .u8 yb)
                        have hst2 := st_drewN hst
                        have hkw : k < wr.heap.size := lt_of_cell s0
                        have HJ : Hid (Mv k w wr ∧ HB wr k dj ∧ shiftUp ltInt b j dj = d3 ∧ dj.size = n ∧ dj[j]! = ya ∧ dj[j1]! = yb ∧ j - 1 = j1) := ⟨hmv, hH, hs, hzj, hya, hyb, hj1⟩
                        have z1 : gk - 1 < gk := by omega
                        have z2 : n + 1 ≤ (gk - 1) + (j + 1) := by omega
                        clear hmv hH hs hya hyb hj1
                        cases hlt : ltInt ya yb with
                        | true =>
                          have HN : Hid (shiftUp ltInt b (j + 1) (swp dj j j1) = d3) := by
                            obtain ⟨h1, h2, h3, h4, h5, h6, h7⟩ := HJ.out
                            have e := shu_go (d := dj) hjlt (by rw [h7, h5, h6]; exact hlt)
                            rw [h7] at e
                            show _ = _
                            rw [← h3, e]
                          go_wp2_with fail
                          go_quiet (exact (less_as hlt _).mono fun _ _ h => ⟨h.1, _, h.2⟩)
                          go_wp2_with fail
                          go_region
                          go_wp2_with fail
                          go_roundg (gk - 1)
                          case measure => exact z1
                          case rel =>
                            obtain ⟨h1, h2, h3, h4, h5, h6, h7⟩ := HJ.out
                            exact ⟨j + 1, swp dj j j1, by go_num, by omega, by omega, z2, (sw_drewN h1 h2 h4 hjn j1n h5 h6 _).1, (sw_drewN h1 h2 h4 hjn j1n h5 h6 _).2.1, HN.out, (sw_drewN h1 h2 h4 hjn j1n h5 h6 0).2.2⟩
                        | false =>
                          have HN : Hid (dj = d3) := by
                            obtain ⟨h1, h2, h3, h4, h5, h6, h7⟩ := HJ.out
                            have e := shu_stop (b := b) (j := j) (d := dj) (by rw [h7, h5, h6]; exact hlt)
                            show _ = _
                            rw [← h3, e]
                          go_wp2_with fail
                          go_quiet (exact (less_as hlt _).mono fun _ _ h => ⟨h.1, _, h.2⟩)
                          go_wp2_with fail
                          obtain ⟨h1, h2, h3, h4, h5, h6, h7⟩ := HJ.out
                          go_roundg s
                          case measure => omega
                          case rel => exact ⟨t, c + 1, d3, rfl, by go_num, by omega, by omega, htb, h1.drewN _, HN.out ▸ hb_drewN h2 _, HP.out, HN.out ▸ h4⟩
                      · have hgd4 : decide ((j : Int) < (b : Int)) = false := decide_eq_false (by omega)
                        have HK : Hid (Mv k w wr ∧ HB wr k d3 ∧ d3.size = n) := by
                          have e : dj = d3 := (shu_end (d := dj) hjlt).symm.trans hs
                          rw [← e]
                          exact ⟨hmv, hH, hzj⟩
                        clear hmv hH hs
                        go_wp2_with fail
                        go_roundg s
                        case measure => omega
                        case rel => exact ⟨t, c + 1, d3, rfl, by go_num, by omega, by omega, htb, HK.out.1, HK.out.2.1, HP.out, HK.out.2.2⟩
                  · have hgd3 : decide ((2 : Int) ≤ (m2 : Int)) = false := decide_eq_false (by omega)
                    have HX : Hid (d2 = d3) := by show _ = _; rw [← HD3.out, if_neg (by rw [HM.out.2.1]; exact hm2')]
                    go_wp2_with fail
                    go_roundg s
                    case measure => omega
                    case rel => exact ⟨t, c + 1, d3, rfl, by go_num, by omega, by omega, htb, HC.out.1, HX.out ▸ HC.out.2.1, HP.out, HX.out ▸ HC.out.2.2⟩
end Go.Proofs.Ytfkhpcgccjlpgaa
