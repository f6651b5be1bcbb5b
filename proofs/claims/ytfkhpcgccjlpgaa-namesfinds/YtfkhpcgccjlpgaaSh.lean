/- reverseRangeOrdered, siftDownOrdered, heapSortOrdered, at bytes. -/
import Derived.Test.YtfkhpcgccjlpgaaSb
namespace Go.Proofs.Ytfkhpcgccjlpgaa
open Go.RowKit Go.Sort

theorem reverseLoop_lt {i j : Nat} (d : Array Int) (h : i < j) : reverseLoop i j d = reverseLoop (i + 1) (j - 1) (swp d i j) := by
  conv => lhs; rw [reverseLoop]
  rw [if_pos h]
theorem reverseLoop_ge {i j : Nat} (d : Array Int) (h : ¬ i < j) : reverseLoop i j d = d := by rw [reverseLoop, if_neg h]

set_option maxHeartbeats 1000000 in
theorem rev_walk (k n cap : Nat) (d : Array Int) (a b : Nat) (w : World) (hd : d.size = n) (hn : n ≤ 100000) (hH : HB w k d) (hb : b ≤ n) (hab : a < b) :
    Calls Try.prog 36 #[.slice (some ⟨k, 0, none⟩) n cap, .int .i64 a, .int .i64 b] w fun e w' => e = .returned (.tuple #[]) ∧ HB w' k (reverseRange d a b) ∧ Mv k w w' := by
  obtain ⟨b1, hb1⟩ : ∃ b1, b = b1 + 1 := ⟨b - 1, by omega⟩
  have hbw : (b : Int) - 1 = (b1 : Int) := by omega
  have HS : Hid (HB w k d ∧ reverseLoop a b1 d = reverseRange d a b ∧ d.size = n) := ⟨hH, by rw [reverseRange, hb1]; rfl, hd⟩
  clear hH hd
  go_enter Try.func36, Try.ntmps36
  go_wp2_with fail
  go_loopw [6, 7] (fun iv jv wr => ∃ (i j : Nat) (di : Array Int), iv = .int .i64 i ∧ jv = .int .i64 j ∧ i ≤ n ∧ j < n ∧ Mv k w wr ∧ HB wr k di ∧ reverseLoop i j di = reverseRange d a b ∧ di.size = n) (fun iv _ _ => n + 1 - (intOf iv).toNat)
  case atStart => exact ⟨a, b1, d, rfl, rfl, by omega, by omega, Mv.refl _ _, HS.out⟩
  case round =>
    obtain ⟨i, j, di, rfl, rfl, hi, hj, hmv, hH, he, hz⟩ := hrel
    clear HS
    by_cases hij : i < j
    · obtain ⟨q, hq⟩ : ∃ q, j = q + 1 := ⟨j - 1, by omega⟩
      have hw2 : (j : Int) - 1 = (q : Int) := by omega
      obtain ⟨x, hx, c1, f1, i1, i2⟩ := hb_at hH hz hn i (by omega)
      obtain ⟨y, hy, c0, f0, i3, i4⟩ := hb_at hH hz hn j (by omega)
      have HJ : Hid (Mv k w wr ∧ HB wr k di ∧ reverseLoop i j di = reverseRange d a b ∧ di.size = n ∧ di[i]! = x ∧ di[j]! = y ∧ j = q + 1) := ⟨hmv, hH, he, hz, hx, hy, hq⟩
      clear hmv hH he hz hx hy hq
      have hkr : k < wr.heap.size := lt_of_cell c0
      go_wp2_with fail
      go_region
      have HK : Hid (∃ dk, Mv k w ((wr.setCell ⟨k, i, none⟩ (.int .u8 y)).setCell ⟨k, j, none⟩ (.int .u8 x)).drew ∧ HB ((wr.setCell ⟨k, i, none⟩ (.int .u8 y)).setCell ⟨k, j, none⟩ (.int .u8 x)).drew k dk ∧ reverseLoop (i + 1) q dk = reverseRange d a b ∧ dk.size = n) := by
        obtain ⟨h1, h2, h3, h4, h5, h6, h7⟩ := HJ.out
        obtain ⟨g1, g2, g3⟩ := sw_drew h1 h2 h4 (show i < n by omega) hj h5 h6
        refine ⟨swp di i j, g1, g2, ?_, g3⟩
        rw [← h3, reverseLoop_lt _ hij, h7]
        rfl
      clear HJ c0 c1 f0 f1
      generalize ((wr.setCell ⟨k, i, none⟩ (.int .u8 y)).setCell ⟨k, j, none⟩ (.int .u8 x)).drew = W at HK ⊢
      go_wp2_with fail
      obtain ⟨dk, h1, h2, h3, h4⟩ := HK.out
      exact ⟨⟨i + 1, q, dk, by go_num, rfl, by omega, by omega, h1, h2, h3, h4⟩, by simp [intOf]; omega⟩
    · have hg : decide ((i : Int) < (j : Int)) = false := decide_eq_false (by omega)
      have HJ : Hid (Mv k w wr ∧ HB wr k di ∧ reverseLoop i j di = reverseRange d a b) := ⟨hmv, hH, he⟩
      clear hmv hH he hz
      go_wp2_with fail
      refine bodyPost_end (results_none rfl _ _ _) rfl ⟨rfl, ?_, HJ.out.1⟩
      rw [← HJ.out.2.2, reverseLoop_ge _ hij]
      exact HJ.out.2.1

theorem sift_stop {hi f r : Nat} (d : Array Int) (h : 2 * r + 1 ≥ hi) : siftDown ltInt hi f r d = d := by rw [siftDown, dif_pos h]
theorem sift_right {hi f r : Nat} (d : Array Int) (h : 2 * r + 1 + 1 < hi) (hl : ltInt d[f + (2 * r + 1)]! d[f + (2 * r + 1) + 1]! = true) :
    siftDown ltInt hi f r d = if ltInt d[f + r]! d[f + (2 * r + 2)]! = true then siftDown ltInt hi f (2 * r + 2) (swp d (f + r) (f + (2 * r + 2))) else d := by
  conv => lhs; rw [siftDown]
  rw [dif_neg (by omega), if_pos (by simp [h, hl]), dif_pos (by omega)]
  cases ltInt d[f + r]! d[f + (2 * r + 2)]! <;> simp
theorem sift_left {hi f r : Nat} (d : Array Int) (h0 : 2 * r + 1 < hi) (hl : 2 * r + 1 + 1 < hi → ltInt d[f + (2 * r + 1)]! d[f + (2 * r + 1) + 1]! = false) :
    siftDown ltInt hi f r d = if ltInt d[f + r]! d[f + (2 * r + 1)]! = true then siftDown ltInt hi f (2 * r + 1) (swp d (f + r) (f + (2 * r + 1))) else d := by
  conv => lhs; rw [siftDown]
  rw [dif_neg (by omega), if_neg (by
    simp only [Bool.and_eq_true, decide_eq_true_eq, not_and, Bool.not_eq_true]
    exact hl)]
  cases ltInt d[f + r]! d[f + (2 * r + 1)]! <;> simp

set_option maxHeartbeats 2000000 in
theorem sift_walk (k n cap : Nat) (d : Array Int) (r0 hi f : Nat) (w : World) (hd : d.size = n) (hn : n ≤ 100000) (hH : HB w k d) (hb : f + hi ≤ n) (hr : r0 ≤ n) :
    Calls Try.prog 43 #[.slice (some ⟨k, 0, none⟩) n cap, .int .i64 r0, .int .i64 hi, .int .i64 f] w fun e w' => e = .returned (.tuple #[]) ∧ HB w' k (siftDown ltInt hi f r0 d) ∧ Mv k w w' := by
  have HS : Hid (HB w k d ∧ d.size = n) := ⟨hH, hd⟩
  clear hH hd
  go_enter Try.func43, Try.ntmps43
  go_wp2_with fail
  go_loopw [8] (fun rv wr => ∃ (r : Nat) (di : Array Int), rv = .int .i64 r ∧ r ≤ n ∧ Mv k w wr ∧ HB wr k di ∧ siftDown ltInt hi f r di = siftDown ltInt hi f r0 d ∧ di.size = n) (fun rv _ => n + 1 - (intOf rv).toNat)
  case atStart => exact ⟨r0, d, rfl, hr, Mv.refl _ _, HS.out.1, rfl, HS.out.2⟩
  case round =>
    obtain ⟨r, di, rfl, hrn, hmv, hH, he, hz⟩ := hrel
    clear HS
    obtain ⟨m, hm⟩ : ∃ m, 2 * r = m := ⟨_, rfl⟩
    obtain ⟨c, hc⟩ : ∃ c, m + 1 = c := ⟨_, rfl⟩
    obtain ⟨c1, hc1⟩ : ∃ c1, c + 1 = c1 := ⟨_, rfl⟩
    have e1 : 2 * (r : Int) = (m : Int) := by omega
    have e2 : (m : Int) + 1 = (c : Int) := by omega
    have e3 : (c : Int) + 1 = (c1 : Int) := by omega
    have w1 : IntKind.i64.wrap (m : Int) = (m : Int) := by rw [IntKind.wrap_i64]; omega
    have w2 : IntKind.i64.wrap (c : Int) = (c : Int) := by rw [IntKind.wrap_i64]; omega
    have w3 : IntKind.i64.wrap (c1 : Int) = (c1 : Int) := by rw [IntKind.wrap_i64]; omega
    by_cases h1 : hi ≤ c
    · have hg : decide ((hi : Int) ≤ (c : Int)) = true := decide_eq_true (by omega)
      have HJ : Hid (Mv k w wr ∧ HB wr k di ∧ siftDown ltInt hi f r di = siftDown ltInt hi f r0 d) := ⟨hmv, hH, he⟩
      have hs := sift_stop (hi := hi) (f := f) (r := r) di (by omega)
      have HSt : Hid (siftDown ltInt hi f r di = di) := hs
      clear hmv hH he hz hs
      go_wp2_with fail
      refine bodyPost_end (results_none rfl _ _ _) rfl ⟨rfl, ?_, HJ.out.1⟩
      rw [← HJ.out.2.2, HSt.out]
      exact HJ.out.2.1
    · have hg : decide ((hi : Int) ≤ (c : Int)) = false := decide_eq_false (by omega)
      obtain ⟨e, hfe⟩ : ∃ e, f + c = e := ⟨_, rfl⟩
      obtain ⟨e1, hfe1⟩ : ∃ e1, e + 1 = e1 := ⟨_, rfl⟩
      obtain ⟨g, hfg⟩ : ∃ g, f + r = g := ⟨_, rfl⟩
      have q1 : (f : Int) + (c : Int) = (e : Int) := by omega
      have q2 : (e : Int) + 1 = (e1 : Int) := by omega
      have q3 : (f : Int) + (c1 : Int) = (e1 : Int) := by omega
      have q4 : (f : Int) + (r : Int) = (g : Int) := by omega
      obtain ⟨z, hz0, a0, b0, p1, p2⟩ := hb_at hH hz hn g (by omega)
      obtain ⟨x, hx, a1, b1, p3, p4⟩ := hb_at hH hz hn e (by omega)
      have hkr : k < wr.heap.size := lt_of_cell a0
      by_cases h2 : c1 < hi
      · have hg2 : decide ((c1 : Int) < (hi : Int)) = true := decide_eq_true (by omega)
        obtain ⟨y, hy, a2, b2, p5, p6⟩ := hb_at hH hz hn e1 (by omega)
        cases hl : ltInt x y with
        | true =>
          have HJ : Hid (Mv k w wr ∧ HB wr k di ∧ siftDown ltInt hi f r di = siftDown ltInt hi f r0 d ∧ di.size = n ∧ di[g]! = z ∧ di[e1]! = y ∧ siftDown ltInt hi f r di = if ltInt z y = true then siftDown ltInt hi f c1 (swp di g e1) else di) := ⟨hmv, hH, he, hz, hz0, hy, by rw [← hz0, ← hy]; exact (by have := sift_right (hi := hi) (f := f) (r := r) di (by omega) (by rw [hm, hc, hfe, hfe1, hx, hy]; exact hl); rw [show 2 * r + 2 = c1 by omega, hfg, show f + c1 = e1 by omega] at this; exact this)⟩
          have HN : Hid (g < n ∧ e1 < n ∧ c1 ≤ n ∧ r < c1) := ⟨by omega, by omega, by omega, by omega⟩
          clear hmv hH he hz hx hy hz0 hm hc hc1 hfe hfe1 hfg
          cases hl2 : ltInt z y with
          | true =>
            go_wp2_with fail
            go_quiet (exact Calls.quiet_of_same (less_as hl _))
            go_wp2_with fail
            go_quiet (exact (less_as hl2 _).mono fun _ _ h => ⟨h.1, _, h.2⟩)
            go_wp2_with fail
            go_region
            go_wp2_with fail
            obtain ⟨h1, h2, h3, h4, h5, h6, h7⟩ := HJ.out
            obtain ⟨n1, n2, n3, n4⟩ := HN.out
            refine ⟨⟨c1, swp di g e1, rfl, n3, (sw_drewN h1 h2 h4 n1 n2 h5 h6 _).1, (sw_drewN h1 h2 h4 n1 n2 h5 h6 _).2.1, ?_, (sw_drewN h1 h2 h4 n1 n2 h5 h6 0).2.2⟩, by simp [intOf]; omega⟩
            rw [← h3, h7, hl2, if_pos rfl]
          | false =>
            go_wp2_with fail
            go_quiet (exact Calls.quiet_of_same (less_as hl _))
            go_wp2_with fail
            go_quiet (exact (less_as hl2 _).mono fun _ _ h => ⟨h.1, _, h.2⟩)
            go_wp2_with fail
            obtain ⟨h1, h2, h3, h4, h5, h6, h7⟩ := HJ.out
            refine bodyPost_ret (results_none rfl _ _ _) rfl ⟨rfl, ?_, (h1.drewN _).drewN _⟩
            rw [← h3, h7, hl2, if_neg (by decide)]
            exact hb_drewN (hb_drewN h2 _) _
        | false =>
          have HJ : Hid (Mv k w wr ∧ HB wr k di ∧ siftDown ltInt hi f r di = siftDown ltInt hi f r0 d ∧ di.size = n ∧ di[g]! = z ∧ di[e]! = x ∧ siftDown ltInt hi f r di = if ltInt z x = true then siftDown ltInt hi f c (swp di g e) else di) := ⟨hmv, hH, he, hz, hz0, hx, by rw [← hz0, ← hx]; exact (by have := sift_left (hi := hi) (f := f) (r := r) di (by omega) (fun _ => by rw [hm, hc, hfe, hfe1, hx, hy]; exact hl); rw [hm, hc, hfe, hfg] at this; exact this)⟩
          have HN : Hid (g < n ∧ e < n ∧ c ≤ n ∧ r < c) := ⟨by omega, by omega, by omega, by omega⟩
          clear hmv hH he hz hx hy hz0 hm hc hc1 hfe hfe1 hfg
          cases hl2 : ltInt z x with
          | true =>
            go_wp2_with fail
            go_quiet (exact Calls.quiet_of_same (less_as hl _))
            go_wp2_with fail
            go_quiet (exact (less_as hl2 _).mono fun _ _ h => ⟨h.1, _, h.2⟩)
            go_wp2_with fail
            go_region
            go_wp2_with fail
            obtain ⟨h1, h2, h3, h4, h5, h6, h7⟩ := HJ.out
            obtain ⟨n1, n2, n3, n4⟩ := HN.out
            refine ⟨⟨c, swp di g e, rfl, n3, (sw_drewN h1 h2 h4 n1 n2 h5 h6 _).1, (sw_drewN h1 h2 h4 n1 n2 h5 h6 _).2.1, ?_, (sw_drewN h1 h2 h4 n1 n2 h5 h6 0).2.2⟩, by simp [intOf]; omega⟩
            rw [← h3, h7, hl2, if_pos rfl]
          | false =>
            go_wp2_with fail
            go_quiet (exact Calls.quiet_of_same (less_as hl _))
            go_wp2_with fail
            go_quiet (exact (less_as hl2 _).mono fun _ _ h => ⟨h.1, _, h.2⟩)
            go_wp2_with fail
            obtain ⟨h1, h2, h3, h4, h5, h6, h7⟩ := HJ.out
            refine bodyPost_ret (results_none rfl _ _ _) rfl ⟨rfl, ?_, (h1.drewN _).drewN _⟩
            rw [← h3, h7, hl2, if_neg (by decide)]
            exact hb_drewN (hb_drewN h2 _) _
      · have hg2 : decide ((c1 : Int) < (hi : Int)) = false := decide_eq_false (by omega)
        have HJ : Hid (Mv k w wr ∧ HB wr k di ∧ siftDown ltInt hi f r di = siftDown ltInt hi f r0 d ∧ di.size = n ∧ di[g]! = z ∧ di[e]! = x ∧ siftDown ltInt hi f r di = if ltInt z x = true then siftDown ltInt hi f c (swp di g e) else di) := ⟨hmv, hH, he, hz, hz0, hx, by rw [← hz0, ← hx]; exact (by have := sift_left (hi := hi) (f := f) (r := r) di (by omega) (fun h => by omega); rw [hm, hc, hfe, hfg] at this; exact this)⟩
        have HN : Hid (g < n ∧ e < n ∧ c ≤ n ∧ r < c) := ⟨by omega, by omega, by omega, by omega⟩
        clear hmv hH he hz hx hz0 hm hc hc1 hfe hfe1 hfg
        cases hl2 : ltInt z x with
        | true =>
          go_wp2_with fail
          go_quiet (fail)
          go_wp2_with fail
          go_quiet (exact (less_as hl2 _).mono fun _ _ h => ⟨h.1, _, h.2⟩)
          go_wp2_with fail
          go_region
          go_wp2_with fail
          obtain ⟨h1, h2, h3, h4, h5, h6, h7⟩ := HJ.out
          obtain ⟨n1, n2, n3, n4⟩ := HN.out
          refine ⟨⟨c, swp di g e, rfl, n3, (sw_drewN h1 h2 h4 n1 n2 h5 h6 _).1, (sw_drewN h1 h2 h4 n1 n2 h5 h6 _).2.1, ?_, (sw_drewN h1 h2 h4 n1 n2 h5 h6 0).2.2⟩, by simp [intOf]; omega⟩
          rw [← h3, h7, hl2, if_pos rfl]
        | false =>
          go_wp2_with fail
          go_quiet (fail)
          go_wp2_with fail
          go_quiet (exact (less_as hl2 _).mono fun _ _ h => ⟨h.1, _, h.2⟩)
          go_wp2_with fail
          obtain ⟨h1, h2, h3, h4, h5, h6, h7⟩ := HJ.out
          refine bodyPost_ret (results_none rfl _ _ _) rfl ⟨rfl, ?_, (h1.drewN _).drewN _⟩
          rw [← h3, h7, hl2, if_neg (by decide)]
          exact hb_drewN (hb_drewN h2 _) _

theorem sift_size (hi f r : Nat) (d : Array Int) : (siftDown ltInt hi f r d).size = d.size := by
  fun_induction siftDown ltInt hi f r d <;> simp_all [swp]

set_option maxHeartbeats 2000000 in
theorem heap_walk (k n cap : Nat) (d : Array Int) (a b : Nat) (w : World) (hd : d.size = n) (hn : n ≤ 100000) (hH : HB w k d) (hb : b ≤ n) (hab : a < b) :
    Calls Try.prog 33 #[.slice (some ⟨k, 0, none⟩) n cap, .int .i64 a, .int .i64 b] w fun e w' => e = .returned (.tuple #[]) ∧ HB w' k (heapSort ltInt d a b) ∧ Mv k w w' := by
  obtain ⟨h, hh⟩ : ∃ h, b = a + h := ⟨b - a, by omega⟩
  obtain ⟨h1, hh1⟩ : ∃ h1, h = h1 + 1 := ⟨h - 1, by omega⟩
  have e1 : (b : Int) - (a : Int) = (h : Int) := by omega
  have e2 : (h : Int) - 1 = (h1 : Int) := by omega
  obtain ⟨q, hq⟩ : ∃ q, h1 / 2 = q := ⟨_, rfl⟩
  have e3 : (h1 : Int).tdiv 2 = (q : Int) := by rw [Int.tdiv_eq_ediv_of_nonneg (by omega)]; omega
  have HS : Hid (HB w k d ∧ d.size = n ∧ heapSort ltInt d a b = heapPop ltInt a h (heapBuild ltInt h a (q + 1) d)) := ⟨hH, hd, by rw [heapSort, show b - a = h by omega, show h - 1 = h1 by omega, hq]⟩
  have hqn : q ≤ n := by omega
  have hhn : a + h ≤ n := by omega
  clear hH hd hq hh hh1
  go_enter Try.func33, Try.ntmps33
  go_wp2_with fail
  go_loopw [9] (fun iv wr => ∃ (s : Nat) (di : Array Int), iv = .int .i64 ((s : Int) - 1) ∧ s ≤ n + 1 ∧ Mv k w wr ∧ HB wr k di ∧ heapBuild ltInt h a s di = heapBuild ltInt h a (q + 1) d ∧ di.size = n) (fun iv _ => (intOf iv + 1).toNat)
  case atStart => exact ⟨q + 1, d, by go_num, by omega, Mv.refl _ _, HS.out.1, rfl, HS.out.2.1⟩
  case round =>
    obtain ⟨s, di, rfl, hs, hmv, hH, he, hz⟩ := hrel
    cases s with
    | zero =>
      have HB1 : Hid (Mv k w wr ∧ HB wr k di ∧ di = heapBuild ltInt h a (q + 1) d ∧ di.size = n) := ⟨hmv, hH, he, hz⟩
      clear hmv hH he hz
      rw [show ((0 : Nat) : Int) - 1 = -1 from rfl]
      go_wp2_with fail
      go_loopw [10] (fun iv wr2 => ∃ (s : Nat) (dj : Array Int), iv = .int .i64 ((s : Int) - 1) ∧ s ≤ h ∧ Mv k w wr2 ∧ HB wr2 k dj ∧ heapPop ltInt a s dj = heapPop ltInt a h di ∧ dj.size = n) (fun iv _ => (intOf iv + 1).toNat)
      case atStart => exact ⟨h, di, by rw [e2], Nat.le_refl _, HB1.out.1, HB1.out.2.1, rfl, HB1.out.2.2.2⟩
      case round =>
        obtain ⟨s, dj, rfl, hs2, hmv, hH, he, hz⟩ := hrel
        cases s with
        | zero =>
          have HB2 : Hid (Mv k w wr ∧ HB wr k dj ∧ dj = heapPop ltInt a h di) := ⟨hmv, hH, he⟩
          clear hmv hH he hz
          rw [show ((0 : Nat) : Int) - 1 = -1 from rfl]
          go_wp2_with fail
          refine bodyPost_end (results_none rfl _ _ _) rfl ⟨rfl, ?_, HB2.out.1⟩
          rw [HS.out.2.2, ← HB1.out.2.2.1, ← HB2.out.2.2]
          exact HB2.out.2.1
        | succ s =>
          rw [show ((s + 1 : Nat) : Int) - 1 = (s : Int) by omega]
          obtain ⟨g, hg⟩ : ∃ g, a + s = g := ⟨_, rfl⟩
          have e5 : (a : Int) + (s : Int) = (g : Int) := by omega
          obtain ⟨x, hx, c1, f1, i1, i2⟩ := hb_at hH hz hn a (by omega)
          obtain ⟨y, hy, c0, f0, i3, i4⟩ := hb_at hH hz hn g (by omega)
          have hkr : k < wr.heap.size := lt_of_cell c0
          have HJ : Hid (Mv k w wr ∧ HB wr k dj ∧ heapPop ltInt a (s + 1) dj = heapPop ltInt a h di ∧ dj.size = n ∧ dj[a]! = x ∧ dj[g]! = y ∧ a + s = g) := ⟨hmv, hH, he, hz, hx, hy, hg⟩
          have HN : Hid (a < n ∧ g < n) := ⟨by omega, by omega⟩
          obtain ⟨u, hst⟩ := st_any c1 c0 (.int .u8 y)
          clear hmv hH he hz hx hy hg
          go_wp2_with fail
          go_region
          have HK : Hid (Mv k w ((wr.setCell ⟨k, a, none⟩ (.int .u8 y)).setCell ⟨k, g, none⟩ (.int .u8 x)).drew ∧ HB ((wr.setCell ⟨k, a, none⟩ (.int .u8 y)).setCell ⟨k, g, none⟩ (.int .u8 x)).drew k (swp dj a g) ∧ (swp dj a g).size = n) := sw_drew HJ.out.1 HJ.out.2.1 HJ.out.2.2.2.1 HN.out.1 HN.out.2 HJ.out.2.2.2.2.1 HJ.out.2.2.2.2.2.1
          clear c0 c1 f0 f1 hkr
          generalize ((wr.setCell ⟨k, a, none⟩ (.int .u8 y)).setCell ⟨k, g, none⟩ (.int .u8 x)).drew = W at HK ⊢
          go_wp2_with fail
          refine (sift_walk k n cap (swp dj a g) 0 s a W HK.out.2.2 hn HK.out.2.1 (by omega) (by omega)).mono ?_
          rintro e w2 ⟨rfl, g1, g2⟩
          have HL : Hid (Mv k w w2 ∧ HB w2 k (siftDown ltInt s a 0 (swp dj a g))) := ⟨HK.out.1.trans g2, g1⟩
          clear g1 g2
          go_wp2_with fail
          obtain ⟨h1, h2, h3, h4, h5, h6, h7⟩ := HJ.out
          refine ⟨⟨s, siftDown ltInt s a 0 (swp dj a g), by go_num, by omega, HL.out.1, HL.out.2, ?_, by rw [sift_size]; exact HK.out.2.2⟩, by simp [intOf]⟩
          rw [← h3, heapPop, h7]
    | succ s =>
      rw [show ((s + 1 : Nat) : Int) - 1 = (s : Int) by omega]
      have HJ : Hid (Mv k w wr ∧ HB wr k di ∧ heapBuild ltInt h a (s + 1) di = heapBuild ltInt h a (q + 1) d ∧ di.size = n) := ⟨hmv, hH, he, hz⟩
      clear hmv hH he hz
      go_wp2_with fail
      refine (sift_walk k n cap di s h a wr HJ.out.2.2.2 hn HJ.out.2.1 hhn (by omega)).mono ?_
      rintro e w2 ⟨rfl, g1, g2⟩
      have HL : Hid (Mv k w w2 ∧ HB w2 k (siftDown ltInt h a s di)) := ⟨HJ.out.1.trans g2, g1⟩
      clear g1 g2
      go_wp2_with fail
      obtain ⟨h1, h2, h3, h4⟩ := HJ.out
      refine ⟨⟨s, siftDown ltInt h a s di, by go_num, by omega, HL.out.1, HL.out.2, ?_, by rw [sift_size]; exact h4⟩, by simp [intOf]⟩
      rw [← h3, heapBuild]
end Go.Proofs.Ytfkhpcgccjlpgaa
