/- pdqsortOrdered, at bytes: the part that it is given is put in order. -/
import Derived.Test.YtfkhpcgccjlpgaaSi
import Derived.Test.YtfkhpcgccjlpgaaSh
import Derived.Test.YtfkhpcgccjlpgaaSt
import Derived.Test.YtfkhpcgccjlpgaaSq
import Derived.Test.YtfkhpcgccjlpgaaSk
namespace Go.Proofs.Ytfkhpcgccjlpgaa
open Go.RowKit Go.Sort

theorem mv_of_below {k : Nat} {w w' : World} (b : RowKit.Below w.heap.size w w') : Mv k w w' := ⟨b.os, b.tape, b.output, b.size, fun i hi _ => b.block i hi⟩

/-- The part [a, b) of block k is put in order. -/
def Sorts (k n a b : Nat) (d : Array Int) (w : World) (e : Ending) (w' : World) : Prop :=
  e = .returned (.tuple #[]) ∧ ∃ d', PermIn a b d d' ∧ SortedIn ltInt a b d' ∧ d'.size = n ∧ HB w' k d' ∧ Mv k w w'

/-- What a round of the loop has. -/
structure Rd (k n a b a' b' : Nat) (d dk : Array Int) (w wr : World) : Prop where
  hb : HB wr k dk
  mv : Mv k w wr
  sz : dk.size = n
  lo : Sort.Below ltInt a' b' dk
  done : ∀ R, PermIn a' b' dk R → SortedIn ltInt a' b' R → PermIn a b d R ∧ SortedIn ltInt a b R

theorem Rd.perm {k n a b a' b' : Nat} {d dk d1 : Array Int} {w wr w1 : World} (h : Rd k n a b a' b' d dk w wr) (hp : PermIn a' b' dk d1) (hb : HB w1 k d1) (hm : Mv k w w1) (hn : b' ≤ n) : Rd k n a b a' b' d d1 w w1 where
  hb := hb
  mv := hm
  sz := hp.1.trans h.sz
  lo := h.lo.perm (by rw [h.sz]; exact hn) hp
  done := fun R h1 h2 => h.done R (permIn_trans _ _ _ a' b' hp h1) h2

set_option maxHeartbeats 3200000 in
set_option maxRecDepth 10000 in
theorem pdq_any (k n cap : Nat) (hn : n ≤ 256) : ∀ (m a b lim : Nat) (d : Array Int) (w : World), b - a ≤ m → a ≤ b → b ≤ n → lim ≤ 1000 → d.size = n → HB w k d → k < w.heap.size → Sort.Below ltInt a b d →
    Calls Try.prog 30 #[.slice (some ⟨k, 0, none⟩) n cap, .int .i64 a, .int .i64 b, .int .i64 lim] w (Sorts k n a b d w) := by
  intro m
  induction m using Nat.strongRecOn with
  | _ m ih =>
  intro a b lim d w hm hab hbn hlim hd hH hk hlo
  have HI : Hid (∀ m', m' < m → ∀ (a b lim : Nat) (d : Array Int) (w : World), b - a ≤ m' → a ≤ b → b ≤ n → lim ≤ 1000 → d.size = n → HB w k d → k < w.heap.size → Sort.Below ltInt a b d →
    Calls Try.prog 30 #[.slice (some ⟨k, 0, none⟩) n cap, .int .i64 a, .int .i64 b, .int .i64 lim] w (Sorts k n a b d w)) := ih
  have HS : Hid (Rd k n a b a b d d w w) := ⟨hH, Mv.refl k w, hd, hlo, fun R h1 h2 => ⟨h1, h2⟩⟩
  clear ih hd hH hlo
  go_enter Try.func30, Try.ntmps30
  go_wp2_with fail
  go_loopg [1, 2, 3, 8, 9] (b - a) (fun g s1 s2 s3 s8 s9 wr => ∃ (a' b' lim : Nat) (wb wp : Bool) (dk : Array Int), s1 = .int .i64 a' ∧ s2 = .int .i64 b' ∧ s3 = .int .i64 lim ∧ s8 = .bool wb ∧ s9 = .bool wp ∧ a' ≤ b' ∧ b' ≤ n ∧ b' - a' ≤ g ∧ b' - a' ≤ m ∧ lim ≤ 1000 ∧ Rd k n a b a' b' d dk w wr)
  case atStart => exact ⟨a, b, lim, true, true, d, rfl, rfl, rfl, rfl, rfl, hab, hbn, Nat.le_refl _, hm, hlim, HS.out⟩
  case round =>
    obtain ⟨a', b', lim, wb, wp, dk, rfl, rfl, rfl, rfl, rfl, hab', hbn', hg', hm', hlim', hR⟩ := hrel
    have HR : Hid (Rd k n a b a' b' d dk w wr) := hR
    have hkr : k < wr.heap.size := Nat.lt_of_lt_of_le hk hR.mv.size
    clear hR HS
    obtain ⟨l, hl⟩ : ∃ l, b' - a' = l := ⟨_, rfl⟩
    have el : (b' : Int) - (a' : Int) = (l : Int) := by omega
    have HL : Hid (b' - a' = l) := hl
    have hlg : l ≤ gk := by omega
    have hlm : l ≤ m := by omega
    clear hl hg' hm'
    by_cases h12 : l ≤ 12
    · have hd12 : decide ((l : Int) ≤ 12) = true := decide_eq_true (by omega)
      go_wp2_with fail
      refine (ins_walk k n cap dk a' b' wr HR.out.sz (by omega) HR.out.hb hbn' hab').mono ?_
      rintro e w1 ⟨rfl, g1, g2⟩
      have HF : Hid (∃ d', PermIn a b d d' ∧ SortedIn ltInt a b d' ∧ d'.size = n ∧ HB w1 k d' ∧ Mv k w w1) := by
        have h := insertionSort_holds swo_ltInt dk a' b' hab' (by rw [HR.out.sz]; exact hbn')
        have h2 := HR.out.done _ h.1 h.2
        exact ⟨_, h2.1, h2.2, h.1.1.trans HR.out.sz, g1, HR.out.mv.trans g2⟩
      clear g1 g2
      go_wp2_with fail
      exact bodyPost_ret (results_none rfl _ _ _) rfl ⟨rfl, HF.out⟩
    · have hd12 : decide ((l : Int) ≤ 12) = false := decide_eq_false (by omega)
      have hlt : a' < b' := by have := HL.out; omega
      have hl8 : a' + 8 ≤ b' := by have := HL.out; omega
      by_cases hl0 : lim = 0
      · subst hl0
        go_wp2_with fail
        refine (heap_walk k n cap dk a' b' wr HR.out.sz (by omega) HR.out.hb hbn' hlt).mono ?_
        rintro e w1 ⟨rfl, g1, g2⟩
        have HF : Hid (∃ d', PermIn a b d d' ∧ SortedIn ltInt a b d' ∧ d'.size = n ∧ HB w1 k d' ∧ Mv k w w1) := by
          have h := heapSort_holds swo_ltInt dk a' b' hab' (by rw [HR.out.sz]; exact hbn')
          have h2 := HR.out.done _ h.1 h.2
          exact ⟨_, h2.1, h2.2, h.1.1.trans HR.out.sz, g1, HR.out.mv.trans g2⟩
        clear g1 g2
        go_wp2_with fail
        exact bodyPost_ret (results_none rfl _ _ _) rfl ⟨rfl, HF.out⟩
      · have hz0 : ((lim : Int) == 0) = false := by rw [beq_eq_false_iff_ne]; omega
        obtain ⟨lim1, hlim1⟩ : ∃ lim1, lim - 1 = lim1 := ⟨_, rfl⟩
        have elim : (lim : Int) - 1 = (lim1 : Int) := by omega
        have hlim1' : lim1 ≤ 1000 := by omega
        clear hlim1 hl0
        go_upto_if 35 with fail
        go_cut [3] (fun s3 wc => ∃ (l2 : Nat) (d1 : Array Int), s3 = .int .i64 l2 ∧ l2 ≤ 1000 ∧ Rd k n a b a' b' d d1 w wc)
        case first =>
          cases wb with
          | true =>
            go_wp2_with fail
            go_meet
            exact ⟨lim, dk, rfl, hlim', HR.out⟩
          | false =>
            go_wp2_with fail
            refine (brk_any cap HR.out.sz hn HR.out.hb hkr hbn' hl8).mono ?_
            rintro e w1 ⟨rfl, d1, p1, z1, g1, m1⟩
            have HF : Hid (Rd k n a b a' b' d d1 w w1) := HR.out.perm p1 g1 (HR.out.mv.trans m1) hbn'
            clear p1 z1 g1 m1
            go_wp2_with fail
            go_meet
            exact ⟨lim1, d1, rfl, hlim1', HF.out⟩
        case rest =>
          obtain ⟨l2, d1, rfl, hl2, hR1⟩ := hcut
          have HR1 : Hid (Rd k n a b a' b' d d1 w wc) := hR1
          have hkc : k < wc.heap.size := Nat.lt_of_lt_of_le hk hR1.mv.size
          clear hR1 HR hz0 elim
          have hpiv := piv_any cap HR1.out.sz (show n ≤ 100000 by omega) HR1.out.hb hkc hbn' hl8
          go_upto_if 50 with (go_at_call 35; refine hpiv.mono ?_; rintro e w2 ⟨pv, hint, rfl, q1, q2, q3, q4, q5⟩)
          have HR2 : Hid (Rd k n a b a' b' d d1 w w2) := HR1.out.perm (permIn_refl d1 a' b') q4 (HR1.out.mv.trans (mv_of_below q5)) hbn'
          obtain ⟨b1, hb1⟩ : ∃ b1, b' - 1 = b1 := ⟨_, rfl⟩
          have eb1 : (b' : Int) - 1 = (b1 : Int) := by omega
          obtain ⟨p1, hp1⟩ : ∃ p1, pv - a' = p1 := ⟨_, rfl⟩
          have ep1 : (pv : Int) - (a' : Int) = (p1 : Int) := by omega
          obtain ⟨p2, hp2⟩ : ∃ p2, b1 - p1 = p2 := ⟨_, rfl⟩
          have ep2 : (b1 : Int) - (p1 : Int) = (p2 : Int) := by omega
          have hp2' : a' ≤ p2 ∧ p2 < b' := by omega
          clear hpiv q4 q5 HR1 hkc hb1 hp1 hp2
          go_cut [11, 12] (fun s11 s12 wx => ∃ (pv : Nat) (hint : Int) (d2 : Array Int), s11 = .int .i64 pv ∧ s12 = .int .i64 hint ∧ a' ≤ pv ∧ pv < b' ∧ Rd k n a b a' b' d d2 w wx)
          case first =>
            by_cases hh : hint = 2
            · subst hh
              go_wp2_with fail
              refine (rev_walk k n cap d1 a' b' w2 HR2.out.sz (by omega) HR2.out.hb hbn' hlt).mono ?_
              rintro e w3 ⟨rfl, g1, g2⟩
              have HF : Hid (Rd k n a b a' b' d (reverseRange d1 a' b') w w3) := HR2.out.perm (reverseRange_holds d1 a' b' hab' (by rw [HR2.out.sz]; exact hbn')) g1 (HR2.out.mv.trans g2) hbn'
              clear g1 g2
              go_wp2_with fail
              go_meet
              exact ⟨p2, 1, _, rfl, rfl, hp2'.1, hp2'.2, HF.out⟩
            · have hh2 : (hint == 2) = false := by simpa using hh
              go_wp2_with fail
              go_meet
              exact ⟨pv, hint, d1, rfl, rfl, q1, q2, HR2.out⟩
          case rest =>
            clear q1 q2 q3 eb1 ep1 ep2 hp2' HR2
            obtain ⟨pv, hint, d2, rfl, rfl, q1, q2, hR3⟩ := hcut
            have HR3 : Hid (Rd k n a b a' b' d d2 w wc) := hR3
            clear hR3
            go_upto_region 15 with fail
            go_cut [68] (fun s68 wx => ∃ bb, s68 = .bool bb ∧ wx = wc)
            case first =>
              cases wb with
              | false =>
                go_wp2_with fail
                go_meet
                exact ⟨_, rfl, rfl⟩
              | true =>
                cases wp with
                | false =>
                  go_wp2_with fail
                  go_meet
                  exact ⟨_, rfl, rfl⟩
                | true =>
                  obtain ⟨hb1, hhb⟩ : ∃ hb1, (hint == 1) = hb1 := ⟨_, rfl⟩
                  go_wp2_with fail
                  go_meet
                  exact ⟨_, rfl, rfl⟩
            case rest =>
              obtain ⟨bb, rfl, rfl⟩ := hcut
              go_upto_if 68 with fail
              go_cut [] (fun wx => ∃ d3, Rd k n a b a' b' d d3 w wx)
              case first =>
                cases bb with
                | false =>
                  go_wp2_with fail
                  go_meet
                  exact ⟨d2, HR3.out⟩
                | true =>
                  have hpin := pin_walk k n cap d2 a' b' wc HR3.out.sz (by omega) HR3.out.hb hbn' hlt
                  have hps := partialInsertionSort_holds swo_ltInt d2 a' b' hlt (by rw [HR3.out.sz]; exact hbn') HR3.out.lo
                  obtain ⟨d3, bd, h3⟩ : ∃ d3 bd, partialInsertionSort ltInt d2 a' b' = (d3, bd) := ⟨_, _, rfl⟩
                  rw [h3] at hpin hps
                  simp only at hpin hps
                  have HPS : Hid (PermIn a' b' d2 d3 ∧ (bd = true → SortedIn ltInt a' b' d3)) := hps
                  clear h3 hps
                  go_wp2_with fail
                  refine hpin.mono ?_
                  rintro e w3 ⟨rfl, g1, g2⟩
                  have HF : Hid (Rd k n a b a' b' d d3 w w3) := HR3.out.perm HPS.out.1 g1 (HR3.out.mv.trans g2) hbn'
                  clear g1 g2 hpin
                  cases bd with
                  | true =>
                    have HG : Hid (∃ d', PermIn a b d d' ∧ SortedIn ltInt a b d' ∧ d'.size = n ∧ HB w3 k d' ∧ Mv k w w3) := by
                      have h2 := HF.out.done _ (permIn_refl d3 a' b') (HPS.out.2 rfl)
                      exact ⟨_, h2.1, h2.2, HF.out.sz, HF.out.hb, HF.out.mv⟩
                    go_wp2_with fail
                    exact bodyPost_ret (results_none rfl _ _ _) rfl ⟨rfl, HG.out⟩
                  | false =>
                    go_wp2_with fail
                    go_meet
                    exact ⟨d3, HF.out⟩
              case rest =>
                obtain ⟨d3, hR4⟩ := hcut
                have HR4 : Hid (Rd k n a b a' b' d d3 w wc) := hR4
                have hkc : k < wc.heap.size := Nat.lt_of_lt_of_le hk hR4.mv.size
                clear hR4 HR3
                obtain ⟨a1, ha1⟩ : ∃ a1, a' - 1 = a1 := ⟨_, rfl⟩
                have HA1 : Hid (a' - 1 = a1) := ha1
                have ha1n : a1 < n := by omega
                have hpn : pv < n := by omega
                have ea1 : 0 < a' → (a' : Int) - 1 = (a1 : Int) := fun h => by omega
                clear ha1
                go_upto_region 17 with fail
                go_cut [87] (fun s87 wx => ∃ q, s87 = .bool (decide (0 < a') && !ltInt d3[a1]! d3[pv]!) ∧ wx = wc.drewN q)
                case first =>
                  by_cases h0 : 0 < a'
                  · have hg : decide ((0 : Int) < (a' : Int)) = true := decide_eq_true (by omega)
                    have ea := ea1 h0
                    obtain ⟨xa, hxa, ca, fa, ia, ja⟩ := hb_at HR4.out.hb HR4.out.sz (by omega) a1 ha1n
                    obtain ⟨xb, hxb, cb, fb, ib, jb⟩ := hb_at HR4.out.hb HR4.out.sz (by omega) pv hpn
                    obtain ⟨lb, hlb⟩ : ∃ lb, ltInt xa xb = lb := ⟨_, rfl⟩
                    have HX : Hid ((decide (0 < a') && !ltInt d3[a1]! d3[pv]!) = !lb) := by show _ = _; rw [hxa, hxb, hlb]; simp [h0]
                    clear hxa hxb ea1
                    go_quiet (exact (less_as hlb _).mono fun _ _ h => ⟨h.1, _, h.2⟩)
                    go_wp2_with fail
                    go_meet
                    exact ⟨_, by rw [HX.out], rfl⟩
                  · have hg : decide ((0 : Int) < (a' : Int)) = false := decide_eq_false (by omega)
                    have HX : Hid ((decide (0 < a') && !ltInt d3[a1]! d3[pv]!) = false) := by show _ = _; simp [h0]
                    clear ea1
                    go_quiet (fail)
                    go_wp2_with fail
                    go_meet
                    exact ⟨_, by rw [HX.out], rfl⟩
                case rest =>
                  obtain ⟨q, hu, rfl⟩ := hcut
                  have HR5 : Hid (Rd k n a b a' b' d d3 w (wc.drewN q)) := HR4.out.perm (permIn_refl d3 a' b') (hb_drewN HR4.out.hb _) (HR4.out.mv.drewN _) hbn'
                  have hkd : k < (wc.drewN q).heap.size := hkc
                  clear HR4 hkc ea1
                  generalize wc.drewN q = W5 at HR5 hkd ⊢
                  cases hbb : (decide (0 < a') && !ltInt d3[a1]! d3[pv]!) with
                  | true =>
                    rw [hbb] at hu
                    subst hu
                    have h0 : 0 < a' := by have := (Bool.and_eq_true_iff.1 hbb).1; simpa using this
                    have hnl : ltInt d3[a' - 1]! d3[pv]! = false := by rw [HA1.out]; have := (Bool.and_eq_true_iff.1 hbb).2; simpa using this
                    have hpe := parteq_walk k n cap d3 a' b' pv W5 HR5.out.sz (by omega) HR5.out.hb hbn' q1 q2
                    obtain ⟨mid, d4, h4⟩ : ∃ mid d4, partitionEqual ltInt d3 a' b' pv = (mid, d4) := ⟨_, _, rfl⟩
                    have hre := round_eq swo_ltInt (partitionEqual_holds (lt := ltInt)) h0 q1 q2 (by rw [HR5.out.sz]; exact hbn') HR5.out.lo hnl h4
                    rw [h4] at hpe
                    simp only at hpe
                    have HRE := (show Hid _ from hre)
                    clear hre h4 hnl hbb
                    go_wp2_with fail
                    refine hpe.mono ?_
                    rintro e w6 ⟨rfl, g1, g2⟩
                    have HF : Hid (Rd k n a b mid b' d d4 w w6 ∧ a' < mid ∧ mid ≤ b') := by
                      obtain ⟨r1, r2, r3, r4, r5⟩ := HRE.out
                      exact ⟨⟨g1, HR5.out.mv.trans g2, r3.trans HR5.out.sz, r4, fun R h1 h2 => by have h3 := r5 R h1 h2; exact HR5.out.done R h3.1 h3.2⟩, r1, r2⟩
                    clear g1 g2 hpe HRE
                    go_wp2_with fail
                    go_roundg (b' - mid)
                    case measure => have := HF.out.2; have := HL.out; omega
                    case rel => exact ⟨mid, b', l2, wb, wp, d4, rfl, rfl, rfl, rfl, rfl, HF.out.2.2, hbn', Nat.le_refl _, by have := HF.out.2; have := HL.out; omega, hl2, HF.out.1⟩
                  | false =>
                    rw [hbb] at hu
                    subst hu
                    have hpe := part_walk k n cap d3 a' b' pv W5 HR5.out.sz (by omega) HR5.out.hb hbn' q1 q2
                    obtain ⟨mid, ap, d4, h4⟩ : ∃ mid ap d4, partition ltInt d3 a' b' pv = (mid, ap, d4) := ⟨_, _, _, rfl⟩
                    have hre := round_part swo_ltInt (partition_holds (lt := ltInt)) q1 q2 (by rw [HR5.out.sz]; exact hbn') HR5.out.lo h4
                    rw [h4] at hpe
                    simp only at hpe
                    have HRE := (show Hid _ from hre)
                    clear hre h4 hbb
                    go_wp2_with fail
                    refine hpe.mono ?_
                    rintro e w6 ⟨rfl, g1, g2⟩
                    have HF : Hid (HB w6 k d4 ∧ Mv k w w6 ∧ d4.size = n) := ⟨g1, HR5.out.mv.trans g2, HRE.out.2.2.1.trans HR5.out.sz⟩
                    have hma : a' ≤ mid := HRE.out.1
                    have hmb : mid < b' := HRE.out.2.1
                    have hk6 : k < w6.heap.size := Nat.lt_of_lt_of_le hkd g2.size
                    obtain ⟨ll, hll⟩ : ∃ ll, mid - a' = ll := ⟨_, rfl⟩
                    have ell : (mid : Int) - (a' : Int) = (ll : Int) := by omega
                    obtain ⟨rl, hrl⟩ : ∃ rl, b' - mid = rl := ⟨_, rfl⟩
                    have erl : (b' : Int) - (mid : Int) = (rl : Int) := by omega
                    obtain ⟨l8, hl8'⟩ : ∃ l8, l / 8 = l8 := ⟨_, rfl⟩
                    have el8 : (l : Int).tdiv 8 = (l8 : Int) := by rw [Int.tdiv_eq_ediv_of_nonneg (by omega)]; omega
                    obtain ⟨mid1, hmid1⟩ : ∃ mid1, mid + 1 = mid1 := ⟨_, rfl⟩
                    have emid : (mid : Int) + 1 = (mid1 : Int) := by omega
                    have HN : Hid (mid - a' = ll ∧ b' - mid = rl ∧ mid + 1 = mid1) := ⟨hll, hrl, hmid1⟩
                    have hmid1b : mid1 ≤ b' := by omega
                    have hmm : mid < mid1 := by omega
                    clear g1 g2 hpe hll hrl hl8' hmid1
                    by_cases hlr : ll < rl
                    · have hg : decide ((ll : Int) < (rl : Int)) = true := decide_eq_true (by omega)
                      have hcall := HI.out (mid - a') (by have := HL.out; omega) a' mid l2 d4 w6 (Nat.le_refl _) hma (by omega) hl2 HF.out.2.2 HF.out.1 hk6 HRE.out.2.2.2.1
                      go_wp2_with fail
                      refine hcall.mono ?_
                      rintro e w7 ⟨rfl, L, p7, s7, z7, g7, m7⟩
                      have HG : Hid (Rd k n a b mid1 b' d L w w7) := by
                        obtain ⟨r1, r2⟩ := HRE.out.2.2.2.2.2.1 L p7 s7
                        rw [HN.out.2.2] at r1 r2
                        exact ⟨g7, HF.out.2.1.trans m7, z7, r1, fun R h1 h2 => by have h3 := r2 R h1 h2; exact HR5.out.done R h3.1 h3.2⟩
                      clear p7 s7 z7 g7 m7 hcall
                      go_wp2_with fail
                      go_roundg (b' - mid1)
                      case measure => have := HL.out; omega
                      case rel => exact ⟨mid1, b', l2, _, ap, L, rfl, rfl, rfl, rfl, rfl, hmid1b, hbn', Nat.le_refl _, by have := HL.out; omega, hl2, HG.out⟩
                    · have hg : decide ((ll : Int) < (rl : Int)) = false := decide_eq_false (by omega)
                      have hlo2 : Sort.Below ltInt mid1 b' d4 := by rw [← HN.out.2.2]; exact HRE.out.2.2.2.2.1
                      have hcall := HI.out (b' - mid1) (by have := HL.out; omega) mid1 b' l2 d4 w6 (Nat.le_refl _) hmid1b hbn' hl2 HF.out.2.2 HF.out.1 hk6 hlo2
                      clear hlo2
                      go_wp2_with fail
                      refine hcall.mono ?_
                      rintro e w7 ⟨rfl, L, p7, s7, z7, g7, m7⟩
                      have HG : Hid (Rd k n a b a' mid d L w w7) := by
                        rw [← HN.out.2.2] at p7 s7
                        obtain ⟨r1, r2⟩ := HRE.out.2.2.2.2.2.2 L p7 s7
                        exact ⟨g7, HF.out.2.1.trans m7, z7, r1, fun R h1 h2 => by have h3 := r2 R h1 h2; exact HR5.out.done R h3.1 h3.2⟩
                      clear p7 s7 z7 g7 m7 hcall
                      go_wp2_with fail
                      go_roundg (mid - a')
                      case measure => have := HL.out; omega
                      case rel => exact ⟨a', mid, l2, _, ap, L, rfl, rfl, rfl, rfl, rfl, hma, by omega, Nat.le_refl _, by have := HL.out; omega, hl2, HG.out⟩

/-- slices.Sort at bytes: the same bytes, rising. -/
theorem sort_any (k n cap : Nat) (d : Array Int) (w : World) (hn : n ≤ 256) (hd : d.size = n) (hH : HB w k d) (hk : k < w.heap.size) :
    Calls Try.prog 27 #[.slice (some ⟨k, 0, none⟩) n cap] w (Sorts k n 0 n d w) := by
  have hw : IntKind.u64.wrap (n : Int) = (n : Int) := by rw [IntKind.wrap_u64]; omega
  have HA : Hid (d.size = n ∧ HB w k d) := ⟨hd, hH⟩
  clear hd hH
  go_enter Try.func27, Try.ntmps27
  go_wp2_with fail
  refine (len_any n hn w).mono ?_
  rintro e w1 ⟨t, rfl, ht, rfl⟩
  have ht9 := ht.1
  clear ht
  have hp := pdq_any k n cap hn n 0 n t d w1 (by omega) (by omega) (Nat.le_refl _) (by omega) HA.out.1 HA.out.2 hk (.inl rfl)
  rw [show ((0 : Nat) : Int) = 0 from rfl] at hp
  go_wp2_with fail
  refine hp.mono ?_
  rintro e w2 ⟨rfl, h2⟩
  have H2 : Hid (∃ d', PermIn 0 n d d' ∧ SortedIn ltInt 0 n d' ∧ d'.size = n ∧ HB w2 k d' ∧ Mv k w1 w2) := h2
  clear h2 hp
  go_wp2_with fail
  exact bodyPost_end (results_none rfl _ _ _) rfl ⟨rfl, H2.out⟩
end Go.Proofs.Ytfkhpcgccjlpgaa
