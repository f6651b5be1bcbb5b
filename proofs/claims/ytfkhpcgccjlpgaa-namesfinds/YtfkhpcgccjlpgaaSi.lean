/- insertionSortOrdered, at bytes. -/
import Derived.Test.YtfkhpcgccjlpgaaSb
namespace Go.Proofs.Ytfkhpcgccjlpgaa
open Go.RowKit Go.Sort

theorem insInner_size (a j : Nat) (d : Array Int) : (insInner ltInt a j d).size = d.size := by
  induction j generalizing d with
  | zero => rfl
  | succ j ih =>
    unfold insInner
    split
    · rw [ih, swp_size]
    · rfl

theorem insOuter_lt {a b i : Nat} (d : Array Int) (h : i < b) : insOuter ltInt a b i d = insOuter ltInt a b (i + 1) (insInner ltInt a i d) := by
  conv => lhs; rw [insOuter]
  rw [if_pos h]
theorem insOuter_ge {a b i : Nat} (d : Array Int) (h : ¬ i < b) : insOuter ltInt a b i d = d := by
  rw [insOuter, if_neg h]

set_option maxHeartbeats 1000000 in
theorem ins_walk (k n cap : Nat) (d : Array Int) (a b : Nat) (w : World) (hd : d.size = n) (hn : n ≤ 100000) (hH : HB w k d) (hb : b ≤ n) (hab : a ≤ b) :
    Calls Try.prog 32 #[.slice (some ⟨k, 0, none⟩) n cap, .int .i64 a, .int .i64 b] w fun e w' => e = .returned (.tuple #[]) ∧ HB w' k (insertionSort ltInt d a b) ∧ Mv k w w' := by
  have HS : Hid (HB w k d ∧ insOuter ltInt a b (a + 1) d = insertionSort ltInt d a b ∧ d.size = n) := ⟨hH, rfl, hd⟩
  clear hH hd
  go_enter Try.func32, Try.ntmps32
  go_wp2_with fail
  go_loopw [6] (fun iv wr => ∃ (i : Nat) (di : Array Int), iv = .int .i64 i ∧ a + 1 ≤ i ∧ i ≤ n + 1 ∧ Mv k w wr ∧ HB wr k di ∧ insOuter ltInt a b i di = insertionSort ltInt d a b ∧ di.size = n) (fun iv _ => n + 1 - (intOf iv).toNat)
  case atStart => exact ⟨a + 1, d, by go_num, by omega, by omega, Mv.refl _ _, HS.out⟩
  case round =>
    obtain ⟨i, di, rfl, hai, hi, hmv, hdi⟩ := hrel
    have HD : Hid (Mv k w wr ∧ HB wr k di ∧ insOuter ltInt a b i di = insertionSort ltInt d a b ∧ di.size = n) := ⟨hmv, hdi⟩
    clear hmv hdi HS
    by_cases hib : i < b
    · go_wp2_with fail
      go_loopw [7] (fun jv wr2 => ∃ (j : Nat) (dj : Array Int), jv = .int .i64 j ∧ a ≤ j ∧ j ≤ i ∧ Mv k w wr2 ∧ HB wr2 k dj ∧ insInner ltInt a j dj = insInner ltInt a i di ∧ dj.size = n) (fun jv _ => (intOf jv).toNat)
      case atStart => exact ⟨i, di, rfl, by omega, Nat.le_refl _, HD.out.1, HD.out.2.1, rfl, HD.out.2.2.2⟩
      case round =>
        obtain ⟨j, dj, rfl, haj, hji, hmv, hH, he, hz⟩ := hrel
        by_cases hja : a < j
        · obtain ⟨q, rfl⟩ : ∃ q, j = q + 1 := ⟨j - 1, by omega⟩
          obtain ⟨j, hj⟩ : ∃ j, q + 1 = j := ⟨_, rfl⟩
          rw [hj] at he hja haj hji ⊢
          have hw2 : (j : Int) - 1 = (q : Int) := by omega
          obtain ⟨x, hx, c1, f1, i1, i2⟩ := hb_at hH hz hn j (by omega)
          obtain ⟨y, hy, c0, f0, i3, i4⟩ := hb_at hH hz hn q (by omega)
          have hg : decide ((a : Int) < (j : Int)) = true := decide_eq_true (by omega)
          have HJ : Hid (Mv k w wr ∧ HB wr k dj ∧ insInner ltInt a j dj = insInner ltInt a i di ∧ dj.size = n ∧ dj[j]! = x ∧ dj[q]! = y ∧ q + 1 = j) := ⟨hmv, hH, he, hz, hx, hy, hj⟩
          have HQ : Hid (q < n ∧ j < n) := ⟨by omega, by omega⟩
          clear hmv hH he hz hx hy hj
          have hkr : k < wr.heap.size := lt_of_cell c0
          cases hlt : ltInt x y with
          | true =>
            go_wp2_with fail
            go_quiet (exact Calls.quiet_of_same (less_as hlt _))
            go_wp2_with fail
            go_region
            have HK : Hid (∃ dk, Mv k w (((wr.drewN (nq + 1)).setCell ⟨k, j, none⟩ (.int .u8 y)).setCell ⟨k, q, none⟩ (.int .u8 x)) ∧ HB (((wr.drewN (nq + 1)).setCell ⟨k, j, none⟩ (.int .u8 y)).setCell ⟨k, q, none⟩ (.int .u8 x)) k dk ∧ insInner ltInt a q dk = insInner ltInt a i di ∧ dk.size = n) := by
              obtain ⟨h1, h2, h3, h4, h5, h6, h7⟩ := HJ.out
              obtain ⟨g1, g2, g3⟩ := sw_drewN h1 h2 h4 HQ.out.2 HQ.out.1 h5 h6 (nq + 1)
              refine ⟨swp dj j q, g1, g2, ?_, g3⟩
              rw [← h3, ← h7, insInner, if_pos]
              rw [h7, h5, h6, hlt]
              simp; omega
            clear HJ HQ c0 c1 f0 f1
            generalize ((wr.drewN (nq + 1)).setCell ⟨k, j, none⟩ (.int .u8 y)).setCell ⟨k, q, none⟩ (.int .u8 x) = W at HK ⊢
            go_wp2_with fail
            obtain ⟨dk, h1, h2, h3, h4⟩ := HK.out
            exact ⟨⟨q, dk, rfl, by omega, by omega, h1, h2, h3, h4⟩, by simp [intOf]; omega⟩
          | false =>
            go_wp2_with fail
            go_quiet (exact Calls.quiet_of_same (less_as hlt _))
            go_wp2_with fail
            obtain ⟨h1, h2, h3, h4, h5, h6, h7⟩ := HJ.out
            refine ⟨⟨i + 1, dj, by go_num, by omega, by omega, h1.drewN _, hb_drewN h2 _, ?_, h4⟩, by simp [intOf]; omega⟩
            rw [← HD.out.2.2.1, insOuter_lt _ hib, ← h3, ← h7, insInner, if_neg]
            rw [h7, h5, h6, hlt]
            simp
        · have hg : decide ((a : Int) < (j : Int)) = false := decide_eq_false (by omega)
          have HJ : Hid (Mv k w wr ∧ HB wr k dj ∧ insInner ltInt a j dj = insInner ltInt a i di ∧ dj.size = n) := ⟨hmv, hH, he, hz⟩
          clear hmv hH he hz
          go_wp2_with fail
          go_quiet (fail)
          go_wp2_with fail
          obtain ⟨h1, h2, h3, h4⟩ := HJ.out
          refine ⟨⟨i + 1, dj, by go_num, by omega, by omega, h1.drewN _, hb_drewN h2 _, ?_, h4⟩, by simp [intOf]; omega⟩
          rw [← HD.out.2.2.1, insOuter_lt _ hib, ← h3]
          cases j with
          | zero => rfl
          | succ j =>
            rw [insInner, if_neg]
            simp; omega
    · have hg : decide ((i : Int) < (b : Int)) = false := decide_eq_false (by omega)
      go_wp2_with fail
      refine bodyPost_end (results_none rfl _ _ _) rfl ⟨rfl, ?_, HD.out.1⟩
      rw [← HD.out.2.2.1, insOuter_ge _ hib]
      exact HD.out.2.1
end Go.Proofs.Ytfkhpcgccjlpgaa
