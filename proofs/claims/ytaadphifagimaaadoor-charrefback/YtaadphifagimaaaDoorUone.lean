/- The document's first character of a text. -/
import Derived.Test.YtaadphifagimaaaDoorUpu
import Derived.Test.YtaadphifagimaaaDoorNum
import Derived.Test.YtaadphifagimaaaDoorDig
namespace Go.Proofs.YtaadphifagimaaaDoor
namespace Utf
open Go.RowKit

theorem i64_or6 (x y : Int) (h0 : 0 ≤ x) (h1 : x ≤ 1000000000000) (hx : x % 64 = 0) (h2 : 0 ≤ y) (h3 : y < 64) : bits .or .i64 x y = x + y :=
  bits_join .i64 63 (by decide) wraps_i64 6 x y h0 hx (by omega) h2 (by omega) (by omega)
theorem u8_and7 (x : Int) (h₀ : 0 ≤ x) (h₁ : x < 256) : bits .and .u8 x 7 = x % 8 := bits_mask .u8 8 (by decide) wraps_u8 3 (by decide) x h₀ h₁

theorem byte_lt (b : UInt8) : (b.toNat : Int) < 256 := by have := UInt8.toNat_lt b; omega

theorem add6_eq (x : Int) (b : UInt8) (h0 : 0 ≤ x) (h1 : x ≤ 1000000000) : bits .or .i64 (x * 64) (wrap64 (bits .and .u8 (b.toNat : Nat) 63)) = add6 x b := by
  have hb := byte_lt b
  rw [u8_and63 _ (by omega) hb, show wrap64 ((b.toNat : Int) % 64) = (b.toNat : Int) % 64 by unfold wrap64; omega, i64_or6 _ _ (by omega) (by omega) (by omega) (by omega) (by omega)]
  unfold add6; omega

theorem val_bound : ∀ (l : List UInt8) (r : Int), 0 ≤ r → 0 ≤ val r l ∧ val r l < (r + 1) * 64 ^ l.length
  | [], r, h0 => ⟨h0, by simp [val]; omega⟩
  | b :: t, r, h0 => by
    have e : val r (b :: t) = val (add6 r b) t := rfl
    have ha : 0 ≤ add6 r b ∧ add6 r b + 1 ≤ (r + 1) * 64 := by unfold add6; omega
    obtain ⟨i1, i2⟩ := val_bound t (add6 r b) ha.1
    refine ⟨by rw [e]; exact i1, ?_⟩
    rw [e, List.length_cons, Int.pow_succ]
    have : (add6 r b + 1) * 64 ^ t.length ≤ ((r + 1) * 64) * 64 ^ t.length := Int.mul_le_mul_of_nonneg_right ha.2 (Int.pow_nonneg (by omega))
    rw [Int.mul_comm ((64 : Int) ^ t.length) 64, ← Int.mul_assoc]
    omega

set_option maxHeartbeats 400000 in
set_option maxRecDepth 10000 in
theorem need_any (b : UInt8) (w : World) : Calls Tryd.prog 60 #[.int .u8 (b.toNat : Nat)] w fun e w' => e = .returned (.int .i64 (need b.toNat : Nat)) ∧ w' = w := by
  have hb := UInt8.toNat_lt b
  obtain ⟨n, hn⟩ : ∃ n, b.toNat = n := ⟨_, rfl⟩
  rw [hn] at hb ⊢
  clear hn
  go_enter Tryd.func60, Tryd.ntmps60
  go_wp2
  all_goals
    go_ret
    refine ⟨?_, rfl⟩
    unfold need
    repeat' split
    all_goals first | rfl | (exfalso; omega)

def secB (a c : Nat) : Bool := decide (lo2 a ≤ c ∧ c ≤ hi2 a)

set_option maxHeartbeats 400000 in
theorem second_any (a c : UInt8) (w : World) : Calls Tryd.prog 61 #[.int .u8 (a.toNat : Nat), .int .u8 (c.toNat : Nat)] w fun e w' => e = .returned (.bool (secB a.toNat c.toNat)) ∧ w' = w := by
  have ha := UInt8.toNat_lt a
  have hc := UInt8.toNat_lt c
  obtain ⟨n, hn⟩ : ∃ n, a.toNat = n := ⟨_, rfl⟩
  obtain ⟨m, hm⟩ : ∃ n, c.toNat = n := ⟨_, rfl⟩
  rw [hn] at ha ⊢
  rw [hm] at hc ⊢
  clear hn hm
  go_enter Tryd.func61, Tryd.ntmps61
  go_wp2
  all_goals
    go_ret
    refine ⟨ret_bool (Bool.eq_iff_iff.2 ?_), rfl⟩
    (try simp only [beq_iff_eq, beq_eq_false_iff_ne, ne_eq] at *)
    unfold secB lo2 hi2
    simp only [decide_eq_true_eq, Bool.false_eq_true, false_iff]
    repeat' split
    all_goals omega


theorem drop_at (s : ByteArray) (k : Nat) (h : k < s.size) : s.data.toList.drop k = s[k] :: s.data.toList.drop (k + 1) := by
  rw [List.drop_eq_getElem_cons (by simpa using h)]; rfl
theorem drop_end (s : ByteArray) (k : Nat) (h : s.size ≤ k) : s.data.toList.drop k = [] := List.drop_of_length_le (by rw [Array.length_toList]; exact h)

theorem ext_stop (n a k : Nat) (l : List UInt8) (h : ¬ k < n) : ext n a k l = k := by
  cases l with
  | nil => rfl
  | cons b t => rw [ext, if_neg (fun c => h c.1)]

theorem bad_end {k K : Nat} {n : Nat} (h : k = K) : Ending.returned (.tuple #[.int .i64 (-1), .int .i64 (k : Nat), .bool ((k : Int) == (n : Int))]) = .returned (.tuple #[.int .i64 (-1), .int .i64 (K : Nat), .bool (decide (K = n))]) := by
  subst h
  have : ((k : Int) == (n : Int)) = decide (k = n) := by rw [Bool.eq_iff_iff]; simp; omega
  rw [this]

theorem need_as (b : UInt8) (n : Nat) (w : World) (h : need b.toNat = n) : Calls Tryd.prog 60 #[.int .u8 (b.toNat : Nat)] w fun e w' => e = .returned (.int .i64 (n : Nat)) ∧ w' = w := by
  subst h; exact need_any b w
theorem second_as (a c : UInt8) (v : Bool) (w : World) (h : secB a.toNat c.toNat = v) : Calls Tryd.prog 61 #[.int .u8 (a.toNat : Nat), .int .u8 (c.toNat : Nat)] w fun e w' => e = .returned (.bool v) ∧ w' = w := by
  subst h; exact second_any a c w

set_option maxHeartbeats 2000000 in
set_option maxRecDepth 10000 in
theorem one_bad (s : ByteArray) (w : World) (h0 : 0 < s.size) (hs : s.size ≤ 1000000) (a : UInt8) (ha : s[0] = a) (n : Nat) (hn : need a.toNat = n) (K : Nat) (hK : ext n a.toNat 1 (s.data.toList.drop 1) = K) (hKn : K < n) :
    Calls Tryd.prog 50 #[.string s] w fun e w' => e = .returned (.tuple #[.int .i64 (-1), .int .i64 (K : Nat), .bool (decide (K = s.size))]) ∧ Below w.heap.size w w' := by
  have hn4 : n ≤ 4 := by rw [← hn]; exact need_le _
  have HA : Hid (s[0] = a) := ha
  have HN : Hid (need a.toNat = n) := hn
  have HK : Hid (ext n a.toNat 1 (s.data.toList.drop 1) = K) := hK
  clear ha hn hK
  go_enter Tryd.func50, Tryd.ntmps50
  go_wp2_with fail
  refine (need_as _ n _ (by rw [HA.out]; exact HN.out)).mono ?_
  rintro e w' ⟨rfl, rfl⟩
  have hnb : ((n : Int) == 0) = false := by rw [beq_eq_false_iff_ne]; omega
  go_wp2_with fail
  go_loopw [6] (fun i wr => ∃ k : Nat, 1 ≤ k ∧ k ≤ n ∧ k ≤ s.size ∧ i = .int .i64 k ∧ ext n a.toNat k (s.data.toList.drop k) = K ∧ Below w'.heap.size w' wr) (fun i _ => 10 - (intOf i).toNat)
  case atStart => exact ⟨1, Nat.le_refl _, by omega, by omega, rfl, HK.out, Below.refl _ _⟩
  case round =>
    obtain ⟨k, hk1, hkn, hkl, rfl, hx, hbl⟩ := hrel
    have hkn2 : k < n := by have := ext_ge n a.toNat (s.data.toList.drop k) k; omega
    have HX : Hid (ext n a.toNat k (s.data.toList.drop k) = K) := hx
    clear hx
    have g1 : decide (k < n) = true := by simpa using hkn2
    by_cases hlt : k < s.size
    · have g2 : decide (k < s.size) = true := by simpa using hlt
      have hd := drop_at s k hlt
      by_cases hk2 : k = 1
      · have f0 : ((k : Int) == 1) = true := by rw [beq_iff_eq]; omega
        have hs1 : 1 < s.size := by omega
        have hs2 : (1 : Int) < (s.size : Int) := by omega
        have HK2 : Hid (k = 1) := hk2
        have f5 : decide ((1 : Int) < (k : Int)) = false := decide_eq_false (by omega)
        clear hk2
        cases hsec : secB a.toNat s[1].toNat with
        | true =>
          go_wp2_with fail
          go_quiet ((go_at_call 61; exact Calls.quiet_of_same (second_as _ _ true _ (by rw [HA.out]; exact hsec))))
          go_wp2_with fail
          have hk2 := HK2.out
          refine ⟨⟨k + 1, by omega, by omega, by omega, by go_num, ?_, below_drewN hbl nq⟩, by simp [intOf]; omega⟩
          subst hk2
          rw [← HX.out, hd, ext, if_pos ⟨hkn2, hsec⟩]
        | false =>
          have hK : Hid (k = K) := by
            have hk2 := HK2.out
            subst hk2
            have := HX.out
            rw [hd, ext, if_neg (fun c => by have := c.2; unfold okc at this; rw [if_pos rfl] at this; unfold secB at hsec; rw [this] at hsec; cases hsec)] at this
            exact this
          go_wp2_with fail
          go_quiet ((go_at_call 61; exact Calls.quiet_of_same (second_as _ _ false _ (by rw [HA.out]; exact hsec))))
          go_wp2_with fail
          go_ret3
          exact ⟨bad_end hK.out, below_drewN hbl nq⟩
      · have f0 : ((k : Int) == 1) = false := by rw [beq_eq_false_iff_ne]; omega
        have f1 : decide ((1 : Int) < (k : Int)) = true := decide_eq_true (by omega)
        by_cases hc1 : 128 ≤ s[k].toNat
        · have f2 : decide ((128 : Int) ≤ (s[k].toNat : Int)) = true := decide_eq_true (by omega)
          by_cases hc2 : s[k].toNat ≤ 191
          · have f3 : decide ((s[k].toNat : Int) ≤ 191) = true := decide_eq_true (by omega)
            go_wp2_with fail
            go_quiet (fail)
            go_wp2_with fail
            refine ⟨⟨k + 1, by omega, by omega, by omega, by go_num, ?_, below_drewN hbl nq⟩, by simp [intOf]; omega⟩
            rw [← HX.out, hd, ext, if_pos ⟨hkn2, by unfold okc; rw [if_neg hk2]; simp [hc1, hc2]⟩]
          · have f3 : decide ((s[k].toNat : Int) ≤ 191) = false := decide_eq_false (by omega)
            have hK : Hid (k = K) := by
              have := HX.out
              rw [hd, ext, if_neg (fun c => by have := c.2; unfold okc at this; rw [if_neg hk2] at this; simp at this; omega)] at this
              exact this
            go_wp2_with fail
            go_quiet (fail)
            go_wp2_with fail
            go_ret3
            exact ⟨bad_end hK.out, below_drewN hbl nq⟩
        · have f2 : decide ((128 : Int) ≤ (s[k].toNat : Int)) = false := decide_eq_false (by omega)
          have hK : Hid (k = K) := by
            have := HX.out
            rw [hd, ext, if_neg (fun c => by have := c.2; unfold okc at this; rw [if_neg hk2] at this; simp at this; omega)] at this
            exact this
          go_wp2_with fail
          go_quiet (fail)
          go_wp2_with fail
          go_ret3
          exact ⟨bad_end hK.out, below_drewN hbl nq⟩
    · have g2 : decide (k < s.size) = false := by simpa using hlt
      have hK : Hid (k = K) := by
        have := HX.out
        rw [drop_end s k (by omega)] at this
        exact this
      go_wp2_with fail
      go_quiet (fail)
      go_wp2_with fail
      go_ret3
      exact ⟨bad_end hK.out, below_drewN hbl nq⟩

set_option maxHeartbeats 1000000 in
set_option maxRecDepth 10000 in
theorem one_none (s : ByteArray) (w : World) (h0 : 0 < s.size) (a : UInt8) (ha : s[0] = a) (hn : need a.toNat = 0) :
    Calls Tryd.prog 50 #[.string s] w fun e w' => e = .returned (.tuple #[.int .i64 (-1), .int .i64 1, .bool false]) ∧ Below w.heap.size w w' := by
  have HN : Hid (need s[0].toNat = 0) := by rw [ha]; exact hn
  clear ha hn
  go_enter Tryd.func50, Tryd.ntmps50
  go_wp2_with fail
  refine (need_as _ 0 _ HN.out).mono ?_
  rintro e w' ⟨rfl, rfl⟩
  go_wp2_with fail
  go_ret3
  exact ⟨rfl, Below.refl _ _⟩

theorem i64_and31 (x : Int) (h₀ : 0 ≤ x) (h₁ : x < 256) : bits .and .i64 x 31 = x % 32 := bits_mask .i64 63 (by decide) wraps_i64 5 (by decide) x h₀ (by omega)
theorem i64_and15 (x : Int) (h₀ : 0 ≤ x) (h₁ : x < 256) : bits .and .i64 x 15 = x % 16 := bits_mask .i64 63 (by decide) wraps_i64 4 (by decide) x h₀ (by omega)
theorem i64_and7 (x : Int) (h₀ : 0 ≤ x) (h₁ : x < 256) : bits .and .i64 x 7 = x % 8 := bits_mask .i64 63 (by decide) wraps_i64 3 (by decide) x h₀ (by omega)

theorem first_val (n : Nat) (a b : UInt8) (h : b = a) (_h1 : 1 ≤ n) (_h4 : n ≤ 4) {x : Int} (hx : ((n : Int) = 2 ∧ x = (b.toNat : Int) % 32) ∨ ((n : Int) = 3 ∧ x = (b.toNat : Int) % 16) ∨ ((n : Int) = 4 ∧ x = (b.toNat : Int) % 8) ∨ (¬ (n : Int) = 2 ∧ ¬ (n : Int) = 3 ∧ ¬ (n : Int) = 4 ∧ x = (b.toNat : Int))) {l : List UInt8} :
    Value.int .i64 x = .int .i64 (val (mask n a.toNat : Nat) (l.take (1 - 1))) := by
  subst h
  have e : val (mask n b.toNat : Nat) (l.take (1 - 1)) = (mask n b.toNat : Nat) := by simp [val]
  rw [e]
  congr 1
  unfold mask
  rcases hx with ⟨h, hx⟩ | ⟨h, hx⟩ | ⟨h, hx⟩ | ⟨h2, h3, h4, hx⟩
  · rw [if_pos (by omega)]; omega
  · rw [if_neg (by omega), if_pos (by omega)]; omega
  · rw [if_neg (by omega), if_neg (by omega), if_pos (by omega)]; omega
  · rw [if_neg (by omega), if_neg (by omega), if_neg (by omega)]; omega

theorem val_small (n a : Nat) (ha : a < 256) (l : List UInt8) (hl : l.length ≤ 3) : 0 ≤ val (mask n a : Nat) l ∧ val (mask n a : Nat) l ≤ 1000000000 := by
  have hm : mask n a ≤ 255 := by unfold mask; repeat' split
                                 all_goals omega
  obtain ⟨v1, v2⟩ := val_bound l (mask n a : Nat) (by omega)
  have hl : (64 : Int) ^ l.length ≤ 64 ^ 3 := by
    match ht : l.length, hl with
    | 0, _ => decide
    | 1, _ => decide
    | 2, _ => decide
    | 3, _ => decide
  have : ((mask n a : Nat) + 1 : Int) * 64 ^ l.length ≤ 256 * 64 ^ 3 := Int.mul_le_mul (by omega) hl (Int.pow_nonneg (by omega)) (by omega)
  exact ⟨v1, by omega⟩

set_option maxHeartbeats 4000000 in
set_option maxRecDepth 10000 in
theorem one_good (s : ByteArray) (w : World) (h0 : 0 < s.size) (hs : s.size ≤ 1000000) (a : UInt8) (ha : s[0] = a) (n : Nat) (hn : need a.toNat = n) (hn0 : n ≠ 0) (hK : ext n a.toNat 1 (s.data.toList.drop 1) = n) :
    Calls Tryd.prog 50 #[.string s] w fun e w' => e = .returned (.tuple #[.int .i64 (val (mask n a.toNat : Nat) ((s.data.toList.drop 1).take (n - 1))), .int .i64 (n : Nat), .bool false]) ∧ Below w.heap.size w w' := by
  have hn4 : n ≤ 4 := by rw [← hn]; exact need_le _
  have hns : n ≤ s.size := by
    have := ext_le n a.toNat (s.data.toList.drop 1) 1
    rw [hK, List.length_drop, Array.length_toList] at this
    have hz : s.data.size = s.size := rfl
    omega
  have HA : Hid (s[0] = a) := ha
  have HN : Hid (need a.toNat = n) := hn
  have HK : Hid (ext n a.toNat 1 (s.data.toList.drop 1) = n) := hK
  clear ha hn hK
  go_enter Tryd.func50, Tryd.ntmps50
  go_wp2_with fail
  refine (need_as _ n _ (by rw [HA.out]; exact HN.out)).mono ?_
  rintro e w' ⟨rfl, rfl⟩
  have hnb : ((n : Int) == 0) = false := by rw [beq_eq_false_iff_ne]; omega
  go_wp2_with fail
  go_loopw [6] (fun i wr => ∃ k : Nat, 1 ≤ k ∧ k ≤ n ∧ i = .int .i64 k ∧ ext n a.toNat k (s.data.toList.drop k) = n ∧ Below w'.heap.size w' wr) (fun i _ => 10 - (intOf i).toNat)
  case atStart => exact ⟨1, Nat.le_refl _, by omega, rfl, HK.out, Below.refl _ _⟩
  case round =>
    obtain ⟨k, hk1, hkn, rfl, hx, hbl⟩ := hrel
    have HX : Hid (ext n a.toNat k (s.data.toList.drop k) = n) := hx
    clear hx
    by_cases hkn2 : k < n
    · have g1 : decide (k < n) = true := by simpa using hkn2
      have hlt : k < s.size := by omega
      have g2 : decide (k < s.size) = true := by simpa using hlt
      have hd := drop_at s k hlt
      have hok : okc k a.toNat s[k].toNat = true := by
        have := HX.out
        rw [hd, ext] at this
        split at this
        · rename_i c; exact c.2
        · omega
      by_cases hk2 : k = 1
      · have f0 : ((k : Int) == 1) = true := by rw [beq_iff_eq]; omega
        have hs1 : 1 < s.size := by omega
        have hs2 : (1 : Int) < (s.size : Int) := by omega
        have hsec : secB a.toNat s[1].toNat = true := by subst hk2; exact hok
        have HK2 : Hid (k = 1) := hk2
        have HO : Hid (okc k a.toNat s[k].toNat = true) := hok
        clear hk2 hok
        go_wp2_with fail
        go_quiet ((go_at_call 61; exact Calls.quiet_of_same (second_as _ _ true _ (by rw [HA.out]; exact hsec))))
        go_wp2_with fail
        refine ⟨⟨k + 1, by omega, by omega, by go_num, ?_, below_drewN hbl nq⟩, by simp [intOf]; omega⟩
        have := HX.out
        rw [hd, ext, if_pos ⟨hkn2, HO.out⟩] at this
        exact this
      · have f0 : ((k : Int) == 1) = false := by rw [beq_eq_false_iff_ne]; omega
        have f1 : decide ((1 : Int) < (k : Int)) = true := decide_eq_true (by omega)
        have hcc : 128 ≤ s[k].toNat ∧ s[k].toNat ≤ 191 := by have := hok; unfold okc at this; rw [if_neg hk2] at this; simpa using this
        have f2 : decide ((128 : Int) ≤ (s[k].toNat : Int)) = true := decide_eq_true (by omega)
        have f3 : decide ((s[k].toNat : Int) ≤ 191) = true := decide_eq_true (by omega)
        have HO : Hid (okc k a.toNat s[k].toNat = true) := hok
        clear hok hcc
        go_wp2_with fail
        go_quiet (fail)
        go_wp2_with fail
        refine ⟨⟨k + 1, by omega, by omega, by go_num, ?_, below_drewN hbl nq⟩, by simp [intOf]; omega⟩
        have := HX.out
        rw [hd, ext, if_pos ⟨hkn2, HO.out⟩] at this
        exact this
    · have g1 : decide (k < n) = false := by simpa using hkn2
      go_wp2_with fail
      go_quiet (fail)
      have hb0 : (s[0].toNat : Int) < 256 := byte_lt _
      have hb1 : (0 : Int) ≤ (s[0].toNat : Int) := by omega
      go_wp2_with fail
      all_goals
        go_loop [7, 8] (fun r i => ∃ j : Nat, 1 ≤ j ∧ j ≤ n ∧ i = .int .i64 j ∧ r = .int .i64 (val (mask n a.toNat : Nat) ((s.data.toList.drop 1).take (j - 1)))) (fun _ i => 10 - (intOf i).toNat)
        case atStart =>
          refine ⟨1, Nat.le_refl _, by omega, rfl, ?_⟩
          (try simp only [beq_iff_eq, beq_eq_false_iff_ne, ne_eq] at *)
          exact first_val n a s[0] HA.out (by omega) (by omega) (by first | exact .inl ⟨by omega, i64_and31 _ hb1 hb0⟩ | exact .inr (.inl ⟨by omega, i64_and15 _ hb1 hb0⟩) | exact .inr (.inr (.inl ⟨by omega, i64_and7 _ hb1 hb0⟩)) | exact .inr (.inr (.inr ⟨by omega, by omega, by omega, rfl⟩)))
        case round =>
          obtain ⟨j, hj1, hjn, rfl, rfl⟩ := hrel
          obtain ⟨v, hv⟩ : ∃ v, val (mask n a.toNat : Nat) ((s.data.toList.drop 1).take (j - 1)) = v := ⟨_, rfl⟩
          have HV : Hid (val (mask n a.toNat : Nat) ((s.data.toList.drop 1).take (j - 1)) = v) := hv
          by_cases hjlt : j < n
          · have hvb := val_small n a.toNat (UInt8.toNat_lt a) ((s.data.toList.drop 1).take (j - 1)) (by rw [List.length_take]; omega)
            rw [hv] at hvb ⊢
            obtain ⟨v0, v1⟩ := hvb
            clear hv
            have hjs : j < s.size := by omega
            have hsn : Hid (val (mask n a.toNat : Nat) ((s.data.toList.drop 1).take (j + 1 - 1)) = add6 v s[j]) := by
              have e : (s.data.toList.drop 1).take (j + 1 - 1) = (s.data.toList.drop 1).take (j - 1) ++ [s[j]] := by
                obtain ⟨i, rfl⟩ : ∃ i, j = i + 1 := ⟨j - 1, by omega⟩
                rw [Nat.add_sub_cancel, Nat.add_sub_cancel, List.take_succ_eq_append_getElem (by rw [List.length_drop, Array.length_toList]; show i < s.size - 1; omega)]
                congr 2
                rw [List.getElem_drop]
                show s.data.toList[1 + i]'_ = s.data[i + 1]'_
                simp [Nat.add_comm]
              show val _ _ = _
              rw [e, val, List.foldl_append]
              show add6 (val _ _) _ = _
              rw [HV.out]
            go_wp2_with fail
            refine ⟨⟨j + 1, by omega, by omega, by go_num, ?_⟩, by simp [intOf]; omega⟩
            rw [hsn.out, ← add6_eq v s[j] v0 v1]
          · have hje : j = n := by omega
            subst hje
            go_wp2_with fail
            go_ret3
            exact ⟨rfl, below_drewN hbl nq⟩

theorem one_any (s : ByteArray) (w : World) (h0 : 0 < s.size) (hs : s.size ≤ 1000000) :
    Calls Tryd.prog 50 #[.string s] w fun e w' => e = .returned (.tuple #[.int .i64 (one s.data.toList).1, .int .i64 ((one s.data.toList).2.1 : Nat), .bool (one s.data.toList).2.2]) ∧ Below w.heap.size w w' := by
  have hl : s.data.toList = s[0] :: s.data.toList.drop 1 := by have := drop_at s 0 h0; simpa using this
  have hlen : (s.data.toList.drop 1).length + 1 = s.size := by
    rw [List.length_drop, Array.length_toList]
    have hz : s.data.size = s.size := rfl
    omega
  obtain ⟨t, ht⟩ : ∃ t, s.data.toList.drop 1 = t := ⟨_, rfl⟩
  have e : one s.data.toList = one (s[0] :: t) := by rw [hl, ht]
  rw [e, one_cons]
  rw [ht] at hlen
  by_cases c0 : need s[0].toNat = 0
  · rw [if_pos c0]; exact one_none s w h0 s[0] rfl c0
  · rw [if_neg c0]
    have hx : ext (need s[0].toNat) s[0].toNat 1 (s.data.toList.drop 1) = ext (need s[0].toNat) s[0].toNat 1 t := by rw [ht]
    by_cases c1 : ext (need s[0].toNat) s[0].toNat 1 t < need s[0].toNat
    · rw [if_pos c1]
      refine (one_bad s w h0 hs s[0] rfl _ rfl _ hx c1).mono ?_
      rintro e w' ⟨he, hb⟩
      rw [hlen]
      exact ⟨he, hb⟩
    · rw [if_neg c1]
      have ht2 := ext_top (need s[0].toNat) s[0].toNat t 1 (by omega)
      have := one_good s w h0 hs s[0] rfl _ rfl c0 (by rw [hx]; omega)
      rw [ht] at this
      exact this
end Utf
end Go.Proofs.YtaadphifagimaaaDoor
