/- Whole numbers below 2^53 are floats of 64 bits just as they are: what is written is read back, and their difference is exact. No condition but the bound. -/
import Derived.Laws.FloatArith
import Derived.Laws.ComplexArith
namespace Go.Proofs.Ytincdpggdgllaaa
open Ieee

theorem shl_mul (m d : Nat) : m <<< d = m * 2 ^ d := Nat.shiftLeft_eq m d

/-- A whole number, shifted up and told with its last digits dropped again, is itself. -/
theorem cut_exact (way : Toward) (neg : Bool) (n d : Nat) (hn : n ≠ 0) : way.cut neg (n * 2 ^ d) d = n := by
  have hlog : d ≤ (n * 2 ^ d).log2 + 2 := by
    have : 2 ^ d ≤ n * 2 ^ d := Nat.le_mul_of_pos_left _ (Nat.pos_of_ne_zero hn)
    have := (Nat.le_log2 (n := n * 2 ^ d) (k := d) (by have := Nat.two_pow_pos d; intro h; rcases Nat.mul_eq_zero.1 h with h | h <;> omega)).2 this
    omega
  have hpos := Nat.two_pow_pos d
  unfold Toward.cut
  simp only [Nat.min_eq_left hlog, shl_mul, Nat.one_mul, Nat.mul_div_cancel _ hpos, Nat.mul_mod_left]
  cases way <;> simp

theorem double_binade : double.binade = 4503599627370496 := by decide
theorem double_inf : double.infRung = 9218868437227405312 := by decide
theorem double_sign : double.signWeight = 9223372036854775808 := by decide
theorem double_least : double.leastPlace = -1074 := by decide

theorem log_lt (m : Nat) (h0 : m ≠ 0) (h : m < 2 ^ 53) : m.log2 ≤ 52 := by
  have := (Nat.log2_lt h0 (k := 53)).2 h
  omega

theorem full_lo (m : Nat) (h0 : m ≠ 0) (h : m < 2 ^ 53) : 2 ^ 52 ≤ m * 2 ^ (52 - m.log2) := by
  have l := log_lt m h0 h
  have := Nat.log2_self_le h0
  calc 2 ^ 52 = 2 ^ m.log2 * 2 ^ (52 - m.log2) := by rw [← Nat.pow_add]; congr 1; omega
    _ ≤ _ := Nat.mul_le_mul_right _ this

theorem full_hi (m : Nat) (h0 : m ≠ 0) (h : m < 2 ^ 53) : m * 2 ^ (52 - m.log2) < 2 ^ 53 := by
  have l := log_lt m h0 h
  have : m < 2 ^ (m.log2 + 1) := Nat.lt_log2_self
  calc m * 2 ^ (52 - m.log2) < 2 ^ (m.log2 + 1) * 2 ^ (52 - m.log2) := Nat.mul_lt_mul_of_pos_right this (Nat.two_pow_pos _)
    _ = 2 ^ 53 := by rw [← Nat.pow_add]; congr 1; omega

theorem log_scale (m M : Nat) (h0 : m ≠ 0) : (m * 2 ^ M).log2 = m.log2 + M := by
  induction M with
  | zero => simp
  | succ M ih =>
    have hm : m * 2 ^ M ≠ 0 := by have := Nat.two_pow_pos M; intro h; rcases Nat.mul_eq_zero.1 h with h | h <;> omega
    have e : m * 2 ^ (M + 1) = 2 * (m * 2 ^ M) := by rw [Nat.pow_succ, Nat.mul_comm 2, Nat.mul_assoc]
    rw [e, Nat.log2_two_mul hm, ih]; omega

/-- The word of a whole number, told with M digits behind the point. -/
theorem nearest_at (neg : Bool) (m M : Nat) (h0 : m ≠ 0) (h : m < 2 ^ 53) :
    double.nearest neg (m * 2 ^ M) (-(M : Int)) = double.word neg ((m.log2 + 1022) * 2 ^ 52 + m * 2 ^ (52 - m.log2)) := by
  have l := log_lt m h0 h
  have lo := full_lo m h0 h
  have hi := full_hi m h0 h
  have hm : m * 2 ^ M ≠ 0 := by have := Nat.two_pow_pos M; intro h; rcases Nat.mul_eq_zero.1 h with h | h <;> omega
  have hlog : (m * 2 ^ M).log2 = m.log2 + M := log_scale m M h0
  unfold Format.nearest
  rw [if_neg hm]
  have hf : (double.fractionBits : Int) = 52 := rfl
  have hlast : max (-(M : Int) + ((m * 2 ^ M).log2 : Nat) - (double.fractionBits : Nat)) double.leastPlace = (m.log2 : Int) - 52 := by
    rw [hlog, hf, double_least]; omega
  simp only [hlast]
  have hkept : Toward.even.cut neg ((m * 2 ^ M) <<< (-(M : Int) - ((m.log2 : Int) - 52)).toNat) ((m.log2 : Int) - 52 - -(M : Int)).toNat = m * 2 ^ (52 - m.log2) := by
    by_cases hc : M ≤ 52 - m.log2
    · have e1 : (-(M : Int) - ((m.log2 : Int) - 52)).toNat = 52 - m.log2 - M := by omega
      have e2 : ((m.log2 : Int) - 52 - -(M : Int)).toNat = 0 := by omega
      rw [e1, e2, shl_mul, Nat.mul_assoc, ← Nat.pow_add]
      have e3 : M + (52 - m.log2 - M) = 52 - m.log2 := by omega
      rw [e3]
      have := cut_exact .even neg (m * 2 ^ (52 - m.log2)) 0 (by omega)
      simpa using this
    · have e1 : (-(M : Int) - ((m.log2 : Int) - 52)).toNat = 0 := by omega
      have e2 : ((m.log2 : Int) - 52 - -(M : Int)).toNat = M - (52 - m.log2) := by omega
      rw [e1, e2, shl_mul]
      have e3 : m * 2 ^ M * 2 ^ 0 = m * 2 ^ (52 - m.log2) * 2 ^ (M - (52 - m.log2)) := by
        rw [Nat.mul_assoc, Nat.mul_assoc, ← Nat.pow_add, ← Nat.pow_add]; congr 2; omega
      rw [e3]
      exact cut_exact _ _ _ _ (by omega)
  rw [hkept]
  have e4 : ((m.log2 : Int) - 52 - double.leastPlace).toNat = m.log2 + 1022 := by rw [double_least]; omega
  rw [e4, double_binade, double_inf]
  congr 1
  have : (2:Nat) ^ 52 = 4503599627370496 := by decide
  have : (2:Nat) ^ 53 = 9007199254740992 := by decide
  omega

theorem rung_read (B L K : Nat) (lo : B ≤ K) (hi : K < 2 * B) : ((L + 1022) * B + K) % B = K - B ∧ ((L + 1022) * B + K) / B - 1 = L + 1022 := by
  have e : (L + 1022) * B + K = (K - B) + (L + 1023) * B := by
    have : (L + 1023) * B = (L + 1022) * B + B := by rw [← Nat.succ_mul]
    omega
  have hlt : K - B < B := by omega
  constructor
  · rw [e, Nat.add_mul_mod_self_right, Nat.mod_eq_of_lt hlt]
  · rw [e, Nat.add_mul_div_right _ _ (by omega), Nat.div_eq_of_lt hlt]; omega

theorem read_word (neg : Bool) (L K : Nat) (hL : L ≤ 52) (lo : 2 ^ 52 ≤ K) (hi : K < 2 ^ 53) :
    double.read (double.word neg ((L + 1022) * 2 ^ 52 + K)) = .number neg K ((L : Int) - 52) := by
  have p52 : (2:Nat) ^ 52 = double.binade := rfl
  have p53 : (2:Nat) ^ 53 = 2 * double.binade := by decide
  rw [p52] at lo ⊢
  rw [p53] at hi
  obtain ⟨r1, r2⟩ := rung_read _ L K lo hi
  have hB := double_binade
  have hI := double_inf
  have hS := double_sign
  have hR : (L + 1022) * double.binade + K < double.infRung := by
    rw [hB] at hi ⊢; rw [hI]; omega
  have hR' : double.binade ≤ (L + 1022) * double.binade + K := by omega
  have hRS : (L + 1022) * double.binade + K < double.signWeight := by have := double.infRung_lt; omega
  have hSp : 0 < double.signWeight := by rw [hS]; decide
  generalize hq : (L + 1022) * double.binade + K = R at *
  have a1 : (double.word neg R / double.signWeight % 2 == 1) = neg := by
    unfold Format.word
    cases neg
    · simp [Nat.div_eq_of_lt hRS]
    · simp [Nat.add_div_left _ hSp, Nat.div_eq_of_lt hRS]
  have a2 : double.word neg R % double.signWeight = R := by
    unfold Format.word
    cases neg
    · simp [Nat.mod_eq_of_lt hRS]
    · simp [Nat.mod_eq_of_lt hRS]
  unfold Format.read
  simp only [a1, a2, r1, r2]
  rw [if_neg (by omega), if_pos hR]
  have e1 : double.binade + (K - double.binade) = K := by omega
  have e2 : double.leastPlace + ((L + 1022 : Nat) : Int) = (L : Int) - 52 := by rw [double_least]; omega
  rw [e1, e2]

/-- A whole number as a float. -/
def fl (n : Int) : Nat := FloatKind.f64.nearest n

theorem fl_eq (n : Int) (h0 : n ≠ 0) (h : n.natAbs < 2 ^ 53) :
    fl n = double.word (decide (n < 0)) ((n.natAbs.log2 + 1022) * 2 ^ 52 + n.natAbs * 2 ^ (52 - n.natAbs.log2)) := by
  have := nearest_at (decide (n < 0)) n.natAbs 0 (by omega) h
  rw [← this]
  simp [fl, FloatKind.nearest, FloatKind.encode, FloatKind.format, Format.write]

theorem read_fl (n : Int) (h0 : n ≠ 0) (h : n.natAbs < 2 ^ 53) :
    double.read (fl n) = .number (decide (n < 0)) (n.natAbs * 2 ^ (52 - n.natAbs.log2)) (-((52 - n.natAbs.log2 : Nat) : Int)) := by
  have l := log_lt n.natAbs (by omega) h
  rw [fl_eq n h0 h, read_word _ _ _ l (full_lo _ (by omega) h) (full_hi _ (by omega) h)]
  congr 1
  omega

theorem fl_zero : fl 0 = 0 := by decide
theorem read_zero : double.read 0 = .number false 0 (-1074) := by decide

theorem signed_abs (n : Int) : signed (decide (n < 0)) n.natAbs 0 = n := by
  unfold signed
  by_cases h : n < 0
  · simp [h]; omega
  · simp [h]; omega

/-- What is read back of a whole number. -/
theorem toInt_fl (n : Int) (h : n.natAbs < 2 ^ 53) : (double.read (fl n)).toInt .zero = some n := by
  by_cases h0 : n = 0
  · subst h0; rw [fl_zero, read_zero]; decide
  · rw [read_fl n h0 h]
    have e1 : (-((52 - n.natAbs.log2 : Nat) : Int)).toNat = 0 := by omega
    have e2 : (- -((52 - n.natAbs.log2 : Nat) : Int)).toNat = 52 - n.natAbs.log2 := by omega
    unfold Datum.toInt Datum.integral
    simp only [e1, e2, shl_mul, Nat.pow_zero, Nat.mul_one]
    rw [cut_exact _ _ _ _ (by omega), signed_abs]

theorem floatToInt_fl (n : Int) (h : n.natAbs < 2 ^ 53) : floatToIntVal .f64 (fl n) .i64 = some n := by
  have := toInt_fl n h
  unfold floatToIntVal
  simp only [FloatKind.decode, FloatKind.format, this]
  have p53 : (2:Nat) ^ 53 = 9007199254740992 := by decide
  rw [p53] at h
  rw [if_pos]
  have a1 : IntKind.min .i64 = -9223372036854775808 := by decide
  have a2 : IntKind.max .i64 = 9223372036854775807 := by decide
  rw [a1, a2]; omega

/-- Every whole number is read back as itself, told with some digits behind the point. -/
theorem read_some (n : Int) (h : n.natAbs < 2 ^ 53) : ∃ i : Nat, double.read (fl n) = .number (decide (n < 0)) (n.natAbs * 2 ^ i) (-(i : Int)) := by
  by_cases h0 : n = 0
  · subst h0
    obtain ⟨k, hk⟩ : ∃ k : Nat, double.read 0 = .number false 0 (-(k : Int)) := ⟨1074, by decide⟩
    exact ⟨k, by rw [fl_zero, hk, Int.natAbs_zero, Nat.zero_mul]; rfl⟩
  · exact ⟨_, read_fl n h0 h⟩

theorem signed_scale (n : Int) (i k : Nat) : signed (decide (n < 0)) (n.natAbs * 2 ^ i) k = n * ((2 ^ (i + k) : Nat) : Int) := by
  unfold signed
  rw [shl_mul, Nat.mul_assoc, ← Nat.pow_add]
  by_cases h : n < 0
  · simp only [h, decide_true, if_true]
    rw [Int.natCast_mul, ← Int.neg_mul]
    congr 1; omega
  · simp only [h, decide_false, Bool.false_eq_true, if_false]
    rw [Int.natCast_mul]
    congr 1; omega

theorem signed_scale_neg (n : Int) (i k : Nat) : signed (!decide (n < 0)) (n.natAbs * 2 ^ i) k = (-n) * ((2 ^ (i + k) : Nat) : Int) := by
  unfold signed
  rw [shl_mul, Nat.mul_assoc, ← Nat.pow_add]
  by_cases h : n < 0
  · simp only [h, decide_true, Bool.not_true, Bool.false_eq_true, if_false]
    rw [Int.natCast_mul]
    congr 1; omega
  · simp only [h, decide_false, Bool.not_false, if_true]
    rw [Int.natCast_mul, ← Int.neg_mul]
    congr 1; omega

theorem write_scale (n : Int) (M : Nat) (h : n.natAbs < 2 ^ 53) : double.nearest (decide (n < 0)) (n.natAbs * 2 ^ M) (-(M : Int)) = fl n := by
  by_cases h0 : n = 0
  · subst h0; simp [Format.nearest, fl_zero, Format.word]
  · rw [nearest_at _ _ _ (by omega) h, fl_eq n h0 h]

/-- The difference of two whole numbers is exact. -/
theorem sub_fl (a b : Int) (ha : a.natAbs < 2 ^ 53) (hb : b.natAbs < 2 ^ 53) (hc : (a - b).natAbs < 2 ^ 53) : floatBits .sub .f64 (fl a) (fl b) = some (fl (a - b)) := by
  obtain ⟨i, hi⟩ := read_some a ha
  obtain ⟨j, hj⟩ := read_some b hb
  unfold floatBits
  simp only [FloatKind.format, Format.sub, hi, hj, Datum.opposite, Datum.sum, Option.map_some, Option.some.injEq]
  have hmin : min (-(i : Int)) (-(j : Int)) = -((max i j : Nat) : Int) := by omega
  rw [hmin]
  have e1 : (-(i : Int) - -((max i j : Nat) : Int)).toNat = max i j - i := by omega
  have e2 : (-(j : Int) - -((max i j : Nat) : Int)).toNat = max i j - j := by omega
  rw [e1, e2, signed_scale, signed_scale_neg]
  have e3 : i + (max i j - i) = max i j := by omega
  have e4 : j + (max i j - j) = max i j := by omega
  rw [e3, e4, ← Int.add_mul, ← Int.sub_eq_add_neg]
  generalize max i j = M
  have hp : (0:Int) < ((2 ^ M : Nat) : Int) := by have := Nat.two_pow_pos M; omega
  have e5 : ((a - b) * ((2 ^ M : Nat) : Int)).natAbs = (a - b).natAbs * 2 ^ M := by rw [Int.natAbs_mul]; simp
  rw [e5]
  simp only [Format.write]
  by_cases hz : a - b = 0
  · have hab : a = b := by omega
    subst hab
    simp [Format.nearest, fl_zero, Format.word]
  · have hnz : (a - b) * ((2 ^ M : Nat) : Int) ≠ 0 := Int.mul_ne_zero hz (by omega)
    rw [if_neg hnz]
    have e6 : decide ((a - b) * ((2 ^ M : Nat) : Int) < 0) = decide (a - b < 0) := by
      congr 1
      apply propext
      constructor
      · intro h
        rcases Int.lt_or_le (a - b) 0 with h' | h'
        · exact h'
        · have := Int.mul_nonneg h' (Int.le_of_lt hp); omega
      · intro h; exact Int.mul_neg_of_neg_of_pos h hp
    rw [e6]
    exact write_scale _ _ hc

/-- The difference of two spans. -/
theorem csub_fl (a b c d : Int) (h1 : a.natAbs < 2 ^ 53) (h2 : b.natAbs < 2 ^ 53) (h3 : c.natAbs < 2 ^ 53) (h4 : d.natAbs < 2 ^ 53) (h5 : (a - c).natAbs < 2 ^ 53) (h6 : (b - d).natAbs < 2 ^ 53) :
    cSumBits .sub .f64 (fl a) (fl b) (fl c) (fl d) = some (fl (a - c), fl (b - d)) := by
  simp [cSumBits, sub_fl a c h1 h3 h5, sub_fl b d h2 h4 h6]

theorem cconv_fl (a b : Nat) : cConvBits .f64 a b .f64 = some (a, b) := by simp [cConvBits, floatToFloatBits]
end Go.Proofs.Ytincdpggdgllaaa
