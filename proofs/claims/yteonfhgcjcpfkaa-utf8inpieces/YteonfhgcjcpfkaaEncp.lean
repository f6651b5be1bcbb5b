/- A character's bytes are that character, and no other. -/
import Derived.Test.YteonfhgcjcpfkaaPure
import GoSem.Core.Utf8
namespace Go.Proofs.Yteonfhgcjcpfkaa

theorem b_nat (n : Nat) (h : n < 256) : (UInt8.ofNat n).toNat = n := by simp; omega

theorem items_one {l : List UInt8} {r : Int} (hl : l ≠ []) (h : one l = (r, l.length, false)) : items l = [(r, l.length)] := by
  rw [items_cons l hl, h]
  simp [items_nil]

theorem two_one (a b : Nat) (ha : 194 ≤ a ∧ a ≤ 223) (hb : 128 ≤ b ∧ b ≤ 191) : one [UInt8.ofNat a, UInt8.ofNat b] = (((a % 32 * 64 + b % 64 : Nat) : Int), 2, false) := by
  have e1 := b_nat a (by omega)
  have e2 := b_nat b (by omega)
  have hn : need a = 2 := by unfold need; rw [if_neg (by omega), if_pos ha]
  have hk : okc 1 a b = true := by unfold okc lo2 hi2; rw [if_pos rfl, if_neg (by omega), if_neg (by omega), if_neg (by omega), if_neg (by omega)]; exact decide_eq_true hb
  have hx : ext 2 a 1 [UInt8.ofNat b] = 2 := by rw [ext, e2, if_pos ⟨by decide, hk⟩]; rfl
  rw [one_cons, e1, hn, hx, if_neg (by decide), if_neg (by decide)]
  simp only [mask, val, List.take, List.foldl, add6, e2]
  simp

theorem three_one (a b c : Nat) (ha : 224 ≤ a ∧ a ≤ 239) (hb : lo2 a ≤ b ∧ b ≤ hi2 a) (hc : 128 ≤ c ∧ c ≤ 191) : one [UInt8.ofNat a, UInt8.ofNat b, UInt8.ofNat c] = ((((a % 16 * 64 + b % 64) * 64 + c % 64 : Nat) : Int), 3, false) := by
  have hb9 : b < 256 := by have := hb.2; unfold hi2 at this; split at this <;> (try split at this) <;> omega
  have e1 := b_nat a (by omega)
  have e2 := b_nat b hb9
  have e3 := b_nat c (by omega)
  have hn : need a = 3 := by unfold need; rw [if_neg (by omega), if_neg (by omega), if_pos ha]
  have hk : okc 1 a b = true := by unfold okc; rw [if_pos rfl]; exact decide_eq_true hb
  have hk2 : okc 2 a c = true := by unfold okc; rw [if_neg (by decide)]; exact decide_eq_true hc
  have hx : ext 3 a 1 [UInt8.ofNat b, UInt8.ofNat c] = 3 := by rw [ext, e2, if_pos ⟨by decide, hk⟩, ext, e3, if_pos ⟨by decide, hk2⟩]; rfl
  rw [one_cons, e1, hn, hx, if_neg (by decide), if_neg (by decide)]
  simp only [mask, val, List.take, List.foldl, add6, e2, e3]
  simp

theorem four_one (a b c d : Nat) (ha : 240 ≤ a ∧ a ≤ 244) (hb : lo2 a ≤ b ∧ b ≤ hi2 a) (hc : 128 ≤ c ∧ c ≤ 191) (hd : 128 ≤ d ∧ d ≤ 191) : one [UInt8.ofNat a, UInt8.ofNat b, UInt8.ofNat c, UInt8.ofNat d] = (((((a % 8 * 64 + b % 64) * 64 + c % 64) * 64 + d % 64 : Nat) : Int), 4, false) := by
  have hb9 : b < 256 := by have := hb.2; unfold hi2 at this; split at this <;> (try split at this) <;> omega
  have e1 := b_nat a (by omega)
  have e2 := b_nat b hb9
  have e3 := b_nat c (by omega)
  have e4 := b_nat d (by omega)
  have hn : need a = 4 := by unfold need; rw [if_neg (by omega), if_neg (by omega), if_neg (by omega), if_pos ha]
  have hk : okc 1 a b = true := by unfold okc; rw [if_pos rfl]; exact decide_eq_true hb
  have hk2 : okc 2 a c = true := by unfold okc; rw [if_neg (by decide)]; exact decide_eq_true hc
  have hk3 : okc 3 a d = true := by unfold okc; rw [if_neg (by decide)]; exact decide_eq_true hd
  have hx : ext 4 a 1 [UInt8.ofNat b, UInt8.ofNat c, UInt8.ofNat d] = 4 := by rw [ext, e2, if_pos ⟨by decide, hk⟩, ext, e3, if_pos ⟨by decide, hk2⟩, ext, e4, if_pos ⟨by decide, hk3⟩]; rfl
  rw [one_cons, e1, hn, hx, if_neg (by decide), if_neg (by decide)]
  simp only [mask, val, List.take, List.foldl, add6, e2, e3, e4]
  simp

theorem enc_items (r : Int) (h0 : 0 ≤ r) (h1 : r ≤ 1114111) (h2 : r < 55296 ∨ 57343 < r) : items (Utf8.encode r).data.toList = [(r, (Utf8.encode r).size)] ∧ 1 ≤ (Utf8.encode r).size ∧ (Utf8.encode r).size ≤ 4 := by
  obtain ⟨c, rfl⟩ := Int.eq_ofNat_of_zero_le h0
  have hv : Utf8.valid (c : Int) = true := by unfold Utf8.valid; simp; omega
  unfold Utf8.encode
  simp only [hv, if_true, Int.toNat_natCast]
  by_cases c1 : c < 128
  · rw [if_pos c1]
    refine ⟨items_one (by simp) ?_, by show 1 ≤ Array.size _; simp, by show Array.size _ ≤ 4; simp⟩
    have e1 := b_nat c (by omega)
    have hn : need c = 1 := by unfold need; rw [if_pos c1]
    show one [UInt8.ofNat c] = _
    rw [one_cons, e1, hn, if_neg (by decide), if_neg (by show ¬ (1 < 1); decide)]
    simp [val, mask]
  · rw [if_neg c1]
    by_cases c2 : c < 2048
    · rw [if_pos c2]
      refine ⟨items_one (by simp) ?_, by show 1 ≤ Array.size _; simp, by show Array.size _ ≤ 4; simp⟩
      show one [UInt8.ofNat (192 + c / 64), UInt8.ofNat (128 + c % 64)] = _
      rw [two_one _ _ (by omega) (by omega)]
      have : (192 + c / 64) % 32 * 64 + (128 + c % 64) % 64 = c := by omega
      rw [this]; rfl
    · rw [if_neg c2]
      by_cases c3 : c < 65536
      · rw [if_pos c3]
        refine ⟨items_one (by simp) ?_, by show 1 ≤ Array.size _; simp, by show Array.size _ ≤ 4; simp⟩
        show one [UInt8.ofNat (224 + c / 4096), UInt8.ofNat (128 + c / 64 % 64), UInt8.ofNat (128 + c % 64)] = _
        rw [three_one _ _ _ (by omega) (by unfold lo2 hi2; repeat' split
                                           all_goals omega) (by omega)]
        have : ((224 + c / 4096) % 16 * 64 + (128 + c / 64 % 64) % 64) * 64 + (128 + c % 64) % 64 = c := by omega
        rw [this]; rfl
      · rw [if_neg c3]
        refine ⟨items_one (by simp) ?_, by show 1 ≤ Array.size _; simp, by show Array.size _ ≤ 4; simp⟩
        show one [UInt8.ofNat (240 + c / 262144), UInt8.ofNat (128 + c / 4096 % 64), UInt8.ofNat (128 + c / 64 % 64), UInt8.ofNat (128 + c % 64)] = _
        rw [four_one _ _ _ _ (by omega) (by unfold lo2 hi2; repeat' split
                                            all_goals omega) (by omega) (by omega)]
        have : (((240 + c / 262144) % 8 * 64 + (128 + c / 4096 % 64) % 64) * 64 + (128 + c / 64 % 64) % 64) * 64 + (128 + c % 64) % 64 = c := by omega
        rw [this]; rfl
end Go.Proofs.Yteonfhgcjcpfkaa
