/- A number told in digits: what is read is that number. -/
import Derived.Test.YtaadphifagimaaaDoorOn
namespace Go.Proofs.YtaadphifagimaaaDoor
open Go.RowKit

def valN (base : Nat) (l : List UInt8) : Nat := l.foldl (fun n b => n * base + dig b.toNat) 0
theorem foldl_val (base : Nat) (l : List UInt8) (a : Nat) : l.foldl (fun n b => n * base + dig b.toNat) a = a * base ^ l.length + valN base l := by
  unfold valN
  induction l generalizing a with
  | nil => simp
  | cons c l ih =>
    rw [List.foldl_cons, List.foldl_cons, ih, ih (0 * base + dig c.toNat), List.length_cons, Nat.pow_succ]
    simp only [Nat.add_mul, Nat.zero_mul, Nat.zero_add]
    rw [Nat.mul_assoc, Nat.mul_comm base]
    omega
theorem valN_cons (base : Nat) (c : UInt8) (l : List UInt8) : valN base (c :: l) = dig c.toNat * base ^ l.length + valN base l := by
  have := foldl_val base l (0 * base + dig c.toNat)
  rw [Nat.zero_mul, Nat.zero_add] at this
  unfold valN at this ⊢
  rw [List.foldl_cons, Nat.zero_mul, Nat.zero_add]
  exact this
theorem accN_val (base : Nat) (hb : 1 ≤ base) (l : List UInt8) (h : valN base l < 16777216) : accN base l = valN base l := by
  have key : ∀ r : List UInt8, valN base r.reverse < 16777216 → accN base r.reverse = valN base r.reverse := by
    intro r
    induction r with
    | nil => intro _; rfl
    | cons b r ih =>
      intro h
      have e : valN base (r.reverse ++ [b]) = valN base r.reverse * base + dig b.toNat := by unfold valN; rw [List.foldl_append]; rfl
      rw [List.reverse_cons] at h ⊢
      rw [e] at h ⊢
      have hm : valN base r.reverse ≤ valN base r.reverse * base := Nat.le_mul_of_pos_right _ hb
      rw [accN_snoc, ih (by omega)]
      omega
  have := key l.reverse
  rw [List.reverse_reverse] at this
  exact this h

/-- The digits so far, and what is left. -/
structure Dg (base N k : Nat) (l : List UInt8) : Prop where
  all : l.all (fun b => decide (dig b.toNat < base)) = true
  eq : k * base ^ l.length + valN base l = N
  sm : k * 2 ^ l.length ≤ N
  len : l.length ≤ 22

theorem Dg.start (base N : Nat) : Dg base N N [] := ⟨rfl, by simp [valN], by simp, by simp⟩
theorem Dg.next {base N k : Nat} {l : List UInt8} (D : Dg base N k l) (hb : 2 ≤ base) (hN : N < 2097152) (hk : 0 < k ∨ l = []) (c : UInt8) (hc : dig c.toNat = k % base) : Dg base N (k / base) (c :: l) := by
  have hmod := Nat.mod_lt k (show 0 < base by omega)
  refine ⟨?_, ?_, ?_, ?_⟩
  · rw [List.all_cons, D.all, hc]; simp [hmod]
  · rw [valN_cons, hc, List.length_cons, Nat.pow_succ, ← D.eq]
    have h1 : k = base * (k / base) + k % base := (Nat.div_add_mod k base).symm
    have h2 : k / base * (base ^ l.length * base) + k % base * base ^ l.length = k * base ^ l.length := by
      have h3 : (base * (k / base) + k % base) * base ^ l.length = k * base ^ l.length := by rw [← h1]
      rw [← h3, Nat.add_mul]
      congr 1
      rw [Nat.mul_comm (base ^ l.length) base, ← Nat.mul_assoc, Nat.mul_comm (k / base) base]
    omega
  · rw [List.length_cons, Nat.pow_succ]
    have h1 : k / base * 2 ≤ k := by
      have a := Nat.div_mul_le_self k base
      have b : k / base * 2 ≤ k / base * base := Nat.mul_le_mul_left _ hb
      omega
    have h2 : k / base * 2 * 2 ^ l.length ≤ k * 2 ^ l.length := Nat.mul_le_mul_right _ h1
    have h3 : k / base * (2 ^ l.length * 2) = k / base * 2 * 2 ^ l.length := by
      rw [Nat.mul_comm (2 ^ l.length) 2, ← Nat.mul_assoc]
    have := D.sm
    omega
  · rcases hk with hk | rfl
    · have h1 : 2 ^ l.length ≤ N := by
        have : 1 * 2 ^ l.length ≤ k * 2 ^ l.length := Nat.mul_le_mul_right _ hk
        have := D.sm
        omega
      have h2 : 2 ^ l.length < 2 ^ 21 := by
        have : (2 : Nat) ^ 21 = 2097152 := by decide
        omega
      have := (Nat.pow_lt_pow_iff_right (show 1 < 2 by decide)).1 h2
      simp; omega
    · simp

theorem digs_app {base : Nat} {l : List UInt8} (h : l.all (fun b => decide (dig b.toNat < base)) = true) (c : UInt8) (t : List UInt8) (hc : ¬ dig c.toNat < base) : digs base (l ++ c :: t) = l := by
  have := @digs_stop base (l ++ c :: t) l.length c (by rw [List.take_left]; exact h) (by simp) hc
  rw [this, List.take_left]

/-- What One tells of a number's text. -/
def numW (n : Int) (semi : Bool) (len : Nat) : Int × Nat × List Int :=
  ((chrP n).1, len, (if (chrP n).2 = 0 then [] else [(chrP n).2]) ++ (if semi = true then [] else [18]))

def hexS (hex : Bool) : List UInt8 := if hex = true then [38, 35, 120] else [38, 35]
def semS (semi : Bool) : List UInt8 := if semi = true then [59] else []
theorem ref_num (L : List Rf) (hex semi : Bool) {N : Nat} {l : List UInt8} (D : Dg (if hex = true then 16 else 10) N 0 l) (hN : N < 1179648) (hl : l ≠ []) :
    refP L false (hexS hex ++ l ++ semS semi ++ [32]) = numW N semi (hexS hex ++ l ++ semS semi).length := by
  have hv : valN (if hex = true then 16 else 10) l = N := by have := D.eq; omega
  have ha : accN (if hex = true then 16 else 10) l = N := by rw [accN_val _ (by split <;> decide) _ (by omega), hv]
  have hpos : l.length ≠ 0 := fun e => hl (List.eq_nil_of_length_eq_zero e)
  have hd59 : ∀ b : Nat, b ≤ 16 → ¬ dig (59 : UInt8).toNat < b := by
    intro b hb
    have : dig (59 : UInt8).toNat = 16 := by decide
    omega
  have hd32 : ∀ b : Nat, b ≤ 16 → ¬ dig (32 : UInt8).toNat < b := by
    intro b hb
    have : dig (32 : UInt8).toNat = 16 := by decide
    omega
  have hpre : [38, 35].isPrefixOf (hexS hex ++ l ++ semS semi ++ [32]) = true := by cases hex <;> simp [hexS, List.isPrefixOf]
  unfold refP
  rw [if_pos hpre]
  have key : ∀ base, base ≤ 16 → l.all (fun b => decide (dig b.toNat < base)) = true → digs base (l ++ semS semi ++ [32]) = l := by
    intro base hb hall
    cases semi
    · simpa [semS] using digs_app hall 32 [] (hd32 base hb)
    · simpa [semS] using digs_app hall 59 [32] (hd59 base hb)
  have hsem : [59].isPrefixOf (semS semi ++ [32]) = semi := by cases semi <;> rfl
  cases hex
  · have hk := key 10 (by decide) D.all
    have hP : numbP (hexS false ++ l ++ semS semi ++ [32]) = numB 2 10 (hexS false ++ l ++ semS semi ++ [32]) := by
      unfold numbP
      rw [if_neg]
      cases l with
      | nil => exact absurd rfl hl
      | cons c t =>
        have hc := D.all
        simp only [List.all_cons, Bool.and_eq_true, decide_eq_true_eq] at hc
        have hc1 : dig c.toNat < 10 := hc.1
        show ¬ (some c = some 120 ∨ some c = some 88)
        rintro (e | e)
        · rw [Option.some.inj e] at hc1; exact absurd hc1 (by decide)
        · rw [Option.some.inj e] at hc1; exact absurd hc1 (by decide)
    have hdr : (hexS false ++ l ++ semS semi ++ [32]).drop 2 = l ++ semS semi ++ [32] := rfl
    have hdr2 : (hexS false ++ l ++ semS semi ++ [32]).drop (2 + l.length) = semS semi ++ [32] := by
      rw [← List.drop_drop, hdr, List.append_assoc]; exact List.drop_left
    rw [hP]
    unfold numB
    have ha' : accN 10 l = N := ha
    rw [hdr, hk, if_neg hpos, hdr2, hsem, ha']
    cases semi <;> simp [numW, hexS, semS] <;> omega
  · have hk := key 16 (by decide) D.all
    have hP : numbP (hexS true ++ l ++ semS semi ++ [32]) = numB 3 16 (hexS true ++ l ++ semS semi ++ [32]) := by
      unfold numbP
      rw [if_pos (.inl rfl)]
    have hdr : (hexS true ++ l ++ semS semi ++ [32]).drop 3 = l ++ semS semi ++ [32] := rfl
    have hdr2 : (hexS true ++ l ++ semS semi ++ [32]).drop (3 + l.length) = semS semi ++ [32] := by
      rw [← List.drop_drop, hdr, List.append_assoc]; exact List.drop_left
    rw [hP]
    unfold numB
    have ha' : accN 16 l = N := ha
    rw [hdr, hk, if_neg hpos, hdr2, hsem, ha']
    cases semi <;> simp [numW, hexS, semS] <;> omega
end Go.Proofs.YtaadphifagimaaaDoor
