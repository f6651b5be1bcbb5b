/- The number that a text begins with: digit, number. -/
import Derived.Test.YtdiealijjhfhjaaGreatDoorZc
namespace Go.Proofs.YtdiealijjhfhjaaGreatDoor.G6
open Go.RowKit
def dig (b : Nat) : Nat := if 48 ≤ b ∧ b ≤ 57 then b - 48 else if 97 ≤ b ∧ b ≤ 102 then b - 87 else if 65 ≤ b ∧ b ≤ 70 then b - 55 else 16
def accN (base : Nat) (l : List UInt8) : Nat := l.foldl (fun n b => min (n * base + dig b.toNat) 16777216) 0
def digs (base : Nat) (l : List UInt8) : List UInt8 := l.takeWhile (fun b => decide (dig b.toNat < base))
theorem dig_le (b : Nat) : dig b ≤ 16 := by unfold dig; repeat' split
                                            all_goals omega
theorem accN_le (base : Nat) (l : List UInt8) : accN base l ≤ 16777216 := by
  unfold accN
  rcases List.eq_nil_or_concat l with rfl | ⟨a, b, rfl⟩
  · simp
  · rw [List.concat_eq_append, List.foldl_append]
    exact Nat.min_le_right _ _
theorem accN_snoc (base : Nat) (l : List UInt8) (b : UInt8) : accN base (l ++ [b]) = min (accN base l * base + dig b.toNat) 16777216 := by
  unfold accN
  rw [List.foldl_append]
  rfl
theorem digs_stop {base : Nat} {l : List UInt8} {i : Nat} {b : UInt8} (h : (l.take i).all (fun b => decide (dig b.toNat < base)) = true) (hb : l[i]? = some b) (hd : ¬ dig b.toNat < base) : digs base l = l.take i := by
  induction i generalizing l with
  | zero =>
    cases l with
    | nil => simp at hb
    | cons x l => simp at hb; subst hb; simp [digs, hd]
  | succ i ih =>
    cases l with
    | nil => simp at hb
    | cons x l =>
      simp only [List.take_succ_cons, List.all_cons, Bool.and_eq_true, decide_eq_true_eq] at h
      have := ih h.2 (by simpa using hb)
      unfold digs at this ⊢
      rw [List.takeWhile_cons, if_pos (by simp [h.1]), this, List.take_succ_cons]
theorem digs_all {base : Nat} {l : List UInt8} (h : l.all (fun b => decide (dig b.toNat < base)) = true) : digs base l = l := by
  induction l with
  | nil => rfl
  | cons x l ih =>
    simp only [List.all_cons, Bool.and_eq_true, decide_eq_true_eq] at h
    have := ih h.2
    unfold digs at this ⊢
    rw [List.takeWhile_cons, if_pos (by simp [h.1]), this]
theorem take_snoc' (s : ByteArray) (i : Nat) (h : i < s.size) : s.data.toList.take (i + 1) = s.data.toList.take i ++ [s[i]] := by
  have h2 : i < s.data.toList.length := by rw [Array.length_toList]; exact h
  rw [← List.take_append_getElem h2]
  rfl
theorem at_i (s : ByteArray) (i : Nat) (h : i < s.size) : s.data.toList[i]? = some s[i] := by
  have h2 : i < s.data.toList.length := by rw [Array.length_toList]; exact h
  rw [List.getElem?_eq_getElem h2]
  rfl
set_option maxHeartbeats 1000000 in
theorem digit_any (b : Nat) (w : World) (hb : b ≤ 255) : Calls Tryz.prog 212 #[.int .u8 (b : Int)] w fun e w' => e = .returned (.int .i64 (dig b : Nat)) ∧ w' = w := by
  go_enter Tryz.func212, Tryz.ntmps212
  go_wp2
  all_goals
    go_ret
    refine ⟨ret_int ?_, rfl⟩
    unfold dig
    repeat' split
    all_goals omega
set_option maxHeartbeats 1000000 in
theorem pnumber_any (s : ByteArray) (base : Nat) (w : World) (hs : s.size ≤ 9223372036854775807) (hb : base ≤ 16) :
    Calls Tryz.prog 190 #[.string s, .int .i64 (base : Int)] w fun e w' => e = .returned (.tuple #[.int .i64 (accN base (digs base s.data.toList) : Nat), .int .i64 ((digs base s.data.toList).length : Nat)]) ∧ w' = w := by
  go_enter Tryz.func190, Tryz.ntmps190
  go_wp2_with fail
  go_loopw [6, 11] (fun nv iv wr => ∃ (i : Nat), iv = .int .i64 i ∧ i ≤ s.size ∧ nv = .int .i64 (accN base (s.data.toList.take i) : Nat) ∧ (s.data.toList.take i).all (fun b => decide (dig b.toNat < base)) = true ∧ wr = w) (fun _ iv _ => s.size - (intOf iv).toNat)
  case atStart => exact ⟨0, rfl, Nat.zero_le _, rfl, rfl, rfl⟩
  case round =>
    obtain ⟨i, rfl, hi, rfl, hall, rfl⟩ := hrel
    have HA : Hid ((s.data.toList.take i).all (fun b => decide (dig b.toNat < base)) = true) := hall
    have hle := accN_le base (s.data.toList.take i)
    obtain ⟨a, ha⟩ : ∃ a, accN base (s.data.toList.take i) = a := ⟨_, rfl⟩
    rw [ha] at hle ⊢
    have HN : Hid (accN base (s.data.toList.take i) = a) := ha
    clear hall ha
    by_cases hlt : i < s.size
    · have hdg := fun w => digit_any (s[i].toNat) w (by have := UInt8.toNat_lt s[i]; omega)
      have hdl := dig_le s[i].toNat
      obtain ⟨d, hd⟩ : ∃ d, dig s[i].toNat = d := ⟨_, rfl⟩
      rw [hd] at hdg hdl
      have HD : Hid (dig s[i].toNat = d) := hd
      clear hd
      by_cases hdb : d < base
      · have hmul : a * base ≤ 16777216 * 16 := Nat.mul_le_mul hle hb
        obtain ⟨p, hp⟩ : ∃ p, a * base = p := ⟨_, rfl⟩
        have hp2 : (a : Int) * (base : Int) = (p : Int) := by rw [← hp]; simp
        have HM : Hid (a * base = p) := hp
        rw [hp] at hmul
        clear hp
        go_wp2_with (go_at_call 212; refine (hdg _).mono ?_; rintro e w' ⟨rfl, rfl⟩)
        all_goals
          refine ⟨⟨i + 1, by go_num, by omega, ?_, ?_, by first | rfl | trivial⟩, by simp [intOf]; omega⟩
          · rw [take_snoc' s i hlt, accN_snoc, HN.out, HD.out, HM.out]
            congr 1
            split <;> omega
          · rw [take_snoc' s i hlt, List.all_append, HA.out]
            simp [HD.out, hdb]
      · go_wp2_with (go_at_call 212; refine (hdg _).mono ?_; rintro e w' ⟨rfl, rfl⟩)
        go_ret2
        have e := digs_stop HA.out (at_i s i hlt) (by rw [HD.out]; exact hdb)
        rw [e, HN.out, List.length_take, Array.length_toList]
        refine ⟨?_, rfl⟩
        have : min i s.data.size = i := Nat.min_eq_left hi
        rw [this]
        rfl
    · have hie : i = s.size := by omega
      subst hie
      go_wp2_with fail
      go_ret2
      have et : s.data.toList.take s.size = s.data.toList := List.take_of_length_le (by rw [Array.length_toList]; exact Nat.le_refl _)
      have h1 := HA.out
      have h2 := HN.out
      rw [et] at h1 h2
      rw [digs_all h1, h2, Array.length_toList]
      exact ⟨rfl, rfl⟩
end Go.Proofs.YtdiealijjhfhjaaGreatDoor.G6
