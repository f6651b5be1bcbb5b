/- plain: what the law takes for a plain name. -/
import Derived.Test.YtjjfalbngcbfaaaGreatDoorYd
namespace Go.Proofs.YtjjfalbngcbfaaaGreatDoor
open Go.RowKit

/-- A byte of a plain name. -/
def nameB (b : UInt8) : Bool := decide ((97 ≤ b.toNat ∧ b.toNat ≤ 122) ∨ (48 ≤ b.toNat ∧ b.toNat ≤ 57) ∨ b.toNat = 45)
/-- A plain name. -/
def plainB (s : ByteArray) : Bool := s.data.toList.all nameB && (decide (0 < s.size) && decide (s.size ≤ 200))
theorem G6.drop_i (s : ByteArray) (i : Nat) (h : i < s.size) : s.data.toList.drop i = s[i] :: s.data.toList.drop (i + 1) := by
  rw [List.drop_eq_getElem_cons (by simpa using h)]
  rfl

set_option maxHeartbeats 2000000 in
set_option maxRecDepth 20000 in
theorem plain_any (s : ByteArray) (w : World) (hs : s.size ≤ 9223372036854775807) : Calls Tryz.prog 19 #[.string s] w fun e w' => e = .returned (.bool (plainB s)) ∧ w' = w := by
  have hsz : s.data.toList.length = s.size := Array.length_toList
  go_enter Tryz.func19, Tryz.ntmps19
  go_wp2_with fail
  go_loopw [3] (fun iv wr => ∃ i : Nat, iv = .int .i64 i ∧ i ≤ s.size ∧ (s.data.toList.take i).all nameB = true ∧ wr = w) (fun iv _ => s.size - (intOf iv).toNat)
  case atStart => exact ⟨0, rfl, Nat.zero_le _, rfl, rfl⟩
  case round =>
    obtain ⟨i, rfl, hin, hall, rfl⟩ := hrel
    have HA : Hid ((s.data.toList.take i).all nameB = true) := hall
    clear hall
    by_cases hlt : i < s.size
    · have hlt' : decide ((i : Int) < (s.size : Int)) = true := decide_eq_true (by omega)
      obtain ⟨b, hb⟩ : ∃ b : Int, (s[i].toNat : Int) = b := ⟨_, rfl⟩
      have HBy : Hid ((s[i].toNat : Int) = b) := hb
      have hb0 : 0 ≤ b ∧ b ≤ 255 := by have := s[i].toNat_lt; omega
      have hr : (97 ≤ b ∧ b ≤ 122) ∨ (48 ≤ b ∧ b ≤ 57) ∨ (b = 45) ∨ (b < 48 ∧ b ≠ 45) ∨ (57 < b ∧ b < 97) ∨ (122 < b) := by omega
      rcases hr with hr | hr | hr | hr | hr | hr
      · have HN : Hid (nameB s[i] = true) := by
          show nameB s[i] = _
          unfold nameB
          simp; omega
        have c1 : decide ((s[i].toNat : Int) < 97) = false := decide_eq_false (by omega)
        have c2 : decide (122 < (s[i].toNat : Int)) = false := decide_eq_false (by omega)
        clear hr HBy hb0 hb
        go_wp2_with fail
        go_roundw
        case rel => exact ⟨i + 1, by go_num, by omega, by rw [G6.take_snoc' s i hlt, List.all_append, HA.out]; simp [HN.out], trivial⟩
        case measure => simp [intOf]; omega
      · have HN : Hid (nameB s[i] = true) := by
          show nameB s[i] = _
          unfold nameB
          simp; omega
        have c1 : decide ((s[i].toNat : Int) < 97) = true := decide_eq_true (by omega)
        have c3 : decide ((s[i].toNat : Int) < 48) = false := decide_eq_false (by omega)
        have c4 : decide (57 < (s[i].toNat : Int)) = false := decide_eq_false (by omega)
        clear hr HBy hb0 hb
        go_wp2_with fail
        go_roundw
        case rel => exact ⟨i + 1, by go_num, by omega, by rw [G6.take_snoc' s i hlt, List.all_append, HA.out]; simp [HN.out], trivial⟩
        case measure => simp [intOf]; omega
      · have HN : Hid (nameB s[i] = true) := by
          show nameB s[i] = _
          unfold nameB
          simp; omega
        have c1 : decide ((s[i].toNat : Int) < 97) = true := decide_eq_true (by omega)
        have c3 : decide ((s[i].toNat : Int) < 48) = true := decide_eq_true (by omega)
        have c5 : ((s[i].toNat : Int) != 45) = false := by simp; omega
        clear hr HBy hb0 hb
        go_wp2_with fail
        go_roundw
        case rel => exact ⟨i + 1, by go_num, by omega, by rw [G6.take_snoc' s i hlt, List.all_append, HA.out]; simp [HN.out], trivial⟩
        case measure => simp [intOf]; omega
      · have HN : Hid (nameB s[i] = false) := by
          show nameB s[i] = _
          unfold nameB
          simp; omega
        have c1 : decide ((s[i].toNat : Int) < 97) = true := decide_eq_true (by omega)
        have c3 : decide ((s[i].toNat : Int) < 48) = true := decide_eq_true (by omega)
        have c5 : ((s[i].toNat : Int) != 45) = true := by simp; omega
        clear hr HBy hb0 hb
        go_wp2_with fail
        go_ret
        refine ⟨?_, rfl⟩
        have : plainB s = false := by
          unfold plainB
          have h1 : s.data.toList.all nameB = false := by
            rw [← List.take_append_drop i s.data.toList, G6.drop_i s i hlt]
            simp [HN.out]
          rw [h1]
          rfl
        rw [this]
        rfl
      · have HN : Hid (nameB s[i] = false) := by
          show nameB s[i] = _
          unfold nameB
          simp; omega
        have c1 : decide ((s[i].toNat : Int) < 97) = true := decide_eq_true (by omega)
        have c3 : decide ((s[i].toNat : Int) < 48) = false := decide_eq_false (by omega)
        have c4 : decide (57 < (s[i].toNat : Int)) = true := decide_eq_true (by omega)
        have c5 : ((s[i].toNat : Int) != 45) = true := by simp; omega
        clear hr HBy hb0 hb
        go_wp2_with fail
        go_ret
        refine ⟨?_, rfl⟩
        have : plainB s = false := by
          unfold plainB
          have h1 : s.data.toList.all nameB = false := by
            rw [← List.take_append_drop i s.data.toList, G6.drop_i s i hlt]
            simp [HN.out]
          rw [h1]
          rfl
        rw [this]
        rfl
      · have HN : Hid (nameB s[i] = false) := by
          show nameB s[i] = _
          unfold nameB
          simp; omega
        have c1 : decide ((s[i].toNat : Int) < 97) = false := decide_eq_false (by omega)
        have c2 : decide (122 < (s[i].toNat : Int)) = true := decide_eq_true (by omega)
        have c3 : decide ((s[i].toNat : Int) < 48) = false := decide_eq_false (by omega)
        have c4 : decide (57 < (s[i].toNat : Int)) = true := decide_eq_true (by omega)
        have c5 : ((s[i].toNat : Int) != 45) = true := by simp; omega
        clear hr HBy hb0 hb
        go_wp2_with fail
        go_ret
        refine ⟨?_, rfl⟩
        have : plainB s = false := by
          unfold plainB
          have h1 : s.data.toList.all nameB = false := by
            rw [← List.take_append_drop i s.data.toList, G6.drop_i s i hlt]
            simp [HN.out]
          rw [h1]
          rfl
        rw [this]
        rfl
    · obtain rfl : i = s.size := by omega
      have hlt' : decide (((s.size : Nat) : Int) < (s.size : Int)) = false := decide_eq_false (by omega)
      have h1 : s.data.toList.all nameB = true := by
        have := HA.out
        rw [List.take_of_length_le (by omega)] at this
        exact this
      by_cases h0 : s = ByteArray.empty
      · subst h0
        go_wp2_with fail
        go_ret
        exact ⟨rfl, rfl⟩
      · have hpos : 0 < s.size := by
          rcases Nat.eq_zero_or_pos s.size with e | e
          · exact absurd (G6.empty_of_size s e) h0
          · exact e
        have hne : s.toList.isEmpty = false := by
          rw [ByteArray.toList_eq]
          cases e : s.data.toList with
          | nil => rw [e] at hsz; simp at hsz; omega
          | cons x l => rfl
        have hp : plainB s = decide (s.size ≤ 200) := by
          unfold plainB
          rw [h1]
          simp [hpos]
        have HP : Hid (plainB s = decide (s.size ≤ 200)) := hp
        obtain ⟨v, hv⟩ : ∃ v, decide (s.size ≤ 200) = v := ⟨_, rfl⟩
        have hv' : decide ((s.size : Int) ≤ 200) = v := by rw [← hv]; apply decide_eq_decide.2; omega
        clear h1 HA hp
        go_wp2_with fail
        go_ret
        refine ⟨?_, rfl⟩
        rw [HP.out]
        exact congrArg (fun x => Ending.returned (Value.bool x)) hv.symm
end Go.Proofs.YtjjfalbngcbfaaaGreatDoor
