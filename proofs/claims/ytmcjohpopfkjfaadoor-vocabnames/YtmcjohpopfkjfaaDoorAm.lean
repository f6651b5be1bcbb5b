/- The document's Among: whether a name is one of a text's words. -/
import Derived.Test.YtmcjohpopfkjfaaDoorTb
namespace Go.Proofs.YtmcjohpopfkjfaaDoor
open Go.RowKit

/-- What stands from a place to another. -/
def seg (t : ByteArray) (f i : Nat) : List UInt8 := (t.data.toList.take i).drop f
theorem extract_seg (t : ByteArray) (f i : Nat) : (t.extract f i).data.toList = seg t f i := by
  rw [ByteArray.data_extract, Array.toList_extract]
  unfold seg
  simp [List.extract, List.drop_take]
theorem drop_at (t : ByteArray) (i : Nat) (h : i < t.size) : t.data.toList.drop i = t[i] :: t.data.toList.drop (i + 1) := by
  rw [List.drop_eq_getElem_cons (by rw [Array.length_toList]; exact h)]
  rfl
theorem seg_more (t : ByteArray) (f i : Nat) (hf : f ≤ i) (h : i < t.size) : seg t f (i + 1) = seg t f i ++ [t[i]] := by
  have hl : i < t.data.toList.length := by rw [Array.length_toList]; exact h
  unfold seg
  rw [← List.take_append_getElem hl, List.drop_append_of_le_length (by rw [List.length_take]; omega)]
  rfl
theorem seg_none (t : ByteArray) (i : Nat) : seg t i i = [] := by
  unfold seg
  exact List.drop_eq_nil_of_le (by rw [List.length_take]; omega)
theorem seg_len (t : ByteArray) (f i : Nat) (h : i ≤ t.size) : (seg t f i).length = i - f := by
  have hl : t.data.toList.length = t.size := Array.length_toList
  unfold seg
  rw [List.length_drop, List.length_take]
  omega

theorem one_cons (s : ByteArray) (x : List UInt8) (l : List (List UInt8)) : one s (x :: l) = ((x == s.data.toList && decide (0 < x.length)) || one s l) := rfl

/-- What Among still says at a place. -/
def rest (s t : ByteArray) (f i : Nat) : Bool := if i ≤ t.size then one s (words (seg t f i) (t.data.toList.drop i)) else false
theorem rest_on (s t : ByteArray) (f i : Nat) (hf : f ≤ i) (h : i < t.size) (hb : ¬ (t[i].toNat : Int) = 32) : rest s t f i = rest s t f (i + 1) := by
  have h32 : ¬ t[i] = 32 := fun e => hb (by rw [e]; rfl)
  unfold rest
  rw [if_pos (by omega), if_pos (by omega), drop_at t i h, words, if_neg h32, seg_more t f i hf h]
theorem rest_cut (s t : ByteArray) (f i : Nat) (h : i ≤ t.size) (hb : ∀ h : i < t.size, (t[i].toNat : Int) = 32) :
    rest s t f i = ((seg t f i == s.data.toList && decide (f < i)) || rest s t (i + 1) (i + 1)) := by
  have hd : decide (0 < (seg t f i).length) = decide (f < i) := by rw [seg_len t f i h]; congr 1; exact propext (by omega)
  by_cases hl : i < t.size
  · have h32 : t[i] = 32 := UInt8.toNat_inj.1 (by have := hb hl; show t[i].toNat = 32; omega)
    unfold rest
    rw [if_pos h, if_pos (by omega), drop_at t i hl, words, if_pos h32, one_cons, hd, seg_none]
  · unfold rest
    rw [if_pos h, if_neg (by omega), List.drop_eq_nil_of_le (by rw [Array.length_toList]; show t.size ≤ i; omega), words, one_cons, hd]
    rfl

set_option maxHeartbeats 1000000 in
theorem among_any (s t : ByteArray) (w : World) (ht : t.size ≤ 100000) : Calls Tryd.prog 28 #[.string s, .string t] w fun e w' => e = .returned (.bool (one s (words [] t.data.toList))) ∧ w' = w := by
  obtain ⟨g, hg0⟩ : ∃ g, one s (words [] t.data.toList) = g := ⟨_, rfl⟩
  have HG : Hid (rest s t 0 0 = g) := by
    show _ = _
    unfold rest
    rw [if_pos (Nat.zero_le _), seg_none]
    exact hg0
  rw [hg0]
  clear hg0
  go_enter Tryd.func28, Tryd.ntmps28
  go_wp2_with fail
  go_loop [5, 6] (fun fv iv => ∃ f i : Nat, fv = .int .i64 f ∧ iv = .int .i64 i ∧ i ≤ t.size + 1 ∧ f ≤ i ∧ rest s t f i = g) (fun _ iv => t.size + 1 - (intOf iv).toNat)
  case atStart => exact ⟨0, 0, rfl, rfl, Nat.zero_le _, Nat.le_refl _, HG.out⟩
  case round =>
    obtain ⟨f, i, rfl, rfl, hi, hf, hre⟩ := hrel
    have HRE : Hid (rest s t f i = g) := hre
    clear hre
    by_cases hin : i ≤ t.size
    · by_cases hb : ∀ h : i < t.size, (t[i].toNat : Int) = 32
      · have hcut := rest_cut s t f i hin hb
        rw [← extract_seg] at hcut
        have hq : ((t.extract f i).data.toList == s.data.toList) = ((t.extract f i).toList == s.toList) := by rw [ByteArray.toList_eq, ByteArray.toList_eq]
        rw [hq] at hcut
        have HC : Hid (rest s t f i = (((t.extract f i).toList == s.toList && decide (f < i)) || rest s t (i + 1) (i + 1))) := hcut
        clear hcut hq
        have fin : (((t.extract f i).toList == s.toList && decide (f < i)) = false) → rest s t (i + 1) (i + 1) = g := fun h => by
          have := HC.out
          rw [h, Bool.false_or] at this
          exact this.symm.trans HRE.out
        have fin2 : (((t.extract f i).toList == s.toList && decide (f < i)) = true) → true = g := fun h => by
          have := HC.out
          rw [h, Bool.true_or] at this
          exact this.symm.trans HRE.out
        have HF : Hid _ := fin
        have HF2 : Hid _ := fin2
        clear fin fin2
        by_cases hlt : i < t.size
        · have h32 := hb hlt
          clear hb
          have hne : ((i : Int) == (t.size : Int)) = false := beq_false_of_ne (by omega)
          cases hp : ((t.extract f i).toList == s.toList) with
          | true =>
            by_cases hfi : f < i
            · have hd : decide ((f : Int) < (i : Int)) = true := decide_eq_true (by omega)
              have HT : Hid (true = g) := HF2.out (by rw [hp, decide_eq_true hfi]; rfl)
              clear HF HF2 HC
              go_wp2_with fail
              go_ret
              rw [← HT.out]
              exact ⟨rfl, rfl⟩
            · have hd : decide ((f : Int) < (i : Int)) = false := decide_eq_false (by omega)
              have HT : Hid (rest s t (i + 1) (i + 1) = g) := HF.out (by rw [decide_eq_false hfi, Bool.and_false])
              clear HF HF2 HC
              go_wp2_with fail
              exact ⟨⟨i + 1, i + 1, by go_num, by go_num, by omega, Nat.le_refl _, HT.out⟩, by simp [intOf]; omega⟩
          | false =>
            have HT : Hid (rest s t (i + 1) (i + 1) = g) := HF.out (by rw [hp]; rfl)
            clear HF HF2 HC
            go_wp2_with fail
            exact ⟨⟨i + 1, i + 1, by go_num, by go_num, by omega, Nat.le_refl _, HT.out⟩, by simp [intOf]; omega⟩
        · obtain rfl : i = t.size := by omega
          clear hb hlt
          cases hp : ((t.extract f t.size).toList == s.toList) with
          | true =>
            by_cases hfi : f < t.size
            · have hd : decide ((f : Int) < (t.size : Int)) = true := decide_eq_true (by omega)
              have HT : Hid (true = g) := HF2.out (by rw [hp, decide_eq_true hfi]; rfl)
              clear HF HF2 HC
              go_wp2_with fail
              go_ret
              rw [← HT.out]
              exact ⟨rfl, rfl⟩
            · have hd : decide ((f : Int) < (t.size : Int)) = false := decide_eq_false (by omega)
              have HT : Hid (rest s t (t.size + 1) (t.size + 1) = g) := HF.out (by rw [decide_eq_false hfi, Bool.and_false])
              clear HF HF2 HC
              go_wp2_with fail
              exact ⟨⟨t.size + 1, t.size + 1, by go_num, by go_num, by omega, Nat.le_refl _, HT.out⟩, by simp [intOf]⟩
          | false =>
            have HT : Hid (rest s t (t.size + 1) (t.size + 1) = g) := HF.out (by rw [hp]; rfl)
            clear HF HF2 HC
            go_wp2_with fail
            exact ⟨⟨t.size + 1, t.size + 1, by go_num, by go_num, by omega, Nat.le_refl _, HT.out⟩, by simp [intOf]⟩
      · obtain ⟨hlt, hn32⟩ := Classical.not_forall.1 hb
        clear hb
        have HT : Hid (rest s t f (i + 1) = g) := (rest_on s t f i hf hlt hn32).symm.trans HRE.out
        have hne : ((i : Int) == (t.size : Int)) = false := beq_false_of_ne (by omega)
        have hn32' := beq_false_of_ne hn32
        go_wp2_with fail
        exact ⟨⟨f, i + 1, rfl, by go_num, by omega, by omega, HT.out⟩, by simp [intOf]; omega⟩
    · have hg : decide ((i : Int) ≤ (t.size : Int)) = false := decide_eq_false (by omega)
      have HT : Hid (false = g) := by
        have := HRE.out
        unfold rest at this
        rw [if_neg hin] at this
        exact this
      go_wp2_with fail
      go_ret
      rw [← HT.out]
      exact ⟨rfl, rfl⟩
end Go.Proofs.YtmcjohpopfkjfaaDoor
