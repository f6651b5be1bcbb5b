/- vocab: Lower, Blank, both sides; TextOf. -/
import Derived.Test.YtkbakbacomidbaaProg
import Derived.Below
import Derived.BigQuiet
import Derived.BigRegion
import Derived.Deep.DeepCutAuto
import Derived.Deep.LoopGhost
import Derived.Deep.QuietTactic
import Derived.Deep.RegionHeld3
import Derived.Deep.RegionLaw
import Derived.Deep.RegionWith
import Derived.Deep.Upon
import Derived.Laws.EntriesVeiled
import Derived.Laws.IdiomStrings
import Derived.Laws.StructEq
import Derived.Lib.RuneBytes
import Derived.Maps.AppendAt
import Derived.Maps.OwnSet
import Derived.OwnWalk
import Derived.WalkArith
import Derived.WalkKit
import Derived.WalkLawsBesides
import Derived.WalkMore
import Derived.WalkSpells
namespace Go.Proofs.Ytkbakbacomidbaa.G7
open Go.RowKit
/-- The lists of names. -/
def tab : Nat → List (List UInt8)
  | 0 => [[97, 114, 101, 97], [98, 97, 115, 101], [98, 114], [99, 111, 108], [101, 109, 98, 101, 100], [104, 114], [105, 109, 103], [105, 110, 112, 117, 116], [107, 101, 121, 103, 101, 110], [108, 105, 110, 107], [109, 101, 116, 97], [112, 97, 114, 97, 109], [115, 111, 117, 114, 99, 101], [116, 114, 97, 99, 107], [119, 98, 114]]
  | 1 => [[97], [98], [98, 105, 103], [99, 111, 100, 101], [101, 109], [102, 111, 110, 116], [105], [110, 111, 98, 114], [115], [115, 109, 97, 108, 108], [115, 116, 114, 105, 107, 101], [115, 116, 114, 111, 110, 103], [116, 116], [117]]
  | 2 => [[100, 100], [100, 116], [108, 105], [111, 112, 116, 103, 114, 111, 117, 112], [111, 112, 116, 105, 111, 110], [112], [114, 98], [114, 112], [114, 116], [114, 116, 99]]
  | 3 => [[104, 49], [104, 50], [104, 51], [104, 52], [104, 53], [104, 54]]
  | 4 => [[97, 100, 100, 114, 101, 115, 115], [97, 114, 116, 105, 99, 108, 101], [97, 115, 105, 100, 101], [98, 108, 111, 99, 107, 113, 117, 111, 116, 101], [99, 101, 110, 116, 101, 114], [100, 101, 116, 97, 105, 108, 115], [100, 105, 97, 108, 111, 103], [100, 105, 114], [100, 105, 118], [100, 108], [102, 105, 101, 108, 100, 115, 101, 116], [102, 105, 103, 99, 97, 112, 116, 105, 111, 110], [102, 105, 103, 117, 114, 101], [102, 111, 111, 116, 101, 114], [104, 101, 97, 100, 101, 114], [104, 103, 114, 111, 117, 112], [109, 97, 105, 110], [109, 101, 110, 117], [110, 97, 118], [111, 108], [115, 101, 99, 116, 105, 111, 110], [115, 117, 109, 109, 97, 114, 121], [117, 108]]
  | 5 => [[97, 112, 112, 108, 101, 116], [98, 111, 100, 121], [98, 117, 116, 116, 111, 110], [99, 97, 112, 116, 105, 111, 110], [99, 111, 108, 103, 114, 111, 117, 112], [100, 100], [100, 116], [102, 111, 114, 109], [104, 101, 97, 100], [104, 116, 109, 108], [105, 102, 114, 97, 109, 101], [108, 105], [108, 105, 115, 116, 105, 110, 103], [109, 97, 114, 113, 117, 101, 101], [110, 111, 101, 109, 98, 101, 100], [111, 98, 106, 101, 99, 116], [112], [112, 108, 97, 105, 110, 116, 101, 120, 116], [112, 114, 101], [115, 99, 114, 105, 112, 116], [115, 101, 108, 101, 99, 116], [115, 116, 121, 108, 101], [116, 97, 98, 108, 101], [116, 98, 111, 100, 121], [116, 100], [116, 101, 120, 116, 97, 114, 101, 97], [116, 102, 111, 111, 116], [116, 104], [116, 104, 101, 97, 100], [116, 105, 116, 108, 101], [116, 114], [120, 109, 112]]
  | 6 => [[102, 111, 114, 101, 105, 103, 110, 79, 98, 106, 101, 99, 116], [100, 101, 115, 99], [116, 105, 116, 108, 101]]
  | 7 => [[109, 105], [109, 111], [109, 110], [109, 115], [109, 116, 101, 120, 116]]
  | 8 => [[116, 105, 116, 108, 101], [116, 101, 120, 116, 97, 114, 101, 97]]
  | 9 => [[115, 116, 121, 108, 101], [115, 99, 114, 105, 112, 116], [120, 109, 112], [105, 102, 114, 97, 109, 101], [110, 111, 101, 109, 98, 101, 100]]
  | 10 => [[112, 108, 97, 105, 110, 116, 101, 120, 116]]
  | _ => []
/-- The lists as texts with blanks between the names. -/
def txt : Nat → List UInt8
  | 0 => [97, 114, 101, 97, 32, 98, 97, 115, 101, 32, 98, 114, 32, 99, 111, 108, 32, 101, 109, 98, 101, 100, 32, 104, 114, 32, 105, 109, 103, 32, 105, 110, 112, 117, 116, 32, 107, 101, 121, 103, 101, 110, 32, 108, 105, 110, 107, 32, 109, 101, 116, 97, 32, 112, 97, 114, 97, 109, 32, 115, 111, 117, 114, 99, 101, 32, 116, 114, 97, 99, 107, 32, 119, 98, 114]
  | 1 => [97, 32, 98, 32, 98, 105, 103, 32, 99, 111, 100, 101, 32, 101, 109, 32, 102, 111, 110, 116, 32, 105, 32, 110, 111, 98, 114, 32, 115, 32, 115, 109, 97, 108, 108, 32, 115, 116, 114, 105, 107, 101, 32, 115, 116, 114, 111, 110, 103, 32, 116, 116, 32, 117]
  | 2 => [100, 100, 32, 100, 116, 32, 108, 105, 32, 111, 112, 116, 103, 114, 111, 117, 112, 32, 111, 112, 116, 105, 111, 110, 32, 112, 32, 114, 98, 32, 114, 112, 32, 114, 116, 32, 114, 116, 99]
  | 3 => [104, 49, 32, 104, 50, 32, 104, 51, 32, 104, 52, 32, 104, 53, 32, 104, 54]
  | 4 => [97, 100, 100, 114, 101, 115, 115, 32, 97, 114, 116, 105, 99, 108, 101, 32, 97, 115, 105, 100, 101, 32, 98, 108, 111, 99, 107, 113, 117, 111, 116, 101, 32, 99, 101, 110, 116, 101, 114, 32, 100, 101, 116, 97, 105, 108, 115, 32, 100, 105, 97, 108, 111, 103, 32, 100, 105, 114, 32, 100, 105, 118, 32, 100, 108, 32, 102, 105, 101, 108, 100, 115, 101, 116, 32, 102, 105, 103, 99, 97, 112, 116, 105, 111, 110, 32, 102, 105, 103, 117, 114, 101, 32, 102, 111, 111, 116, 101, 114, 32, 104, 101, 97, 100, 101, 114, 32, 104, 103, 114, 111, 117, 112, 32, 109, 97, 105, 110, 32, 109, 101, 110, 117, 32, 110, 97, 118, 32, 111, 108, 32, 115, 101, 99, 116, 105, 111, 110, 32, 115, 117, 109, 109, 97, 114, 121, 32, 117, 108]
  | 5 => [97, 112, 112, 108, 101, 116, 32, 98, 111, 100, 121, 32, 98, 117, 116, 116, 111, 110, 32, 99, 97, 112, 116, 105, 111, 110, 32, 99, 111, 108, 103, 114, 111, 117, 112, 32, 100, 100, 32, 100, 116, 32, 102, 111, 114, 109, 32, 104, 101, 97, 100, 32, 104, 116, 109, 108, 32, 105, 102, 114, 97, 109, 101, 32, 108, 105, 32, 108, 105, 115, 116, 105, 110, 103, 32, 109, 97, 114, 113, 117, 101, 101, 32, 110, 111, 101, 109, 98, 101, 100, 32, 111, 98, 106, 101, 99, 116, 32, 112, 32, 112, 108, 97, 105, 110, 116, 101, 120, 116, 32, 112, 114, 101, 32, 115, 99, 114, 105, 112, 116, 32, 115, 101, 108, 101, 99, 116, 32, 115, 116, 121, 108, 101, 32, 116, 97, 98, 108, 101, 32, 116, 98, 111, 100, 121, 32, 116, 100, 32, 116, 101, 120, 116, 97, 114, 101, 97, 32, 116, 102, 111, 111, 116, 32, 116, 104, 32, 116, 104, 101, 97, 100, 32, 116, 105, 116, 108, 101, 32, 116, 114, 32, 120, 109, 112]
  | 6 => [102, 111, 114, 101, 105, 103, 110, 79, 98, 106, 101, 99, 116, 32, 100, 101, 115, 99, 32, 116, 105, 116, 108, 101]
  | 7 => [109, 105, 32, 109, 111, 32, 109, 110, 32, 109, 115, 32, 109, 116, 101, 120, 116]
  | 8 => [116, 105, 116, 108, 101, 32, 116, 101, 120, 116, 97, 114, 101, 97]
  | 9 => [115, 116, 121, 108, 101, 32, 115, 99, 114, 105, 112, 116, 32, 120, 109, 112, 32, 105, 102, 114, 97, 109, 101, 32, 110, 111, 101, 109, 98, 101, 100]
  | 10 => [112, 108, 97, 105, 110, 116, 101, 120, 116]
  | _ => []
/-- Whether a list has a name. -/
def has (k : Nat) (s : ByteArray) : Bool := (tab k).any fun x => x == s.data.toList
/-- The words of what is ahead and of a text. -/
def words (acc : List UInt8) : List UInt8 → List (List UInt8)
  | [] => [acc]
  | c :: l => if c = 32 then acc :: words [] l else words (acc ++ [c]) l
/-- Whether one of the words is that name. -/
def one (s : ByteArray) (l : List (List UInt8)) : Bool := l.any fun x => x == s.data.toList && decide (0 < x.length)
theorem one_words (s : ByteArray) (k : Nat) (hk : k < 11) : one s (words [] (txt k)) = has k s := by
  have h1 : ∀ k, k < 11 → words [] (txt k) = tab k ∧ ∀ x ∈ tab k, 0 < x.length := by decide +kernel
  rw [(h1 k hk).1]
  unfold one has
  have h2 := (h1 k hk).2
  generalize tab k = l at h2
  induction l with
  | nil => rfl
  | cons x l ih =>
    rw [List.any_cons, List.any_cons, ih fun y hy => h2 y (List.mem_cons_of_mem _ hy)]
    simp [h2 x (List.mem_cons_self ..)]
theorem list_len (s : ByteArray) : s.data.toList.length = s.size := Array.length_toList
/-- A letter A to Z as a to z. -/
def low (c : UInt8) : UInt8 := if 65 ≤ c ∧ c ≤ 90 then c + 32 else c
def lowP (s : ByteArray) : ByteArray := ⟨(s.data.toList.map low).toArray⟩
/-- A blank. -/
def blk (r : Int) : Bool := decide (r = 9 ∨ r = 10 ∨ r = 12 ∨ r = 32)
/-- The text that an element's name tells. -/
def textK (s : ByteArray) : Int := if has 8 s then 1 else if has 9 s then 2 else if has 10 s then 3 else 0
theorem has_plain (s : ByteArray) : has 10 s = (s.data.toList == [112, 108, 97, 105, 110, 116, 101, 120, 116]) := by
  show (List.any [[112, 108, 97, 105, 110, 116, 101, 120, 116]] fun x => x == s.data.toList) = _
  rw [List.any_cons, List.any_nil, Bool.or_false, Bool.eq_iff_iff, beq_iff_eq, beq_iff_eq]
  exact eq_comm
/-- What stands from a place to another. -/
def seg (t : ByteArray) (f i : Nat) : List UInt8 := (t.data.toList.take i).drop f
theorem extract_seg (t : ByteArray) (f i : Nat) : (t.extract f i).data.toList = seg t f i := by
  rw [ByteArray.data_extract, Array.toList_extract]
  unfold seg
  simp [List.extract, List.drop_take]
theorem drop_at (t : ByteArray) (i : Nat) (h : i < t.size) : t.data.toList.drop i = t[i] :: t.data.toList.drop (i + 1) := by
  rw [List.drop_eq_getElem_cons (by rw [Array.length_toList]; exact h)]
  rfl
theorem seg_more (t : ByteArray) (f i : Nat) (hf : f ≤ i) (h : i < t.size) : seg t f (i + 1) = seg t f i ++ [t[i]] := by
  have hl : i < t.data.toList.length := by rw [Array.length_toList]; exact h
  unfold seg
  rw [← List.take_append_getElem hl, List.drop_append_of_le_length (by rw [List.length_take]; omega)]
  rfl
theorem seg_none (t : ByteArray) (i : Nat) : seg t i i = [] := by
  unfold seg
  exact List.drop_eq_nil_of_le (by rw [List.length_take]; omega)
theorem seg_len (t : ByteArray) (f i : Nat) (h : i ≤ t.size) : (seg t f i).length = i - f := by
  have hl : t.data.toList.length = t.size := Array.length_toList
  unfold seg
  rw [List.length_drop, List.length_take]
  omega
theorem one_cons (s : ByteArray) (x : List UInt8) (l : List (List UInt8)) : one s (x :: l) = ((x == s.data.toList && decide (0 < x.length)) || one s l) := rfl
/-- What Among still says at a place. -/
def rest (s t : ByteArray) (f i : Nat) : Bool := if i ≤ t.size then one s (words (seg t f i) (t.data.toList.drop i)) else false
theorem rest_on (s t : ByteArray) (f i : Nat) (hf : f ≤ i) (h : i < t.size) (hb : ¬ (t[i].toNat : Int) = 32) : rest s t f i = rest s t f (i + 1) := by
  have h32 : ¬ t[i] = 32 := fun e => hb (by rw [e]; rfl)
  unfold rest
  rw [if_pos (by omega), if_pos (by omega), drop_at t i h, words, if_neg h32, seg_more t f i hf h]
theorem rest_cut (s t : ByteArray) (f i : Nat) (h : i ≤ t.size) (hb : ∀ h : i < t.size, (t[i].toNat : Int) = 32) :
    rest s t f i = ((seg t f i == s.data.toList && decide (f < i)) || rest s t (i + 1) (i + 1)) := by
  have hd : decide (0 < (seg t f i).length) = decide (f < i) := by rw [seg_len t f i h]; congr 1; exact propext (by omega)
  by_cases hl : i < t.size
  · have h32 : t[i] = 32 := UInt8.toNat_inj.1 (by have := hb hl; show t[i].toNat = 32; omega)
    unfold rest
    rw [if_pos h, if_pos (by omega), drop_at t i hl, words, if_pos h32, one_cons, hd, seg_none]
  · unfold rest
    rw [if_pos h, if_neg (by omega), List.drop_eq_nil_of_le (by rw [Array.length_toList]; show t.size ≤ i; omega), words, one_cons, hd]
    rfl
set_option maxHeartbeats 1000000 in
theorem among_any (s t : ByteArray) (w : World) (ht : t.size ≤ 100000) : Calls Try.prog 40 #[.string s, .string t] w fun e w' => e = .returned (.bool (one s (words [] t.data.toList))) ∧ w' = w := by
  obtain ⟨g, hg0⟩ : ∃ g, one s (words [] t.data.toList) = g := ⟨_, rfl⟩
  have HG : Hid (rest s t 0 0 = g) := by
    show _ = _
    unfold rest
    rw [if_pos (Nat.zero_le _), seg_none]
    exact hg0
  rw [hg0]
  clear hg0
  go_enter Try.func40, Try.ntmps40
  go_wp2_with fail
  go_loop [5, 6] (fun fv iv => ∃ f i : Nat, fv = .int .i64 f ∧ iv = .int .i64 i ∧ i ≤ t.size + 1 ∧ f ≤ i ∧ rest s t f i = g) (fun _ iv => t.size + 1 - (intOf iv).toNat)
  case atStart => exact ⟨0, 0, rfl, rfl, Nat.zero_le _, Nat.le_refl _, HG.out⟩
  case round =>
    obtain ⟨f, i, rfl, rfl, hi, hf, hre⟩ := hrel
    have HRE : Hid (rest s t f i = g) := hre
    clear hre
    by_cases hin : i ≤ t.size
    · by_cases hb : ∀ h : i < t.size, (t[i].toNat : Int) = 32
      · have hcut := rest_cut s t f i hin hb
        rw [← extract_seg] at hcut
        have hq : ((t.extract f i).data.toList == s.data.toList) = ((t.extract f i).toList == s.toList) := by rw [ByteArray.toList_eq, ByteArray.toList_eq]
        rw [hq] at hcut
        have HC : Hid (rest s t f i = (((t.extract f i).toList == s.toList && decide (f < i)) || rest s t (i + 1) (i + 1))) := hcut
        clear hcut hq
        have fin : (((t.extract f i).toList == s.toList && decide (f < i)) = false) → rest s t (i + 1) (i + 1) = g := fun h => by
          have := HC.out
          rw [h, Bool.false_or] at this
          exact this.symm.trans HRE.out
        have fin2 : (((t.extract f i).toList == s.toList && decide (f < i)) = true) → true = g := fun h => by
          have := HC.out
          rw [h, Bool.true_or] at this
          exact this.symm.trans HRE.out
        have HF : Hid _ := fin
        have HF2 : Hid _ := fin2
        clear fin fin2
        by_cases hlt : i < t.size
        · have h32 := hb hlt
          clear hb
          have hne : ((i : Int) == (t.size : Int)) = false := beq_false_of_ne (by omega)
          cases hp : ((t.extract f i).toList == s.toList) with
          | true =>
            by_cases hfi : f < i
            · have hd : decide ((f : Int) < (i : Int)) = true := decide_eq_true (by omega)
              have HT : Hid (true = g) := HF2.out (by rw [hp, decide_eq_true hfi]; rfl)
              clear HF HF2 HC
              go_wp2_with fail
              go_ret
              rw [← HT.out]
              exact ⟨rfl, rfl⟩
            · have hd : decide ((f : Int) < (i : Int)) = false := decide_eq_false (by omega)
              have HT : Hid (rest s t (i + 1) (i + 1) = g) := HF.out (by rw [decide_eq_false hfi, Bool.and_false])
              clear HF HF2 HC
              go_wp2_with fail
              exact ⟨⟨i + 1, i + 1, by go_num, by go_num, by omega, Nat.le_refl _, HT.out⟩, by simp [intOf]; omega⟩
          | false =>
            have HT : Hid (rest s t (i + 1) (i + 1) = g) := HF.out (by rw [hp]; rfl)
            clear HF HF2 HC
            go_wp2_with fail
            exact ⟨⟨i + 1, i + 1, by go_num, by go_num, by omega, Nat.le_refl _, HT.out⟩, by simp [intOf]; omega⟩
        · obtain rfl : i = t.size := by omega
          clear hb hlt
          cases hp : ((t.extract f t.size).toList == s.toList) with
          | true =>
            by_cases hfi : f < t.size
            · have hd : decide ((f : Int) < (t.size : Int)) = true := decide_eq_true (by omega)
              have HT : Hid (true = g) := HF2.out (by rw [hp, decide_eq_true hfi]; rfl)
              clear HF HF2 HC
              go_wp2_with fail
              go_ret
              rw [← HT.out]
              exact ⟨rfl, rfl⟩
            · have hd : decide ((f : Int) < (t.size : Int)) = false := decide_eq_false (by omega)
              have HT : Hid (rest s t (t.size + 1) (t.size + 1) = g) := HF.out (by rw [decide_eq_false hfi, Bool.and_false])
              clear HF HF2 HC
              go_wp2_with fail
              exact ⟨⟨t.size + 1, t.size + 1, by go_num, by go_num, by omega, Nat.le_refl _, HT.out⟩, by simp [intOf]⟩
          | false =>
            have HT : Hid (rest s t (t.size + 1) (t.size + 1) = g) := HF.out (by rw [hp]; rfl)
            clear HF HF2 HC
            go_wp2_with fail
            exact ⟨⟨t.size + 1, t.size + 1, by go_num, by go_num, by omega, Nat.le_refl _, HT.out⟩, by simp [intOf]⟩
      · obtain ⟨hlt, hn32⟩ := Classical.not_forall.1 hb
        clear hb
        have HT : Hid (rest s t f (i + 1) = g) := (rest_on s t f i hf hlt hn32).symm.trans HRE.out
        have hne : ((i : Int) == (t.size : Int)) = false := beq_false_of_ne (by omega)
        have hn32' := beq_false_of_ne hn32
        go_wp2_with fail
        exact ⟨⟨f, i + 1, rfl, by go_num, by omega, by omega, HT.out⟩, by simp [intOf]; omega⟩
    · have hg : decide ((i : Int) ≤ (t.size : Int)) = false := decide_eq_false (by omega)
      have HT : Hid (false = g) := by
        have := HRE.out
        unfold rest at this
        rw [if_neg hin] at this
        exact this
      go_wp2_with fail
      go_ret
      rw [← HT.out]
      exact ⟨rfl, rfl⟩
theorem txt_small (k : Nat) (hk : k < 11) : (txt k).length ≤ 1000 := (show ∀ k, k < 11 → (txt k).length ≤ 1000 by decide +kernel) k hk
theorem among_lit (s t : ByteArray) (w : World) (k : Nat) (hk : k < 11) (h : t.data.toList = txt k) : Calls Try.prog 40 #[.string s, .string t] w fun e w' => e = .returned (.bool (has k s)) ∧ w' = w := by
  have hs : t.size ≤ 100000 := by
    rw [← list_len, h]
    exact Nat.le_trans (txt_small k hk) (by decide)
  have := among_any s t w hs
  rw [h, one_words s k hk] at this
  exact this
theorem ret_bool {a b : Bool} (h : a = b) : Ending.returned (.bool a) = .returned (.bool b) := by rw [h]
set_option maxHeartbeats 1000000 in
theorem rblank_any (r : Int) (w : World) : Calls Try.prog 51 #[.int .i64 r] w fun e w' => e = .returned (.bool (blk r)) ∧ w' = w := by
  go_enter Try.func51, Try.ntmps51
  go_wp2
  all_goals
    go_ret
    refine ⟨ret_bool ?_, rfl⟩
    unfold blk
    first | (symm; apply decide_eq_true; omega) | (rw [Bool.eq_iff_iff]; simp; omega)
set_option maxHeartbeats 1000000 in
theorem rtext_any (s : ByteArray) (w : World) : Calls Try.prog 28 #[.string s] w fun e w' => e = .returned (.int .i64 (textK s)) ∧ w' = w := by
  have k8 := fun t h => among_lit s t w 8 (by decide) h
  have k9 := fun t h => among_lit s t w 9 (by decide) h
  have hp := has_plain s
  unfold textK
  generalize has 8 s = a at *
  generalize has 9 s = b at *
  generalize has 10 s = c at *
  go_enter Try.func28, Try.ntmps28
  go_wp2_with fail
  refine (k8 _ rfl).mono ?_
  rintro e w' ⟨rfl, rfl⟩
  cases a
  · go_wp2_with fail
    refine (k9 _ rfl).mono ?_
    rintro e w' ⟨rfl, rfl⟩
    cases b
    · have hc : (s.toList == [112, 108, 97, 105, 110, 116, 101, 120, 116]) = c := by rw [hp, ByteArray.toList_eq]
      clear hp
      cases c
      · go_wp2_with fail
        go_ret
        exact ⟨rfl, rfl⟩
      · go_wp2_with fail
        go_ret
        exact ⟨rfl, rfl⟩
    · go_wp2_with fail
      go_ret
      exact ⟨rfl, rfl⟩
  · go_wp2_with fail
    go_ret
    exact ⟨rfl, rfl⟩
/-- Bytes that lie in a block, and may be written. -/
def Rb (W : World) (B : Nat) (L : List UInt8) : Prop := ∀ i c, L[i]? = some c → W.cell? ⟨B, i, none⟩ = some (.int .u8 (c.toNat : Int)) ∧ W.frozen? ⟨B, i, none⟩ = false
theorem Rb.drew {W : World} {B : Nat} {L : List UInt8} (h : Rb W B L) : Rb W.drew B L := fun i c hc => ⟨h i c hc |>.1, h i c hc |>.2⟩
theorem Rb.set {W : World} {B : Nat} {L : List UInt8} (h : Rb W B L) (i : Nat) (hi : i < L.length) (d : UInt8) : Rb (W.setCell ⟨B, i, none⟩ (.int .u8 (d.toNat : Int))) B (L.set i d) := fun j c hc => by
  rw [World.frozen?_setCell]
  by_cases hj : j = i
  · subst hj
    rw [List.getElem?_set_self hi] at hc
    obtain rfl := Option.some.inj hc
    have h1 := h j _ (List.getElem?_eq_getElem hi)
    exact ⟨World.cell?_setCell_same _ _ _ h1.1, h1.2⟩
  · rw [List.getElem?_set_ne (fun e => hj e.symm)] at hc
    rw [World.cell?_setCell_other _ _ _ _ (fun e => hj (by cases e; rfl))]
    exact h j c hc
theorem conv_new (s : ByteArray) (w : World) : ∃ cap W1, (convert 9 92 (.string s)).run Try.prog w = .ok (.slice (some ⟨w.heap.size, 0, none⟩) s.size cap) W1 ∧ Rb W1 w.heap.size s.data.toList ∧ Below w.heap.size w W1 := by
  have hc := run_bytes_of_string (P := Try.prog) w 9 92 5 s Try.underlying9 Try.underlying92 Try.underlying5
  obtain ⟨c, hcc⟩ : ∃ c, grownCap w s.size 0 5 = c := ⟨_, rfl⟩
  rw [hcc] at hc
  obtain ⟨C, hC⟩ : ∃ C, bytesRow s c = C := ⟨_, rfl⟩
  rw [hC] at hc
  obtain ⟨W1, hW1⟩ : ∃ W1, W1 = w.drew.alloc (.cells C 5 (C.size, C.size + 1)) := ⟨_, rfl⟩
  rw [← hW1] at hc
  have hb : Below w.heap.size w W1 := by rw [hW1]; exact ((Below.refl _ _).drew).alloc (Nat.le_refl _) _
  have hnew : W1.heap[w.heap.size]? = some (.cells C 5 (C.size, C.size + 1)) := by rw [hW1]; exact heap_alloc_new w.drew _
  refine ⟨c, W1, hc, fun j x hx => ?_, hb⟩
  have h5 : C[j]? = some (.int .u8 (x.toNat : Int)) := by
    have hjl := (List.getElem?_eq_some_iff.1 hx).1
    rw [list_len] at hjl
    rw [← hC]
    unfold bytesRow
    rw [Array.getElem?_append_left (by simpa using hjl), Array.getElem?_map]
    rw [Array.getElem?_toList] at hx
    rw [hx]
    rfl
  have hj : j < C.size := (Array.getElem?_eq_some_iff.1 h5).1
  constructor
  · simp [World.cell?, hnew, h5]
  · simp [World.frozen?, hnew]
    omega
/-- string(b). -/
theorem str_of {W : World} {B cap : Nat} {L : List UInt8} (h : Rb W B L) : (convert 92 9 (.slice (some ⟨B, 0, none⟩) L.length cap)).run Try.prog W = .ok (.string ⟨L.toArray⟩) W := by
  refine run_convert_bytes_back W 92 9 5 ⟨B, 0, none⟩ cap L Try.underlying92 Try.underlying5 Try.underlying9 (fun j hj => ?_)
  rw [Addr.add_lit, Nat.zero_add]
  exact (h j _ (List.getElem?_eq_getElem hj)).1
/-- The first i bytes in lower case, the others as they are. -/
def half (l : List UInt8) (i : Nat) : List UInt8 := (l.take i).map low ++ l.drop i
theorem half_len (l : List UInt8) (i : Nat) : (half l i).length = l.length := by
  unfold half
  rw [List.length_append, List.length_map, List.length_take, List.length_drop]
  omega
theorem half_at (l : List UInt8) (i : Nat) (h : i < l.length) : (half l i)[i]? = some l[i] := by
  unfold half
  rw [List.getElem?_append_right (by rw [List.length_map, List.length_take]; omega), List.length_map, List.length_take, List.getElem?_drop]
  rw [List.getElem?_eq_getElem (by omega)]
  congr 2
  omega
theorem half_step (l : List UInt8) (i : Nat) (h : i < l.length) : half l (i + 1) = (half l i).set i (low l[i]) := by
  have hd : l.drop i = l[i] :: l.drop (i + 1) := List.drop_eq_getElem_cons h
  unfold half
  rw [← List.take_append_getElem h, List.map_append, List.set_append, if_neg (by rw [List.length_map, List.length_take]; omega), List.length_map, List.length_take, show i - min i l.length = 0 by omega, hd, List.set_cons_zero, List.append_assoc]
  rfl
theorem half_all (l : List UInt8) : half l l.length = l.map low := by
  unfold half
  rw [List.take_length, List.drop_length, List.append_nil]
theorem low_up {c : UInt8} (h0 : 65 ≤ (c.toNat : Int)) (h1 : (c.toNat : Int) ≤ 90) : ((low c).toNat : Int) = (c.toNat : Int) + 32 := by
  have h : ∀ n : Fin 256, 65 ≤ n.val → n.val ≤ 90 → (low (UInt8.ofNat n.val)).toNat = n.val + 32 := by decide +kernel
  have := h ⟨c.toNat, c.toNat_lt⟩ (by show 65 ≤ c.toNat; omega) (by show c.toNat ≤ 90; omega)
  simp at this
  omega
theorem low_no {c : UInt8} (h : ¬ (65 ≤ (c.toNat : Int) ∧ (c.toNat : Int) ≤ 90)) : low c = c := by
  unfold low
  rw [if_neg]
  rintro ⟨h0, h1⟩
  have a0 : (65 : UInt8).toNat ≤ c.toNat := UInt8.le_iff_toNat_le.1 h0
  have a1 : c.toNat ≤ (90 : UInt8).toNat := UInt8.le_iff_toNat_le.1 h1
  have b0 : (65 : UInt8).toNat = 65 := rfl
  have b1 : (90 : UInt8).toNat = 90 := rfl
  omega
set_option maxHeartbeats 1000000 in
theorem rlower_any (s : ByteArray) (w : World) (hs : s.size ≤ 100000) : Calls Try.prog 70 #[.string s] w fun e w' => e = .returned (.string (lowP s)) ∧ Below w.heap.size w w' := by
  obtain ⟨cap, W1, c1, r1, b1⟩ := conv_new s w
  have H1 : Hid (Rb W1 w.heap.size (half s.data.toList 0) ∧ Below w.heap.size w W1) := ⟨r1, b1⟩
  clear r1 b1
  go_enter Try.func70, Try.ntmps70
  go_wp2_with fail
  have hsl := list_len s
  go_loopw [4] (fun iv wr => ∃ i : Nat, iv = .int .i64 i ∧ i ≤ s.size ∧ Rb wr w.heap.size (half s.data.toList i) ∧ Below w.heap.size w wr) (fun iv _ => s.size - (intOf iv).toNat)
  case atStart => exact ⟨0, rfl, Nat.zero_le _, H1.out⟩
  case round =>
    obtain ⟨i, rfl, hi, hR, hb⟩ := hrel
    have HW : Hid (Rb wr w.heap.size (half s.data.toList i) ∧ Below w.heap.size w wr) := ⟨hR, hb⟩
    clear hR hb
    by_cases hlt : i < s.size
    · have hil : i < s.data.toList.length := by rw [hsl]; exact hlt
      obtain ⟨c, hcc⟩ : ∃ c, s.data.toList[i] = c := ⟨_, rfl⟩
      have hat := half_at s.data.toList i hil
      rw [hcc] at hat
      obtain ⟨cl, fz⟩ := HW.out.1 i c hat
      have hst := half_step s.data.toList i hil
      rw [hcc] at hst
      have hlen : i < (half s.data.toList i).length := by rw [half_len]; exact hil
      by_cases hup : 65 ≤ (c.toNat : Int) ∧ (c.toNat : Int) ≤ 90
      · have hl := low_up hup.1 hup.2
        have HN : Hid (Rb (wr.setCell ⟨w.heap.size, i, none⟩ (.int .u8 ((c.toNat : Int) + 32))) w.heap.size (half s.data.toList (i + 1)) ∧ Below w.heap.size w (wr.setCell ⟨w.heap.size, i, none⟩ (.int .u8 ((c.toNat : Int) + 32)))) := by
          refine ⟨?_, HW.out.2.setCell (Nat.le_refl _) _⟩
          rw [hst, ← hl]
          exact HW.out.1.set i hlen _
        have hw : IntKind.u8.wrap ((c.toNat : Int) + 32) = (c.toNat : Int) + 32 := by rw [IntKind.wrap_u8]; omega
        have g0 : decide (65 ≤ (c.toNat : Int)) = true := decide_eq_true hup.1
        have g1 : decide ((c.toNat : Int) ≤ 90) = true := decide_eq_true hup.2
        clear hst hat hcc hil hlen hl H1
        go_wp2_with fail
        exact ⟨⟨i + 1, by go_num, by omega, HN.out.1, HN.out.2⟩, by simp [intOf]; omega⟩
      · have HN : Hid (Rb wr w.heap.size (half s.data.toList (i + 1)) ∧ Below w.heap.size w wr) := by
          refine ⟨?_, HW.out.2⟩
          have hq : (half s.data.toList i).set i c = half s.data.toList i := List.ext_getElem? fun j => by
            by_cases hj : j = i
            · subst hj; rw [List.getElem?_set_self hlen, hat]
            · rw [List.getElem?_set_ne (fun e => hj e.symm)]
          rw [hst, low_no hup, hq]
          exact HW.out.1
        clear hst hat hcc hil hlen H1
        by_cases h65 : 65 ≤ (c.toNat : Int)
        · have g0 : decide (65 ≤ (c.toNat : Int)) = true := decide_eq_true h65
          have g1 : decide ((c.toNat : Int) ≤ 90) = false := decide_eq_false fun h => hup ⟨h65, h⟩
          clear hup
          go_wp2_with fail
          exact ⟨⟨i + 1, by go_num, by omega, HN.out.1, HN.out.2⟩, by simp [intOf]; omega⟩
        · have g0 : decide (65 ≤ (c.toNat : Int)) = false := decide_eq_false h65
          clear hup
          go_wp2_with fail
          exact ⟨⟨i + 1, by go_num, by omega, HN.out.1, HN.out.2⟩, by simp [intOf]; omega⟩
    · obtain rfl : i = s.size := by omega
      have hst : (convert 92 9 (.slice (some ⟨w.heap.size, 0, none⟩) s.size cap)).run Try.prog wr = .ok (.string (lowP s)) wr := by
        have := str_of (cap := cap) HW.out.1
        rw [half_len, ← hsl, half_all, hsl] at this
        exact this
      clear H1
      go_wp2_with fail
      go_ret
      exact ⟨rfl, HW.out.2⟩
end Go.Proofs.Ytkbakbacomidbaa.G7
