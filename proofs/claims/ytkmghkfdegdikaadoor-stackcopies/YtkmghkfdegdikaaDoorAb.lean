/- Names as rows of bytes; the words of a text that has blanks between them; lower case. -/
import Derived.Test.YtkmghkfdegdikaaDoorAa
namespace Go.Proofs.YtkmghkfdegdikaaDoor
open Go.RowKit

/-- The lists of names. -/
def tab : Nat → List (List UInt8)
  | 0 => [[97, 114, 101, 97], [98, 97, 115, 101], [98, 114], [99, 111, 108], [101, 109, 98, 101, 100], [104, 114], [105, 109, 103], [105, 110, 112, 117, 116], [107, 101, 121, 103, 101, 110], [108, 105, 110, 107], [109, 101, 116, 97], [112, 97, 114, 97, 109], [115, 111, 117, 114, 99, 101], [116, 114, 97, 99, 107], [119, 98, 114]]
  | 1 => [[97], [98], [98, 105, 103], [99, 111, 100, 101], [101, 109], [102, 111, 110, 116], [105], [110, 111, 98, 114], [115], [115, 109, 97, 108, 108], [115, 116, 114, 105, 107, 101], [115, 116, 114, 111, 110, 103], [116, 116], [117]]
  | 2 => [[100, 100], [100, 116], [108, 105], [111, 112, 116, 103, 114, 111, 117, 112], [111, 112, 116, 105, 111, 110], [112], [114, 98], [114, 112], [114, 116], [114, 116, 99]]
  | 3 => [[104, 49], [104, 50], [104, 51], [104, 52], [104, 53], [104, 54]]
  | 4 => [[97, 100, 100, 114, 101, 115, 115], [97, 114, 116, 105, 99, 108, 101], [97, 115, 105, 100, 101], [98, 108, 111, 99, 107, 113, 117, 111, 116, 101], [99, 101, 110, 116, 101, 114], [100, 101, 116, 97, 105, 108, 115], [100, 105, 97, 108, 111, 103], [100, 105, 114], [100, 105, 118], [100, 108], [102, 105, 101, 108, 100, 115, 101, 116], [102, 105, 103, 99, 97, 112, 116, 105, 111, 110], [102, 105, 103, 117, 114, 101], [102, 111, 111, 116, 101, 114], [104, 101, 97, 100, 101, 114], [104, 103, 114, 111, 117, 112], [109, 97, 105, 110], [109, 101, 110, 117], [110, 97, 118], [111, 108], [115, 101, 99, 116, 105, 111, 110], [115, 117, 109, 109, 97, 114, 121], [117, 108]]
  | 5 => [[97, 112, 112, 108, 101, 116], [98, 111, 100, 121], [98, 117, 116, 116, 111, 110], [99, 97, 112, 116, 105, 111, 110], [99, 111, 108, 103, 114, 111, 117, 112], [100, 100], [100, 116], [102, 111, 114, 109], [104, 101, 97, 100], [104, 116, 109, 108], [105, 102, 114, 97, 109, 101], [108, 105], [108, 105, 115, 116, 105, 110, 103], [109, 97, 114, 113, 117, 101, 101], [110, 111, 101, 109, 98, 101, 100], [111, 98, 106, 101, 99, 116], [112], [112, 108, 97, 105, 110, 116, 101, 120, 116], [112, 114, 101], [115, 99, 114, 105, 112, 116], [115, 101, 108, 101, 99, 116], [115, 116, 121, 108, 101], [116, 97, 98, 108, 101], [116, 98, 111, 100, 121], [116, 100], [116, 101, 120, 116, 97, 114, 101, 97], [116, 102, 111, 111, 116], [116, 104], [116, 104, 101, 97, 100], [116, 105, 116, 108, 101], [116, 114], [120, 109, 112]]
  | 6 => [[102, 111, 114, 101, 105, 103, 110, 79, 98, 106, 101, 99, 116], [100, 101, 115, 99], [116, 105, 116, 108, 101]]
  | 7 => [[109, 105], [109, 111], [109, 110], [109, 115], [109, 116, 101, 120, 116]]
  | 8 => [[116, 105, 116, 108, 101], [116, 101, 120, 116, 97, 114, 101, 97]]
  | 9 => [[115, 116, 121, 108, 101], [115, 99, 114, 105, 112, 116], [120, 109, 112], [105, 102, 114, 97, 109, 101], [110, 111, 101, 109, 98, 101, 100]]
  | 10 => [[112, 108, 97, 105, 110, 116, 101, 120, 116]]
  | _ => []
/-- The lists as texts with blanks between the names. -/
def txt : Nat → List UInt8
  | 0 => [97, 114, 101, 97, 32, 98, 97, 115, 101, 32, 98, 114, 32, 99, 111, 108, 32, 101, 109, 98, 101, 100, 32, 104, 114, 32, 105, 109, 103, 32, 105, 110, 112, 117, 116, 32, 107, 101, 121, 103, 101, 110, 32, 108, 105, 110, 107, 32, 109, 101, 116, 97, 32, 112, 97, 114, 97, 109, 32, 115, 111, 117, 114, 99, 101, 32, 116, 114, 97, 99, 107, 32, 119, 98, 114]
  | 1 => [97, 32, 98, 32, 98, 105, 103, 32, 99, 111, 100, 101, 32, 101, 109, 32, 102, 111, 110, 116, 32, 105, 32, 110, 111, 98, 114, 32, 115, 32, 115, 109, 97, 108, 108, 32, 115, 116, 114, 105, 107, 101, 32, 115, 116, 114, 111, 110, 103, 32, 116, 116, 32, 117]
  | 2 => [100, 100, 32, 100, 116, 32, 108, 105, 32, 111, 112, 116, 103, 114, 111, 117, 112, 32, 111, 112, 116, 105, 111, 110, 32, 112, 32, 114, 98, 32, 114, 112, 32, 114, 116, 32, 114, 116, 99]
  | 3 => [104, 49, 32, 104, 50, 32, 104, 51, 32, 104, 52, 32, 104, 53, 32, 104, 54]
  | 4 => [97, 100, 100, 114, 101, 115, 115, 32, 97, 114, 116, 105, 99, 108, 101, 32, 97, 115, 105, 100, 101, 32, 98, 108, 111, 99, 107, 113, 117, 111, 116, 101, 32, 99, 101, 110, 116, 101, 114, 32, 100, 101, 116, 97, 105, 108, 115, 32, 100, 105, 97, 108, 111, 103, 32, 100, 105, 114, 32, 100, 105, 118, 32, 100, 108, 32, 102, 105, 101, 108, 100, 115, 101, 116, 32, 102, 105, 103, 99, 97, 112, 116, 105, 111, 110, 32, 102, 105, 103, 117, 114, 101, 32, 102, 111, 111, 116, 101, 114, 32, 104, 101, 97, 100, 101, 114, 32, 104, 103, 114, 111, 117, 112, 32, 109, 97, 105, 110, 32, 109, 101, 110, 117, 32, 110, 97, 118, 32, 111, 108, 32, 115, 101, 99, 116, 105, 111, 110, 32, 115, 117, 109, 109, 97, 114, 121, 32, 117, 108]
  | 5 => [97, 112, 112, 108, 101, 116, 32, 98, 111, 100, 121, 32, 98, 117, 116, 116, 111, 110, 32, 99, 97, 112, 116, 105, 111, 110, 32, 99, 111, 108, 103, 114, 111, 117, 112, 32, 100, 100, 32, 100, 116, 32, 102, 111, 114, 109, 32, 104, 101, 97, 100, 32, 104, 116, 109, 108, 32, 105, 102, 114, 97, 109, 101, 32, 108, 105, 32, 108, 105, 115, 116, 105, 110, 103, 32, 109, 97, 114, 113, 117, 101, 101, 32, 110, 111, 101, 109, 98, 101, 100, 32, 111, 98, 106, 101, 99, 116, 32, 112, 32, 112, 108, 97, 105, 110, 116, 101, 120, 116, 32, 112, 114, 101, 32, 115, 99, 114, 105, 112, 116, 32, 115, 101, 108, 101, 99, 116, 32, 115, 116, 121, 108, 101, 32, 116, 97, 98, 108, 101, 32, 116, 98, 111, 100, 121, 32, 116, 100, 32, 116, 101, 120, 116, 97, 114, 101, 97, 32, 116, 102, 111, 111, 116, 32, 116, 104, 32, 116, 104, 101, 97, 100, 32, 116, 105, 116, 108, 101, 32, 116, 114, 32, 120, 109, 112]
  | 6 => [102, 111, 114, 101, 105, 103, 110, 79, 98, 106, 101, 99, 116, 32, 100, 101, 115, 99, 32, 116, 105, 116, 108, 101]
  | 7 => [109, 105, 32, 109, 111, 32, 109, 110, 32, 109, 115, 32, 109, 116, 101, 120, 116]
  | 8 => [116, 105, 116, 108, 101, 32, 116, 101, 120, 116, 97, 114, 101, 97]
  | 9 => [115, 116, 121, 108, 101, 32, 115, 99, 114, 105, 112, 116, 32, 120, 109, 112, 32, 105, 102, 114, 97, 109, 101, 32, 110, 111, 101, 109, 98, 101, 100]
  | 10 => [112, 108, 97, 105, 110, 116, 101, 120, 116]
  | _ => []

/-- Whether a list has a name. -/
def has (k : Nat) (s : ByteArray) : Bool := (tab k).any fun x => x == s.data.toList

/-- The words of what is ahead and of a text. -/
def words (acc : List UInt8) : List UInt8 → List (List UInt8)
  | [] => [acc]
  | c :: l => if c = 32 then acc :: words [] l else words (acc ++ [c]) l
/-- Whether one of the words is that name. -/
def one (s : ByteArray) (l : List (List UInt8)) : Bool := l.any fun x => x == s.data.toList && decide (0 < x.length)

theorem one_words (s : ByteArray) (k : Nat) (hk : k < 11) : one s (words [] (txt k)) = has k s := by
  have h1 : ∀ k, k < 11 → words [] (txt k) = tab k ∧ ∀ x ∈ tab k, 0 < x.length := by decide +kernel
  rw [(h1 k hk).1]
  unfold one has
  have h2 := (h1 k hk).2
  generalize tab k = l at h2
  induction l with
  | nil => rfl
  | cons x l ih =>
    rw [List.any_cons, List.any_cons, ih fun y hy => h2 y (List.mem_cons_of_mem _ hy)]
    simp [h2 x (List.mem_cons_self ..)]

/-- The program's lists lie in their variable. -/
def Tb (w : World) : Prop := ∀ k : Nat, k < 11 → ∃ b o cap : Nat, w.cell? ⟨0, k, none⟩ = some (.slice (some ⟨b, o, none⟩) (tab k).length cap) ∧
  ∀ i x, (tab k)[i]? = some x → w.cell? ⟨b, o + i, none⟩ = some (.string ⟨x.toArray⟩)

theorem Tb.below {w w' : World} (h : Tb w) (b : Below w.heap.size w w') : Tb w' := fun k hk => by
  obtain ⟨g, o, cap, h1, h2⟩ := h k hk
  exact ⟨g, o, cap, (b.cell (p := ⟨0, k, none⟩) (World.block_lt_of_cell? w _ h1)).trans h1, fun i x hx => (b.cell (p := ⟨g, o + i, none⟩) (World.block_lt_of_cell? w _ (h2 i x hx))).trans (h2 i x hx)⟩

theorem tab_small (k : Nat) : (tab k).length ≤ 100 := by
  by_cases hk : k < 11
  · exact (show ∀ k, k < 11 → (tab k).length ≤ 100 by decide +kernel) k hk
  · match k, hk with
    | k + 11, _ => exact Nat.zero_le _

set_option maxHeartbeats 1000000 in
theorem in_any (k : Nat) (hk : k < 11) (s : ByteArray) {w : World} (T : Tb w) : Calls Tryd.prog 61 #[.int .i64 k, .string s] w fun e w' => e = .returned (.bool (has k s)) ∧ w' = w := by
  obtain ⟨b, o, cap, hc, hrow⟩ := T k hk
  have hsm := tab_small k
  obtain ⟨g, hg0⟩ : ∃ g, has k s = g := ⟨_, rfl⟩
  rw [hg0]
  have HG : Hid (((tab k).any fun x => x == s.data.toList) = g) := hg0
  clear hg0 T
  obtain ⟨A, hA⟩ : ∃ A, tab k = A := ⟨_, rfl⟩
  rw [hA] at hc hrow hsm HG
  obtain ⟨n, hn⟩ : ∃ n, A.length = n := ⟨_, rfl⟩
  rw [hn] at hc hsm
  have HA : Hid (A.length = n) := hn
  have HR : Hid (∀ i x, A[i]? = some x → w.cell? ⟨b, o + i, none⟩ = some (.string ⟨x.toArray⟩)) := hrow
  clear hA hn hrow
  go_enter Tryd.func61, Tryd.ntmps61
  go_wp2_with fail
  go_loop [11] (fun iv => ∃ i : Nat, iv = .int .i64 i ∧ i ≤ n ∧ (A.take i).any (fun x => x == s.data.toList) = false) (fun iv => n - (intOf iv).toNat)
  case atStart => exact ⟨0, rfl, Nat.zero_le _, by simp⟩
  case round =>
    obtain ⟨i, rfl, hi, hno⟩ := hrel
    have HNO : Hid ((A.take i).any (fun x => x == s.data.toList) = false) := hno
    clear hno
    by_cases hin : i < n
    · have hil : i < A.length := by rw [HA.out]; exact hin
      obtain ⟨x, hx⟩ : ∃ x, A[i]? = some x := ⟨_, List.getElem?_eq_getElem hil⟩
      have c1 := HR.out i x hx
      have htk : A.take (i + 1) = A.take i ++ [x] := by
        rw [← List.take_append_getElem hil]
        congr 2
        have := List.getElem?_eq_getElem hil
        rw [hx] at this
        exact (Option.some.inj this).symm
      obtain ⟨y, hy⟩ : ∃ y : ByteArray, y = ⟨x.toArray⟩ := ⟨_, rfl⟩
      have hxy : x = y.data.toList := by rw [hy]
      rw [← hy] at c1
      clear hy
      have hq : (x == s.data.toList) = (y.toList == s.toList) := by rw [hxy, ByteArray.toList_eq, ByteArray.toList_eq]
      cases hp : (y.toList == s.toList) with
      | true =>
        have HF : Hid ((A.any fun x => x == s.data.toList) = true) := List.any_eq_true.2 ⟨x, List.mem_of_getElem? hx, hq.trans hp⟩
        clear hx htk hil hq hxy
        go_wp2_with fail
        go_ret
        rw [show g = true from HG.out.symm.trans HF.out]
        exact ⟨rfl, rfl⟩
      | false =>
        have HF : Hid ((A.take (i + 1)).any (fun x => x == s.data.toList) = false) := by
          show _ = _
          rw [htk, List.any_append, HNO.out]
          simpa using hq.trans hp
        clear hx htk hil hq hxy
        go_wp2_with fail
        exact ⟨⟨i + 1, by go_num, by omega, HF.out⟩, by simp [intOf]; omega⟩
    · have hg : decide ((i : Int) < (n : Int)) = false := decide_eq_false (by omega)
      have HF : Hid ((A.any fun x => x == s.data.toList) = false) := by
        have := HNO.out
        rw [List.take_of_length_le (by rw [HA.out]; omega)] at this
        exact this
      go_wp2_with fail
      go_ret
      rw [show g = false from HG.out.symm.trans HF.out]
      exact ⟨rfl, rfl⟩
/-- What stands from a place to another. -/
def seg (t : ByteArray) (f i : Nat) : List UInt8 := (t.data.toList.take i).drop f
theorem extract_seg (t : ByteArray) (f i : Nat) : (t.extract f i).data.toList = seg t f i := by
  rw [ByteArray.data_extract, Array.toList_extract]
  unfold seg
  simp [List.extract, List.drop_take]
theorem drop_at (t : ByteArray) (i : Nat) (h : i < t.size) : t.data.toList.drop i = t[i] :: t.data.toList.drop (i + 1) := by
  rw [List.drop_eq_getElem_cons (by rw [Array.length_toList]; exact h)]
  rfl
theorem seg_more (t : ByteArray) (f i : Nat) (hf : f ≤ i) (h : i < t.size) : seg t f (i + 1) = seg t f i ++ [t[i]] := by
  have hl : i < t.data.toList.length := by rw [Array.length_toList]; exact h
  unfold seg
  rw [← List.take_append_getElem hl, List.drop_append_of_le_length (by rw [List.length_take]; omega)]
  rfl
theorem seg_none (t : ByteArray) (i : Nat) : seg t i i = [] := by
  unfold seg
  exact List.drop_eq_nil_of_le (by rw [List.length_take]; omega)
theorem seg_len (t : ByteArray) (f i : Nat) (h : i ≤ t.size) : (seg t f i).length = i - f := by
  have hl : t.data.toList.length = t.size := Array.length_toList
  unfold seg
  rw [List.length_drop, List.length_take]
  omega

theorem one_cons (s : ByteArray) (x : List UInt8) (l : List (List UInt8)) : one s (x :: l) = ((x == s.data.toList && decide (0 < x.length)) || one s l) := rfl

/-- What Among still says at a place. -/
def rest (s t : ByteArray) (f i : Nat) : Bool := if i ≤ t.size then one s (words (seg t f i) (t.data.toList.drop i)) else false
theorem rest_on (s t : ByteArray) (f i : Nat) (hf : f ≤ i) (h : i < t.size) (hb : ¬ (t[i].toNat : Int) = 32) : rest s t f i = rest s t f (i + 1) := by
  have h32 : ¬ t[i] = 32 := fun e => hb (by rw [e]; rfl)
  unfold rest
  rw [if_pos (by omega), if_pos (by omega), drop_at t i h, words, if_neg h32, seg_more t f i hf h]
theorem rest_cut (s t : ByteArray) (f i : Nat) (h : i ≤ t.size) (hb : ∀ h : i < t.size, (t[i].toNat : Int) = 32) :
    rest s t f i = ((seg t f i == s.data.toList && decide (f < i)) || rest s t (i + 1) (i + 1)) := by
  have hd : decide (0 < (seg t f i).length) = decide (f < i) := by rw [seg_len t f i h]; congr 1; exact propext (by omega)
  by_cases hl : i < t.size
  · have h32 : t[i] = 32 := UInt8.toNat_inj.1 (by have := hb hl; show t[i].toNat = 32; omega)
    unfold rest
    rw [if_pos h, if_pos (by omega), drop_at t i hl, words, if_pos h32, one_cons, hd, seg_none]
  · unfold rest
    rw [if_pos h, if_neg (by omega), List.drop_eq_nil_of_le (by rw [Array.length_toList]; show t.size ≤ i; omega), words, one_cons, hd]
    rfl

set_option maxHeartbeats 1000000 in
theorem among_any (s t : ByteArray) (w : World) (ht : t.size ≤ 100000) : Calls Tryd.prog 45 #[.string s, .string t] w fun e w' => e = .returned (.bool (one s (words [] t.data.toList))) ∧ w' = w := by
  obtain ⟨g, hg0⟩ : ∃ g, one s (words [] t.data.toList) = g := ⟨_, rfl⟩
  have HG : Hid (rest s t 0 0 = g) := by
    show _ = _
    unfold rest
    rw [if_pos (Nat.zero_le _), seg_none]
    exact hg0
  rw [hg0]
  clear hg0
  go_enter Tryd.func45, Tryd.ntmps45
  go_wp2_with fail
  go_loop [5, 6] (fun fv iv => ∃ f i : Nat, fv = .int .i64 f ∧ iv = .int .i64 i ∧ i ≤ t.size + 1 ∧ f ≤ i ∧ rest s t f i = g) (fun _ iv => t.size + 1 - (intOf iv).toNat)
  case atStart => exact ⟨0, 0, rfl, rfl, Nat.zero_le _, Nat.le_refl _, HG.out⟩
  case round =>
    obtain ⟨f, i, rfl, rfl, hi, hf, hre⟩ := hrel
    have HRE : Hid (rest s t f i = g) := hre
    clear hre
    by_cases hin : i ≤ t.size
    · by_cases hb : ∀ h : i < t.size, (t[i].toNat : Int) = 32
      · have hcut := rest_cut s t f i hin hb
        rw [← extract_seg] at hcut
        have hq : ((t.extract f i).data.toList == s.data.toList) = ((t.extract f i).toList == s.toList) := by rw [ByteArray.toList_eq, ByteArray.toList_eq]
        rw [hq] at hcut
        have HC : Hid (rest s t f i = (((t.extract f i).toList == s.toList && decide (f < i)) || rest s t (i + 1) (i + 1))) := hcut
        clear hcut hq
        have fin : (((t.extract f i).toList == s.toList && decide (f < i)) = false) → rest s t (i + 1) (i + 1) = g := fun h => by
          have := HC.out
          rw [h, Bool.false_or] at this
          exact this.symm.trans HRE.out
        have fin2 : (((t.extract f i).toList == s.toList && decide (f < i)) = true) → true = g := fun h => by
          have := HC.out
          rw [h, Bool.true_or] at this
          exact this.symm.trans HRE.out
        have HF : Hid _ := fin
        have HF2 : Hid _ := fin2
        clear fin fin2
        by_cases hlt : i < t.size
        · have h32 := hb hlt
          clear hb
          have hne : ((i : Int) == (t.size : Int)) = false := beq_false_of_ne (by omega)
          cases hp : ((t.extract f i).toList == s.toList) with
          | true =>
            by_cases hfi : f < i
            · have hd : decide ((f : Int) < (i : Int)) = true := decide_eq_true (by omega)
              have HT : Hid (true = g) := HF2.out (by rw [hp, decide_eq_true hfi]; rfl)
              clear HF HF2 HC
              go_wp2_with fail
              go_ret
              rw [← HT.out]
              exact ⟨rfl, rfl⟩
            · have hd : decide ((f : Int) < (i : Int)) = false := decide_eq_false (by omega)
              have HT : Hid (rest s t (i + 1) (i + 1) = g) := HF.out (by rw [decide_eq_false hfi, Bool.and_false])
              clear HF HF2 HC
              go_wp2_with fail
              exact ⟨⟨i + 1, i + 1, by go_num, by go_num, by omega, Nat.le_refl _, HT.out⟩, by simp [intOf]; omega⟩
          | false =>
            have HT : Hid (rest s t (i + 1) (i + 1) = g) := HF.out (by rw [hp]; rfl)
            clear HF HF2 HC
            go_wp2_with fail
            exact ⟨⟨i + 1, i + 1, by go_num, by go_num, by omega, Nat.le_refl _, HT.out⟩, by simp [intOf]; omega⟩
        · obtain rfl : i = t.size := by omega
          clear hb hlt
          cases hp : ((t.extract f t.size).toList == s.toList) with
          | true =>
            by_cases hfi : f < t.size
            · have hd : decide ((f : Int) < (t.size : Int)) = true := decide_eq_true (by omega)
              have HT : Hid (true = g) := HF2.out (by rw [hp, decide_eq_true hfi]; rfl)
              clear HF HF2 HC
              go_wp2_with fail
              go_ret
              rw [← HT.out]
              exact ⟨rfl, rfl⟩
            · have hd : decide ((f : Int) < (t.size : Int)) = false := decide_eq_false (by omega)
              have HT : Hid (rest s t (t.size + 1) (t.size + 1) = g) := HF.out (by rw [decide_eq_false hfi, Bool.and_false])
              clear HF HF2 HC
              go_wp2_with fail
              exact ⟨⟨t.size + 1, t.size + 1, by go_num, by go_num, by omega, Nat.le_refl _, HT.out⟩, by simp [intOf]⟩
          | false =>
            have HT : Hid (rest s t (t.size + 1) (t.size + 1) = g) := HF.out (by rw [hp]; rfl)
            clear HF HF2 HC
            go_wp2_with fail
            exact ⟨⟨t.size + 1, t.size + 1, by go_num, by go_num, by omega, Nat.le_refl _, HT.out⟩, by simp [intOf]⟩
      · obtain ⟨hlt, hn32⟩ := Classical.not_forall.1 hb
        clear hb
        have HT : Hid (rest s t f (i + 1) = g) := (rest_on s t f i hf hlt hn32).symm.trans HRE.out
        have hne : ((i : Int) == (t.size : Int)) = false := beq_false_of_ne (by omega)
        have hn32' := beq_false_of_ne hn32
        go_wp2_with fail
        exact ⟨⟨f, i + 1, rfl, by go_num, by omega, by omega, HT.out⟩, by simp [intOf]; omega⟩
    · have hg : decide ((i : Int) ≤ (t.size : Int)) = false := decide_eq_false (by omega)
      have HT : Hid (false = g) := by
        have := HRE.out
        unfold rest at this
        rw [if_neg hin] at this
        exact this
      go_wp2_with fail
      go_ret
      rw [← HT.out]
      exact ⟨rfl, rfl⟩
theorem list_len (s : ByteArray) : s.data.toList.length = s.size := Array.length_toList
theorem txt_small (k : Nat) (hk : k < 11) : (txt k).length ≤ 1000 := (show ∀ k, k < 11 → (txt k).length ≤ 1000 by decide +kernel) k hk
theorem among_lit (s t : ByteArray) (w : World) (k : Nat) (hk : k < 11) (h : t.data.toList = txt k) : Calls Tryd.prog 45 #[.string s, .string t] w fun e w' => e = .returned (.bool (has k s)) ∧ w' = w := by
  have hs : t.size ≤ 100000 := by
    rw [← list_len, h]
    exact Nat.le_trans (txt_small k hk) (by decide)
  have := among_any s t w hs
  rw [h, one_words s k hk] at this
  exact this
theorem in_lit (k : Nat) (i : Int) (hi : i = (k : Int)) (hk : k < 11) (s : ByteArray) {w : World} (T : Tb w) : Calls Tryd.prog 61 #[.int .i64 i, .string s] w fun e w' => e = .returned (.bool (has k s)) ∧ w' = w := by
  subst hi
  exact in_any k hk s T

theorem ret_bool {a b : Bool} (h : a = b) : Ending.returned (.bool a) = .returned (.bool b) := by rw [h]
theorem implied_any (s : ByteArray) {w : World} (T : Tb w) : Calls Tryd.prog 53 #[.string s] w fun e w' => e = .returned (.bool (has 2 s)) ∧ w' = w := by
  have k1 := in_lit 2 2 rfl (by decide) s T
  go_enter Tryd.func53, Tryd.ntmps53
  go_wp2_with fail
  refine k1.mono ?_
  rintro e w' ⟨rfl, rfl⟩
  go_wp2_with fail
  go_ret
  exact ⟨rfl, rfl⟩
theorem rimplied_any (s : ByteArray) (w : World) : Calls Tryd.prog 21 #[.string s] w fun e w' => e = .returned (.bool (has 2 s)) ∧ w' = w := by
  go_enter Tryd.func21, Tryd.ntmps21
  go_wp2_with fail
  refine (among_lit s _ w 2 (by decide) rfl).mono ?_
  rintro e w' ⟨rfl, rfl⟩
  go_wp2_with fail
  go_ret
  exact ⟨rfl, rfl⟩
end Go.Proofs.YtkmghkfdegdikaaDoor
