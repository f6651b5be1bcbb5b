/- Names as rows of bytes; the words of a text that has blanks between them; lower case. -/
import Derived.Test.YtmcjohpopfkjfaaDoorProg
import Derived.WalkKit
namespace Go.Proofs.YtmcjohpopfkjfaaDoor

/-- The lists of names. -/
def tab : Nat → List (List UInt8)
  | 0 => [[97, 114, 101, 97], [98, 97, 115, 101], [98, 114], [99, 111, 108], [101, 109, 98, 101, 100], [104, 114], [105, 109, 103], [105, 110, 112, 117, 116], [107, 101, 121, 103, 101, 110], [108, 105, 110, 107], [109, 101, 116, 97], [112, 97, 114, 97, 109], [115, 111, 117, 114, 99, 101], [116, 114, 97, 99, 107], [119, 98, 114]]
  | 1 => [[97], [98], [98, 105, 103], [99, 111, 100, 101], [101, 109], [102, 111, 110, 116], [105], [110, 111, 98, 114], [115], [115, 109, 97, 108, 108], [115, 116, 114, 105, 107, 101], [115, 116, 114, 111, 110, 103], [116, 116], [117]]
  | 2 => [[100, 100], [100, 116], [108, 105], [111, 112, 116, 103, 114, 111, 117, 112], [111, 112, 116, 105, 111, 110], [112], [114, 98], [114, 112], [114, 116], [114, 116, 99]]
  | 3 => [[104, 49], [104, 50], [104, 51], [104, 52], [104, 53], [104, 54]]
  | 4 => [[97, 100, 100, 114, 101, 115, 115], [97, 114, 116, 105, 99, 108, 101], [97, 115, 105, 100, 101], [98, 108, 111, 99, 107, 113, 117, 111, 116, 101], [99, 101, 110, 116, 101, 114], [100, 101, 116, 97, 105, 108, 115], [100, 105, 97, 108, 111, 103], [100, 105, 114], [100, 105, 118], [100, 108], [102, 105, 101, 108, 100, 115, 101, 116], [102, 105, 103, 99, 97, 112, 116, 105, 111, 110], [102, 105, 103, 117, 114, 101], [102, 111, 111, 116, 101, 114], [104, 101, 97, 100, 101, 114], [104, 103, 114, 111, 117, 112], [109, 97, 105, 110], [109, 101, 110, 117], [110, 97, 118], [111, 108], [115, 101, 99, 116, 105, 111, 110], [115, 117, 109, 109, 97, 114, 121], [117, 108]]
  | 5 => [[97, 112, 112, 108, 101, 116], [98, 111, 100, 121], [98, 117, 116, 116, 111, 110], [99, 97, 112, 116, 105, 111, 110], [99, 111, 108, 103, 114, 111, 117, 112], [100, 100], [100, 116], [102, 111, 114, 109], [104, 101, 97, 100], [104, 116, 109, 108], [105, 102, 114, 97, 109, 101], [108, 105], [108, 105, 115, 116, 105, 110, 103], [109, 97, 114, 113, 117, 101, 101], [110, 111, 101, 109, 98, 101, 100], [111, 98, 106, 101, 99, 116], [112], [112, 108, 97, 105, 110, 116, 101, 120, 116], [112, 114, 101], [115, 99, 114, 105, 112, 116], [115, 101, 108, 101, 99, 116], [115, 116, 121, 108, 101], [116, 97, 98, 108, 101], [116, 98, 111, 100, 121], [116, 100], [116, 101, 120, 116, 97, 114, 101, 97], [116, 102, 111, 111, 116], [116, 104], [116, 104, 101, 97, 100], [116, 105, 116, 108, 101], [116, 114], [120, 109, 112]]
  | 6 => [[102, 111, 114, 101, 105, 103, 110, 79, 98, 106, 101, 99, 116], [100, 101, 115, 99], [116, 105, 116, 108, 101]]
  | 7 => [[109, 105], [109, 111], [109, 110], [109, 115], [109, 116, 101, 120, 116]]
  | 8 => [[116, 105, 116, 108, 101], [116, 101, 120, 116, 97, 114, 101, 97]]
  | 9 => [[115, 116, 121, 108, 101], [115, 99, 114, 105, 112, 116], [120, 109, 112], [105, 102, 114, 97, 109, 101], [110, 111, 101, 109, 98, 101, 100]]
  | 10 => [[112, 108, 97, 105, 110, 116, 101, 120, 116]]
  | _ => []
/-- The lists as texts with blanks between the names. -/
def txt : Nat → List UInt8
  | 0 => [97, 114, 101, 97, 32, 98, 97, 115, 101, 32, 98, 114, 32, 99, 111, 108, 32, 101, 109, 98, 101, 100, 32, 104, 114, 32, 105, 109, 103, 32, 105, 110, 112, 117, 116, 32, 107, 101, 121, 103, 101, 110, 32, 108, 105, 110, 107, 32, 109, 101, 116, 97, 32, 112, 97, 114, 97, 109, 32, 115, 111, 117, 114, 99, 101, 32, 116, 114, 97, 99, 107, 32, 119, 98, 114]
  | 1 => [97, 32, 98, 32, 98, 105, 103, 32, 99, 111, 100, 101, 32, 101, 109, 32, 102, 111, 110, 116, 32, 105, 32, 110, 111, 98, 114, 32, 115, 32, 115, 109, 97, 108, 108, 32, 115, 116, 114, 105, 107, 101, 32, 115, 116, 114, 111, 110, 103, 32, 116, 116, 32, 117]
  | 2 => [100, 100, 32, 100, 116, 32, 108, 105, 32, 111, 112, 116, 103, 114, 111, 117, 112, 32, 111, 112, 116, 105, 111, 110, 32, 112, 32, 114, 98, 32, 114, 112, 32, 114, 116, 32, 114, 116, 99]
  | 3 => [104, 49, 32, 104, 50, 32, 104, 51, 32, 104, 52, 32, 104, 53, 32, 104, 54]
  | 4 => [97, 100, 100, 114, 101, 115, 115, 32, 97, 114, 116, 105, 99, 108, 101, 32, 97, 115, 105, 100, 101, 32, 98, 108, 111, 99, 107, 113, 117, 111, 116, 101, 32, 99, 101, 110, 116, 101, 114, 32, 100, 101, 116, 97, 105, 108, 115, 32, 100, 105, 97, 108, 111, 103, 32, 100, 105, 114, 32, 100, 105, 118, 32, 100, 108, 32, 102, 105, 101, 108, 100, 115, 101, 116, 32, 102, 105, 103, 99, 97, 112, 116, 105, 111, 110, 32, 102, 105, 103, 117, 114, 101, 32, 102, 111, 111, 116, 101, 114, 32, 104, 101, 97, 100, 101, 114, 32, 104, 103, 114, 111, 117, 112, 32, 109, 97, 105, 110, 32, 109, 101, 110, 117, 32, 110, 97, 118, 32, 111, 108, 32, 115, 101, 99, 116, 105, 111, 110, 32, 115, 117, 109, 109, 97, 114, 121, 32, 117, 108]
  | 5 => [97, 112, 112, 108, 101, 116, 32, 98, 111, 100, 121, 32, 98, 117, 116, 116, 111, 110, 32, 99, 97, 112, 116, 105, 111, 110, 32, 99, 111, 108, 103, 114, 111, 117, 112, 32, 100, 100, 32, 100, 116, 32, 102, 111, 114, 109, 32, 104, 101, 97, 100, 32, 104, 116, 109, 108, 32, 105, 102, 114, 97, 109, 101, 32, 108, 105, 32, 108, 105, 115, 116, 105, 110, 103, 32, 109, 97, 114, 113, 117, 101, 101, 32, 110, 111, 101, 109, 98, 101, 100, 32, 111, 98, 106, 101, 99, 116, 32, 112, 32, 112, 108, 97, 105, 110, 116, 101, 120, 116, 32, 112, 114, 101, 32, 115, 99, 114, 105, 112, 116, 32, 115, 101, 108, 101, 99, 116, 32, 115, 116, 121, 108, 101, 32, 116, 97, 98, 108, 101, 32, 116, 98, 111, 100, 121, 32, 116, 100, 32, 116, 101, 120, 116, 97, 114, 101, 97, 32, 116, 102, 111, 111, 116, 32, 116, 104, 32, 116, 104, 101, 97, 100, 32, 116, 105, 116, 108, 101, 32, 116, 114, 32, 120, 109, 112]
  | 6 => [102, 111, 114, 101, 105, 103, 110, 79, 98, 106, 101, 99, 116, 32, 100, 101, 115, 99, 32, 116, 105, 116, 108, 101]
  | 7 => [109, 105, 32, 109, 111, 32, 109, 110, 32, 109, 115, 32, 109, 116, 101, 120, 116]
  | 8 => [116, 105, 116, 108, 101, 32, 116, 101, 120, 116, 97, 114, 101, 97]
  | 9 => [115, 116, 121, 108, 101, 32, 115, 99, 114, 105, 112, 116, 32, 120, 109, 112, 32, 105, 102, 114, 97, 109, 101, 32, 110, 111, 101, 109, 98, 101, 100]
  | 10 => [112, 108, 97, 105, 110, 116, 101, 120, 116]
  | _ => []

/-- Whether a list has a name. -/
def has (k : Nat) (s : ByteArray) : Bool := (tab k).any fun x => x == s.data.toList

/-- The words of what is ahead and of a text. -/
def words (acc : List UInt8) : List UInt8 → List (List UInt8)
  | [] => [acc]
  | c :: l => if c = 32 then acc :: words [] l else words (acc ++ [c]) l
/-- Whether one of the words is that name. -/
def one (s : ByteArray) (l : List (List UInt8)) : Bool := l.any fun x => x == s.data.toList && decide (0 < x.length)

theorem one_words (s : ByteArray) (k : Nat) (hk : k < 11) : one s (words [] (txt k)) = has k s := by
  have h1 : ∀ k, k < 11 → words [] (txt k) = tab k ∧ ∀ x ∈ tab k, 0 < x.length := by decide +kernel
  rw [(h1 k hk).1]
  unfold one has
  have h2 := (h1 k hk).2
  generalize tab k = l at h2
  induction l with
  | nil => rfl
  | cons x l ih =>
    rw [List.any_cons, List.any_cons, ih fun y hy => h2 y (List.mem_cons_of_mem _ hy)]
    simp [h2 x (List.mem_cons_self ..)]

theorem bytes_eq {a b : ByteArray} (h : a.data.toList = b.data.toList) : a = b := by
  obtain ⟨⟨x⟩⟩ := a
  obtain ⟨⟨y⟩⟩ := b
  have : x = y := h
  rw [this]
theorem list_len (s : ByteArray) : s.data.toList.length = s.size := Array.length_toList
theorem mk_size (l : List UInt8) : (ByteArray.mk l.toArray).size = l.length := by simp [ByteArray.size]

/-- A letter A to Z as a to z. -/
def low (c : UInt8) : UInt8 := if 65 ≤ c ∧ c ≤ 90 then c + 32 else c
def lowP (s : ByteArray) : ByteArray := ⟨(s.data.toList.map low).toArray⟩
theorem low_low (c : UInt8) : low (low c) = low c := by
  have h : ∀ n : Fin 256, low (low (UInt8.ofNat n.val)) = low (UInt8.ofNat n.val) := by decide +kernel
  have := h ⟨c.toNat, c.toNat_lt⟩
  simpa using this
theorem lowP_lowP (s : ByteArray) : lowP (lowP s) = lowP s := by
  apply bytes_eq
  show (((s.data.toList.map low).toArray).toList.map low).toArray.toList = (s.data.toList.map low).toArray.toList
  rw [List.toList_toArray, List.toList_toArray, List.map_map]
  exact List.map_congr_left fun c _ => low_low c
theorem lowP_size (s : ByteArray) : (lowP s).size = s.size := by
  unfold lowP
  rw [mk_size, List.length_map, list_len]

/-- A blank. -/
def blk (r : Int) : Bool := decide (r = 9 ∨ r = 10 ∨ r = 12 ∨ r = 32)
/-- The text that an element's name tells. -/
def textK (s : ByteArray) : Int := if has 8 s then 1 else if has 9 s then 2 else if has 10 s then 3 else 0
/-- Whether a name is special. -/
def spc (k : Int) (s : ByteArray) : Bool := if k = 0 then has 5 s || has 0 s || has 4 s || has 3 s else if k = 1 then has 6 s else if k = 2 then has 7 s else false

theorem has_plain (s : ByteArray) : has 10 s = (s.data.toList == [112, 108, 97, 105, 110, 116, 101, 120, 116]) := by
  show (List.any [[112, 108, 97, 105, 110, 116, 101, 120, 116]] fun x => x == s.data.toList) = _
  rw [List.any_cons, List.any_nil, Bool.or_false, Bool.eq_iff_iff, beq_iff_eq, beq_iff_eq]
  exact eq_comm

/-- Two lists that have no name together. -/
theorem apart_of {k j : Nat} (h : ((tab k).all fun x => !(tab j).contains x) = true) (s : ByteArray) (h1 : has k s = true) : has j s = false := by
  unfold has at *
  obtain ⟨x, hx, he⟩ := List.any_eq_true.1 h1
  have h2 := List.all_eq_true.1 h x hx
  rw [beq_iff_eq] at he
  subst he
  cases h3 : (tab j).any (fun y => y == s.data.toList) with
  | false => rfl
  | true =>
    exfalso
    obtain ⟨y, hy, hz⟩ := List.any_eq_true.1 h3
    rw [beq_iff_eq] at hz
    subst hz
    rw [List.contains_iff_mem.2 hy] at h2
    cases h2
theorem formats_apart (s : ByteArray) (h : has 1 s = true) : spc 0 s = false := by
  unfold spc
  rw [if_pos rfl, apart_of (by decide +kernel) s h, apart_of (by decide +kernel) s h, apart_of (by decide +kernel) s h, apart_of (by decide +kernel) s h]
  rfl
theorem void_text (s : ByteArray) (h : has 0 s = true) : textK s = 0 := by
  unfold textK
  rw [apart_of (by decide +kernel) s h, apart_of (by decide +kernel) s h, apart_of (by decide +kernel) s h]
  rfl
end Go.Proofs.YtmcjohpopfkjfaaDoor
