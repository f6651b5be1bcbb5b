/- Attributes and tokens in memory; the document's Equal, Same, List. -/
import Derived.Test.YtkbakbacomidbaaProg
import Derived.Below
import Derived.BigQuiet
import Derived.BigRegion
import Derived.Deep.DeepCutAuto
import Derived.Deep.LoopGhost
import Derived.Deep.QuietTactic
import Derived.Deep.RegionHeld3
import Derived.Deep.RegionLaw
import Derived.Deep.RegionWith
import Derived.Deep.Upon
import Derived.Laws.EntriesVeiled
import Derived.Laws.StructEq
import Derived.Lib.RuneBytes
import Derived.Maps.AppendAt
import Derived.Maps.OwnSet
import Derived.OwnWalk
import Derived.WalkArith
import Derived.WalkKit
import Derived.WalkLawsBesides
import Derived.WalkMore
import Derived.WalkSpells
import Derived.Laws.BytesArg
namespace Go.Proofs.Ytkbakbacomidbaa.G9
open Go.RowKit
abbrev Path := List UInt8
/-- An attribute: its name, its value. -/
structure At where
  n : ByteArray
  v : ByteArray
theorem bytes_eq {a b : ByteArray} (h : a.data.toList = b.data.toList) : a = b := by
  obtain ⟨⟨x⟩⟩ := a
  obtain ⟨⟨y⟩⟩ := b
  have : x = y := h
  rw [this]
theorem beq_bytes (a b : ByteArray) : (a.toList == b.toList) = decide (a.data.toList = b.data.toList) := by
  rw [ByteArray.toList_eq, ByteArray.toList_eq]
  rw [Bool.eq_iff_iff]; simp
/-- Name and value as rows of bytes. -/
abbrev At.nm (x : At) : Path := x.n.data.toList
def At.cells (x : At) : List Value := [.string x.n, .string x.v]
/-- A row of attributes that lies in memory. -/
def AtRow (w : World) (lo : Option Addr) (l : List At) : Prop :=
  ∀ i x, l[i]? = some x → ∃ b off, lo = some ⟨b, off, none⟩ ∧ b < w.heap.size ∧ w.cell? ⟨b, off + i * 2, none⟩ = some (.string x.n) ∧ w.cell? ⟨b, off + i * 2 + 1, none⟩ = some (.string x.v)
theorem AtRow.below {w w' : World} {lo : Option Addr} {l : List At} (h : AtRow w lo l) (b : Below w.heap.size w w') : AtRow w' lo l := fun i x hx => by
  obtain ⟨k, off, h1, h2, h3, h4⟩ := h i x hx
  exact ⟨k, off, h1, Nat.lt_of_lt_of_le h2 b.size, (b.cell (p := ⟨k, off + i * 2, none⟩) h2).trans h3, (b.cell (p := ⟨k, off + i * 2 + 1, none⟩) h2).trans h4⟩
theorem AtRow.nil (w : World) (lo : Option Addr) : AtRow w lo [] := fun i x hx => by simp at hx
abbrev RowIs (w : World) (B : Nat) (v : Value) (L : List At) : Prop := w.ownsRow B 96 2 v L.length (L.flatMap At.cells)
theorem below_drewN {B : Nat} {w w' : World} (h : Below B w w') (n : Nat) : Below B w (w'.drewN n) := ⟨h.os, h.tape, h.output, h.size, h.block⟩
theorem at_at (l : List At) (i : Nat) (x : At) (h : l[i]? = some x) : (l.flatMap At.cells)[i * 2]? = some (.string x.n) ∧ (l.flatMap At.cells)[i * 2 + 1]? = some (.string x.v) := by
  induction l generalizing i with
  | nil => simp at h
  | cons y l ih =>
    rw [List.flatMap_cons]
    cases i with
    | zero => simp at h; subst h; exact ⟨rfl, rfl⟩
    | succ i =>
      have := ih i (by simpa using h)
      rw [show (i + 1) * 2 = i * 2 + 1 + 1 by omega, show i * 2 + 1 + 1 + 1 = (i * 2 + 1) + 1 + 1 by omega]
      simp only [At.cells, List.cons_append, List.nil_append, List.getElem?_cons_succ]
      exact this
theorem row_at {w : World} {B : Nat} {v : Value} {L : List At} (h : RowIs w B v L) : ∃ ao cap, v = .slice ao L.length cap ∧ AtRow w ao L ∧ L.length ≤ cap ∧ cap ≤ maxLen := by
  rcases h.2 with ⟨rfl, h0⟩ | ⟨g, cap, cur, rfl, hB, hg, h1, h2, h3, h4⟩
  · have : L = [] := List.eq_nil_of_length_eq_zero h0
    subst this
    exact ⟨none, 0, rfl, AtRow.nil _ _, Nat.le_refl _, by unfold maxLen; omega⟩
  · refine ⟨_, cap, rfl, fun i x hx => ?_, h1, h2⟩
    have hil := (List.getElem?_eq_some_iff.1 hx).1
    obtain ⟨q1, q2⟩ := at_at L i x hx
    rw [← h4, List.getElem?_take_of_lt (by omega), Array.getElem?_toList] at q1 q2
    refine ⟨g, 0, rfl, (Array.getElem?_eq_some_iff.1 hg).1, ?_, ?_⟩
    · simp [World.cell?, hg, q1]
    · simp [World.cell?, hg, q2]
/-- A token: its fields; its attributes as a slice. -/
structure Tk where
  k : Int
  r : Int
  nm : ByteArray
  tx : ByteArray
  ao : Option Addr
  n : Nat
  cap : Nat
  s : Bool
  f : Int
  t : Int
abbrev Tk.arr (T : Tk) : Array Value := #[.int .i64 T.k, .int .i64 T.r, .string T.nm, .string T.tx, .slice T.ao T.n T.cap, .bool T.s, .int .i64 T.f, .int .i64 T.t]
abbrev Tk.val (T : Tk) : Value := .agg T.arr
theorem beq_yes {a b : ByteArray} (h : a.data.toList = b.data.toList) : (a.toList == b.toList) = true := by rw [beq_bytes]; exact decide_eq_true h
theorem beq_no {a b : ByteArray} (h : ¬ a.data.toList = b.data.toList) : (a.toList == b.toList) = false := by rw [beq_bytes]; exact decide_eq_false h
/-- What a token's attributes are in this memory. -/
structure TkOk (w : World) (T : Tk) (L : List At) : Prop where
  len : L.length = T.n
  row : AtRow w T.ao L
  small : T.n ≤ 9223372036854775807
theorem TkOk.below {w w' : World} {T : Tk} {L : List At} (h : TkOk w T L) (b : Below w.heap.size w w') : TkOk w' T L := ⟨h.len, h.row.below b, h.small⟩
/-- A row of tokens that lies in memory, with each one's attributes. -/
def TkRow (w : World) (lo : Option Addr) (l : List (Tk × List At)) : Prop :=
  ∀ i x, l[i]? = some x → (∃ b off, lo = some ⟨b, off, none⟩ ∧ b < w.heap.size ∧ (∀ j u, x.1.arr[j]? = some u → w.cell? ⟨b, off + i * 8 + j, none⟩ = some u)) ∧ TkOk w x.1 x.2
theorem TkRow.below {w w' : World} {lo : Option Addr} {l : List (Tk × List At)} (h : TkRow w lo l) (b : Below w.heap.size w w') : TkRow w' lo l := fun i x hx => by
  obtain ⟨⟨k, off, h1, h2, h3⟩, ok⟩ := h i x hx
  exact ⟨⟨k, off, h1, Nat.lt_of_lt_of_le h2 b.size, fun j u hj => (b.cell (p := ⟨k, off + i * 8 + j, none⟩) h2).trans (h3 j u hj)⟩, ok.below b⟩
abbrev TL := Tk × List At
structure TkCells (w : World) (b o : Nat) (T : Tk) : Prop where
  c0 : w.cell? ⟨b, o, none⟩ = some (.int .i64 T.k)
  c1 : w.cell? ⟨b, o + 1, none⟩ = some (.int .i64 T.r)
  c2 : w.cell? ⟨b, o + 2, none⟩ = some (.string T.nm)
  c3 : w.cell? ⟨b, o + 3, none⟩ = some (.string T.tx)
  c4 : w.cell? ⟨b, o + 4, none⟩ = some (.slice T.ao T.n T.cap)
  c5 : w.cell? ⟨b, o + 5, none⟩ = some (.bool T.s)
  c6 : w.cell? ⟨b, o + 6, none⟩ = some (.int .i64 T.f)
  c7 : w.cell? ⟨b, o + 7, none⟩ = some (.int .i64 T.t)
theorem TkCells.of {w : World} {b o : Nat} {T : Tk} (h : ∀ j u, T.arr[j]? = some u → w.cell? ⟨b, o + j, none⟩ = some u) : TkCells w b o T :=
  ⟨h 0 _ rfl, h 1 _ rfl, h 2 _ rfl, h 3 _ rfl, h 4 _ rfl, h 5 _ rfl, h 6 _ rfl, h 7 _ rfl⟩
theorem TkCells.below {w w' : World} {b o : Nat} {T : Tk} (h : TkCells w b o T) (k : Below w.heap.size w w') (hb : b < w.heap.size) : TkCells w' b o T :=
  ⟨(k.cell (p := ⟨b, o, none⟩) hb).trans h.c0, (k.cell (p := ⟨b, o + 1, none⟩) hb).trans h.c1, (k.cell (p := ⟨b, o + 2, none⟩) hb).trans h.c2, (k.cell (p := ⟨b, o + 3, none⟩) hb).trans h.c3, (k.cell (p := ⟨b, o + 4, none⟩) hb).trans h.c4, (k.cell (p := ⟨b, o + 5, none⟩) hb).trans h.c5, (k.cell (p := ⟨b, o + 6, none⟩) hb).trans h.c6, (k.cell (p := ⟨b, o + 7, none⟩) hb).trans h.c7⟩
theorem TkRow.at {w : World} {lo : Option Addr} {l : List TL} (h : TkRow w lo l) {i : Nat} {x : TL} (hx : l[i]? = some x) : ∃ b off, lo = some ⟨b, off, none⟩ ∧ b < w.heap.size ∧ TkCells w b (off + i * 8) x.1 ∧ TkOk w x.1 x.2 := by
  obtain ⟨⟨b, off, h1, h2, h3⟩, ok⟩ := h i x hx
  exact ⟨b, off, h1, h2, TkCells.of h3, ok⟩
theorem TkRow.nil (w : World) (lo : Option Addr) : TkRow w lo [] := fun i x hx => by simp at hx
end Go.Proofs.Ytkbakbacomidbaa.G9
namespace Go.Proofs.Ytkbakbacomidbaa.G9
open Go.RowKit
set_option maxRecDepth 20000 in
theorem wraps_i64 (n : Int) (h₀ : 0 ≤ n) (h₁ : n < 2 ^ 63) : IntKind.i64.wrap n = n := by rw [IntKind.wrap_i64]; omega
set_option maxRecDepth 20000 in
theorem ret_bool {a b : Bool} (h : a = b) : Ending.returned (.bool a) = .returned (.bool b) := by rw [h]
def mayB (r : Int) : Bool := decide (0 ≤ r ∧ r ≤ 1114111 ∧ (r < 55296 ∨ 57343 < r))
set_option maxHeartbeats 400000 in
set_option maxRecDepth 20000 in
theorem may_any (r : Int) (w : World) : Calls Try.prog 73 #[.int .i64 r] w fun e w' => e = .returned (.bool (mayB r)) ∧ w' = w := by
  go_enter Try.func73, Try.ntmps73
  go_wp2
  all_goals
    go_ret
    refine ⟨ret_bool (Bool.eq_iff_iff.2 ?_), rfl⟩
    unfold mayB
    simp only [decide_eq_true_eq, Bool.false_eq_true, false_iff]
    first | omega | (simp only [true_iff]; omega) | (simp only [Bool.or_eq_true, decide_eq_true_eq]; omega)
/-- The character that is told for a number. -/
def chr (r : Int) : Int := if mayB r = true then r else 65533
set_option maxRecDepth 20000 in
theorem may_iff (r : Int) : mayB r = true ↔ 0 ≤ r ∧ r ≤ 1114111 ∧ (r < 55296 ∨ 57343 < r) := by unfold mayB; exact decide_eq_true_iff
theorem conv_at (W : World) (g : Nat) (xs : List Int) (n : Nat) (hl : xs.length = n) (hb : W.heap[g]? = some (.cells (xs.map (Value.int .u8)).toArray 5 (0, 0))) : (convert 92 9 (.slice (some ⟨g, 0, none⟩) n n)).run Try.prog W = .ok (.string (strOfNums xs)) W := by
  refine run_convert_bytes_arg _ 92 5 Try.underlying92 Try.underlying5 g 0 n n xs hl (fun i hi => ?_) 9 Try.underlying9
  have hi' : i < xs.length := by omega
  simp [World.cell?, hb, List.getElem?_eq_getElem hi']
set_option maxRecDepth 20000 in
theorem conv_new (w : World) (xs : List Int) (n : Nat) (cs : Array Value) (hl : xs.length = n) (hcs : (xs.map (Value.int .u8)).toArray = cs) (S : ByteArray) (hS : strOfNums xs = S) : (convert 92 9 (.slice (some ⟨w.heap.size, 0, none⟩) n n)).run Try.prog (w.alloc (.cells cs 5)) = .ok (.string S) (w.alloc (.cells cs 5)) := by
  subst hcs; subst hS
  exact conv_at _ _ xs n hl (heap_alloc_new _ _)
set_option maxRecDepth 20000 in
theorem i64_or192 (y : Int) (h₀ : 0 ≤ y) (h₁ : y < 64) : bits .or .i64 192 y = 192 + y := bits_join .i64 63 (by decide) wraps_i64 6 192 y (by decide) (by decide) (by decide) h₀ (by omega) (by omega)
set_option maxRecDepth 20000 in
theorem i64_or224 (y : Int) (h₀ : 0 ≤ y) (h₁ : y < 32) : bits .or .i64 224 y = 224 + y := bits_join .i64 63 (by decide) wraps_i64 5 224 y (by decide) (by decide) (by decide) h₀ (by omega) (by omega)
set_option maxRecDepth 20000 in
theorem i64_or240 (y : Int) (h₀ : 0 ≤ y) (h₁ : y < 16) : bits .or .i64 240 y = 240 + y := bits_join .i64 63 (by decide) wraps_i64 4 240 y (by decide) (by decide) (by decide) h₀ (by omega) (by omega)
set_option maxRecDepth 20000 in
theorem i64_or128 (y : Int) (h₀ : 0 ≤ y) (h₁ : y < 128) : bits .or .i64 128 y = 128 + y := bits_join .i64 63 (by decide) wraps_i64 7 128 y (by decide) (by decide) (by decide) h₀ (by omega) (by omega)
set_option maxRecDepth 20000 in
theorem i64_and63 (x : Int) (h₀ : 0 ≤ x) (h₁ : x < 2000000) : bits .and .i64 x 63 = x % 64 := bits_mask .i64 63 (by decide) wraps_i64 6 (by decide) x h₀ (by omega)
set_option maxRecDepth 20000 in
theorem may_as (r : Int) (v : Bool) (w : World) (h : mayB r = v) : Calls Try.prog 73 #[.int .i64 r] w fun e w' => e = .returned (.bool v) ∧ w' = w := by subst h; exact may_any r w
set_option maxRecDepth 20000 in
theorem val_enc (r : Int) (h : Utf8.valid r = true) (c : Nat) (hc : r = (c : Int)) : Utf8.encode r = if c < 0x80 then ⟨#[UInt8.ofNat c]⟩ else if c < 0x800 then ⟨#[UInt8.ofNat (0xC0 + c / 64), UInt8.ofNat (0x80 + c % 64)]⟩
    else if c < 0x10000 then ⟨#[UInt8.ofNat (0xE0 + c / 4096), UInt8.ofNat (0x80 + c / 64 % 64), UInt8.ofNat (0x80 + c % 64)]⟩ else ⟨#[UInt8.ofNat (0xF0 + c / 262144), UInt8.ofNat (0x80 + c / 4096 % 64), UInt8.ofNat (0x80 + c / 64 % 64), UInt8.ofNat (0x80 + c % 64)]⟩ := by
  subst hc
  unfold Utf8.encode
  simp only [h, if_true, Int.toNat_natCast]
set_option maxHeartbeats 1000000 in
set_option maxRecDepth 20000 in
theorem renc_ok (r : Int) (w : World) (h0 : 0 ≤ r) (h1 : r ≤ 1114111) (h2 : r < 55296 ∨ 57343 < r) :
    Calls Try.prog 65 #[.int .i64 r] w fun e w' => e = .returned (.string (Utf8.encode r)) ∧ Below w.heap.size w w' := by
  have hm : mayB r = true := (may_iff r).2 ⟨h0, h1, h2⟩
  have hv : Utf8.valid r = true := by unfold Utf8.valid; simp; omega
  obtain ⟨c, hc⟩ := Int.eq_ofNat_of_zero_le h0
  have he := val_enc r hv c hc
  have HE : Hid (Utf8.encode r = _) := he
  clear he hv h2
  by_cases c1 : r < 128
  · have hconv := conv_new w [r] 1 #[.int .u8 r] rfl rfl (Utf8.encode r) (by rw [HE.out, if_pos (by omega), hc]; rfl)
    clear hc HE
    go_enter Try.func65, Try.ntmps65
    go_wp2_with (go_at_call 73; refine (may_as _ true _ hm).mono ?_; rintro e w' ⟨rfl, rfl⟩)
    go_ret
    exact ⟨rfl, (Below.refl _ _).alloc (Nat.le_refl _) _⟩
  · by_cases c2 : r < 2048
    · have b1 := i64_or192 (r / 64) (by omega) (by omega)
      have b2 := i64_and63 r (by omega) (by omega)
      have b3 := i64_or128 (r % 64) (by omega) (by omega)
      have b4 : (192 + r / 64) % 256 = 192 + r / 64 := by omega
      have b5 : (128 + r % 64) % 256 = 128 + r % 64 := by omega
      have hconv := conv_new w [192 + r / 64, 128 + r % 64] 2 #[.int .u8 (192 + r / 64), .int .u8 (128 + r % 64)] rfl rfl (Utf8.encode r) (by rw [HE.out, if_neg (by omega), if_pos (by omega), hc]; rfl)
      clear hc HE
      go_enter Try.func65, Try.ntmps65
      go_wp2_with (go_at_call 73; refine (may_as _ true _ hm).mono ?_; rintro e w' ⟨rfl, rfl⟩)
      go_ret
      exact ⟨rfl, (Below.refl _ _).alloc (Nat.le_refl _) _⟩
    · by_cases c3 : r < 65536
      · have b1 := i64_or224 (r / 4096) (by omega) (by omega)
        have b2 := i64_and63 r (by omega) (by omega)
        have b3 := i64_or128 (r % 64) (by omega) (by omega)
        have b4 : (224 + r / 4096) % 256 = 224 + r / 4096 := by omega
        have b5 : (128 + r % 64) % 256 = 128 + r % 64 := by omega
        have b6 := i64_and63 (r / 64) (by omega) (by omega)
        have b7 := i64_or128 (r / 64 % 64) (by omega) (by omega)
        have b8 : (128 + r / 64 % 64) % 256 = 128 + r / 64 % 64 := by omega
        have hconv := conv_new w [224 + r / 4096, 128 + r / 64 % 64, 128 + r % 64] 3 #[.int .u8 (224 + r / 4096), .int .u8 (128 + r / 64 % 64), .int .u8 (128 + r % 64)] rfl rfl (Utf8.encode r) (by rw [HE.out, if_neg (by omega), if_neg (by omega), if_pos (by omega), hc]; rfl)
        clear hc HE
        go_enter Try.func65, Try.ntmps65
        go_wp2_with (go_at_call 73; refine (may_as _ true _ hm).mono ?_; rintro e w' ⟨rfl, rfl⟩)
        go_ret
        exact ⟨rfl, (Below.refl _ _).alloc (Nat.le_refl _) _⟩
      · have b1 := i64_or240 (r / 262144) (by omega) (by omega)
        have b2 := i64_and63 r (by omega) (by omega)
        have b3 := i64_or128 (r % 64) (by omega) (by omega)
        have b4 : (240 + r / 262144) % 256 = 240 + r / 262144 := by omega
        have b5 : (128 + r % 64) % 256 = 128 + r % 64 := by omega
        have b6 := i64_and63 (r / 64) (by omega) (by omega)
        have b7 := i64_or128 (r / 64 % 64) (by omega) (by omega)
        have b8 : (128 + r / 64 % 64) % 256 = 128 + r / 64 % 64 := by omega
        have b9 := i64_and63 (r / 4096) (by omega) (by omega)
        have b10 := i64_or128 (r / 4096 % 64) (by omega) (by omega)
        have b11 : (128 + r / 4096 % 64) % 256 = 128 + r / 4096 % 64 := by omega
        have hconv := conv_new w [240 + r / 262144, 128 + r / 4096 % 64, 128 + r / 64 % 64, 128 + r % 64] 4 #[.int .u8 (240 + r / 262144), .int .u8 (128 + r / 4096 % 64), .int .u8 (128 + r / 64 % 64), .int .u8 (128 + r % 64)] rfl rfl (Utf8.encode r) (by rw [HE.out, if_neg (by omega), if_neg (by omega), if_neg (by omega), hc]; rfl)
        clear hc HE
        go_enter Try.func65, Try.ntmps65
        go_wp2_with (go_at_call 73; refine (may_as _ true _ hm).mono ?_; rintro e w' ⟨rfl, rfl⟩)
        go_ret
        exact ⟨rfl, (Below.refl _ _).alloc (Nat.le_refl _) _⟩
set_option maxHeartbeats 1000000 in
set_option maxRecDepth 20000 in
theorem renc_no (r : Int) (w : World) (hm : mayB r = false) :
    Calls Try.prog 65 #[.int .i64 r] w fun e w' => e = .returned (.string (Utf8.encode 65533)) ∧ Below w.heap.size w w' := by
  have b1 : bits .or .i64 224 15 = 239 := by decide +kernel
  have b2 : bits .and .i64 65533 63 = 61 := by decide +kernel
  have b3 : bits .or .i64 128 61 = 189 := by decide +kernel
  have b4 : bits .and .i64 1023 63 = 63 := by decide +kernel
  have b5 : bits .or .i64 128 63 = 191 := by decide +kernel
  have hconv := conv_new w [239, 191, 189] 3 #[.int .u8 239, .int .u8 191, .int .u8 189] rfl rfl (Utf8.encode 65533) (by decide +kernel)
  go_enter Try.func65, Try.ntmps65
  go_wp2_with (go_at_call 73; refine (may_as _ false _ hm).mono ?_; rintro e w' ⟨rfl, rfl⟩)
  go_ret
  exact ⟨rfl, (Below.refl _ _).alloc (Nat.le_refl _) _⟩
set_option maxRecDepth 20000 in
theorem renc_any (r : Int) (w : World) : Calls Try.prog 65 #[.int .i64 r] w fun e w' => e = .returned (.string (Utf8.encode (chr r))) ∧ Below w.heap.size w w' := by
  unfold chr
  by_cases h : mayB r = true
  · rw [if_pos h]
    obtain ⟨h0, h1, h2⟩ := (may_iff r).1 h
    exact renc_ok r w h0 h1 h2
  · rw [if_neg h]
    exact renc_no r w (by simpa using h)
end Go.Proofs.Ytkbakbacomidbaa.G9
