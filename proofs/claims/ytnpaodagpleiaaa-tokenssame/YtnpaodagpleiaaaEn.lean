/- The document's bytes of a character; which numbers are characters. -/
import Derived.Test.YtnpaodagpleiaaaTk
import Derived.Lib.RuneBytes
import Derived.Laws.BytesArg
namespace Go.Proofs.Ytnpaodagpleiaaa
open Go.RowKit

theorem wraps_i64 (n : Int) (h₀ : 0 ≤ n) (h₁ : n < 2 ^ 63) : IntKind.i64.wrap n = n := by rw [IntKind.wrap_i64]; omega
theorem ret_i32 {a b : Int} (h : a = b) : Ending.returned (.int .i32 a) = .returned (.int .i32 b) := by rw [h]
theorem ret_bool {a b : Bool} (h : a = b) : Ending.returned (.bool a) = .returned (.bool b) := by rw [h]
def mayB (r : Int) : Bool := decide (0 ≤ r ∧ r ≤ 1114111 ∧ (r < 55296 ∨ 57343 < r))

set_option maxHeartbeats 400000 in
theorem may_any (r : Int) (w : World) : Calls Try.prog 32 #[.int .i64 r] w fun e w' => e = .returned (.bool (mayB r)) ∧ w' = w := by
  go_enter Try.func32, Try.ntmps32
  go_wp2
  all_goals
    go_ret
    refine ⟨ret_bool (Bool.eq_iff_iff.2 ?_), rfl⟩
    unfold mayB
    simp only [decide_eq_true_eq, Bool.false_eq_true, false_iff]
    first | omega | (simp only [true_iff]; omega) | (simp only [Bool.or_eq_true, decide_eq_true_eq]; omega)

/-- The character that is told for a number. -/
def chr (r : Int) : Int := if mayB r = true then r else 65533

theorem may_iff (r : Int) : mayB r = true ↔ 0 ≤ r ∧ r ≤ 1114111 ∧ (r < 55296 ∨ 57343 < r) := by unfold mayB; exact decide_eq_true_iff
theorem chr_ok (r : Int) : 0 ≤ chr r ∧ chr r ≤ 1114111 ∧ (chr r < 55296 ∨ 57343 < chr r) := by
  unfold chr
  split
  · rename_i h; exact (may_iff r).1 h
  · omega

theorem ret_str {a b : ByteArray} (h : a = b) : Ending.returned (.string a) = .returned (.string b) := by rw [h]

theorem conv_at (W : World) (g : Nat) (xs : List Int) (n : Nat) (hl : xs.length = n) (hb : W.heap[g]? = some (.cells (xs.map (Value.int .u8)).toArray 5 (0, 0))) : (convert 47 9 (.slice (some ⟨g, 0, none⟩) n n)).run Try.prog W = .ok (.string (strOfNums xs)) W := by
  refine run_convert_bytes_arg _ 47 5 Try.underlying47 Try.underlying5 g 0 n n xs hl (fun i hi => ?_) 9 Try.underlying9
  have hi' : i < xs.length := by omega
  simp [World.cell?, hb, List.getElem?_eq_getElem hi']
theorem conv_new (w : World) (xs : List Int) (n : Nat) (cs : Array Value) (hl : xs.length = n) (hcs : (xs.map (Value.int .u8)).toArray = cs) (S : ByteArray) (hS : strOfNums xs = S) : (convert 47 9 (.slice (some ⟨w.heap.size, 0, none⟩) n n)).run Try.prog (w.alloc (.cells cs 5)) = .ok (.string S) (w.alloc (.cells cs 5)) := by
  subst hcs; subst hS
  exact conv_at _ _ xs n hl (heap_alloc_new _ _)

theorem i64_or192 (y : Int) (h₀ : 0 ≤ y) (h₁ : y < 64) : bits .or .i64 192 y = 192 + y := bits_join .i64 63 (by decide) wraps_i64 6 192 y (by decide) (by decide) (by decide) h₀ (by omega) (by omega)
theorem i64_or224 (y : Int) (h₀ : 0 ≤ y) (h₁ : y < 32) : bits .or .i64 224 y = 224 + y := bits_join .i64 63 (by decide) wraps_i64 5 224 y (by decide) (by decide) (by decide) h₀ (by omega) (by omega)
theorem i64_or240 (y : Int) (h₀ : 0 ≤ y) (h₁ : y < 16) : bits .or .i64 240 y = 240 + y := bits_join .i64 63 (by decide) wraps_i64 4 240 y (by decide) (by decide) (by decide) h₀ (by omega) (by omega)
theorem i64_or128 (y : Int) (h₀ : 0 ≤ y) (h₁ : y < 128) : bits .or .i64 128 y = 128 + y := bits_join .i64 63 (by decide) wraps_i64 7 128 y (by decide) (by decide) (by decide) h₀ (by omega) (by omega)
theorem i64_and63 (x : Int) (h₀ : 0 ≤ x) (h₁ : x < 2000000) : bits .and .i64 x 63 = x % 64 := bits_mask .i64 63 (by decide) wraps_i64 6 (by decide) x h₀ (by omega)

theorem may_as (r : Int) (v : Bool) (w : World) (h : mayB r = v) : Calls Try.prog 32 #[.int .i64 r] w fun e w' => e = .returned (.bool v) ∧ w' = w := by subst h; exact may_any r w

theorem val_enc (r : Int) (h : Utf8.valid r = true) (c : Nat) (hc : r = (c : Int)) : Utf8.encode r = if c < 0x80 then ⟨#[UInt8.ofNat c]⟩ else if c < 0x800 then ⟨#[UInt8.ofNat (0xC0 + c / 64), UInt8.ofNat (0x80 + c % 64)]⟩
    else if c < 0x10000 then ⟨#[UInt8.ofNat (0xE0 + c / 4096), UInt8.ofNat (0x80 + c / 64 % 64), UInt8.ofNat (0x80 + c % 64)]⟩ else ⟨#[UInt8.ofNat (0xF0 + c / 262144), UInt8.ofNat (0x80 + c / 4096 % 64), UInt8.ofNat (0x80 + c / 64 % 64), UInt8.ofNat (0x80 + c % 64)]⟩ := by
  subst hc
  unfold Utf8.encode
  simp only [h, if_true, Int.toNat_natCast]

set_option maxHeartbeats 1000000 in
theorem renc_ok (r : Int) (w : World) (h0 : 0 ≤ r) (h1 : r ≤ 1114111) (h2 : r < 55296 ∨ 57343 < r) :
    Calls Try.prog 24 #[.int .i64 r] w fun e w' => e = .returned (.string (Utf8.encode r)) ∧ Below w.heap.size w w' := by
  have hm : mayB r = true := (may_iff r).2 ⟨h0, h1, h2⟩
  have hv : Utf8.valid r = true := by unfold Utf8.valid; simp; omega
  obtain ⟨c, hc⟩ := Int.eq_ofNat_of_zero_le h0
  have he := val_enc r hv c hc
  have HE : Hid (Utf8.encode r = _) := he
  clear he hv h2
  by_cases c1 : r < 128
  · have hconv := conv_new w [r] 1 #[.int .u8 r] rfl rfl (Utf8.encode r) (by rw [HE.out, if_pos (by omega), hc]; rfl)
    clear hc HE
    go_enter Try.func24, Try.ntmps24
    go_wp2_with (go_at_call 32; refine (may_as _ true _ hm).mono ?_; rintro e w' ⟨rfl, rfl⟩)
    go_ret
    exact ⟨rfl, (Below.refl _ _).alloc (Nat.le_refl _) _⟩
  · by_cases c2 : r < 2048
    · have b1 := i64_or192 (r / 64) (by omega) (by omega)
      have b2 := i64_and63 r (by omega) (by omega)
      have b3 := i64_or128 (r % 64) (by omega) (by omega)
      have b4 : (192 + r / 64) % 256 = 192 + r / 64 := by omega
      have b5 : (128 + r % 64) % 256 = 128 + r % 64 := by omega
      have hconv := conv_new w [192 + r / 64, 128 + r % 64] 2 #[.int .u8 (192 + r / 64), .int .u8 (128 + r % 64)] rfl rfl (Utf8.encode r) (by rw [HE.out, if_neg (by omega), if_pos (by omega), hc]; rfl)
      clear hc HE
      go_enter Try.func24, Try.ntmps24
      go_wp2_with (go_at_call 32; refine (may_as _ true _ hm).mono ?_; rintro e w' ⟨rfl, rfl⟩)
      go_ret
      exact ⟨rfl, (Below.refl _ _).alloc (Nat.le_refl _) _⟩
    · by_cases c3 : r < 65536
      · have b1 := i64_or224 (r / 4096) (by omega) (by omega)
        have b2 := i64_and63 r (by omega) (by omega)
        have b3 := i64_or128 (r % 64) (by omega) (by omega)
        have b4 : (224 + r / 4096) % 256 = 224 + r / 4096 := by omega
        have b5 : (128 + r % 64) % 256 = 128 + r % 64 := by omega
        have b6 := i64_and63 (r / 64) (by omega) (by omega)
        have b7 := i64_or128 (r / 64 % 64) (by omega) (by omega)
        have b8 : (128 + r / 64 % 64) % 256 = 128 + r / 64 % 64 := by omega
        have hconv := conv_new w [224 + r / 4096, 128 + r / 64 % 64, 128 + r % 64] 3 #[.int .u8 (224 + r / 4096), .int .u8 (128 + r / 64 % 64), .int .u8 (128 + r % 64)] rfl rfl (Utf8.encode r) (by rw [HE.out, if_neg (by omega), if_neg (by omega), if_pos (by omega), hc]; rfl)
        clear hc HE
        go_enter Try.func24, Try.ntmps24
        go_wp2_with (go_at_call 32; refine (may_as _ true _ hm).mono ?_; rintro e w' ⟨rfl, rfl⟩)
        go_ret
        exact ⟨rfl, (Below.refl _ _).alloc (Nat.le_refl _) _⟩
      · have b1 := i64_or240 (r / 262144) (by omega) (by omega)
        have b2 := i64_and63 r (by omega) (by omega)
        have b3 := i64_or128 (r % 64) (by omega) (by omega)
        have b4 : (240 + r / 262144) % 256 = 240 + r / 262144 := by omega
        have b5 : (128 + r % 64) % 256 = 128 + r % 64 := by omega
        have b6 := i64_and63 (r / 64) (by omega) (by omega)
        have b7 := i64_or128 (r / 64 % 64) (by omega) (by omega)
        have b8 : (128 + r / 64 % 64) % 256 = 128 + r / 64 % 64 := by omega
        have b9 := i64_and63 (r / 4096) (by omega) (by omega)
        have b10 := i64_or128 (r / 4096 % 64) (by omega) (by omega)
        have b11 : (128 + r / 4096 % 64) % 256 = 128 + r / 4096 % 64 := by omega
        have hconv := conv_new w [240 + r / 262144, 128 + r / 4096 % 64, 128 + r / 64 % 64, 128 + r % 64] 4 #[.int .u8 (240 + r / 262144), .int .u8 (128 + r / 4096 % 64), .int .u8 (128 + r / 64 % 64), .int .u8 (128 + r % 64)] rfl rfl (Utf8.encode r) (by rw [HE.out, if_neg (by omega), if_neg (by omega), if_neg (by omega), hc]; rfl)
        clear hc HE
        go_enter Try.func24, Try.ntmps24
        go_wp2_with (go_at_call 32; refine (may_as _ true _ hm).mono ?_; rintro e w' ⟨rfl, rfl⟩)
        go_ret
        exact ⟨rfl, (Below.refl _ _).alloc (Nat.le_refl _) _⟩

set_option maxHeartbeats 1000000 in
theorem renc_no (r : Int) (w : World) (hm : mayB r = false) :
    Calls Try.prog 24 #[.int .i64 r] w fun e w' => e = .returned (.string (Utf8.encode 65533)) ∧ Below w.heap.size w w' := by
  have b1 : bits .or .i64 224 15 = 239 := by decide +kernel
  have b2 : bits .and .i64 65533 63 = 61 := by decide +kernel
  have b3 : bits .or .i64 128 61 = 189 := by decide +kernel
  have b4 : bits .and .i64 1023 63 = 63 := by decide +kernel
  have b5 : bits .or .i64 128 63 = 191 := by decide +kernel
  have hconv := conv_new w [239, 191, 189] 3 #[.int .u8 239, .int .u8 191, .int .u8 189] rfl rfl (Utf8.encode 65533) (by decide +kernel)
  go_enter Try.func24, Try.ntmps24
  go_wp2_with (go_at_call 32; refine (may_as _ false _ hm).mono ?_; rintro e w' ⟨rfl, rfl⟩)
  go_ret
  exact ⟨rfl, (Below.refl _ _).alloc (Nat.le_refl _) _⟩

theorem renc_any (r : Int) (w : World) : Calls Try.prog 24 #[.int .i64 r] w fun e w' => e = .returned (.string (Utf8.encode (chr r))) ∧ Below w.heap.size w w' := by
  unfold chr
  by_cases h : mayB r = true
  · rw [if_pos h]
    obtain ⟨h0, h1, h2⟩ := (may_iff r).1 h
    exact renc_ok r w h0 h1 h2
  · rw [if_neg h]
    exact renc_no r w (by simpa using h)
theorem enc_same (r : Int) (h0 : 0 ≤ r) (h1 : r ≤ 1114111) (h2 : r < 55296 ∨ 57343 < r) : (Utf8.encode r).data.toList = Lib.encodeRune r := by
  have hv : Utf8.valid r = true := by unfold Utf8.valid; simp; omega
  obtain ⟨c, hc⟩ := Int.eq_ofNat_of_zero_le h0
  rw [val_enc r hv c hc]
  unfold Lib.encodeRune
  have b : ∀ n : Nat, ∀ x : Int, x = n → x.toNat.toUInt8 = UInt8.ofNat n := fun n x e => by rw [e]; rfl
  by_cases c1 : c < 0x80
  · rw [if_pos c1, Lib.encodeRuneZ_one (by omega) (by omega)]
    show [UInt8.ofNat c] = [r.toNat.toUInt8]
    rw [b c r hc]
  by_cases c2 : c < 0x800
  · rw [if_neg c1, if_pos c2, Lib.encodeRuneZ_two (by omega) (by omega)]
    show [UInt8.ofNat (0xC0 + c / 64), UInt8.ofNat (0x80 + c % 64)] = [(192 + r / 64).toNat.toUInt8, (128 + r % 64).toNat.toUInt8]
    rw [b (0xC0 + c / 64) (192 + r / 64) (by omega), b (0x80 + c % 64) (128 + r % 64) (by omega)]
  by_cases c3 : c < 0x10000
  · rw [if_neg c1, if_neg c2, if_pos c3, Lib.encodeRuneZ_three (by omega)]
    show [UInt8.ofNat (0xE0 + c / 4096), UInt8.ofNat (0x80 + c / 64 % 64), UInt8.ofNat (0x80 + c % 64)] = [(224 + r / 4096).toNat.toUInt8, (128 + r / 64 % 64).toNat.toUInt8, (128 + r % 64).toNat.toUInt8]
    rw [b (0xE0 + c / 4096) (224 + r / 4096) (by omega), b (0x80 + c / 64 % 64) (128 + r / 64 % 64) (by omega), b (0x80 + c % 64) (128 + r % 64) (by omega)]
  · rw [if_neg c1, if_neg c2, if_neg c3, Lib.encodeRuneZ_four (by omega) (by omega)]
    show [UInt8.ofNat (0xF0 + c / 262144), UInt8.ofNat (0x80 + c / 4096 % 64), UInt8.ofNat (0x80 + c / 64 % 64), UInt8.ofNat (0x80 + c % 64)] = [(240 + r / 262144).toNat.toUInt8, (128 + r / 4096 % 64).toNat.toUInt8, (128 + r / 64 % 64).toNat.toUInt8, (128 + r % 64).toNat.toUInt8]
    rw [b (0xF0 + c / 262144) (240 + r / 262144) (by omega), b (0x80 + c / 4096 % 64) (128 + r / 4096 % 64) (by omega), b (0x80 + c / 64 % 64) (128 + r / 64 % 64) (by omega), b (0x80 + c % 64) (128 + r % 64) (by omega)]

theorem chr_lib (r : Int) : (Utf8.encode (chr r)).data.toList = Lib.encodeRune (chr r) := enc_same _ (chr_ok r).1 (chr_ok r).2.1 (chr_ok r).2.2

set_option maxHeartbeats 1000000 in
theorem char_any (r : Int) (w : World) : Calls Try.prog 29 #[.int .i64 r] w fun e w' => e = .returned (.int .i32 (chr r)) ∧ w' = w := by
  by_cases h : 0 ≤ r ∧ r ≤ 1114111 ∧ (r < 55296 ∨ 57343 < r)
  · have hc : Hid (chr r = r) := by show chr r = r; unfold chr; rw [if_pos ((may_iff r).2 h)]
    obtain ⟨h0, h1, h2⟩ := h
    rcases h2 with h2 | h2
    · go_enter Try.func29, Try.ntmps29
      go_wp2
      go_ret
      exact ⟨ret_i32 hc.out.symm, rfl⟩
    · go_enter Try.func29, Try.ntmps29
      go_wp2
      go_ret
      exact ⟨ret_i32 hc.out.symm, rfl⟩
  · have hc : Hid (chr r = 65533) := by show chr r = 65533; unfold chr; rw [if_neg (fun c => h ((may_iff r).1 c))]
    have h3 : r < 0 ∨ 1114111 < r ∨ (55296 ≤ r ∧ r ≤ 57343) := by omega
    clear h
    rcases h3 with h3 | h3 | ⟨h3, h4⟩
    all_goals
      go_enter Try.func29, Try.ntmps29
      go_wp2
      go_ret
      exact ⟨ret_i32 hc.out.symm, rfl⟩

def sLt : ByteArray := ⟨#[91, 108, 116, 93]⟩
/-- A character as it is shown. -/
def shCh (r : Int) : ByteArray := if r = 60 then sLt else Utf8.encode (chr r)

set_option maxHeartbeats 1000000 in
theorem shch_any (r : Int) (w : World) : Calls Try.prog 21 #[.int .i64 r] w fun e w' => e = .returned (.string (shCh r)) ∧ w' = w := by
  by_cases h : r = 60
  · subst h
    go_enter Try.func21, Try.ntmps21
    go_wp2_with fail
    go_ret
    exact ⟨rfl, rfl⟩
  · have hc : Hid (shCh r = Utf8.encode (chr r)) := by show _ = _; unfold shCh; rw [if_neg h]
    have h' : (r == 60) = false := beq_false_of_ne h
    clear h
    have k := char_any r w
    obtain ⟨c, hcc⟩ : ∃ c, chr r = c := ⟨_, rfl⟩
    rw [hcc] at k hc
    clear hcc
    go_enter Try.func21, Try.ntmps21
    go_wp2_with fail
    refine k.mono ?_
    rintro e w' ⟨rfl, hw⟩
    obtain rfl := hw.symm
    clear k hw
    go_wp2_with fail
    go_ret
    exact ⟨ret_str (by rw [hc.out]), rfl⟩

def onlyP (b : Bool) (s : ByteArray) : ByteArray := if b = true then s else ⟨#[]⟩
set_option maxHeartbeats 400000 in
theorem only_any (b : Bool) (s : ByteArray) (w : World) : Calls Try.prog 23 #[.bool b, .string s] w fun e w' => e = .returned (.string (onlyP b s)) ∧ w' = w := by
  cases b
  all_goals
    go_enter Try.func23, Try.ntmps23
    go_wp2_with fail
    go_ret
    exact ⟨rfl, rfl⟩

def clsP (k : Int) (s : Bool) : Int := if k = 1 then (if s = true then 5 else 1) else if k = 2 then 2 else if k = 3 then 2 else if k = 4 then 3 else if k = 5 then 4 else 0

set_option maxHeartbeats 1000000 in
theorem class_any (T : Tk) (w : World) : Calls Try.prog 11 #[T.val] w fun e w' => e = .returned (.int .i64 (clsP T.k T.s)) ∧ Below w.heap.size w w' := by
  obtain ⟨k, r, nm, tx, ao, n, cap, s, f, t⟩ := T
  simp only [Tk.val, Tk.arr]
  by_cases h1 : k = 1
  · subst h1
    cases s
    all_goals
      go_enter Try.func11, Try.ntmps11
      go_wp2_with fail
      go_ret
      exact ⟨rfl, (Below.refl _ _).alloc (Nat.le_refl _) _⟩
  by_cases h2 : k = 2
  · subst h2
    go_enter Try.func11, Try.ntmps11
    go_wp2_with fail
    go_ret
    exact ⟨rfl, (Below.refl _ _).alloc (Nat.le_refl _) _⟩
  by_cases h3 : k = 3
  · subst h3
    go_enter Try.func11, Try.ntmps11
    go_wp2_with fail
    go_ret
    exact ⟨rfl, (Below.refl _ _).alloc (Nat.le_refl _) _⟩
  by_cases h4 : k = 4
  · subst h4
    go_enter Try.func11, Try.ntmps11
    go_wp2_with fail
    go_ret
    exact ⟨rfl, (Below.refl _ _).alloc (Nat.le_refl _) _⟩
  by_cases h5 : k = 5
  · subst h5
    go_enter Try.func11, Try.ntmps11
    go_wp2_with fail
    go_ret
    exact ⟨rfl, (Below.refl _ _).alloc (Nat.le_refl _) _⟩
  have e : clsP k s = 0 := by unfold clsP; rw [if_neg h1, if_neg h2, if_neg h3, if_neg h4, if_neg h5]
  rw [e]
  have g1 := beq_false_of_ne h1
  have g2 := beq_false_of_ne h2
  have g3 := beq_false_of_ne h3
  have g4 := beq_false_of_ne h4
  have g5 := beq_false_of_ne h5
  clear h1 h2 h3 h4 h5 e
  go_enter Try.func11, Try.ntmps11
  go_wp2_with fail
  go_ret
  exact ⟨rfl, (Below.refl _ _).alloc (Nat.le_refl _) _⟩

set_option maxHeartbeats 1000000 in
theorem rclass_any (T : Tk) (w : World) : Calls Try.prog 12 #[T.val] w fun e w' => e = .returned (.int .i64 (clsP T.k T.s)) ∧ Below w.heap.size w w' := by
  obtain ⟨k, r, nm, tx, ao, n, cap, s, f, t⟩ := T
  simp only [Tk.val, Tk.arr]
  by_cases h1 : k = 1
  · subst h1
    cases s
    all_goals
      go_enter Try.func12, Try.ntmps12
      go_wp2_with fail
      go_ret
      exact ⟨rfl, (Below.refl _ _).alloc (Nat.le_refl _) _⟩
  by_cases h2 : k = 2
  · subst h2
    go_enter Try.func12, Try.ntmps12
    go_wp2_with fail
    go_ret
    exact ⟨rfl, (Below.refl _ _).alloc (Nat.le_refl _) _⟩
  by_cases h3 : k = 3
  · subst h3
    go_enter Try.func12, Try.ntmps12
    go_wp2_with fail
    go_ret
    exact ⟨rfl, (Below.refl _ _).alloc (Nat.le_refl _) _⟩
  by_cases h4 : k = 4
  · subst h4
    go_enter Try.func12, Try.ntmps12
    go_wp2_with fail
    go_ret
    exact ⟨rfl, (Below.refl _ _).alloc (Nat.le_refl _) _⟩
  by_cases h5 : k = 5
  · subst h5
    go_enter Try.func12, Try.ntmps12
    go_wp2_with fail
    go_ret
    exact ⟨rfl, (Below.refl _ _).alloc (Nat.le_refl _) _⟩
  have e : clsP k s = 0 := by unfold clsP; rw [if_neg h1, if_neg h2, if_neg h3, if_neg h4, if_neg h5]
  rw [e]
  have g1 := beq_false_of_ne h1
  have g2 := beq_false_of_ne h2
  have g3 := beq_false_of_ne h3
  have g4 := beq_false_of_ne h4
  have g5 := beq_false_of_ne h5
  clear h1 h2 h3 h4 h5 e
  go_enter Try.func12, Try.ntmps12
  go_wp2_with fail
  go_ret
  exact ⟨rfl, (Below.refl _ _).alloc (Nat.le_refl _) _⟩

end Go.Proofs.Ytnpaodagpleiaaa
