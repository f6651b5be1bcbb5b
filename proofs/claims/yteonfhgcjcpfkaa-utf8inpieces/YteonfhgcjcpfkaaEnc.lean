/- Encode, the program's and the document's: the same bytes. -/
import Derived.Test.YteonfhgcjcpfkaaFeed
import Derived.Test.YteonfhgcjcpfkaaEncp
import Derived.Laws.BytesArg
namespace Go.Proofs.Yteonfhgcjcpfkaa
open Go.RowKit

/-- The character that is told for a number. -/
def chr (r : Int) : Int := if mayB r = true then r else 65533

theorem may_iff (r : Int) : mayB r = true ↔ 0 ≤ r ∧ r ≤ 1114111 ∧ (r < 55296 ∨ 57343 < r) := by unfold mayB; exact decide_eq_true_iff
theorem chr_ok (r : Int) : 0 ≤ chr r ∧ chr r ≤ 1114111 ∧ (chr r < 55296 ∨ 57343 < chr r) := by
  unfold chr
  split
  · rename_i h; exact (may_iff r).1 h
  · omega

theorem ret_str {a b : ByteArray} (h : a = b) : Ending.returned (.string a) = .returned (.string b) := by rw [h]

set_option maxHeartbeats 1000000 in
theorem enc_any (r : Int) (w : World) : Calls Try.prog 13 #[.int .i64 r] w fun e w' => e = .returned (.string (Utf8.encode (chr r))) ∧ w' = w := by
  by_cases h : 0 ≤ r ∧ r ≤ 1114111 ∧ (r < 55296 ∨ 57343 < r)
  · have hc : Hid (chr r = r) := by show chr r = r; unfold chr; rw [if_pos ((may_iff r).2 h)]
    obtain ⟨h0, h1, h2⟩ := h
    rcases h2 with h2 | h2
    · go_enter Try.func13, Try.ntmps13
      go_wp2
      go_ret
      exact ⟨ret_str (by rw [hc.out]), rfl⟩
    · go_enter Try.func13, Try.ntmps13
      go_wp2
      go_ret
      exact ⟨ret_str (by rw [hc.out]), rfl⟩
  · have hc : Hid (chr r = 65533) := by show chr r = 65533; unfold chr; rw [if_neg (fun c => h ((may_iff r).1 c))]
    have h3 : r < 0 ∨ 1114111 < r ∨ (55296 ≤ r ∧ r ≤ 57343) := by omega
    clear h
    rcases h3 with h3 | h3 | ⟨h3, h4⟩
    all_goals
      go_enter Try.func13, Try.ntmps13
      go_wp2
      go_ret
      exact ⟨ret_str (by rw [hc.out]), rfl⟩

theorem conv_at (W : World) (g : Nat) (xs : List Int) (n : Nat) (hl : xs.length = n) (hb : W.heap[g]? = some (.cells (xs.map (Value.int .u8)).toArray 5 (0, 0))) : (convert 53 9 (.slice (some ⟨g, 0, none⟩) n n)).run Try.prog W = .ok (.string (strOfNums xs)) W := by
  refine run_convert_bytes_arg _ 53 5 Try.underlying53 Try.underlying5 g 0 n n xs hl (fun i hi => ?_) 9 Try.underlying9
  have hi' : i < xs.length := by omega
  simp [World.cell?, hb, List.getElem?_eq_getElem hi']
theorem conv_new (w : World) (xs : List Int) (n : Nat) (cs : Array Value) (hl : xs.length = n) (hcs : (xs.map (Value.int .u8)).toArray = cs) (S : ByteArray) (hS : strOfNums xs = S) : (convert 53 9 (.slice (some ⟨w.heap.size, 0, none⟩) n n)).run Try.prog (w.alloc (.cells cs 5)) = .ok (.string S) (w.alloc (.cells cs 5)) := by
  subst hcs; subst hS
  exact conv_at _ _ xs n hl (heap_alloc_new _ _)

theorem i64_or192 (y : Int) (h₀ : 0 ≤ y) (h₁ : y < 64) : bits .or .i64 192 y = 192 + y := bits_join .i64 63 (by decide) wraps_i64 6 192 y (by decide) (by decide) (by decide) h₀ (by omega) (by omega)
theorem i64_or224 (y : Int) (h₀ : 0 ≤ y) (h₁ : y < 32) : bits .or .i64 224 y = 224 + y := bits_join .i64 63 (by decide) wraps_i64 5 224 y (by decide) (by decide) (by decide) h₀ (by omega) (by omega)
theorem i64_or240 (y : Int) (h₀ : 0 ≤ y) (h₁ : y < 16) : bits .or .i64 240 y = 240 + y := bits_join .i64 63 (by decide) wraps_i64 4 240 y (by decide) (by decide) (by decide) h₀ (by omega) (by omega)
theorem i64_or128 (y : Int) (h₀ : 0 ≤ y) (h₁ : y < 128) : bits .or .i64 128 y = 128 + y := bits_join .i64 63 (by decide) wraps_i64 7 128 y (by decide) (by decide) (by decide) h₀ (by omega) (by omega)
theorem i64_and63 (x : Int) (h₀ : 0 ≤ x) (h₁ : x < 2000000) : bits .and .i64 x 63 = x % 64 := bits_mask .i64 63 (by decide) wraps_i64 6 (by decide) x h₀ (by omega)

theorem may_as (r : Int) (v : Bool) (w : World) (h : mayB r = v) : Calls Try.prog 15 #[.int .i64 r] w fun e w' => e = .returned (.bool v) ∧ w' = w := by subst h; exact may_any r w

theorem val_enc (r : Int) (h : Utf8.valid r = true) (c : Nat) (hc : r = (c : Int)) : Utf8.encode r = if c < 0x80 then ⟨#[UInt8.ofNat c]⟩ else if c < 0x800 then ⟨#[UInt8.ofNat (0xC0 + c / 64), UInt8.ofNat (0x80 + c % 64)]⟩
    else if c < 0x10000 then ⟨#[UInt8.ofNat (0xE0 + c / 4096), UInt8.ofNat (0x80 + c / 64 % 64), UInt8.ofNat (0x80 + c % 64)]⟩ else ⟨#[UInt8.ofNat (0xF0 + c / 262144), UInt8.ofNat (0x80 + c / 4096 % 64), UInt8.ofNat (0x80 + c / 64 % 64), UInt8.ofNat (0x80 + c % 64)]⟩ := by
  subst hc
  unfold Utf8.encode
  simp only [h, if_true, Int.toNat_natCast]

set_option maxHeartbeats 1000000 in
theorem renc_ok (r : Int) (w : World) (h0 : 0 ≤ r) (h1 : r ≤ 1114111) (h2 : r < 55296 ∨ 57343 < r) :
    Calls Try.prog 14 #[.int .i64 r] w fun e w' => e = .returned (.string (Utf8.encode r)) ∧ Below w.heap.size w w' := by
  have hm : mayB r = true := (may_iff r).2 ⟨h0, h1, h2⟩
  have hv : Utf8.valid r = true := by unfold Utf8.valid; simp; omega
  obtain ⟨c, hc⟩ := Int.eq_ofNat_of_zero_le h0
  have he := val_enc r hv c hc
  have HE : Hid (Utf8.encode r = _) := he
  clear he hv h2
  by_cases c1 : r < 128
  · have hconv := conv_new w [r] 1 #[.int .u8 r] rfl rfl (Utf8.encode r) (by rw [HE.out, if_pos (by omega), hc]; rfl)
    clear hc HE
    go_enter Try.func14, Try.ntmps14
    go_wp2_with (go_at_call 15; refine (may_as _ true _ hm).mono ?_; rintro e w' ⟨rfl, rfl⟩)
    go_ret
    exact ⟨rfl, (Below.refl _ _).alloc (Nat.le_refl _) _⟩
  · by_cases c2 : r < 2048
    · have b1 := i64_or192 (r / 64) (by omega) (by omega)
      have b2 := i64_and63 r (by omega) (by omega)
      have b3 := i64_or128 (r % 64) (by omega) (by omega)
      have b4 : (192 + r / 64) % 256 = 192 + r / 64 := by omega
      have b5 : (128 + r % 64) % 256 = 128 + r % 64 := by omega
      have hconv := conv_new w [192 + r / 64, 128 + r % 64] 2 #[.int .u8 (192 + r / 64), .int .u8 (128 + r % 64)] rfl rfl (Utf8.encode r) (by rw [HE.out, if_neg (by omega), if_pos (by omega), hc]; rfl)
      clear hc HE
      go_enter Try.func14, Try.ntmps14
      go_wp2_with (go_at_call 15; refine (may_as _ true _ hm).mono ?_; rintro e w' ⟨rfl, rfl⟩)
      go_ret
      exact ⟨rfl, (Below.refl _ _).alloc (Nat.le_refl _) _⟩
    · by_cases c3 : r < 65536
      · have b1 := i64_or224 (r / 4096) (by omega) (by omega)
        have b2 := i64_and63 r (by omega) (by omega)
        have b3 := i64_or128 (r % 64) (by omega) (by omega)
        have b4 : (224 + r / 4096) % 256 = 224 + r / 4096 := by omega
        have b5 : (128 + r % 64) % 256 = 128 + r % 64 := by omega
        have b6 := i64_and63 (r / 64) (by omega) (by omega)
        have b7 := i64_or128 (r / 64 % 64) (by omega) (by omega)
        have b8 : (128 + r / 64 % 64) % 256 = 128 + r / 64 % 64 := by omega
        have hconv := conv_new w [224 + r / 4096, 128 + r / 64 % 64, 128 + r % 64] 3 #[.int .u8 (224 + r / 4096), .int .u8 (128 + r / 64 % 64), .int .u8 (128 + r % 64)] rfl rfl (Utf8.encode r) (by rw [HE.out, if_neg (by omega), if_neg (by omega), if_pos (by omega), hc]; rfl)
        clear hc HE
        go_enter Try.func14, Try.ntmps14
        go_wp2_with (go_at_call 15; refine (may_as _ true _ hm).mono ?_; rintro e w' ⟨rfl, rfl⟩)
        go_ret
        exact ⟨rfl, (Below.refl _ _).alloc (Nat.le_refl _) _⟩
      · have b1 := i64_or240 (r / 262144) (by omega) (by omega)
        have b2 := i64_and63 r (by omega) (by omega)
        have b3 := i64_or128 (r % 64) (by omega) (by omega)
        have b4 : (240 + r / 262144) % 256 = 240 + r / 262144 := by omega
        have b5 : (128 + r % 64) % 256 = 128 + r % 64 := by omega
        have b6 := i64_and63 (r / 64) (by omega) (by omega)
        have b7 := i64_or128 (r / 64 % 64) (by omega) (by omega)
        have b8 : (128 + r / 64 % 64) % 256 = 128 + r / 64 % 64 := by omega
        have b9 := i64_and63 (r / 4096) (by omega) (by omega)
        have b10 := i64_or128 (r / 4096 % 64) (by omega) (by omega)
        have b11 : (128 + r / 4096 % 64) % 256 = 128 + r / 4096 % 64 := by omega
        have hconv := conv_new w [240 + r / 262144, 128 + r / 4096 % 64, 128 + r / 64 % 64, 128 + r % 64] 4 #[.int .u8 (240 + r / 262144), .int .u8 (128 + r / 4096 % 64), .int .u8 (128 + r / 64 % 64), .int .u8 (128 + r % 64)] rfl rfl (Utf8.encode r) (by rw [HE.out, if_neg (by omega), if_neg (by omega), if_neg (by omega), hc]; rfl)
        clear hc HE
        go_enter Try.func14, Try.ntmps14
        go_wp2_with (go_at_call 15; refine (may_as _ true _ hm).mono ?_; rintro e w' ⟨rfl, rfl⟩)
        go_ret
        exact ⟨rfl, (Below.refl _ _).alloc (Nat.le_refl _) _⟩

set_option maxHeartbeats 1000000 in
theorem renc_no (r : Int) (w : World) (hm : mayB r = false) :
    Calls Try.prog 14 #[.int .i64 r] w fun e w' => e = .returned (.string (Utf8.encode 65533)) ∧ Below w.heap.size w w' := by
  have b1 : bits .or .i64 224 15 = 239 := by decide +kernel
  have b2 : bits .and .i64 65533 63 = 61 := by decide +kernel
  have b3 : bits .or .i64 128 61 = 189 := by decide +kernel
  have b4 : bits .and .i64 1023 63 = 63 := by decide +kernel
  have b5 : bits .or .i64 128 63 = 191 := by decide +kernel
  have hconv := conv_new w [239, 191, 189] 3 #[.int .u8 239, .int .u8 191, .int .u8 189] rfl rfl (Utf8.encode 65533) (by decide +kernel)
  go_enter Try.func14, Try.ntmps14
  go_wp2_with (go_at_call 15; refine (may_as _ false _ hm).mono ?_; rintro e w' ⟨rfl, rfl⟩)
  go_ret
  exact ⟨rfl, (Below.refl _ _).alloc (Nat.le_refl _) _⟩

theorem renc_any (r : Int) (w : World) : Calls Try.prog 14 #[.int .i64 r] w fun e w' => e = .returned (.string (Utf8.encode (chr r))) ∧ Below w.heap.size w w' := by
  unfold chr
  by_cases h : mayB r = true
  · rw [if_pos h]
    obtain ⟨h0, h1, h2⟩ := (may_iff r).1 h
    exact renc_ok r w h0 h1 h2
  · rw [if_neg h]
    exact renc_no r w (by simpa using h)
end Go.Proofs.Yteonfhgcjcpfkaa
