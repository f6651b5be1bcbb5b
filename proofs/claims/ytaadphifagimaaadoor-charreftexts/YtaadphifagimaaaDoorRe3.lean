/- The document's bytes of a character. -/
import Derived.Test.YtaadphifagimaaaDoorNumr
import Derived.Lib.RuneBytes
import Derived.Laws.BytesArg
namespace Go.Proofs.YtaadphifagimaaaDoor
open Go.RowKit

theorem conv_at (W : World) (g : Nat) (xs : List Int) (n : Nat) (hl : xs.length = n) (hb : W.heap[g]? = some (.cells (xs.map (Value.int .u8)).toArray 5 (0, 0))) : (convert 50 9 (.slice (some ⟨g, 0, none⟩) n n)).run Tryd.prog W = .ok (.string (strOfNums xs)) W := by
  refine run_convert_bytes_arg _ 50 5 Tryd.underlying50 Tryd.underlying5 g 0 n n xs hl (fun i hi => ?_) 9 Tryd.underlying9
  have hi' : i < xs.length := by omega
  simp [World.cell?, hb, List.getElem?_eq_getElem hi']
theorem conv_new (w : World) (xs : List Int) (n : Nat) (cs : Array Value) (hl : xs.length = n) (hcs : (xs.map (Value.int .u8)).toArray = cs) (S : ByteArray) (hS : strOfNums xs = S) : (convert 50 9 (.slice (some ⟨w.heap.size, 0, none⟩) n n)).run Tryd.prog (w.alloc (.cells cs 5)) = .ok (.string S) (w.alloc (.cells cs 5)) := by
  subst hcs; subst hS
  exact conv_at _ _ xs n hl (heap_alloc_new _ _)

theorem i64_or192 (y : Int) (h₀ : 0 ≤ y) (h₁ : y < 64) : bits .or .i64 192 y = 192 + y := bits_join .i64 63 (by decide) wraps_i64 6 192 y (by decide) (by decide) (by decide) h₀ (by omega) (by omega)
theorem i64_or224 (y : Int) (h₀ : 0 ≤ y) (h₁ : y < 32) : bits .or .i64 224 y = 224 + y := bits_join .i64 63 (by decide) wraps_i64 5 224 y (by decide) (by decide) (by decide) h₀ (by omega) (by omega)
theorem i64_or240 (y : Int) (h₀ : 0 ≤ y) (h₁ : y < 16) : bits .or .i64 240 y = 240 + y := bits_join .i64 63 (by decide) wraps_i64 4 240 y (by decide) (by decide) (by decide) h₀ (by omega) (by omega)
theorem i64_or128 (y : Int) (h₀ : 0 ≤ y) (h₁ : y < 128) : bits .or .i64 128 y = 128 + y := bits_join .i64 63 (by decide) wraps_i64 7 128 y (by decide) (by decide) (by decide) h₀ (by omega) (by omega)
theorem i64_and63 (x : Int) (h₀ : 0 ≤ x) (h₁ : x < 2000000) : bits .and .i64 x 63 = x % 64 := bits_mask .i64 63 (by decide) wraps_i64 6 (by decide) x h₀ (by omega)

theorem val_enc (r : Int) (h : Utf8.valid r = true) (c : Nat) (hc : r = (c : Int)) : Utf8.encode r = if c < 0x80 then ⟨#[UInt8.ofNat c]⟩ else if c < 0x800 then ⟨#[UInt8.ofNat (0xC0 + c / 64), UInt8.ofNat (0x80 + c % 64)]⟩
    else if c < 0x10000 then ⟨#[UInt8.ofNat (0xE0 + c / 4096), UInt8.ofNat (0x80 + c / 64 % 64), UInt8.ofNat (0x80 + c % 64)]⟩ else ⟨#[UInt8.ofNat (0xF0 + c / 262144), UInt8.ofNat (0x80 + c / 4096 % 64), UInt8.ofNat (0x80 + c / 64 % 64), UInt8.ofNat (0x80 + c % 64)]⟩ := by
  subst hc
  unfold Utf8.encode
  simp only [h, if_true, Int.toNat_natCast]

set_option maxHeartbeats 1000000 in
set_option maxRecDepth 10000 in
theorem renc_ok (r : Int) (w : World) (h0 : 0 ≤ r) (h1 : r ≤ 1114111) (h2 : r < 55296 ∨ 57343 < r) :
    Calls Tryd.prog 35 #[.int .i64 r] w fun e w' => e = .returned (.string (Utf8.encode r)) ∧ Below w.heap.size w w' := by
  have hm : mayB r = true := by unfold mayB; exact decide_eq_true ⟨h0, h1, h2⟩
  have hv : Utf8.valid r = true := by unfold Utf8.valid; simp; omega
  obtain ⟨c, hc⟩ := Int.eq_ofNat_of_zero_le h0
  have he := val_enc r hv c hc
  have HE : Hid (Utf8.encode r = _) := he
  clear he hv h2
  by_cases c1 : r < 128
  · have hconv := conv_new w [r] 1 #[.int .u8 r] rfl rfl (Utf8.encode r) (by rw [HE.out, if_pos (by omega), hc]; rfl)
    clear hc HE
    go_enter Tryd.func35, Tryd.ntmps35
    go_wp2_with (go_at_call 20; refine (may_as _ true _ hm).mono ?_; rintro e w' ⟨rfl, rfl⟩)
    go_ret
    exact ⟨rfl, (Below.refl _ _).alloc (Nat.le_refl _) _⟩
  · by_cases c2 : r < 2048
    · have b1 := i64_or192 (r / 64) (by omega) (by omega)
      have b2 := i64_and63 r (by omega) (by omega)
      have b3 := i64_or128 (r % 64) (by omega) (by omega)
      have b4 : (192 + r / 64) % 256 = 192 + r / 64 := by omega
      have b5 : (128 + r % 64) % 256 = 128 + r % 64 := by omega
      have hconv := conv_new w [192 + r / 64, 128 + r % 64] 2 #[.int .u8 (192 + r / 64), .int .u8 (128 + r % 64)] rfl rfl (Utf8.encode r) (by rw [HE.out, if_neg (by omega), if_pos (by omega), hc]; rfl)
      clear hc HE
      go_enter Tryd.func35, Tryd.ntmps35
      go_wp2_with (go_at_call 20; refine (may_as _ true _ hm).mono ?_; rintro e w' ⟨rfl, rfl⟩)
      go_ret
      exact ⟨rfl, (Below.refl _ _).alloc (Nat.le_refl _) _⟩
    · by_cases c3 : r < 65536
      · have b1 := i64_or224 (r / 4096) (by omega) (by omega)
        have b2 := i64_and63 r (by omega) (by omega)
        have b3 := i64_or128 (r % 64) (by omega) (by omega)
        have b4 : (224 + r / 4096) % 256 = 224 + r / 4096 := by omega
        have b5 : (128 + r % 64) % 256 = 128 + r % 64 := by omega
        have b6 := i64_and63 (r / 64) (by omega) (by omega)
        have b7 := i64_or128 (r / 64 % 64) (by omega) (by omega)
        have b8 : (128 + r / 64 % 64) % 256 = 128 + r / 64 % 64 := by omega
        have hconv := conv_new w [224 + r / 4096, 128 + r / 64 % 64, 128 + r % 64] 3 #[.int .u8 (224 + r / 4096), .int .u8 (128 + r / 64 % 64), .int .u8 (128 + r % 64)] rfl rfl (Utf8.encode r) (by rw [HE.out, if_neg (by omega), if_neg (by omega), if_pos (by omega), hc]; rfl)
        clear hc HE
        go_enter Tryd.func35, Tryd.ntmps35
        go_wp2_with (go_at_call 20; refine (may_as _ true _ hm).mono ?_; rintro e w' ⟨rfl, rfl⟩)
        go_ret
        exact ⟨rfl, (Below.refl _ _).alloc (Nat.le_refl _) _⟩
      · have b1 := i64_or240 (r / 262144) (by omega) (by omega)
        have b2 := i64_and63 r (by omega) (by omega)
        have b3 := i64_or128 (r % 64) (by omega) (by omega)
        have b4 : (240 + r / 262144) % 256 = 240 + r / 262144 := by omega
        have b5 : (128 + r % 64) % 256 = 128 + r % 64 := by omega
        have b6 := i64_and63 (r / 64) (by omega) (by omega)
        have b7 := i64_or128 (r / 64 % 64) (by omega) (by omega)
        have b8 : (128 + r / 64 % 64) % 256 = 128 + r / 64 % 64 := by omega
        have b9 := i64_and63 (r / 4096) (by omega) (by omega)
        have b10 := i64_or128 (r / 4096 % 64) (by omega) (by omega)
        have b11 : (128 + r / 4096 % 64) % 256 = 128 + r / 4096 % 64 := by omega
        have hconv := conv_new w [240 + r / 262144, 128 + r / 4096 % 64, 128 + r / 64 % 64, 128 + r % 64] 4 #[.int .u8 (240 + r / 262144), .int .u8 (128 + r / 4096 % 64), .int .u8 (128 + r / 64 % 64), .int .u8 (128 + r % 64)] rfl rfl (Utf8.encode r) (by rw [HE.out, if_neg (by omega), if_neg (by omega), if_neg (by omega), hc]; rfl)
        clear hc HE
        go_enter Tryd.func35, Tryd.ntmps35
        go_wp2_with (go_at_call 20; refine (may_as _ true _ hm).mono ?_; rintro e w' ⟨rfl, rfl⟩)
        go_ret
        exact ⟨rfl, (Below.refl _ _).alloc (Nat.le_refl _) _⟩

theorem enc_same (r : Int) (h0 : 0 ≤ r) (h1 : r ≤ 1114111) (h2 : r < 55296 ∨ 57343 < r) : (Utf8.encode r).data.toList = Lib.encodeRune r := by
  have hv : Utf8.valid r = true := by unfold Utf8.valid; simp; omega
  obtain ⟨c, hc⟩ := Int.eq_ofNat_of_zero_le h0
  rw [val_enc r hv c hc]
  unfold Lib.encodeRune
  have b : ∀ n : Nat, ∀ x : Int, x = n → x.toNat.toUInt8 = UInt8.ofNat n := fun n x e => by rw [e]; rfl
  by_cases c1 : c < 0x80
  · rw [if_pos c1, Lib.encodeRuneZ_one (by omega) (by omega)]
    show [UInt8.ofNat c] = [r.toNat.toUInt8]
    rw [b c r hc]
  by_cases c2 : c < 0x800
  · rw [if_neg c1, if_pos c2, Lib.encodeRuneZ_two (by omega) (by omega)]
    show [UInt8.ofNat (0xC0 + c / 64), UInt8.ofNat (0x80 + c % 64)] = [(192 + r / 64).toNat.toUInt8, (128 + r % 64).toNat.toUInt8]
    rw [b (0xC0 + c / 64) (192 + r / 64) (by omega), b (0x80 + c % 64) (128 + r % 64) (by omega)]
  by_cases c3 : c < 0x10000
  · rw [if_neg c1, if_neg c2, if_pos c3, Lib.encodeRuneZ_three (by omega)]
    show [UInt8.ofNat (0xE0 + c / 4096), UInt8.ofNat (0x80 + c / 64 % 64), UInt8.ofNat (0x80 + c % 64)] = [(224 + r / 4096).toNat.toUInt8, (128 + r / 64 % 64).toNat.toUInt8, (128 + r % 64).toNat.toUInt8]
    rw [b (0xE0 + c / 4096) (224 + r / 4096) (by omega), b (0x80 + c / 64 % 64) (128 + r / 64 % 64) (by omega), b (0x80 + c % 64) (128 + r % 64) (by omega)]
  · rw [if_neg c1, if_neg c2, if_neg c3, Lib.encodeRuneZ_four (by omega) (by omega)]
    show [UInt8.ofNat (0xF0 + c / 262144), UInt8.ofNat (0x80 + c / 4096 % 64), UInt8.ofNat (0x80 + c / 64 % 64), UInt8.ofNat (0x80 + c % 64)] = [(240 + r / 262144).toNat.toUInt8, (128 + r / 4096 % 64).toNat.toUInt8, (128 + r / 64 % 64).toNat.toUInt8, (128 + r % 64).toNat.toUInt8]
    rw [b (0xF0 + c / 262144) (240 + r / 262144) (by omega), b (0x80 + c / 4096 % 64) (128 + r / 4096 % 64) (by omega), b (0x80 + c / 64 % 64) (128 + r / 64 % 64) (by omega), b (0x80 + c % 64) (128 + r % 64) (by omega)]
end Go.Proofs.YtaadphifagimaaaDoor
