/- begin, fits, with: what the bytes that wait say. -/
import Derived.Test.YtkphiopeclgffaaMem
namespace Go.Proofs.Ytkphiopeclgffaa
open Go.RowKit

def F.val (f : F) : Value := .agg #[.int .i64 f.bits, .int .i64 f.more, .int .u8 (f.lo : Nat), .int .u8 (f.hi : Nat)]

theorem wraps_i64 (n : Int) (h₀ : 0 ≤ n) (h₁ : n < 2 ^ 63) : IntKind.i64.wrap n = n := by rw [IntKind.wrap_i64]; omega
theorem i64_or6 (x y : Int) (h0 : 0 ≤ x) (h1 : x ≤ 1000000000000) (hx : x % 64 = 0) (h2 : 0 ≤ y) (h3 : y < 64) : bits .or .i64 x y = x + y :=
  bits_join .i64 63 (by decide) wraps_i64 6 x y h0 hx (by omega) h2 (by omega) (by omega)
theorem u8_and7 (x : Int) (h₀ : 0 ≤ x) (h₁ : x < 256) : bits .and .u8 x 7 = x % 8 := bits_mask .u8 8 (by decide) wraps_u8 3 (by decide) x h₀ h₁

theorem form_eq {a b c d : Int} {f : F} (h1 : a = f.bits) (h2 : b = f.more) (h3 : c = (f.lo : Nat)) (h4 : d = (f.hi : Nat)) : Ending.returned (.agg #[.int .i64 a, .int .i64 b, .int .u8 c, .int .u8 d]) = Ending.returned f.val := by
  unfold F.val; rw [h1, h2, h3, h4]

theorem info59 : (Try.prog.info? 59).map (·.size) = some 4 := by kernel_rfl

theorem byte_lt (b : UInt8) : (b.toNat : Int) < 256 := by have := UInt8.toNat_lt b; omega

theorem add6_eq (x : Int) (b : UInt8) (h0 : 0 ≤ x) (h1 : x ≤ 1000000000) : bits .or .i64 (x * 64) (wrap64 (bits .and .u8 (b.toNat : Nat) 63)) = add6 x b := by
  have hb := byte_lt b
  rw [u8_and63 _ (by omega) hb, show wrap64 ((b.toNat : Int) % 64) = (b.toNat : Int) % 64 by unfold wrap64; omega, i64_or6 _ _ (by omega) (by omega) (by omega) (by omega) (by omega)]
  unfold add6; omega

set_option maxHeartbeats 400000 in
theorem with_any (f : F) (b : UInt8) (w : World) (h0 : 0 ≤ f.bits) (h1 : f.bits ≤ 1000000000) (m0 : 0 ≤ f.more) (m1 : f.more ≤ 10) :
    Calls Try.prog 40 #[f.val, .int .u8 (b.toNat : Nat)] w fun e w' => e = .returned (withF f b).val ∧ Below w.heap.size w w' := by
  obtain ⟨x, y, l, h⟩ := f
  simp only at h0 h1 m0 m1
  show Calls Try.prog 40 #[.agg #[.int .i64 x, .int .i64 y, .int .u8 (l : Nat), .int .u8 (h : Nat)], .int .u8 (b.toNat : Nat)] w _
  go_enter Try.func40, Try.ntmps40
  go_wp2
  refine bodyPost_ret (v := .agg #[.int .i64 (bits .or .i64 (x * 64) (wrap64 (bits .and .u8 (b.toNat : Nat) 63))), .int .i64 (y - 1), .int .u8 128, .int .u8 191]) (by simp [results, Try.results40, go_sem]) rfl ⟨form_eq (add6_eq x b h0 h1) rfl rfl rfl, ?_⟩
  exact ((Below.refl _ _).alloc (Nat.le_refl _) _).alloc (by simp) _

set_option maxHeartbeats 400000 in
theorem fits_any (f : F) (b : UInt8) (w : World) :
    Calls Try.prog 39 #[f.val, .int .u8 (b.toNat : Nat)] w fun e w' => e = .returned (.bool (fitsF f b.toNat)) ∧ Below w.heap.size w w' := by
  obtain ⟨x, y, l, h⟩ := f
  show Calls Try.prog 39 #[.agg #[.int .i64 x, .int .i64 y, .int .u8 (l : Nat), .int .u8 (h : Nat)], .int .u8 (b.toNat : Nat)] w _
  go_enter Try.func39, Try.ntmps39
  go_wp2
  · rename_i hl
    go_ret
    refine ⟨?_, (Below.refl _ _).alloc (Nat.le_refl _) _⟩
    simp [fitsF, hl]
  · rename_i hl
    go_ret
    refine ⟨?_, (Below.refl _ _).alloc (Nat.le_refl _) _⟩
    simp [fitsF, hl]

theorem beg1 (n : Nat) (h : n < 128) : begF n = ⟨n, 0, 0, 0⟩ := by unfold begF; rw [if_pos h]
theorem beg2 (n : Nat) (h : 128 ≤ n ∧ (n < 194 ∨ 244 < n)) : begF n = ⟨-1, 0, 0, 0⟩ := by unfold begF; rw [if_neg (by omega), if_pos h.2]
theorem beg3 (n : Nat) (h : 194 ≤ n ∧ n < 224) : begF n = ⟨(n % 32 : Nat), 1, 128, 191⟩ := by unfold begF; rw [if_neg (by omega), if_neg (by omega), if_pos h.2]
theorem beg4 (n : Nat) (h : n = 224) : begF n = ⟨0, 2, 160, 191⟩ := by subst h; rfl
theorem beg5 (n : Nat) (h : n = 237) : begF n = ⟨13, 2, 128, 159⟩ := by subst h; rfl
theorem beg6 (n : Nat) (h : 224 < n ∧ n < 240 ∧ n ≠ 237) : begF n = ⟨(n % 16 : Nat), 2, 128, 191⟩ := by unfold begF; rw [if_neg (by omega), if_neg (by omega), if_neg (by omega), if_neg (by omega), if_neg (by omega), if_pos (by omega)]
theorem beg7 (n : Nat) (h : n = 240) : begF n = ⟨0, 3, 144, 191⟩ := by subst h; rfl
theorem beg8 (n : Nat) (h : n = 244) : begF n = ⟨4, 3, 128, 143⟩ := by subst h; rfl
theorem beg9 (n : Nat) (h : 240 < n ∧ n < 244) : begF n = ⟨(n % 8 : Nat), 3, 128, 191⟩ := by unfold begF; rw [if_neg (by omega), if_neg (by omega), if_neg (by omega), if_neg (by omega), if_neg (by omega), if_neg (by omega), if_neg (by omega), if_neg (by omega)]

set_option maxHeartbeats 1000000 in
set_option maxRecDepth 10000 in
theorem begin_any (b : UInt8) (w : World) :
    Calls Try.prog 38 #[.int .u8 (b.toNat : Nat)] w fun e w' => e = .returned (begF b.toNat).val ∧ Below w.heap.size w w' := by
  have hb := UInt8.toNat_lt b
  obtain ⟨n, hn⟩ : ∃ n, b.toNat = n := ⟨_, rfl⟩
  rw [hn] at hb ⊢
  clear hn
  go_enter Try.func38, Try.ntmps38
  go_wp2
  all_goals
    refine bodyPost_ret (results_cell_row Try.results38 _ _ w.heap.size 59 #[.int .i64 _, .int .i64 _, .int .u8 _, .int .u8 _] (0, 0) _ rfl (heap_alloc_new _ _) Try.underlying59 rfl info59) rfl ⟨?_, (Below.refl _ _).alloc (Nat.le_refl _) _⟩
    (try simp only [beq_iff_eq, beq_eq_false_iff_ne, ne_eq] at *)
    first
      | (rw [beg1 n (by omega)]; rfl)
      | (rw [beg2 n (by omega)]; rfl)
      | (rw [beg3 n (by omega)]; rfl)
      | (rw [beg4 n (by omega)]; rfl)
      | (rw [beg5 n (by omega)]; rfl)
      | (rw [beg6 n (by omega)]; rfl)
      | (rw [beg7 n (by omega)]; rfl)
      | (rw [beg8 n (by omega)]; rfl)
      | (rw [beg9 n (by omega)]; rfl)
end Go.Proofs.Ytkphiopeclgffaa
