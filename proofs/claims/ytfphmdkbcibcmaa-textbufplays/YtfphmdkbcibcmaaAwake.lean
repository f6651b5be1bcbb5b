/- The law's own look at chapter 1's example is true. -/
import Derived.Test.YtfphmdkbcibcmaaHist
namespace Go.Proofs.Ytfphmdkbcibcmaa
open Go.RowKit

set_option maxHeartbeats 1000000 in
theorem awake_any (w : World) : Calls Try.prog 18 #[] w fun e w' => e = .returned (.bool true) ∧ Below w.heap.size w w' := by
  go_enter Try.func18, Try.ntmps18
  go_wp2_with fail
  refine (newH ⟨#[97, 98, 99, 100]⟩ 10 _ (by decide) (by decide)).mono ?_
  rintro e w1 ⟨rfl, h1, b1⟩
  go_wp2_with fail
  refine (spliceH_ok h1 1 2 ⟨#[120, 121, 122]⟩ (by unfold InB; decide) (by decide) (by decide)).mono ?_
  rintro e w2 ⟨rfl, h2, K2⟩
  have e2 : splT (ByteArray.mk #[97, 98, 99, 100]).data.toList (1 : Int).toNat (2 : Int).toNat ⟨#[120, 121, 122]⟩ = [97, 120, 121, 122, 100] := by decide
  rw [e2] at h2
  clear e2
  go_wp2_with fail
  refine (textH h2).mono ?_
  rintro e w3 ⟨rfl, b3⟩
  have h3 := h2.below b3
  go_wp2_with fail
  refine (versionH h3).mono ?_
  rintro e w3' ⟨rfl, rfl⟩
  go_wp2_with fail
  refine (undoH_ok h3 (by decide)).mono ?_
  rintro e w4 ⟨rfl, h4, K4⟩
  go_wp2_with fail
  refine (new_size ⟨#[97, 98, 99]⟩ 2 _ (by decide) (by decide) (by decide)).mono ?_
  rintro e w4' ⟨rfl, rfl⟩
  go_wp2_with fail
  refine (new_arg ⟨#[]⟩ (-1) _ (by decide)).mono ?_
  rintro e w4' ⟨rfl, rfl⟩
  go_wp2_with fail
  refine (textH h4).mono ?_
  rintro e w5 ⟨rfl, b5⟩
  have h5 := h4.below b5
  go_wp2_with fail
  refine (versionH h5).mono ?_
  rintro e w5' ⟨rfl, rfl⟩
  go_wp2_with fail
  refine (undoH_no h5).mono ?_
  rintro e w5' ⟨rfl, rfl⟩
  go_wp2_with fail
  go_ret
  refine ⟨rfl, ?_⟩
  have z1 := b1.size; have z2 := K2.size; have z3 := b3.size; have z4 := K4.size
  exact b1.trans ((K2.below z1).trans ((b3.mono (by omega)).trans ((K4.below (by omega)).trans (b5.mono (by omega)))))
end Go.Proofs.Ytfphmdkbcibcmaa
