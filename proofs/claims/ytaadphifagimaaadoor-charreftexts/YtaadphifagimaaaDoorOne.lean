/- reference, likely, One. -/
import Derived.Test.YtaadphifagimaaaDoorNm
namespace Go.Proofs.YtaadphifagimaaaDoor
open Go.RowKit

set_option maxHeartbeats 1000000 in
theorem reference_any {w : World} {B : Nat} {tv : Value} {L : List Rf} (H : Hi w) (T : TrieV w B tv L) (F : Fine L) (s : ByteArray) (attr : Bool) (hs : s.size ≤ 1000000) :
    Calls Tryd.prog 22 #[.string s, .bool attr, tv] w fun e w' => Refd w .i32 (refP L attr s.data.toList) e w' := by
  have hlen : s.data.toList.length = s.size := Array.length_toList
  have p1 := fun w => strings_HasPrefix s ⟨#[38, 35]⟩ w
  have p2 := fun w => strings_HasPrefix s ⟨#[38]⟩ w
  rw [show Lib.hasPrefix s.data.toList (ByteArray.mk #[38, 35]).data.toList = [38, 35].isPrefixOf s.data.toList from rfl] at p1
  rw [show Lib.hasPrefix s.data.toList (ByteArray.mk #[38]).data.toList = [38].isPrefixOf s.data.toList from rfl] at p2
  unfold refP
  cases h1 : [38, 35].isPrefixOf s.data.toList
  · rw [h1] at p1
    rw [if_neg (by simp)]
    cases h2 : [38].isPrefixOf s.data.toList
    · rw [h2] at p2
      rw [if_neg (by simp)]
      clear h1 h2 H T F
      go_enter Tryd.func22, Tryd.ntmps22
      go_wp2_with (first | (go_at_call 41; first | (refine (p1 _).mono ?_; rintro e w' ⟨rfl, rfl⟩) | (refine (p2 _).mono ?_; rintro e w' ⟨rfl, rfl⟩)))
      go_ret3
      exact ⟨_, rfl, cds_nil _ _, Below.refl _ _⟩
    · rw [h2] at p2
      rw [if_pos rfl]
      have hsz : 1 ≤ s.size := by
        rw [List.isPrefixOf_iff_prefix] at h2
        have := h2.length_le
        rw [hlen] at this
        exact this
      have hnd := named_any T F s attr hsz hs
      have HR : Hid (∀ e w', Refd w .i32 (namedP L attr (s.data.toList.drop 1)) e w' → ∃ r n v, e = .returned (.tuple #[.int .i32 r, .int .i64 n, v]) ∧ Refd w .i32 (namedP L attr (s.data.toList.drop 1)) (.returned (.tuple #[.int .i32 r, .int .i64 n, v])) w') := fun e w' h => by
        obtain ⟨v, rfl, h2⟩ := h
        exact ⟨_, _, v, rfl, v, rfl, h2⟩
      clear h1 h2 H T F
      go_enter Tryd.func22, Tryd.ntmps22
      go_wp2_with (first | (go_at_call 41; first | (refine (p1 _).mono ?_; rintro e w' ⟨rfl, rfl⟩) | (refine (p2 _).mono ?_; rintro e w' ⟨rfl, rfl⟩)) | (go_at_call 43; refine hnd.mono ?_; intro e w2 hr; obtain ⟨r, n, v, rfl, hr2⟩ := HR.out _ _ hr; clear hr; have HR2 : Hid _ := hr2; clear hr2))
      go_ret3
      exact HR2.out
  · rw [h1] at p1
    rw [if_pos rfl]
    have hsz : 2 ≤ s.size := by
      rw [List.isPrefixOf_iff_prefix] at h1
      have := h1.length_le
      rw [hlen] at this
      exact this
    have hnd := numbered_any s w H hsz hs
    have HR : Hid (∀ e w', Refd w .i32 (numbP s.data.toList) e w' → ∃ r n v, e = .returned (.tuple #[.int .i32 r, .int .i64 n, v]) ∧ Refd w .i32 (numbP s.data.toList) (.returned (.tuple #[.int .i32 r, .int .i64 n, v])) w') := fun e w' h => by
      obtain ⟨v, rfl, h2⟩ := h
      exact ⟨_, _, v, rfl, v, rfl, h2⟩
    clear h1 H T F
    go_enter Tryd.func22, Tryd.ntmps22
    go_wp2_with (first | (go_at_call 41; refine (p1 _).mono ?_; rintro e w' ⟨rfl, rfl⟩) | (go_at_call 42; refine hnd.mono ?_; intro e w2 hr; obtain ⟨r, n, v, rfl, hr2⟩ := HR.out _ _ hr; clear hr; have HR2 : Hid _ := hr2; clear hr2))
    go_ret3
    exact HR2.out
end Go.Proofs.YtaadphifagimaaaDoor
