/- named, reference. -/
import Derived.Test.YtaadphifagimaaaDoorNd
namespace Go.Proofs.YtaadphifagimaaaDoor
open Go.RowKit

/-- The names' characters are characters. -/
def Fine (L : List Rf) : Prop := ∀ x ∈ L, 0 < x.r ∧ x.r ≤ 1114111
theorem val_mem {L : List Rf} {p : Path} {v : Int} (h : val L p = some v) : ∃ x ∈ L, x.r = v := by
  induction L with
  | nil => cases h
  | cons x L ih =>
    simp only [val] at h
    split at h
    · exact ⟨x, by simp, by simpa using h⟩
    · obtain ⟨y, h1, h2⟩ := ih h
      exact ⟨y, by simp [h1], h2⟩
theorem best_fine {L : List Rf} (F : Fine L) (s : Path) (k : Nat) : 0 ≤ (best L s k).1 ∧ (best L s k).1 ≤ 1114111 := by
  induction k with
  | zero => simp [best]
  | succ k ih =>
    unfold best
    split
    · rename_i r hr
      obtain ⟨x, h1, h2⟩ := val_mem hr
      have := F x h1
      show 0 ≤ r ∧ r ≤ 1114111
      omega
    · exact ih

def refP (L : List Rf) (attr : Bool) (l : List UInt8) : Int × Nat × List Int :=
  if [38, 35].isPrefixOf l = true then numbP l
  else if [38].isPrefixOf l = true then namedP L attr (l.drop 1)
  else (0, 0, [])

set_option maxHeartbeats 1000000 in
set_option maxRecDepth 10000 in
theorem named_any {w : World} {B : Nat} {tv : Value} {L : List Rf} (T : TrieV w B tv L) (F : Fine L) (s : ByteArray) (attr : Bool) (h1 : 1 ≤ s.size) (hs : s.size ≤ 1000000) :
    Calls Tryd.prog 43 #[.string s, .bool attr, tv] w fun e w' => Refd w .i32 (namedP L attr (s.data.toList.drop 1)) e w' := by
  have hlen : s.data.toList.length = s.size := Array.length_toList
  have hsz : (s.extract 1 s.size).size = s.size - 1 := by simp [ByteArray.size_extract]
  have hd := bytes_drop s 1
  obtain ⟨q, hq⟩ : ∃ q, s.extract 1 s.size = q := ⟨_, rfl⟩
  rw [hq] at hsz hd
  rw [← hd]
  have hqs : q.size ≤ 1000000 := by omega
  have hql : q.data.toList.length = q.size := Array.length_toList
  clear hd hlen hsz
  have hlg := longest_v T q (by omega)
  have hble := best_le L q.data.toList q.size
  have hbf := best_fine F q.data.toList q.size
  have HT : Hid (TrieV w B tv L) := T
  have hbg : ∀ w', TrieV w' B tv L → Calls Tryd.prog 54 #[.string q, tv] w' fun e w'' => e = .returned (.bool (begunP L q.data.toList)) ∧ Below w'.heap.size w' w'' := fun w' T' => begun_any T' q hqs
  unfold namedP
  rw [hql]
  obtain ⟨bt, hbt⟩ : ∃ bt, best L q.data.toList q.size = bt := ⟨_, rfl⟩
  rw [hbt] at hlg hble hbf ⊢
  obtain ⟨r, z⟩ := bt
  simp only at hlg hble hbf ⊢
  have hgo : ∀ w', Calls Tryd.prog 55 #[.string (q.extract z q.size)] w' fun e w'' => e = .returned (.bool (goesOnP (q.data.toList.drop z))) ∧ w'' = w' := fun w' => by
    have := goesOn_any (q.extract z q.size) w'
    rw [bytes_drop] at this
    exact this
  obtain ⟨bg, hbgg⟩ : ∃ bg, begunP L q.data.toList = bg := ⟨_, rfl⟩
  rw [hbgg] at hbg ⊢
  obtain ⟨gn, hgn⟩ : ∃ gn, goesOnP (q.data.toList.drop z) = gn := ⟨_, rfl⟩
  rw [hgn] at hgo ⊢
  clear hbt hbgg T hql hgn F
  obtain ⟨hbf0, hbf1⟩ := hbf
  by_cases hz : z = 0
  · subst hz
    rw [if_pos rfl]
    clear hgo
    cases bg
    · go_enter Tryd.func43, Tryd.ntmps43
      go_wp2_with (first | (go_at_call 53; refine hlg.mono ?_; rintro e w1 ⟨rfl, b1⟩; have HB1 : Hid _ := b1; have hb2 := hbg _ (HT.out.below b1); clear b1) | (go_at_call 54; refine hb2.mono ?_; rintro e w2 ⟨rfl, b2⟩; have HB2 : Hid _ := b2; clear b2) | (go_at_call 55; refine (hgo _).mono ?_; rintro e w3 ⟨rfl, rfl⟩))
      go_ret3
      exact ⟨_, rfl, cds_nil _ _, HB1.out.trans (HB2.out.mono HB1.out.size)⟩
    · go_enter Tryd.func43, Tryd.ntmps43
      go_wp2_with (first | (go_at_call 53; refine hlg.mono ?_; rintro e w1 ⟨rfl, b1⟩; have HB1 : Hid _ := b1; have hb2 := hbg _ (HT.out.below b1); clear b1) | (go_at_call 54; refine hb2.mono ?_; rintro e w2 ⟨rfl, b2⟩; have HB2 : Hid _ := b2; clear b2) | (go_at_call 55; refine (hgo _).mono ?_; rintro e w3 ⟨rfl, rfl⟩))
      go_ret3
      have hb := HB1.out.trans (HB2.out.mono HB1.out.size)
      exact ⟨_, rfl, cds_one _ _ _ hb.size, hb.alloc hb.size _⟩
  · rw [if_neg hz]
    clear hbg
    have hbg : ∀ w', TrieV w' B tv L → True := fun _ _ => trivial
    have hzl : z - 1 < q.size := by omega
    obtain ⟨y, rfl⟩ : ∃ y, z = y + 1 := ⟨z - 1, by omega⟩
    have hyl : y < q.size := by omega
    rw [show y + 1 - 1 = y from rfl]
    have hba := byte_at q y hyl 59
    by_cases h59 : (q[y].toNat : Int) = (59 : UInt8).toNat
    · rw [if_pos (hba.2 h59)]
      clear hba
      have h59' : (q[y].toNat : Int) = 59 := h59
      clear h59
      go_enter Tryd.func43, Tryd.ntmps43
      go_wp2_with (first | (go_at_call 53; refine hlg.mono ?_; rintro e w1 ⟨rfl, b1⟩; have HB1 : Hid _ := b1; have hb2 := hbg _ (HT.out.below b1); clear b1) | (go_at_call 54; refine hb2.mono ?_; rintro e w2 ⟨rfl, b2⟩; have HB2 : Hid _ := b2; clear b2) | (go_at_call 55; refine (hgo _).mono ?_; rintro e w3 ⟨rfl, rfl⟩))
      go_ret3
      refine ⟨_, ?_, cds_nil _ _, HB1.out⟩
      simp
      try omega
    · rw [if_neg (fun c => h59 (hba.1 c))]
      clear hba
      have h59' : ((q[y].toNat : Int) == 59) = false := beq_false_of_ne h59
      clear h59
      cases attr
      · rw [Bool.false_and, if_neg (by simp)]
        go_enter Tryd.func43, Tryd.ntmps43
        go_wp2_with (first | (go_at_call 53; refine hlg.mono ?_; rintro e w1 ⟨rfl, b1⟩; have HB1 : Hid _ := b1; have hb2 := hbg _ (HT.out.below b1); clear b1) | (go_at_call 54; refine hb2.mono ?_; rintro e w2 ⟨rfl, b2⟩; have HB2 : Hid _ := b2; clear b2) | (go_at_call 55; refine (hgo _).mono ?_; rintro e w3 ⟨rfl, rfl⟩))
        go_ret3
        refine ⟨_, ?_, cds_one _ _ _ HB1.out.size, HB1.out.alloc HB1.out.size _⟩
        simp
        try omega
      · cases gn
        · rw [Bool.true_and, if_neg (by simp)]
          go_enter Tryd.func43, Tryd.ntmps43
          go_wp2_with (first | (go_at_call 53; refine hlg.mono ?_; rintro e w1 ⟨rfl, b1⟩; have HB1 : Hid _ := b1; have hb2 := hbg _ (HT.out.below b1); clear b1) | (go_at_call 54; refine hb2.mono ?_; rintro e w2 ⟨rfl, b2⟩; have HB2 : Hid _ := b2; clear b2) | (go_at_call 55; refine (hgo _).mono ?_; rintro e w3 ⟨rfl, rfl⟩))
          go_ret3
          refine ⟨_, ?_, cds_one _ _ _ HB1.out.size, HB1.out.alloc HB1.out.size _⟩
          simp
          try omega
        · rw [Bool.true_and, if_pos rfl]
          go_enter Tryd.func43, Tryd.ntmps43
          go_wp2_with (first | (go_at_call 53; refine hlg.mono ?_; rintro e w1 ⟨rfl, b1⟩; have HB1 : Hid _ := b1; have hb2 := hbg _ (HT.out.below b1); clear b1) | (go_at_call 54; refine hb2.mono ?_; rintro e w2 ⟨rfl, b2⟩; have HB2 : Hid _ := b2; clear b2) | (go_at_call 55; refine (hgo _).mono ?_; rintro e w3 ⟨rfl, rfl⟩))
          go_ret3
          exact ⟨_, rfl, cds_nil _ _, HB1.out⟩
end Go.Proofs.YtaadphifagimaaaDoor
