/- The law's own look at chapter 6's examples is true. -/
import Derived.Test.YtaadphifagimaaaDoorOn
import Derived.Test.YtaadphifagimaaaDoorEs
import Derived.Test.YtaadphifagimaaaDoorRefs
namespace Go.Proofs.YtaadphifagimaaaDoor
open Go.RowKit

/-- What is asked of api's names besides. -/
structure Apx (L : List Rf) : Prop extends Api L where
  e1 : refP L false [38, 97, 109, 112, 59, 120] = (38, 5, [])
  e2 : refP L false [38, 97, 109, 112, 120] = (38, 4, [18])
  e3 : refP L true [38, 97, 109, 112, 120] = (0, 0, [])
  e4 : refP L false [38, 35, 120, 56, 48, 59] = (8364, 6, [20])
  e5 : refP L false [38, 35, 59] = (0, 0, [20])
  e6 : refP L false [38, 97, 109, 59] = (0, 0, [19])

theorem refs_any (w : World) : Calls Tryd.prog 26 #[] w fun e w' => e = .returned (.slice (some ⟨w.heap.size, 0, none⟩) 78 78) ∧ RefRow w' (some ⟨w.heap.size, 0, none⟩) refs ∧ Below w.heap.size w w' ∧ w'.heap.size = w.heap.size + 1 := by
  refine (refs_walk w).mono ?_
  rintro e w' ⟨rfl, rfl⟩
  obtain ⟨L, hL⟩ : ∃ L, L = refs := ⟨_, rfl⟩
  rw [← hL]
  clear hL
  refine ⟨rfl, fun i x hx => ?_, (Below.refl _ _).alloc (Nat.le_refl _) _, by simp⟩
  have e := heap_alloc_new w (.cells (L.flatMap Rf.cells).toArray 73)
  obtain ⟨W, hW⟩ : ∃ W, W = w.alloc (.cells (L.flatMap Rf.cells).toArray 73) := ⟨_, rfl⟩
  rw [← hW] at e ⊢
  obtain ⟨h1, h2⟩ := rf_at L i x hx
  refine ⟨w.heap.size, 0, rfl, by rw [hW]; simp, ?_, ?_⟩
  · simp [World.cell?, e, h1]
  · simp [World.cell?, e, h2]

theorem api_refs : Apx refs where
  refs := refs_any
  len := refs_len
  fine := by unfold Fine; decide +kernel
  e1 := by decide +kernel
  e2 := by decide +kernel
  e3 := by decide +kernel
  e4 := by decide +kernel
  e5 := by decide +kernel
  e6 := by decide +kernel

theorem cds_zero {w : World} {B : Nat} {v : Value} (h : Cds w B v []) : ∃ lo cap, v = .slice lo 0 cap := by
  rcases h.2 with ⟨rfl, _⟩ | ⟨g, cap, cur, rfl, _⟩
  · exact ⟨_, _, rfl⟩
  · exact ⟨_, _, rfl⟩
theorem cds_single {w : World} {B : Nat} {v : Value} {x : Int} (h : Cds w B v [x]) : ∃ g cap, v = .slice (some ⟨g, 0, none⟩) 1 cap ∧ g < w.heap.size ∧ w.cell? ⟨g, 0, none⟩ = some (.int .i64 x) := by
  rcases h.2 with ⟨rfl, h0⟩ | ⟨g, cap, cur, rfl, hB, hg, h1, h2, h3, h4⟩
  · cases h0
  · refine ⟨g, cap, rfl, (Array.getElem?_eq_some_iff.1 hg).1, ?_⟩
    have : cur.toList[0]? = some (.int .i64 x) := by
      have h5 : (cur.toList.take (1 * 1))[0]? = some (.int .i64 x) := by rw [show cur.toList.take (1 * 1) = [Value.int .i64 x] from h4]; rfl
      rwa [List.getElem?_take_of_lt (by decide)] at h5
    rw [Array.getElem?_toList] at this
    simp [World.cell?, hg, this]

theorem one_as {L : List Rf} (A : Api L) {w : World} (H : Hi w) (s : ByteArray) (attr : Bool) (hs : s.size ≤ 1000000) {p : Int × Nat × List Int} (hp : refP L attr s.data.toList = p) :
    Calls Tryd.prog 11 #[.string s, .bool attr] w fun e w' => Refd w .i64 p e w' := by
  subst hp
  exact one_any A H s attr hs

theorem escape_as (s : ByteArray) (attr : Bool) (w : World) (hs : s.size ≤ 1000000) {q : ByteArray} (hq : ⟨(escP attr s.data.toList).toArray⟩ = q) :
    Calls Tryd.prog 16 #[.string s, .bool attr] w fun e w' => e = .returned (.string q) ∧ Below w.heap.size w w' := by
  subst hq
  exact escape_any s attr w hs

set_option maxHeartbeats 2000000 in
set_option maxRecDepth 100000 in
theorem awake_any {w : World} (H : Hi w) : Calls Tryd.prog 10 #[] w fun e w' => e = .returned (.bool true) ∧ Below w.heap.size w w' := by
  obtain ⟨L, A0⟩ : ∃ L, Apx L := ⟨refs, api_refs⟩
  have A : Hid (Apx L) := A0
  have H0 : Hid (Hi w ∧ Below w.heap.size w w) := ⟨H, Below.refl _ _⟩
  have hw0 := H.lt
  clear A0 H
  go_enter Tryd.func10, Tryd.ntmps10
  go_wp2_with fail
  refine (one_as A.out.toApi H0.out.1 ⟨#[38, 97, 109, 112, 59, 120]⟩ false (by decide) A.out.e1).mono ?_
  rintro e w1 ⟨v1, rfl, c1, b1⟩
  obtain ⟨g1, k1, rfl⟩ := cds_zero c1
  have H1 : Hid (Hi w1 ∧ Below w.heap.size w w1) := ⟨H0.out.1.below b1 H0.out.1.lt, H0.out.2.trans (b1.mono H0.out.2.size)⟩
  clear c1 b1 H0
  go_wp2_with fail
  refine (one_as A.out.toApi H1.out.1 ⟨#[38, 97, 109, 112, 120]⟩ false (by decide) A.out.e2).mono ?_
  rintro e w2 ⟨v2, rfl, c2, b2⟩
  obtain ⟨g2, k2, rfl, l2, d2⟩ := cds_single c2
  have H2 : Hid (Hi w2 ∧ Below w.heap.size w w2) := ⟨H1.out.1.below b2 H1.out.1.lt, H1.out.2.trans (b2.mono H1.out.2.size)⟩
  clear c2 b2 H1
  go_wp2_with fail
  refine (one_as A.out.toApi H2.out.1 ⟨#[38, 97, 109, 112, 120]⟩ true (by decide) A.out.e3).mono ?_
  rintro e w3 ⟨v3, rfl, c3, b3⟩
  obtain ⟨g3, k3, rfl⟩ := cds_zero c3
  have H3 : Hid (Hi w3 ∧ Below w.heap.size w w3) := ⟨H2.out.1.below b3 H2.out.1.lt, H2.out.2.trans (b3.mono H2.out.2.size)⟩
  replace d2 := (b3.cell (p := ⟨g2, 0, none⟩) l2).trans d2
  replace l2 := Nat.lt_of_lt_of_le l2 b3.size
  clear c3 b3 H2
  go_wp2_with fail
  refine (one_as A.out.toApi H3.out.1 ⟨#[38, 35, 120, 56, 48, 59]⟩ false (by decide) A.out.e4).mono ?_
  rintro e w4 ⟨v4, rfl, c4, b4⟩
  obtain ⟨g4, k4, rfl, l4, d4⟩ := cds_single c4
  have H4 : Hid (Hi w4 ∧ Below w.heap.size w w4) := ⟨H3.out.1.below b4 H3.out.1.lt, H3.out.2.trans (b4.mono H3.out.2.size)⟩
  replace d2 := (b4.cell (p := ⟨g2, 0, none⟩) l2).trans d2
  replace l2 := Nat.lt_of_lt_of_le l2 b4.size
  clear c4 b4 H3
  go_wp2_with fail
  refine (one_as A.out.toApi H4.out.1 ⟨#[38, 35, 59]⟩ false (by decide) A.out.e5).mono ?_
  rintro e w5 ⟨v5, rfl, c5, b5⟩
  obtain ⟨g5, k5, rfl, l5, d5⟩ := cds_single c5
  have H5 : Hid (Hi w5 ∧ Below w.heap.size w w5) := ⟨H4.out.1.below b5 H4.out.1.lt, H4.out.2.trans (b5.mono H4.out.2.size)⟩
  replace d2 := (b5.cell (p := ⟨g2, 0, none⟩) l2).trans d2
  replace l2 := Nat.lt_of_lt_of_le l2 b5.size
  replace d4 := (b5.cell (p := ⟨g4, 0, none⟩) l4).trans d4
  replace l4 := Nat.lt_of_lt_of_le l4 b5.size
  clear c5 b5 H4
  go_wp2_with fail
  refine (one_as A.out.toApi H5.out.1 ⟨#[38, 97, 109, 59]⟩ false (by decide) A.out.e6).mono ?_
  rintro e w6 ⟨v6, rfl, c6, b6⟩
  obtain ⟨g6, k6, rfl, l6, d6⟩ := cds_single c6
  have H6 : Hid (Hi w6 ∧ Below w.heap.size w w6) := ⟨H5.out.1.below b6 H5.out.1.lt, H5.out.2.trans (b6.mono H5.out.2.size)⟩
  replace d2 := (b6.cell (p := ⟨g2, 0, none⟩) l2).trans d2
  replace l2 := Nat.lt_of_lt_of_le l2 b6.size
  replace d4 := (b6.cell (p := ⟨g4, 0, none⟩) l4).trans d4
  replace l4 := Nat.lt_of_lt_of_le l4 b6.size
  replace d5 := (b6.cell (p := ⟨g5, 0, none⟩) l5).trans d5
  replace l5 := Nat.lt_of_lt_of_le l5 b6.size
  clear c6 b6 H5
  have hesc := fun w => escape_as ⟨#[97, 60, 38, 98]⟩ false w (by decide) (q := ⟨#[97, 38, 108, 116, 59, 38, 97, 109, 112, 59, 98]⟩) rfl
  go_wp2_with (go_at_call 16; refine (hesc _).mono ?_; rintro e w7 ⟨rfl, b7⟩; have HB7 : Hid _ := b7; clear b7)
  go_ret
  exact ⟨rfl, H6.out.2.trans (HB7.out.mono H6.out.2.size)⟩
end Go.Proofs.YtaadphifagimaaaDoor
