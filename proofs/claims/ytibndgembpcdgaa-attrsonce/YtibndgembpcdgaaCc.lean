/- slices.Grow of nil, slices.Concat of one row and of two: new memory. -/
import Derived.Test.YtibndgembpcdgaaFi
import Derived.Lib.AppendZeros
namespace Go.Proofs.Ytibndgembpcdgaa
open Go.RowKit

set_option maxHeartbeats 1000000 in
theorem grow_any (w : World) (n : Nat) (hn : n ≤ 1000) : Calls Try.prog 35 #[.slice none 0 0, .int .i64 n] w fun e w' => ∃ v, e = .returned v ∧ RowIs w' w.heap.size v [] ∧ Below w.heap.size w w' := by
  obtain ⟨i0, hi, hz0, hz1, hz2⟩ := info_parts info24
  have h1 : decide ((n : Int) < 0) = false := decide_eq_false (by omega)
  by_cases h0 : n = 0
  · subst h0
    go_enter Try.func35, Try.ntmps35
    go_wp2_with fail
    go_ret
    exact ⟨_, rfl, World.ownsRow_nil _ _ _ _, Below.refl _ _⟩
  · have hr := fun ty => Lib.run_append_nil_zeros (P := Try.prog) w 22 3 ty 24 i0 _ .i64 .i64 Try.underlying22 Try.underlying3 hi hz0 n (by omega) (by omega) (by omega) (by rw [hz2]; omega)
    have hcap := grownCap_ge w n 0 24
    have hcm := grownCap_le_maxLen w n 0 24 (by unfold maxLen; omega)
    obtain ⟨cap, hcp⟩ : ∃ cap, grownCap w n 0 24 = cap := ⟨_, rfl⟩
    rw [hcp] at hcap hcm
    simp only [hcp] at hr
    obtain ⟨V, hV⟩ : ∃ V, w.drew.alloc (.cells (Builtin.zeroCells (Value.agg #[.string ByteArray.empty, .string ByteArray.empty]).cells n ++ Builtin.zeroCells (Value.agg #[.string ByteArray.empty, .string ByteArray.empty]).cells (cap - n)) 24) = V := ⟨_, rfl⟩
    have HV : Hid (RowIs V w.heap.size (.slice (some ⟨w.heap.size, 0, none⟩) 0 cap) [] ∧ Below w.heap.size w V) := by
      refine ⟨⟨rfl, .inr ⟨w.heap.size, cap, _, rfl, Nat.le_refl _, by rw [← hV]; exact heap_alloc_new w.drew _, Nat.zero_le _, hcm, ?_, ?_⟩⟩, ?_⟩
      · simp only [Array.size_append, size_zeroCells, Value.cells]
        simp
        omega
      · simp
      · rw [← hV]
        exact ((Below.refl w.heap.size w).drew).alloc (Nat.le_refl _) _
    simp only [hV] at hr
    have hn1 : decide ((0 : Int) < (n : Int)) = true := decide_eq_true (by omega)
    have hcap2 : (0 : Int) ≤ (cap : Int) := by omega
    have hmx : cap ≤ 9223372036854775807 := by unfold maxLen at hcm; omega
    clear hcp hV
    go_enter Try.func35, Try.ntmps35
    go_wp2_with (at_builtin; refine list_append_eq rfl _ _ 22 3 rfl _ _ rfl rfl (hr _) ?_)
    go_ret
    exact ⟨_, rfl, HV.out⟩

set_option maxHeartbeats 2000000 in
theorem concat_one {w : World} {b : Nat} {ao : Option Addr} {A : List At} (n ca : Nat) (hb : b < w.heap.size) (h0 : w.cell? ⟨b, 0, none⟩ = some (.slice ao n ca)) (ha : AtRow w ao A) (hn : A.length = n) (hn2 : n ≤ 900) :
    Calls Try.prog 23 #[.slice (some ⟨b, 0, none⟩) 1 1] w fun e w' => ∃ v, e = .returned v ∧ RowIs w' w.heap.size v A ∧ Below w.heap.size w w' := by
  have HA : Hid (AtRow w ao A ∧ A.length = n) := ⟨ha, hn⟩
  clear ha hn
  have hneg : decide ((n : Int) < 0) = false := decide_eq_false (by omega)
  go_enter Try.func23, Try.ntmps23
  go_wp2_with fail
  refine wp_loop_rounds 2 ?_
  rw [rounds_succ]
  go_wp2_with fail
  rw [rounds_succ]
  go_wp2_with fail
  refine (grow_any w n (by omega)).mono ?_
  rintro e w1 ⟨v, rfl, r1, b1⟩
  have c0 := (b1.cell (p := ⟨b, 0, none⟩) hb).trans h0
  have hb1 : b < w1.heap.size := Nat.lt_of_lt_of_le hb b1.size
  obtain ⟨v2, w2, e2, r2, f2⟩ := row_more r1 ao ca (HA.out.1.below b1) b1.size (by simp) (by rw [HA.out.2]; omega)
  rw [HA.out.2] at e2
  have HF : Hid (RowIs w2 w.heap.size v2 A ∧ Below w.heap.size w w2) := ⟨by rw [List.nil_append] at r2; exact r2, b1.trans (lfr_below f2 r1 b1.size)⟩
  clear r1 b1 r2 f2 h0
  go_wp2_with fail
  refine wp_loop_rounds 2 ?_
  rw [rounds_succ]
  go_wp2_with (at_builtin; refine list_append_eq rfl _ _ 22 22 rfl _ _ rfl rfl e2 ?_)
  rw [rounds_succ]
  go_wp2_with fail
  go_ret
  exact ⟨_, rfl, HF.out⟩

set_option maxHeartbeats 2000000 in
theorem concat_two {w : World} {b : Nat} {ao bo : Option Addr} {A B : List At} (n m ca cb : Nat) (hb : b < w.heap.size) (h0 : w.cell? ⟨b, 0, none⟩ = some (.slice ao n ca)) (h1 : w.cell? ⟨b, 1, none⟩ = some (.slice bo m cb)) (ha : AtRow w ao A) (hB : AtRow w bo B) (hn : A.length = n) (hm : B.length = m) (hnm : n + m ≤ 900) :
    Calls Try.prog 23 #[.slice (some ⟨b, 0, none⟩) 2 2] w fun e w' => ∃ v, e = .returned v ∧ RowIs w' w.heap.size v (A ++ B) ∧ Below w.heap.size w w' := by
  have HA : Hid (AtRow w ao A ∧ A.length = n ∧ AtRow w bo B ∧ B.length = m) := ⟨ha, hn, hB, hm⟩
  clear ha hn hB hm
  have hneg : decide ((n : Int) < 0) = false := decide_eq_false (by omega)
  have hneg2 : decide ((n : Int) + (m : Int) < 0) = false := decide_eq_false (by omega)
  have hg := grow_any w (n + m) (by omega)
  have ecast : ((n + m : Nat) : Int) = (n : Int) + (m : Int) := Int.natCast_add n m
  rw [ecast] at hg
  clear ecast
  go_enter Try.func23, Try.ntmps23
  go_wp2_with fail
  refine wp_loop_rounds 3 ?_
  rw [rounds_succ]
  go_wp2_with fail
  rw [rounds_succ]
  go_wp2_with fail
  rw [rounds_succ]
  go_wp2_with fail
  refine hg.mono ?_
  rintro e w1 ⟨v, rfl, r1, b1⟩
  clear hg
  have c0 := (b1.cell (p := ⟨b, 0, none⟩) hb).trans h0
  have c1 := (b1.cell (p := ⟨b, 1, none⟩) hb).trans h1
  have hb1 : b < w1.heap.size := Nat.lt_of_lt_of_le hb b1.size
  obtain ⟨v2, w2, e2, r2, f2⟩ := row_more r1 ao ca (HA.out.1.below b1) b1.size (by simp) (by rw [HA.out.2.1]; omega)
  rw [HA.out.2.1] at e2
  have b2 : Below w.heap.size w w2 := b1.trans (lfr_below f2 r1 b1.size)
  obtain ⟨v3, w3, e3, r3, f3⟩ := row_more r2 bo cb (HA.out.2.2.1.below b2) b2.size (by rw [List.nil_append, HA.out.2.1]; omega) (by rw [HA.out.2.2.2]; omega)
  rw [HA.out.2.2.2] at e3
  have d1 := (b2.cell (p := ⟨b, 1, none⟩) hb).trans h1
  have hb2 : b < w2.heap.size := Nat.lt_of_lt_of_le hb b2.size
  have HF : Hid (RowIs w3 w.heap.size v3 (A ++ B) ∧ Below w.heap.size w w3) := ⟨by rw [List.nil_append] at r3; exact r3, b2.trans (lfr_below f3 r2 b2.size)⟩
  clear r1 b1 r2 f2 h0 h1 b2 r3 f3
  go_wp2_with fail
  refine wp_loop_rounds 3 ?_
  rw [rounds_succ]
  go_wp2_with (at_builtin; refine list_append_eq rfl _ _ 22 22 rfl _ _ rfl rfl e2 ?_)
  rw [rounds_succ]
  go_wp2_with (at_builtin; refine list_append_eq rfl _ _ 22 22 rfl _ _ rfl rfl e3 ?_)
  rw [rounds_succ]
  go_wp2_with fail
  go_ret
  exact ⟨_, rfl, HF.out⟩

/-- A block of one slice, of two. -/
theorem one_slot {w : World} (x : Value) {V : World} (hV : w.alloc (.cells #[x] 22) = V) : w.heap.size < V.heap.size ∧ V.cell? ⟨w.heap.size, 0, none⟩ = some x ∧ Below w.heap.size w V := by
  have hVn : V.heap[w.heap.size]? = some (.cells #[x] 22 (0, 0)) := by rw [← hV]; exact heap_alloc_new _ _
  exact ⟨(Array.getElem?_eq_some_iff.1 hVn).1, by simp [World.cell?, hVn], by rw [← hV]; exact (Below.refl _ _).alloc (Nat.le_refl _) _⟩
theorem two_slot {w : World} (x y : Value) {V : World} (hV : w.alloc (.cells #[x, y] 22) = V) : w.heap.size < V.heap.size ∧ V.cell? ⟨w.heap.size, 0, none⟩ = some x ∧ V.cell? ⟨w.heap.size, 1, none⟩ = some y ∧ Below w.heap.size w V := by
  have hVn : V.heap[w.heap.size]? = some (.cells #[x, y] 22 (0, 0)) := by rw [← hV]; exact heap_alloc_new _ _
  exact ⟨(Array.getElem?_eq_some_iff.1 hVn).1, by simp [World.cell?, hVn], by simp [World.cell?, hVn], by rw [← hV]; exact (Below.refl _ _).alloc (Nat.le_refl _) _⟩

set_option maxHeartbeats 2000000 in
theorem add_any {w : World} {ao : Option Addr} {L : List At} (n cap : Nat) (nm vl : ByteArray) (ha : AtRow w ao L) (hn : L.length = n) (hn2 : n ≤ 800) :
    Calls Try.prog 10 #[.slice ao n cap, .agg #[.string nm, .string vl]] w fun e w' => ∃ v, e = .returned (.tuple #[v, .bool (!hasP L nm.data.toList)]) ∧ RowIs w' w.heap.size v (addP L ⟨nm, vl⟩) ∧ Below w.heap.size w w' := by
  obtain ⟨r, hr⟩ : ∃ r, getP L nm.data.toList = r := ⟨_, rfl⟩
  have hs := get_some L nm.data.toList
  rw [hr] at hs
  have HA : Hid (AtRow w ao L ∧ L.length = n ∧ getP L nm.data.toList = r ∧ r.isSome = hasP L nm.data.toList) := ⟨ha, hn, hr, hs⟩
  clear ha hn hr
  obtain ⟨V, hV⟩ : ∃ V, w.alloc (.cells #[.string nm, .string vl] 24) = V := ⟨_, rfl⟩
  have hVn : V.heap[w.heap.size]? = some (.cells #[.string nm, .string vl] 24 (0, 0)) := by rw [← hV]; exact heap_alloc_new _ _
  have hVl : w.heap.size < V.heap.size := (Array.getElem?_eq_some_iff.1 hVn).1
  have d0 : V.cell? ⟨w.heap.size, 0, none⟩ = some (.string nm) := by simp [World.cell?, hVn]
  have d1 : V.cell? ⟨w.heap.size, 1, none⟩ = some (.string vl) := by simp [World.cell?, hVn]
  have HV : Hid (Below w.heap.size w V) := by rw [← hV]; exact (Below.refl w.heap.size w).alloc (Nat.le_refl _) _
  clear hVn
  rw [← hs]
  clear hs
  go_enter Try.func10, Try.ntmps10
  go_wp2_with fail
  clear hV
  refine (named_any V nm).mono ?_
  rintro e w1 ⟨c, rfl, h1, h2, h3⟩
  have hf := first_any n cap 34 c _ enters34 (fits_named h1 h2) (HA.out.1.below (HV.out.trans (h3.mono HV.out.size))) HA.out.2.1 (by omega)
  change Calls Try.prog 21 #[.slice ao n cap, .func (.func 34) #[] #[.pointer (some ⟨c, 0, none⟩)]] w1 (fun e w' => e = .returned (.tuple #[.agg #[.string (gn (getP L nm.data.toList)), .string (gv (getP L nm.data.toList))], .bool (getP L nm.data.toList).isSome]) ∧ Below w1.heap.size w1 w') at hf
  rw [HA.out.2.2.1] at hf
  have H1 : Hid (Below V.heap.size V w1) := h3
  clear h1 h2 h3
  go_wp2_with fail
  refine hf.mono ?_
  rintro e w2 ⟨rfl, q⟩
  clear hf
  obtain ⟨w3, hw3⟩ : ∃ w3, w2.alloc (.cells #[.string (gn r), .string (gv r)] 24) = w3 := ⟨_, rfl⟩
  have b3 : Below V.heap.size V w3 := by
    have b := H1.out.trans (q.mono H1.out.size)
    rw [← hw3]
    exact b.alloc b.size _
  have d0' := (b3.cell (p := ⟨w.heap.size, 0, none⟩) hVl).trans d0
  have d1' := (b3.cell (p := ⟨w.heap.size, 1, none⟩) hVl).trans d1
  have hl3 : w.heap.size < w3.heap.size := Nat.lt_of_lt_of_le hVl b3.size
  have H3 : Hid (Below w.heap.size w w3) := HV.out.trans (b3.mono HV.out.size)
  clear q d0 d1 b3
  cases r with
  | some x =>
    have hh : hasP L nm.data.toList = true := HA.out.2.2.2.symm
    obtain ⟨w4, hw4⟩ : ∃ w4, w3.alloc (.cells #[.slice ao n cap] 22) = w4 := ⟨_, rfl⟩
    obtain ⟨g1, g2, g3⟩ := one_slot _ hw4
    have b4 : Below w.heap.size w w4 := H3.out.trans (g3.mono H3.out.size)
    have hc := concat_one n cap g1 g2 (HA.out.1.below b4) HA.out.2.1 (by omega)
    have H4 : Hid (Below w.heap.size w w4 ∧ addP L ⟨nm, vl⟩ = L) := ⟨b4, by unfold addP; rw [if_pos hh]⟩
    clear g1 g2 g3 b4 hh
    go_wp2_with fail
    refine hc.mono ?_
    rintro e w5 ⟨v, rfl, r5, b5⟩
    clear hc
    have H5 : Hid (RowIs w5 w.heap.size v (addP L ⟨nm, vl⟩) ∧ Below w.heap.size w w5) := by
      refine ⟨?_, H4.out.1.trans (b5.mono H4.out.1.size)⟩
      rw [H4.out.2]
      exact ⟨r5.1, r5.2.imp id fun ⟨g, cp, cur, e1, e2, e3⟩ => ⟨g, cp, cur, e1, Nat.le_trans H4.out.1.size e2, e3⟩⟩
    clear r5 b5
    go_wp2_with fail
    go_ret2
    exact ⟨v, rfl, H5.out⟩
  | none =>
    have hh : hasP L nm.data.toList = false := HA.out.2.2.2.symm
    obtain ⟨w4, hw4⟩ : ∃ w4, w3.alloc (.cells #[.string nm, .string vl] 24) = w4 := ⟨_, rfl⟩
    have o4 := at_one w3 ⟨nm, vl⟩
    simp only at o4
    rw [hw4] at o4
    have b4 : Below w3.heap.size w3 w4 := by rw [← hw4]; exact (Below.refl _ _).alloc (Nat.le_refl _) _
    obtain ⟨w5, hw5⟩ : ∃ w5, w4.alloc (.cells #[.slice ao n cap, .slice (some ⟨w3.heap.size, 0, none⟩) 1 1] 22) = w5 := ⟨_, rfl⟩
    obtain ⟨g1, g2, g3, g4⟩ := two_slot _ _ hw5
    have b5 : Below w.heap.size w w5 := H3.out.trans ((b4.trans (g4.mono b4.size)).mono H3.out.size)
    have hc := concat_two n 1 cap 1 g1 g2 g3 (HA.out.1.below b5) (o4.below g4) HA.out.2.1 rfl (by omega)
    have H4 : Hid (Below w.heap.size w w5 ∧ addP L ⟨nm, vl⟩ = L ++ [⟨nm, vl⟩]) := ⟨b5, by unfold addP; rw [if_neg (by rw [hh]; exact fun h => by cases h)]⟩
    clear g1 g2 g3 g4 b5 b4 hh o4
    go_wp2_with fail
    refine hc.mono ?_
    rintro e w6 ⟨v, rfl, r5, b5⟩
    clear hc
    have H5 : Hid (RowIs w6 w.heap.size v (addP L ⟨nm, vl⟩) ∧ Below w.heap.size w w6) := by
      refine ⟨?_, H4.out.1.trans (b5.mono H4.out.1.size)⟩
      rw [H4.out.2]
      exact ⟨r5.1, r5.2.imp id fun ⟨g, cp, cur, e1, e2, e3⟩ => ⟨g, cp, cur, e1, Nat.le_trans H4.out.1.size e2, e3⟩⟩
    clear r5 b5
    go_wp2_with fail
    go_ret2
    exact ⟨v, rfl, H5.out⟩
end Go.Proofs.Ytibndgembpcdgaa
