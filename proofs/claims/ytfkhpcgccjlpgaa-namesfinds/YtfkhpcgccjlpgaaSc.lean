/- order2Ordered, medianOrdered, medianAdjacentOrdered, choosePivotOrdered, at bytes: which place is told. -/
import Derived.Test.YtfkhpcgccjlpgaaSb
namespace Go.Proofs.Ytfkhpcgccjlpgaa
open Go.RowKit Go.Sort

/-- A number of its own in block p. -/
def Num (w : World) (p : Nat) (s : Int) : Prop := w.cell? ⟨p, 0, none⟩ = some (.int .i64 s) ∧ w.frozen? ⟨p, 0, none⟩ = false

theorem hb_mv {w w' : World} {k p : Nat} {d : Array Int} (h : HB w k d) (hk : k < w.heap.size) (hp : k ≠ p) (m : Mv p w w') : HB w' k d := fun j hj =>
  ⟨(World.cell?_of_block (a := ⟨k, j, none⟩) (m.block k hk hp)).trans (h j hj).1, (World.frozen?_of_block (a := ⟨k, j, none⟩) (m.block k hk hp)).trans (h j hj).2⟩

set_option maxHeartbeats 1000000 in
theorem ord_any {w : World} {k n : Nat} (cap : Nat) {d : Array Int} {a b p : Nat} {s : Int} (hz : d.size = n) (hn : n ≤ 100000) (hH : HB w k d) (hs : Num w p s) (ha : a < n) (hb : b < n) :
    Calls Try.prog 49 #[.slice (some ⟨k, 0, none⟩) n cap, .int .i64 a, .int .i64 b, .pointer (some ⟨p, 0, none⟩)] w fun e w' => ∃ (a' b' : Nat) (s' : Int), e = .returned (.tuple #[.int .i64 a', .int .i64 b']) ∧ ((a' = a ∧ b' = b) ∨ (a' = b ∧ b' = a)) ∧ Num w' p s' ∧ Mv p w w' := by
  obtain ⟨x, hx, c1, f1, i1, i2⟩ := hb_at hH hz hn a ha
  obtain ⟨y, hy, c0, f0, i3, i4⟩ := hb_at hH hz hn b hb
  obtain ⟨s0, s1⟩ := hs
  have hkr : k < w.heap.size := lt_of_cell c0
  have hpr : p < w.heap.size := lt_of_cell s0
  clear hx hy hH
  cases hlt : ltInt y x with
  | true =>
    go_enter Try.func49, Try.ntmps49
    go_wp2_with fail
    go_quiet (exact (less_as hlt _).mono fun _ _ h => ⟨h.1, _, h.2⟩)
    go_wp2_with fail
    go_ret2
    refine ⟨b, a, _, rfl, .inr ⟨rfl, rfl⟩, ⟨World.cell?_setCell_same _ _ _ s0, ?_⟩, ?_⟩
    · rw [World.frozen?_setCell]; exact s1
    · exact ((Mv.refl p w).drewN _).set 0 _
  | false =>
    go_enter Try.func49, Try.ntmps49
    go_wp2_with fail
    go_quiet (exact (less_as hlt _).mono fun _ _ h => ⟨h.1, _, h.2⟩)
    go_wp2_with fail
    go_ret2
    exact ⟨a, b, s, rfl, .inl ⟨rfl, rfl⟩, ⟨s0, s1⟩, (Mv.refl p w).drewN _⟩

set_option maxHeartbeats 1000000 in
theorem med_any {w : World} {k n : Nat} (cap : Nat) {d : Array Int} {a b c p : Nat} {s : Int} (hz : d.size = n) (hn : n ≤ 100000) (hH : HB w k d) (hk : k < w.heap.size) (hp : k ≠ p) (hs : Num w p s) (ha : a < n) (hb : b < n) (hc : c < n) :
    Calls Try.prog 47 #[.slice (some ⟨k, 0, none⟩) n cap, .int .i64 a, .int .i64 b, .int .i64 c, .pointer (some ⟨p, 0, none⟩)] w fun e w' => ∃ (q : Nat) (s' : Int), e = .returned (.int .i64 q) ∧ (q = a ∨ q = b ∨ q = c) ∧ Num w' p s' ∧ Mv p w w' := by
  have HA : Hid (d.size = n ∧ HB w k d ∧ Num w p s) := ⟨hz, hH, hs⟩
  clear hz hH hs
  go_enter Try.func47, Try.ntmps47
  go_wp2_with fail
  refine (ord_any cap HA.out.1 hn HA.out.2.1 HA.out.2.2 ha hb).mono ?_
  rintro e w1 ⟨a1, b1, s1, rfl, h1, n1, m1⟩
  have H1 : Hid (HB w1 k d ∧ Num w1 p s1 ∧ Mv p w w1 ∧ ((a1 = a ∧ b1 = b) ∨ (a1 = b ∧ b1 = a))) := ⟨hb_mv HA.out.2.1 hk hp m1, n1, m1, h1⟩
  have la : a1 < n := by omega
  have lb : b1 < n := by omega
  have k1 : k < w1.heap.size := Nat.lt_of_lt_of_le hk m1.size
  clear h1 n1 m1
  go_wp2_with fail
  refine (ord_any cap HA.out.1 hn H1.out.1 H1.out.2.1 lb hc).mono ?_
  rintro e w2 ⟨b2, c2, s2, rfl, h2, n2, m2⟩
  have H2 : Hid (HB w2 k d ∧ Num w2 p s2 ∧ Mv p w w2 ∧ ((b2 = b1 ∧ c2 = c) ∨ (b2 = c ∧ c2 = b1))) := ⟨hb_mv H1.out.1 k1 hp m2, n2, H1.out.2.2.1.trans m2, h2⟩
  have lb2 : b2 < n := by omega
  clear h2 n2 m2
  go_wp2_with fail
  refine (ord_any cap HA.out.1 hn H2.out.1 H2.out.2.1 la lb2).mono ?_
  rintro e w3 ⟨a3, b3, s3, rfl, h3, n3, m3⟩
  have H3 : Hid (Num w3 p s3 ∧ Mv p w w3 ∧ (b3 = a ∨ b3 = b ∨ b3 = c)) := ⟨n3, H2.out.2.2.1.trans m3, by have := H1.out.2.2.2; have := H2.out.2.2.2; omega⟩
  clear h3 n3 m3
  go_wp2_with fail
  go_ret
  exact ⟨b3, s3, rfl, H3.out.2.2, H3.out.1, H3.out.2.1⟩

set_option maxHeartbeats 1000000 in
theorem madj_any {w : World} {k n : Nat} (cap : Nat) {d : Array Int} {a p : Nat} {s : Int} (hz : d.size = n) (hn : n ≤ 100000) (hH : HB w k d) (hk : k < w.heap.size) (hp : k ≠ p) (hs : Num w p s) (h0 : 0 < a) (ha : a + 1 < n) :
    Calls Try.prog 46 #[.slice (some ⟨k, 0, none⟩) n cap, .int .i64 a, .pointer (some ⟨p, 0, none⟩)] w fun e w' => ∃ (q : Nat) (s' : Int), e = .returned (.int .i64 q) ∧ (q + 1 = a ∨ q = a ∨ q = a + 1) ∧ Num w' p s' ∧ Mv p w w' := by
  obtain ⟨a0, ha0⟩ : ∃ a0, a - 1 = a0 := ⟨_, rfl⟩
  obtain ⟨a2, ha2⟩ : ∃ a2, a + 1 = a2 := ⟨_, rfl⟩
  have e0 : (a : Int) - 1 = (a0 : Int) := by omega
  have e2 : (a : Int) + 1 = (a2 : Int) := by omega
  have hm := med_any cap (a := a0) (b := a) (c := a2) hz hn hH hk hp hs (by omega) (by omega) (by omega)
  have HN : Hid (a - 1 = a0 ∧ a + 1 = a2) := ⟨ha0, ha2⟩
  clear ha0 ha2 hz hH hs
  go_enter Try.func46, Try.ntmps46
  go_wp2_with fail
  refine hm.mono ?_
  rintro e w1 ⟨q, s1, rfl, h1, n1, m1⟩
  have H1 : Hid ((q = a0 ∨ q = a ∨ q = a2) ∧ Num w1 p s1 ∧ Mv p w w1) := ⟨h1, n1, m1⟩
  clear h1 n1 m1 hm
  go_wp2_with fail
  go_ret
  exact ⟨q, s1, rfl, by have := HN.out; have := H1.out.1; omega, H1.out.2.1, H1.out.2.2⟩

theorem mv_below {w w' : World} {p : Nat} (h : Mv p w w') (hp : w.heap.size ≤ p) : Below w.heap.size w w' := ⟨h.os, h.tape, h.output, h.size, fun k hk => h.block k hk (by omega)⟩

theorem mv_below2 {w w' : World} {p : Nat} (h : Mv p w w') (hp : p ≤ w.heap.size) : Below p w w' := ⟨h.os, h.tape, h.output, h.size, fun k hk => h.block k (by omega) (by omega)⟩

set_option maxHeartbeats 2000000 in
theorem piv_any {w : World} {k n : Nat} (cap : Nat) {d : Array Int} {a b : Nat} (hz : d.size = n) (hn : n ≤ 100000) (hH : HB w k d) (hk : k < w.heap.size) (hb : b ≤ n) (hl : a + 8 ≤ b) :
    Calls Try.prog 35 #[.slice (some ⟨k, 0, none⟩) n cap, .int .i64 a, .int .i64 b] w fun e w' => ∃ (pv : Nat) (h : Int), e = .returned (.tuple #[.int .i64 pv, .int .i64 h]) ∧ a ≤ pv ∧ pv < b ∧ (h = 0 ∨ h = 1 ∨ h = 2) ∧ HB w' k d ∧ Below w.heap.size w w' := by
  obtain ⟨l, hl0⟩ : ∃ l, b - a = l := ⟨_, rfl⟩
  have el : (b : Int) - (a : Int) = (l : Int) := by omega
  obtain ⟨q, hq⟩ : ∃ q, l / 4 = q := ⟨_, rfl⟩
  have eq : (l : Int).tdiv 4 = (q : Int) := by rw [Int.tdiv_eq_ediv_of_nonneg (by omega)]; omega
  obtain ⟨q2, hq2⟩ : ∃ q2, q * 2 = q2 := ⟨_, rfl⟩
  obtain ⟨q3, hq3⟩ : ∃ q3, q * 3 = q3 := ⟨_, rfl⟩
  have eq2 : (q : Int) * 2 = (q2 : Int) := by omega
  have eq3 : (q : Int) * 3 = (q3 : Int) := by omega
  obtain ⟨i, hi⟩ : ∃ i, a + q = i := ⟨_, rfl⟩
  obtain ⟨j, hj⟩ : ∃ j, a + q2 = j := ⟨_, rfl⟩
  obtain ⟨m, hm⟩ : ∃ m, a + q3 = m := ⟨_, rfl⟩
  have ei : (a : Int) + (q : Int) = (i : Int) := by omega
  have ej : (a : Int) + (q2 : Int) = (j : Int) := by omega
  have em : (a : Int) + (q3 : Int) = (m : Int) := by omega
  have bi : a + 1 ≤ i ∧ i + 1 < b := by omega
  have bj : a + 1 ≤ j ∧ j + 1 < b := by omega
  have bm : a + 1 ≤ m ∧ m + 1 < b := by omega
  have hl8 : decide ((8 : Int) ≤ (l : Int)) = true := decide_eq_true (by omega)
  obtain ⟨W, hW⟩ : ∃ W, W = w.alloc (.cells #[.int .i64 0] 3) := ⟨_, rfl⟩
  have HW : Hid (W = w.alloc (.cells #[.int .i64 0] 3)) := hW
  have H0 : Hid (d.size = n ∧ HB W k d ∧ Num W w.heap.size 0 ∧ Below w.heap.size w W ∧ W.heap.size = w.heap.size + 1) := by
    have hbe : Below w.heap.size w W := by rw [hW]; exact (Below.refl _ _).alloc (Nat.le_refl _) _
    refine ⟨hz, fun j hj => ⟨(hbe.cell (p := ⟨k, j, none⟩) hk).trans (hH j hj).1, (hbe.frozen (p := ⟨k, j, none⟩) hk).trans (hH j hj).2⟩, ?_, hbe, by rw [hW]; simp⟩
    rw [hW]
    exact ⟨by simp, by simp⟩
  have hkp : k ≠ w.heap.size := by omega
  have hkW : k < W.heap.size := by have := H0.out.2.2.2.2; omega
  clear hW hz hH hl0 hq hq2 hq3 hi hj hm
  by_cases h50 : 50 ≤ l
  · have hg : decide ((50 : Int) ≤ (l : Int)) = true := decide_eq_true (by omega)
    go_enter Try.func35, Try.ntmps35
    go_wp2_with fail
    rw [← HW.out]
    refine (madj_any cap H0.out.1 hn H0.out.2.1 hkW hkp H0.out.2.2.1 (by omega) (by omega)).mono ?_
    rintro e w1 ⟨i1, s1, rfl, h1, n1, m1⟩
    have H1 : Hid (HB w1 k d ∧ Num w1 w.heap.size s1 ∧ Mv w.heap.size W w1) := ⟨hb_mv H0.out.2.1 hkW hkp m1, n1, m1⟩
    have k1 : k < w1.heap.size := Nat.lt_of_lt_of_le hkW m1.size
    have l1 : a ≤ i1 ∧ i1 < b := by omega
    clear n1 m1 h1
    go_wp2_with fail
    refine (madj_any cap H0.out.1 hn H1.out.1 k1 hkp H1.out.2.1 (by omega) (by omega)).mono ?_
    rintro e w2 ⟨i2, s2, rfl, h2, n2, m2⟩
    have H2 : Hid (HB w2 k d ∧ Num w2 w.heap.size s2 ∧ Mv w.heap.size W w2) := ⟨hb_mv H1.out.1 k1 hkp m2, n2, H1.out.2.2.trans m2⟩
    have k2 : k < w2.heap.size := Nat.lt_of_lt_of_le k1 m2.size
    have l2 : a ≤ i2 ∧ i2 < b := by omega
    clear n2 m2 h2
    go_wp2_with fail
    refine (madj_any cap H0.out.1 hn H2.out.1 k2 hkp H2.out.2.1 (by omega) (by omega)).mono ?_
    rintro e w3 ⟨i3, s3, rfl, h3, n3, m3⟩
    have H3 : Hid (HB w3 k d ∧ Num w3 w.heap.size s3 ∧ Mv w.heap.size W w3) := ⟨hb_mv H2.out.1 k2 hkp m3, n3, H2.out.2.2.trans m3⟩
    have k3 : k < w3.heap.size := Nat.lt_of_lt_of_le k2 m3.size
    have l3 : a ≤ i3 ∧ i3 < b := by omega
    clear n3 m3 h3
    go_wp2_with fail
    refine (med_any cap H0.out.1 hn H3.out.1 k3 hkp H3.out.2.1 (by omega) (by omega) (by omega)).mono ?_
    rintro e w4 ⟨pv, s4, rfl, h4, n4, m4⟩
    have HX : Hid (HB w4 k d ∧ Num w4 w.heap.size s4 ∧ Below w.heap.size w w4 ∧ a ≤ pv ∧ pv < b) := ⟨hb_mv H3.out.1 k3 hkp m4, n4, H0.out.2.2.2.1.trans (mv_below2 (H3.out.2.2.trans m4) (by have := H0.out.2.2.2.2; omega)), by omega, by omega⟩
    clear n4 m4 h4
    obtain ⟨c0, _⟩ := HX.out.2.1
    go_wp2_with fail
    all_goals
      go_ret2
      first
        | exact ⟨pv, 1, rfl, HX.out.2.2.2.1, HX.out.2.2.2.2, .inr (.inl rfl), HX.out.1, HX.out.2.2.1⟩
        | exact ⟨pv, 2, rfl, HX.out.2.2.2.1, HX.out.2.2.2.2, .inr (.inr rfl), HX.out.1, HX.out.2.2.1⟩
        | exact ⟨pv, 0, rfl, HX.out.2.2.2.1, HX.out.2.2.2.2, .inl rfl, HX.out.1, HX.out.2.2.1⟩
  · have hg : decide ((50 : Int) ≤ (l : Int)) = false := decide_eq_false (by omega)
    go_enter Try.func35, Try.ntmps35
    go_wp2_with fail
    rw [← HW.out]
    refine (med_any cap H0.out.1 hn H0.out.2.1 hkW hkp H0.out.2.2.1 (by omega) (by omega) (by omega)).mono ?_
    rintro e w4 ⟨pv, s4, rfl, h4, n4, m4⟩
    have HX : Hid (HB w4 k d ∧ Num w4 w.heap.size s4 ∧ Below w.heap.size w w4 ∧ a ≤ pv ∧ pv < b) := ⟨hb_mv H0.out.2.1 hkW hkp m4, n4, H0.out.2.2.2.1.trans (mv_below2 m4 (by have := H0.out.2.2.2.2; omega)), by omega, by omega⟩
    clear n4 m4 h4
    obtain ⟨c0, _⟩ := HX.out.2.1
    go_wp2_with fail
    all_goals
      go_ret2
      first
        | exact ⟨pv, 1, rfl, HX.out.2.2.2.1, HX.out.2.2.2.2, .inr (.inl rfl), HX.out.1, HX.out.2.2.1⟩
        | exact ⟨pv, 2, rfl, HX.out.2.2.2.1, HX.out.2.2.2.2, .inr (.inr rfl), HX.out.1, HX.out.2.2.1⟩
        | exact ⟨pv, 0, rfl, HX.out.2.2.2.1, HX.out.2.2.2.2, .inl rfl, HX.out.1, HX.out.2.2.1⟩
end Go.Proofs.Ytfkhpcgccjlpgaa
