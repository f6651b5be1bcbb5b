/- Faults put in order one by one: insertionSort. -/
import Derived.Test.YtdiealijjhfhjaaGreatDoorYj
namespace Go.Proofs.YtdiealijjhfhjaaGreatDoor.So
open Go.RowKit
def Srt (a b : Nat) (f : Nat → E) : Prop := ∀ i j, a ≤ i → i < j → j < b → (f i).lt (f j)
structure Re (a b : Nat) (f g : Nat → E) : Prop where
  out : ∀ i, i < a ∨ b ≤ i → g i = f i
  fwd : ∀ i, a ≤ i → i < b → ∃ j, a ≤ j ∧ j < b ∧ g i = f j
  bwd : ∀ j, a ≤ j → j < b → ∃ i, a ≤ i ∧ i < b ∧ g i = f j
theorem Re.refl (a b : Nat) (f : Nat → E) : Re a b f f := ⟨fun _ _ => rfl, fun i h1 h2 => ⟨i, h1, h2, rfl⟩, fun i h1 h2 => ⟨i, h1, h2, rfl⟩⟩
theorem Re.trans {a b : Nat} {f g h : Nat → E} (x : Re a b f g) (y : Re a b g h) : Re a b f h :=
  ⟨fun i hi => (y.out i hi).trans (x.out i hi), fun i h1 h2 => by
    obtain ⟨j, j1, j2, e⟩ := y.fwd i h1 h2
    obtain ⟨l, l1, l2, e'⟩ := x.fwd j j1 j2
    exact ⟨l, l1, l2, e.trans e'⟩, fun i h1 h2 => by
    obtain ⟨j, j1, j2, e⟩ := x.bwd i h1 h2
    obtain ⟨l, l1, l2, e'⟩ := y.bwd j j1 j2
    exact ⟨l, l1, l2, e'.trans e⟩⟩
theorem Re.wide {a b c d : Nat} {f g : Nat → E} (x : Re a b f g) (h1 : c ≤ a) (h2 : b ≤ d) : Re c d f g :=
  ⟨fun i hi => x.out i (by omega), fun i k1 k2 => by
    by_cases h : a ≤ i ∧ i < b
    · obtain ⟨j, j1, j2, e⟩ := x.fwd i h.1 h.2
      exact ⟨j, by omega, by omega, e⟩
    · exact ⟨i, k1, k2, x.out i (by omega)⟩, fun i k1 k2 => by
    by_cases h : a ≤ i ∧ i < b
    · obtain ⟨j, j1, j2, e⟩ := x.bwd i h.1 h.2
      exact ⟨j, by omega, by omega, e⟩
    · exact ⟨i, k1, k2, x.out i (by omega)⟩⟩
theorem re_swp {a b i j : Nat} (f : Nat → E) (h1 : a ≤ i) (h2 : i < b) (h3 : a ≤ j) (h4 : j < b) : Re a b f (swp f i j) := by
  refine ⟨fun p hp => ?_, fun p h5 h6 => ?_, fun p h5 h6 => ?_⟩
  · unfold swp
    rw [if_neg (by omega), if_neg (by omega)]
  · unfold swp
    split
    · exact ⟨j, h3, h4, rfl⟩
    · split
      · exact ⟨i, h1, h2, rfl⟩
      · exact ⟨p, h5, h6, rfl⟩
  · by_cases e1 : p = i
    · subst e1
      refine ⟨j, h3, h4, ?_⟩
      unfold swp
      split
      · rename_i h; rw [h]
      · rw [if_pos rfl]
    · by_cases e2 : p = j
      · subst e2
        refine ⟨i, h1, h2, ?_⟩
        unfold swp
        rw [if_pos rfl]
      · refine ⟨p, h5, h6, ?_⟩
        unfold swp
        rw [if_neg e1, if_neg e2]
structure Ins (a i j : Nat) (g : Nat → E) : Prop where
  rest : ∀ p q, a ≤ p → p < q → q ≤ i → p ≠ j → q ≠ j → (g p).lt (g q)
  up : ∀ q, j < q → q ≤ i → (g j).lt (g q)
  last : ∀ p, a ≤ p → p ≤ i → p ≠ j → (g p).t < (g j).t
theorem Ins.start {a i : Nat} {f g : Nat → E} (hr : Re a i f g) (hs : Srt a i g) (ht : ∀ p, a ≤ p → p < i → (f p).t < (f i).t) : Ins a i i g := by
  refine ⟨fun p q h1 h2 h3 h4 h5 => hs p q h1 h2 (by omega), fun q h1 h2 => by omega, fun p h1 h2 h3 => ?_⟩
  obtain ⟨l, l1, l2, e⟩ := hr.fwd p h1 (by omega)
  rw [e, hr.out i (by omega)]
  exact ht l l1 l2
theorem Ins.swap {a i q : Nat} {g : Nat → E} (h : Ins a i (q + 1) g) (ha : a ≤ q) (hi : q + 1 ≤ i) (hl : (g (q + 1)).a < (g q).a) : Ins a i q (swp g (q + 1) q) := by
  have e1 : swp g (q + 1) q q = g (q + 1) := by unfold swp; rw [if_neg (by omega), if_pos rfl]
  have e2 : swp g (q + 1) q (q + 1) = g q := by unfold swp; rw [if_pos rfl]
  have e3 : ∀ p, p ≠ q → p ≠ q + 1 → swp g (q + 1) q p = g p := fun p h1 h2 => by unfold swp; rw [if_neg h2, if_neg h1]
  refine ⟨fun p r h1 h2 h3 h4 h5 => ?_, fun r h1 h2 => ?_, fun p h1 h2 h3 => ?_⟩
  · by_cases k1 : p = q + 1
    · rw [k1, e2, e3 r h5 (by omega)]
      exact h.rest q r ha (by omega) h3 (by omega) (by omega)
    · rw [e3 p h4 k1]
      by_cases k2 : r = q + 1
      · rw [k2, e2]
        exact h.rest p q h1 (by omega) (by omega) k1 (by omega)
      · rw [e3 r h5 k2]
        exact h.rest p r h1 h2 h3 k1 k2
  · rw [e1]
    by_cases k2 : r = q + 1
    · rw [k2, e2]
      exact .inl hl
    · rw [e3 r (by omega) k2]
      exact h.up r (by omega) h2
  · rw [e1]
    by_cases k2 : p = q + 1
    · rw [k2, e2]
      exact h.last q ha (by omega) (by omega)
    · rw [e3 p h3 k2]
      exact h.last p h1 h2 k2
theorem Ins.stop {a i j : Nat} {g : Nat → E} (h : Ins a i j g) (ha : a ≤ j) (hj : j ≤ i) (hs : j = a ∨ ¬ (g j).a < (g (j - 1)).a) : Srt a (i + 1) g := by
  intro p q h1 h2 h3
  by_cases k1 : p = j
  · rw [k1]
    exact h.up q (by omega) (by omega)
  · by_cases k2 : q = j
    · rw [k2]
      have hs' : ¬ (g j).a < (g (j - 1)).a := by
        rcases hs with hs | hs
        · omega
        · exact hs
      have hl : (g (j - 1)).lt (g j) := by
        have := h.last (j - 1) (by omega) (by omega) (by omega)
        unfold E.lt; omega
      by_cases k3 : p = j - 1
      · rw [k3]; exact hl
      · exact (h.rest p (j - 1) h1 (by omega) (by omega) k1 (by omega)).trans hl
    · exact h.rest p q h1 h2 (by omega) k1 k2
def C4 (k x y : Nat) (c1 a1 c2 a2 : Int) (W w' : World) : Prop :=
  w'.cell? ⟨k, x * 2, none⟩ = some (.int .i64 c1) ∧ w'.cell? ⟨k, x * 2 + 1, none⟩ = some (.int .i64 a1) ∧ w'.cell? ⟨k, y * 2, none⟩ = some (.int .i64 c2) ∧ w'.cell? ⟨k, y * 2 + 1, none⟩ = some (.int .i64 a2) ∧ Below W.heap.size W w'
theorem c4_step {k x y : Nat} {c1 a1 c2 a2 : Int} {W w' w2 : World} (h : C4 k x y c1 a1 c2 a2 W w') (b : Below w'.heap.size w' w2) (hk : k < W.heap.size) : C4 k x y c1 a1 c2 a2 W w2 := by
  have hs := h.2.2.2.2.size
  have hc : ∀ i, w2.cell? ⟨k, i, none⟩ = w'.cell? ⟨k, i, none⟩ := fun i => b.cell (p := ⟨k, i, none⟩) (by show k < _; omega)
  exact ⟨(hc _).trans h.1, (hc _).trans h.2.1, (hc _).trans h.2.2.1, (hc _).trans h.2.2.2.1, h.2.2.2.2.trans (b.mono hs)⟩
theorem c4_keep {k x y : Nat} {c1 a1 c2 a2 : Int} {W w' : World} (h : C4 k x y c1 a1 c2 a2 W w') (hk : k < W.heap.size) : C4 k x y c1 a1 c2 a2 W w'.drew := c4_step h ((Below.refl _ _).drew) hk
theorem cmp_lt (x y : Int) : decide (cmpI x y < 0) = decide (x < y) := by
  unfold cmpI
  split
  · rename_i h; simp [h]
  · rename_i h
    rw [decide_eq_false h]
    split <;> simp
set_option maxRecDepth 20000 in
set_option maxHeartbeats 2000000 in
theorem ins_any (k m n cap : Nat) (f : Nat → E) (a b : Nat) (w : World) (hn : n ≤ 1000000) (hH : HF w k m n f) (hab : a ≤ b) (hb : b ≤ n) (ht : ∀ i j, a ≤ i → i < j → j < b → (f i).t < (f j).t) :
    Calls Tryz.prog 125 #[sl k n cap, .int .i64 a, .int .i64 b, cf] w fun e w' => e = .returned (.tuple #[]) ∧ ∃ g, HF w' k m n g ∧ Mv k w w' ∧ Re a b f g ∧ Srt a b g := by
  have HS : Hid (HF w k m n f ∧ ∀ i j, a ≤ i → i < j → j < b → (f i).t < (f j).t) := ⟨hH, ht⟩
  clear hH ht
  go_enter Tryz.func125, Tryz.ntmps125
  go_wp2_with fail
  go_loopw [8] (fun iv wr => ∃ (i : Nat) (g : Nat → E), iv = .int .i64 i ∧ a + 1 ≤ i ∧ i ≤ n + 1 ∧ (i ≤ b ∨ i = a + 1) ∧ HF wr k m n g ∧ Mv k w wr ∧ Re a i f g ∧ Srt a i g) (fun iv _ => n + 1 - (intOf iv).toNat)
  case atStart => exact ⟨a + 1, f, by go_num, by omega, by omega, .inr rfl, HS.out.1, Mv.refl _ _, Re.refl _ _ _, fun i j h1 h2 h3 => by omega⟩
  case round =>
    obtain ⟨i, gi, rfl, hai, hi, hor, hh, hm, hr, hs⟩ := hrel
    have HD : Hid (HF wr k m n gi ∧ Mv k w wr ∧ Re a i f gi ∧ Srt a i gi) := ⟨hh, hm, hr, hs⟩
    clear hh hm hr hs
    by_cases hib : i < b
    · have hib' : decide ((i : Int) < (b : Int)) = true := decide_eq_true (by omega)
      go_wp2_with fail
      go_loopw [9] (fun jv wr2 => ∃ (j : Nat) (g : Nat → E), jv = .int .i64 j ∧ a ≤ j ∧ j ≤ i ∧ HF wr2 k m n g ∧ Mv k w wr2 ∧ Re a (i + 1) f g ∧ Ins a i j g) (fun jv _ => (intOf jv).toNat)
      case atStart => exact ⟨i, gi, rfl, by omega, Nat.le_refl _, HD.out.1, HD.out.2.1, HD.out.2.2.1.wide (Nat.le_refl _) (Nat.le_succ _), Ins.start HD.out.2.2.1 HD.out.2.2.2 (fun p h1 h2 => HS.out.2 p i h1 h2 hib)⟩
      case round =>
        obtain ⟨j, g, rfl, haj, hji, hh, hm, hr, hs⟩ := hrel
        by_cases hja : a < j
        · obtain ⟨q, rfl⟩ : ∃ q, j = q + 1 := ⟨j - 1, by omega⟩
          obtain ⟨j, hj⟩ : ∃ j, q + 1 = j := ⟨_, rfl⟩
          obtain ⟨c1, a1, e1, e2, q1, q2, z1, z2⟩ := hh.cells (q + 1) (by omega)
          obtain ⟨c2, a2, e3, e4, q3, q4, z3, z4⟩ := hh.cells q (by omega)
          have hkr := hh.lt
          have HJ : Hid (HF wr k m n g ∧ Mv k w wr ∧ Re a (i + 1) f g ∧ Ins a i (q + 1) g ∧ (g (q + 1)).c = c1 ∧ (g (q + 1)).a = a1 ∧ (g q).c = c2 ∧ (g q).a = a2 ∧ q + 1 = j) := ⟨hh, hm, hr, hs, e1, e2, e3, e4, hj⟩
          rw [hj] at hja haj hji q1 q2 z1 z2 ⊢
          have hw2 : (j : Int) - 1 = (q : Int) := by omega
          have hwj : IntKind.i64.wrap (j : Int) = (j : Int) := by rw [IntKind.wrap_i64]; omega
          have hwq : IntKind.i64.wrap (q : Int) = (q : Int) := by rw [IntKind.wrap_i64]; omega
          have hjn : j < n := by omega
          have hqn : q < n := by omega
          have hg : decide ((j : Int) > (a : Int)) = true := decide_eq_true (by omega)
          clear hh hm hr hs e1 e2 e3 e4
          have hin : C4 k j q c1 a1 c2 a2 wr wr := ⟨q1, q2, q3, q4, Below.refl _ _⟩
          go_wp2_with fail
          go_region_held3 (fun w' => w'.cell? ⟨k, j * 2, none⟩ = some (.int .i64 c1) ∧ w'.cell? ⟨k, j * 2 + 1, none⟩ = some (.int .i64 a1) ∧ w'.cell? ⟨k, q * 2, none⟩ = some (.int .i64 c2) ∧ w'.cell? ⟨k, q * 2 + 1, none⟩ = some (.int .i64 a2) ∧ Below wr.heap.size wr w')
            (first | assumption | exact c4_keep (by assumption) hkr | go_keep)
            (first
              | (go_at_call 56; refine (cmp_any c1 a1 c2 a2 _).mono ?_; rintro e w' ⟨rfl, hbw⟩; have hkk := c4_step (by assumption) hbw hkr))
          have HW : Hid (HF w' k m n g ∧ Mv k w w') := ⟨HJ.out.1.below hkk.2.2.2.2, HJ.out.2.1.below hkk.2.2.2.2⟩
          have hkw := HW.out.1.lt
          have y1 : w'.frozen? ⟨k, j * 2, none⟩ = false := (hkk.2.2.2.2.frozen (p := ⟨k, j * 2, none⟩) hkr).trans z1
          have y2 : w'.frozen? ⟨k, j * 2 + 1, none⟩ = false := (hkk.2.2.2.2.frozen (p := ⟨k, j * 2 + 1, none⟩) hkr).trans z2
          have y3 : w'.frozen? ⟨k, q * 2, none⟩ = false := (hkk.2.2.2.2.frozen (p := ⟨k, q * 2, none⟩) hkr).trans z3
          have y4 : w'.frozen? ⟨k, q * 2 + 1, none⟩ = false := (hkk.2.2.2.2.frozen (p := ⟨k, q * 2 + 1, none⟩) hkr).trans z4
          obtain ⟨d1, d2, d3, d4, _⟩ := hkk
          clear q1 q2 q3 q4 z1 z2 z3 z4 hin hbw hkr
          rw [cmp_lt]
          have hjq : j ≠ q := by omega
          by_cases hlt : a1 < a2
          · rw [decide_eq_true hlt]
            go_wp2_with fail
            go_region
            have HK : Hid (HF ((((w'.setCell ⟨k, j * 2, none⟩ (.int .i64 c2)).setCell ⟨k, j * 2 + 1, none⟩ (.int .i64 a2)).setCell ⟨k, q * 2, none⟩ (.int .i64 c1)).setCell ⟨k, q * 2 + 1, none⟩ (.int .i64 a1)).drew k m n (swp g j q) ∧ Mv k w ((((w'.setCell ⟨k, j * 2, none⟩ (.int .i64 c2)).setCell ⟨k, j * 2 + 1, none⟩ (.int .i64 a2)).setCell ⟨k, q * 2, none⟩ (.int .i64 c1)).setCell ⟨k, q * 2 + 1, none⟩ (.int .i64 a1)).drew ∧ Re a (i + 1) f (swp g j q) ∧ Ins a i q (swp g j q)) := by
              obtain ⟨_, _, k3, k4, e1, e2, e3, e4, rfl⟩ := HJ.out
              refine ⟨(HW.out.1.swap hjn hqn hjq e1 e2 e3 e4).below ((Below.refl _ _).drew), (HW.out.2.swap _ _ _ _ _ _).below ((Below.refl _ _).drew), k3.trans (re_swp g (by omega) (by omega) (by omega) (by omega)), k4.swap (by omega) (by omega) (by rw [e2, e4]; exact hlt)⟩
            clear HJ HW d1 d2 d3 d4 y1 y2 y3 y4 hkw
            generalize ((((w'.setCell ⟨k, j * 2, none⟩ (.int .i64 c2)).setCell ⟨k, j * 2 + 1, none⟩ (.int .i64 a2)).setCell ⟨k, q * 2, none⟩ (.int .i64 c1)).setCell ⟨k, q * 2 + 1, none⟩ (.int .i64 a1)).drew = X at HK ⊢
            go_wp2_with fail
            exact ⟨⟨q, swp g j q, rfl, by omega, by omega, HK.out.1, HK.out.2.1, HK.out.2.2.1, HK.out.2.2.2⟩, by simp [intOf]; omega⟩
          · rw [decide_eq_false hlt]
            go_wp2_with fail
            obtain ⟨_, _, k3, k4, e1, e2, e3, e4, rfl⟩ := HJ.out
            exact ⟨⟨i + 1, g, by go_num, by omega, by omega, by omega, HW.out.1, HW.out.2, k3, k4.stop (by omega) (by omega) (.inr (by rw [e2, show q + 1 - 1 = q from rfl, e4]; exact hlt))⟩, by simp [intOf]; omega⟩
        · have hg : decide ((j : Int) > (a : Int)) = false := decide_eq_false (by omega)
          have HJ : Hid (HF wr k m n g ∧ Mv k w wr ∧ Re a (i + 1) f g ∧ Ins a i j g) := ⟨hh, hm, hr, hs⟩
          clear hh hm hr hs
          go_wp2_with fail
          go_quiet (fail)
          go_wp2_with fail
          have hb0 := G9.below_drewN (Below.refl wr.heap.size wr) nq
          exact ⟨⟨i + 1, g, by go_num, by omega, by omega, by omega, HJ.out.1.below hb0, HJ.out.2.1.below hb0, HJ.out.2.2.1, HJ.out.2.2.2.stop (by omega) (by omega) (.inl (by omega))⟩, by simp [intOf]; omega⟩
    · have hib' : decide ((i : Int) < (b : Int)) = false := decide_eq_false (by omega)
      go_wp2_with fail
      refine bodyPost_end (results_none rfl _ _ _) rfl ⟨rfl, gi, HD.out.1, HD.out.2.1, ?_, ?_⟩
      · by_cases e : i ≤ b
        · obtain rfl : i = b := by omega
          exact HD.out.2.2.1
        · have ea : a = b := by omega
          obtain rfl : i = a + 1 := by omega
          have hf : gi = f := by
            funext p
            by_cases hp : p = a
            · obtain ⟨j, j1, j2, e⟩ := HD.out.2.2.1.fwd p (by omega) (by omega)
              rw [e]; congr 1; omega
            · exact HD.out.2.2.1.out p (by omega)
          rw [hf]
          exact Re.refl _ _ _
      · intro p q h1 h2 h3
        exact HD.out.2.2.2 p q h1 h2 (by omega)
end Go.Proofs.YtdiealijjhfhjaaGreatDoor.So
namespace Go.Proofs.YtdiealijjhfhjaaGreatDoor.So
open Go.RowKit
def mvr (f : Nat → E) (a k : Nat) : Nat → E := fun p => if a ≤ p ∧ p < k then f (p + 1) else if p = k then f a else f p
theorem mvr_zero (f : Nat → E) (a : Nat) : mvr f a a = f := by
  funext p
  unfold mvr
  rw [if_neg (by omega)]
  split
  · rename_i h; rw [h]
  · rfl
theorem mvr_succ (f : Nat → E) (a k : Nat) (h : a ≤ k) : swp (mvr f a k) k (k + 1) = mvr f a (k + 1) := by
  funext p
  unfold swp mvr
  repeat' split
  all_goals first | (exfalso; omega) | rfl | (congr 1; omega)
theorem re_mvr {a k b : Nat} (f : Nat → E) (h1 : a ≤ k) (h2 : k < b) : Re a b f (mvr f a k) := by
  refine ⟨fun p hp => ?_, fun p h5 h6 => ?_, fun p h5 h6 => ?_⟩
  · unfold mvr
    rw [if_neg (by omega), if_neg (by omega)]
  · unfold mvr
    repeat' split
    · exact ⟨p + 1, by omega, by omega, rfl⟩
    · exact ⟨a, by omega, by omega, rfl⟩
    · exact ⟨p, by omega, by omega, rfl⟩
  · by_cases e : p = a
    · subst e
      exact ⟨k, by omega, by omega, by unfold mvr; rw [if_neg (by omega), if_pos rfl]⟩
    · by_cases e2 : p ≤ k
      · refine ⟨p - 1, by omega, by omega, ?_⟩
        unfold mvr
        rw [if_pos (by omega)]
        congr 1; omega
      · exact ⟨p, by omega, by omega, by unfold mvr; rw [if_neg (by omega), if_neg (by omega)]⟩
theorem srt_mvr {a i b : Nat} {f : Nat → E} (hs : Srt (a + 1) b f) (hi : a + 1 ≤ i) (hib : i ≤ b) (h1 : ∀ p, a + 1 ≤ p → p < i → (f p).a < (f a).a) (h2 : ∀ p, i ≤ p → p < b → (f a).a ≤ (f p).a) (ht : ∀ p, a + 1 ≤ p → p < b → (f a).t < (f p).t) : Srt a b (mvr f a (i - 1)) := by
  intro p q hp hpq hq
  have v : ∀ x, a ≤ x → (x < i - 1 → mvr f a (i - 1) x = f (x + 1)) ∧ (x = i - 1 → mvr f a (i - 1) x = f a) ∧ (i - 1 < x → mvr f a (i - 1) x = f x) := fun x hx => by
    unfold mvr
    refine ⟨fun h => ?_, fun h => ?_, fun h => ?_⟩
    · rw [if_pos ⟨hx, h⟩]
    · rw [if_neg (by omega), if_pos h]
    · rw [if_neg (by omega), if_neg (by omega)]
  rcases Nat.lt_trichotomy p (i - 1) with e1 | e1 | e1
  · rw [(v p hp).1 e1]
    rcases Nat.lt_trichotomy q (i - 1) with e2 | e2 | e2
    · rw [(v q (by omega)).1 e2]
      exact hs _ _ (by omega) (by omega) (by omega)
    · rw [(v q (by omega)).2.1 e2]
      exact .inl (h1 _ (by omega) (by omega))
    · rw [(v q (by omega)).2.2 e2]
      exact hs _ _ (by omega) (by omega) (by omega)
  · rw [(v p hp).2.1 e1, (v q (by omega)).2.2 (by omega)]
    have := h2 q (by omega) hq
    have := ht q (by omega) hq
    unfold E.lt; omega
  · rw [(v p hp).2.2 e1, (v q (by omega)).2.2 (by omega)]
    exact hs _ _ (by omega) (by omega) (by omega)
set_option maxRecDepth 20000 in
set_option maxHeartbeats 2000000 in
theorem sym_one (k m0 n cap : Nat) (f : Nat → E) (a m b : Nat) (w : World) (hn : n ≤ 1000000) (hH : HF w k m0 n f) (ham : m = a + 1) (hmb : m < b) (hb : b ≤ n) (hs : Srt m b f) (ht : ∀ p, m ≤ p → p < b → (f a).t < (f p).t) :
    Calls Tryz.prog 126 #[sl k n cap, .int .i64 a, .int .i64 m, .int .i64 b, cf] w fun e w' => e = .returned (.tuple #[]) ∧ ∃ g, HF w' k m0 n g ∧ Mv k w w' ∧ Re a b f g ∧ Srt a b g := by
  have HH : Hid (HF w k m0 n f ∧ Srt m b f ∧ ∀ p, m ≤ p → p < b → (f a).t < (f p).t) := ⟨hH, hs, ht⟩
  have hma : (m : Int) - (a : Int) = 1 := by omega
  have HA : Hid (m = a + 1) := ham
  have han : a < n := by omega
  clear hH hs ht ham
  go_enter Tryz.func126, Tryz.ntmps126
  go_wp2_with fail
  go_loopw [10, 11] (fun iv jv wr => ∃ (i j : Nat), iv = .int .i64 i ∧ jv = .int .i64 j ∧ m ≤ i ∧ i ≤ j ∧ j ≤ b ∧ HF wr k m0 n f ∧ Mv k w wr ∧ (∀ p, m ≤ p → p < i → (f p).a < (f a).a) ∧ (∀ p, j ≤ p → p < b → (f a).a ≤ (f p).a)) (fun iv jv _ => (intOf jv).toNat - (intOf iv).toNat)
  case atStart => exact ⟨m, b, rfl, rfl, Nat.le_refl _, by omega, Nat.le_refl _, HH.out.1, Mv.refl _ _, fun p h1 h2 => by omega, fun p h1 h2 => by omega⟩
  case round =>
    obtain ⟨i, j, rfl, rfl, hmi, hij, hjb, hh, hm, h1, h2⟩ := hrel
    have HR : Hid (HF wr k m0 n f ∧ Mv k w wr ∧ (∀ p, m ≤ p → p < i → (f p).a < (f a).a) ∧ (∀ p, j ≤ p → p < b → (f a).a ≤ (f p).a)) := ⟨hh, hm, h1, h2⟩
    by_cases hlt : i < j
    · have hlt' : decide ((i : Int) < (j : Int)) = true := decide_eq_true (by omega)
      obtain ⟨h, hhh⟩ : ∃ h, (i + j) / 2 = h := ⟨_, rfl⟩
      have hhi : ((i : Int) + (j : Int)) / 2 = (h : Int) := by omega
      have hhn : h < n := by omega
      have hrg : i ≤ h ∧ h < j := by omega
      have hwh : IntKind.i64.wrap (h : Int) = (h : Int) := by rw [IntKind.wrap_i64]; omega
      have hwa : IntKind.i64.wrap (a : Int) = (a : Int) := by rw [IntKind.wrap_i64]; omega
      obtain ⟨c1, a1, e1, e2, q1, q2, z1, z2⟩ := hh.cells h hhn
      obtain ⟨c2, a2, e3, e4, q3, q4, z3, z4⟩ := hh.cells a han
      have hkr := hh.lt
      have HE : Hid ((f h).a = a1 ∧ (f a).a = a2) := ⟨e2, e4⟩
      clear h1 h2 hm e1 e2 e3 e4 z1 z2 z3 z4 hh hhh
      have hin : C4 k h a c1 a1 c2 a2 wr wr := ⟨q1, q2, q3, q4, Below.refl _ _⟩
      go_wp2_with fail
      go_region_held3 (fun w' => w'.cell? ⟨k, h * 2, none⟩ = some (.int .i64 c1) ∧ w'.cell? ⟨k, h * 2 + 1, none⟩ = some (.int .i64 a1) ∧ w'.cell? ⟨k, a * 2, none⟩ = some (.int .i64 c2) ∧ w'.cell? ⟨k, a * 2 + 1, none⟩ = some (.int .i64 a2) ∧ Below wr.heap.size wr w')
        (first | assumption | exact c4_keep (by assumption) hkr | go_keep)
        (first
          | (go_at_call 56; refine (cmp_any c1 a1 c2 a2 _).mono ?_; rintro e w' ⟨rfl, hbw⟩; have hkk := c4_step (by assumption) hbw hkr))
      have HW : Hid (HF w' k m0 n f ∧ Mv k w w') := ⟨HR.out.1.below hkk.2.2.2.2, HR.out.2.1.below hkk.2.2.2.2⟩
      clear hkk hin hbw hkr q1 q2 q3 q4
      rw [cmp_lt]
      by_cases hc : a1 < a2
      · rw [decide_eq_true hc]
        go_wp2_with fail
        refine ⟨⟨h + 1, j, by go_num, rfl, by omega, by omega, by omega, HW.out.1, HW.out.2, fun p h1 h2 => ?_, HR.out.2.2.2⟩, by simp [intOf]; omega⟩
        obtain ⟨e2, e4⟩ := HE.out
        by_cases e : p = h
        · rw [e, e2, e4]; exact hc
        · rcases HH.out.2.1 p h h1 (by omega) (by omega) with h | h
          · omega
          · omega
      · rw [decide_eq_false hc]
        go_wp2_with fail
        refine ⟨⟨i, h, rfl, rfl, by omega, by omega, by omega, HW.out.1, HW.out.2, HR.out.2.2.1, fun p h1 h2 => ?_⟩, by simp [intOf]; omega⟩
        obtain ⟨e2, e4⟩ := HE.out
        by_cases e : p = h
        · rw [e, e2, e4]; omega
        · rcases HH.out.2.1 h p (by omega) (by omega) (by omega) with h | h
          · omega
          · omega
    · have hlt' : decide ((i : Int) < (j : Int)) = false := decide_eq_false (by omega)
      obtain rfl : i = j := by omega
      clear h1 h2 hm hh
      go_wp2_with fail
      go_loopw [13] (fun kv wq => ∃ (x : Nat), kv = .int .i64 x ∧ a ≤ x ∧ x ≤ i - 1 ∧ HF wq k m0 n (mvr f a x) ∧ Mv k w wq) (fun kv _ => i - (intOf kv).toNat)
      case atStart => exact ⟨a, rfl, Nat.le_refl _, by have := HA.out; omega, by rw [mvr_zero]; exact HR.out.1, HR.out.2.1⟩
      case round =>
        obtain ⟨x, rfl, hax, hxi, hh, hm⟩ := hrel
        have HX : Hid (HF wr k m0 n (mvr f a x) ∧ Mv k w wr) := ⟨hh, hm⟩
        by_cases hx : x < i - 1
        · have hx' : decide ((x : Int) < (i : Int) - 1) = true := decide_eq_true (by omega)
          obtain ⟨y, hy⟩ : ∃ y, x + 1 = y := ⟨_, rfl⟩
          have hyy : (x : Int) + 1 = (y : Int) := by omega
          have hxn : x < n := by omega
          have hyn : y < n := by omega
          have hxy : x ≠ y := by omega
          obtain ⟨c1, a1, e1, e2, q1, q2, z1, z2⟩ := hh.cells x hxn
          obtain ⟨c2, a2, e3, e4, q3, q4, z3, z4⟩ := hh.cells y hyn
          have hkr := hh.lt
          have HE : Hid ((mvr f a x x).c = c1 ∧ (mvr f a x x).a = a1 ∧ (mvr f a x y).c = c2 ∧ (mvr f a x y).a = a2 ∧ x + 1 = y) := ⟨e1, e2, e3, e4, hy⟩
          clear hh hm e1 e2 e3 e4 hy
          go_wp2_with fail
          go_region
          have HK : Hid (HF ((((wr.setCell ⟨k, x * 2, none⟩ (.int .i64 c2)).setCell ⟨k, x * 2 + 1, none⟩ (.int .i64 a2)).setCell ⟨k, y * 2, none⟩ (.int .i64 c1)).setCell ⟨k, y * 2 + 1, none⟩ (.int .i64 a1)).drew k m0 n (mvr f a (x + 1)) ∧ Mv k w ((((wr.setCell ⟨k, x * 2, none⟩ (.int .i64 c2)).setCell ⟨k, x * 2 + 1, none⟩ (.int .i64 a2)).setCell ⟨k, y * 2, none⟩ (.int .i64 c1)).setCell ⟨k, y * 2 + 1, none⟩ (.int .i64 a1)).drew) := by
            obtain ⟨e1, e2, e3, e4, rfl⟩ := HE.out
            refine ⟨?_, (HX.out.2.swap _ _ _ _ _ _).below ((Below.refl _ _).drew)⟩
            rw [← mvr_succ f a x hax]
            exact (HX.out.1.swap hxn hyn hxy e1 e2 e3 e4).below ((Below.refl _ _).drew)
          clear HE HX q1 q2 q3 q4 z1 z2 z3 z4 hkr
          generalize ((((wr.setCell ⟨k, x * 2, none⟩ (.int .i64 c2)).setCell ⟨k, x * 2 + 1, none⟩ (.int .i64 a2)).setCell ⟨k, y * 2, none⟩ (.int .i64 c1)).setCell ⟨k, y * 2 + 1, none⟩ (.int .i64 a1)).drew = X at HK ⊢
          go_wp2_with fail
          exact ⟨⟨x + 1, by go_num, by omega, by omega, HK.out.1, HK.out.2⟩, by simp [intOf]; omega⟩
        · have hx' : decide ((x : Int) < (i : Int) - 1) = false := decide_eq_false (by omega)
          obtain rfl : x = i - 1 := by omega
          clear hh hm
          go_wp2_with fail
          have hA := HA.out
          refine bodyPost_ret (results_none rfl _ _ _) rfl ⟨rfl, mvr f a (i - 1), HX.out.1, HX.out.2, re_mvr f (by omega) (by omega), ?_⟩
          have h0 := HH.out
          rw [hA] at h0
          have h3 := HR.out.2.2.1
          rw [hA] at h3
          exact srt_mvr h0.2.1 (by omega) (by omega) h3 HR.out.2.2.2 h0.2.2
end Go.Proofs.YtdiealijjhfhjaaGreatDoor.So
namespace Go.Proofs.YtdiealijjhfhjaaGreatDoor.So
open Go.RowKit
def mvl (f : Nat → E) (m k : Nat) : Nat → E := fun p => if k < p ∧ p ≤ m then f (p - 1) else if p = k then f m else f p
theorem mvl_zero (f : Nat → E) (m : Nat) : mvl f m m = f := by
  funext p
  unfold mvl
  rw [if_neg (by omega)]
  split
  · rename_i h; rw [h]
  · rfl
theorem mvl_succ (f : Nat → E) (m k : Nat) (h : k + 1 ≤ m) : swp (mvl f m (k + 1)) (k + 1) k = mvl f m k := by
  funext p
  unfold swp mvl
  repeat' split
  all_goals first | (exfalso; omega) | rfl | (congr 1; omega)
theorem re_mvl {a k m : Nat} (f : Nat → E) (h1 : a ≤ k) (h2 : k ≤ m) : Re a (m + 1) f (mvl f m k) := by
  refine ⟨fun p hp => ?_, fun p h5 h6 => ?_, fun p h5 h6 => ?_⟩
  · unfold mvl
    rw [if_neg (by omega), if_neg (by omega)]
  · unfold mvl
    repeat' split
    · exact ⟨p - 1, by omega, by omega, rfl⟩
    · exact ⟨m, by omega, by omega, rfl⟩
    · exact ⟨p, by omega, by omega, rfl⟩
  · by_cases e : p = m
    · subst e
      exact ⟨k, by omega, by omega, by unfold mvl; rw [if_neg (by omega), if_pos rfl]⟩
    · by_cases e2 : k ≤ p
      · refine ⟨p + 1, by omega, by omega, ?_⟩
        unfold mvl
        rw [if_pos (by omega)]
        congr 1
      · exact ⟨p, by omega, by omega, by unfold mvl; rw [if_neg (by omega), if_neg (by omega)]⟩
theorem srt_mvl {a i m : Nat} {f : Nat → E} (hs : Srt a m f) (hi : a ≤ i) (him : i ≤ m) (h1 : ∀ p, a ≤ p → p < i → (f p).a ≤ (f m).a) (h2 : ∀ p, i ≤ p → p < m → (f m).a < (f p).a) (ht : ∀ p, a ≤ p → p < m → (f p).t < (f m).t) : Srt a (m + 1) (mvl f m i) := by
  intro p q hp hpq hq
  have v : ∀ x, x ≤ m → (x < i → mvl f m i x = f x) ∧ (x = i → mvl f m i x = f m) ∧ (i < x → mvl f m i x = f (x - 1)) := fun x hx => by
    unfold mvl
    refine ⟨fun h => ?_, fun h => ?_, fun h => ?_⟩
    · rw [if_neg (by omega), if_neg (by omega)]
    · rw [if_neg (by omega), if_pos h]
    · rw [if_pos ⟨h, hx⟩]
  rcases Nat.lt_trichotomy p i with e1 | e1 | e1
  · rw [(v p (by omega)).1 e1]
    rcases Nat.lt_trichotomy q i with e2 | e2 | e2
    · rw [(v q (by omega)).1 e2]
      exact hs _ _ (by omega) (by omega) (by omega)
    · rw [(v q (by omega)).2.1 e2]
      have := h1 p (by omega) (by omega)
      have := ht p (by omega) (by omega)
      unfold E.lt; omega
    · rw [(v q (by omega)).2.2 e2]
      exact hs _ _ (by omega) (by omega) (by omega)
  · rw [(v p (by omega)).2.1 e1, (v q (by omega)).2.2 (by omega)]
    exact .inl (h2 _ (by omega) (by omega))
  · rw [(v p (by omega)).2.2 e1, (v q (by omega)).2.2 (by omega)]
    exact hs _ _ (by omega) (by omega) (by omega)
set_option maxRecDepth 20000 in
set_option maxHeartbeats 2000000 in
theorem sym_last (k m0 n cap : Nat) (f : Nat → E) (a m b : Nat) (w : World) (hn : n ≤ 1000000) (hH : HF w k m0 n f) (ham : a + 1 < m) (hmb : b = m + 1) (hb : b ≤ n) (hs : Srt a m f) (ht : ∀ p, a ≤ p → p < m → (f p).t < (f m).t) :
    Calls Tryz.prog 126 #[sl k n cap, .int .i64 a, .int .i64 m, .int .i64 b, cf] w fun e w' => e = .returned (.tuple #[]) ∧ ∃ g, HF w' k m0 n g ∧ Mv k w w' ∧ Re a b f g ∧ Srt a b g := by
  have HH : Hid (HF w k m0 n f ∧ Srt a m f ∧ ∀ p, a ≤ p → p < m → (f p).t < (f m).t) := ⟨hH, hs, ht⟩
  have hma : ((m : Int) - (a : Int) == 1) = false := by simp; omega
  have hbm : (b : Int) - (m : Int) = 1 := by omega
  have HA : Hid (b = m + 1) := hmb
  have hmn : m < n := by omega
  clear hH hs ht hmb
  go_enter Tryz.func126, Tryz.ntmps126
  go_wp2_with fail
  go_loopw [14, 15] (fun iv jv wr => ∃ (i j : Nat), iv = .int .i64 i ∧ jv = .int .i64 j ∧ a ≤ i ∧ i ≤ j ∧ j ≤ m ∧ HF wr k m0 n f ∧ Mv k w wr ∧ (∀ p, a ≤ p → p < i → (f p).a ≤ (f m).a) ∧ (∀ p, j ≤ p → p < m → (f m).a < (f p).a)) (fun iv jv _ => (intOf jv).toNat - (intOf iv).toNat)
  case atStart => exact ⟨a, m, rfl, rfl, Nat.le_refl _, by omega, Nat.le_refl _, HH.out.1, Mv.refl _ _, fun p h1 h2 => by omega, fun p h1 h2 => by omega⟩
  case round =>
    obtain ⟨i, j, rfl, rfl, hmi, hij, hjb, hh, hm, h1, h2⟩ := hrel
    have HR : Hid (HF wr k m0 n f ∧ Mv k w wr ∧ (∀ p, a ≤ p → p < i → (f p).a ≤ (f m).a) ∧ (∀ p, j ≤ p → p < m → (f m).a < (f p).a)) := ⟨hh, hm, h1, h2⟩
    by_cases hlt : i < j
    · have hlt' : decide ((i : Int) < (j : Int)) = true := decide_eq_true (by omega)
      obtain ⟨h, hhh⟩ : ∃ h, (i + j) / 2 = h := ⟨_, rfl⟩
      have hhi : ((i : Int) + (j : Int)) / 2 = (h : Int) := by omega
      have hhn : h < n := by omega
      have hrg : i ≤ h ∧ h < j := by omega
      have hwh : IntKind.i64.wrap (h : Int) = (h : Int) := by rw [IntKind.wrap_i64]; omega
      have hwm : IntKind.i64.wrap (m : Int) = (m : Int) := by rw [IntKind.wrap_i64]; omega
      obtain ⟨c1, a1, e1, e2, q1, q2, z1, z2⟩ := hh.cells m hmn
      obtain ⟨c2, a2, e3, e4, q3, q4, z3, z4⟩ := hh.cells h hhn
      have hkr := hh.lt
      have HE : Hid ((f m).a = a1 ∧ (f h).a = a2) := ⟨e2, e4⟩
      clear h1 h2 hm e1 e2 e3 e4 z1 z2 z3 z4 hh hhh
      have hin : C4 k m h c1 a1 c2 a2 wr wr := ⟨q1, q2, q3, q4, Below.refl _ _⟩
      go_wp2_with fail
      go_region_held3 (fun w' => w'.cell? ⟨k, m * 2, none⟩ = some (.int .i64 c1) ∧ w'.cell? ⟨k, m * 2 + 1, none⟩ = some (.int .i64 a1) ∧ w'.cell? ⟨k, h * 2, none⟩ = some (.int .i64 c2) ∧ w'.cell? ⟨k, h * 2 + 1, none⟩ = some (.int .i64 a2) ∧ Below wr.heap.size wr w')
        (first | assumption | exact c4_keep (by assumption) hkr | go_keep)
        (first
          | (go_at_call 56; refine (cmp_any c1 a1 c2 a2 _).mono ?_; rintro e w' ⟨rfl, hbw⟩; have hkk := c4_step (by assumption) hbw hkr))
      have HW : Hid (HF w' k m0 n f ∧ Mv k w w') := ⟨HR.out.1.below hkk.2.2.2.2, HR.out.2.1.below hkk.2.2.2.2⟩
      clear hkk hin hbw hkr q1 q2 q3 q4
      rw [cmp_lt]
      by_cases hc : a1 < a2
      · rw [decide_eq_true hc]
        go_wp2_with fail
        refine ⟨⟨i, h, rfl, rfl, by omega, by omega, by omega, HW.out.1, HW.out.2, HR.out.2.2.1, fun p h1 h2 => ?_⟩, by simp [intOf]; omega⟩
        obtain ⟨e2, e4⟩ := HE.out
        by_cases e : p = h
        · rw [e, e2, e4]; exact hc
        · rcases HH.out.2.1 h p (by omega) (by omega) (by omega) with h | h
          · omega
          · omega
      · rw [decide_eq_false hc]
        go_wp2_with fail
        refine ⟨⟨h + 1, j, by go_num, rfl, by omega, by omega, by omega, HW.out.1, HW.out.2, fun p h1 h2 => ?_, HR.out.2.2.2⟩, by simp [intOf]; omega⟩
        obtain ⟨e2, e4⟩ := HE.out
        by_cases e : p = h
        · rw [e, e2, e4]; omega
        · rcases HH.out.2.1 p h h1 (by omega) (by omega) with h | h
          · omega
          · omega
    · have hlt' : decide ((i : Int) < (j : Int)) = false := decide_eq_false (by omega)
      obtain rfl : i = j := by omega
      clear h1 h2 hm hh
      go_wp2_with fail
      go_loopw [17] (fun kv wq => ∃ (x : Nat), kv = .int .i64 x ∧ i ≤ x ∧ x ≤ m ∧ HF wq k m0 n (mvl f m x) ∧ Mv k w wq) (fun kv _ => (intOf kv).toNat)
      case atStart => exact ⟨m, rfl, by omega, Nat.le_refl _, by rw [mvl_zero]; exact HR.out.1, HR.out.2.1⟩
      case round =>
        obtain ⟨x, rfl, hax, hxi, hh, hm⟩ := hrel
        have HX : Hid (HF wr k m0 n (mvl f m x) ∧ Mv k w wr) := ⟨hh, hm⟩
        by_cases hx : i < x
        · have hx' : decide ((x : Int) > (i : Int)) = true := decide_eq_true (by omega)
          obtain ⟨y, hy⟩ : ∃ y, x = y + 1 := ⟨x - 1, by omega⟩
          have hyy : (x : Int) - 1 = (y : Int) := by omega
          have hxn : x < n := by omega
          have hyn : y < n := by omega
          have hxy : x ≠ y := by omega
          have hyi : i ≤ y := by omega
          obtain ⟨c1, a1, e1, e2, q1, q2, z1, z2⟩ := hh.cells x hxn
          obtain ⟨c2, a2, e3, e4, q3, q4, z3, z4⟩ := hh.cells y hyn
          have hkr := hh.lt
          have HE : Hid ((mvl f m x x).c = c1 ∧ (mvl f m x x).a = a1 ∧ (mvl f m x y).c = c2 ∧ (mvl f m x y).a = a2 ∧ x = y + 1) := ⟨e1, e2, e3, e4, hy⟩
          clear hh hm e1 e2 e3 e4 hy
          go_wp2_with fail
          go_region
          have HK : Hid (HF ((((wr.setCell ⟨k, x * 2, none⟩ (.int .i64 c2)).setCell ⟨k, x * 2 + 1, none⟩ (.int .i64 a2)).setCell ⟨k, y * 2, none⟩ (.int .i64 c1)).setCell ⟨k, y * 2 + 1, none⟩ (.int .i64 a1)).drew k m0 n (mvl f m y) ∧ Mv k w ((((wr.setCell ⟨k, x * 2, none⟩ (.int .i64 c2)).setCell ⟨k, x * 2 + 1, none⟩ (.int .i64 a2)).setCell ⟨k, y * 2, none⟩ (.int .i64 c1)).setCell ⟨k, y * 2 + 1, none⟩ (.int .i64 a1)).drew ∧ y < x) := by
            obtain ⟨e1, e2, e3, e4, hy⟩ := HE.out
            refine ⟨?_, (HX.out.2.swap _ _ _ _ _ _).below ((Below.refl _ _).drew), by omega⟩
            rw [← mvl_succ f m y (by omega), ← hy]
            exact (HX.out.1.swap hxn hyn hxy e1 e2 e3 e4).below ((Below.refl _ _).drew)
          clear HE HX q1 q2 q3 q4 z1 z2 z3 z4 hkr
          generalize ((((wr.setCell ⟨k, x * 2, none⟩ (.int .i64 c2)).setCell ⟨k, x * 2 + 1, none⟩ (.int .i64 a2)).setCell ⟨k, y * 2, none⟩ (.int .i64 c1)).setCell ⟨k, y * 2 + 1, none⟩ (.int .i64 a1)).drew = X at HK ⊢
          go_wp2_with fail
          have := HK.out.2.2
          exact ⟨⟨y, rfl, by omega, by omega, HK.out.1, HK.out.2.1⟩, by simp [intOf]; omega⟩
        · have hx' : decide ((x : Int) > (i : Int)) = false := decide_eq_false (by omega)
          obtain rfl : i = x := by omega
          clear hh hm
          go_wp2_with fail
          have hA := HA.out
          refine bodyPost_ret (results_none rfl _ _ _) rfl ⟨rfl, mvl f m i, HX.out.1, HX.out.2, ?_, ?_⟩
          · rw [hA]; exact re_mvl f (by omega) (by omega)
          · rw [hA]; exact srt_mvl HH.out.2.1 (by omega) (by omega) HR.out.2.2.1 HR.out.2.2.2 HH.out.2.2
end Go.Proofs.YtdiealijjhfhjaaGreatDoor.So
