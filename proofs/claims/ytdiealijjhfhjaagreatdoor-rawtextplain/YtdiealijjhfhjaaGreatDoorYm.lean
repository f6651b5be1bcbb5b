/- Faults put in order by blocks: stable. -/
import Derived.Test.YtdiealijjhfhjaaGreatDoorYl
import Derived.Test.YtdiealijjhfhjaaGreatDoorYa
namespace Go.Proofs.YtdiealijjhfhjaaGreatDoor.So
open Go.RowKit
theorem sym_all (k m0 n cap : Nat) (hn : n ≤ 1000000) : ∀ d, SymC k m0 n cap d := by
  intro d
  induction d with
  | zero => intro a m b f w h; omega
  | succ d ih =>
    intro a m b f w hd h1 h2 h3 hH hT
    by_cases e1 : m = a + 1
    · exact sym_one k m0 n cap f a m b w hn hH e1 h2 h3 hT.two (fun p q1 q2 => hT.tag a p (Nat.le_refl _) h1 q1 q2)
    · by_cases e2 : b = m + 1
      · exact sym_last k m0 n cap f a m b w hn hH (by omega) e2 h3 hT.one (fun p q1 q2 => hT.tag p m q1 q2 (Nat.le_refl _) h2)
      · have hI : SymC k m0 n cap (b - a) := fun a' m' b' f' w' hd' => ih a' m' b' f' w' (by omega)
        by_cases hw : m ≤ (a + b) / 2
        · exact sym_gen k m0 n cap f a m b ((a + b) / 2) ((a + b) / 2 + m) a m w hn hH (by omega) (by omega) h3 hT ⟨h1, h2, by omega, by omega, rfl, .inl ⟨rfl, rfl, hw⟩⟩ hI
        · exact sym_gen k m0 n cap f a m b ((a + b) / 2) ((a + b) / 2 + m) ((a + b) / 2 + m - b) ((a + b) / 2) w hn hH (by omega) (by omega) h3 hT ⟨h1, h2, by omega, by omega, rfl, .inr ⟨by omega, rfl, by omega⟩⟩ hI
structure Blk (s n : Nat) (f : Nat → E) : Prop where
  srt : ∀ i j, i < j → j < n → (∀ q, ¬ (i < q * s ∧ q * s ≤ j)) → (f i).lt (f j)
  tag : ∀ q i j, i < q * s → q * s ≤ j → j < n → (f i).t < (f j).t
structure Upt (s a n : Nat) (f : Nat → E) : Prop where
  srt : ∀ i j, i < j → j < a → (∀ q, ¬ (i < q * s ∧ q * s ≤ j)) → (f i).lt (f j)
  tag : ∀ q i j, q * s ≤ a → i < q * s → q * s ≤ j → j < n → (f i).t < (f j).t
theorem gap {q0 q s : Nat} (h : q0 * s < q * s) : q0 * s + s ≤ q * s := by
  have h1 : q0 < q := Nat.lt_of_mul_lt_mul_right h
  have h2 := Nat.mul_le_mul_right s (show q0 + 1 ≤ q from h1)
  rw [Nat.succ_mul] at h2
  exact h2
theorem Upt.step {s a a' n q0 : Nat} {f g : Nat → E} (h : Upt s a n f) (ha : a = q0 * s) (_haa : a ≤ a') (han : a' ≤ n) (ha' : a' ≤ a + s) (hr : Re a a' f g) (hs : Srt a a' g) (hc : ∀ i j, i < a' → a' ≤ j → j < n → (f i).t < (f j).t) : Upt s a' n g := by
  refine ⟨fun i j h1 h2 h3 => ?_, fun q i j h1 h2 h3 h4 => ?_⟩
  · by_cases e1 : j < a
    · rw [hr.out i (by omega), hr.out j (by omega)]
      exact h.srt i j h1 e1 h3
    · have : ¬ i < a := fun h => h3 q0 (by omega)
      exact hs i j (by omega) h1 h2
  · by_cases e1 : q * s ≤ a
    · rw [hr.out i (by omega)]
      by_cases e2 : a ≤ j ∧ j < a'
      · obtain ⟨l, l1, l2, e⟩ := hr.fwd j e2.1 e2.2
        rw [e]
        exact h.tag q i l e1 h2 (by omega) (by omega)
      · rw [hr.out j (by omega)]
        exact h.tag q i j e1 h2 h3 h4
    · have hg := gap (q0 := q0) (q := q) (s := s) (by omega)
      rw [hr.out j (by omega)]
      by_cases e2 : a ≤ i ∧ i < a'
      · obtain ⟨l, l1, l2, e⟩ := hr.fwd i e2.1 e2.2
        rw [e]
        exact hc l j l2 (by omega) h4
      · rw [hr.out i (by omega)]
        exact hc i j (by omega) (by omega) h4
theorem Upt.all {s n : Nat} {f : Nat → E} (h : Upt s n n f) : Blk s n f := ⟨h.srt, fun q i j h1 h2 h3 => h.tag q i j (by omega) h1 h2 h3⟩
theorem Upt.zero (s n : Nat) (f : Nat → E) : Upt s 0 n f := ⟨fun i j h1 h2 => by omega, fun q i j h1 h2 => by omega⟩
def Late (a n : Nat) (f : Nat → E) : Prop := ∀ i j, a ≤ j → i < j → j < n → (f i).t < (f j).t
theorem Late.step {a a' n : Nat} {f g : Nat → E} (h : Late a n f) (haa : a ≤ a') (hr : Re a a' f g) : Late a' n g := by
  intro i j h1 h2 h3
  rw [hr.out j (by omega)]
  by_cases e2 : a ≤ i ∧ i < a'
  · obtain ⟨l, l1, l2, e⟩ := hr.fwd i e2.1 e2.2
    rw [e]
    exact h l j (by omega) (by omega) h3
  · rw [hr.out i (by omega)]
    exact h i j (by omega) h2 h3
structure Beh (s a n : Nat) (f : Nat → E) : Prop where
  srt : ∀ i j, a ≤ i → i < j → j < n → (∀ q, ¬ (i < q * s ∧ q * s ≤ j)) → (f i).lt (f j)
  tag : ∀ q i j, a ≤ q * s → i < q * s → q * s ≤ j → j < n → (f i).t < (f j).t
theorem Beh.step {s a a' n : Nat} {f g : Nat → E} (h : Beh s a n f) (haa : a ≤ a') (hr : Re a a' f g) : Beh s a' n g := by
  refine ⟨fun i j h1 h2 h3 h4 => ?_, fun q i j h1 h2 h3 h4 => ?_⟩
  · rw [hr.out i (by omega), hr.out j (by omega)]
    exact h.srt i j (by omega) h2 h3 h4
  · rw [hr.out j (by omega)]
    by_cases e2 : a ≤ i ∧ i < a'
    · obtain ⟨l, l1, l2, e⟩ := hr.fwd i e2.1 e2.2
      rw [e]
      exact h.tag q l j (by omega) (by omega) h3 h4
    · rw [hr.out i (by omega)]
      exact h.tag q i j (by omega) h2 h3 h4
theorem Beh.one {s a n q0 b : Nat} {f : Nat → E} (h : Beh s a n f) (c : Nat) (hc : c = q0 * s) (hac : a ≤ c) (hb : b ≤ n) (hbs : b ≤ c + s) : Srt c b f := by
  intro i j h1 h2 h3
  refine h.srt i j (by omega) h2 (by omega) fun q hq => ?_
  have := gap (q0 := q0) (q := q) (s := s) (by omega)
  omega
theorem Beh.two {s a n q0 b : Nat} {f : Nat → E} (h : Beh s a n f) (ha : a = q0 * (2 * s)) (hab : a + s ≤ b) (hb : b ≤ n) (hbs : b ≤ a + 2 * s) : Two a (a + s) b f := by
  have e1 : a = (q0 * 2) * s := by rw [ha, Nat.mul_assoc]
  have e2 : a + s = (q0 * 2 + 1) * s := by rw [Nat.succ_mul, ← e1]
  exact ⟨h.one (q0 := q0 * 2) _ e1 (Nat.le_refl _) (by omega) (Nat.le_refl _), h.one (q0 := q0 * 2 + 1) _ e2 (by omega) hb (by omega), fun p q h1 h2 h3 h4 => h.tag (q0 * 2 + 1) p q (by omega) (by omega) (by omega) (by omega)⟩
theorem Beh.cross {s a n q0 : Nat} {f : Nat → E} (h : Beh s a n f) (ha : a = q0 * (2 * s)) : ∀ i j, i < a + 2 * s → a + 2 * s ≤ j → j < n → (f i).t < (f j).t := by
  have e1 : a + 2 * s = (q0 * 2 + 2) * s := by rw [Nat.add_mul, Nat.mul_assoc, ← ha]
  exact fun i j h1 h2 h3 => h.tag (q0 * 2 + 2) i j (by omega) (by omega) (by omega) h3
theorem Blk.beh {s n : Nat} {f : Nat → E} (h : Blk s n f) : Beh s 0 n f := ⟨fun i j _ h1 h2 h3 => h.srt i j h1 h2 h3, fun q i j _ h1 h2 h3 => h.tag q i j h1 h2 h3⟩
abbrev StaP (k m0 n : Nat) (f : Nat → E) (w : World) (e : Ending) (w' : World) : Prop := e = .returned (.tuple #[]) ∧ ∃ g, HF w' k m0 n g ∧ Mv k w w' ∧ Re 0 n f g ∧ Srt 0 n g
set_option maxRecDepth 20000 in
set_option maxHeartbeats 4000000 in
theorem stable_any (k m0 n cap : Nat) (f : Nat → E) (w : World) (hn : n ≤ 1000000) (hH : HF w k m0 n f) (ht : Late 0 n f) : Calls Tryz.prog 87 #[sl k n cap, .int .i64 n, cf] w (StaP k m0 n f w) := by
  have HH : Hid (HF w k m0 n f ∧ Late 0 n f ∧ ∀ d, SymC k m0 n cap d) := ⟨hH, ht, sym_all k m0 n cap hn⟩
  clear hH ht
  go_enter Tryz.func87, Tryz.ntmps87
  go_wp2_with fail
  go_loopw [7, 8] (fun av bv wr => ∃ (a b q0 : Nat) (g : Nat → E), av = .int .i64 a ∧ bv = .int .i64 b ∧ b = a + 20 ∧ a ≤ n ∧ a = q0 * 20 ∧ HF wr k m0 n g ∧ Mv k w wr ∧ Re 0 n f g ∧ Upt 20 a n g ∧ Late a n g) (fun av _ _ => n - (intOf av).toNat)
  case atStart => exact ⟨0, 20, 0, f, rfl, rfl, rfl, Nat.zero_le _, rfl, HH.out.1, Mv.refl _ _, Re.refl _ _ _, Upt.zero _ _ _, HH.out.2.1⟩
  case round =>
    obtain ⟨a, b, q0, g, rfl, rfl, hb, han, hq, hh, hm, hr, hu, hl⟩ := hrel
    have HR : Hid (HF wr k m0 n g ∧ Mv k w wr ∧ Re 0 n f g ∧ Upt 20 a n g ∧ Late a n g ∧ a = q0 * 20 ∧ b = a + 20) := ⟨hh, hm, hr, hu, hl, hq, hb⟩
    have hab : a ≤ b ∧ b ≤ 2000000 := by omega
    clear hh hm hr hu hl hq hb
    by_cases hlt : b ≤ n
    · have hlt' : decide ((b : Int) ≤ (n : Int)) = true := decide_eq_true (by omega)
      go_wp2_with fail
      refine (ins_any k m0 n cap g a b wr hn HR.out.1 hab.1 hlt (fun i j h1 h2 h3 => HR.out.2.2.2.2.1 i j (by omega) h2 (by omega))).mono ?_
      rintro e w1 ⟨rfl, g1, r1, r2, r3, r4⟩
      have HX : Hid (HF w1 k m0 n g1 ∧ Mv k w w1 ∧ Re 0 n f g1 ∧ Upt 20 b n g1 ∧ Late b n g1 ∧ b = (q0 + 1) * 20 ∧ a < b) := by
        obtain ⟨h1, h2, h3, h4, h5, h6, h7⟩ := HR.out
        exact ⟨r1, h2.trans r2, h3.trans (r3.wide (Nat.zero_le _) hlt), h4.step h6 hab.1 hlt (by omega) r3 r4 (fun i j x1 x2 x3 => h5 i j (by omega) (by omega) x3), h5.step hab.1 r3, by omega, by omega⟩
      clear r1 r2 r3 r4 HR
      go_wp2_with fail
      obtain ⟨h1, h2, h3, h4, h5, h6, h7⟩ := HX.out
      exact ⟨⟨b, b + 20, q0 + 1, g1, rfl, by go_num, rfl, hlt, h6, h1, h2, h3, h4, h5⟩, by simp [intOf]; omega⟩
    · have hlt' : decide ((b : Int) ≤ (n : Int)) = false := decide_eq_false (by omega)
      go_wp2_with fail
      refine (ins_any k m0 n cap g a n wr hn HR.out.1 han (Nat.le_refl _) (fun i j h1 h2 h3 => HR.out.2.2.2.2.1 i j (by omega) h2 (by omega))).mono ?_
      rintro e w1 ⟨rfl, g1, r1, r2, r3, r4⟩
      have HX : Hid (HF w1 k m0 n g1 ∧ Mv k w w1 ∧ Re 0 n f g1 ∧ Blk 20 n g1) := by
        obtain ⟨h1, h2, h3, h4, h5, h6, h7⟩ := HR.out
        exact ⟨r1, h2.trans r2, h3.trans (r3.wide (Nat.zero_le _) (Nat.le_refl _)), (h4.step h6 han (Nat.le_refl _) (by omega) r3 r4 (fun i j x1 x2 x3 => by omega)).all⟩
      clear r1 r2 r3 r4 HR
      go_wp2_with fail
      go_loopw [6] (fun sv wr => ∃ (s : Nat) (g : Nat → E), sv = .int .i64 s ∧ 0 < s ∧ s ≤ 2000020 ∧ HF wr k m0 n g ∧ Mv k w wr ∧ Re 0 n f g ∧ Blk s n g) (fun sv _ => 4000000 - (intOf sv).toNat)
      case atStart => exact ⟨20, g1, rfl, by omega, by omega, HX.out⟩
      case round =>
        obtain ⟨s, g2, rfl, hs0, hs1, hh, hm, hr, hk⟩ := hrel
        have HY : Hid (HF wr k m0 n g2 ∧ Mv k w wr ∧ Re 0 n f g2 ∧ Blk s n g2) := ⟨hh, hm, hr, hk⟩
        clear hh hm hr hk HX
        by_cases hsn : s < n
        · have hsn' : decide ((s : Int) < (n : Int)) = true := decide_eq_true (by omega)
          go_wp2_with fail
          go_loopw [7, 8] (fun av bv wr => ∃ (a b q0 : Nat) (g : Nat → E), av = .int .i64 a ∧ bv = .int .i64 b ∧ b = a + 2 * s ∧ a ≤ n ∧ a = q0 * (2 * s) ∧ HF wr k m0 n g ∧ Mv k w wr ∧ Re 0 n f g ∧ Upt (2 * s) a n g ∧ Beh s a n g) (fun av _ _ => n - (intOf av).toNat)
          case atStart => exact ⟨0, 2 * s, 0, g2, rfl, by go_num, by omega, Nat.zero_le _, by omega, HY.out.1, HY.out.2.1, HY.out.2.2.1, Upt.zero _ _ _, HY.out.2.2.2.beh⟩
          case round =>
            obtain ⟨a, b, q0, g, rfl, rfl, hb, han, hq, hh, hm, hr, hu, hl⟩ := hrel
            have HR : Hid (HF wr k m0 n g ∧ Mv k w wr ∧ Re 0 n f g ∧ Upt (2 * s) a n g ∧ Beh s a n g ∧ a = q0 * (2 * s) ∧ b = a + 2 * s) := ⟨hh, hm, hr, hu, hl, hq, hb⟩
            obtain ⟨mm, hmm⟩ : ∃ mm, a + s = mm := ⟨_, rfl⟩
            have hmi : (a : Int) + (s : Int) = (mm : Int) := by omega
            have HMM : Hid (a + s = mm) := hmm
            have hab : a < mm ∧ mm < b ∧ b ≤ 6000000 ∧ a < b := by omega
            clear hh hm hr hu hl hq hb hmm HY
            by_cases hlt : b ≤ n
            · have hlt' : decide ((b : Int) ≤ (n : Int)) = true := decide_eq_true (by omega)
              go_wp2_with fail
              refine (HH.out.2.2 (b - a + 1) a mm b g wr (by omega) hab.1 hab.2.1 hlt HR.out.1 (by
                obtain ⟨h1, h2, h3, h4, h5, h6, h7⟩ := HR.out
                have := h5.two (b := b) h6 (by omega) hlt (by omega)
                rw [HMM.out] at this
                exact this)).mono ?_
              rintro e w1 ⟨rfl, g3, r1, r2, r3, r4⟩
              have HZ : Hid (HF w1 k m0 n g3 ∧ Mv k w w1 ∧ Re 0 n f g3 ∧ Upt (2 * s) b n g3 ∧ Beh s b n g3 ∧ b = (q0 + 1) * (2 * s)) := by
                obtain ⟨h1, h2, h3, h4, h5, h6, h7⟩ := HR.out
                refine ⟨r1, h2.trans r2, h3.trans (r3.wide (Nat.zero_le _) hlt), h4.step h6 (by omega) hlt (by omega) r3 r4 ?_, h5.step (by omega) r3, by rw [Nat.succ_mul]; omega⟩
                rw [h7]
                exact h5.cross h6
              clear r1 r2 r3 r4 HR
              go_wp2_with fail
              obtain ⟨h1, h2, h3, h4, h5, h6⟩ := HZ.out
              exact ⟨⟨b, b + 2 * s, q0 + 1, g3, rfl, by go_num, rfl, hlt, h6, h1, h2, h3, h4, h5⟩, by simp [intOf]; omega⟩
            · have hlt' : decide ((b : Int) ≤ (n : Int)) = false := decide_eq_false (by omega)
              by_cases hmn : mm < n
              · have hmn' : decide ((mm : Int) < (n : Int)) = true := decide_eq_true (by omega)
                go_wp2_with fail
                refine (HH.out.2.2 (n - a + 1) a mm n g wr (by omega) hab.1 hmn (Nat.le_refl _) HR.out.1 (by
                  obtain ⟨h1, h2, h3, h4, h5, h6, h7⟩ := HR.out
                  have hM := HMM.out
                  have := h5.two (b := n) h6 (by omega) (Nat.le_refl _) (by omega)
                  rw [hM] at this
                  exact this)).mono ?_
                rintro e w1 ⟨rfl, g3, r1, r2, r3, r4⟩
                have HZ : Hid (HF w1 k m0 n g3 ∧ Mv k w w1 ∧ Re 0 n f g3 ∧ Blk (2 * s) n g3) := by
                  obtain ⟨h1, h2, h3, h4, h5, h6, h7⟩ := HR.out
                  exact ⟨r1, h2.trans r2, h3.trans (r3.wide (Nat.zero_le _) (Nat.le_refl _)), (h4.step h6 han (Nat.le_refl _) (by omega) r3 r4 (fun i j x1 x2 x3 => by omega)).all⟩
                clear r1 r2 r3 r4 HR
                go_wp2_with fail
                obtain ⟨h1, h2, h3, h4⟩ := HZ.out
                exact ⟨⟨2 * s, g3, by go_num, by omega, by omega, h1, h2, h3, h4⟩, by simp [intOf]; omega⟩
              · have hmn' : decide ((mm : Int) < (n : Int)) = false := decide_eq_false (by omega)
                have HZ : Hid (HF wr k m0 n g ∧ Mv k w wr ∧ Re 0 n f g ∧ Blk (2 * s) n g) := by
                  obtain ⟨h1, h2, h3, h4, h5, h6, h7⟩ := HR.out
                  have hM := HMM.out
                  have ss : Srt a n g := h5.one (q0 := q0 * 2) a (by rw [h6, Nat.mul_assoc]) (Nat.le_refl _) (Nat.le_refl _) (by omega)
                  exact ⟨h1, h2, h3, (h4.step h6 han (Nat.le_refl _) (by omega) (Re.refl _ _ _) ss (fun i j x1 x2 x3 => by omega)).all⟩
                clear HR
                go_wp2_with fail
                obtain ⟨h1, h2, h3, h4⟩ := HZ.out
                exact ⟨⟨2 * s, g, by go_num, by omega, by omega, h1, h2, h3, h4⟩, by simp [intOf]; omega⟩
        · have hsn' : decide ((s : Int) < (n : Int)) = false := decide_eq_false (by omega)
          go_wp2_with fail
          refine bodyPost_end (results_none rfl _ _ _) rfl ⟨rfl, g2, HY.out.1, HY.out.2.1, HY.out.2.2.1, fun i j h1 h2 h3 => ?_⟩
          refine HY.out.2.2.2.srt i j h2 h3 fun q hq => ?_
          cases q with
          | zero => omega
          | succ q => rw [Nat.succ_mul] at hq; omega
set_option maxRecDepth 20000 in
set_option maxHeartbeats 1000000 in
theorem sort_any (k m0 n cap : Nat) (f : Nat → E) (w : World) (hn : n ≤ 1000000) (hH : HF w k m0 n f) (ht : Late 0 n f) : Calls Tryz.prog 55 #[sl k n cap, cf] w (StaP k m0 n f w) := by
  have HS : Hid (∀ c, Calls Tryz.prog 87 #[sl k n cap, .int .i64 n, c] w (StaP k m0 n f w) ∨ c ≠ cf) := fun c => by
    by_cases e : c = cf
    · subst e; exact .inl (stable_any k m0 n cap f w hn hH ht)
    · exact .inr e
  have HT : Hid (Calls Tryz.prog 87 #[sl k n cap, .int .i64 n, cf] w (StaP k m0 n f w)) := stable_any k m0 n cap f w hn hH ht
  clear hH ht HS
  go_enter Tryz.func55, Tryz.ntmps55
  go_wp2_with fail
  refine HT.out.mono ?_
  rintro e w1 ⟨rfl, h⟩
  have HX : Hid (∃ g, HF w1 k m0 n g ∧ Mv k w w1 ∧ Re 0 n f g ∧ Srt 0 n g) := h
  clear h
  go_wp2_with fail
  exact bodyPost_end (results_none rfl _ _ _) rfl ⟨rfl, HX.out⟩
end Go.Proofs.YtdiealijjhfhjaaGreatDoor.So
namespace Go.Proofs.YtdiealijjhfhjaaGreatDoor
open Go.RowKit So
def fE (L : List (Int × Int)) (i : Nat) : E := match L[i]? with
  | some p => ⟨p.1, p.2, i⟩
  | none => ⟨0, 0, i⟩
def unE (n : Nat) (g : Nat → E) : List (Int × Int) := (List.range n).map fun i => ((g i).c, (g i).a)
def Stb (L L' : List (Int × Int)) : Prop := ∃ g, L' = unE L.length g ∧ Re 0 L.length (fE L) g ∧ Srt 0 L.length g
theorem late_fE (L : List (Int × Int)) : Late 0 L.length (fE L) := fun i j _ h1 h2 => by
  have ht : ∀ k, (fE L k).t = k := fun k => by unfold fE; split <;> rfl
  rw [ht, ht]; exact h1
theorem un_fE (L : List (Int × Int)) : unE L.length (fE L) = L := by
  apply List.ext_getElem
  · simp [unE]
  · intro i h1 h2
    simp [unE, fE, List.getElem?_eq_getElem h2]
theorem lt_irr {x : E} (h : x.lt x) : False := by unfold E.lt at h; omega
theorem lt_asy {x y : E} (h : x.lt y) (k : y.lt x) : False := lt_irr (h.trans k)
theorem srt_inj {n i j : Nat} {f : Nat → E} (h : Srt 0 n f) (hi : i < n) (_hj : j < n) (hl : (f i).lt (f j)) : i < j := by
  rcases Nat.lt_trichotomy i j with e | e | e
  · exact e
  · subst e; exact absurd hl lt_irr
  · exact absurd hl (fun hl => lt_asy hl (h j i (Nat.zero_le _) e hi))
theorem srt_same {n : Nat} {f g : Nat → E} (hf : Srt 0 n f) (hg : Srt 0 n g) (hr : Re 0 n f g) : ∀ i, i < n → g i = f i := by
  have hs : ∀ i, i < n → ∃ s, s < n ∧ g i = f s := fun i hi => by
    obtain ⟨s, _, h1, h2⟩ := hr.fwd i (Nat.zero_le _) hi
    exact ⟨s, h1, h2⟩
  have up : ∀ i, i < n → ∀ s, s < n → g i = f s → i ≤ s := by
    intro i
    induction i with
    | zero => intro _ s _ _; omega
    | succ i ih =>
      intro hi s h1 h2
      obtain ⟨t, t1, t2⟩ := hs i (by omega)
      have := ih (by omega) t t1 t2
      have hl := hg i (i + 1) (Nat.zero_le _) (by omega) hi
      rw [t2, h2] at hl
      have := srt_inj hf t1 h1 hl
      omega
  have down : ∀ k i, i + k + 1 = n → ∀ s, s < n → g i = f s → s ≤ i := by
    intro k
    induction k with
    | zero => intro i hi s h1 h2; omega
    | succ k ih =>
      intro i hi s h1 h2
      obtain ⟨t, t1, t2⟩ := hs (i + 1) (by omega)
      have := ih (i + 1) (by omega) t t1 t2
      have hl := hg i (i + 1) (Nat.zero_le _) (by omega) (by omega)
      rw [t2, h2] at hl
      have := srt_inj hf h1 t1 hl
      omega
  intro i hi
  obtain ⟨s, s1, s2⟩ := hs i hi
  have h1 := up i hi s s1 s2
  have h2 := down (n - 1 - i) i (by omega) s s1 s2
  obtain rfl : i = s := by omega
  exact s2
theorem stb_len {L L' : List (Int × Int)} (h : Stb L L') : L'.length = L.length := by
  obtain ⟨g, rfl, _⟩ := h
  simp [unE]
theorem stb_sorted {L L' : List (Int × Int)} (h : Stb L L') (hs : ∀ (i j : Nat) (a b : Int × Int), i < j → L[i]? = some a → L[j]? = some b → a.2 ≤ b.2) : L' = L := by
  obtain ⟨g, rfl, h1, h2⟩ := h
  have hf : Srt 0 L.length (fE L) := fun i j _ k1 k2 => by
    have ei : L[i]? = some L[i] := List.getElem?_eq_getElem (by omega)
    have ej : L[j]? = some L[j] := List.getElem?_eq_getElem k2
    have := hs i j _ _ k1 ei ej
    unfold fE E.lt
    rw [ei, ej]
    simp only
    omega
  have e := srt_same hf h2 h1
  conv => rhs; rw [← un_fE L]
  unfold unE
  apply List.map_congr_left
  intro i hi
  rw [e i (List.mem_range.1 hi)]
theorem gcells_at : ∀ (L : List (Int × Int)) (i : Nat) (p : Int × Int), L[i]? = some p → (L.flatMap gcells)[i * 2]? = some (.int .i64 p.1) ∧ (L.flatMap gcells)[i * 2 + 1]? = some (.int .i64 p.2)
  | [], i, p, h => by simp at h
  | q :: L, 0, p, h => by
    simp at h
    subst h
    simp [gcells, G4.gcells]
  | q :: L, i + 1, p, h => by
    have := gcells_at L i p (by simpa using h)
    rw [show (i + 1) * 2 = i * 2 + 1 + 1 by omega]
    simpa [gcells, G4.gcells] using this
theorem gcells_len (L : List (Int × Int)) : (L.flatMap gcells).length = L.length * 2 := by
  induction L with
  | nil => rfl
  | cons q L ih => rw [List.flatMap_cons, List.length_append, ih, List.length_cons]; simp [gcells, G4.gcells]; omega
theorem hf_row {W : World} {k cap : Nat} {cur : Array Value} {L : List (Int × Int)} (hg : W.heap[k]? = some (.cells cur 57 (0, 0))) (h1 : L.length ≤ cap) (h3 : cur.size = cap * 2) (h4 : cur.toList.take (L.length * 2) = L.flatMap gcells) : HF W k (cap * 2) L.length (fE L) := by
  refine ⟨cur, hg, h3, by omega, fun i hi => ?_⟩
  have ei : L[i]? = some L[i] := List.getElem?_eq_getElem hi
  obtain ⟨q1, q2⟩ := gcells_at L i _ ei
  rw [← h4, List.getElem?_take_of_lt (by omega), Array.getElem?_toList] at q1 q2
  unfold fE
  rw [ei]
  exact ⟨q1, q2⟩
theorem row_hf {W : World} {B k cap n : Nat} {g : Nat → E} (h : HF W k (cap * 2) n g) (hB : B ≤ k) (h1 : n ≤ cap) (h2 : cap ≤ maxLen) : W.ownsRow B 57 2 (.slice (some ⟨k, 0, none⟩) n cap) n ((unE n g).flatMap gcells) := by
  obtain ⟨cur, hg, h3, h4, h5⟩ := h
  have hl : (unE n g).length = n := by simp [unE]
  have hfl : ((unE n g).flatMap gcells).length = n * 2 := by rw [gcells_len, hl]
  refine ⟨hfl, .inr ⟨k, cap, cur, rfl, hB, hg, h1, h2, h3, ?_⟩⟩
  apply List.ext_getElem?
  intro i
  by_cases hi : i < n * 2
  · rw [List.getElem?_take_of_lt hi, Array.getElem?_toList]
    obtain ⟨q1, q2⟩ := gcells_at (unE n g) (i / 2) ((g (i / 2)).c, (g (i / 2)).a) (by
      unfold unE
      rw [List.getElem?_map, List.getElem?_range (by omega)]
      rfl)
    obtain ⟨r1, r2⟩ := h5 (i / 2) (by omega)
    rcases Nat.mod_two_eq_zero_or_one i with e | e
    · rw [show i / 2 * 2 = i by omega] at q1 r1
      rw [q1, r1]
    · rw [show i / 2 * 2 + 1 = i by omega] at q2 r2
      rw [q2, r2]
  · rw [List.getElem?_eq_none (by rw [List.length_take]; omega), List.getElem?_eq_none (by rw [hfl]; omega)]
set_option maxHeartbeats 1000000 in
set_option maxRecDepth 20000 in
theorem ins_nil (w : World) : Calls Tryz.prog 125 #[.slice none 0 0, .int .i64 0, .int .i64 0, cf] w fun e w' => e = .returned (.tuple #[]) ∧ w' = w := by
  go_enter Tryz.func125, Tryz.ntmps125
  go_wp2_with fail
  go_loopw [8] (fun iv wr => iv = .int .i64 1 ∧ wr = w) (fun _ _ => 0)
  case atStart => exact ⟨rfl, rfl⟩
  case round =>
    obtain ⟨rfl, rfl⟩ := hrel
    go_wp2_with fail
    exact bodyPost_end (results_none rfl _ _ _) rfl ⟨rfl, rfl⟩
set_option maxHeartbeats 1000000 in
set_option maxRecDepth 20000 in
theorem stable_nil (w : World) : Calls Tryz.prog 87 #[.slice none 0 0, .int .i64 0, cf] w fun e w' => e = .returned (.tuple #[]) ∧ w' = w := by
  go_enter Tryz.func87, Tryz.ntmps87
  go_wp2_with fail
  go_loopw [7, 8] (fun av bv wr => av = .int .i64 0 ∧ bv = .int .i64 20 ∧ wr = w) (fun _ _ _ => 0)
  case atStart => exact ⟨rfl, rfl, rfl⟩
  case round =>
    obtain ⟨rfl, rfl, rfl⟩ := hrel
    go_wp2_with fail
    refine (ins_nil _).mono ?_
    rintro e w1 ⟨rfl, rfl⟩
    go_wp2_with fail
    go_loopw [6] (fun sv wq => sv = .int .i64 20 ∧ wq = w1) (fun _ _ => 0)
    case atStart => exact ⟨rfl, rfl⟩
    case round =>
      obtain ⟨rfl, rfl⟩ := hrel
      go_wp2_with fail
      exact bodyPost_end (results_none rfl _ _ _) rfl ⟨rfl, rfl⟩
set_option maxHeartbeats 1000000 in
set_option maxRecDepth 20000 in
theorem sort_nil (w : World) : Calls Tryz.prog 55 #[.slice none 0 0, cf] w fun e w' => e = .returned (.tuple #[]) ∧ w' = w := by
  go_enter Tryz.func55, Tryz.ntmps55
  go_wp2_with fail
  refine (stable_nil _).mono ?_
  rintro e w1 ⟨rfl, rfl⟩
  go_wp2_with fail
  exact bodyPost_end (results_none rfl _ _ _) rfl ⟨rfl, rfl⟩
theorem sort_row {B : Nat} {v : Value} {L : List (Int × Int)} {W : World} (h : W.ownsRow B 57 2 v L.length (L.flatMap gcells)) (hn : L.length ≤ 1000000) : Calls Tryz.prog 55 #[v, cf] W fun e W' => e = .returned (.tuple #[]) ∧ (∃ L', Stb L L' ∧ W'.ownsRow B 57 2 v L'.length (L'.flatMap gcells)) ∧ Keep (fun k => v.ownBlock ≠ some k) W W' := by
  rcases h.2 with ⟨rfl, h0⟩ | ⟨k, cap, cur, rfl, hB, hg, h1, h2, h3, h4⟩
  · have hL : L = [] := List.length_eq_zero_iff.1 h0
    subst hL
    refine (sort_nil W).mono ?_
    rintro e W' ⟨rfl, rfl⟩
    exact ⟨rfl, ⟨[], ⟨fE [], rfl, Re.refl _ _ _, fun i j _ _ h => by simp at h⟩, ⟨rfl, .inl ⟨rfl, rfl⟩⟩⟩, Keep.refl _ _⟩
  · refine (sort_any k (cap * 2) L.length cap (fE L) W hn (hf_row hg h1 h3 h4) (late_fE L)).mono ?_
    rintro e W' ⟨rfl, g, q1, q2, q3, q4⟩
    have hl : (unE L.length g).length = L.length := by simp [unE]
    refine ⟨rfl, ⟨unE L.length g, ⟨g, rfl, q3, q4⟩, ?_⟩, ⟨q2.os, q2.tape, q2.output, q2.size, fun i hi hl => q2.block i hl fun e => hi (by rw [e]; simp [Value.ownBlock])⟩⟩
    rw [hl]
    exact row_hf q1 hB h1 h2
end Go.Proofs.YtdiealijjhfhjaaGreatDoor
