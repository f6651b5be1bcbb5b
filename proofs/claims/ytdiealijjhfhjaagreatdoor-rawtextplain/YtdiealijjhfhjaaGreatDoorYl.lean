/- Two rows in order made one: symMerge. -/
import Derived.Test.YtdiealijjhfhjaaGreatDoorYk
namespace Go.Proofs.YtdiealijjhfhjaaGreatDoor.So
open Go.RowKit
theorem rot_none (f : Nat → E) (s m e : Nat) (h1 : s ≤ m) (h2 : m ≤ e) (h : s = m ∨ e = m) : rot f s m e = f := by
  funext p
  unfold rot
  repeat' split
  all_goals first | rfl | (congr 1; omega)
theorem re_rot {a s m e b : Nat} (f : Nat → E) (h1 : a ≤ s) (h2 : s ≤ m) (h3 : m ≤ e) (h4 : e ≤ b) : Re a b f (rot f s m e) := by
  refine ⟨fun p hp => ?_, fun p h5 h6 => ?_, fun p h5 h6 => ?_⟩
  · unfold rot
    rw [if_neg (by omega), if_neg (by omega)]
  · unfold rot
    repeat' split
    · exact ⟨_, by omega, by omega, rfl⟩
    · exact ⟨_, by omega, by omega, rfl⟩
    · exact ⟨p, by omega, by omega, rfl⟩
  · by_cases e1 : s ≤ p ∧ p < m
    · refine ⟨p + (e - m), by omega, by omega, ?_⟩
      unfold rot
      rw [if_neg (by omega), if_pos (by omega)]
      congr 1; omega
    · by_cases e2 : m ≤ p ∧ p < e
      · refine ⟨p - (m - s), by omega, by omega, ?_⟩
        unfold rot
        rw [if_pos (by omega)]
        congr 1; omega
      · refine ⟨p, h5, h6, ?_⟩
        unfold rot
        rw [if_neg (by omega), if_neg (by omega)]
theorem rot_at (f : Nat → E) {s m e mid : Nat} (h2 : s ≤ m) (h3 : m ≤ e) (hm : s + (e - m) = mid) (p : Nat) :
    (p < s → rot f s m e p = f p) ∧ (s ≤ p → p < mid → rot f s m e p = f (p + (m - s))) ∧ (mid ≤ p → p < e → rot f s m e p = f (p - (e - m))) ∧ (e ≤ p → rot f s m e p = f p) := by
  unfold rot
  refine ⟨fun h => ?_, fun h h' => ?_, fun h h' => ?_, fun h => ?_⟩
  · rw [if_neg (by omega), if_neg (by omega)]
  · rw [if_pos (by omega)]
  · rw [if_neg (by omega), if_pos (by omega)]
  · rw [if_neg (by omega), if_neg (by omega)]
structure Two (a m b : Nat) (f : Nat → E) : Prop where
  one : Srt a m f
  two : Srt m b f
  tag : ∀ p q, a ≤ p → p < m → m ≤ q → q < b → (f p).t < (f q).t
theorem Srt.le {a b : Nat} {f : Nat → E} (h : Srt a b f) {p q : Nat} (h1 : a ≤ p) (h2 : p ≤ q) (h3 : q < b) : (f p).a ≤ (f q).a := by
  by_cases e : p = q
  · rw [e]; exact Int.le_refl _
  · rcases h p q h1 (by omega) h3 with h | h <;> omega
structure Cutt (a m b mid s e : Nat) (f : Nat → E) : Prop where
  fst : a ≤ s
  sm : s ≤ m
  me : m ≤ e
  eb : e ≤ b
  sum : s + (e - m) = mid
  low : s = a ∨ e = b ∨ (f (s - 1)).a ≤ (f e).a
  high : s = m ∨ e = m ∨ (f (e - 1)).a < (f s).a
theorem cross {a m b mid s e : Nat} {f : Nat → E} (h : Two a m b f) (c : Cutt a m b mid s e f) (p q : Nat) (h1 : a ≤ p) (h2 : p < mid) (h3 : mid ≤ q) (h4 : q < b) : (rot f s m e p).lt (rot f s m e q) := by
  obtain ⟨k1, k2, k3, k4, k5, k6, k7⟩ := c
  have vp := rot_at f k2 k3 k5 p
  have vq := rot_at f k2 k3 k5 q
  by_cases e1 : p < s
  · rw [vp.1 e1]
    by_cases e2 : q < e
    · rw [vq.2.2.1 h3 e2]
      exact h.one _ _ h1 (by omega) (by omega)
    · rw [vq.2.2.2 (by omega)]
      have x1 := h.one.le (p := p) (q := s - 1) h1 (by omega) (by omega)
      have x2 := h.two.le (p := e) (q := q) k3 (by omega) h4
      have x3 := h.tag p q h1 (by omega) (by omega) h4
      unfold E.lt
      omega
  · rw [vp.2.1 (by omega) h2]
    by_cases e2 : q < e
    · rw [vq.2.2.1 h3 e2]
      have x1 := h.two.le (p := p + (m - s)) (q := e - 1) (by omega) (by omega) (by omega)
      have x2 := h.one.le (p := s) (q := q - (e - m)) k1 (by omega) (by omega)
      unfold E.lt
      omega
    · rw [vq.2.2.2 (by omega)]
      exact h.two _ _ (by omega) (by omega) (by omega)
theorem left {a m b mid s e : Nat} {f : Nat → E} (h : Two a m b f) (c : Cutt a m b mid s e f) : Two a s mid (rot f s m e) ∧ (s = a ∨ s = mid → Srt a mid (rot f s m e)) := by
  obtain ⟨k1, k2, k3, k4, k5, k6, k7⟩ := c
  have v := rot_at f k2 k3 k5
  have t1 : Srt a s (rot f s m e) := fun i j h1 h2 h3 => by
    rw [(v i).1 (by omega), (v j).1 h3]
    exact h.one _ _ h1 h2 (by omega)
  have t2 : Srt s mid (rot f s m e) := fun i j h1 h2 h3 => by
    rw [(v i).2.1 h1 (by omega), (v j).2.1 (by omega) h3]
    exact h.two _ _ (by omega) (by omega) (by omega)
  refine ⟨⟨t1, t2, fun p q h1 h2 h3 h4 => ?_⟩, fun hs => ?_⟩
  · rw [(v p).1 h2, (v q).2.1 h3 h4]
    exact h.tag _ _ h1 (by omega) (by omega) (by omega)
  · rcases hs with hs | hs
    · rw [hs] at t2 ⊢; exact t2
    · rw [hs] at t1 ⊢; exact t1
theorem right {a m b mid s e : Nat} {f g : Nat → E} (h : Two a m b f) (c : Cutt a m b mid s e f) (hg : ∀ p, mid ≤ p → g p = rot f s m e p) : Two mid e b g ∧ (mid = e ∨ e = b → Srt mid b g) := by
  obtain ⟨k1, k2, k3, k4, k5, k6, k7⟩ := c
  have v := rot_at f k2 k3 k5
  have t1 : Srt mid e g := fun i j h1 h2 h3 => by
    rw [hg i h1, hg j (by omega), (v i).2.2.1 h1 (by omega), (v j).2.2.1 (by omega) h3]
    exact h.one _ _ (by omega) (by omega) (by omega)
  have t2 : Srt e b g := fun i j h1 h2 h3 => by
    rw [hg i (by omega), hg j (by omega), (v i).2.2.2 h1, (v j).2.2.2 (by omega)]
    exact h.two _ _ (by omega) (by omega) (by omega)
  refine ⟨⟨t1, t2, fun p q h1 h2 h3 h4 => ?_⟩, fun hs => ?_⟩
  · rw [hg p h1, hg q (by omega), (v p).2.2.1 h1 h2, (v q).2.2.2 h3]
    exact h.tag _ _ (by omega) (by omega) (by omega) (by omega)
  · rcases hs with hs | hs
    · rw [hs]; exact t2
    · rw [← hs]; exact t1
theorem whole {a m b mid s e : Nat} {f g1 g2 : Nat → E} (h : Two a m b f) (c : Cutt a m b mid s e f) (r1 : Re a mid (rot f s m e) g1) (s1 : Srt a mid g1) (r2 : Re mid b g1 g2) (s2 : Srt mid b g2) : Re a b f g2 ∧ Srt a b g2 := by
  have hc := cross h c
  obtain ⟨k1, k2, k3, k4, k5, k6, k7⟩ := c
  refine ⟨(re_rot f k1 k2 k3 k4).trans ((r1.wide (Nat.le_refl _) (by omega)).trans (r2.wide (by omega) (Nat.le_refl _))), fun i j h1 h2 h3 => ?_⟩
  by_cases e1 : j < mid
  · rw [r2.out i (by omega), r2.out j (by omega)]
    exact s1 _ _ h1 h2 e1
  · by_cases e2 : mid ≤ i
    · exact s2 _ _ e2 h2 h3
    · rw [r2.out i (by omega)]
      obtain ⟨x, x1, x2, ex⟩ := r1.fwd i h1 (by omega)
      obtain ⟨y, y1, y2, ey⟩ := r2.fwd j (by omega) h3
      rw [ex, ey, r1.out y (by omega)]
      exact hc x y x1 x2 y1 y2
end Go.Proofs.YtdiealijjhfhjaaGreatDoor.So
namespace Go.Proofs.YtdiealijjhfhjaaGreatDoor.So
open Go.RowKit
abbrev SymP (k m0 n : Nat) (a b : Nat) (f : Nat → E) (w : World) (e : Ending) (w' : World) : Prop := e = .returned (.tuple #[]) ∧ ∃ g, HF w' k m0 n g ∧ Mv k w w' ∧ Re a b f g ∧ Srt a b g
abbrev SymC (k m0 n cap d : Nat) : Prop := ∀ (a m b : Nat) (f : Nat → E) (w : World), b - a < d → a < m → m < b → b ≤ n → HF w k m0 n f → Two a m b f → Calls Tryz.prog 126 #[sl k n cap, .int .i64 a, .int .i64 m, .int .i64 b, cf] w (SymP k m0 n a b f w)
structure Sea (m nn lo hi s r : Nat) (f : Nat → E) : Prop where
  l : lo ≤ s
  m : s ≤ r
  h : r ≤ hi
  low : s = lo ∨ (f (s - 1)).a ≤ (f (nn - s)).a
  high : r = hi ∨ (f (nn - 1 - r)).a < (f r).a
structure Bnd (a m b mid nn lo hi : Nat) : Prop where
  am : a < m
  mb : m < b
  mid1 : 2 * mid ≤ a + b
  mid2 : a + b ≤ 2 * mid + 1
  nn1 : nn = mid + m
  way : (lo = a ∧ hi = m ∧ m ≤ mid) ∨ (lo + b = nn ∧ hi = mid ∧ mid < m)
theorem Sea.cut {a m b mid nn lo hi s : Nat} {f : Nat → E} (h : Sea m nn lo hi s s f) (k : Bnd a m b mid nn lo hi) : Cutt a m b mid s (nn - s) f := by
  obtain ⟨h1, h2, h3, h4, h5⟩ := h
  obtain ⟨k1, k2, k3, k4, k5, k6⟩ := k
  refine ⟨by omega, by omega, by omega, by omega, by omega, ?_, ?_⟩
  · rcases h4 with h4 | h4
    · omega
    · exact .inr (.inr h4)
  · rcases h5 with h5 | h5
    · omega
    · refine .inr (.inr ?_)
      rw [show nn - s - 1 = nn - 1 - s by omega]
      exact h5
set_option maxRecDepth 20000 in
set_option maxHeartbeats 4000000 in
theorem sym_gen (k m0 n cap : Nat) (f : Nat → E) (a m b mid nn lo hi : Nat) (w : World) (hn : n ≤ 1000000) (hH : HF w k m0 n f) (ham : a + 1 < m) (hmb : m + 1 < b) (hb : b ≤ n) (hT : Two a m b f) (hB : Bnd a m b mid nn lo hi) (IH : SymC k m0 n cap (b - a)) :
    Calls Tryz.prog 126 #[sl k n cap, .int .i64 a, .int .i64 m, .int .i64 b, cf] w (SymP k m0 n a b f w) := by
  have HH : Hid (HF w k m0 n f ∧ Two a m b f ∧ Bnd a m b mid nn lo hi ∧ SymC k m0 n cap (b - a)) := ⟨hH, hT, hB, IH⟩
  have hma : ((m : Int) - (a : Int) == 1) = false := by simp; omega
  have hbm : ((b : Int) - (m : Int) == 1) = false := by simp; omega
  obtain ⟨k1, k2, k3, k4, k5, k6⟩ := hB
  have hmid : ((a : Int) + (b : Int)) / 2 = (mid : Int) := by omega
  have hnn : (mid : Int) + (m : Int) = (nn : Int) := by omega
  have HF0 : Hid (mid < n ∧ nn < 2 * n ∧ m < n ∧ a < n ∧ lo ≤ hi ∧ hi ≤ m ∧ hi ≤ mid ∧ a ≤ lo ∧ m ≤ nn - hi ∧ nn - lo ≤ b ∧ mid < nn ∧ m < nn ∧ nn = mid + m) := ⟨by omega, by omega, by omega, by omega, by omega, by omega, by omega, by omega, by omega, by omega, by omega, by omega, by omega⟩
  have hfew : mid < n ∧ nn < 2 * n ∧ m < n ∧ a < n := by omega
  have hway : (∃ gt : Bool, decide ((m : Int) > (mid : Int)) = gt ∧ (gt = false → lo = a ∧ hi = m) ∧ (gt = true → (nn : Int) - (b : Int) = (lo : Int) ∧ hi = mid)) := by
    rcases k6 with ⟨x1, x2, x3⟩ | ⟨x1, x2, x3⟩
    · exact ⟨false, decide_eq_false (by omega), fun _ => ⟨x1, x2⟩, fun h => by cases h⟩
    · exact ⟨true, decide_eq_true (by omega), fun h => (by cases h), fun _ => ⟨by omega, x2⟩⟩
  clear hH hT IH k1 k2 k3 k4 k5 k6
  obtain ⟨gt, hgt, hf0', ht0'⟩ := hway
  have hf0 : Hid (gt = false → lo = a ∧ hi = m) := hf0'
  have ht0 : Hid (gt = true → (nn : Int) - (b : Int) = (lo : Int) ∧ hi = mid) := ht0'
  clear hf0' ht0'
  have hpp : (nn : Int) - 1 = ((nn - 1 : Nat) : Int) := by omega
  obtain ⟨pp, hpe⟩ : ∃ pp, nn - 1 = pp := ⟨_, rfl⟩
  rw [hpe] at hpp
  have HP : Hid (nn - 1 = pp) := hpe
  clear hpe
  cases gt
  case false =>
    obtain ⟨h1, h2⟩ := hf0.out rfl
    have h3 : (lo : Int) = (a : Int) := by omega
    have h4 : m ≤ mid := by simp at hgt; omega
    have h5 : ¬ (m : Int) > (mid : Int) := by omega
    have HL : Hid _ := h2
    have HL1 : Hid _ := h3
    clear h2 h3
    go_enter Tryz.func126, Tryz.ntmps126
    go_wp2_with fail
    go_loopw [20, 21] (fun sv rv wr => ∃ (s r : Nat), sv = .int .i64 s ∧ rv = .int .i64 r ∧ HF wr k m0 n f ∧ Mv k w wr ∧ Sea m nn lo hi s r f) (fun sv rv _ => (intOf rv).toNat - (intOf sv).toNat)
    case atStart =>
      have e1 := HL.out
      have e2 := HL1.out
      exact ⟨lo, hi, by first | rfl | (congr 1; omega), by congr 1; omega, HH.out.1, Mv.refl _ _, ⟨Nat.le_refl _, HF0.out.2.2.2.2.1, Nat.le_refl _, .inl rfl, .inl rfl⟩⟩
    case round =>
      obtain ⟨s, r, rfl, rfl, hh, hm, hs⟩ := hrel
      have hl := hs.l
      have hsr := hs.m
      have hrh := hs.h
      have HR : Hid (HF wr k m0 n f ∧ Mv k w wr ∧ Sea m nn lo hi s r f) := ⟨hh, hm, hs⟩
      have hF0 := HF0.out
      have hP := HP.out
      by_cases hlt : s < r
      · have hlt' : decide ((s : Int) < (r : Int)) = true := decide_eq_true (by omega)
        obtain ⟨c, hcc⟩ : ∃ c, (s + r) / 2 = c := ⟨_, rfl⟩
        have hci : ((s : Int) + (r : Int)) / 2 = (c : Int) := by omega
        obtain ⟨y, hy⟩ : ∃ y, pp - c = y := ⟨_, rfl⟩
        have hyy : (pp : Int) - (c : Int) = (y : Int) := by omega
        have hcn : c < n := by omega
        have hyn : y < n := by omega
        have HC : Hid (s ≤ c ∧ c < r ∧ nn - 1 - c = y ∧ nn - (c + 1) = y) := ⟨by omega, by omega, by omega, by omega⟩
        have hwc : IntKind.i64.wrap (c : Int) = (c : Int) := by rw [IntKind.wrap_i64]; omega
        have hwy : IntKind.i64.wrap (y : Int) = (y : Int) := by rw [IntKind.wrap_i64]; omega
        obtain ⟨c1, a1, e1, e2, q1, q2, z1, z2⟩ := hh.cells y hyn
        obtain ⟨c2, a2, e3, e4, q3, q4, z3, z4⟩ := hh.cells c hcn
        have hkr := hh.lt
        have HE : Hid ((f y).a = a1 ∧ (f c).a = a2) := ⟨e2, e4⟩
        clear hm hs e1 e2 e3 e4 z1 z2 z3 z4 hh hcc hy hF0 hP
        have hin : C4 k y c c1 a1 c2 a2 wr wr := ⟨q1, q2, q3, q4, Below.refl _ _⟩
        go_wp2_with fail
        go_region_held3 (fun w' => w'.cell? ⟨k, y * 2, none⟩ = some (.int .i64 c1) ∧ w'.cell? ⟨k, y * 2 + 1, none⟩ = some (.int .i64 a1) ∧ w'.cell? ⟨k, c * 2, none⟩ = some (.int .i64 c2) ∧ w'.cell? ⟨k, c * 2 + 1, none⟩ = some (.int .i64 a2) ∧ Below wr.heap.size wr w')
          (first | assumption | exact c4_keep (by assumption) hkr | go_keep)
          (first
            | (go_at_call 56; refine (cmp_any c1 a1 c2 a2 _).mono ?_; rintro e w' ⟨rfl, hbw⟩; have hkk := c4_step (by assumption) hbw hkr))
        have HW : Hid (HF w' k m0 n f ∧ Mv k w w') := ⟨HR.out.1.below hkk.2.2.2.2, HR.out.2.1.below hkk.2.2.2.2⟩
        clear hkk hin hbw hkr q1 q2 q3 q4
        rw [cmp_lt]
        by_cases hc : a1 < a2
        · rw [decide_eq_true hc]
          go_wp2_with fail
          obtain ⟨x1, x2, x3, x4⟩ := HC.out
          obtain ⟨y1, y2, y3, y4, y5⟩ := HR.out.2.2
          refine ⟨⟨s, c, rfl, rfl, HW.out.1, HW.out.2, ⟨y1, x1, by omega, y4, .inr ?_⟩⟩, by simp [intOf]; omega⟩
          rw [x3, HE.out.1, HE.out.2]
          exact hc
        · rw [decide_eq_false hc]
          go_wp2_with fail
          obtain ⟨x1, x2, x3, x4⟩ := HC.out
          obtain ⟨y1, y2, y3, y4, y5⟩ := HR.out.2.2
          refine ⟨⟨c + 1, r, by go_num, rfl, HW.out.1, HW.out.2, ⟨by omega, by omega, y3, .inr ?_, y5⟩⟩, by simp [intOf]; omega⟩
          rw [x4, show c + 1 - 1 = c from rfl, HE.out.1, HE.out.2]
          omega
      · have hlt' : decide ((s : Int) < (r : Int)) = false := decide_eq_false (by omega)
        obtain rfl : s = r := by omega
        obtain ⟨e, he⟩ : ∃ e, nn - s = e := ⟨_, rfl⟩
        have hee : (nn : Int) - (s : Int) = (e : Int) := by omega
        have cut0 := hs.cut HH.out.2.2.1
        rw [he] at cut0
        have HC : Hid (Cutt a m b mid s e f) := cut0
        have hT := HH.out.2.1
        have HLt : Hid (Two a s mid (rot f s m e) ∧ (s = a ∨ s = mid → Srt a mid (rot f s m e))) := left hT cut0
        have hsi : s ≤ mid ∧ mid ≤ e := by obtain ⟨k1, k2, k3, k4, k5, k6, k7⟩ := cut0; omega
        have hse : a ≤ s ∧ s ≤ m ∧ m ≤ e ∧ e ≤ b ∧ s < n ∧ e ≤ n := by obtain ⟨k1, k2, k3, k4, k5, k6, k7⟩ := cut0; omega
        have hrn := rot_none f s m e hse.2.1 hse.2.2.1
        have HRN : Hid (s = m ∨ e = m → rot f s m e = f) := hrn
        have HM : Hid (a < mid ∧ mid < b) := by have := HH.out.2.2.1.mid1; have := HH.out.2.2.1.mid2; exact ⟨by omega, by omega⟩
        clear hm hs hh cut0 he hT hrn hl hsr hrh hF0 hP
        have hsum := HC.out.sum
        have hMM := HM.out
        by_cases hA1 : s < m
        · have g1 : decide ((s : Int) < (m : Int)) = true := decide_eq_true (by omega)
          by_cases hA2 : m < e
          · have g2 : decide ((m : Int) < (e : Int)) = true := decide_eq_true (by omega)
            have hB2 : s < mid := by omega
            have hC1 : mid < e := by omega
            have g4 : decide ((s : Int) < (mid : Int)) = true := decide_eq_true (by omega)
            have g5 : decide ((mid : Int) < (e : Int)) = true := decide_eq_true (by omega)
            go_wp2_with fail
            refine (rot_any k m0 n cap f s m e wr hn HR.out.1 hA1 hA2 hse.2.2.2.2.2).mono ?_
            rintro e1 wx ⟨rfl, r1, r2⟩
            have HX : Hid (HF wx k m0 n (rot f s m e) ∧ Mv k w wx) := ⟨r1, HR.out.2.1.trans r2⟩
            clear r1 r2
            by_cases hB1 : a < s
            · have g3 : decide ((a : Int) < (s : Int)) = true := decide_eq_true (by omega)
              go_wp2_with fail
              refine (HH.out.2.2.2 a s mid (rot f s m e) wx (by have := HM.out; omega) hB1 hB2 (by omega) HX.out.1 HLt.out.1).mono ?_
              rintro e1 wy ⟨rfl, g1, r1, r2, r3, r4⟩
              have HRt : Hid (Two mid e b g1 ∧ (mid = e ∨ e = b → Srt mid b g1)) := right HH.out.2.1 HC.out (fun p hp => r3.out p (.inr hp))
              have HY : Hid (HF wy k m0 n g1 ∧ Mv k w wy ∧ Re a mid (rot f s m e) g1 ∧ Srt a mid g1) := ⟨r1, HX.out.2.trans r2, r3, r4⟩
              clear r1 r2 r3 r4
              by_cases hC2 : e < b
              · have g6 : decide ((e : Int) < (b : Int)) = true := decide_eq_true (by omega)
                go_wp2_with fail
                refine (HH.out.2.2.2 mid e b g1 wy (by have := HM.out; omega) hC1 hC2 hb HY.out.1 HRt.out.1).mono ?_
                rintro e1 wz ⟨rfl, g2, r1, r2, r3, r4⟩
                have HZ : Hid (HF wz k m0 n g2 ∧ Mv k w wz ∧ Re mid b g1 g2 ∧ Srt mid b g2) := ⟨r1, HY.out.2.1.trans r2, r3, r4⟩
                clear r1 r2 r3 r4
                go_wp2_with fail
                have ww := whole HH.out.2.1 HC.out HY.out.2.2.1 HY.out.2.2.2 HZ.out.2.2.1 HZ.out.2.2.2
                exact bodyPost_end (results_none rfl _ _ _) rfl ⟨rfl, g2, HZ.out.1, HZ.out.2.1, ww.1, ww.2⟩
              · have g6 : decide ((e : Int) < (b : Int)) = false := decide_eq_false (by omega)
                go_wp2_with fail
                have ww := whole HH.out.2.1 HC.out HY.out.2.2.1 HY.out.2.2.2 (Re.refl _ _ _) (HRt.out.2 (.inr (by omega)))
                exact bodyPost_end (results_none rfl _ _ _) rfl ⟨rfl, g1, HY.out.1, HY.out.2.1, ww.1, ww.2⟩
            · have g3 : decide ((a : Int) < (s : Int)) = false := decide_eq_false (by omega)
              obtain ⟨g1, hg1⟩ : ∃ g1, g1 = rot f s m e := ⟨_, rfl⟩
              have HRt : Hid (Two mid e b g1 ∧ (mid = e ∨ e = b → Srt mid b g1)) := right HH.out.2.1 HC.out (fun p hp => by rw [hg1])
              have HY : Hid (HF wx k m0 n g1 ∧ Mv k w wx ∧ Re a mid (rot f s m e) g1 ∧ Srt a mid g1) := by
                rw [hg1]
                exact ⟨HX.out.1, HX.out.2, Re.refl _ _ _, HLt.out.2 (.inl (by omega))⟩
              clear hg1
              by_cases hC2 : e < b
              · have g6 : decide ((e : Int) < (b : Int)) = true := decide_eq_true (by omega)
                go_wp2_with fail
                refine (HH.out.2.2.2 mid e b g1 wx (by have := HM.out; omega) hC1 hC2 hb HY.out.1 HRt.out.1).mono ?_
                rintro e1 wz ⟨rfl, g2, r1, r2, r3, r4⟩
                have HZ : Hid (HF wz k m0 n g2 ∧ Mv k w wz ∧ Re mid b g1 g2 ∧ Srt mid b g2) := ⟨r1, HY.out.2.1.trans r2, r3, r4⟩
                clear r1 r2 r3 r4
                go_wp2_with fail
                have ww := whole HH.out.2.1 HC.out HY.out.2.2.1 HY.out.2.2.2 HZ.out.2.2.1 HZ.out.2.2.2
                exact bodyPost_end (results_none rfl _ _ _) rfl ⟨rfl, g2, HZ.out.1, HZ.out.2.1, ww.1, ww.2⟩
              · have g6 : decide ((e : Int) < (b : Int)) = false := decide_eq_false (by omega)
                go_wp2_with fail
                have ww := whole HH.out.2.1 HC.out HY.out.2.2.1 HY.out.2.2.2 (Re.refl _ _ _) (HRt.out.2 (.inr (by omega)))
                exact bodyPost_end (results_none rfl _ _ _) rfl ⟨rfl, g1, HY.out.1, HY.out.2.1, ww.1, ww.2⟩
          · exfalso
            omega
        · have g1 : decide ((s : Int) < (m : Int)) = false := decide_eq_false (by omega)
          have hB1 : a < s := by omega
          have g3 : decide ((a : Int) < (s : Int)) = true := decide_eq_true (by omega)
          have g5 : decide ((mid : Int) < (e : Int)) = false := decide_eq_false (by omega)
          have HX : Hid (HF wr k m0 n (rot f s m e) ∧ Mv k w wr) := ⟨by rw [HRN.out (.inl (by omega))]; exact HR.out.1, HR.out.2.1⟩
          by_cases hB2 : s < mid
          · have g4 : decide ((s : Int) < (mid : Int)) = true := decide_eq_true (by omega)
            go_wp2_with fail
            refine (HH.out.2.2.2 a s mid (rot f s m e) wr (by have := HM.out; omega) hB1 hB2 (by omega) HX.out.1 HLt.out.1).mono ?_
            rintro e1 wy ⟨rfl, g1, r1, r2, r3, r4⟩
            have HRt : Hid (Two mid e b g1 ∧ (mid = e ∨ e = b → Srt mid b g1)) := right HH.out.2.1 HC.out (fun p hp => r3.out p (.inr hp))
            have HY : Hid (HF wy k m0 n g1 ∧ Mv k w wy ∧ Re a mid (rot f s m e) g1 ∧ Srt a mid g1) := ⟨r1, HX.out.2.trans r2, r3, r4⟩
            clear r1 r2 r3 r4
            go_wp2_with fail
            have ww := whole HH.out.2.1 HC.out HY.out.2.2.1 HY.out.2.2.2 (Re.refl _ _ _) (HRt.out.2 (.inl (by omega)))
            exact bodyPost_end (results_none rfl _ _ _) rfl ⟨rfl, g1, HY.out.1, HY.out.2.1, ww.1, ww.2⟩
          · have g4 : decide ((s : Int) < (mid : Int)) = false := decide_eq_false (by omega)
            obtain ⟨g1, hg1⟩ : ∃ g1, g1 = rot f s m e := ⟨_, rfl⟩
            have HRt : Hid (Two mid e b g1 ∧ (mid = e ∨ e = b → Srt mid b g1)) := right HH.out.2.1 HC.out (fun p hp => by rw [hg1])
            have HY : Hid (HF wr k m0 n g1 ∧ Mv k w wr ∧ Re a mid (rot f s m e) g1 ∧ Srt a mid g1) := by
              rw [hg1]
              exact ⟨HX.out.1, HX.out.2, Re.refl _ _ _, HLt.out.2 (.inr (by omega))⟩
            clear hg1
            go_wp2_with fail
            have ww := whole HH.out.2.1 HC.out HY.out.2.2.1 HY.out.2.2.2 (Re.refl _ _ _) (HRt.out.2 (.inl (by omega)))
            exact bodyPost_end (results_none rfl _ _ _) rfl ⟨rfl, g1, HY.out.1, HY.out.2.1, ww.1, ww.2⟩
  case true =>
    obtain ⟨h1, h2⟩ := ht0.out rfl
    have h3 : (0 : Int) = 0 := by omega
    have h4 : mid < m := by simp at hgt; omega
    have h5 : (m : Int) > (mid : Int) := by omega
    have HL : Hid _ := h2
    have HL1 : Hid _ := h3
    clear h2 h3
    go_enter Tryz.func126, Tryz.ntmps126
    go_wp2_with fail
    go_loopw [20, 21] (fun sv rv wr => ∃ (s r : Nat), sv = .int .i64 s ∧ rv = .int .i64 r ∧ HF wr k m0 n f ∧ Mv k w wr ∧ Sea m nn lo hi s r f) (fun sv rv _ => (intOf rv).toNat - (intOf sv).toNat)
    case atStart =>
      have e1 := HL.out
      have e2 := HL1.out
      exact ⟨lo, hi, by first | rfl | (congr 1; omega), by congr 1; omega, HH.out.1, Mv.refl _ _, ⟨Nat.le_refl _, HF0.out.2.2.2.2.1, Nat.le_refl _, .inl rfl, .inl rfl⟩⟩
    case round =>
      obtain ⟨s, r, rfl, rfl, hh, hm, hs⟩ := hrel
      have hl := hs.l
      have hsr := hs.m
      have hrh := hs.h
      have HR : Hid (HF wr k m0 n f ∧ Mv k w wr ∧ Sea m nn lo hi s r f) := ⟨hh, hm, hs⟩
      have hF0 := HF0.out
      have hP := HP.out
      by_cases hlt : s < r
      · have hlt' : decide ((s : Int) < (r : Int)) = true := decide_eq_true (by omega)
        obtain ⟨c, hcc⟩ : ∃ c, (s + r) / 2 = c := ⟨_, rfl⟩
        have hci : ((s : Int) + (r : Int)) / 2 = (c : Int) := by omega
        obtain ⟨y, hy⟩ : ∃ y, pp - c = y := ⟨_, rfl⟩
        have hyy : (pp : Int) - (c : Int) = (y : Int) := by omega
        have hcn : c < n := by omega
        have hyn : y < n := by omega
        have HC : Hid (s ≤ c ∧ c < r ∧ nn - 1 - c = y ∧ nn - (c + 1) = y) := ⟨by omega, by omega, by omega, by omega⟩
        have hwc : IntKind.i64.wrap (c : Int) = (c : Int) := by rw [IntKind.wrap_i64]; omega
        have hwy : IntKind.i64.wrap (y : Int) = (y : Int) := by rw [IntKind.wrap_i64]; omega
        obtain ⟨c1, a1, e1, e2, q1, q2, z1, z2⟩ := hh.cells y hyn
        obtain ⟨c2, a2, e3, e4, q3, q4, z3, z4⟩ := hh.cells c hcn
        have hkr := hh.lt
        have HE : Hid ((f y).a = a1 ∧ (f c).a = a2) := ⟨e2, e4⟩
        clear hm hs e1 e2 e3 e4 z1 z2 z3 z4 hh hcc hy hF0 hP
        have hin : C4 k y c c1 a1 c2 a2 wr wr := ⟨q1, q2, q3, q4, Below.refl _ _⟩
        go_wp2_with fail
        go_region_held3 (fun w' => w'.cell? ⟨k, y * 2, none⟩ = some (.int .i64 c1) ∧ w'.cell? ⟨k, y * 2 + 1, none⟩ = some (.int .i64 a1) ∧ w'.cell? ⟨k, c * 2, none⟩ = some (.int .i64 c2) ∧ w'.cell? ⟨k, c * 2 + 1, none⟩ = some (.int .i64 a2) ∧ Below wr.heap.size wr w')
          (first | assumption | exact c4_keep (by assumption) hkr | go_keep)
          (first
            | (go_at_call 56; refine (cmp_any c1 a1 c2 a2 _).mono ?_; rintro e w' ⟨rfl, hbw⟩; have hkk := c4_step (by assumption) hbw hkr))
        have HW : Hid (HF w' k m0 n f ∧ Mv k w w') := ⟨HR.out.1.below hkk.2.2.2.2, HR.out.2.1.below hkk.2.2.2.2⟩
        clear hkk hin hbw hkr q1 q2 q3 q4
        rw [cmp_lt]
        by_cases hc : a1 < a2
        · rw [decide_eq_true hc]
          go_wp2_with fail
          obtain ⟨x1, x2, x3, x4⟩ := HC.out
          obtain ⟨y1, y2, y3, y4, y5⟩ := HR.out.2.2
          refine ⟨⟨s, c, rfl, rfl, HW.out.1, HW.out.2, ⟨y1, x1, by omega, y4, .inr ?_⟩⟩, by simp [intOf]; omega⟩
          rw [x3, HE.out.1, HE.out.2]
          exact hc
        · rw [decide_eq_false hc]
          go_wp2_with fail
          obtain ⟨x1, x2, x3, x4⟩ := HC.out
          obtain ⟨y1, y2, y3, y4, y5⟩ := HR.out.2.2
          refine ⟨⟨c + 1, r, by go_num, rfl, HW.out.1, HW.out.2, ⟨by omega, by omega, y3, .inr ?_, y5⟩⟩, by simp [intOf]; omega⟩
          rw [x4, show c + 1 - 1 = c from rfl, HE.out.1, HE.out.2]
          omega
      · have hlt' : decide ((s : Int) < (r : Int)) = false := decide_eq_false (by omega)
        obtain rfl : s = r := by omega
        obtain ⟨e, he⟩ : ∃ e, nn - s = e := ⟨_, rfl⟩
        have hee : (nn : Int) - (s : Int) = (e : Int) := by omega
        have cut0 := hs.cut HH.out.2.2.1
        rw [he] at cut0
        have HC : Hid (Cutt a m b mid s e f) := cut0
        have hT := HH.out.2.1
        have HLt : Hid (Two a s mid (rot f s m e) ∧ (s = a ∨ s = mid → Srt a mid (rot f s m e))) := left hT cut0
        have hsi : s ≤ mid ∧ mid ≤ e := by obtain ⟨k1, k2, k3, k4, k5, k6, k7⟩ := cut0; omega
        have hse : a ≤ s ∧ s ≤ m ∧ m ≤ e ∧ e ≤ b ∧ s < n ∧ e ≤ n := by obtain ⟨k1, k2, k3, k4, k5, k6, k7⟩ := cut0; omega
        have hrn := rot_none f s m e hse.2.1 hse.2.2.1
        have HRN : Hid (s = m ∨ e = m → rot f s m e = f) := hrn
        have HM : Hid (a < mid ∧ mid < b) := by have := HH.out.2.2.1.mid1; have := HH.out.2.2.1.mid2; exact ⟨by omega, by omega⟩
        clear hm hs hh cut0 he hT hrn hl hsr hrh hF0 hP
        have hsum := HC.out.sum
        have hMM := HM.out
        by_cases hA1 : s < m
        · have g1 : decide ((s : Int) < (m : Int)) = true := decide_eq_true (by omega)
          by_cases hA2 : m < e
          · have g2 : decide ((m : Int) < (e : Int)) = true := decide_eq_true (by omega)
            have hB2 : s < mid := by omega
            have hC1 : mid < e := by omega
            have g4 : decide ((s : Int) < (mid : Int)) = true := decide_eq_true (by omega)
            have g5 : decide ((mid : Int) < (e : Int)) = true := decide_eq_true (by omega)
            go_wp2_with fail
            refine (rot_any k m0 n cap f s m e wr hn HR.out.1 hA1 hA2 hse.2.2.2.2.2).mono ?_
            rintro e1 wx ⟨rfl, r1, r2⟩
            have HX : Hid (HF wx k m0 n (rot f s m e) ∧ Mv k w wx) := ⟨r1, HR.out.2.1.trans r2⟩
            clear r1 r2
            by_cases hB1 : a < s
            · have g3 : decide ((a : Int) < (s : Int)) = true := decide_eq_true (by omega)
              go_wp2_with fail
              refine (HH.out.2.2.2 a s mid (rot f s m e) wx (by have := HM.out; omega) hB1 hB2 (by omega) HX.out.1 HLt.out.1).mono ?_
              rintro e1 wy ⟨rfl, g1, r1, r2, r3, r4⟩
              have HRt : Hid (Two mid e b g1 ∧ (mid = e ∨ e = b → Srt mid b g1)) := right HH.out.2.1 HC.out (fun p hp => r3.out p (.inr hp))
              have HY : Hid (HF wy k m0 n g1 ∧ Mv k w wy ∧ Re a mid (rot f s m e) g1 ∧ Srt a mid g1) := ⟨r1, HX.out.2.trans r2, r3, r4⟩
              clear r1 r2 r3 r4
              by_cases hC2 : e < b
              · have g6 : decide ((e : Int) < (b : Int)) = true := decide_eq_true (by omega)
                go_wp2_with fail
                refine (HH.out.2.2.2 mid e b g1 wy (by have := HM.out; omega) hC1 hC2 hb HY.out.1 HRt.out.1).mono ?_
                rintro e1 wz ⟨rfl, g2, r1, r2, r3, r4⟩
                have HZ : Hid (HF wz k m0 n g2 ∧ Mv k w wz ∧ Re mid b g1 g2 ∧ Srt mid b g2) := ⟨r1, HY.out.2.1.trans r2, r3, r4⟩
                clear r1 r2 r3 r4
                go_wp2_with fail
                have ww := whole HH.out.2.1 HC.out HY.out.2.2.1 HY.out.2.2.2 HZ.out.2.2.1 HZ.out.2.2.2
                exact bodyPost_end (results_none rfl _ _ _) rfl ⟨rfl, g2, HZ.out.1, HZ.out.2.1, ww.1, ww.2⟩
              · have g6 : decide ((e : Int) < (b : Int)) = false := decide_eq_false (by omega)
                go_wp2_with fail
                have ww := whole HH.out.2.1 HC.out HY.out.2.2.1 HY.out.2.2.2 (Re.refl _ _ _) (HRt.out.2 (.inr (by omega)))
                exact bodyPost_end (results_none rfl _ _ _) rfl ⟨rfl, g1, HY.out.1, HY.out.2.1, ww.1, ww.2⟩
            · have g3 : decide ((a : Int) < (s : Int)) = false := decide_eq_false (by omega)
              obtain ⟨g1, hg1⟩ : ∃ g1, g1 = rot f s m e := ⟨_, rfl⟩
              have HRt : Hid (Two mid e b g1 ∧ (mid = e ∨ e = b → Srt mid b g1)) := right HH.out.2.1 HC.out (fun p hp => by rw [hg1])
              have HY : Hid (HF wx k m0 n g1 ∧ Mv k w wx ∧ Re a mid (rot f s m e) g1 ∧ Srt a mid g1) := by
                rw [hg1]
                exact ⟨HX.out.1, HX.out.2, Re.refl _ _ _, HLt.out.2 (.inl (by omega))⟩
              clear hg1
              by_cases hC2 : e < b
              · have g6 : decide ((e : Int) < (b : Int)) = true := decide_eq_true (by omega)
                go_wp2_with fail
                refine (HH.out.2.2.2 mid e b g1 wx (by have := HM.out; omega) hC1 hC2 hb HY.out.1 HRt.out.1).mono ?_
                rintro e1 wz ⟨rfl, g2, r1, r2, r3, r4⟩
                have HZ : Hid (HF wz k m0 n g2 ∧ Mv k w wz ∧ Re mid b g1 g2 ∧ Srt mid b g2) := ⟨r1, HY.out.2.1.trans r2, r3, r4⟩
                clear r1 r2 r3 r4
                go_wp2_with fail
                have ww := whole HH.out.2.1 HC.out HY.out.2.2.1 HY.out.2.2.2 HZ.out.2.2.1 HZ.out.2.2.2
                exact bodyPost_end (results_none rfl _ _ _) rfl ⟨rfl, g2, HZ.out.1, HZ.out.2.1, ww.1, ww.2⟩
              · have g6 : decide ((e : Int) < (b : Int)) = false := decide_eq_false (by omega)
                go_wp2_with fail
                have ww := whole HH.out.2.1 HC.out HY.out.2.2.1 HY.out.2.2.2 (Re.refl _ _ _) (HRt.out.2 (.inr (by omega)))
                exact bodyPost_end (results_none rfl _ _ _) rfl ⟨rfl, g1, HY.out.1, HY.out.2.1, ww.1, ww.2⟩
          · have g2 : decide ((m : Int) < (e : Int)) = false := decide_eq_false (by omega)
            have hB1 : a < s := by omega
            have hC1 : mid < e := by omega
            have hC2 : e < b := by omega
            have g3 : decide ((a : Int) < (s : Int)) = true := decide_eq_true (by omega)
            have g4 : decide ((s : Int) < (mid : Int)) = false := decide_eq_false (by omega)
            have g5 : decide ((mid : Int) < (e : Int)) = true := decide_eq_true (by omega)
            have g6 : decide ((e : Int) < (b : Int)) = true := decide_eq_true (by omega)
            have HX : Hid (HF wr k m0 n (rot f s m e) ∧ Mv k w wr) := ⟨by rw [HRN.out (.inr (by omega))]; exact HR.out.1, HR.out.2.1⟩
            obtain ⟨g1, hg1⟩ : ∃ g1, g1 = rot f s m e := ⟨_, rfl⟩
            have HRt : Hid (Two mid e b g1 ∧ (mid = e ∨ e = b → Srt mid b g1)) := right HH.out.2.1 HC.out (fun p hp => by rw [hg1])
            have HY : Hid (HF wr k m0 n g1 ∧ Mv k w wr ∧ Re a mid (rot f s m e) g1 ∧ Srt a mid g1) := by
              rw [hg1]
              exact ⟨HX.out.1, HX.out.2, Re.refl _ _ _, HLt.out.2 (.inr (by omega))⟩
            clear hg1
            go_wp2_with fail
            refine (HH.out.2.2.2 mid e b g1 wr (by have := HM.out; omega) hC1 hC2 hb HY.out.1 HRt.out.1).mono ?_
            rintro e1 wz ⟨rfl, g2, r1, r2, r3, r4⟩
            have HZ : Hid (HF wz k m0 n g2 ∧ Mv k w wz ∧ Re mid b g1 g2 ∧ Srt mid b g2) := ⟨r1, HY.out.2.1.trans r2, r3, r4⟩
            clear r1 r2 r3 r4
            go_wp2_with fail
            have ww := whole HH.out.2.1 HC.out HY.out.2.2.1 HY.out.2.2.2 HZ.out.2.2.1 HZ.out.2.2.2
            exact bodyPost_end (results_none rfl _ _ _) rfl ⟨rfl, g2, HZ.out.1, HZ.out.2.1, ww.1, ww.2⟩
        · exfalso
          omega
end Go.Proofs.YtdiealijjhfhjaaGreatDoor.So
