/- Check: the program's. -/
import Derived.Test.YtkbakbacomidbaaYs
namespace Go.Proofs.Ytkbakbacomidbaa.Sp
open Go.RowKit
def chk : List Pc → Int → Int → Int → Bool
  | [], a, _, n => decide (a = max n 0)
  | p :: L, a, s, n => if p.f ≠ a ∨ p.f ≥ p.t ∨ p.c < 1 ∨ p.c > 5 ∨ (s = 1 ∧ p.c = 1) then false else chk L p.t p.c n
def checkP (L : List Pc) (n : Int) : Bool := chk L 0 0 n
theorem chk_no {p : Pc} {L : List Pc} {a s n : Int} (h : p.f ≠ a ∨ p.f ≥ p.t ∨ p.c < 1 ∨ p.c > 5 ∨ (s = 1 ∧ p.c = 1)) : chk (p :: L) a s n = false := by rw [chk, if_pos h]
theorem chk_go {p : Pc} {L : List Pc} {a s n : Int} (h : ¬ (p.f ≠ a ∨ p.f ≥ p.t ∨ p.c < 1 ∨ p.c > 5 ∨ (s = 1 ∧ p.c = 1))) : chk (p :: L) a s n = chk L p.t p.c n := by rw [chk, if_neg h]
/-- A part in a block of its own. -/
def Box (w : World) (g : Nat) (f t c : Int) : Prop := w.heap[g]? = some (.cells #[.int .i64 f, .int .i64 t, .int .i64 c] 42 (0, 0))
theorem Box.cells {w : World} {g : Nat} {f t c : Int} (h : Box w g f t c) : w.cell? ⟨g, 0, none⟩ = some (.int .i64 f) ∧ w.cell? ⟨g, 1, none⟩ = some (.int .i64 t) ∧ w.cell? ⟨g, 2, none⟩ = some (.int .i64 c) ∧ w.frozen? ⟨g, 0, none⟩ = false ∧ w.frozen? ⟨g, 1, none⟩ = false ∧ w.frozen? ⟨g, 2, none⟩ = false := by
  unfold Box at h
  refine ⟨?_, ?_, ?_, ?_, ?_, ?_⟩ <;> simp [World.cell?, World.frozen?, h]
theorem Box.lt {w : World} {g : Nat} {f t c : Int} (h : Box w g f t c) : g < w.heap.size := (Array.getElem?_eq_some_iff.1 h).1
theorem Box.below {w w' : World} {g : Nat} {f t c : Int} (h : Box w g f t c) (b : Below w.heap.size w w') : Box w' g f t c := (b.block g h.lt).trans h
theorem Box.put {w : World} {g : Nat} {f t c : Int} (h : Box w g f t c) (f' t' c' : Int) : Box (((w.setCell ⟨g, 0, none⟩ (.int .i64 f')).setCell ⟨g, 1, none⟩ (.int .i64 t')).setCell ⟨g, 2, none⟩ (.int .i64 c')) g f' t' c' := by
  unfold Box at h ⊢
  have h1 := heap_setCell_same w g 0 _ _ (.int .i64 f') h
  have h2 := heap_setCell_same _ g 1 _ _ (.int .i64 t') h1
  have h3 := heap_setCell_same _ g 2 _ _ (.int .i64 c') h2
  exact h3
set_option maxHeartbeats 4000000 in
set_option maxRecDepth 20000 in
theorem check_any {w : World} {ao : Option Addr} {L : List Pc} (n c : Nat) (h : PcRow w ao L) (hn : L.length = n) (hn2 : n ≤ 9223372036854775807) (N : Int) :
    Calls Try.prog 11 #[.slice ao n c, .int .i64 N] w fun e w' => e = .returned (.bool (checkP L N)) ∧ Below w.heap.size w w' := by
  obtain ⟨g, hg0⟩ : ∃ g, checkP L N = g := ⟨_, rfl⟩
  rw [hg0]
  have HA : Hid (PcRow w ao L ∧ L.length = n ∧ chk (L.drop 0) 0 0 N = g) := ⟨h, hn, hg0⟩
  clear h hn hg0
  have hb0 : Box (w.alloc (.cells #[.int .i64 0, .int .i64 0, .int .i64 0] 42)) w.heap.size 0 0 0 := heap_alloc_new w _
  have HB0 : Hid (Box (w.alloc (.cells #[.int .i64 0, .int .i64 0, .int .i64 0] 42)) w.heap.size 0 0 0 ∧ Below w.heap.size w (w.alloc (.cells #[.int .i64 0, .int .i64 0, .int .i64 0] 42))) := ⟨hb0, (Below.refl _ _).alloc (Nat.le_refl _) _⟩
  clear hb0
  go_enter Try.func11, Try.ntmps11
  go_wp2_with fail
  go_loopg [10] n (fun g2 iv wr => ∃ (i : Nat) (lf lt lc : Int), iv = .int .i64 i ∧ i + g2 = n ∧ chk (L.drop i) lt lc N = g ∧ Box wr w.heap.size lf lt lc ∧ Below w.heap.size w wr)
  case atStart => exact ⟨0, 0, 0, 0, rfl, by omega, HA.out.2.2, HB0.out.1, HB0.out.2⟩
  case round =>
    obtain ⟨i, lf, lt, lc, rfl, hig, hgi, hbx, hbe⟩ := hrel
    have HG : Hid (chk (L.drop i) lt lc N = g ∧ Box wr w.heap.size lf lt lc ∧ Below w.heap.size w wr) := ⟨hgi, hbx, hbe⟩
    obtain ⟨l0, l1, l2, z0, z1, z2⟩ := hbx.cells
    have hgs := hbx.lt
    clear hgi hbe hbx
    cases gk with
    | zero =>
      obtain rfl : i = n := by omega
      have hg0 : decide ((i : Int) < (i : Int)) = false := decide_eq_false (by omega)
      have e : g = (lt == max N 0) := by
        have h := HG.out.1
        rw [List.drop_of_length_le (by rw [HA.out.2.1]; exact Nat.le_refl _)] at h
        rw [← h, chk, Bool.eq_iff_iff]
        simp
      have HE : Hid (g = (lt == max N 0)) := e
      clear e
      go_wp2_with fail
      case inl h =>
        go_ret
        refine ⟨?_, HG.out.2.2⟩
        rw [HE.out, Int.max_eq_right (by omega)]
        rfl
      case inr h =>
        go_ret
        refine ⟨?_, HG.out.2.2⟩
        rw [HE.out, Int.max_eq_left h]
        rfl
    | succ k =>
      have hin : i < n := by omega
      obtain ⟨x, hx⟩ : ∃ x, L[i]? = some x := ⟨_, List.getElem?_eq_getElem (by rw [HA.out.2.1]; exact hin)⟩
      obtain ⟨b1, o1, rfl, hb1, c0, c1, c2⟩ := (HA.out.1.below HG.out.2.2) i x hx
      have HD : Hid (L.drop i = x :: L.drop (i + 1)) := drop_at hx
      clear hx
      obtain ⟨xf, xt, xc⟩ := x
      simp only at c0 c1 c2 HD
      have hlt : decide ((i : Int) < (n : Int)) = true := decide_eq_true (by omega)
      have hin2 : (i : Int) < (n : Int) := by omega
      obtain ⟨W, hW⟩ : ∃ W, wr.alloc (.cells #[.int .i64 xf, .int .i64 xt, .int .i64 xc] 42) = W := ⟨_, rfl⟩
      have bW : Below wr.heap.size wr W := by rw [← hW]; exact (Below.refl _ _).alloc (Nat.le_refl _) _
      have xW : Box W wr.heap.size xf xt xc := by rw [← hW]; exact heap_alloc_new wr _
      have HW : Hid (wr.alloc (.cells #[.int .i64 xf, .int .i64 xt, .int .i64 xc] 42) = W ∧ Below wr.heap.size wr W ∧ Box W wr.heap.size xf xt xc) := ⟨hW, bW, xW⟩
      obtain ⟨y0, y1, y2, _, _, _⟩ := xW.cells
      obtain ⟨m0, m1, m2, v0, v1, v2⟩ := (HG.out.2.1.below bW).cells
      have HF : Hid (Below w.heap.size w W) := HG.out.2.2.trans (bW.mono HG.out.2.2.size)
      clear hW bW xW l0 l1 l2 z0 z1 z2
      by_cases h1 : xf = lt
      · by_cases h2 : xf ≥ xt
        · have hd1 : (xf != lt) = false := by simp [h1]
          have hd2 : decide (xf ≥ xt) = true := decide_eq_true h2
          have e : g = false := by rw [← HG.out.1, HD.out]; exact chk_no (.inr (.inl h2))
          subst e
          clear h1 h2
          go_upto_region 5 with fail
          rw [HW.out.1]
          go_wp2_with fail
          go_ret
          exact ⟨rfl, HF.out⟩
        · have hd1 : (xf != lt) = false := by simp [h1]
          have hd2 : decide (xf ≥ xt) = false := decide_eq_false h2
          by_cases h3 : xc < 1
          · have hd3 : decide (xc < 1) = true := decide_eq_true h3
            have e : g = false := by rw [← HG.out.1, HD.out]; exact chk_no (.inr (.inr (.inl h3)))
            subst e
            clear h1 h2 h3
            go_upto_region 5 with fail
            rw [HW.out.1]
            go_wp2_with fail
            go_ret
            exact ⟨rfl, HF.out⟩
          · have hd3 : decide (xc < 1) = false := decide_eq_false h3
            by_cases h4 : xc > 5
            · have hd4 : decide (xc > 5) = true := decide_eq_true h4
              have e : g = false := by rw [← HG.out.1, HD.out]; exact chk_no (.inr (.inr (.inr (.inl h4))))
              subst e
              clear h1 h2 h3 h4
              go_upto_region 5 with fail
              rw [HW.out.1]
              go_wp2_with fail
              go_ret
              exact ⟨rfl, HF.out⟩
            · have hd4 : decide (xc > 5) = false := decide_eq_false h4
              have k23 := both_any ⟨lf, lt, lc⟩ ⟨xf, xt, xc⟩ W
              simp only [Pc.val, Pc.arr] at k23
              by_cases h5 : lc = 1 ∧ xc = 1
              · have e : g = false := by rw [← HG.out.1, HD.out]; exact chk_no (.inr (.inr (.inr (.inr h5))))
                subst e
                obtain ⟨rfl, rfl⟩ := h5
                clear h1 h2 h3 h4
                go_upto_region 5 with fail
                rw [HW.out.1]
                go_wp2_with (go_at_call 23; refine k23.mono ?_; rintro e w1 ⟨rfl, b1⟩)
                go_ret
                exact ⟨rfl, HF.out.trans (b1.mono HF.out.size)⟩
              · have HN : Hid (chk (L.drop (i + 1)) xt xc N = g) := by
                  rw [← HG.out.1, HD.out, chk_go (by rintro (h | h | h | h | h); exact h h1; exact h2 h; exact h3 h; exact h4 h; exact h5 h)]
                  exact rfl
                have hk : (lc == 1 && xc == 1) = false := by
                  cases e : (lc == 1 && xc == 1) with
                  | false => rfl
                  | true => exact absurd (by simpa using e) h5
                rw [hk] at k23
                clear h1 h2 h3 h4 h5 hk
                go_upto_region 5 with fail
                rw [HW.out.1]
                go_wp2_with (go_at_call 23; refine k23.mono ?_; rintro e w1 ⟨rfl, b1⟩; obtain ⟨q0, q1, q2, _, _, _⟩ := (HW.out.2.2.below b1).cells; obtain ⟨_, _, _, p3, p4, p5⟩ := ((HG.out.2.1.below HW.out.2.1).below b1).cells; clear y0 y1 y2 m0 m1 m2 v0 v1 v2)
                go_roundg k
                case measure => omega
                case rel => exact ⟨i + 1, xf, xt, xc, by go_num, by omega, HN.out, ((HG.out.2.1.below HW.out.2.1).below b1).put xf xt xc, (((HF.out.trans (b1.mono HF.out.size)).setCell (Nat.le_refl _) _).setCell (Nat.le_refl _) _).setCell (Nat.le_refl _) _⟩
      · have hd1 : (xf != lt) = true := by simp [h1]
        have e : g = false := by rw [← HG.out.1, HD.out]; exact chk_no (.inl h1)
        subst e
        clear h1
        go_upto_region 5 with fail
        rw [HW.out.1]
        go_wp2_with fail
        go_ret
        exact ⟨rfl, HF.out⟩
end Go.Proofs.Ytkbakbacomidbaa.Sp
namespace Go.Proofs.Ytkbakbacomidbaa.Sp
open Go.RowKit
set_option maxHeartbeats 4000000 in
set_option maxRecDepth 20000 in
theorem rcheck_any {w : World} {ao : Option Addr} {L : List Pc} (n c : Nat) (h : PcRow w ao L) (hn : L.length = n) (hn2 : n ≤ 9223372036854775807) (N : Int) :
    Calls Try.prog 12 #[.slice ao n c, .int .i64 N] w fun e w' => e = .returned (.bool (checkP L N)) ∧ Below w.heap.size w w' := by
  obtain ⟨g, hg0⟩ : ∃ g, checkP L N = g := ⟨_, rfl⟩
  rw [hg0]
  have HA : Hid (PcRow w ao L ∧ L.length = n ∧ chk (L.drop 0) 0 0 N = g) := ⟨h, hn, hg0⟩
  clear h hn hg0
  go_enter Try.func12, Try.ntmps12
  go_wp2_with fail
  go_loopg [5, 6, 7] n (fun g2 av sv iv wr => ∃ (i : Nat) (lt lc : Int), av = .int .i64 lt ∧ sv = .int .i64 lc ∧ iv = .int .i64 i ∧ i + g2 = n ∧ chk (L.drop i) lt lc N = g ∧ Below w.heap.size w wr)
  case atStart => exact ⟨0, 0, 0, rfl, rfl, rfl, by omega, HA.out.2.2, Below.refl _ _⟩
  case round =>
    obtain ⟨i, lt, lc, rfl, rfl, rfl, hig, hgi, hbe⟩ := hrel
    have HG : Hid (chk (L.drop i) lt lc N = g ∧ Below w.heap.size w wr) := ⟨hgi, hbe⟩
    clear hgi hbe
    cases gk with
    | zero =>
      obtain rfl : i = n := by omega
      have hg0 : decide ((i : Int) < (i : Int)) = false := decide_eq_false (by omega)
      have e : g = (lt == max N 0) := by
        have h := HG.out.1
        rw [List.drop_of_length_le (by rw [HA.out.2.1]; exact Nat.le_refl _)] at h
        rw [← h, chk, Bool.eq_iff_iff]
        simp
      have HE : Hid (g = (lt == max N 0)) := e
      clear e
      go_wp2_with fail
      case inl h =>
        go_ret
        refine ⟨?_, HG.out.2⟩
        rw [HE.out, Int.max_eq_right (by omega)]
        rfl
      case inr h =>
        go_ret
        refine ⟨?_, HG.out.2⟩
        rw [HE.out, Int.max_eq_left h]
        rfl
    | succ k =>
      have hin : i < n := by omega
      obtain ⟨x, hx⟩ : ∃ x, L[i]? = some x := ⟨_, List.getElem?_eq_getElem (by rw [HA.out.2.1]; exact hin)⟩
      obtain ⟨b1, o1, rfl, hb1, c0, c1, c2⟩ := (HA.out.1.below HG.out.2) i x hx
      have HD : Hid (L.drop i = x :: L.drop (i + 1)) := drop_at hx
      clear hx
      obtain ⟨xf, xt, xc⟩ := x
      simp only at c0 c1 c2 HD
      have hlt : decide ((i : Int) < (n : Int)) = true := decide_eq_true (by omega)
      have hin2 : (i : Int) < (n : Int) := by omega
      obtain ⟨W, hW⟩ : ∃ W, wr.alloc (.cells #[.int .i64 xf, .int .i64 xt, .int .i64 xc] 42) = W := ⟨_, rfl⟩
      have bW : Below wr.heap.size wr W := by rw [← hW]; exact (Below.refl _ _).alloc (Nat.le_refl _) _
      have xW : Box W wr.heap.size xf xt xc := by rw [← hW]; exact heap_alloc_new wr _
      have HW : Hid (wr.alloc (.cells #[.int .i64 xf, .int .i64 xt, .int .i64 xc] 42) = W) := hW
      obtain ⟨y0, y1, y2, _, _, _⟩ := xW.cells
      have HF : Hid (Below w.heap.size w W) := HG.out.2.trans (bW.mono HG.out.2.size)
      clear hW bW xW
      by_cases h1 : xf = lt
      · have hd1 : (xf != lt) = false := by simp [h1]
        by_cases h2 : xt ≤ lt
        · have hd2 : decide (xt ≤ lt) = true := decide_eq_true h2
          have e : g = false := by rw [← HG.out.1, HD.out]; exact chk_no (.inr (.inl (by simp only; omega)))
          subst e
          clear h1 h2
          go_upto_region 6 with fail
          rw [HW.out]
          go_wp2_with fail
          go_ret
          exact ⟨rfl, HF.out⟩
        · have hd2 : decide (xt ≤ lt) = false := decide_eq_false h2
          by_cases h3 : xc < 1
          · have hd3 : decide (xc < 1) = true := decide_eq_true h3
            have e : g = false := by rw [← HG.out.1, HD.out]; exact chk_no (.inr (.inr (.inl h3)))
            subst e
            clear h1 h2 h3
            go_upto_region 6 with fail
            rw [HW.out]
            go_wp2_with fail
            go_ret
            exact ⟨rfl, HF.out⟩
          · have hd3 : decide (xc < 1) = false := decide_eq_false h3
            by_cases h4 : xc > 5
            · have hd4 : decide (xc > 5) = true := decide_eq_true h4
              have e : g = false := by rw [← HG.out.1, HD.out]; exact chk_no (.inr (.inr (.inr (.inl h4))))
              subst e
              clear h1 h2 h3 h4
              go_upto_region 6 with fail
              rw [HW.out]
              go_wp2_with fail
              go_ret
              exact ⟨rfl, HF.out⟩
            · have hd4 : decide (xc > 5) = false := decide_eq_false h4
              by_cases h5 : lc = 1
              · by_cases h6 : xc = 1
                · have hd6 : (xc == lc) = true := by rw [h5, h6]; rfl
                  have e : g = false := by rw [← HG.out.1, HD.out]; exact chk_no (.inr (.inr (.inr (.inr ⟨h5, h6⟩))))
                  subst e
                  subst h5 h6
                  clear h1 h2 h3 h4
                  go_upto_region 6 with fail
                  rw [HW.out]
                  go_wp2_with fail
                  go_ret
                  exact ⟨rfl, HF.out⟩
                · have hd6 : (xc == 1) = false := beq_false_of_ne h6
                  subst h5
                  have HN : Hid (chk (L.drop (i + 1)) xt xc N = g) := by
                    rw [← HG.out.1, HD.out, chk_go (by rintro (h | h | h | h | h); exact h h1; exact h2 (by simp only at h; omega); exact h3 h; exact h4 h; exact h6 h.2)]
                    exact rfl
                  clear h1 h2 h3 h4 h6
                  go_upto_region 6 with fail
                  rw [HW.out]
                  go_upto_region 8 with fail
                  go_quiet (fail)
                  go_wp2_with fail
                  go_roundg k
                  case measure => omega
                  case rel => exact ⟨i + 1, xt, xc, rfl, rfl, by go_num, by omega, HN.out, below_drewN HF.out nq⟩
              · have hd5 : (lc == 1) = false := beq_false_of_ne h5
                have HN : Hid (chk (L.drop (i + 1)) xt xc N = g) := by
                  rw [← HG.out.1, HD.out, chk_go (by rintro (h | h | h | h | h); exact h h1; exact h2 (by simp only at h; omega); exact h3 h; exact h4 h; exact h5 h.1)]
                  exact rfl
                clear h1 h2 h3 h4 h5
                go_upto_region 6 with fail
                rw [HW.out]
                go_upto_region 8 with fail
                go_quiet (fail)
                go_wp2_with fail
                go_roundg k
                case measure => omega
                case rel => exact ⟨i + 1, xt, xc, rfl, rfl, by go_num, by omega, HN.out, below_drewN HF.out nq⟩
      · have hd1 : (xf != lt) = true := by simp [h1]
        have e : g = false := by rw [← HG.out.1, HD.out]; exact chk_no (.inl h1)
        subst e
        clear h1
        go_upto_region 6 with fail
        rw [HW.out]
        go_wp2_with fail
        go_ret
        exact ⟨rfl, HF.out⟩
end Go.Proofs.Ytkbakbacomidbaa.Sp
