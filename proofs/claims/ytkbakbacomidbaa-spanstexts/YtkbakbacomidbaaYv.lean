/- Cover: the program's. -/
import Derived.Test.YtkbakbacomidbaaYu
namespace Go.Proofs.Ytkbakbacomidbaa.Sp
open Go.RowKit
/-- A row of tokens that lies in memory: their cells alone. -/
def TkC (w : World) (lo : Option Addr) (l : List G9.Tk) : Prop :=
  ∀ i x, l[i]? = some x → ∃ b off, lo = some ⟨b, off, none⟩ ∧ b < w.heap.size ∧ ∀ j u, x.arr[j]? = some u → w.cell? ⟨b, off + i * 8 + j, none⟩ = some u
theorem TkC.below {w w' : World} {lo : Option Addr} {l : List G9.Tk} (h : TkC w lo l) (b : Below w.heap.size w w') : TkC w' lo l := fun i x hx => by
  obtain ⟨k, off, h1, h2, h3⟩ := h i x hx
  exact ⟨k, off, h1, Nat.lt_of_lt_of_le h2 b.size, fun j u hj => (b.cell (p := ⟨k, off + i * 8 + j, none⟩) h2).trans (h3 j u hj)⟩
def snOf (T : G9.Tk) : Sn := ⟨T.k, T.s, T.f, T.t⟩
def TBox (w : World) (g : Nat) (T : G9.Tk) : Prop := w.heap[g]? = some (.cells T.arr 39 (0, 0))
theorem TBox.lt {w : World} {g : Nat} {T : G9.Tk} (h : TBox w g T) : g < w.heap.size := (Array.getElem?_eq_some_iff.1 h).1
theorem TBox.below {w w' : World} {g : Nat} {T : G9.Tk} (h : TBox w g T) (b : Below w.heap.size w w') : TBox w' g T := (b.block g h.lt).trans h
theorem TBox.cells {w : World} {g : Nat} {T : G9.Tk} (h : TBox w g T) : w.cell? ⟨g, 0, none⟩ = some (.int .i64 T.k) ∧ w.cell? ⟨g, 1, none⟩ = some (.int .i64 T.r) ∧ w.cell? ⟨g, 2, none⟩ = some (.string T.nm) ∧ w.cell? ⟨g, 3, none⟩ = some (.string T.tx) ∧ w.cell? ⟨g, 4, none⟩ = some (.slice T.ao T.n T.cap) ∧ w.cell? ⟨g, 5, none⟩ = some (.bool T.s) ∧ w.cell? ⟨g, 6, none⟩ = some (.int .i64 T.f) ∧ w.cell? ⟨g, 7, none⟩ = some (.int .i64 T.t) := by
  unfold TBox at h
  refine ⟨?_, ?_, ?_, ?_, ?_, ?_, ?_, ?_⟩ <;> simp [World.cell?, h]
def C2 (g : Nat) (f t : Int) (W w' : World) : Prop := w'.cell? ⟨g, 6, none⟩ = some (.int .i64 f) ∧ w'.cell? ⟨g, 7, none⟩ = some (.int .i64 t) ∧ Below W.heap.size W w'
theorem c2_step {g : Nat} {f t : Int} {W w' w2 : World} (h : C2 g f t W w') (k : Below w'.heap.size w' w2) (hg : g < W.heap.size) : C2 g f t W w2 := by
  have hs := h.2.2.size
  have hc : ∀ i, w2.cell? ⟨g, i, none⟩ = w'.cell? ⟨g, i, none⟩ := fun i => k.cell (p := ⟨g, i, none⟩) (by show g < _; omega)
  exact ⟨(hc _).trans h.1, (hc _).trans h.2.1, h.2.2.trans (k.mono hs)⟩
theorem c2_keep {g : Nat} {f t : Int} {W w' : World} (h : C2 g f t W w') (hg : g < W.heap.size) : C2 g f t W w'.drew := c2_step h ((Below.refl _ _).drew) hg
theorem c2_alloc {g : Nat} {f t : Int} {W w' : World} (h : C2 g f t W w') (hg : g < W.heap.size) {o : Obj} : C2 g f t W (w'.alloc o) := c2_step h ((Below.refl _ _).alloc (Nat.le_refl _) _) hg
theorem LFr.on {w0 wX w2 : World} {B : Nat} {v : Value} {L : List Pc} (hr : RowIs w0 B v L) (b0 : Below w0.heap.size w0 wX) (hB : B ≤ w0.heap.size) (f : LFr v wX w2) : Below B w0 w2 :=
  (b0.mono hB).trans (f.below (own_below hr b0) (Nat.le_trans hB b0.size))
theorem span_cells {w : World} {q : Nat} {m z : Int} (h : w.heap[q]? = some (.cells #[.int .i64 m, .int .i64 z] 36 (0, 0))) : w.cell? ⟨q, 0, none⟩ = some (.int .i64 m) ∧ w.cell? ⟨q, 1, none⟩ = some (.int .i64 z) := by
  constructor <;> simp [World.cell?, h]
theorem span_lfr {w w0 w2 : World} {B q : Nat} {m z : Int} {v : Value} {L : List Pc} (hr : RowIs w B v L) (f : LFr v w0 w2) (h : w.heap[q]? = some (.cells #[.int .i64 m, .int .i64 z] 36 (0, 0))) (hw : w0.heap = w.heap := by rfl) : w2.heap[q]? = some (.cells #[.int .i64 m, .int .i64 z] 36 (0, 0)) := by
  refine (f.block q ?_ ?_).trans ?_
  · rw [hw]; exact (Array.getElem?_eq_some_iff.1 h).1
  · intro e
    obtain ⟨_, _, cur, hc⟩ := own_blk hr e.symm
    rw [hc] at h
    simp at h
  · rw [hw]; exact h
set_option maxHeartbeats 4000000 in
set_option maxRecDepth 20000 in
theorem cover_any {w : World} {ao : Option Addr} {A : List G9.Tk} (n c : Nat) (h : TkC w ao A) (hn : A.length = n) (hn2 : n ≤ 100000000) (N : Int) :
    Calls Try.prog 8 #[.slice ao n c, .int .i64 N] w (Rowed (coverP (A.map snOf) N) w) := by
  obtain ⟨g, hg0⟩ : ∃ g, (A.map snOf).foldl (cov1 N) [] = g := ⟨_, rfl⟩
  have hcv : coverP (A.map snOf) N = fillP g N := by unfold coverP; rw [hg0]
  rw [hcv]
  have HA : Hid (TkC w ao A ∧ A.length = n ∧ ((A.drop 0).map snOf).foldl (cov1 N) [] = g) := ⟨h, hn, hg0⟩
  clear h hn hg0 hcv
  go_enter Try.func8, Try.ntmps8
  go_wp2_with fail
  go_loopg [5, 12] n (fun g2 pv iv wr => ∃ (i : Nat) (L : List Pc), iv = .int .i64 i ∧ i + g2 = n ∧ ((A.drop i).map snOf).foldl (cov1 N) L = g ∧ RowIs wr w.heap.size pv L ∧ L.length ≤ 2 * i ∧ Below w.heap.size w wr)
  case atStart => exact ⟨0, [], rfl, by omega, HA.out.2.2, own_nil _ _, by simp, Below.refl _ _⟩
  case round =>
    obtain ⟨i, L, rfl, hig, hgi, hrow, hlen, hbe⟩ := hrel
    have HG : Hid (((A.drop i).map snOf).foldl (cov1 N) L = g ∧ RowIs wr w.heap.size u5 L ∧ L.length ≤ 2 * i ∧ Below w.heap.size w wr) := ⟨hgi, hrow, hlen, hbe⟩
    clear hgi hbe hrow hlen
    cases gk with
    | zero =>
      obtain rfl : i = n := by omega
      have hg0 : decide ((i : Int) < (i : Int)) = false := decide_eq_false (by omega)
      have e : L = g := by
        have h := HG.out.1
        rw [List.drop_of_length_le (by rw [HA.out.2.1]; exact Nat.le_refl _)] at h
        exact h
      have k20 := fill_any HG.out.2.1 N HG.out.2.2.2.size (by have := HG.out.2.2.1; omega)
      rw [e] at k20
      clear e
      go_wp2_with fail
      refine k20.mono ?_
      rintro e w1 ⟨v, rfl, h1, h2⟩
      have HZ : Hid (Rowed (fillP g N) w (.returned v) w1) := Rowed.own0 h1 (HG.out.2.2.2.trans (h2.below HG.out.2.1 HG.out.2.2.2.size))
      clear h1 h2 k20
      go_wp2_with fail
      go_ret
      exact HZ.out
    | succ k =>
      have hin : i < n := by omega
      obtain ⟨x, hx⟩ : ∃ x, A[i]? = some x := ⟨_, List.getElem?_eq_getElem (by rw [HA.out.2.1]; exact hin)⟩
      obtain ⟨b1, o1, rfl, hb1, hcl⟩ := (HA.out.1.below HG.out.2.2.2) i x hx
      have HD : Hid (A.drop i = x :: A.drop (i + 1)) := drop_at hx
      clear hx
      have c0 := hcl 0 _ rfl
      have c1 := hcl 1 _ rfl
      have c2 := hcl 2 _ rfl
      have c3 := hcl 3 _ rfl
      have c4 := hcl 4 _ rfl
      have c5 := hcl 5 _ rfl
      have c6 := hcl 6 _ rfl
      have c7 := hcl 7 _ rfl
      rw [Nat.add_zero] at c0
      clear hcl
      obtain ⟨W, hW⟩ : ∃ W, wr.alloc (.cells x.arr 39) = W := ⟨_, rfl⟩
      have bW : Below wr.heap.size wr W := by rw [← hW]; exact (Below.refl _ _).alloc (Nat.le_refl _) _
      have xW : TBox W wr.heap.size x := by rw [← hW]; exact heap_alloc_new wr _
      have k17 := class_any x W
      have HN : Hid (((A.drop (i + 1)).map snOf).foldl (cov1 N) (cov1 N L (snOf x)) = g) := by
        have h := HG.out.1
        rw [HD.out] at h
        exact h
      obtain ⟨y0, y1, y2, y3, y4, y5, y6, y7⟩ := xW.cells
      obtain ⟨xk, xr, xn, xx, xa, xm, xp, xs, xf, xt⟩ := x
      simp only at y0 y1 y2 y3 y4 y5 y6 y7
      have HW : Hid (wr.alloc (.cells #[.int .i64 xk, .int .i64 xr, .string xn, .string xx, .slice xa xm xp, .bool xs, .int .i64 xf, .int .i64 xt] 39) = W ∧ Below wr.heap.size wr W ∧ TBox W wr.heap.size ⟨xk, xr, xn, xx, xa, xm, xp, xs, xf, xt⟩) := ⟨hW, bW, xW⟩
      simp only [G9.Tk.val, G9.Tk.arr, snOf] at k17 HN
      have hlt : decide ((i : Int) < (n : Int)) = true := decide_eq_true (by omega)
      have hin2 : (i : Int) < (n : Int) := by omega
      have HF : Hid (Below w.heap.size w W) := HG.out.2.2.2.trans (bW.mono HG.out.2.2.2.size)
      clear hW bW xW
      obtain ⟨cl, hcl⟩ : ∃ cl, clsP xk xs = cl := ⟨_, rfl⟩
      rw [hcl] at k17
      have HC : Hid (clsP xk xs = cl) := hcl
      clear hcl
      go_upto_region 5 with fail
      rw [HW.out.1]
      go_wp2_with fail
      refine k17.mono ?_
      rintro e w1 ⟨rfl, b1'⟩
      clear k17
      have H1 : Hid (Below w.heap.size w w1 ∧ TBox w1 wr.heap.size ⟨xk, xr, xn, xx, xa, xm, xp, xs, xf, xt⟩ ∧ RowIs w1 w.heap.size u5 L) := ⟨HF.out.trans (b1'.mono HF.out.size), HW.out.2.2.below b1', own_below (own_below HG.out.2.1 HW.out.2.1) b1'⟩
      obtain ⟨_, _, _, _, _, _, z6, z7⟩ := H1.out.2.1.cells
      simp only at z6 z7
      have hgw := H1.out.2.1.lt
      clear c0 c1 c2 c3 c4 c5 c6 c7 y0 y1 y2 y3 y4 y5 y6 y7 b1'
      by_cases hc0 : cl = 0
      · subst hc0
        go_wp2_with fail
        go_roundg k
        case measure => omega
        case rel =>
          refine ⟨i + 1, L, by go_num, by omega, ?_, H1.out.2.2, by have := HG.out.2.2.1; omega, H1.out.1⟩
          have h := HN.out
          unfold cov1 at h
          rw [if_pos (.inl HC.out)] at h
          exact h
      · have hd0 : (cl == 0) = false := beq_false_of_ne hc0
        obtain ⟨po, pcap, hpv, hrow, hcap, hmx⟩ := row_at H1.out.2.2
        subst hpv
        obtain ⟨ln, hln⟩ : ∃ ln, L.length = ln := ⟨_, rfl⟩
        obtain ⟨ee, hee⟩ : ∃ ee, ends L = ee := ⟨_, rfl⟩
        have k18 : ∀ w', Below w1.heap.size w1 w' → Calls Try.prog 18 #[.slice po ln pcap] w' fun e w'' => e = .returned (.int .i64 ee) ∧ w'' = w' := fun w' b => by
          have := end_any ln pcap (hrow.below b) hln (by have := HG.out.2.2.1; omega)
          rw [hee] at this
          exact this
        obtain ⟨m, hm⟩ : ∃ m, (if ee > xf then ee else xf) = m := ⟨_, rfl⟩
        have hm' : (if xf < ee then ee else xf) = m := hm
        obtain ⟨z, hz⟩ : ∃ z, (if N < xt then N else xt) = z := ⟨_, rfl⟩
        have HM : Hid (m = max xf (ends L) ∧ z = min xt N ∧ L.length = ln) := ⟨by rw [← hm, hee]; split <;> omega, by rw [← hz]; split <;> omega, hln⟩
        have HK : Hid (∀ w', Below w1.heap.size w1 w' → Calls Try.prog 18 #[.slice po ln pcap] w' fun e w'' => e = .returned (.int .i64 ee) ∧ w'' = w') := k18
        have hin' : C2 wr.heap.size xf xt w1 w1 := ⟨z6, z7, Below.refl _ _⟩
        rw [hln]
        clear k18 hee hln hrow hc0 hcap hmx
        go_wp2_with fail
        go_cut [9] (fun sv wc => ∃ q, sv = .pointer (some ⟨q, 0, none⟩) ∧ wc.heap[q]? = some (.cells #[.int .i64 m, .int .i64 z] 36 (0, 0)) ∧ Below w1.heap.size w1 wc)
        case first =>
          go_region_held3 (fun w' => w'.cell? ⟨wr.heap.size, 6, none⟩ = some (.int .i64 xf) ∧ w'.cell? ⟨wr.heap.size, 7, none⟩ = some (.int .i64 xt) ∧ Below w1.heap.size w1 w')
            (first | assumption | exact c2_keep (by assumption) hgw | exact c2_alloc (by assumption) hgw | exact c2_keep (c2_alloc (by assumption) hgw) hgw | go_keep | exact ((Below.refl _ _).alloc (Nat.le_refl _) _).drew)
            (first
              | (go_at_call 18; refine (HK.out _ (show C2 _ _ _ w1 _ by assumption).2.2).mono ?_; rintro e w' ⟨rfl, rfl⟩))
          all_goals
            go_wp2_with fail
            go_meet
            exact ⟨_, rfl, heap_alloc_new _ _, (show C2 wr.heap.size xf xt w1 _ by assumption).2.2⟩
        case rest =>
          obtain ⟨q, rfl, hq, hbc⟩ := hcut
          obtain ⟨q0, q1⟩ := span_cells hq
          have H2 : Hid (Below w.heap.size w wc ∧ RowIs wc w.heap.size (.slice po ln pcap) L ∧ wc.heap[q]? = some (.cells #[.int .i64 m, .int .i64 z] 36 (0, 0))) := ⟨H1.out.1.trans (hbc.mono H1.out.1.size), by have h := own_below H1.out.2.2 hbc; rw [← HM.out.2.2]; exact h, hq⟩
          clear hq hbc hin' z6 z7 hm hm' hz
          by_cases hmz : m < z
          · have hd1 : decide (m < z) = true := decide_eq_true hmz
            have HL : Hid (((A.drop (i + 1)).map snOf).foldl (cov1 N) (putP (fillP L m) ⟨m, z, cl⟩) = g) := by
              have h := HN.out
              unfold cov1 at h
              simp only at h
              rw [← HM.out.1, ← HM.out.2.1, HC.out, if_neg (by rintro (e | e); simp [e] at hd0; omega)] at h
              exact h
            have hll : L.length ≤ 1000000 * 1000 - 1 := by have := HG.out.2.2.1; omega
            have K20 : Hid (∀ w', Below wc.heap.size wc w' → Calls Try.prog 20 #[.slice po ln pcap, .int .i64 m] w' (Grew w.heap.size (.slice po ln pcap) (fillP L m) w')) := fun w' b => fill_any (own_below H2.out.2.1 b) m (Nat.le_trans H2.out.1.size b.size) (by omega)
            have K19 : Hid (∀ (v1 : Value) (w' w'' : World), RowIs w' w.heap.size v1 (fillP L m) → Below w'.heap.size w' w'' → w.heap.size ≤ w'.heap.size → Calls Try.prog 19 #[v1, .agg #[.int .i64 m, .int .i64 z, .int .i64 cl]] w'' (Grew w.heap.size v1 (putP (fillP L m) ⟨m, z, cl⟩) w'')) := fun v1 w' w'' hr b hs => put_any (own_below hr b) ⟨m, z, cl⟩ (Nat.le_trans hs b.size) (by have := len_fill L m; omega)
            clear hmz
            go_upto_region 9 with fail
            go_region_with (first
              | (go_at_call 20; refine (K20.out _ ?_).mono ?_; (first | exact Below.refl _ _ | exact (Below.refl _ _).drew | exact below_drewN (Below.refl _ _) _); rintro e w2 ⟨v1, rfl, h1, f1⟩; obtain ⟨r0, r1⟩ := span_cells (span_lfr H2.out.2.1 f1 H2.out.2.2); have bb1 : Below w.heap.size wc w2 := LFr.on H2.out.2.1 (by first | exact Below.refl _ _ | exact (Below.refl _ _).drew | exact below_drewN (Below.refl _ _) _) H2.out.1.size f1)
              | (go_at_call 19; refine (K19.out _ _ _ h1 ?_ ?_).mono ?_; (first | exact Below.refl _ _ | exact (Below.refl _ _).drew | exact below_drewN (Below.refl _ _) _); exact Nat.le_trans H2.out.1.size bb1.size; rintro e w3 ⟨v2, rfl, h2, f2⟩; have bb2 : Below w.heap.size w2 w3 := LFr.on h1 (by first | exact Below.refl _ _ | exact (Below.refl _ _).drew | exact below_drewN (Below.refl _ _) _) (Nat.le_trans H2.out.1.size bb1.size) f2))
            all_goals
              have HP : Hid (RowIs w3 w.heap.size v2 (putP (fillP L m) ⟨m, z, cl⟩) ∧ Below w.heap.size w w3 ∧ (putP (fillP L m) ⟨m, z, cl⟩).length ≤ 2 * (i + 1)) := ⟨h2, H2.out.1.trans (bb1.trans bb2), by have h3 := len_put (fillP L m) ⟨m, z, cl⟩; have h4 := len_fill L m; have := HG.out.2.2.1; omega⟩
              clear h1 h2 f1 f2 bb1 bb2 r0 r1 q0 q1
              go_wp2_with fail
              go_roundg k
              case measure => omega
              case rel => exact ⟨i + 1, putP (fillP L m) ⟨m, z, cl⟩, by go_num, by omega, HL.out, HP.out.1, HP.out.2.2, HP.out.2.1⟩
          · have hd1 : decide (m < z) = false := decide_eq_false hmz
            have HL : Hid (((A.drop (i + 1)).map snOf).foldl (cov1 N) L = g) := by
              have h := HN.out
              unfold cov1 at h
              simp only at h
              rw [← HM.out.1, ← HM.out.2.1, if_pos (.inr (by omega))] at h
              exact h
            clear hmz
            go_wp2_with fail
            go_roundg k
            case measure => omega
            case rel => exact ⟨i + 1, L, by go_num, by omega, HL.out, H2.out.2.1, by have := HG.out.2.2.1; omega, H2.out.1⟩
end Go.Proofs.Ytkbakbacomidbaa.Sp
