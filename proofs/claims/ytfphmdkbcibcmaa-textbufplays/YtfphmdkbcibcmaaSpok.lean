/- (textbuf.Buf).Splice where it is taken. -/
import Derived.Test.YtfphmdkbcibcmaaBack
namespace Go.Proofs.Ytfphmdkbcibcmaa
open Go.RowKit

/-- The part that an edit takes out, as a string. -/
def gone (t : List UInt8) (x y : Nat) : ByteArray := ⟨((t.take (x + y)).drop x).toArray⟩

theorem part_str (B b : Nat) (most len : Int) (ps : List Pc) (es : List Ed) (w : World) (f t : Nat) (fz tz : Int) (hfz : fz = (f : Int)) (htz : tz = (t : Int)) (h : BufIs B b most len ps es w) (hft : f ≤ t) (ht : t ≤ (text ps).length) (hsz : (text ps).length ≤ 1000000) (G : ByteArray) (hG : (⟨(((text ps).take t).drop f).toArray⟩ : ByteArray) = G) :
    Calls Try.prog 21 #[.pointer (some ⟨b, 0, none⟩), .int .i64 fz, .int .i64 tz] w fun e w' => e = .returned (.string G) ∧ Below w.heap.size w w' := by
  subst hG
  exact part_as B b most len ps es w f t fz tz hfz htz h hft ht hsz

theorem own3_ne {w : World} {B n : Nat} {v : Value} {xs : List Value} (h : w.ownsRow B 31 3 v n xs) (k : Nat) (hk : w.heap.size ≤ k) : some k ≠ v.ownBlock := fun e => by
  have := (h.lt k e.symm).2
  omega

set_option maxHeartbeats 1000000 in
theorem splice_ok1 (B b : Nat) (xn yn : Nat) (x y : Int) (hx : x = (xn : Int)) (hy : y = (yn : Int)) (most : Int) (s : ByteArray) (ps : List Pc) (es : List Ed) (w : World) (h : BufIs B b most ((text ps).length : Nat) ps es w) (hn : (text ps).length ≤ 65536) (hm1 : most ≤ 65536) (hB : B ≤ w.heap.size) (hes : es.length ≤ 1000)
    (hxy : xn + yn ≤ (text ps).length) (h5 : (s.size : Int) ≤ most - (((text ps).length : Nat) - y)) :
    Calls Try.prog 12 #[.pointer (some ⟨b, 0, none⟩), .agg #[.int .i64 x, .int .i64 y, .string s]] w fun e w' => e = .returned (.int .i64 0) ∧
      (∃ ps', text ps' = (text ps).take xn ++ s.data.toList ++ (text ps).drop (xn + yn) ∧ BufIs B b most (((text ps).length : Nat) + ((s.size : Int) - y)) ps' (es ++ [⟨x, s.size, gone (text ps) xn yn⟩]) w') ∧ Kept [59, 54, 5, 31] B w w' := by
  obtain ⟨pv, bv, k0, k1, k2, k3, hbw, hbk, hp, he⟩ := h.cells
  obtain ⟨ao, c, hbv⟩ := own3_form he
  subst hbv
  obtain ⟨n, hnn⟩ : ∃ n, (text ps).length = n := ⟨_, rfl⟩
  rw [hnn] at h hn h5 k1 hbk hxy ⊢
  have HN : Hid ((text ps).length = n) := hnn
  have HX : Hid (x = (xn : Int)) := hx
  have HY : Hid (y = (yn : Int)) := hy
  have x0 : 0 ≤ x := by omega
  have y0 : 0 ≤ y := by omega
  have x1 : x ≤ (n : Int) := by omega
  have y1 : x + y ≤ (n : Int) := by omega
  have d1 : decide (x < 0) = false := decide_eq_false (by omega)
  have d2 : decide ((n : Int) < x) = false := decide_eq_false (by omega)
  have d3 : decide (y < 0) = false := decide_eq_false (by omega)
  have d4 : decide ((n : Int) - x < y) = false := decide_eq_false (by omega)
  have d5 : decide (most - ((n : Int) - y) < (s.size : Int)) = false := decide_eq_false (by omega)
  have hw : IntKind.i64.wrap ((n : Int) - x) = (n : Int) - x := by rw [IntKind.wrap_i64]; omega
  have hw2 : IntKind.i64.wrap ((n : Int) - y) = (n : Int) - y := by rw [IntKind.wrap_i64]; omega
  have hw3 : IntKind.i64.wrap (most - ((n : Int) - y)) = most - ((n : Int) - y) := by rw [IntKind.wrap_i64]; omega
  have hE0 : (w.alloc (.cells #[.int .i64 x, .int .i64 y, .string s] 31)).heap[w.heap.size]? = some (.cells #[.int .i64 x, .int .i64 y, .string s] 31 (0, 0)) := heap_alloc_new _ _
  have hbe0 : Below w.heap.size w (w.alloc (.cells #[.int .i64 x, .int .i64 y, .string s] 31)) := (Below.refl _ _).alloc (Nat.le_refl _) _
  have HH : Hid (BufIs B b most (n : Nat) ps es w) := h
  have HBK : Hid (w.heap[b]? = some (.cells #[.int .i64 most, .int .i64 (n : Nat), pv, .slice ao es.length c] 54 (0, 0))) := hbk
  obtain ⟨G, hG⟩ : ∃ G, gone (text ps) xn yn = G := ⟨_, rfl⟩
  rw [hG]
  have HG : Hid (gone (text ps) xn yn = G) := hG
  clear hG
  have HO : Hid (w.ownsRow B 31 3 (.slice ao es.length c) es.length (es.flatMap Ed.cells)) := he
  have HXY : Hid (xn + yn ≤ n) := hxy
  clear hnn hp he h hbk hx hy hxy
  go_enter Try.func12, Try.ntmps12
  go_wp2_with fail
  go_quiet (fail)
  go_wp2_with fail
  go_quiet (fail)
  go_wp2_with fail
  refine (part_str B b most (n : Nat) ps es _ xn (xn + yn) _ _ HX.out (by have := HX.out; have := HY.out; omega) (HH.out.below (below_drewN hbe0 _)) (by omega) (by rw [HN.out]; exact HXY.out) (by rw [HN.out]; omega) G HG.out).mono ?_
  rintro e W1 ⟨rfl, hb1⟩
  have hbW : Below w.heap.size w W1 := (below_drewN hbe0 _).trans (hb1.mono (by simp))
  have h1 : BufIs B b most (n : Nat) ps es W1 := HH.out.below hbW
  have hE1 : W1.heap[w.heap.size]? = some (.cells #[.int .i64 x, .int .i64 y, .string s] 31 (0, 0)) := (hb1.block w.heap.size (by simp)).trans hE0
  obtain ⟨e10, e11, e12⟩ := ed_cells hE1
  have hbk1 : W1.heap[b]? = some (.cells #[.int .i64 most, .int .i64 (n : Nat), pv, .slice ao es.length c] 54 (0, 0)) := (hbW.block b hbw).trans HBK.out
  have c13 : W1.cell? ⟨b, 3, none⟩ = some (.slice ao es.length c) := by simp [World.cell?, hbk1]
  have hz1 : w.heap.size + 1 ≤ W1.heap.size := by have := hb1.size; simp at this; omega
  have hbw1 : b < W1.heap.size := by omega
  have hEw1 : w.heap.size < W1.heap.size := by omega
  have hown1 : W1.ownsRow B 31 3 (.slice ao es.length c) es.length (es.flatMap Ed.cells) := own_kept HO.out (Kept.ofBelow (T := []) (B := 0) hbW) (by simp)
  obtain ⟨ao', n', c', W', hr, q1, q2, qE, qB, qK⟩ := back_mem x (s.size : Int) G h1 hbk1 hown1 (by omega) hE1 (own3_ne HO.out _ (Nat.le_refl _)) (by omega)
  obtain ⟨e20, e21, e22⟩ := ed_cells qE
  have hz2 : w.heap.size + 1 ≤ W'.heap.size := by have := qK.size; simp at this; omega
  have HQE : Hid ((W'.setCell ⟨b, 3, none⟩ (.slice ao' n' c')).heap[w.heap.size]? = some (.cells #[.int .i64 x, .int .i64 y, .string s] 31 (0, 0))) := qE
  clear hE1 hbk1 hown1 qE k0 k1 k2 k3 hw hw2 hw3 d1 d2 d3 d4 d5
  go_wp2_with fail
  go_region_law (refine step_append_eq rfl _ _ 45 45 rfl _ _ (by simp [Act.eval]) (by simp [Act.eval]) hr ?_)
  all_goals
    go_wp2_with fail
    refine (apply_as B b most (n : Nat) ps _ _ xn yn _ _ HX.out HY.out s qB (by rw [HN.out]; exact HXY.out) (by rw [HN.out]; omega) (by simp; omega) (by omega) (by omega)).mono ?_
    rintro e W3 ⟨rfl, ps3, t3, b3, K3⟩
    go_wp2_with fail
    go_ret
    refine ⟨rfl, ⟨ps3, t3, b3⟩, ?_⟩
    exact ((Kept.ofBelow hbW).trans (qK.mono (by simp))).trans (K3.mono (by simp))
end Go.Proofs.Ytfphmdkbcibcmaa
