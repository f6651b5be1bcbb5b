/- The document's own Splice where it is taken. -/
import Derived.Test.YtfphmdkbcibcmaaRefo
import Derived.Deep.DeepCutAuto
namespace Go.Proofs.Ytfphmdkbcibcmaa
open Go.RowKit

/-- What stands when the row of texts has been stored and the text has not. -/
structure MidS (B b E : Nat) (most : Int) (t : List UInt8) (olds : List (List UInt8)) (x y : Int) (s : ByteArray) (w wc : World) : Prop where
  c0 : wc.cell? ⟨b, 0, none⟩ = some (.string ⟨t.toArray⟩)
  f0 : wc.frozen? ⟨b, 0, none⟩ = false
  e0 : wc.cell? ⟨E, 0, none⟩ = some (.int .i64 x)
  e1 : wc.cell? ⟨E, 1, none⟩ = some (.int .i64 y)
  e2 : wc.cell? ⟨E, 2, none⟩ = some (.string s)
  is : ∀ t', PlainIs B b most t' (t :: olds) (wc.setCell ⟨b, 0, none⟩ (strV t'))
  kept : ∀ t', Kept [40] B w (wc.setCell ⟨b, 0, none⟩ (strV t'))

theorem mid_of {B b E q : Nat} {most : Int} {t : List UInt8} {olds : List (List UInt8)} {x y : Int} {s : ByteArray} {w W W2 : World} {ov v2 : Value} (hE : E = w.heap.size) (bW : Below w.heap.size w W) (pW : PlainIs B b most t olds W) (bkW : W.heap[b]? = some (.cells #[strV t, .int .i64 most, ov] 40 (0, 0)))
    (eW : W.heap[E]? = some (.cells #[.int .i64 x, .int .i64 y, .string s] 31 (0, 0))) (hq : olds.length = q) (b2 : Below W.heap.size W W2) (o2 : W2.ownsRow W.heap.size 9 1 v2 (q + 1) (olds.reverse.map strV ++ [strV t])) (hB : B ≤ w.heap.size) : MidS B b E most t olds x y s w (W2.setCell ⟨b, 2, none⟩ v2) := by
  subst hq
  have zW := bW.size
  have hbw := (Array.getElem?_eq_some_iff.1 bkW).1
  have hew := (Array.getElem?_eq_some_iff.1 eW).1
  have hne : E ≠ b := fun e => by rw [e, bkW] at eW; simp at eW
  have hb2 : W2.heap[b]? = some (.cells #[strV t, .int .i64 most, ov] 40 (0, 0)) := (b2.block b hbw).trans bkW
  have hb3 : (W2.setCell ⟨b, 2, none⟩ v2).heap[b]? = some (.cells #[strV t, .int .i64 most, v2] 40 (0, 0)) := by simp [World.setCell, Array.getElem?_modify, hb2]
  have he3 : (W2.setCell ⟨b, 2, none⟩ v2).heap[E]? = some (.cells #[.int .i64 x, .int .i64 y, .string s] 31 (0, 0)) := (Below.heap_setCell W2 ⟨b, 2, none⟩ v2 E hne).trans ((b2.block E hew).trans eW)
  obtain ⟨e0, e1, e2⟩ := ed_cells he3
  refine ⟨by simp [World.cell?, hb3, strV], by simp [World.frozen?, hb3], e0, e1, e2, fun t' => (rspl_mem pW bkW b2 o2 (by omega)).1, fun t' => ?_⟩
  exact (Kept.ofBelow bW).trans (rspl_mem pW bkW b2 o2 (by omega)).2

theorem bytes_ext {a b : ByteArray} (h : a.data.toList = b.data.toList) : a = b := by
  cases a; cases b; simp only [ByteArray.mk.injEq]; exact Array.ext' h

theorem spl_str (t : List UInt8) (s : ByteArray) (x y : Nat) (_h : x + y ≤ t.length) : ((⟨t.toArray⟩ : ByteArray).extract 0 x ++ s ++ (⟨t.toArray⟩ : ByteArray).extract (x + y) t.length) = ⟨(splT t x y s).toArray⟩ := by
  apply bytes_ext
  simp [splT, ByteArray.data_extract, ByteArray.data_append]
  exact List.take_of_length_le (by simp)

set_option maxHeartbeats 2000000 in
theorem rspl_ok {B b : Nat} {most : Int} {t : List UInt8} {olds : List (List UInt8)} {w : World} (h : PlainIs B b most t olds w) (x y : Int) (s : ByteArray) (ht : t.length ≤ 65536) (hm0 : 0 ≤ most) (hm : most ≤ 65536) (hin : InB t.length x y) (hs : (s.size : Int) ≤ most - ((t.length : Int) - y)) (hol : olds.length ≤ 1000) (hB : B ≤ w.heap.size) :
    Calls Try.prog 13 #[.pointer (some ⟨b, 0, none⟩), .agg #[.int .i64 x, .int .i64 y, .string s]] w fun e w' => e = .returned (.int .i64 0) ∧ PlainIs B b most (splT t x.toNat y.toNat s) (t :: olds) w' ∧ Kept [40] B w w' := by
  obtain ⟨vo, vc, hx, hb, ho, hc1, hc2, c0, c1, c2, hf⟩ := h.cells
  have hb0 : Below w.heap.size w (w.alloc (.cells #[.int .i64 x, .int .i64 y, .string s] 31)) := (Below.refl _ _).alloc (Nat.le_refl _) _
  have hE0 : (w.alloc (.cells #[.int .i64 x, .int .i64 y, .string s] 31)).heap[w.heap.size]? = some (.cells #[.int .i64 x, .int .i64 y, .string s] 31 (0, 0)) := heap_alloc_new _ _
  obtain ⟨n, hn⟩ : ∃ n, t.length = n := ⟨_, rfl⟩
  obtain ⟨q, hq⟩ : ∃ q, olds.length = q := ⟨_, rfl⟩
  have hin2 := hin
  unfold InB at hin2
  have ht2 := ht
  rw [hn] at hs ht2 hin2
  rw [hq] at c2 hol hc1
  have hw1 : IntKind.i64.wrap ((n : Int) - y) = (n : Int) - y := by rw [IntKind.wrap_i64]; omega
  have hw2 : IntKind.i64.wrap (most - (s.size : Int)) = most - (s.size : Int) := by rw [IntKind.wrap_i64]; omega
  have HN : Hid (t.length = n) := hn
  have HQ : Hid (olds.length = q) := hq
  have HIN : Hid (InB t.length x y) := hin
  have HT : Hid (t.length ≤ 65536) := ht
  have HH : Hid (PlainIs B b most t olds w) := h
  have HBK : Hid (w.heap[b]? = some (.cells #[strV t, .int .i64 most, .slice vo olds.length vc] 40 (0, 0))) := hb
  have HO : Hid (w.ownsRow B 9 1 (.slice vo olds.length vc) olds.length (olds.reverse.map strV)) := ho
  have HF : Hid (∀ i, w.frozen? ⟨b, i, none⟩ = false) := hf
  have F0 : Hid ((w.alloc (.cells #[.int .i64 x, .int .i64 y, .string s] 31)).drew.cell? ⟨b, 0, none⟩ = some (.string ⟨t.toArray⟩)) := (hb0.cell (p := ⟨b, 0, none⟩) hx).trans c0
  have F1 : Hid ((w.alloc (.cells #[.int .i64 x, .int .i64 y, .string s] 31)).drew.cell? ⟨w.heap.size, 0, none⟩ = some (.int .i64 x)) := (ed_cells hE0).1
  have F2 : Hid ((w.alloc (.cells #[.int .i64 x, .int .i64 y, .string s] 31)).drew.cell? ⟨w.heap.size, 1, none⟩ = some (.int .i64 y)) := (ed_cells hE0).2.1
  have F3 : Hid ((w.alloc (.cells #[.int .i64 x, .int .i64 y, .string s] 31)).drew.cell? ⟨w.heap.size, 2, none⟩ = some (.string s)) := (ed_cells hE0).2.2
  have HE0 : Hid ((w.alloc (.cells #[.int .i64 x, .int .i64 y, .string s] 31)).heap[w.heap.size]? = some (.cells #[.int .i64 x, .int .i64 y, .string s] 31 (0, 0))) := hE0
  have d1 : decide (most < (s.size : Int)) = false := decide_eq_false (by omega)
  have d2 : decide (most - (s.size : Int) < (n : Int) - y) = false := decide_eq_false (by omega)
  clear hb ho hf h hn hin hq ht hE0
  go_enter Try.func13, Try.ntmps13
  go_wp2_with fail
  go_region_held3 (fun w' => w'.cell? ⟨b, 0, none⟩ = some (.string ⟨t.toArray⟩) ∧ w'.cell? ⟨w.heap.size, 0, none⟩ = some (.int .i64 x) ∧ w'.cell? ⟨w.heap.size, 1, none⟩ = some (.int .i64 y) ∧ w'.cell? ⟨w.heap.size, 2, none⟩ = some (.string s)) (go_keep)
    (first | (go_at_call 19; refine (may_yesX x y s t.length _ HT.out HIN.out _ _ _ _ _ _ _ _ F0.out F1.out F2.out F3.out).mono ?_; rintro e w2 ⟨rfl, b2, g0, g1, g2, g3⟩))
  have hbw2 : Below w.heap.size w w2 := hb0.drew.trans (b2.mono (by simp))
  have k1 : w2.cell? ⟨b, 1, none⟩ = some (.int .i64 most) := (hbw2.cell (p := ⟨b, 1, none⟩) hx).trans c1
  have k2 : w2.cell? ⟨b, 2, none⟩ = some (.slice vo q vc) := (hbw2.cell (p := ⟨b, 2, none⟩) hx).trans c2
  have hn2 := HN.out
  go_wp2_with fail
  go_quiet (fail)
  go_wp2_with fail
  have bW := below_drewN hbw2 nq
  have eW : (w2.drewN nq).heap[w.heap.size]? = some (.cells #[.int .i64 x, .int .i64 y, .string s] 31 (0, 0)) := (b2.block w.heap.size (by simp)).trans HE0.out
  generalize w2.drewN nq = W at bW eW
  clear g0 g1 g2 g3 k1 k2
  have hxW : b < W.heap.size := by have := bW.size; omega
  have hEW : w.heap.size < W.heap.size := (Array.getElem?_eq_some_iff.1 eW).1
  have pW := HH.out.below bW
  have bkW : W.heap[b]? = some (.cells #[strV t, .int .i64 most, .slice vo olds.length vc] 40 (0, 0)) := (bW.block b hx).trans HBK.out
  have g0 : W.cell? ⟨b, 0, none⟩ = some (.string ⟨t.toArray⟩) := (bW.cell (p := ⟨b, 0, none⟩) hx).trans c0
  have g2 : W.cell? ⟨b, 2, none⟩ = some (.slice vo q vc) := (bW.cell (p := ⟨b, 2, none⟩) hx).trans c2
  have oW : W.ownsRow B 9 1 (.slice vo q vc) q (olds.reverse.map strV) := by
    have := own_kept HO.out (Kept.ofBelow (T := []) (B := 0) bW) (by simp)
    rw [HQ.out] at this; exact this
  obtain ⟨⟨a1, p1, WA1, rA1, bA1, a2, p2, WA2, rA2, bA2, oA2⟩, ⟨a3, p3, WB1, rB1, bB1, a4, p4, WB2, rB2, bB2, oB2⟩⟩ := copy_two t oW hol
  have zA1 := bA1.size
  have zB1 := bB1.size
  have zA2 := bA2.size
  have zB2 := bB2.size
  have fW : W.frozen? ⟨b, 2, none⟩ = false := (bW.frozen (p := ⟨b, 2, none⟩) hx).trans (HF.out 2)
  have A10 := (bA1.cell (p := ⟨b, 0, none⟩) hxW).trans g0
  have A12 := (bA1.cell (p := ⟨b, 2, none⟩) hxW).trans g2
  have A20 := (bA2.cell (p := ⟨b, 0, none⟩) hxW).trans g0
  have A22 := (bA2.cell (p := ⟨b, 2, none⟩) hxW).trans g2
  have A2f := (bA2.frozen (p := ⟨b, 2, none⟩) hxW).trans fW
  have B10 := (bB1.cell (p := ⟨b, 0, none⟩) hxW).trans g0
  have B12 := (bB1.cell (p := ⟨b, 2, none⟩) hxW).trans g2
  have B20 := (bB2.cell (p := ⟨b, 0, none⟩) hxW).trans g0
  have B22 := (bB2.cell (p := ⟨b, 2, none⟩) hxW).trans g2
  have B2f := (bB2.frozen (p := ⟨b, 2, none⟩) hxW).trans fW
  have hxA1 : b < WA1.heap.size := by omega
  go_cut [] (fun wc => MidS B b w.heap.size most t olds x y s w wc)
  case first =>
    go_region_law (first
      | refine step_append_eq rfl _ _ 38 38 rfl _ _ (by simp [Act.eval]) (by simp [Act.eval]) rA1 ?_
      | refine step_append_eq rfl _ _ 38 38 rfl _ _ (by simp [Act.eval]) (by simp [Act.eval]) rB1 ?_
      | refine step_append_eq rfl _ _ 38 38 rfl _ _ (by simp [Act.eval]) (by simp [Act.eval]) rA2 ?_
      | refine step_append_eq rfl _ _ 38 38 rfl _ _ (by simp [Act.eval]) (by simp [Act.eval]) rB2 ?_)
    all_goals
      go_wp2_with fail
      go_meet
      case rel => first | exact mid_of rfl bW pW bkW eW HQ.out bA2 oA2 hB | exact mid_of rfl bW pW bkW eW HQ.out bB2 oB2 hB
  case rest =>
    clear rA1 rA2 rB1 rB2 oA2 oB2 bA1 bA2 bB1 bB2 A10 A12 A20 A22 A2f B10 B12 B20 B22 B2f
    obtain ⟨m0, mf, m1, m2, m3, mi, mk⟩ := hcut
    obtain ⟨i1, i2, i3, i4⟩ := hin2
    have hsz : (⟨t.toArray⟩ : ByteArray).size = n := by show t.toArray.size = n; simp; exact HN.out
    have hxy : x + y ≤ (n : Int) := by omega
    have hs9 : s.size ≤ 65536 := by omega
    have hw3 : IntKind.i64.wrap (x + y) = x + y := by rw [IntKind.wrap_i64]; omega
    have h00 : (0 : Int) ≤ x + y := by omega
    clear hw1 hw2 d1 d2
    go_wp2_with fail
    go_region
    go_wp2_with fail
    go_ret
    have hv : Value.string ((⟨t.toArray⟩ : ByteArray).extract 0 x.toNat ++ s ++ (⟨t.toArray⟩ : ByteArray).extract (x + y).toNat n) = strV (splT t x.toNat y.toNat s) := by
      have e1 : (x + y).toNat = x.toNat + y.toNat := by omega
      rw [e1, ← HN.out, spl_str t s x.toNat y.toNat (by have := HN.out; omega)]; rfl
    rw [hv]
    exact ⟨rfl, (mi _).below ((Below.refl _ _).drew), (mk _).drew⟩
end Go.Proofs.Ytfphmdkbcibcmaa
