/- (textbuf.Buf).Undo. -/
import Derived.Test.YtfphmdkbcibcmaaSpok
namespace Go.Proofs.Ytfphmdkbcibcmaa
open Go.RowKit

/-- The world behind the last edit's taking off. -/
def undoW (w : World) (b g c k : Nat) (e : Ed) : World :=
  (((((w.setCell ⟨g, k * 3, none⟩ (.int .i64 0)).setCell ⟨g, k * 3 + 1, none⟩ (.int .i64 0)).setCell ⟨g, k * 3 + 2, none⟩ (.string ⟨#[]⟩)).setCell ⟨b, 3, none⟩ (.slice (some ⟨g, 0, none⟩) k c)).alloc (.cells #[.int .i64 e.a, .int .i64 e.d, .string e.s] 31))

theorem take_setI (cur : Array Value) (i m : Nat) (v : Value) (h : m ≤ i) : (cur.setIfInBounds i v).toList.take m = cur.toList.take m := by
  rw [Array.toList_setIfInBounds, List.take_set_of_le h]

theorem undo_mem {B b g c : Nat} {most len : Int} {ps : List Pc} {es : List Ed} {e : Ed} {w : World} {pv : Value} (h : BufIs B b most len ps (es ++ [e]) w)
    (hblk : w.heap[b]? = some (.cells #[.int .i64 most, .int .i64 len, pv, .slice (some ⟨g, 0, none⟩) (es.length + 1) c] 54 (0, 0))) (hown : w.ownsRow B 31 3 (.slice (some ⟨g, 0, none⟩) (es.length + 1) c) (es.length + 1) ((es ++ [e]).flatMap Ed.cells)) :
    BufIs B b most len ps es (undoW w b g c es.length e) ∧ Kept [31, 54] B w (undoW w b g c es.length e) ∧ w.heap.size < (undoW w b g c es.length e).heap.size ∧ es.length + 1 ≤ c ∧ c ≤ maxLen ∧ g < w.heap.size ∧ b ≠ g ∧
      w.cell? ⟨g, es.length * 3, none⟩ = some (.int .i64 e.a) ∧ w.cell? ⟨g, es.length * 3 + 1, none⟩ = some (.int .i64 e.d) ∧ w.cell? ⟨g, es.length * 3 + 2, none⟩ = some (.string e.s) ∧ ∀ j, w.frozen? ⟨g, j, none⟩ = false := by
  rcases hown.2 with ⟨hv, _⟩ | ⟨g', cap', cur, hv, hBg, hgb, hn, hm, hs, ht⟩
  · cases hv
  simp only [Value.slice.injEq, Option.some.injEq, Addr.mk.injEq, and_true, true_and] at hv
  obtain ⟨rfl, rfl⟩ := hv
  have hbg : b ≠ g := fun e => by rw [e, hgb] at hblk; simp at hblk
  have hgw : g < w.heap.size := (Array.getElem?_eq_some_iff.1 hgb).1
  have hfl := flat_len es
  have hget : ∀ j, j < 3 → cur[es.length * 3 + j]? = [Value.int .i64 e.a, Value.int .i64 e.d, Value.string e.s][j]? := fun j hj => by
    have h1 : (cur.toList.take ((es.length + 1) * 3))[es.length * 3 + j]? = cur[es.length * 3 + j]? := by rw [List.getElem?_take, if_pos (by omega), Array.getElem?_toList]
    rw [← h1, ht, List.flatMap_append, List.getElem?_append_right (by omega), hfl, Nat.add_sub_cancel_left]
    simp [Ed.cells]
  have hcell : ∀ j, j < 3 → w.cell? ⟨g, es.length * 3 + j, none⟩ = [Value.int .i64 e.a, Value.int .i64 e.d, Value.string e.s][j]? := fun j hj => by rw [← hget j hj]; simp [World.cell?, hgb]
  obtain ⟨W3, hW3⟩ : ∃ W3, W3 = ((w.setCell ⟨g, es.length * 3, none⟩ (.int .i64 0)).setCell ⟨g, es.length * 3 + 1, none⟩ (.int .i64 0)).setCell ⟨g, es.length * 3 + 2, none⟩ (.string ⟨#[]⟩) := ⟨_, rfl⟩
  obtain ⟨cur3, hcur3⟩ : ∃ cur3, cur3 = ((cur.setIfInBounds (es.length * 3) (.int .i64 0)).setIfInBounds (es.length * 3 + 1) (.int .i64 0)).setIfInBounds (es.length * 3 + 2) (.string ⟨#[]⟩) := ⟨_, rfl⟩
  have hg3 : W3.heap[g]? = some (.cells cur3 31 (0, 0)) := by rw [hW3, hcur3]; simp [World.setCell, Array.getElem?_modify, hgb]
  have g1 : (w.setCell ⟨g, es.length * 3, none⟩ (.int .i64 0)).heap[g]? = some (.cells (cur.setIfInBounds (es.length * 3) (.int .i64 0)) 31 (0, 0)) := by simp [World.setCell, Array.getElem?_modify, hgb]
  have g2 : ((w.setCell ⟨g, es.length * 3, none⟩ (.int .i64 0)).setCell ⟨g, es.length * 3 + 1, none⟩ (.int .i64 0)).heap[g]? = some (.cells ((cur.setIfInBounds (es.length * 3) (.int .i64 0)).setIfInBounds (es.length * 3 + 1) (.int .i64 0)) 31 (0, 0)) := by simp [World.setCell, Array.getElem?_modify, hgb]
  have K3 : Kept [31, 54] B w W3 := by
    rw [hW3]
    exact (((Kept.refl _ _ _).setCell (p := ⟨g, es.length * 3, none⟩) hgb (by simp) hBg _).setCell (p := ⟨g, es.length * 3 + 1, none⟩) g1 (by simp) hBg _).setCell (p := ⟨g, es.length * 3 + 2, none⟩) g2 (by simp) hBg _
  have hb3 : W3.heap[b]? = some (.cells #[.int .i64 most, .int .i64 len, pv, .slice (some ⟨g, 0, none⟩) (es.length + 1) c] 54 (0, 0)) := by
    rw [hW3, Below.heap_setCell _ _ _ _ hbg, Below.heap_setCell _ _ _ _ hbg, Below.heap_setCell _ _ _ _ hbg]; exact hblk
  obtain ⟨W4, hW4⟩ : ∃ W4, W4 = W3.setCell ⟨b, 3, none⟩ (.slice (some ⟨g, 0, none⟩) es.length c) := ⟨_, rfl⟩
  have hb4 : W4.heap[b]? = some (.cells #[.int .i64 most, .int .i64 len, pv, .slice (some ⟨g, 0, none⟩) es.length c] 54 (0, 0)) := by rw [hW4]; simp [World.setCell, Array.getElem?_modify, hb3]
  have hg4 : W4.heap[g]? = some (.cells cur3 31 (0, 0)) := by rw [hW4, Below.heap_setCell _ _ _ _ (Ne.symm hbg)]; exact hg3
  have K4 : Kept [31, 54] B w W4 := by rw [hW4]; exact K3.setCell (p := ⟨b, 3, none⟩) hb3 (by simp) h.hb _
  have ho4 : W4.ownsRow B 31 3 (.slice (some ⟨g, 0, none⟩) es.length c) es.length (es.flatMap Ed.cells) := by
    refine ⟨by rw [hfl], .inr ⟨g, c, cur3, rfl, hBg, hg4, by omega, hm, by rw [hcur3]; simpa using hs, ?_⟩⟩
    rw [hcur3, take_setI _ _ _ _ (by omega), take_setI _ _ _ _ (by omega), take_setI _ _ _ _ (by omega)]
    have h1 : (cur.toList.take ((es.length + 1) * 3)).take (es.length * 3) = cur.toList.take (es.length * 3) := by rw [List.take_take]; congr 1; omega
    rw [← h1, ht, List.flatMap_append, List.take_append_of_le_length (by omega), List.take_of_length_le (by omega)]
  have hU : undoW w b g c es.length e = W4.alloc (.cells #[.int .i64 e.a, .int .i64 e.d, .string e.s] 31) := by unfold undoW; rw [hW4, hW3]
  have hz4 : W4.heap.size = w.heap.size := by rw [hW4, hW3]; simp [World.setCell]
  rw [hU]
  refine ⟨(h.turnBack K4 hblk hb4 ho4).below ((Below.refl _ _).alloc (Nat.le_refl _) _), K4.alloc _, by simp [hz4], hn, hm, hgw, hbg, hcell 0 (by omega), hcell 1 (by omega), hcell 2 (by omega), fun j => by simp [World.frozen?, hgb]⟩

set_option maxHeartbeats 1000000 in
theorem undo_ok1 (B b xn yn : Nat) (most len : Int) (ps : List Pc) (es : List Ed) (e : Ed) (w : World) (h : BufIs B b most len ps (es ++ [e]) w) (hx : e.a = (xn : Int)) (hy : e.d = (yn : Int)) (hn : (text ps).length + e.s.size ≤ 500000) (hB : B ≤ w.heap.size) (hes : es.length ≤ 1000)
    (hxy : xn + yn ≤ (text ps).length) (hl0 : 0 ≤ len) (hl1 : len ≤ 500000) :
    Calls Try.prog 10 #[.pointer (some ⟨b, 0, none⟩)] w fun r w' => r = .returned (.bool true) ∧
      (∃ ps', text ps' = (text ps).take xn ++ e.s.data.toList ++ (text ps).drop (xn + yn) ∧ BufIs B b most (len + ((e.s.size : Int) - e.d)) ps' es w') ∧ Kept [59, 54, 5, 31] B w w' := by
  obtain ⟨pv, bv, k0, k1, k2, k3, hbw, hbk, hp, he⟩ := h.cells
  have hlen : (es ++ [e]).length = es.length + 1 := by simp
  rw [hlen] at he
  obtain ⟨g, c, hbv⟩ : ∃ g c, bv = .slice (some ⟨g, 0, none⟩) (es.length + 1) c := by
    rcases he.2 with ⟨_, h0⟩ | ⟨g, cap, cur, hv, _⟩
    · omega
    · exact ⟨_, _, hv⟩
  subst hbv
  obtain ⟨u1, u2, u3, u4, u5, u6, u7, u8, u9, u10, u11⟩ := undo_mem h hbk he
  obtain ⟨k, hk⟩ : ∃ k, es.length = k := ⟨_, rfl⟩
  rw [hk] at u1 u2 u3 u4 u8 u9 u10 k3 hes
  unfold maxLen at u5
  have f3 : w.frozen? ⟨b, 3, none⟩ = false := by simp [World.frozen?, hbk]
  have HX : Hid (e.a = (xn : Int)) := hx
  have HY : Hid (e.d = (yn : Int)) := hy
  have HU1 : Hid (BufIs B b most len ps es (undoW w b g c k e)) := u1
  have HU2 : Hid (Kept [31, 54] B w (undoW w b g c k e)) := u2
  have HU3 : Hid (w.heap.size < (undoW w b g c k e).heap.size) := u3
  have hk0 : (((k : Int) + 1) == 0) = false := by rw [beq_eq_false_iff_ne]; omega
  obtain ⟨x, hxx⟩ : ∃ x, e.a = x := ⟨_, rfl⟩
  obtain ⟨y, hyy⟩ : ∃ y, e.d = y := ⟨_, rfl⟩
  obtain ⟨s, hss⟩ : ∃ s, e.s = s := ⟨_, rfl⟩
  rw [hxx] at u8; rw [hyy] at u9; rw [hss] at u10
  have HE : Hid (e.a = x ∧ e.d = y ∧ e.s = s) := ⟨hxx, hyy, hss⟩
  clear h hbk hp he u1 u2 u3 hx hy hlen k0 k1 k2 hxx hyy hss hk
  go_enter Try.func10, Try.ntmps10
  go_wp2_with (go_at_call 20; (try rw [← HE.out.1, ← HE.out.2.1, ← HE.out.2.2]); refine (apply_as B b most len ps es (undoW w b g c k e) xn yn _ _ HX.out HY.out _ HU1.out hxy hn (by have := HU3.out; omega) hl0 hl1).mono ?_; rintro r W3 ⟨rfl, ps3, t3, b3, K3⟩)
  go_ret
  exact ⟨rfl, ⟨ps3, t3, b3⟩, (HU2.out.mono (by simp)).trans (K3.mono (by simp))⟩

set_option maxHeartbeats 400000 in
theorem undo_no1 (b : Nat) (ao : Option Addr) (c : Nat) (w : World) (c3 : w.cell? ⟨b, 3, none⟩ = some (.slice ao 0 c)) :
    Calls Try.prog 10 #[.pointer (some ⟨b, 0, none⟩)] w fun r w' => r = .returned (.bool false) ∧ w' = w := by
  go_enter Try.func10, Try.ntmps10
  go_wp2_with fail
  go_ret
  exact ⟨rfl, rfl⟩
end Go.Proofs.Ytfphmdkbcibcmaa
