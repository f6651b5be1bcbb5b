/- (textbuf.Buf).apply: an edit in bounds done to the pieces. -/
import Derived.Test.YtfphmdkbcibcmaaGather
namespace Go.Proofs.Ytfphmdkbcibcmaa
open Go.RowKit

/-- The pieces between two places deleted, at the call. -/
theorem delete_call {B b : Nat} {most len : Int} {a c d : List Pc} {es : List Ed} {w : World} {pv bv : Value} (h : BufIs B b most len (a ++ c ++ d) es w)
    (hblk : w.heap[b]? = some (.cells #[.int .i64 most, .int .i64 len, pv, bv] 54 (0, 0))) (hown : w.ownsRow B 59 1 pv (a ++ c ++ d).length ((a ++ c ++ d).map Pc.val)) (hn : (a ++ c ++ d).length ≤ 1000000) (i j : Nat) (hi : a.length = i) (hj : (a ++ c).length = j) :
    Calls Try.prog 23 #[pv, .int .i64 (i : Nat), .int .i64 (j : Nat)] w fun e w3 => ∃ ao n' c', e = .returned (.slice ao n' c') ∧ w3.cell? ⟨b, 2, none⟩ = some pv ∧ w3.frozen? ⟨b, 2, none⟩ = false ∧
      BufIs B b most len (a ++ d) es (w3.setCell ⟨b, 2, none⟩ (.slice ao n' c')) ∧ Kept [59, 54] B w (w3.setCell ⟨b, 2, none⟩ (.slice ao n' c')) := by
  subst hi; subst hj
  refine (delete_any B pv (a ++ c ++ d).length a.length (a ++ c).length ((a ++ c ++ d).map Pc.val) w hown (vals_one _) (by simp) (by simp) hn).mono ?_
  rintro e w3 ⟨v', he, ho, hg⟩
  have hl : ((a ++ c ++ d).map Pc.val).take a.length ++ ((a ++ c ++ d).map Pc.val).drop (a ++ c).length = (a ++ d).map Pc.val := by
    rw [List.map_append, List.map_append, List.append_assoc, List.take_append_of_le_length (by simp), List.take_of_length_le (by simp), ← List.append_assoc, ← List.map_append, List.drop_append_of_le_length (by simp), List.drop_of_length_le (by simp)]
    simp
  have hlen : (a ++ c ++ d).length - ((a ++ c).length - a.length) = (a ++ d).length := by simp; omega
  rw [hl, hlen] at ho
  obtain ⟨ao, n', c', rfl⟩ : ∃ ao n' c', v' = .slice ao n' c' := by
    rcases (own_open ho).2 with ⟨hv, _⟩ | ⟨g, cap, cur, hv, _⟩
    · exact ⟨_, _, _, hv⟩
    · exact ⟨_, _, _, hv⟩
  obtain ⟨x1, x2, x3, x4⟩ := row_turn h hblk hown (Below.refl _ _) hg ho (fun p hp => h.pcs p (by simp at hp ⊢; rcases hp with hp | hp <;> simp [hp])) (h.apart.sublist (by simp [List.append_assoc]))
  exact ⟨ao, n', c', he, x1, x2, x3, x4⟩

/-- The length told anew. -/
theorem len_turn {B b : Nat} {most len len' : Int} {ps : List Pc} {es : List Ed} {w : World} (h : BufIs B b most len ps es w) : BufIs B b most len' ps es (w.setCell ⟨b, 1, none⟩ (.int .i64 len')) ∧ Kept [54] B w (w.setCell ⟨b, 1, none⟩ (.int .i64 len')) := by
  obtain ⟨pv, bv, hb, hp, he⟩ := h.blk
  have K : Kept [54] B w (w.setCell ⟨b, 1, none⟩ (.int .i64 len')) := (Kept.refl _ _ _).setCell (p := ⟨b, 1, none⟩) hb (by simp) h.hb _
  refine ⟨⟨h.hb, ⟨pv, bv, ?_, own_kept hp K (by simp), own_kept he K (by simp)⟩, fun p hq => (h.pcs p hq).kept K (by simp), h.apart⟩, K⟩
  simp [World.setCell, Array.getElem?_modify, hb]

theorem BufIs.drew {B b : Nat} {most len : Int} {ps : List Pc} {es : List Ed} {w : World} (h : BufIs B b most len ps es w) : BufIs B b most len ps es w.drew := h.below ((Below.refl _ _).drew)

/-- cut, its two lists named. -/
theorem cut_as (B b : Nat) (most len : Int) (ps a r : List Pc) (es : List Ed) (w : World) (k n : Nat) (kz : Int) (hk : kz = (k : Int)) (hc : cutL ps k = (a, r)) (hn : a.length = n) (h : BufIs B b most len ps es w) (ht : k ≤ (text ps).length) (hsz : (text ps).length ≤ 1000000) :
    Calls Try.prog 22 #[.pointer (some ⟨b, 0, none⟩), .int .i64 kz] w fun e w' => e = .returned (.int .i64 (n : Nat)) ∧ BufIs B b most len (a ++ r) es w' ∧ Kept [59, 54] B w w' := by
  subst hk; subst hn
  have := cut_any B b most len ps es w k h ht hsz
  rw [hc] at this
  exact this

theorem ed_cells {W : World} {E : Nat} {x y z : Value} (h : W.heap[E]? = some (.cells #[x, y, z] 31 (0, 0))) : W.cell? ⟨E, 0, none⟩ = some x ∧ W.cell? ⟨E, 1, none⟩ = some y ∧ W.cell? ⟨E, 2, none⟩ = some z := by
  refine ⟨?_, ?_, ?_⟩ <;> simp [World.cell?, h]

theorem put_as (B b : Nat) (most len : Int) (a d : List Pc) (es : List Ed) (w : World) (s : ByteArray) (n : Nat) (hn : a.length = n) (h : BufIs B b most len (a ++ d) es w) (hsz : (text (a ++ d)).length + s.size ≤ 1000000) (hB : B ≤ w.heap.size) :
    Calls Try.prog 24 #[.pointer (some ⟨b, 0, none⟩), .int .i64 (n : Nat), .string s] w fun e w' => e = .returned (.tuple #[]) ∧ ∃ ps', text ps' = text a ++ s.data.toList ++ text d ∧ BufIs B b most len ps' es w' ∧ Kept [59, 54, 5] B w w' := by
  subst hn
  exact put_any B b most len a d es w s h hsz hB

set_option maxHeartbeats 400000 in
theorem apply_any (B b : Nat) (most len : Int) (ps : List Pc) (es : List Ed) (w : World) (k m : Nat) (s : ByteArray) (h : BufIs B b most len ps es w) (hkm : k + m ≤ (text ps).length) (hsz : (text ps).length + s.size ≤ 500000) (hB : B ≤ w.heap.size)
    (hl0 : 0 ≤ len) (hl1 : len ≤ 500000) :
    Calls Try.prog 20 #[.pointer (some ⟨b, 0, none⟩), .agg #[.int .i64 k, .int .i64 m, .string s]] w fun e w' => e = .returned (.tuple #[]) ∧ ∃ ps', text ps' = (text ps).take k ++ s.data.toList ++ (text ps).drop (k + m) ∧
      BufIs B b most (len + ((s.size : Int) - (m : Int))) ps' es w' ∧ Kept [59, 54, 5] B w w' := by
  obtain ⟨a, r, hcut⟩ : ∃ a r, cutL ps k = (a, r) := ⟨_, _, rfl⟩
  have ht1 := cutL_text ps k (by omega)
  have hf1 := cutL_full ps k h.full
  rw [hcut] at ht1 hf1
  obtain ⟨c, d, hcut2⟩ : ∃ c d, cutL r m = (c, d) := ⟨_, _, rfl⟩
  have htl : (text a).length = k := by rw [ht1.1, List.length_take]; omega
  have htr : (text r).length = (text ps).length - k := by rw [ht1.2, List.length_drop]
  have ht2 := cutL_text r m (by omega)
  rw [hcut2] at ht2
  have hcut3 := cutL_ahead a r m hf1.1
  rw [htl, hcut2] at hcut3
  have htd : text d = (text ps).drop (k + m) := by rw [ht2.2, ht1.2, List.drop_drop]
  have hta : text a = (text ps).take k := ht1.1
  have htar : (text (a ++ r)).length = (text ps).length := by rw [text_append, List.length_append]; omega
  have htacd : (text (a ++ c ++ d)).length = (text ps).length := by rw [text_append, text_append, List.length_append, List.length_append, htd, ht2.1, List.length_take, List.length_drop]; omega
  have hfl : (a ++ c ++ d).length ≤ 500000 := by
    have hcf := cutL_full r m hf1.2
    rw [hcut2] at hcf
    have := full_le (a ++ c ++ d) (fun p hp => by
      simp at hp
      rcases hp with hp | hp | hp
      · exact hf1.1 p hp
      · exact hcf.1 p hp
      · exact hcf.2 p hp)
    omega
  have htad : (text (a ++ d)).length ≤ (text ps).length := by rw [text_append, List.length_append, htd, List.length_drop]; omega
  have HH : Hid (BufIs B b most len ps es w) := h
  have HC1 : Hid (cutL ps k = (a, r)) := hcut
  have HC2 : Hid (cutL (a ++ r) (k + m) = (a ++ c, d)) := hcut3
  have HTA : Hid (text a = (text ps).take k) := hta
  have HTD : Hid (text d = (text ps).drop (k + m)) := htd
  have hE0 : (w.alloc (.cells #[.int .i64 k, .int .i64 m, .string s] 31)).heap[w.heap.size]? = some (.cells #[.int .i64 k, .int .i64 m, .string s] 31 (0, 0)) := heap_alloc_new _ _
  have hbe0 : Below w.heap.size w (w.alloc (.cells #[.int .i64 k, .int .i64 m, .string s] 31)) := (Below.refl _ _).alloc (Nat.le_refl _) _
  have h0 := h.below hbe0
  clear hcut ht1 hf1 hcut2 htl htr ht2 hcut3 htd hta h
  obtain ⟨i, hi⟩ : ∃ i, a.length = i := ⟨_, rfl⟩
  obtain ⟨j, hj⟩ : ∃ j, (a ++ c).length = j := ⟨_, rfl⟩
  have HI : Hid (a.length = i) := hi
  have HJ : Hid ((a ++ c).length = j) := hj
  have hi5 : i ≤ 500000 := by simp at hfl; omega
  have hj5 : j ≤ 500000 := by simp at hfl hj; omega
  clear hi hj
  go_enter Try.func20, Try.ntmps20
  go_wp2_with fail
  refine (cut_as B b most len ps a r es _ k i _ rfl HC1.out HI.out h0 (by omega) (by omega)).mono ?_
  rintro e W1 ⟨rfl, h1, K1⟩
  have hE1 := K1.at hE0 (by simp)
  obtain ⟨e10, e11, e12⟩ := ed_cells hE1
  have hs1 : w.heap.size + 1 ≤ W1.heap.size := by have := K1.size; simp at this; exact this
  go_wp2_with fail
  refine (cut_as B b most len (a ++ r) (a ++ c) d es _ (k + m) j _ (by omega) HC2.out HJ.out h1 (by omega) (by omega)).mono ?_
  rintro e W2 ⟨rfl, h2, K2⟩
  have hE2 := K2.at hE1 (by simp)
  obtain ⟨e20, e21, e22⟩ := ed_cells hE2
  obtain ⟨pv2, bv2, _, _, p22, _, _, pb2, po2, _⟩ := h2.cells
  have hs2 : w.heap.size + 1 ≤ W2.heap.size := by have := K2.size; omega
  go_wp2_with fail
  refine (delete_call h2 pb2 po2 (by omega) i j HI.out HJ.out).mono ?_
  rintro e W3 ⟨ao, n', c', rfl, q1, q2, h3, K3⟩
  have hE3 := K3.at hE2 (by simp)
  obtain ⟨e30, e31, e32⟩ := ed_cells hE3
  have hs3 : w.heap.size + 1 ≤ W3.heap.size := by have := K3.size; simp at this; omega
  go_wp2_with fail
  refine (put_as B b most len a d es _ s i HI.out h3 (by omega) (by simp; omega)).mono ?_
  rintro e W4 ⟨rfl, ps4, t4, h4, K4⟩
  have hE4 := K4.at hE3 (by simp)
  obtain ⟨e40, e41, e42⟩ := ed_cells hE4
  obtain ⟨pv4, bv4, _, p41, _, _, hb4, pb4, _, _⟩ := h4.cells
  have f41 : W4.frozen? ⟨b, 1, none⟩ = false := by simp [World.frozen?, pb4]
  have hs4 : w.heap.size + 1 ≤ W4.heap.size := by have := K4.size; simp at this; omega
  have T4 : Hid (text ps4 = text a ++ s.data.toList ++ text d) := t4
  have hsl : s.data.toList.length = s.size := Array.length_toList
  have hx4 : (text ps4).length ≤ 500000 := by
    rw [t4, List.length_append, List.length_append, hsl]
    have e1 := congrArg List.length HTA.out
    have e2 := congrArg List.length HTD.out
    rw [List.length_take] at e1; rw [List.length_drop] at e2
    omega
  clear t4 hE1 e10 e11 e12 hE2 e20 e21 e22 hE3 e30 e31 e32 pb2 po2 q1 q2 h1 h2 h3 p22 hsl
  go_wp2_with fail
  go_region
  go_wp2_with fail
  obtain ⟨h5, K5⟩ := len_turn (len' := len + ((s.size : Int) - (m : Int))) h4
  refine (gather_any B b most (len + ((s.size : Int) - (m : Int))) ps4 es _ h5.drew (by omega) (by have := K5.size; show B ≤ (W4.setCell _ _).heap.size; omega)).mono ?_
  rintro e W6 ⟨rfl, ps6, t6, h6, K6⟩
  go_wp2_with fail
  (try simp only [Exit.inBlock, Exit.then])
  refine bodyPost_end (results_none rfl _ _ _) rfl ?_
  refine ⟨rfl, ps6, ?_, h6, ?_⟩
  · rw [t6, T4.out, HTA.out, HTD.out]
  · have KA : Kept [59, 54, 5] B w W2 := ((Kept.ofBelow hbe0).trans (K1.trans K2)).mono (by simp)
    have KB : Kept [59, 54, 5] B W2 W4 := (K3.mono (by simp)).trans K4
    have KC : Kept [59, 54, 5] B W4 W6 := (K5.mono (by simp)).drew.trans (K6.mono (by simp))
    exact KA.trans (KB.trans KC)
end Go.Proofs.Ytfphmdkbcibcmaa
