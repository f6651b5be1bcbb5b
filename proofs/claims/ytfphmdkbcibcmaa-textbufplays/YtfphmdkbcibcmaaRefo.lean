/- The document's own Splice where it is taken, in memory. -/
import Derived.Test.YtfphmdkbcibcmaaRefs
namespace Go.Proofs.Ytfphmdkbcibcmaa
open Go.RowKit

theorem strs_one (l : List (List UInt8)) : ∀ u ∈ l.map strV, u.oneCell' = true := by
  intro u hu
  obtain ⟨_, _, rfl⟩ := List.mem_map.1 hu
  rfl

theorem own1_form {w : World} {B e n : Nat} {v : Value} {xs : List Value} (h : w.ownsRow B e 1 v n xs) : ∃ a c, v = .slice a n c := by
  rcases h.2 with ⟨hv, h0⟩ | ⟨g, cap, cur, hv, _⟩
  · exact ⟨none, 0, by rw [hv, h0]⟩
  · exact ⟨_, _, hv⟩

/-- 'append([]string(nil), old...)': a copy in new memory. -/
theorem append_copy {B n : Nat} {V : World} {ov : Value} {l : List (List UInt8)} (h : V.ownsRow B 9 1 ov n (l.map strV)) (hn : n ≤ 1000) :
    ∃ a1 c1 V1, (Builtin.append_ #[38, 38] 38 #[.slice none 0 0, ov]).run Try.prog V = .ok (.slice a1 n c1) V1 ∧ V1.ownsRow V.heap.size 9 1 (.slice a1 n c1) n (l.map strV) ∧ V.grownBy V1 none := by
  obtain ⟨i0, hi, hz0, hz1, hz2⟩ := info_parts info9
  rcases (own_open h).2 with ⟨hv, h0⟩ | ⟨g, cap, cur, hv, _, _, _, _, _, hc, _⟩
  · subst hv; subst h0
    have hl : l.map strV = [] := List.eq_nil_of_length_eq_zero (own_open h).1
    refine ⟨none, 0, V, ?_, by rw [hl]; exact World.ownsRow_nil _ _ _ _, grown_refl _ _⟩
    exact run_append_nothing (P := Try.prog) V 38 38 38 9 i0 Try.underlying38 hi none 0 0 (Nat.le_refl _) (.slice none 0 0) (Src.ofNil V Try.underlying38 0)
  · subst hv
    obtain ⟨v', V1, hr, ho, hg, _⟩ := run_append_own (P := Try.prog) V V.heap.size 38 38 9 i0 _ 1 16 Try.underlying38 hi hz0 hz1 hz2 rfl (by decide) (.slice none 0 0) 0 [] (World.ownsRow_nil _ _ _ _) ⟨g, 0, none⟩ n cap (l.map strV) (by rw [(own_open h).1]; omega)
      (fun j u hj => by rw [Addr.add_lit, Nat.zero_add]; exact hc j u hj) (strs_one l) (by unfold maxLen; omega) (by omega) (Nat.le_refl _)
    rw [Nat.zero_add, List.nil_append] at ho
    obtain ⟨a1, c1, rfl⟩ := own1_form ho
    exact ⟨a1, c1, V1, hr, ho, hg⟩

/-- 'append(copy, s)'. -/
theorem append_one {C n k : Nat} {V : World} {v1 : Value} {xs : List Value} {t : List UInt8} (h : V.ownsRow C 9 1 v1 n xs) (hn : n ≤ 1000) (hk : V.heap[k]? = some (.cells #[strV t] 9 (0, 0))) (hC : C ≤ V.heap.size) :
    ∃ a2 c2 V2, (Builtin.append_ #[38, 38] 38 #[v1, .slice (some ⟨k, 0, none⟩) 1 1]).run Try.prog V = .ok (.slice a2 (n + 1) c2) V2 ∧ V2.ownsRow C 9 1 (.slice a2 (n + 1) c2) (n + 1) (xs ++ [strV t]) ∧ V.grownBy V2 v1.ownBlock := by
  obtain ⟨i0, hi, hz0, hz1, hz2⟩ := info_parts info9
  obtain ⟨v', V2, hr, ho, hg, _⟩ := run_append_own (P := Try.prog) V C 38 38 9 i0 _ 1 16 Try.underlying38 hi hz0 hz1 hz2 rfl (by decide) v1 n xs h ⟨k, 0, none⟩ 1 1 [strV t] rfl
    (fun j u hj => by
      match j, hj with
      | 0, hj =>
        simp at hj; subst hj
        rw [Addr.add_lit]; simp only [World.cell?, hk]; rfl)
    (fun u hu => by simp at hu; subst hu; rfl) (by unfold maxLen; omega) (by omega) hC
  obtain ⟨a2, c2, rfl⟩ := own1_form ho
  exact ⟨a2, c2, V2, hr, ho, hg⟩

theorem below_of_grown {V V' : World} {r : Option Nat} (h : V.grownBy V' r) (N : Nat) (hr : ∀ k, r = some k → N ≤ k) (hN : N ≤ V.heap.size) : Below N V V' :=
  ⟨h.os, h.tape, h.output, h.size, fun k hk => h.block k (by omega) (fun e => by have := hr k e.symm; omega)⟩

/-- Both orders in which the copy and the new element's row may come. -/
theorem copy_two {B n : Nat} {W : World} {ov : Value} {l : List (List UInt8)} (t : List UInt8) (h : W.ownsRow B 9 1 ov n (l.map strV)) (hn : n ≤ 1000) :
    (∃ a1 c1 W1, (Builtin.append_ #[38, 38] 38 #[.slice none 0 0, ov]).run Try.prog W.drew = .ok (.slice a1 n c1) W1 ∧ Below W.heap.size W W1 ∧
      ∃ a2 c2 W2, (Builtin.append_ #[38, 38] 38 #[.slice a1 n c1, .slice (some ⟨W1.heap.size, 0, none⟩) 1 1]).run Try.prog (W1.alloc (.cells #[.string ⟨t.toArray⟩] 9)) = .ok (.slice a2 (n + 1) c2) W2 ∧ Below W.heap.size W W2 ∧ W2.ownsRow W.heap.size 9 1 (.slice a2 (n + 1) c2) (n + 1) (l.map strV ++ [strV t])) ∧
    (∃ a1 c1 W1, (Builtin.append_ #[38, 38] 38 #[.slice none 0 0, ov]).run Try.prog (W.alloc (.cells #[.string ⟨t.toArray⟩] 9)).drew = .ok (.slice a1 n c1) W1 ∧ Below W.heap.size W W1 ∧
      ∃ a2 c2 W2, (Builtin.append_ #[38, 38] 38 #[.slice a1 n c1, .slice (some ⟨W.heap.size, 0, none⟩) 1 1]).run Try.prog W1 = .ok (.slice a2 (n + 1) c2) W2 ∧ Below W.heap.size W W2 ∧ W2.ownsRow W.heap.size 9 1 (.slice a2 (n + 1) c2) (n + 1) (l.map strV ++ [strV t])) := by
  refine ⟨?_, ?_⟩
  · have hd : W.drew.ownsRow B 9 1 ov n (l.map strV) := h
    obtain ⟨a1, c1, W1, hr, ho, hg⟩ := append_copy hd hn
    have b1 : Below W.heap.size W W1 := (Below.refl _ _).drew.trans (below_of_grown hg _ (fun k hk => by cases hk) (Nat.le_refl _))
    refine ⟨a1, c1, W1, hr, b1, ?_⟩
    have ho1 : (W1.alloc (.cells #[.string ⟨t.toArray⟩] 9)).ownsRow W.heap.size 9 1 (.slice a1 n c1) n (l.map strV) := World.ownsRow.alloc ho _
    obtain ⟨a2, c2, W2, hr2, ho2, hg2⟩ := append_one (k := W1.heap.size) (t := t) ho1 hn (heap_alloc_new _ _) (by simp; exact Nat.le_succ_of_le b1.size)
    exact ⟨a2, c2, W2, hr2, b1.trans (((Below.refl _ _).alloc b1.size _).trans (below_of_grown hg2 _ (fun k hk => (ho1.lt k hk).1) (by simp; exact Nat.le_succ_of_le b1.size))), ho2⟩
  · have hd : (W.alloc (.cells #[.string ⟨t.toArray⟩] 9)).drew.ownsRow B 9 1 ov n (l.map strV) := World.ownsRow.alloc h _
    obtain ⟨a1, c1, W1, hr, ho, hg⟩ := append_copy hd hn
    have hz : (W.alloc (.cells #[.string ⟨t.toArray⟩] 9)).drew.heap.size = W.heap.size + 1 := by show (W.heap.push _).size = _; simp
    have hnew : (W.alloc (.cells #[.string ⟨t.toArray⟩] 9)).drew.heap[W.heap.size]? = some (.cells #[strV t] 9 (0, 0)) := heap_alloc_new W _
    have b1 : Below W.heap.size W W1 := ((Below.refl _ _).alloc (Nat.le_refl _) _).drew.trans (below_of_grown hg _ (fun k hk => by cases hk) (by omega))
    refine ⟨a1, c1, W1, hr, b1, ?_⟩
    have hnew1 : W1.heap[W.heap.size]? = some (.cells #[strV t] 9 (0, 0)) := by rw [hg.block W.heap.size (by omega) (by simp)]; exact hnew
    have hlow : W1.ownsRow W.heap.size 9 1 (.slice a1 n c1) n (l.map strV) := by
      refine ⟨ho.1, ?_⟩
      rcases ho.2 with hn0 | ⟨g, cap, cur, hv, hB, rest⟩
      · exact .inl hn0
      · exact .inr ⟨g, cap, cur, hv, by omega, rest⟩
    obtain ⟨a2, c2, W2, hr2, ho2, hg2⟩ := append_one (t := t) hlow hn hnew1 b1.size
    exact ⟨a2, c2, W2, hr2, b1.trans (below_of_grown hg2 _ (fun k hk => (hlow.lt k hk).1) b1.size), ho2⟩

/-- What the plain Splice leaves: the row of texts stored, then the text. -/
theorem rspl_mem {B b : Nat} {most : Int} {t t' : List UInt8} {olds : List (List UInt8)} {W W2 : World} {ov v2 : Value} (h : PlainIs B b most t olds W) (hb : W.heap[b]? = some (.cells #[strV t, .int .i64 most, ov] 40 (0, 0))) (hbl : Below W.heap.size W W2)
    (ho : W2.ownsRow W.heap.size 9 1 v2 (olds.length + 1) (olds.reverse.map strV ++ [strV t])) (hB : B ≤ W.heap.size) :
    PlainIs B b most t' (t :: olds) ((W2.setCell ⟨b, 2, none⟩ v2).setCell ⟨b, 0, none⟩ (strV t')) ∧ Kept [40] B W ((W2.setCell ⟨b, 2, none⟩ v2).setCell ⟨b, 0, none⟩ (strV t')) := by
  have hbw := (Array.getElem?_eq_some_iff.1 hb).1
  have hb2 : W2.heap[b]? = some (.cells #[strV t, .int .i64 most, ov] 40 (0, 0)) := (hbl.block b hbw).trans hb
  have hb3 : (W2.setCell ⟨b, 2, none⟩ v2).heap[b]? = some (.cells #[strV t, .int .i64 most, v2] 40 (0, 0)) := by simp [World.setCell, Array.getElem?_modify, hb2]
  have hb4 : ((W2.setCell ⟨b, 2, none⟩ v2).setCell ⟨b, 0, none⟩ (strV t')).heap[b]? = some (.cells #[strV t', .int .i64 most, v2] 40 (0, 0)) := by simp [World.setCell, Array.getElem?_modify, hb2]
  have K2 : Kept [40] B W2 ((W2.setCell ⟨b, 2, none⟩ v2).setCell ⟨b, 0, none⟩ (strV t')) := ((Kept.refl _ _ _).setCell (p := ⟨b, 2, none⟩) hb2 (by simp) h.hB _).setCell (p := ⟨b, 0, none⟩) hb3 (by simp) h.hB _
  refine ⟨⟨h.hB, v2, hb4, ?_⟩, (Kept.ofBelow hbl).trans K2⟩
  have h5 := own_kept ho K2 (by simp)
  refine ⟨by simp, ?_⟩
  rcases h5.2 with ⟨hv, h0⟩ | ⟨g, cap, cur, hv, hB2, hgb, hn, hm, hs, htk⟩
  · exact absurd h0 (by omega)
  · rw [List.length_cons, List.reverse_cons, List.map_append]
    exact .inr ⟨g, cap, cur, hv, by omega, hgb, hn, hm, hs, htk⟩
end Go.Proofs.Ytfphmdkbcibcmaa
