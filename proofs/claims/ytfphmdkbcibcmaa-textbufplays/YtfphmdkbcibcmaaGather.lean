/- (textbuf.Buf).gather: too many pieces become one; the text is as it was. -/
import Derived.Test.YtfphmdkbcibcmaaJoin
namespace Go.Proofs.Ytfphmdkbcibcmaa
open Go.RowKit

theorem gather_mem {B b g cap T : Nat} {most len : Int} {ps : List Pc} {es : List Ed} {w w1 : World} {bv : Value} (h : BufIs B b most len ps es w)
    (hblk : w.heap[b]? = some (.cells #[.int .i64 most, .int .i64 len, .slice (some ⟨g, 0, none⟩) ps.length cap, bv] 54 (0, 0))) (hown : w.ownsRow B 59 1 (.slice (some ⟨g, 0, none⟩) ps.length cap) ps.length (ps.map Pc.val))
    (hT : (text ps).length = T) (h0 : 0 < T) (hT2 : T ≤ 1000000) (hj : JBuf w w1 T (text ps)) (hB : B ≤ w.heap.size) :
    ∃ ps', text ps' = text ps ∧ BufIs B b most len ps' es ((w1.alloc (.cells #[.slice (some ⟨w.heap.size, 0, none⟩) T T] 59)).setCell ⟨b, 2, none⟩ (.slice (some ⟨w1.heap.size, 0, none⟩) 1 1)) ∧ Kept [59, 54] B w ((w1.alloc (.cells #[.slice (some ⟨w.heap.size, 0, none⟩) T T] 59)).setCell ⟨b, 2, none⟩ (.slice (some ⟨w1.heap.size, 0, none⟩) 1 1)) := by
  obtain ⟨cur, hc1, hc2, hc3⟩ := hj.blk
  have hsz := hj.below.size
  obtain ⟨W2, hW2⟩ : ∃ W2, W2 = w1.alloc (.cells #[.slice (some ⟨w.heap.size, 0, none⟩) T T] 59) := ⟨_, rfl⟩
  have hbe : Below w.heap.size w W2 := by rw [hW2]; exact hj.below.alloc hsz _
  have hw1 : w.heap.size < w1.heap.size := (Array.getElem?_eq_some_iff.1 hc1).1
  have hb2 : W2.heap[w.heap.size]? = some (.cells cur 5 (0, 0)) := by rw [hW2, Below.heap_alloc _ _ _ hw1]; exact hc1
  have hr2 : W2.heap[w1.heap.size]? = some (.cells #[.slice (some ⟨w.heap.size, 0, none⟩) T T] 59 (0, 0)) := by rw [hW2]; exact heap_alloc_new _ _
  have hok : PcOk B W2 ⟨w.heap.size, 0, T, text ps⟩ := ⟨by simp only [hT]; exact h0, by simp only [hT]; exact Nat.le_refl _, by unfold maxLen; simp only; omega, hB, cur, (0, 0), hb2, by simp only; omega, fun j hj => by simp, fun j u hu => by rw [Nat.zero_add]; exact hc3 j u hu⟩
  have ho : W2.ownsRow B 59 1 (.slice (some ⟨w1.heap.size, 0, none⟩) 1 1) ([⟨w.heap.size, 0, T, text ps⟩] : List Pc).length (([⟨w.heap.size, 0, T, text ps⟩] : List Pc).map Pc.val) := by
    refine own_of_cells (cap := 1) (by omega) hr2 rfl (by unfold maxLen; omega) (Nat.le_refl _) rfl (fun j hj => ?_)
    obtain rfl : j = 0 := by simp at hj; omega
    simp [World.cell?, hr2, Pc.val, hT]
  obtain ⟨_, _, x3, x4⟩ := row_turn h hblk hown hbe (grown_refl W2 _) ho (fun p hp => by simp at hp; subst hp; exact hok) (List.pairwise_singleton _ _)
  rw [hW2] at x3 x4
  exact ⟨_, by simp [text_cons, text_nil], x3, x4⟩

set_option maxHeartbeats 1000000 in
theorem gather_many (B b g cap T : Nat) (most len : Int) (ps : List Pc) (es : List Ed) (w : World) (bv : Value) (h : BufIs B b most len ps es w)
    (hblk : w.heap[b]? = some (.cells #[.int .i64 most, .int .i64 len, .slice (some ⟨g, 0, none⟩) ps.length cap, bv] 54 (0, 0))) (hown : w.ownsRow B 59 1 (.slice (some ⟨g, 0, none⟩) ps.length cap) ps.length (ps.map Pc.val))
    (hT : (text ps).length = T) (hT2 : T ≤ 1000000) (hB : B ≤ w.heap.size) (hn : 64 < ps.length)
    (hcell : ∀ (j : Nat) p, ps[j]? = some p → w.cell? ⟨g, j, none⟩ = some p.val) (hcap : ps.length ≤ cap) (hc63 : cap ≤ 9223372036854775807) :
    Calls Try.prog 25 #[.pointer (some ⟨b, 0, none⟩)] w fun e w' => e = .returned (.tuple #[]) ∧ ∃ ps', text ps' = text ps ∧ BufIs B b most len ps' es w' ∧ Kept [59, 54] B w w' := by
  have c2 : w.cell? ⟨b, 2, none⟩ = some (.slice (some ⟨g, 0, none⟩) ps.length cap) := by simp [World.cell?, hblk]
  have hbw : b < w.heap.size := (Array.getElem?_eq_some_iff.1 hblk).1
  have f2 : w.frozen? ⟨b, 2, none⟩ = false := by simp [World.frozen?, hblk]
  have hfl := full_le ps h.full
  have HH : Hid (BufIs B b most len ps es w) := h
  have HBK : Hid (w.heap[b]? = some (.cells #[.int .i64 most, .int .i64 len, .slice (some ⟨g, 0, none⟩) ps.length cap, bv] 54 (0, 0))) := hblk
  have HT : Hid ((text ps).length = T) := hT
  have HCE : Hid (∀ (j : Nat) p, ps[j]? = some p → w.cell? ⟨g, j, none⟩ = some p.val) := hcell
  have hT0 : ps.length ≤ T := by omega
  have hn2 : 2 ≤ ps.length := by omega
  clear h hblk hT hcell hfl
  go_enter Try.func25, Try.ntmps25
  go_wp2_with (go_at_call 30; refine (join_any B g ps.length cap T ps _ rfl hn2 hcap HT.out hT2 HCE.out HH.out.pcs hc63).mono ?_)
  rintro e w1 ⟨rfl, hj⟩
  have d2 : w1.cell? ⟨b, 2, none⟩ = some (.slice (some ⟨g, 0, none⟩) ps.length cap) := (hj.below.cell (p := ⟨b, 2, none⟩) hbw).trans c2
  have d3 : w1.frozen? ⟨b, 2, none⟩ = false := (hj.below.frozen (p := ⟨b, 2, none⟩) hbw).trans f2
  have d4 : b < w1.heap.size := by have := hj.below.size; omega
  obtain ⟨ps', e1, e2, e3⟩ := gather_mem HH.out HBK.out hown HT.out (by omega) hT2 hj hB
  have E1 : Hid (text ps' = text ps) := e1
  rw [World.setCell_alloc_past _ _ _ _ d4] at e2 e3
  clear e1
  go_wp2_with fail
  (try simp only [Exit.inBlock, Exit.then])
  refine bodyPost_end (results_none rfl _ _ _) rfl ?_
  exact ⟨rfl, ps', E1.out, e2, e3⟩

theorem gather_any (B b : Nat) (most len : Int) (ps : List Pc) (es : List Ed) (w : World) (h : BufIs B b most len ps es w) (hsz : (text ps).length ≤ 1000000) (hB : B ≤ w.heap.size) :
    Calls Try.prog 25 #[.pointer (some ⟨b, 0, none⟩)] w fun e w' => e = .returned (.tuple #[]) ∧ ∃ ps', text ps' = text ps ∧ BufIs B b most len ps' es w' ∧ Kept [59, 54] B w w' := by
  obtain ⟨pv, bv, k0, k1, k2, k3, hbw, hbk, hp, he⟩ := h.cells
  obtain ⟨po, cap, hpv, hpc, hpm, hpcs⟩ := own_pieces hp
  subst hpv
  by_cases hn : ps.length ≤ 64
  · refine (gather_few b ps.length cap po w k2 hn).mono ?_
    rintro e w' ⟨her, rfl⟩
    exact ⟨her, ps, rfl, h, Kept.refl _ _ _⟩
  · obtain ⟨p0, hp0⟩ : ∃ p, ps[0]? = some p := ⟨_, List.getElem?_eq_getElem (by omega)⟩
    obtain ⟨g, hpo, _⟩ := hpcs 0 p0 hp0
    subst hpo
    refine gather_many B b g cap _ most len ps es w bv h hbk hp rfl hsz hB (by omega) (fun j p hj => ?_) hpc (by unfold maxLen at hpm; exact hpm)
    obtain ⟨g', e, _, _, hc, _⟩ := hpcs j p hj
    simp only [Option.some.injEq, Addr.mk.injEq, and_true] at e
    subst e; exact hc
end Go.Proofs.Ytfphmdkbcibcmaa
