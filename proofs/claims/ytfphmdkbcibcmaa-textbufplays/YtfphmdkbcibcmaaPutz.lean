/- (textbuf.Buf).put ahead of all pieces; put whole. -/
import Derived.Test.YtfphmdkbcibcmaaPutw
namespace Go.Proofs.Ytfphmdkbcibcmaa
open Go.RowKit

/-- A buffer whose row of pieces has been turned by a step that wrote that row alone, and then stored back. -/
theorem row_turn {B b : Nat} {most len : Int} {ps ps' : List Pc} {es : List Ed} {w W2 w3 : World} {pv bv v' : Value} (h : BufIs B b most len ps es w)
    (hblk : w.heap[b]? = some (.cells #[.int .i64 most, .int .i64 len, pv, bv] 54 (0, 0))) (hown : w.ownsRow B 59 1 pv ps.length (ps.map Pc.val)) (hb : Below w.heap.size w W2) (hg3 : W2.grownBy w3 pv.ownBlock)
    (ho3 : w3.ownsRow B 59 1 v' ps'.length (ps'.map Pc.val)) (hp : ∀ p ∈ ps', PcOk B W2 p) (ha : ps'.Pairwise Pc.apart) :
    w3.cell? ⟨b, 2, none⟩ = some pv ∧ w3.frozen? ⟨b, 2, none⟩ = false ∧ BufIs B b most len ps' es (w3.setCell ⟨b, 2, none⟩ v') ∧ Kept [59, 54] B w (w3.setCell ⟨b, 2, none⟩ v') := by
  have hbw : b < w.heap.size := (Array.getElem?_eq_some_iff.1 hblk).1
  have hrow : ∀ k, pv.ownBlock = some k → B ≤ k ∧ ∃ c, W2.heap[k]? = some (.cells c 59 (0, 0)) := fun k hk => by
    rcases (own_open hown).2 with ⟨hv, _⟩ | ⟨g, cap, cur, hv, hB, hgb, _, _, _, _, _, _, hlt, _⟩
    · rw [hv] at hk; simp [Value.ownBlock] at hk
    · rw [hv] at hk; simp [Value.ownBlock] at hk; subst hk
      exact ⟨hB, cur, by rw [hb.block g hlt]; exact hgb⟩
  have hb2 : W2.heap[b]? = some (.cells #[.int .i64 most, .int .i64 len, pv, bv] 54 (0, 0)) := by rw [hb.block b hbw]; exact hblk
  have hne : some b ≠ pv.ownBlock := fun e => by
    obtain ⟨_, c, hc⟩ := hrow b e.symm
    rw [hb2] at hc; simp at hc
  have hb3 : w3.heap[b]? = some (.cells #[.int .i64 most, .int .i64 len, pv, bv] 54 (0, 0)) := by rw [hg3.block b (Array.getElem?_eq_some_iff.1 hb2).1 hne]; exact hb2
  have K3 : Kept [59, 54] B w w3 := (Kept.ofBelow hb).trans (Kept.ofGrown hg3 (fun k hk => by
    obtain ⟨h1, c, hc⟩ := hrow k hk
    exact ⟨h1, c, 59, (0, 0), hc, by simp⟩))
  have K4 : Kept [59, 54] B w (w3.setCell ⟨b, 2, none⟩ v') := K3.setCell (p := ⟨b, 2, none⟩) hb3 (by simp) h.hb _
  have hb4 : (w3.setCell ⟨b, 2, none⟩ v').heap[b]? = some (.cells #[.int .i64 most, .int .i64 len, v', bv] 54 (0, 0)) := by simp [World.setCell, Array.getElem?_modify, hb3]
  refine ⟨by simp [World.cell?, hb3], by simp [World.frozen?, hb3], h.turn K4 (by simp) ⟨_, bv, hblk, hb4⟩ ?_ ?_ ha, K4⟩
  · refine ⟨ho3.1, ?_⟩
    rcases ho3.2 with hn | ⟨g2, c2, cu2, hv2, hB2, hg2, rest⟩
    · exact .inl hn
    · refine .inr ⟨g2, c2, cu2, hv2, hB2, ?_, rest⟩
      rw [Below.heap_setCell _ _ _ _ (fun e => by simp only at e; rw [e, hb3] at hg2; simp at hg2)]
      exact hg2
  · intro q hq
    have hqo := hp q hq
    obtain ⟨c, m, hc, _⟩ := hqo.blk
    have h1 : w3.heap[q.g]? = W2.heap[q.g]? := hg3.block q.g hqo.lt (fun e => by
      obtain ⟨_, c', hc'⟩ := hrow q.g e.symm
      rw [hc] at hc'; simp at hc')
    refine (hqo.same h1).same (Below.heap_setCell _ _ _ _ (fun e => ?_))
    simp only at e
    rw [← h1, e, hb3] at hc; simp at hc

theorem Pc.list_nil_apart (p : Pc) (ps : List Pc) (h : ps.Pairwise Pc.apart) (hp : ∀ q ∈ ps, p.apart q) : (p :: ps).Pairwise Pc.apart := List.pairwise_cons.2 ⟨hp, h⟩

/-- The insert of a new first piece, at the call. -/
theorem first_call {B b cap G : Nat} {po : Option Addr} {most len : Int} {ps : List Pc} {es : List Ed} {w BW : World} {bv : Value} {s : ByteArray} (h : BufIs B b most len ps es w)
    (hblk : w.heap[b]? = some (.cells #[.int .i64 most, .int .i64 len, .slice po ps.length cap, bv] 54 (0, 0))) (hown : w.ownsRow B 59 1 (.slice po ps.length cap) ps.length (ps.map Pc.val))
    (hBW : BW = Lib.bytesWorld w 5 s) (hG : G = grownCap w s.size 0 5) (hs0 : s.size ≠ 0) (hs : s.size ≤ 1000000) (hB : B ≤ w.heap.size) (hsz : ps.length ≤ 1000000) :
    Calls Try.prog 29 #[.slice po ps.length cap, .int .i64 0, .slice (some ⟨w.heap.size + 1, 0, none⟩) 1 1] (BW.alloc (.cells #[.slice (some ⟨w.heap.size, 0, none⟩) s.size G] 59))
      fun e w3 => ∃ ao n' c', e = .returned (.slice ao n' c') ∧ w3.cell? ⟨b, 2, none⟩ = some (.slice po ps.length cap) ∧ w3.frozen? ⟨b, 2, none⟩ = false ∧
        BufIs B b most len (⟨w.heap.size, 0, G, s.data.toList⟩ :: ps) es (w3.setCell ⟨b, 2, none⟩ (.slice ao n' c')) ∧ Kept [59, 54] B w (w3.setCell ⟨b, 2, none⟩ (.slice ao n' c')) := by
  have hsl : s.data.toList.length = s.size := Array.length_toList
  have hz := Lib.bytesWorld_size w 5 s
  rw [← hBW] at hz
  have hbe : Below w.heap.size w BW := by
    rw [hBW]
    refine ⟨?_, ?_, ?_, by rw [Lib.bytesWorld_size]; omega, fun k hk => Lib.bytesWorld_at_old w 5 s k hk⟩ <;> (unfold Lib.bytesWorld World.freeze; split <;> rfl)
  obtain ⟨W2, hW2⟩ : ∃ W2, W2 = BW.alloc (.cells #[.slice (some ⟨w.heap.size, 0, none⟩) s.size G] 59) := ⟨_, rfl⟩
  have hbe2 : Below w.heap.size w W2 := by rw [hW2]; exact hbe.alloc (by omega) _
  have hx2 : W2.heap[w.heap.size + 1]? = some (.cells #[.slice (some ⟨w.heap.size, 0, none⟩) s.size G] 59 (0, 0)) := by rw [hW2, ← hz]; exact heap_alloc_new _ _
  have ho2 : W2.ownsRow B 59 1 (.slice po ps.length cap) ps.length (ps.map Pc.val) := own_kept hown (Kept.ofBelow (T := []) (B := 0) hbe2) (by simp)
  have hnew : W2.heap[w.heap.size]? = some (.cells (Lib.bytesCells w 5 s) 5 ((Lib.bytesCells w 5 s).size, (Lib.bytesCells w 5 s).size + 1)) := by
    rw [hW2, Below.heap_alloc _ _ _ (by omega), hBW]; exact Lib.bytesWorld_at_new w 5 s
  have hGn : s.size ≤ G := by rw [hG]; exact grownCap_ge _ _ _ _
  have hGm : G ≤ maxLen := by rw [hG]; exact grownCap_le_maxLen _ _ _ _ (by unfold maxLen; omega)
  have hcs : (Lib.bytesCells w 5 s).size = G := by
    have : s.data.size = s.size := rfl
    simp only [Lib.bytesCells, Array.size_append, Array.size_map, Array.size_replicate, ← hG]; omega
  have hok : PcOk B W2 ⟨w.heap.size, 0, G, s.data.toList⟩ := by
    refine ⟨by simp only [hsl]; omega, by simp only [hsl]; omega, hGm, hB, _, _, hnew, by simp only; omega, fun j hj => by simp only at hj ⊢; omega, fun j u hu => ?_⟩
    simp only at hu ⊢
    have hjl := (List.getElem?_eq_some_iff.1 hu).1
    rw [Nat.zero_add]
    simp only [Lib.bytesCells]
    rw [Array.getElem?_append_left (by rw [Array.size_map]; show j < s.size; omega), Array.getElem?_map, ← Array.getElem?_toList, hu]; rfl
  rw [← hW2]
  refine (insert_at B _ (.slice (some ⟨w.heap.size, 0, none⟩) s.size G) ps.length 0 (w.heap.size + 1) 0 rfl (ps.map Pc.val) W2 ho2 hx2 rfl (vals_one ps) (by omega) hsz (by have := hbe2.size; omega) ?_).mono ?_
  · intro e
    rcases (own_open hown).2 with ⟨hv, _⟩ | ⟨g, c, cur, hv, _, _, _, _, _, _, _, _, hlt, _⟩
    · rw [hv] at e; simp [Value.ownBlock] at e
    · rw [hv] at e; simp [Value.ownBlock] at e; omega
  · rintro e w3 ⟨ao, n', c', he, ho3, hg3⟩
    have hval : Pc.val ⟨w.heap.size, 0, G, s.data.toList⟩ = .slice (some ⟨w.heap.size, 0, none⟩) s.size G := by simp only [Pc.val, hsl]
    have ho4 : w3.ownsRow B 59 1 (.slice ao n' c') (⟨w.heap.size, 0, G, s.data.toList⟩ :: ps : List Pc).length ((⟨w.heap.size, 0, G, s.data.toList⟩ :: ps : List Pc).map Pc.val) := by
      rw [List.map_cons, hval, List.length_cons]; simpa using ho3
    obtain ⟨x1, x2, x3, x4⟩ := row_turn h hblk hown hbe2 hg3 ho4 (fun p hp => by
      rcases List.mem_cons.1 hp with rfl | hp
      · exact hok
      · exact (h.pcs p hp).same (hbe2.block p.g (h.pcs p hp).lt)) (Pc.list_nil_apart _ _ h.apart (fun q hq => .inl (by have := (h.pcs q hq).lt; show w.heap.size ≠ q.g; omega)))
    exact ⟨ao, n', c', he, x1, x2, x3, x4⟩

set_option maxHeartbeats 1000000 in
theorem put_first (B b cap : Nat) (po : Option Addr) (most len : Int) (ps : List Pc) (es : List Ed) (w : World) (bv : Value) (s : ByteArray) (h : BufIs B b most len ps es w)
    (hblk : w.heap[b]? = some (.cells #[.int .i64 most, .int .i64 len, .slice po ps.length cap, bv] 54 (0, 0))) (hown : w.ownsRow B 59 1 (.slice po ps.length cap) ps.length (ps.map Pc.val))
    (hs0 : s.size ≠ 0) (hs : s.size ≤ 1000000) (hB : B ≤ w.heap.size) (hsz : ps.length ≤ 1000000) :
    Calls Try.prog 24 #[.pointer (some ⟨b, 0, none⟩), .int .i64 0, .string s] w fun e w' => e = .returned (.tuple #[]) ∧ ∃ p' : Pc, p'.bs = s.data.toList ∧ BufIs B b most len (p' :: ps) es w' ∧ Kept [59, 54] B w w' := by
  obtain ⟨BW, hBW⟩ : ∃ BW, BW = Lib.bytesWorld w 5 s := ⟨_, rfl⟩
  obtain ⟨G, hG⟩ : ∃ G, G = grownCap w s.size 0 5 := ⟨_, rfl⟩
  have hconv : (convert 9 59 (.string s)).run Try.prog w = .ok (.slice (some ⟨w.heap.size, 0, none⟩) s.size G) BW := by
    rw [hBW, hG]; exact Lib.run_convert_string_bytes w 9 59 5 s Try.underlying9 Try.underlying59 Try.underlying5
  have hz : BW.heap.size = w.heap.size + 1 := by rw [hBW]; exact Lib.bytesWorld_size w 5 s
  have c2 : w.cell? ⟨b, 2, none⟩ = some (.slice po ps.length cap) := by simp [World.cell?, hblk]
  have h0 : s.toList.isEmpty = false := by rw [empty_iff]; simp [hs0]
  have hcall := first_call h hblk hown hBW hG hs0 hs hB hsz
  have HC : Hid (BW = Lib.bytesWorld w 5 s ∧ G = grownCap w s.size 0 5) := ⟨hBW, hG⟩
  clear hBW hG hcall
  go_enter Try.func24, Try.ntmps24
  go_wp2_with (go_at_call 29; refine (first_call h hblk hown HC.out.1 HC.out.2 hs0 hs hB hsz).mono ?_; rintro e w3 ⟨ao, n', c', rfl, x1, x2, x3, x4⟩)
  all_goals
    (try simp only [Exit.inBlock, Exit.then])
    refine bodyPost_end (results_none rfl _ _ _) rfl ?_
    exact ⟨rfl, _, rfl, x3, x4⟩
end Go.Proofs.Ytfphmdkbcibcmaa
namespace Go.Proofs.Ytfphmdkbcibcmaa
open Go.RowKit

theorem text_set (ps : List Pc) (k : Nat) (p p' : Pc) (x : List UInt8) (hp : ps[k]? = some p) (hb : p'.bs = p.bs ++ x) : text (ps.set k p') = text (ps.take k) ++ p.bs ++ x ++ text (ps.drop (k + 1)) := by
  have hk : k < ps.length := (List.getElem?_eq_some_iff.1 hp).1
  rw [List.set_eq_take_append_cons_drop, if_pos hk, text_append, text_cons, hb]
  simp [List.append_assoc]

/-- put, whole: behind the pieces a, ahead of the pieces d. -/
theorem put_any (B b : Nat) (most len : Int) (a d : List Pc) (es : List Ed) (w : World) (s : ByteArray) (h : BufIs B b most len (a ++ d) es w) (hsz : (text (a ++ d)).length + s.size ≤ 1000000) (hB : B ≤ w.heap.size) :
    Calls Try.prog 24 #[.pointer (some ⟨b, 0, none⟩), .int .i64 (a.length : Nat), .string s] w fun e w' => e = .returned (.tuple #[]) ∧ ∃ ps', text ps' = text a ++ s.data.toList ++ text d ∧ BufIs B b most len ps' es w' ∧ Kept [59, 54, 5] B w w' := by
  by_cases hs : s.size = 0
  · refine (put_nothing b _ s w hs).mono ?_
    rintro e w' ⟨he, rfl⟩
    have hsl : s.data.toList.length = s.size := Array.length_toList
    have : s.data.toList = [] := List.eq_nil_of_length_eq_zero (by omega)
    exact ⟨he, a ++ d, by rw [this, text_append]; simp, h, Kept.refl _ _ _⟩
  · obtain ⟨pv, bv, k0, k1, k2, k3, hbw, hbk, hp, he⟩ := h.cells
    have hfl := full_le _ h.full
    obtain ⟨po, cap, hpv, hpc, hpm, hpcs⟩ := own_pieces hp
    subst hpv
    rcases List.eq_nil_or_concat a with rfl | ⟨a', p, rfl⟩
    · refine (put_first B b cap po most len d es w bv s h hbk hp hs (by omega) hB (by simp at hfl; simp at hsz; omega)).mono ?_
      rintro e w' ⟨he, p', hp', hb', hk'⟩
      exact ⟨he, p' :: d, by rw [text_cons, hp']; rfl, hb', hk'.mono (by simp)⟩
    · rw [List.concat_eq_append] at *
      have hpk : (a' ++ [p] ++ d)[a'.length]? = some p := by simp
      obtain ⟨g, hpo, _⟩ := hpcs a'.length p hpk
      subst hpo
      have hpl : p.bs.length ≤ (text (a' ++ [p] ++ d)).length := by rw [text_append, text_append, text_cons]; simp; omega
      have hi : ((a' ++ [p]).length : Int) = (a'.length : Int) + 1 := by simp
      rw [hi]
      refine (put_behind B b g cap a'.length most len _ es w p bv s h hbk hp hpk hB (by omega) hs (by omega)).mono ?_
      rintro e w' ⟨he, p', hp', hb', hk'⟩
      refine ⟨he, _, ?_, hb', hk'⟩
      rw [text_set _ _ p p' _ hpk hp']
      simp [text_append, text_cons, text_nil]

set_option maxHeartbeats 1000000 in
theorem gather_few (b n cap : Nat) (po : Option Addr) (w : World) (c2 : w.cell? ⟨b, 2, none⟩ = some (.slice po n cap)) (hn : n ≤ 64) :
    Calls Try.prog 25 #[.pointer (some ⟨b, 0, none⟩)] w fun e w' => e = .returned (.tuple #[]) ∧ w' = w := by
  go_enter Try.func25, Try.ntmps25
  go_wp2_with fail
  (try simp only [Exit.inBlock, Exit.then])
  refine bodyPost_ret (results_none rfl _ _ _) rfl ?_
  exact ⟨rfl, rfl⟩
end Go.Proofs.Ytfphmdkbcibcmaa
