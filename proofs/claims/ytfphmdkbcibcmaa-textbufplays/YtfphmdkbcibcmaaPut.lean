/- What becomes of a buffer in memory when bytes are put behind one of its pieces. -/
import Derived.Test.YtfphmdkbcibcmaaSplit
namespace Go.Proofs.Ytfphmdkbcibcmaa
open Go.RowKit

theorem PcOk.of_cells {B : Nat} {w : World} {p : Pc} (ne : 0 < p.bs.length) (le : p.bs.length ≤ p.cap) (max : p.cap ≤ maxLen) (base : B ≤ p.g)
    (blk : ∃ cur m, w.heap[p.g]? = some (.cells cur 5 m) ∧ p.off + p.cap ≤ cur.size) (soft : ∀ j, j < p.cap → w.frozen? ⟨p.g, p.off + j, none⟩ = false)
    (cell : ∀ j u, p.bs[j]? = some u → w.cell? ⟨p.g, p.off + j, none⟩ = some (.int .u8 u.toNat)) : PcOk B w p := by
  obtain ⟨cur, m, hb, hs⟩ := blk
  refine ⟨ne, le, max, base, cur, m, hb, hs, fun j hj => ?_, fun j u hu => ?_⟩
  · have := soft j hj
    obtain ⟨lo, hi⟩ := m
    simp [World.frozen?, hb] at this
    simp; exact this
  · have := cell j u hu
    simpa [World.cell?, hb] using this

theorem pairwise_set (ps : List Pc) (k : Nat) (p p' : Pc) (hp : ps[k]? = some p) (h : ps.Pairwise Pc.apart) (ha : ∀ q ∈ ps, q.apart p → q.apart p') : (ps.set k p').Pairwise Pc.apart := by
  have hk : k < ps.length := (List.getElem?_eq_some_iff.1 hp).1
  have hs := split_at ps k p hp
  rw [List.set_eq_take_append_cons_drop, if_pos hk]
  have hmt : ∀ q ∈ ps.take k, q ∈ ps := fun q hq => List.mem_of_mem_take hq
  have hmd : ∀ q ∈ ps.drop (k + 1), q ∈ ps := fun q hq => List.mem_of_mem_drop hq
  rw [hs, List.pairwise_append, List.pairwise_cons] at h
  obtain ⟨h1, ⟨h2, h3⟩, h4⟩ := h
  rw [List.pairwise_append, List.pairwise_cons]
  refine ⟨h1, ⟨fun q hq => (ha q (hmd q hq) (h2 q hq).symm).symm, h3⟩, fun a hA q hq => ?_⟩
  rcases List.mem_cons.1 hq with rfl | hq
  · exact ha a (hmt a hA) (h4 a hA p (by simp))
  · exact h4 a hA q (by simp [hq])

/-- What 'append' of a string does behind a piece, and what is owed to the store that follows. -/
def PutMem (B b g cap k : Nat) (most len : Int) (ps : List Pc) (es : List Ed) (w : World) (p : Pc) (s : ByteArray) : Prop :=
  ∃ ao n' c' W', (∀ ty, (Builtin.append_ #[59, 9] ty #[.slice (some ⟨p.g, p.off, none⟩) p.bs.length p.cap, .string s]).run Try.prog w.drew = .ok (.slice ao n' c') W') ∧ W'.cell? ⟨g, k, none⟩ = some (.slice (some ⟨p.g, p.off, none⟩) p.bs.length p.cap) ∧ W'.frozen? ⟨g, k, none⟩ = false ∧
    W'.cell? ⟨b, 2, none⟩ = some (.slice (some ⟨g, 0, none⟩) ps.length cap) ∧
    ∃ p' : Pc, p'.bs = p.bs ++ s.data.toList ∧ BufIs B b most len (ps.set k p') es (W'.setCell ⟨g, k, none⟩ (.slice ao n' c')) ∧ Kept [59, 54, 5] B w (W'.setCell ⟨g, k, none⟩ (.slice ao n' c'))

theorem put_close {B b g cap k : Nat} {most len : Int} {ps : List Pc} {es : List Ed} {w W' : World} {p p' : Pc} {bv : Value} (h : BufIs B b most len ps es w)
    (hblk : w.heap[b]? = some (.cells #[.int .i64 most, .int .i64 len, .slice (some ⟨g, 0, none⟩) ps.length cap, bv] 54 (0, 0))) (hown : w.ownsRow B 59 1 (.slice (some ⟨g, 0, none⟩) ps.length cap) ps.length (ps.map Pc.val))
    (hpk : ps[k]? = some p) (K : Kept [59, 54, 5] B w W') (K5 : Kept [5] B w W') (hp' : PcOk B W' p') (hoth : ∀ q ∈ ps, q.apart p → PcOk B W' q) (hap : ∀ q ∈ ps, q.apart p → q.apart p') :
    BufIs B b most len (ps.set k p') es (W'.setCell ⟨g, k, none⟩ p'.val) ∧ Kept [59, 54, 5] B w (W'.setCell ⟨g, k, none⟩ p'.val) ∧ W'.cell? ⟨g, k, none⟩ = some p.val ∧ W'.frozen? ⟨g, k, none⟩ = false ∧ W'.cell? ⟨b, 2, none⟩ = some (.slice (some ⟨g, 0, none⟩) ps.length cap) := by
  have hk : k < ps.length := (List.getElem?_eq_some_iff.1 hpk).1
  have ho' := own_kept hown K5 (by simp)
  obtain ⟨g', cap', cur, hv, hBg, hgb, hcell, hsoft⟩ : ∃ g' cap' cur, (Value.slice (some ⟨g, 0, none⟩) ps.length cap) = .slice (some ⟨g', 0, none⟩) ps.length cap' ∧ B ≤ g' ∧ W'.heap[g']? = some (.cells cur 59 (0, 0)) ∧ (∀ (j : Nat) u, (ps.map Pc.val)[j]? = some u → W'.cell? ⟨g', j, none⟩ = some u) ∧ ∀ j, W'.frozen? ⟨g', j, none⟩ = false := by
    rcases (own_open ho').2 with ⟨hv, _⟩ | ⟨g', cap', cur, hv, hB, hb, _, _, _, hc, _, hf, _⟩
    · cases hv
    · exact ⟨g', cap', cur, hv, hB, hb, hc, hf⟩
  simp only [Value.slice.injEq, Option.some.injEq, Addr.mk.injEq, and_true, true_and] at hv
  obtain ⟨rfl, rfl⟩ := hv
  have hb' := K5.at hblk (by simp)
  have hbg : b ≠ g := fun e => by rw [e, hgb] at hb'; simp at hb'
  have K2 : Kept [59, 54, 5] B w (W'.setCell ⟨g, k, none⟩ p'.val) := K.setCell (p := ⟨g, k, none⟩) hgb (by simp) hBg _
  have hb2 : (W'.setCell ⟨g, k, none⟩ p'.val).heap[b]? = _ := (Below.heap_setCell W' ⟨g, k, none⟩ _ b hbg).trans hb'
  have hpg : ∀ q, PcOk B W' q → PcOk B (W'.setCell ⟨g, k, none⟩ p'.val) q := fun q hq => hq.same (Below.heap_setCell W' ⟨g, k, none⟩ _ q.g (fun e => by
    obtain ⟨c, m, hc, _⟩ := hq.blk
    simp only at e
    rw [e, hgb] at hc; simp at hc))
  have hpw := List.pairwise_iff_getElem.1 h.apart
  refine ⟨h.turn K2 (by simp) ⟨_, bv, hblk, hb2⟩ ?_ ?_ (pairwise_set ps k p p' hpk h.apart hap), K2, ?_, hsoft k, by simp [World.cell?, hb']⟩
  · have := own_set ho' p'.val hk
    rw [← List.map_set] at this
    rw [List.length_set]; exact this
  · intro q hq
    obtain ⟨i, hi⟩ := List.mem_iff_getElem?.1 hq
    by_cases hik : i = k
    · subst hik
      rw [List.getElem?_set_self hk] at hi
      simp at hi; subst hi; exact hpg _ hp'
    · rw [List.getElem?_set_ne (by omega)] at hi
      refine hpg _ (hoth q (List.mem_of_getElem? hi) ?_)
      obtain ⟨hil, rfl⟩ := List.getElem?_eq_some_iff.1 hi
      obtain ⟨_, rfl⟩ := List.getElem?_eq_some_iff.1 hpk
      rcases Nat.lt_or_ge i k with hlt | hge
      · exact hpw i k hil hk hlt
      · exact (hpw k i hk hil (by omega)).symm
  · exact hcell k p.val (by rw [List.getElem?_map, hpk]; rfl)

theorem put_mem {B b g cap k : Nat} {most len : Int} {ps : List Pc} {es : List Ed} {w : World} {p : Pc} {bv : Value} {s : ByteArray} (h : BufIs B b most len ps es w)
    (hblk : w.heap[b]? = some (.cells #[.int .i64 most, .int .i64 len, .slice (some ⟨g, 0, none⟩) ps.length cap, bv] 54 (0, 0))) (hown : w.ownsRow B 59 1 (.slice (some ⟨g, 0, none⟩) ps.length cap) ps.length (ps.map Pc.val))
    (hpk : ps[k]? = some p) (hB : B ≤ w.heap.size) (hsz : p.bs.length + s.size ≤ 1000000) : PutMem B b g cap k most len ps es w p s := by
  obtain ⟨i0, hi0, hz0, hzs, hzb⟩ := info_parts info5
  have hok := h.pcs p (List.mem_of_getElem? hpk)
  have hsrc : ∀ W, Src Try.prog i0.size 9 (.string s) s.size (Go.byteCells s) W := fun W => by rw [hzs]; exact Src.ofString W Try.underlying9 s
  have hbl := Go.byteCells_length s
  have hsl : s.data.toList.length = s.size := Array.length_toList
  by_cases hroom : p.bs.length + s.size ≤ p.cap
  · have hr : ∀ ty, (Builtin.append_ #[59, 9] ty #[.slice (some ⟨p.g, p.off, none⟩) p.bs.length p.cap, .string s]).run Try.prog w.drew = .ok (.slice (some ⟨p.g, p.off, none⟩) (p.bs.length + s.size) p.cap) (w.drew.setCells p.g (p.off + p.bs.length * i0.size) (Go.byteCells s)) := fun ty =>
      run_append_room_src w.drew 59 9 ty 5 i0 Try.underlying59 hi0 p.g p.off p.bs.length p.cap (.string s) s.size (Go.byteCells s) (hsrc _) hroom
        (fun j hj => by rw [hzs, Nat.mul_one, Nat.add_assoc]; exact hok.there _ (by omega)) (fun j hj => by rw [hzs, Nat.mul_one, Nat.add_assoc]; exact hok.soft _ (by omega))
    obtain ⟨W', hW'⟩ : ∃ W', W' = w.drew.setCells p.g (p.off + p.bs.length) (Go.byteCells s) := ⟨_, rfl⟩
    rw [hzs, Nat.mul_one, ← hW'] at hr
    obtain ⟨cur, m, hcb, hcs, hcm, hcc⟩ := hok.blk
    have hgr : w.grownBy W' (some p.g) := by rw [hW']; exact grown_trans (grown_drew w _) (grown_setCells _ _ _ _)
    have K5 : Kept [5] B w W' := Kept.ofGrown hgr (fun r hr => by simp at hr; subst hr; exact ⟨hok.base, _, _, _, hcb, by simp⟩)
    obtain ⟨cur', hb', hs'⟩ := setCells_blk p.g 5 m (Go.byteCells s) (p.off + p.bs.length) w.drew cur hcb
    rw [← hW'] at hb'
    have hfz : ∀ x, W'.frozen? x = w.frozen? x := fun x => by rw [hW', World.frozen?_setCells]; rfl
    have hout : ∀ x : Addr, (x.block = p.g → x.spot = none → x.off < p.off + p.bs.length ∨ p.off + p.bs.length + s.size ≤ x.off) → W'.cell? x = w.cell? x := fun x hx => by
      rw [hW', World.cell?_setCells_out p.g (Go.byteCells s) _ w.drew x (fun a b => by rw [hbl]; exact hx a b)]; rfl
    have hoth : ∀ q ∈ ps, q.apart p → PcOk B W' q := fun q hq hap => by
      have hqo := h.pcs q hq
      by_cases hg : q.g = p.g
      · obtain ⟨cq, mq, hq1, hq2, _⟩ := hqo.blk
        rw [hg, hcb] at hq1
        simp only [Option.some.injEq, Obj.cells.injEq, true_and] at hq1
        obtain ⟨rfl, rfl⟩ := hq1
        refine PcOk.of_cells hqo.ne hqo.le hqo.max hqo.base ⟨cur', m, by rw [hg]; exact hb', by omega⟩ (fun j hj => by rw [hfz]; exact hqo.soft j hj) (fun j u hu => ?_)
        have hjl := (List.getElem?_eq_some_iff.1 hu).1
        have := hqo.le
        rw [hout _ (fun _ _ => by
          rcases hap with hap | hap | hap
          · exact absurd hg hap
          · left; show q.off + j < _; omega
          · right; show _ ≤ q.off + j; omega)]
        exact hqo.cell j u hu
      · exact hqo.same (hgr.block q.g hqo.lt (by simpa using hg))
    have hp' : PcOk B W' ⟨p.g, p.off, p.cap, p.bs ++ s.data.toList⟩ := by
      refine PcOk.of_cells (by simp; have := hok.ne; omega) (by simp; omega) hok.max hok.base ⟨cur', m, hb', by simp; omega⟩ (fun j hj => by rw [hfz]; exact hok.soft j hj) (fun j u hu => ?_)
      by_cases hjl : j < p.bs.length
      · rw [List.getElem?_append_left hjl] at hu
        rw [hout _ (fun _ _ => by left; show p.off + j < _; omega)]
        exact hok.cell j u hu
      · rw [List.getElem?_append_right (by omega)] at hu
        have hjl2 := (List.getElem?_eq_some_iff.1 hu).1
        have := World.cell?_setCells_in p.g (Go.byteCells s) (p.off + p.bs.length) w.drew (fun t ht => by rw [Nat.add_assoc]; exact hok.there _ (by omega)) (j - p.bs.length) (by omega)
        rw [← hW', show p.off + p.bs.length + (j - p.bs.length) = p.off + j by omega] at this
        show W'.cell? ⟨p.g, p.off + j, none⟩ = _
        rw [this]
        simp only [Go.byteCells, List.getElem_map]
        rw [(List.getElem?_eq_some_iff.1 hu).2]
    obtain ⟨c1, c2, c3, c4, c5⟩ := put_close h hblk hown hpk (K5.mono (by simp)) K5 hp' hoth (fun q _ hq => hq)
    have hval : Pc.val ⟨p.g, p.off, p.cap, p.bs ++ s.data.toList⟩ = .slice (some ⟨p.g, p.off, none⟩) (p.bs.length + s.size) p.cap := by simp only [Pc.val, List.length_append, hsl]
    rw [hval] at c1 c2
    exact ⟨_, _, _, W', hr, c3, c4, c5, ⟨p.g, p.off, p.cap, p.bs ++ s.data.toList⟩, rfl, c1, c2⟩
  · have hold : (Builtin.firstCells i0.size p.bs.length (.slice (some ⟨p.g, p.off, none⟩) p.bs.length p.cap)).run Try.prog w.drew.drew = .ok (p.bs.map fun u => Value.int .u8 u.toNat).toArray w.drew.drew := by
      rw [hzs]
      refine run_firstCells_some w.drew.drew 1 p.bs.length ⟨p.g, p.off, none⟩ p.bs.length p.cap (p.bs.map fun u => Value.int .u8 u.toNat) (by simp) (fun j v hj => ?_)
      rw [Addr.add_lit]
      rw [List.getElem?_map, Option.map_eq_some_iff] at hj
      obtain ⟨u, hu, rfl⟩ := hj
      exact hok.cell j u hu
    have hr := fun ty => run_append_grow_src w.drew 59 9 ty 5 i0 _ Try.underlying59 hi0 hz0 (some ⟨p.g, p.off, none⟩) p.bs.length p.cap _ hold (.string s) s.size (Go.byteCells s) (hsrc _) (by omega) (by omega) (by rw [hzb]; exact growslice_fits (by omega) (by omega))
    obtain ⟨G, hG⟩ : ∃ G, G = grownCap w.drew (p.bs.length + s.size) p.cap 5 := ⟨_, rfl⟩
    have hGn : p.bs.length + s.size ≤ G := by rw [hG]; exact grownCap_ge _ _ _ _
    have hGm : G ≤ maxLen := by rw [hG]; exact grownCap_le_maxLen _ _ _ _ (by unfold maxLen; omega)
    rw [← hG] at hr
    obtain ⟨ROW, hROW⟩ : ∃ ROW : Array Value, ROW = ((p.bs.map fun u => Value.int .u8 u.toNat) ++ Go.byteCells s).toArray ++ Builtin.zeroCells (Value.int .u8 0).cells (G - (p.bs.length + s.size)) := ⟨_, rfl⟩
    rw [← hROW] at hr
    obtain ⟨W', hW'⟩ : ∃ W', W' = w.drew.drew.alloc (.cells ROW 5) := ⟨_, rfl⟩
    rw [← hW'] at hr
    have hRs : ROW.size = G := by rw [hROW]; simp [Builtin.zeroCells, Value.cells, hbl]; omega
    have K5 : Kept [5] B w W' := by rw [hW']; exact ((Kept.refl _ _ _).drew.drew).alloc _
    have hbl2 : Below w.heap.size w W' := by rw [hW']; exact ((Below.refl _ _).drew.drew).alloc (Nat.le_refl _) _
    have hb' : W'.heap[w.heap.size]? = some (.cells ROW 5 (0, 0)) := by rw [hW']; exact heap_alloc_new w.drew.drew _
    have hp' : PcOk B W' ⟨w.heap.size, 0, G, p.bs ++ s.data.toList⟩ := by
      refine PcOk.of_cells (by simp; have := hok.ne; omega) (by simp; omega) hGm hB ⟨ROW, (0, 0), hb', by simp; omega⟩ (fun j hj => by simp [World.frozen?, hb']) (fun j u hu => ?_)
      have hjl := (List.getElem?_eq_some_iff.1 hu).1
      simp only [World.cell?, hb', hROW, Nat.zero_add]
      simp only [List.length_append] at hjl
      rw [Array.getElem?_append_left (by simp [hbl]; omega)]
      have e : (p.bs.map fun u => Value.int .u8 (u.toNat : Int)) ++ Go.byteCells s = (p.bs ++ s.data.toList).map fun u => Value.int .u8 (u.toNat : Int) := by simp [Go.byteCells]
      simp only [e, Option.isSome_none, Bool.false_eq_true, if_false]
      simp only [List.getElem?_toArray, List.getElem?_map]
      rw [hu]; rfl
    obtain ⟨c1, c2, c3, c4, c5⟩ := put_close h hblk hown hpk (K5.mono (by simp)) K5 hp' (fun q hq _ => (h.pcs q hq).same (hbl2.block q.g (h.pcs q hq).lt)) (fun q hq _ => .inl (by have := (h.pcs q hq).lt; show q.g ≠ w.heap.size; omega))
    have hval : Pc.val ⟨w.heap.size, 0, G, p.bs ++ s.data.toList⟩ = .slice (some ⟨w.heap.size, 0, none⟩) (p.bs.length + s.size) G := by simp only [Pc.val, List.length_append, hsl]
    rw [hval] at c1 c2
    exact ⟨_, _, _, W', hr, c3, c4, c5, ⟨w.heap.size, 0, G, p.bs ++ s.data.toList⟩, rfl, c1, c2⟩
end Go.Proofs.Ytfphmdkbcibcmaa
