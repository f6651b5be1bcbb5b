/- (textbuf.Buf).part: the text between two places, as a new string; nothing old turns. -/
import Derived.Test.YtfphmdkbcibcmaaWrite
namespace Go.Proofs.Ytfphmdkbcibcmaa
open Go.RowKit

theorem BufIs.cells {B b : Nat} {most len : Int} {ps : List Pc} {es : List Ed} {w : World} (h : BufIs B b most len ps es w) :
    ∃ pv bv, w.cell? ⟨b, 0, none⟩ = some (.int .i64 most) ∧ w.cell? ⟨b, 1, none⟩ = some (.int .i64 len) ∧ w.cell? ⟨b, 2, none⟩ = some pv ∧ w.cell? ⟨b, 3, none⟩ = some bv ∧ b < w.heap.size ∧
      w.heap[b]? = some (.cells #[.int .i64 most, .int .i64 len, pv, bv] 54 (0, 0)) ∧ w.ownsRow B 59 1 pv ps.length (ps.map Pc.val) ∧ w.ownsRow B 31 3 bv es.length (es.flatMap Ed.cells) := by
  obtain ⟨pv, bv, hb, hp, he⟩ := h.blk
  refine ⟨pv, bv, ?_, ?_, ?_, ?_, (Array.getElem?_eq_some_iff.1 hb).1, hb, hp, he⟩ <;> simp [World.cell?, hb]

/-- The row of pieces, as a slice value and its cells. -/
theorem own_pieces {w : World} {B : Nat} {pv : Value} {ps : List Pc} (h : w.ownsRow B 59 1 pv ps.length (ps.map Pc.val)) :
    ∃ po cap, pv = .slice po ps.length cap ∧ ps.length ≤ cap ∧ cap ≤ maxLen ∧ ∀ (j : Nat) p, ps[j]? = some p → ∃ g, po = some ⟨g, 0, none⟩ ∧ B ≤ g ∧ g < w.heap.size ∧ w.cell? ⟨g, j, none⟩ = some p.val ∧ (∀ j, w.frozen? ⟨g, j, none⟩ = false) ∧ ∃ cur, w.heap[g]? = some (.cells cur 59 (0, 0)) := by
  obtain ⟨hl, hop⟩ := own_open h
  rcases hop with ⟨rfl, h0⟩ | ⟨g, cap, cur, rfl, hB, hb, hn, hm, hs, hc, ht, hf, hlt, hsh⟩
  · refine ⟨none, 0, by rw [h0], by omega, Nat.zero_le _, fun j p hj => ?_⟩
    rw [List.length_eq_zero_iff.1 h0] at hj; simp at hj
  · exact ⟨some ⟨g, 0, none⟩, cap, rfl, hn, hm, fun j p hj => ⟨g, rfl, hB, hlt, hc j p.val (by rw [List.getElem?_map, hj]; rfl), hf, cur, hb⟩⟩

theorem cut_more (A bs : List UInt8) (f t : Nat) : ((A ++ bs).take t).drop f = (A.take t).drop f ++ (bs.take (t - A.length)).drop (f - A.length) := by
  rw [List.take_append, List.drop_append]
  congr 1
  by_cases h : A.length ≤ t
  · rw [List.length_take, Nat.min_eq_right h]
  · rw [show t - A.length = 0 by omega]; simp

theorem text_take_succ (ps : List Pc) (k : Nat) (p : Pc) (hp : ps[k]? = some p) : text (ps.take (k + 1)) = text (ps.take k) ++ p.bs := by
  have hk : k < ps.length := (List.getElem?_eq_some_iff.1 hp).1
  rw [List.take_succ_eq_append_getElem hk, text_append, text_cons, text_nil, List.append_nil]
  congr 2; exact (List.getElem?_eq_some_iff.1 hp).2

theorem text_take_le (ps : List Pc) (k : Nat) : (text (ps.take k)).length ≤ (text ps).length := by
  have : text ps = text (ps.take k) ++ text (ps.drop k) := by rw [← text_append, List.take_append_drop]
  rw [this, List.length_append]; omega

set_option maxHeartbeats 1000000 in
theorem part_any (B b : Nat) (most len : Int) (ps : List Pc) (es : List Ed) (w : World) (f t : Nat) (h : BufIs B b most len ps es w) (hft : f ≤ t) (ht : t ≤ (text ps).length) (hsz : (text ps).length ≤ 1000000) :
    Calls Try.prog 21 #[.pointer (some ⟨b, 0, none⟩), .int .i64 f, .int .i64 t] w fun e w' => e = .returned (.string ⟨(((text ps).take t).drop f).toArray⟩) ∧ Below w.heap.size w w' := by
  obtain ⟨pv, bv, k0, k1, k2, k3, hbw, hbk, hp, he⟩ := h.cells
  have hfl := full_le ps h.full
  obtain ⟨po, cap, hpv, hpc, hpm, hpcs⟩ := own_pieces hp
  subst hpv
  have hpcs' : Hid (∀ (j : Nat) p, ps[j]? = some p → ∃ g, po = some ⟨g, 0, none⟩ ∧ g < w.heap.size ∧ w.cell? ⟨g, j, none⟩ = some p.val) := fun j p hj => by
    obtain ⟨g, a, _, b, c, _⟩ := hpcs j p hj; exact ⟨g, a, b, c⟩
  have HP : Hid (∀ p ∈ ps, PcOk B w p) := h.pcs
  have hsub : (t : Int) - (f : Int) = ((t - f : Nat) : Int) := by omega
  unfold maxLen at hpm
  clear hpcs hp he k0 k1 k3 hbk h
  go_enter Try.func21, Try.ntmps21
  go_wp2_with (go_at_call 26; refine (Try.Builder_Grow_fresh w.heap.size w.heap.size (t - f) _ (Nat.le_refl _) (heap_alloc_new w _) ?_ ?_).mono ?_)
  · simp
  · omega
  rintro e w1 ⟨rfl, hbld, hb1⟩
  have hb2 : Below w.heap.size w w1 := ((Below.refl _ _).alloc (Nat.le_refl _) _).trans hb1
  have c2 : w1.cell? ⟨b, 2, none⟩ = some (.slice po ps.length cap) := (hb2.cell (p := ⟨b, 2, none⟩) hbw).trans k2
  have HB1 : Hid (Below w.heap.size w w1) := hb2
  have HI : Hid (Lib.IsBuilder 63 5 w.heap.size w.heap.size [] w1) := .inr hbld
  clear hb1 hb2 hbld hsub
  go_wp2_with fail
  go_loopw [8, 22] (fun a i wr => ∃ k : Nat, k ≤ ps.length ∧ i = .int .i64 k ∧ a = .int .i64 ((text (ps.take k)).length : Nat) ∧ Lib.IsBuilder 63 5 w.heap.size w.heap.size (Lib.byteCells (((text (ps.take k)).take t).drop f)) wr ∧ Below w.heap.size w wr) (fun _ i _ => ps.length - (intOf i).toNat)
  case atStart => exact ⟨0, Nat.zero_le _, rfl, rfl, by simpa [text, Lib.byteCells] using HI.out, HB1.out⟩
  case round =>
    obtain ⟨k, hk, rfl, rfl, hbd, hbl⟩ := hrel
    have hL := text_take_le ps k
    by_cases hlt : k < ps.length
    · obtain ⟨p, hpk⟩ : ∃ p, ps[k]? = some p := ⟨_, List.getElem?_eq_getElem hlt⟩
      obtain ⟨g, hpo, hgw, hgc⟩ := hpcs'.out k p hpk
      subst hpo
      have hok := HP.out p (List.mem_of_getElem? hpk)
      have hgr : wr.cell? ⟨g, k, none⟩ = some (.slice (some ⟨p.g, p.off, none⟩) p.bs.length p.cap) := (hbl.cell (p := ⟨g, k, none⟩) hgw).trans hgc
      have hts := text_take_succ ps k p hpk
      have hL2 := text_take_le ps (k + 1)
      rw [hts, List.length_append] at hL2
      have HTS : Hid (text (ps.take (k + 1)) = text (ps.take k) ++ p.bs) := hts
      have p1 := hok.ne; have p2 := hok.le; have p3 := hok.max
      unfold maxLen at p3
      have HOK : Hid (PcOk B w p) := hok
      clear hts hok hgc
      obtain ⟨A, hA⟩ : ∃ A, A = (text (ps.take k)).length := ⟨_, rfl⟩
      rw [← hA] at hL hL2 ⊢
      have HA : Hid (A = (text (ps.take k)).length) := hA
      have HBD : Hid (Lib.IsBuilder 63 5 w.heap.size w.heap.size (Lib.byteCells (((text (ps.take k)).take t).drop f)) wr) := hbd
      clear hA hbd
      go_wp2_with (go_at_call 27; refine (write_any w.heap.size w.heap.size (Lib.byteCells (((text (ps.take k)).take t).drop f)) _ _ _ (Lib.byteCells ((p.bs.take (t - A)).drop (f - A))) _ HBD.out ?_ ?_ ?_ ?_ ?_ ?_).mono ?_)
      · simp only [Lib.byteCells, List.length_map, List.length_drop, List.length_take]; omega
      · intro j u hj
        simp only [Lib.byteCells, List.getElem?_map, List.getElem?_drop, List.getElem?_take, Option.map_eq_some_iff] at hj
        obtain ⟨v, hv, rfl⟩ := hj
        split at hv
        · have := HOK.out.cell _ _ hv
          rw [Addr.add_lit, hbl.cell (by exact HOK.out.lt), show p.off + (max ((f : Int) - (A : Int)) 0).toNat + j = p.off + (f - A + j) by omega]
          exact this
        · cases hv
      · exact HOK.out.lt
      · intro u hu
        simp only [Lib.byteCells, List.mem_map] at hu
        obtain ⟨_, _, rfl⟩ := hu
        rfl
      · simp only [Lib.byteCells, List.length_map, List.length_drop, List.length_take]; omega
      · exact hbl.size
      · rintro e w2 ⟨rfl, hb2, hbl2⟩
        go_wp2_with fail
        refine ⟨⟨k + 1, by omega, by go_num, ?_, ?_, hbl.trans hbl2⟩, by simp [intOf]; omega⟩
        · rw [HTS.out, List.length_append, ← HA.out]; go_num
        · rw [HTS.out, cut_more, ← HA.out]
          have e : Lib.byteCells (((text (ps.take k)).take t).drop f ++ (p.bs.take (t - A)).drop (f - A)) = Lib.byteCells (((text (ps.take k)).take t).drop f) ++ Lib.byteCells ((p.bs.take (t - A)).drop (f - A)) := by simp [Lib.byteCells]
          rw [e]; exact .inr hb2
      · rename_i hmm
        refine ⟨⟨k + 1, by omega, by go_num, ?_, ?_, hbl⟩, by simp [intOf]; omega⟩
        · rw [HTS.out, List.length_append, ← HA.out]; go_num
        · rw [HTS.out, cut_more, ← HA.out]
          have e : (p.bs.take (t - A)).drop (f - A) = [] := by
            apply List.drop_of_length_le; rw [List.length_take]; omega
          rw [e, List.append_nil]; exact HBD.out
    · have hkk : k = ps.length := by omega
      have HKK : Hid (k = ps.length) := hkk
      clear hkk
      go_wp2_with (go_at_call 28; refine (Try.Builder_String_any w.heap.size w.heap.size _ _ hbd hbl.size).mono ?_; rintro e w2 ⟨rfl, hb2⟩)
      go_ret
      refine ⟨?_, hbl.trans hb2⟩
      rw [HKK.out, List.take_length]; rfl
end Go.Proofs.Ytfphmdkbcibcmaa
