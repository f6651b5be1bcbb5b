/- (textbuf.Buf).cut: behind it a piece begins at the place asked for, and the text is as it was. -/
import Derived.Test.YtfphmdkbcibcmaaSplit
import Derived.Deep.RegionWith
namespace Go.Proofs.Ytfphmdkbcibcmaa
open Go.RowKit

theorem grown_of_drew {w w' : World} {r : Option Nat} (h : w.drew.grownBy w' r) : w.grownBy w' r := ⟨h.os, h.tape, h.output, h.size, h.block⟩

/-- The insert of the tail, at the call, with all that the walk wants of the world behind it. -/
theorem split_call {B b g cap k j : Nat} {most len : Int} {ps : List Pc} {es : List Ed} {w : World} {p : Pc} {bv : Value} (h : BufIs B b most len ps es w)
    (hblk : w.heap[b]? = some (.cells #[.int .i64 most, .int .i64 len, .slice (some ⟨g, 0, none⟩) ps.length cap, bv] 54 (0, 0))) (hown : w.ownsRow B 59 1 (.slice (some ⟨g, 0, none⟩) ps.length cap) ps.length (ps.map Pc.val))
    (hpk : ps[k]? = some p) (hj0 : 0 < j) (hj : j < p.bs.length) (hsz : ps.length ≤ 1000000) :
    Calls Try.prog 29 #[.slice (some ⟨g, 0, none⟩) ps.length cap, .int .i64 ((k : Int) + 1), .slice (some ⟨w.heap.size, 0, none⟩) 1 1]
      (((w.setCell ⟨g, k, none⟩ (.slice (some ⟨p.g, p.off, none⟩) j j)).alloc (.cells #[.slice (some ⟨p.g, p.off + j, none⟩) (p.bs.length - j) (p.bs.length - j)] 59)).drew.drew)
      fun e w3 => ∃ ao n' c', e = .returned (.slice ao n' c') ∧ w3.cell? ⟨b, 2, none⟩ = some (.slice (some ⟨g, 0, none⟩) ps.length cap) ∧ w3.frozen? ⟨b, 2, none⟩ = false ∧
        BufIs B b most len (ps.take k ++ p.head j :: p.tail j :: ps.drop (k + 1)) es (w3.setCell ⟨b, 2, none⟩ (.slice ao n' c')) ∧ Kept [59, 54] B w (w3.setCell ⟨b, 2, none⟩ (.slice ao n' c')) := by
  have hk : k < ps.length := (List.getElem?_eq_some_iff.1 hpk).1
  obtain ⟨g', cap', cur, hv, hBg, hgb, -⟩ : ∃ g' cap' cur, (Value.slice (some ⟨g, 0, none⟩) ps.length cap) = .slice (some ⟨g', 0, none⟩) ps.length cap' ∧ B ≤ g' ∧ w.heap[g']? = some (.cells cur 59 (0, 0)) ∧ True := by
    rcases (own_open hown).2 with ⟨hv, _⟩ | ⟨g', cap', cur, hv, hB, hb, _⟩
    · cases hv
    · exact ⟨g', cap', cur, hv, hB, hb, trivial⟩
  simp only [Value.slice.injEq, Option.some.injEq, Addr.mk.injEq, and_true, true_and] at hv
  obtain ⟨rfl, rfl⟩ := hv
  have hgw : g < w.heap.size := (Array.getElem?_eq_some_iff.1 hgb).1
  have hbw : b < w.heap.size := (Array.getElem?_eq_some_iff.1 hblk).1
  have hbg : b ≠ g := fun e => by rw [e, hgb] at hblk; simp at hblk
  have hst := own_set hown (p.head j).val hk
  have e1 := Pc.head_val p j (by omega)
  have e2 := Pc.tail_val p j
  rw [← e1, ← e2]
  obtain ⟨W2, hW2⟩ : ∃ W2, W2 = (w.setCell ⟨g, k, none⟩ (p.head j).val).alloc (.cells #[(p.tail j).val] 59) := ⟨_, rfl⟩
  have hs1 : (w.setCell ⟨g, k, none⟩ (p.head j).val).heap.size = w.heap.size := by simp [World.setCell]
  have ho2 : W2.ownsRow B 59 1 (.slice (some ⟨g, 0, none⟩) ps.length cap) ps.length ((ps.map Pc.val).set k (p.head j).val) := by rw [hW2]; exact hst.alloc _
  have hx2 : W2.heap[w.heap.size]? = some (.cells #[(p.tail j).val] 59 (0, 0)) := by rw [hW2, ← hs1]; exact heap_alloc_new _ _
  have hbk2 : W2.heap[b]? = some (.cells #[.int .i64 most, .int .i64 len, .slice (some ⟨g, 0, none⟩) ps.length cap, bv] 54 (0, 0)) := by
    have hb1 : (w.setCell ⟨g, k, none⟩ (p.head j).val).heap[b]? = _ := (Below.heap_setCell w ⟨g, k, none⟩ _ b hbg).trans hblk
    rw [hW2, Below.heap_alloc _ _ _ (Array.getElem?_eq_some_iff.1 hb1).1]; exact hb1
  have hz2 : W2.heap.size = w.heap.size + 1 := by rw [hW2]; simp [hs1]
  rw [← hW2]
  refine (insert_at B _ (p.tail j).val ps.length (k + 1) w.heap.size ((k : Int) + 1) (by omega) ((ps.map Pc.val).set k (p.head j).val) W2.drew.drew ho2 hx2 rfl ?_ (by omega) hsz ?_ ?_).mono ?_
  · intro v hv
    rcases List.mem_or_eq_of_mem_set hv with hv | rfl
    · exact vals_one ps v hv
    · rfl
  · show B ≤ W2.heap.size; omega
  · simp [Value.ownBlock]; omega
  · rintro e w3 ⟨ao, n', c', he, ho3, hg3⟩
    have hg3' : W2.grownBy w3 (some g) := grown_of_drew (grown_of_drew hg3)
    have hb3 : w3.heap[b]? = some (.cells #[.int .i64 most, .int .i64 len, .slice (some ⟨g, 0, none⟩) ps.length cap, bv] 54 (0, 0)) := by
      rw [hg3'.block b (Array.getElem?_eq_some_iff.1 hbk2).1 (by simpa using hbg)]; exact hbk2
    refine ⟨ao, n', c', he, by simp [World.cell?, hb3], by simp [World.frozen?, hb3], ?_⟩
    exact split_done h rfl hblk hown hpk hj0 hj hW2 ho3 hg3'

set_option maxHeartbeats 1000000 in
theorem cut_any (B b : Nat) (most len : Int) (ps : List Pc) (es : List Ed) (w : World) (at0 : Nat) (h : BufIs B b most len ps es w) (ht : at0 ≤ (text ps).length) (hsz : (text ps).length ≤ 1000000) :
    Calls Try.prog 22 #[.pointer (some ⟨b, 0, none⟩), .int .i64 at0] w fun e w' => e = .returned (.int .i64 ((cutL ps at0).1.length : Nat)) ∧ BufIs B b most len ((cutL ps at0).1 ++ (cutL ps at0).2) es w' ∧ Kept [59, 54] B w w' := by
  obtain ⟨pv, bv, k0, k1, k2, k3, hbw, hbk, hp, he⟩ := h.cells
  have hfl := full_le ps h.full
  obtain ⟨po, cap, hpv, hpc, hpm, hpcs⟩ := own_pieces hp
  subst hpv
  have HPC : Hid (∀ (j : Nat) p, ps[j]? = some p → ∃ g, po = some ⟨g, 0, none⟩ ∧ B ≤ g ∧ g < w.heap.size ∧ w.cell? ⟨g, j, none⟩ = some p.val ∧ (∀ j, w.frozen? ⟨g, j, none⟩ = false) ∧ ∃ cur, w.heap[g]? = some (.cells cur 59 (0, 0))) := hpcs
  have HP : Hid (BufIs B b most len ps es w) := h
  have HBK : Hid (w.heap[b]? = some (.cells #[.int .i64 most, .int .i64 len, .slice po ps.length cap, bv] 54 (0, 0))) := hbk
  have HOW : Hid (w.ownsRow B 59 1 (.slice po ps.length cap) ps.length (ps.map Pc.val)) := hp
  unfold maxLen at hpm
  have f2 : w.frozen? ⟨b, 2, none⟩ = false := by simp [World.frozen?, hbk]
  clear hpcs hp he k0 k1 k3 hbk h
  go_enter Try.func22, Try.ntmps22
  go_wp2_with fail
  go_loop [1, 12] (fun a i => ∃ k j : Nat, k ≤ ps.length ∧ i = .int .i64 k ∧ a = .int .i64 j ∧ j ≤ (text (ps.drop k)).length ∧ Hid (cutL ps at0 = (ps.take k ++ (cutL (ps.drop k) j).1, (cutL (ps.drop k) j).2))) (fun _ i => ps.length - (intOf i).toNat)
  case atStart => exact ⟨0, at0, Nat.zero_le _, rfl, rfl, ht, by simp [Hid]⟩
  case round =>
    obtain ⟨k, j, hk, rfl, rfl, hj, HC⟩ := hrel
    have hdl : (text (ps.drop k)).length ≤ (text ps).length := by
      have : text ps = text (ps.take k) ++ text (ps.drop k) := by rw [← text_append, List.take_append_drop]
      rw [this, List.length_append]; omega
    by_cases hlt : k < ps.length
    · obtain ⟨p, hpk⟩ : ∃ p, ps[k]? = some p := ⟨_, List.getElem?_eq_getElem hlt⟩
      obtain ⟨g, hpo, hgB, hgw, hgc, hgf, cur, hgb⟩ := HPC.out k p hpk
      subst hpo
      have hgr : w.cell? ⟨g, k, none⟩ = some (.slice (some ⟨p.g, p.off, none⟩) p.bs.length p.cap) := hgc
      have hok := HP.out.pcs p (List.mem_of_getElem? hpk)
      have p1 := hok.ne; have p2 := hok.le; have p3 := hok.max
      unfold maxLen at p3
      have hgfk := hgf k
      clear hgf hgb hok hgc
      have hd : ps.drop k = p :: ps.drop (k + 1) := by
        rw [List.drop_eq_getElem_cons hlt]; congr 1; exact (List.getElem?_eq_some_iff.1 hpk).2
      have hpl : p.bs.length ≤ (text (ps.drop k)).length := by rw [hd, text_cons, List.length_append]; omega
      have HD : Hid (ps.drop k = p :: ps.drop (k + 1)) := hd
      clear hd
      by_cases hj0 : j = 0
      · subst hj0
        have hc2 : cutL ps at0 = (ps.take k, ps.drop k) := by rw [HC.out, HD.out]; simp [cutL]
        have HC2 : Hid (cutL ps at0 = (ps.take k, ps.drop k)) := hc2
        clear hc2
        go_wp2_with fail
        go_ret
        rw [HC2.out]
        refine ⟨?_, by rw [List.take_append_drop]; exact HP.out, Kept.refl _ _ _⟩
        have e : (ps.take k).length = k := by simp; omega
        show _ = Ending.returned (.int .i64 ((ps.take k).length : Nat))
        rw [e]; rfl
      · by_cases hjl : j < p.bs.length
        · have hc2 : cutL ps at0 = (ps.take k ++ [p.head j], p.tail j :: ps.drop (k + 1)) := by rw [HC.out, HD.out]; simp [cutL, hj0, hjl]
          have HC2 : Hid (cutL ps at0 = (ps.take k ++ [p.head j], p.tail j :: ps.drop (k + 1))) := hc2
          clear hc2
          have hgb : ∃ cur, w.heap[g]? = some (.cells cur 59 (0, 0)) := by
            obtain ⟨g', e, _, _, _, _, c⟩ := HPC.out k p hpk
            simp only [Option.some.injEq, Addr.mk.injEq, and_true] at e
            subst e; exact c
          have hne : b ≠ g := fun e => by
            obtain ⟨cur, hc⟩ := hgb
            rw [← e, HBK.out] at hc; simp at hc
          have q2 : ∀ v, (w.setCell ⟨g, k, none⟩ v).cell? ⟨b, 2, none⟩ = some (.slice (some ⟨g, 0, none⟩) ps.length cap) := fun v => by rw [World.cell?_setCell_other _ _ _ _ (by simp)]; exact k2
          have q3 : ∀ v, (w.setCell ⟨g, k, none⟩ v).heap.size = w.heap.size := fun v => by simp [World.setCell]
          have hj1 : 0 < j := by omega
          have hps : ps.length ≤ 1000000 := by omega
          clear hgb
          go_wp2_with fail
          go_region
          go_wp2_with fail
          go_region_with (go_at_call 29; refine (split_call HP.out HBK.out HOW.out hpk hj1 hjl hps).mono ?_; rintro e w3 ⟨ao, n', c', rfl, hc3, hf3, hB3⟩)
          all_goals
            go_wp2_with fail
            go_ret
            rw [HC2.out]
            refine ⟨?_, by simpa using hB3.1, hB3.2⟩
            have e : (ps.take k ++ [p.head j]).length = k + 1 := by simp; omega
            show _ = Ending.returned (.int .i64 ((ps.take k ++ [p.head j]).length : Nat))
            rw [e]; rfl
        · go_wp2_with fail
          refine ⟨⟨k + 1, j - p.bs.length, by omega, by go_num, by go_num, ?_, ?_⟩, by simp [intOf]; omega⟩
          · have e := congrArg (fun l => (text l).length) HD.out
            simp only [text_cons, List.length_append] at e
            omega
          · show _ = _
            rw [HC.out]; exact cutL_step ps k j p hpk hj0 (by omega)
    · have hkk : k = ps.length := by omega
      have hc2 : cutL ps at0 = (ps, []) := by rw [HC.out, hkk]; simp [cutL]
      have HC2 : Hid (cutL ps at0 = (ps, [])) := hc2
      clear hc2 hkk
      go_wp2_with fail
      go_ret
      rw [HC2.out]
      exact ⟨rfl, by simpa using HP.out, Kept.refl _ _ _⟩
end Go.Proofs.Ytfphmdkbcibcmaa
