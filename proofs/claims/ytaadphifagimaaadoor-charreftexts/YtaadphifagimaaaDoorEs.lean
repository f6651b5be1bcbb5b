/- Escape. -/
import Derived.Test.YtaadphifagimaaaDoorEp
import Derived.Test.YtaadphifagimaaaDoorShelf
import Derived.Test.YtaadphifagimaaaDoorCds
import Derived.BigCall
namespace Go.Proofs.YtaadphifagimaaaDoor
open Go.RowKit

theorem ret_str {a b : ByteArray} (h : a = b) : Ending.returned (.string a) = .returned (.string b) := by rw [h]

set_option maxHeartbeats 1000000 in
theorem escaped_any (r : Int) (attr : Bool) (w : World) : Calls Tryd.prog 36 #[.int .i32 r, .bool attr] w fun e w' => e = .returned (.string ⟨(escR attr r).toArray⟩) ∧ w' = w := by
  cases attr
  all_goals
    by_cases h1 : r = 38
    · subst h1
      go_enter Tryd.func36, Tryd.ntmps36
      go_wp2
      go_ret
      exact ⟨rfl, rfl⟩
    by_cases h2 : r = 160
    · subst h2
      go_enter Tryd.func36, Tryd.ntmps36
      go_wp2
      go_ret
      exact ⟨rfl, rfl⟩
    by_cases h3 : r = 34
    · subst h3
      go_enter Tryd.func36, Tryd.ntmps36
      go_wp2
      go_ret
      exact ⟨rfl, rfl⟩
    by_cases h4 : r = 60
    · subst h4
      go_enter Tryd.func36, Tryd.ntmps36
      go_wp2
      go_ret
      exact ⟨rfl, rfl⟩
    by_cases h5 : r = 62
    · subst h5
      go_enter Tryd.func36, Tryd.ntmps36
      go_wp2
      go_ret
      exact ⟨rfl, rfl⟩
    have HP : Hid (∀ a, escR a r = []) := fun a => by unfold escR; rw [if_neg h1, if_neg h2, if_neg (fun e => h3 e.1), if_neg (fun e => h4 e.1), if_neg (fun e => h5 e.1)]
    have h1 := beq_false_of_ne h1
    have h2 := beq_false_of_ne h2
    have h3 := beq_false_of_ne h3
    have h4 := beq_false_of_ne h4
    have h5 := beq_false_of_ne h5
    go_enter Tryd.func36, Tryd.ntmps36
    go_wp2
    go_ret
    refine ⟨ret_str ?_, rfl⟩
    rw [HP.out]

theorem extract_mid (s : ByteArray) (a b : Nat) : (s.extract a b).data.toList = (s.data.toList.take b).drop a := by
  simp only [ByteArray.data_extract, Array.toList_extract, List.extract_eq_take_drop]
  rw [List.drop_take]
theorem take_mid (l : List UInt8) (a b c : Nat) (h1 : a ≤ b) (h2 : b ≤ c) : (l.take c).drop a = (l.take b).drop a ++ ((l.drop b).take (c - b)) := by
  have : l.take c = l.take b ++ (l.drop b).take (c - b) := by
    rw [← List.take_add, show b + (c - b) = c by omega]
  rw [this, List.drop_append]
  by_cases hl : b ≤ l.length
  · have : a - (l.take b).length = 0 := by rw [List.length_take]; omega
    rw [this, List.drop_zero]
  · rw [List.drop_eq_nil_of_le (show l.length ≤ b by omega)]
    simp

set_option maxHeartbeats 1000000 in
set_option maxRecDepth 10000 in
theorem escape_any (s : ByteArray) (attr : Bool) (w : World) (hs : s.size ≤ 1000000) :
    Calls Tryd.prog 16 #[.string s, .bool attr] w fun e w' => e = .returned (.string ⟨(escP attr s.data.toList).toArray⟩) ∧ Below w.heap.size w w' := by
  have HL : Hid ((escP attr s.data.toList).length ≤ 6000000 ∧ s.data.toList.length = s.size) := by
    have := esc_len attr s.data.toList
    have h2 : s.data.toList.length = s.size := Array.length_toList
    exact ⟨by omega, h2⟩
  go_enter Tryd.func16, Tryd.ntmps16
  go_wp2
  go_loopw [6] (fun tv wr => ∃ (pos told : Nat) (acc : List UInt8), tv = .int .i64 told ∧ told ≤ pos ∧ pos ≤ s.size ∧ Lib.IsBuilderF 52 5 w.heap.size w.heap.size (Lib.byteCells acc) wr ∧ wr.heap[w.heap.size + 1]? = some (.stringIter s pos) ∧ Below w.heap.size w wr ∧ acc ++ (s.data.toList.take pos).drop told ++ escP attr (s.data.toList.drop pos) = escP attr s.data.toList) (fun _ wr => s.size - wr.iterPos (w.heap.size + 1))
  case atStart =>
    refine ⟨0, 0, [], rfl, Nat.le_refl _, Nat.zero_le _, (Lib.IsBuilderF.of (Lib.fresh_isBuilder 52 5 w)).alloc _, ?_, ((Below.refl _ w).alloc (Nat.le_refl _) _).alloc (by simp) _, by simp⟩
    have := World.iter_heap (w.alloc (.cells #[.pointer none, .slice none 0 0] 52)) s 0
    simpa using this
  case round =>
    obtain ⟨pos, told, acc, rfl, htp, hps, hI, hit, hbw, hacc⟩ := hrel
    have hsz : w.heap.size + 1 < wr.heap.size := (Array.getElem?_eq_some_iff.1 hit).1
    have hal : acc.length ≤ 6000000 := by
      have := HL.out.1
      rw [← hacc] at this
      simp only [List.length_append] at this
      omega
    by_cases hp : pos < s.size
    · have hnx : ∀ ty, (Instr.next (.pointer (some ⟨w.heap.size + 1, 0, none⟩)) true ty).run Tryd.prog wr = _ := fun ty => Lib.run_next_any_at wr (w.heap.size + 1) s pos ty hit hp
      have E := esc_step attr s pos hp
      have hd1 := decode_le s pos
      have hI2 := hI.iterAt hit (pos + (Utf8.decode s pos).2)
      have hit2 := Lib.iterAt_heap wr (w.heap.size + 1) s pos (pos + (Utf8.decode s pos).2) hit
      have hbw2 := Lib.below_iterAt hbw (k := w.heap.size + 1) (by omega) s (pos + (Utf8.decode s pos).2)
      have hsz2 : w.heap.size ≤ (wr.iterAt (w.heap.size + 1) s (pos + (Utf8.decode s pos).2)).heap.size := by rw [Lib.iterAt_size]; omega
      have hes := escaped_any ((Utf8.decode s pos).1 : Int) attr
      obtain ⟨dc, hdc⟩ : ∃ dc, Utf8.decode s pos = dc := ⟨_, rfl⟩
      rw [hdc] at hnx E hd1 hI2 hit2 hbw2 hsz2 hes
      obtain ⟨r, z⟩ := dc
      simp only at hnx E hd1 hI2 hit2 hbw2 hsz2 hes
      obtain ⟨W1, hW1⟩ : ∃ W1, W1 = wr.iterAt (w.heap.size + 1) s (pos + z) := ⟨_, rfl⟩
      rw [← hW1] at hnx hI2 hit2 hbw2 hsz2
      have hmeas : s.size - wr.iterPos (w.heap.size + 1) = s.size - pos := by simp only [World.iterPos, hit]
      have HM : Hid (s.size - wr.iterPos (w.heap.size + 1) = s.size - pos) := hmeas
      have hEl := E.le
      have hE1 := E.one
      have Hacc : Hid (acc ++ (s.data.toList.take pos).drop told ++ escP attr (s.data.toList.drop pos) = escP attr s.data.toList) := hacc
      have HK : Hid (EscStep attr s pos r z ∧ Lib.IsBuilderF 52 5 w.heap.size w.heap.size (Lib.byteCells acc) W1 ∧ W1.heap[w.heap.size + 1]? = some (.stringIter s (pos + z)) ∧ Below w.heap.size w W1 ∧ w.heap.size ≤ W1.heap.size) := ⟨E, hI2, hit2, hbw2, hsz2⟩
      clear hdc hW1 hmeas E hI2 hit2 hbw2 hsz2 hI hit hbw hacc
      by_cases hq : escR attr (r : Int) = []
      · rw [hq] at hes
        go_wp2_with (go_at_call 36; refine (hes _).mono ?_; rintro e w' ⟨rfl, rfl⟩)
        refine ⟨⟨pos + z, told, acc, rfl, by omega, by omega, HK.out.2.1, HK.out.2.2.1, HK.out.2.2.2.1, ?_⟩, ?_⟩
        · rw [take_mid _ told pos (pos + z) htp (by omega), show pos + z - pos = z by omega, ← Hacc.out, HK.out.1.same hq]
          simp only [List.append_assoc]
        · rw [HM.out]
          simp only [World.iterPos, HK.out.2.2.1]
          omega
      · have hrl := HK.out.1.other hq
        obtain ⟨q, hqq⟩ : ∃ q : ByteArray, ⟨(escR attr (r : Int)).toArray⟩ = q := ⟨_, rfl⟩
        rw [hqq] at hes
        have hql : q.data.toList = escR attr (r : Int) := by rw [← hqq]
        have hqs : q.size ≤ 6 := by
          have : q.size = (escR attr (r : Int)).length := by rw [← hql]; exact Array.length_toList.symm
          rw [this]; unfold escR; repeat' split
          all_goals simp [sAmp, sNbsp, sQuot, sLt, sGt]
        have hqe : q.toList.isEmpty = false := by
          rw [ByteArray.toList_eq, hql]
          cases hh : escR attr (r : Int) with
          | nil => exact absurd hh hq
          | cons a b => rfl
        have hqe2 : ¬ q.toList = [] := by
          rw [ByteArray.toList_eq, hql]; exact hq
        have hlen := fun w => utf8_RuneLen (r : Int) w
        rw [hrl.2] at hlen
        have HE : Hid (escP attr (s.data.toList.drop pos) = q.data.toList ++ escP attr (s.data.toList.drop (pos + z))) := by rw [hql]; exact hrl.1
        clear hrl hqq hql hq
        have hxs : (s.extract told pos).size ≤ 1000000 := by simp only [ByteArray.size_extract]; omega
        have kw1 := writeString_k w.heap.size w.heap.size (Lib.byteCells acc) (s.extract told pos) W1 HK.out.2.1 (by rw [Lib.byteCells_length]; omega) HK.out.2.2.2.2
        go_wp2_with (go_at_call 36; refine (hes _).mono ?_; rintro e w' ⟨rfl, rfl⟩)
        refine kw1.mono ?_
        rintro e W2 ⟨rfl, h1, b1, k1⟩
        have HK2 : Hid (Lib.IsBuilderF 52 5 w.heap.size w.heap.size (Lib.byteCells (acc ++ (s.data.toList.take pos).drop told)) W2 ∧ W2.heap[w.heap.size + 1]? = some (.stringIter s (pos + z)) ∧ Below w.heap.size w W2) := by
          refine ⟨?_, k1.iter HK.out.2.2.1 (by omega), HK.out.2.2.2.1.trans b1⟩
          rw [Lib.byteCells_append, ← extract_mid]
          exact Or.inr h1
        have kw2 := writeString_k w.heap.size w.heap.size _ q W2 HK2.out.1 (by
          rw [Lib.byteCells_length, List.length_append, ← extract_mid]
          have : (s.extract told pos).data.toList.length = (s.extract told pos).size := Array.length_toList
          omega) HK2.out.2.2.size
        clear h1 b1 k1 kw1
        go_wp2_with fail
        refine kw2.mono ?_
        rintro e W3 ⟨rfl, h1, b1, k1⟩
        have HK3 : Hid (Lib.IsBuilderF 52 5 w.heap.size w.heap.size (Lib.byteCells (acc ++ (s.data.toList.take pos).drop told ++ q.data.toList)) W3 ∧ W3.heap[w.heap.size + 1]? = some (.stringIter s (pos + z)) ∧ Below w.heap.size w W3) := by
          refine ⟨?_, k1.iter HK2.out.2.1 (by omega), HK2.out.2.2.trans b1⟩
          rw [Lib.byteCells_append]
          exact Or.inr h1
        clear h1 b1 k1 kw2
        go_wp2_with (go_at_call 37; refine (hlen _).mono ?_; rintro e w' ⟨rfl, rfl⟩)
        refine ⟨⟨pos + z, pos + z, acc ++ (s.data.toList.take pos).drop told ++ q.data.toList, by go_num, Nat.le_refl _, hEl, HK3.out.1, HK3.out.2.1, HK3.out.2.2, ?_⟩, ?_⟩
        · rw [← Hacc.out, HE.out, List.drop_eq_nil_of_le (show (s.data.toList.take (pos + z)).length ≤ pos + z by rw [List.length_take]; omega)]
          simp only [List.append_assoc, List.append_nil]
        · rw [HM.out]
          simp only [World.iterPos, HK3.out.2.1]
          omega
    · have hnx : ∀ ty, (Instr.next (.pointer (some ⟨w.heap.size + 1, 0, none⟩)) true ty).run Tryd.prog wr = _ := fun ty => Lib.run_next_end_at wr (w.heap.size + 1) s pos ty hit hp
      have hpe : pos = s.size := by omega
      have hxs : (s.extract told s.size).size ≤ 1000000 := by simp only [ByteArray.size_extract]; omega
      have kw1 := writeString_k w.heap.size w.heap.size (Lib.byteCells acc) (s.extract told s.size) wr hI (by rw [Lib.byteCells_length]; omega) (by omega)
      have HF : Hid (acc ++ (s.extract told s.size).data.toList = escP attr s.data.toList) := by
        show _ = _
        rw [← hacc, hpe, extract_mid, List.drop_eq_nil_of_le (show s.data.toList.length ≤ s.size by rw [HL.out.2]; exact Nat.le_refl _)]
        simp [escP]
      have HB : Hid (Below w.heap.size w wr) := hbw
      subst hpe
      clear hI hit hbw hacc
      go_wp2_with fail
      refine kw1.mono ?_
      rintro e W2 ⟨rfl, h1, b1, k1⟩
      rw [← Lib.byteCells_append, HF.out] at h1
      have ks := string_k w.heap.size w.heap.size (escP attr s.data.toList) W2 (Or.inr h1) (HB.out.trans b1).size
      have HB2 : Hid (Below w.heap.size w W2) := HB.out.trans b1
      clear h1 b1 k1 kw1
      go_wp2_with fail
      refine ks.mono ?_
      rintro e W3 ⟨rfl, h1, b1, k1⟩
      have HB3 : Hid (Below w.heap.size w W3) := HB2.out.trans b1
      clear h1 b1 k1 ks
      go_wp2
      go_ret
      exact ⟨rfl, HB3.out⟩
end Go.Proofs.YtaadphifagimaaaDoor
