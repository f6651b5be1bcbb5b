/- The document's begins, Goes, Longest: over a row of names. -/
import Derived.Test.YtaadphifagimaaaDoorRlm
namespace Go.Proofs.YtaadphifagimaaaDoor
open Go.RowKit


theorem bytes_eq {a b : ByteArray} (h : a.data.toList = b.data.toList) : a = b := by
  obtain ⟨⟨x⟩⟩ := a
  obtain ⟨⟨y⟩⟩ := b
  have : x = y := h
  rw [this]
theorem extract_toList (s : ByteArray) (k : Nat) : (s.extract 0 k).data.toList = s.data.toList.take k := by
  rw [ByteArray.data_extract, Array.toList_extract]
  simp

theorem begins_eq (s t : ByteArray) : ((s.extract 0 t.size).toList == t.toList) = t.data.toList.isPrefixOf s.data.toList := by
  rw [ByteArray.toList_eq, ByteArray.toList_eq, Bool.eq_iff_iff, List.isPrefixOf_iff_prefix, beq_iff_eq]
  have hl : t.data.toList.length = t.size := Array.length_toList
  constructor
  · intro e
    rw [← e, extract_toList]
    exact List.take_prefix _ _
  · intro hp
    rw [extract_toList, ← hl]
    exact (List.prefix_iff_eq_take.1 hp).symm
theorem begins_no {s t : ByteArray} (h : ¬ t.size ≤ s.size) : t.data.toList.isPrefixOf s.data.toList = false := by
  cases hp : t.data.toList.isPrefixOf s.data.toList with
  | false => rfl
  | true =>
    exfalso
    have := (List.isPrefixOf_iff_prefix.1 hp).length_le
    rw [Array.length_toList, Array.length_toList] at this
    exact h this

set_option maxHeartbeats 400000 in
theorem begins_any (s t : ByteArray) (w : World) : Calls Tryd.prog 45 #[.string s, .string t] w fun e w' => e = .returned (.bool (t.data.toList.isPrefixOf s.data.toList)) ∧ w' = w := by
  by_cases h : t.size ≤ s.size
  · have hb := begins_eq s t
    have hg : decide ((t.size : Int) ≤ (s.size : Int)) = true := decide_eq_true (by omega)
    rw [← hb]
    clear hb
    go_enter Tryd.func45, Tryd.ntmps45
    go_wp2_with fail
    go_ret
    exact ⟨rfl, rfl⟩
  · have hg : decide ((t.size : Int) ≤ (s.size : Int)) = false := decide_eq_false (by omega)
    rw [begins_no h]
    go_enter Tryd.func45, Tryd.ntmps45
    go_wp2_with fail
    go_ret
    exact ⟨rfl, rfl⟩

set_option maxHeartbeats 1000000 in
theorem rgoes_any {w : World} {ao : Option Addr} {A : List Rf} (n cap : Nat) (s : ByteArray) (ha : RefRow w ao A) (hn : A.length = n) (hn2 : n ≤ 100000) :
    Calls Tryd.prog 29 #[.slice ao n cap, .string s] w fun e w' => e = .returned (.bool (A.any fun r => s.data.toList.isPrefixOf r.nm)) ∧ w' = w := by
  have HA : Hid (RefRow w ao A ∧ A.length = n) := ⟨ha, hn⟩
  obtain ⟨g, hg0⟩ : ∃ g, (A.any fun r => s.data.toList.isPrefixOf r.nm) = g := ⟨_, rfl⟩
  rw [hg0]
  have HG : Hid ((A.any fun r => s.data.toList.isPrefixOf r.nm) = g) := hg0
  clear ha hn hg0
  go_enter Tryd.func29, Tryd.ntmps29
  go_wp2_with fail
  go_loop [5] (fun iv => ∃ i : Nat, iv = .int .i64 i ∧ i ≤ n ∧ (A.take i).any (fun r => s.data.toList.isPrefixOf r.nm) = false) (fun iv => n - (intOf iv).toNat)
  case atStart => exact ⟨0, rfl, Nat.zero_le _, by simp⟩
  case round =>
    obtain ⟨i, rfl, hi, hno⟩ := hrel
    have HNO : Hid ((A.take i).any (fun r => s.data.toList.isPrefixOf r.nm) = false) := hno
    clear hno
    by_cases hin : i < n
    · have hil : i < A.length := by rw [HA.out.2]; exact hin
      obtain ⟨x, hx⟩ : ∃ x, A[i]? = some x := ⟨_, List.getElem?_eq_getElem hil⟩
      obtain ⟨b1, o1, rfl, h1, c1, c2⟩ := HA.out.1 i x hx
      have htk : A.take (i + 1) = A.take i ++ [x] := by
        rw [← List.take_append_getElem hil]
        congr 2
        have := List.getElem?_eq_getElem hil
        rw [hx] at this
        exact (Option.some.inj this).symm
      have hbg := begins_any x.n s w
      obtain ⟨nm, r⟩ := x
      simp only at c1 c2 hbg
      cases hp : s.data.toList.isPrefixOf nm.data.toList with
      | true =>
        rw [hp] at hbg
        have HF : Hid ((A.any fun r => s.data.toList.isPrefixOf r.nm) = true) := List.any_eq_true.2 ⟨⟨nm, r⟩, List.mem_of_getElem? hx, hp⟩
        clear hx htk hil hp
        go_wp2_with fail
        refine hbg.mono ?_
        rintro e w1 ⟨rfl, rfl⟩
        go_wp2_with fail
        go_ret
        rw [show g = true from HG.out.symm.trans HF.out]
        exact ⟨rfl, rfl⟩
      | false =>
        rw [hp] at hbg
        have HF : Hid ((A.take (i + 1)).any (fun r => s.data.toList.isPrefixOf r.nm) = false) := by
          show _ = _
          rw [htk, List.any_append, HNO.out]
          simpa using hp
        clear hx htk hil hp
        go_wp2_with fail
        refine hbg.mono ?_
        rintro e w1 ⟨rfl, rfl⟩
        go_wp2_with fail
        exact ⟨⟨i + 1, by go_num, by omega, HF.out⟩, by simp [intOf]; omega⟩
    · have hg : decide ((i : Int) < (n : Int)) = false := decide_eq_false (by omega)
      have HF : Hid ((A.any fun r => s.data.toList.isPrefixOf r.nm) = false) := by
        have := HNO.out
        rw [List.take_of_length_le (by rw [HA.out.2]; omega)] at this
        exact this
      go_wp2_with fail
      go_ret
      rw [show g = false from HG.out.symm.trans HF.out]
      exact ⟨rfl, rfl⟩

/-- One name more is looked at. -/
def lgStep (s : Path) (acc : Int × Nat) (x : Rf) : Int × Nat := if decide (acc.2 < x.n.size) && x.nm.isPrefixOf s then (x.r, x.n.size) else acc
def lg (A : List Rf) (s : Path) : Int × Nat := A.foldl (lgStep s) (0, 0)

set_option maxHeartbeats 1000000 in
theorem rlong_any {w : World} {ao : Option Addr} {A : List Rf} (n cap : Nat) (s : ByteArray) (ha : RefRow w ao A) (hn : A.length = n) (hn2 : n ≤ 100000) (hz : ∀ x ∈ A, x.n.size ≤ 8) :
    Calls Tryd.prog 27 #[.slice ao n cap, .string s] w fun e w' => e = .returned (.tuple #[.int .i64 (lg A s.data.toList).1, .int .i64 ((lg A s.data.toList).2 : Nat)]) ∧ Below w.heap.size w w' := by
  have HA : Hid (RefRow w ao A ∧ A.length = n ∧ ∀ x ∈ A, x.n.size ≤ 8) := ⟨ha, hn, hz⟩
  clear ha hn hz
  go_enter Tryd.func27, Tryd.ntmps27
  go_wp2_with fail
  go_loopw [6, 7, 8] (fun rv zv iv wr => ∃ (i q : Nat), iv = .int .i64 i ∧ i ≤ n ∧ rv = .int .i64 (lg (A.take i) s.data.toList).1 ∧ zv = .int .i64 ((lg (A.take i) s.data.toList).2 : Nat) ∧ wr = w.drewN q) (fun _ _ iv _ => n - (intOf iv).toNat)
  case atStart => exact ⟨0, 0, rfl, Nat.zero_le _, rfl, rfl, rfl⟩
  case round =>
    obtain ⟨i, q, rfl, hi, rfl, rfl, rfl⟩ := hrel
    obtain ⟨ar, hr⟩ : ∃ ar, (lg (A.take i) s.data.toList).1 = ar := ⟨_, rfl⟩
    obtain ⟨ak, hk⟩ : ∃ ak, (lg (A.take i) s.data.toList).2 = ak := ⟨_, rfl⟩
    rw [hr, hk]
    have HL : Hid (lg (A.take i) s.data.toList = (ar, ak)) := by show _ = _; rw [← hr, ← hk]
    clear hr hk
    by_cases hin : i < n
    · have hil : i < A.length := by rw [HA.out.2.1]; exact hin
      obtain ⟨x, hx⟩ : ∃ x, A[i]? = some x := ⟨_, List.getElem?_eq_getElem hil⟩
      obtain ⟨b1, o1, rfl, h1, c1, c2⟩ := HA.out.1 i x hx
      have hx8 := HA.out.2.2 x (List.mem_of_getElem? hx)
      have hst : lg (A.take (i + 1)) s.data.toList = lgStep s.data.toList (ar, ak) x := by
        have htk : A.take (i + 1) = A.take i ++ [x] := by
          rw [← List.take_append_getElem hil]
          congr 2
          have := List.getElem?_eq_getElem hil
          rw [hx] at this
          exact (Option.some.inj this).symm
        rw [htk, lg, List.foldl_append, ← lg, HL.out]
        rfl
      have hbg := begins_any s x.n
      obtain ⟨nm, r⟩ := x
      simp only at c1 c2 hbg hx8
      obtain ⟨z, hz⟩ : ∃ z, nm.size = z := ⟨_, rfl⟩
      cases hp : nm.data.toList.isPrefixOf s.data.toList with
      | true =>
        by_cases hlt : ak < nm.size
        · have hg : decide ((ak : Int) < (nm.size : Int)) = true := decide_eq_true (by omega)
          have HF : Hid (lg (A.take (i + 1)) s.data.toList = (r, nm.size)) := by show _ = _; rw [hst, lgStep, if_pos (by show (decide (ak < nm.size) && nm.data.toList.isPrefixOf s.data.toList) = true; rw [hp]; simp [hlt])]
          rw [hp] at hbg
          clear hx hil hp hst hz
          go_wp2_with fail
          refine (hbg _).mono ?_
          rintro e w1 ⟨rfl, rfl⟩
          go_wp2_with fail
          go_quiet (fail)
          go_wp2_with fail
          exact ⟨⟨i + 1, _, by go_num, by omega, by rw [HF.out], by rw [HF.out], rfl⟩, by simp [intOf]; omega⟩
        · have hg : decide ((ak : Int) < (nm.size : Int)) = false := decide_eq_false (by omega)
          have HF : Hid (lg (A.take (i + 1)) s.data.toList = (ar, ak)) := by show _ = _; rw [hst, lgStep, if_neg (by simp [hlt])]
          clear hx hil hp hst hz hbg
          go_wp2_with fail
          exact ⟨⟨i + 1, _, by go_num, by omega, by rw [HF.out], by rw [HF.out], rfl⟩, by simp [intOf]; omega⟩
      | false =>
        have HF : Hid (lg (A.take (i + 1)) s.data.toList = (ar, ak)) := by
          show _ = _
          rw [hst, lgStep, if_neg]
          show ¬ (decide (ak < nm.size) && nm.data.toList.isPrefixOf s.data.toList) = true
          rw [hp]
          simp
        rw [hp] at hbg
        by_cases hlt : ak < nm.size
        · have hg : decide ((ak : Int) < (nm.size : Int)) = true := decide_eq_true (by omega)
          clear hx hil hp hst hz
          go_wp2_with fail
          refine (hbg _).mono ?_
          rintro e w1 ⟨rfl, rfl⟩
          go_wp2_with fail
          exact ⟨⟨i + 1, _, by go_num, by omega, by rw [HF.out], by rw [HF.out], rfl⟩, by simp [intOf]; omega⟩
        · have hg : decide ((ak : Int) < (nm.size : Int)) = false := decide_eq_false (by omega)
          clear hx hil hp hst hz hbg
          go_wp2_with fail
          exact ⟨⟨i + 1, _, by go_num, by omega, by rw [HF.out], by rw [HF.out], rfl⟩, by simp [intOf]; omega⟩
    · have hg : decide ((i : Int) < (n : Int)) = false := decide_eq_false (by omega)
      have HF : Hid (lg A s.data.toList = (ar, ak)) := by
        have := HL.out
        rw [List.take_of_length_le (by rw [HA.out.2.1]; omega)] at this
        exact this
      go_wp2_with fail
      go_ret2
      rw [HF.out]
      exact ⟨rfl, below_drewN (Below.refl _ _) _⟩
end Go.Proofs.YtaadphifagimaaaDoor
