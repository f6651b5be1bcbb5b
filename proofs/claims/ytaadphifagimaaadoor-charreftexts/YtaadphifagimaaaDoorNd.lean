/- A reference by a name: wordy, goesOn, begun, named. -/
import Derived.Test.YtaadphifagimaaaDoorNb
import Derived.Test.YtaadphifagimaaaDoorFind
namespace Go.Proofs.YtaadphifagimaaaDoor
open Go.RowKit

def wordyP (b : Nat) : Bool := decide ((97 ≤ b ∧ b ≤ 122) ∨ (65 ≤ b ∧ b ≤ 90) ∨ (48 ≤ b ∧ b ≤ 57))
def goesOnP (l : List UInt8) : Bool := match l with
  | [] => false
  | b :: _ => b.toNat == 61 || wordyP b.toNat
def begC (L : List Rf) (l : List UInt8) (n : Nat) : Bool := match l[n]? with
  | some b => wordyP b.toNat && goes L (l.take (n + 1))
  | none => false
def begF (L : List Rf) (l : List UInt8) : Nat → Nat → Nat
  | 0, n => n
  | f + 1, n => if begC L l n = true then begF L l f (n + 1) else n
def begN (L : List Rf) (l : List UInt8) : Nat := begF L l l.length 0
def begunP (L : List Rf) (l : List UInt8) : Bool := decide (0 < begN L l) && [59].isPrefixOf (l.drop (begN L l))
/-- A reference by a name; l: what stands behind the &. -/
def namedP (L : List Rf) (attr : Bool) (l : List UInt8) : Int × Nat × List Int :=
  if (best L l l.length).2 = 0 then (if begunP L l = true then (0, 0, [19]) else (0, 0, []))
  else if l[(best L l l.length).2 - 1]? = some 59 then ((best L l l.length).1, 1 + (best L l l.length).2, [])
  else if (attr && goesOnP (l.drop (best L l l.length).2)) = true then (0, 0, [])
  else ((best L l l.length).1, 1 + (best L l l.length).2, [18])

/-- A trie that may be none. -/
def TrieV (w : World) (B : Nat) (tv : Value) (L : List Rf) : Prop := (tv = .pointer none ∧ L = []) ∨ ∃ t, tv = .pointer (some ⟨t, 0, none⟩) ∧ TrieIs w B t L
theorem TrieV.below {w w' : World} {B : Nat} {tv : Value} {L : List Rf} (T : TrieV w B tv L) (b : Below w.heap.size w w') : TrieV w' B tv L := by
  rcases T with h | ⟨t, h1, h2⟩
  · exact .inl h
  · exact .inr ⟨t, h1, h2.below b⟩

theorem best_nil (s : Path) (k : Nat) : best [] s k = (0, 0) := by
  induction k with
  | zero => rfl
  | succ k ih => rw [best]; exact ih
theorem longest_v {w : World} {B : Nat} {tv : Value} {L : List Rf} (T : TrieV w B tv L) (s : ByteArray) (hs : s.size ≤ 9223372036854775807) :
    Calls Tryd.prog 53 #[tv, .string s] w fun e w' => e = .returned (.tuple #[.int .i64 (best L s.data.toList s.size).1, .int .i64 ((best L s.data.toList s.size).2 : Nat)]) ∧ Below w.heap.size w w' := by
  rcases T with ⟨rfl, rfl⟩ | ⟨t, rfl, T⟩
  · rw [best_nil]
    exact (longest_nil s w).mono fun e w' h => ⟨h.1, by rw [h.2]; exact Below.refl _ _⟩
  · exact longest_any T s hs
theorem goes_v {w : World} {B : Nat} {tv : Value} {L : List Rf} (T : TrieV w B tv L) (s : ByteArray) (hs : s.size ≤ 9223372036854775807) :
    Calls Tryd.prog 64 #[tv, .string s] w fun e w' => e = .returned (.bool (goes L s.data.toList)) ∧ Below w.heap.size w w' := by
  rcases T with ⟨rfl, rfl⟩ | ⟨t, rfl, T⟩
  · exact (goes_nil s w).mono fun e w' h => ⟨h.1, by rw [h.2]; exact Below.refl _ _⟩
  · exact goes_any T s hs

set_option maxHeartbeats 1000000 in
theorem wordy_any (b : Nat) (w : World) : Calls Tryd.prog 63 #[.int .u8 (b : Int)] w fun e w' => e = .returned (.bool (wordyP b)) ∧ w' = w := by
  go_enter Tryd.func63, Tryd.ntmps63
  go_wp2
  all_goals
    go_ret
    refine ⟨ret_bool ?_, rfl⟩
    unfold wordyP
    first | (symm; apply decide_eq_true; omega) | (symm; apply decide_eq_false; omega) | (rw [Bool.eq_iff_iff]; simp; omega)

theorem empty_of_size (s : ByteArray) (h : s.size = 0) : s = ByteArray.empty := by
  apply ByteArray.ext
  exact Array.eq_empty_of_size_eq_zero h

set_option maxHeartbeats 1000000 in
theorem goesOn_any (s : ByteArray) (w : World) : Calls Tryd.prog 55 #[.string s] w fun e w' => e = .returned (.bool (goesOnP s.data.toList)) ∧ w' = w := by
  by_cases h0 : s.size = 0
  · have := empty_of_size s h0
    subst this
    go_enter Tryd.func55, Tryd.ntmps55
    go_wp2
    go_ret
    exact ⟨rfl, rfl⟩
  · have hlt : 0 < s.size := by omega
    have hl : s.data.toList = s[0] :: s.data.toList.drop 1 := by
      have h2 : 0 < s.data.toList.length := by rw [Array.length_toList]; exact hlt
      have := List.drop_eq_getElem_cons h2
      rw [List.drop_zero] at this
      exact this
    have HP : Hid (goesOnP s.data.toList = ((s[0].toNat : Int) == 61 || wordyP s[0].toNat)) := by
      show goesOnP s.data.toList = _
      rw [hl]
      show (s[0].toNat == 61 || _) = _
      congr 1
      rw [Bool.eq_iff_iff]; simp; omega
    have hw := wordy_any s[0].toNat
    have hne : s.toList.isEmpty = false := by rw [ByteArray.toList_eq, hl]; rfl
    have hne2 : ¬ s.toList = [] := by rw [ByteArray.toList_eq, hl]; simp
    clear hl
    obtain ⟨b, hb⟩ : ∃ b, wordyP s[0].toNat = b := ⟨_, rfl⟩
    rw [hb] at HP hw
    clear hb
    cases he : ((s[0].toNat : Int) == 61)
    · go_enter Tryd.func55, Tryd.ntmps55
      go_wp2_with (go_at_call 63; refine (hw _).mono ?_; rintro e w' ⟨rfl, rfl⟩)
      go_ret
      rw [HP.out]
      exact ⟨by simp [he], rfl⟩
    · go_enter Tryd.func55, Tryd.ntmps55
      go_wp2_with (go_at_call 63; refine (hw _).mono ?_; rintro e w' ⟨rfl, rfl⟩)
      go_ret
      rw [HP.out]
      exact ⟨by simp [he], rfl⟩

theorem begF_step {L : List Rf} {l : List UInt8} {n : Nat} (h : begC L l n = true) : begF L l (l.length - n) n = begF L l (l.length - (n + 1)) (n + 1) := by
  have hn : n < l.length := by
    by_cases hn : n < l.length
    · exact hn
    · unfold begC at h; rw [List.getElem?_eq_none (by omega)] at h; cases h
  obtain ⟨f, hf⟩ : ∃ f, l.length - n = f + 1 := ⟨l.length - n - 1, by omega⟩
  rw [hf, begF, if_pos h, show l.length - (n + 1) = f by omega]
theorem begF_stop {L : List Rf} {l : List UInt8} {n : Nat} (h : begC L l n = false) (f : Nat) : begF L l f n = n := by
  cases f with
  | zero => rfl
  | succ f => rw [begF, h]; rfl

theorem extract_take (s : ByteArray) (k : Nat) : (s.extract 0 k).data.toList = s.data.toList.take k := by
  simp [ByteArray.data_extract]

set_option maxHeartbeats 1000000 in
set_option maxRecDepth 10000 in
theorem begun_any {w : World} {B : Nat} {tv : Value} {L : List Rf} (T : TrieV w B tv L) (s : ByteArray) (hs : s.size ≤ 1000000) :
    Calls Tryd.prog 54 #[.string s, tv] w fun e w' => e = .returned (.bool (begunP L s.data.toList)) ∧ Below w.heap.size w w' := by
  have HT : Hid (TrieV w B tv L) := T
  have hlen : s.data.toList.length = s.size := Array.length_toList
  have HL : Hid (s.data.toList.length = s.size) := hlen
  clear T hlen
  go_enter Tryd.func54, Tryd.ntmps54
  go_wp2_with fail
  go_loopw [5] (fun nv wr => ∃ (n : Nat), nv = .int .i64 n ∧ n ≤ s.size ∧ Below w.heap.size w wr ∧ begF L s.data.toList (s.data.toList.length - n) n = begN L s.data.toList) (fun nv _ => s.size - (intOf nv).toNat)
  case atStart => exact ⟨0, rfl, Nat.zero_le _, Below.refl _ _, rfl⟩
  case round =>
    obtain ⟨n, rfl, hn, hbl, hbg⟩ := hrel
    have HB : Hid (Below w.heap.size w wr ∧ begF L s.data.toList (s.data.toList.length - n) n = begN L s.data.toList) := ⟨hbl, hbg⟩
    clear hbl hbg
    have Hend : Hid (begC L s.data.toList n = false → begN L s.data.toList = n) := fun h => by
      have h2 := HB.out.2
      rw [begF_stop h] at h2
      exact h2.symm
    have hpf := fun w => strings_HasPrefix (s.extract n s.size) ⟨#[59]⟩ w
    rw [bytes_drop] at hpf
    have HPf : Hid (∀ w, Calls Tryd.prog 41 #[.string (s.extract n s.size), .string ⟨#[59]⟩] w fun e w' => e = .returned (.bool ([59].isPrefixOf (s.data.toList.drop n))) ∧ w' = w) := hpf
    clear hpf
    have last : Hid (begC L s.data.toList n = false → begunP L s.data.toList = (decide (0 < (n : Int)) && [59].isPrefixOf (s.data.toList.drop n))) := fun h => by
      unfold begunP
      rw [Hend.out h]
      congr 1
      rw [Bool.eq_iff_iff]; simp
    obtain ⟨sm, hsm⟩ : ∃ sm, [59].isPrefixOf (s.data.toList.drop n) = sm := ⟨_, rfl⟩
    rw [hsm] at HPf last
    clear hsm
    have hpf := HPf.out
    clear HPf Hend
    by_cases hlt : n < s.size
    · have hwd := wordy_any s[n].toNat
      have HC : Hid (begC L s.data.toList n = (wordyP s[n].toNat && goes L (s.data.toList.take (n + 1)))) := by
        show begC L s.data.toList n = _
        unfold begC
        rw [at_i s n hlt]
      obtain ⟨wd, hwd2⟩ : ∃ wd, wordyP s[n].toNat = wd := ⟨_, rfl⟩
      rw [hwd2] at hwd HC
      clear hwd2
      cases wd
      · have hl := last.out (by rw [HC.out]; rfl)
        have HLs : Hid (begunP L s.data.toList = (decide (0 < (n : Int)) && sm)) := hl
        clear hl last
        by_cases hn0 : 0 < (n : Int)
        · go_wp2_with (first | (go_at_call 63; refine (hwd _).mono ?_; rintro e w' ⟨rfl, rfl⟩) | (go_at_call 41; refine (hpf _).mono ?_; rintro e w' ⟨rfl, rfl⟩))
          go_ret
          rw [HLs.out]
          exact ⟨by cases sm <;> simp <;> omega, HB.out.1⟩
        · go_wp2_with (first | (go_at_call 63; refine (hwd _).mono ?_; rintro e w' ⟨rfl, rfl⟩) | (go_at_call 41; refine (hpf _).mono ?_; rintro e w' ⟨rfl, rfl⟩))
          go_ret
          rw [HLs.out]
          exact ⟨by cases sm <;> simp <;> omega, HB.out.1⟩
      · have hg := goes_v (HT.out.below HB.out.1) (s.extract 0 (n + 1)) (by simp only [ByteArray.size_extract]; omega)
        rw [extract_take] at hg
        obtain ⟨g, hgg⟩ : ∃ g, goes L (s.data.toList.take (n + 1)) = g := ⟨_, rfl⟩
        rw [hgg] at hg HC
        clear hgg
        cases g
        · have hl := last.out (by rw [HC.out]; rfl)
          have HLs : Hid (begunP L s.data.toList = (decide (0 < (n : Int)) && sm)) := hl
          clear hl last
          by_cases hn0 : 0 < (n : Int)
          · go_wp2_with (first | (go_at_call 63; refine (hwd _).mono ?_; rintro e w' ⟨rfl, rfl⟩) | (go_at_call 64; refine hg.mono ?_; rintro e w1 ⟨rfl, hb⟩; have HB2 : Hid _ := hb; clear hb) | (go_at_call 41; refine (hpf _).mono ?_; rintro e w' ⟨rfl, rfl⟩))
            go_ret
            rw [HLs.out]
            exact ⟨by cases sm <;> simp <;> omega, HB.out.1.trans (HB2.out.mono HB.out.1.size)⟩
          · go_wp2_with (first | (go_at_call 63; refine (hwd _).mono ?_; rintro e w' ⟨rfl, rfl⟩) | (go_at_call 64; refine hg.mono ?_; rintro e w1 ⟨rfl, hb⟩; have HB2 : Hid _ := hb; clear hb) | (go_at_call 41; refine (hpf _).mono ?_; rintro e w' ⟨rfl, rfl⟩))
            go_ret
            rw [HLs.out]
            exact ⟨by cases sm <;> simp <;> omega, HB.out.1.trans (HB2.out.mono HB.out.1.size)⟩
        · clear last
          go_wp2_with (first | (go_at_call 63; refine (hwd _).mono ?_; rintro e w' ⟨rfl, rfl⟩) | (go_at_call 64; refine hg.mono ?_; rintro e w1 ⟨rfl, hb⟩; have HB2 : Hid _ := hb; clear hb))
          refine ⟨⟨n + 1, by go_num, by omega, HB.out.1.trans (HB2.out.mono HB.out.1.size), ?_⟩, by simp [intOf]; omega⟩
          rw [← HB.out.2]
          exact (begF_step (by rw [HC.out]; rfl)).symm
    · have hie : n = s.size := by omega
      subst hie
      have hl := last.out (by unfold begC; rw [List.getElem?_eq_none (by rw [HL.out]; exact Nat.le_refl _)])
      have HLs : Hid (begunP L s.data.toList = (decide (0 < (s.size : Int)) && sm)) := hl
      clear hl last
      rw [show s.extract s.size s.size = ByteArray.empty by simp] at hpf
      by_cases hn0 : 0 < (s.size : Int)
      · go_wp2_with (first | (go_at_call 41; refine (hpf _).mono ?_; rintro e w' ⟨rfl, rfl⟩))
        go_ret
        rw [HLs.out]
        exact ⟨by cases sm <;> simp <;> omega, HB.out.1⟩
      · go_wp2_with (first | (go_at_call 41; refine (hpf _).mono ?_; rintro e w' ⟨rfl, rfl⟩))
        go_ret
        rw [HLs.out]
        exact ⟨by rw [decide_eq_false (show ¬ 0 < (s.size : Int) by omega)]; rfl, HB.out.1⟩
end Go.Proofs.YtaadphifagimaaaDoor
