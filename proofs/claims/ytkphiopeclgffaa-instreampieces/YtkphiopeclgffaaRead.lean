/- take as one step; the decoder's read, finish. -/
import Derived.Test.YtkphiopeclgffaaTake
import Derived.Test.YtkphiopeclgffaaEq
namespace Go.Proofs.Ytkphiopeclgffaa
open Go.RowKit

/-- The bytes that wait say numbers of a character. -/
theorem val_bound : ∀ (l : List UInt8) (r : Int), 0 ≤ r → 0 ≤ val r l ∧ val r l < (r + 1) * 64 ^ l.length
  | [], r, h0 => ⟨h0, by simp [val]; omega⟩
  | b :: t, r, h0 => by
    have e : val r (b :: t) = val (add6 r b) t := rfl
    have ha : 0 ≤ add6 r b ∧ add6 r b + 1 ≤ (r + 1) * 64 := by unfold add6; omega
    obtain ⟨i1, i2⟩ := val_bound t (add6 r b) ha.1
    refine ⟨by rw [e]; exact i1, ?_⟩
    rw [e, List.length_cons, Int.pow_succ]
    have : (add6 r b + 1) * 64 ^ t.length ≤ ((r + 1) * 64) * 64 ^ t.length := Int.mul_le_mul_of_nonneg_right ha.2 (Int.pow_nonneg (by omega))
    rw [Int.mul_comm ((64 : Int) ^ t.length) 64, ← Int.mul_assoc]
    omega

theorem mask_le (a : Nat) (h : 2 ≤ need a) : mask (need a) a < 32 := by
  have := need_le a
  unfold mask
  repeat' split
  all_goals omega

theorem pend_bits (a : UInt8) (t : List UInt8) (h : pend (a :: t)) : 0 ≤ (formL (a :: t)).bits ∧ (formL (a :: t)).bits ≤ 1000000000 ∧ 0 ≤ (formL (a :: t)).more ∧ (formL (a :: t)).more ≤ 10 := by
  obtain ⟨m1, m2, _⟩ := pend_form a t h
  obtain ⟨_, h2⟩ := h
  have hn := need_le a.toNat
  have hm := mask_le a.toNat (by omega)
  obtain ⟨v1, v2⟩ := val_bound t (mask (need a.toNat) a.toNat : Nat) (by omega)
  rw [m1, m2]
  have hl : (64 : Int) ^ t.length ≤ 64 ^ 3 := by
    have : t.length ≤ 2 := by omega
    match ht : t.length, this with
    | 0, _ => decide
    | 1, _ => decide
    | 2, _ => decide
  have : ((mask (need a.toNat) a.toNat : Nat) + 1 : Int) * 64 ^ t.length ≤ 32 * 64 ^ 3 := Int.mul_le_mul (by omega) hl (Int.pow_nonneg (by omega)) (by omega)
  refine ⟨v1, by omega, by omega, by omega⟩

theorem take_any {B t d : Nat} {p : Int} {u : List UInt8} {cs : List Ch} {fs : List Int} {w : World} (b : UInt8) (hu : pend u) (hp0 : 0 ≤ p) (hp1 : p ≤ 1500000000000) (hd : DecIs d p (p + (u.length : Nat)) (formL u) w) (ht : Told B t cs fs w) (hn : cs.length ≤ 800000) (hn2 : fs.length ≤ 800000) :
    Calls Try.prog 36 #[.pointer (some ⟨d, 0, none⟩), .int .u8 (b.toNat : Nat), .pointer (some ⟨t, 0, none⟩)] w fun e w' => e = .returned (.tuple #[]) ∧
      DecIs d (p + (tot (step u b).2 : Nat)) (p + (tot (step u b).2 : Nat) + ((step u b).1.length : Nat)) (formL (step u b).1) w' ∧ Told B t (cs ++ chs p (step u b).2) (fs ++ fls p (step u b).2) w' ∧ Turn B d w w' := by
  obtain ⟨_, _, _, hlen⟩ := step_ok u b [] hu
  match u, hu with
  | [], hu =>
    have e1 : p + ((List.length (α := UInt8) []) : Nat) = p := by simp
    rw [e1] at hd
    refine (take_idle b hp0 (by omega) hd ht (by omega) (by omega)).mono ?_
    rintro e w' ⟨he, h1, h2, h3⟩
    have hl : tot (start b).2 + (start b).1.length = 1 := by simpa [step] using hlen
    refine ⟨he, ?_, h2, h3⟩
    show DecIs d (p + (tot (start b).2 : Nat)) (p + (tot (start b).2 : Nat) + ((start b).1.length : Nat)) (formL (start b).1) w'
    have e2 : p + (tot (start b).2 : Nat) + ((start b).1.length : Nat) = p + 1 := by omega
    rw [e2]; exact h1
  | a :: r, hu =>
    have hr3 : r.length ≤ 3 := by have := hu.2; have := need_le a.toNat; omega
    obtain ⟨b0, b1, b2, b3⟩ := pend_bits a r hu
    have hfs := form_snoc a r b
    rw [step_cons]
    have hq : p + ((a :: r).length : Nat) = p + ((r.length + 1 : Nat) : Int) := rfl
    by_cases hf : fitsF (formL (a :: r)) b.toNat = true
    · rw [if_pos hf, hfs]
      refine (take_fits b (by simp; omega) hp0 (by simp; omega) b0 b1 b2 b3 hf hd ht (by omega)).mono ?_
      rintro e w' ⟨he, h1, h2⟩
      by_cases hm : (withF (formL (a :: r)) b).more = 0
      · rw [if_pos hm] at h1 ⊢
        have hbn : (withF (formL (a :: r)) b).bits ≠ -1 := by show (formL (a :: r)).bits * 64 + _ ≠ -1; omega
        have e1 : chs p [((withF (formL (a :: r)) b).bits, r.length + 2)] = [⟨(withF (formL (a :: r)) b).bits, p, p + ((a :: r).length : Nat) + 1⟩] := by
          simp only [chs, if_neg hbn]; rw [List.length_cons]; congr 2; omega
        have e2 : fls p [((withF (formL (a :: r)) b).bits, r.length + 2)] = [] := by simp [fls, hbn]
        have e3 : (tot [((withF (formL (a :: r)) b).bits, r.length + 2)] : Nat) = r.length + 2 := rfl
        simp only [e1, e2, e3, List.append_nil]
        refine ⟨he, ?_, h1.2, h2⟩
        have e4 : p + ((r.length + 2 : Nat) : Int) = p + ((a :: r).length : Nat) + 1 := by rw [List.length_cons]; omega
        have e5 : p + ((r.length + 2 : Nat) : Int) + ((List.length (α := UInt8) []) : Nat) = p + ((a :: r).length : Nat) + 1 := by rw [List.length_cons, List.length_nil]; omega
        rw [e5, e4]; exact h1.1
      · rw [if_neg hm] at h1 ⊢
        simp only [tot_nil, chs, fls, List.append_nil]
        refine ⟨he, ?_, h1.2, h2⟩
        have e4 : p + ((0 : Nat) : Int) = p := by omega
        have e5 : p + ((a :: (r ++ [b])).length : Nat) = p + ((a :: r).length : Nat) + 1 := by simp; omega
        rw [e4, e5, hfs]; exact h1.1
    · rw [if_neg hf]
      refine (take_anew b (by simp; omega) hp0 (by simp; omega) (by simpa using hf) hd ht (by omega) (by omega)).mono ?_
      rintro e w' ⟨he, h1, h2, h3⟩
      rw [step_cons, if_neg hf, tot_cons, List.length_cons] at hlen
      simp only at hlen
      refine ⟨he, ?_, ?_, h3⟩
      · rw [tot_cons]
        have e1 : p + ((r.length + 1 + tot (start b).2 : Nat) : Int) = p + ((a :: r).length : Nat) + (tot (start b).2 : Nat) := by rw [List.length_cons]; omega
        have e2 : p + ((r.length + 1 + tot (start b).2 : Nat) : Int) + ((start b).1.length : Nat) = p + ((a :: r).length : Nat) + 1 := by rw [List.length_cons]; omega
        show DecIs d (p + ((r.length + 1 + tot (start b).2 : Nat) : Int)) (p + ((r.length + 1 + tot (start b).2 : Nat) : Int) + ((start b).1.length : Nat)) _ w'
        rw [e2, e1]; exact h1
      · have e1 : chs p ((-1, r.length + 1) :: (start b).2) = [⟨65533, p, p + ((a :: r).length : Nat)⟩] ++ chs (p + ((a :: r).length : Nat)) (start b).2 := rfl
        have e2 : fls p ((-1, r.length + 1) :: (start b).2) = [p] ++ fls (p + ((a :: r).length : Nat)) (start b).2 := rfl
        show Told B t (cs ++ chs p ((-1, r.length + 1) :: (start b).2)) (fs ++ fls p ((-1, r.length + 1) :: (start b).2)) w'
        rw [e1, e2, ← List.append_assoc, ← List.append_assoc]; exact h2

theorem start_few (b : UInt8) : (start b).2.length ≤ 1 := by unfold start; split <;> simp
theorem step_few : ∀ (u : List UInt8) (b : UInt8), (step u b).2.length ≤ 2
  | [], b => by have := start_few b; show (start b).2.length ≤ 2; omega
  | a :: t, b => by
    have := start_few b
    rw [step_cons]
    repeat' split
    all_goals (simp; try omega)
theorem run_few : ∀ (s u : List UInt8), (run u s).2.length ≤ 2 * s.length
  | [], _ => by simp [run]
  | b :: s, u => by
    have h1 := step_few u b
    have h2 := run_few s (step u b).1
    simp only [run, List.length_append, List.length_cons]; omega

theorem run_snoc (s u : List UInt8) (b : UInt8) : run u (s ++ [b]) = ((step (run u s).1 b).1, (run u s).2 ++ (step (run u s).1 b).2) := by
  rw [run_append]; simp [run]

theorem take_snoc (s : ByteArray) (k : Nat) (h : k < s.size) : s.data.toList.take (k + 1) = s.data.toList.take k ++ [s[k]] := by
  rw [List.take_succ_eq_append_getElem (by simpa using h)]; rfl

/-- A decoder at place p, the bytes u waiting. -/
def Dec (d : Nat) (p : Int) (u : List UInt8) (w : World) : Prop := DecIs d p (p + (u.length : Nat)) (formL u) w

set_option maxHeartbeats 1000000 in
theorem read_any {B t d : Nat} {p : Int} {u : List UInt8} {cs : List Ch} {fs : List Int} {w : World} (s : ByteArray) (hu : pend u) (hp0 : 0 ≤ p) (hp1 : p ≤ 1400000000000) (hd : Dec d p u w) (ht : Told B t cs fs w) (hn : cs.length ≤ 400000) (hn2 : fs.length ≤ 400000) (hs : s.size ≤ 100000) :
    Calls Try.prog 28 #[.pointer (some ⟨d, 0, none⟩), .string s, .pointer (some ⟨t, 0, none⟩)] w fun e w' => e = .returned (.tuple #[]) ∧
      Dec d (p + (tot (run u s.data.toList).2 : Nat)) (run u s.data.toList).1 w' ∧ Told B t (cs ++ chs p (run u s.data.toList).2) (fs ++ fls p (run u s.data.toList).2) w' ∧ Turn B d w w' := by
  have HD : Hid (Dec d p u w) := hd
  have HT : Hid (Told B t cs fs w) := ht
  have HU : Hid (pend u) := hu
  have hu3 : u.length ≤ 4 := by
    match u, hu with
    | [], _ => simp
    | a :: r, h => have := h.2; have := need_le a.toNat; simp; omega
  clear hd ht hu
  go_enter Try.func28, Try.ntmps28
  go_wp2_with fail
  go_loopw [9] (fun i wr => ∃ k : Nat, k ≤ s.size ∧ i = .int .i64 k ∧ Dec d (p + (tot (run u (s.data.toList.take k)).2 : Nat)) (run u (s.data.toList.take k)).1 wr ∧ Told B t (cs ++ chs p (run u (s.data.toList.take k)).2) (fs ++ fls p (run u (s.data.toList.take k)).2) wr ∧ Turn B d w wr) (fun i _ => s.size - (intOf i).toNat)
  case atStart => exact ⟨0, Nat.zero_le _, rfl, by simpa [run, tot] using HD.out, by simpa [run, chs, fls] using HT.out, Turn.refl _ _ _⟩
  case round =>
    obtain ⟨k, hk, rfl, hD, hT, hU⟩ := hrel
    have hlen : (s.data.toList.take k).length = k := by rw [List.length_take, Array.length_toList]; show min k s.size = k; omega
    obtain ⟨r1, _, _, r4⟩ := run_ok (s.data.toList.take k) u HU.out
    have r5 := run_few (s.data.toList.take k) u
    rw [hlen] at r4 r5
    have hcl : (cs ++ chs p (run u (s.data.toList.take k)).2).length ≤ 800000 := by rw [List.length_append, chs_length]; omega
    have hfl : (fs ++ fls p (run u (s.data.toList.take k)).2).length ≤ 800000 := by have := fls_length (run u (s.data.toList.take k)).2 p; rw [List.length_append]; omega
    by_cases hlt : k < s.size
    · have hsn := run_snoc (s.data.toList.take k) u s[k]
      rw [← take_snoc s k hlt] at hsn
      have HS : Hid (run u (s.data.toList.take (k + 1)) = ((step (run u (s.data.toList.take k)).1 s[k]).1, (run u (s.data.toList.take k)).2 ++ (step (run u (s.data.toList.take k)).1 s[k]).2)) := hsn
      have R1 : Hid (pend (run u (s.data.toList.take k)).1) := r1
      have HD2 : Hid (Dec d (p + (tot (run u (s.data.toList.take k)).2 : Nat)) (run u (s.data.toList.take k)).1 wr) := hD
      have HT2 : Hid (Told B t (cs ++ chs p (run u (s.data.toList.take k)).2) (fs ++ fls p (run u (s.data.toList.take k)).2) wr) := hT
      have HU2 : Hid (Turn B d w wr) := hU
      clear hsn r1 hD hT hU hlen r5
      generalize run u (s.data.toList.take k) = ul at *
      go_wp2_with fail
      refine (take_any s[k] R1.out (by omega) (by omega) HD2.out HT2.out hcl hfl).mono ?_
      rintro e w2 ⟨rfl, t1, t2, t3⟩
      have T1 : Hid (Dec d (p + (tot ul.2 : Nat) + (tot (step ul.1 s[k]).2 : Nat)) (step ul.1 s[k]).1 w2) := t1
      have T2 : Hid (Told B t ((cs ++ chs p ul.2) ++ chs (p + (tot ul.2 : Nat)) (step ul.1 s[k]).2) ((fs ++ fls p ul.2) ++ fls (p + (tot ul.2 : Nat)) (step ul.1 s[k]).2) w2) := t2
      have T3 : Hid (Turn B d w w2) := HU2.out.trans t3
      clear t1 t2 t3 HD2 HT2 HU2
      go_wp2_with fail
      go_roundw
      case rel =>
        refine ⟨k + 1, by omega, by go_num, ?_, ?_, T3.out⟩
        · rw [HS.out, tot_append]
          have e1 : p + ((tot ul.2 + tot (step ul.1 s[k]).2 : Nat) : Int) = p + (tot ul.2 : Nat) + (tot (step ul.1 s[k]).2 : Nat) := by omega
          show Dec d (p + ((tot ul.2 + tot (step ul.1 s[k]).2 : Nat) : Int)) _ w2
          rw [e1]; exact T1.out
        · rw [HS.out]
          show Told B t (cs ++ chs p (ul.2 ++ (step ul.1 s[k]).2)) (fs ++ fls p (ul.2 ++ (step ul.1 s[k]).2)) w2
          rw [chs_append, fls_append, ← List.append_assoc, ← List.append_assoc]; exact T2.out
      case measure => simp [intOf]; omega
    · have hks : s.data.toList.take k = s.data.toList := List.take_of_length_le (by rw [Array.length_toList]; show s.size ≤ k; omega)
      rw [hks] at hD hT
      have HD2 : Hid (Dec d (p + (tot (run u s.data.toList).2 : Nat)) (run u s.data.toList).1 wr) := hD
      have HT2 : Hid (Told B t (cs ++ chs p (run u s.data.toList).2) (fs ++ fls p (run u s.data.toList).2) wr) := hT
      have HU2 : Hid (Turn B d w wr) := hU
      clear hD hT hU hlen r1 r4 r5 hcl hfl hks
      go_wp2_with fail
      refine bodyPost_end (results_none rfl _ _ _) rfl ?_
      exact ⟨rfl, HD2.out, HT2.out, HU2.out⟩

set_option maxHeartbeats 1000000 in
theorem finish_any {B t d : Nat} {p : Int} {u : List UInt8} {cs : List Ch} {fs : List Int} {w : World} (hd : Dec d p u w) (ht : Told B t cs fs w) (hn : cs.length ≤ 800000) (hn2 : fs.length ≤ 800000) :
    Calls Try.prog 33 #[.pointer (some ⟨d, 0, none⟩), .pointer (some ⟨t, 0, none⟩)] w fun e w' => e = .returned (.tuple #[]) ∧
      Dec d (p + (u.length : Nat)) [] w' ∧ Told B t (cs ++ chs p (fin u)) (fs ++ fls p (fin u)) w' ∧ Turn B d w w' := by
  have HD : Hid (Dec d p u w) := hd
  have HT : Hid (Told B t cs fs w) := ht
  obtain ⟨hdw, d0, d1, d2, d3, d4, d5, hfz⟩ := dec_cells hd
  clear hd ht hfz
  by_cases hu : u = []
  · subst hu
    have hlt : ¬ (p < p + ((List.length (α := UInt8) [] : Nat) : Int)) := by simp
    rw [List.length_nil] at d1
    have e1 : p + ((0 : Nat) : Int) = p := by omega
    rw [e1] at d1
    go_enter Try.func33, Try.ntmps33
    go_wp2_with fail
    go_quiet (fail)
    go_wp2_with fail
    refine bodyPost_end (results_none rfl _ _ _) rfl ?_
    have hb := below_drewN (Below.refl w.heap.size w) nq
    refine ⟨rfl, ?_, ?_, Turn.ofOld hb⟩
    · rw [e1]; exact dec_below HD.out hb
    · show Told B t (cs ++ []) (fs ++ []) _
      rw [List.append_nil, List.append_nil]; exact told_below HT.out hb
  · obtain ⟨q, hq⟩ : ∃ q, p + (u.length : Nat) = q := ⟨_, rfl⟩
    have hul : 0 < u.length := by cases u with | nil => exact absurd rfl hu | cons a r => simp
    have HQ : Hid (p + (u.length : Nat) = q) := hq
    rw [hq] at d1
    have hlt : p < q := by omega
    clear hq hul
    go_enter Try.func33, Try.ntmps33
    go_wp2_with fail
    go_quiet (fail)
    go_wp2_with fail
    have hb := below_drewN (Below.refl w.heap.size w) nq
    refine (tell_bad (dec_below HD.out hb) (told_below HT.out hb) (by omega) (by omega)).mono ?_
    rintro e w2 ⟨rfl, t1, t2, t3⟩
    have T1 : Hid (DecIs d (p + (u.length : Nat)) (p + (u.length : Nat)) F0 w2) := t1
    have T2 : Hid (Told B t (cs ++ [⟨65533, p, p + (u.length : Nat)⟩]) (fs ++ [p]) w2) := t2
    have T3 : Hid (Turn B d w w2) := (Turn.ofOld hb).trans t3
    clear t1 t2 t3 hb
    go_wp2_with fail
    refine bodyPost_end (results_none rfl _ _ _) rfl ?_
    have ef : fin u = [(-1, u.length)] := by unfold fin; rw [if_neg hu]
    rw [ef]
    refine ⟨rfl, ?_, T2.out, T3.out⟩
    have e2 : p + (u.length : Nat) + ((List.length (α := UInt8) [] : Nat) : Int) = p + (u.length : Nat) := by simp
    show DecIs d (p + (u.length : Nat)) (p + (u.length : Nat) + ((List.length (α := UInt8) [] : Nat) : Int)) F0 w2
    rw [e2]; exact T1.out
end Go.Proofs.Ytkphiopeclgffaa
