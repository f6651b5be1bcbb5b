/- One: the reference that a text begins with. -/
import Derived.Test.YtaadphifagimaaaDoorLk
namespace Go.Proofs.YtaadphifagimaaaDoor
open Go.RowKit

theorem val_filter {L : List Rf} {c : UInt8} {p : Path} (t : Path) (hp : p = c :: t) : val (L.filter (firstC c)) p = val L p := by
  induction L with
  | nil => rfl
  | cons x L ih =>
    rw [List.filter_cons]
    by_cases hx : firstC c x = true
    · rw [if_pos hx]
      simp only [val, ih]
    · rw [if_neg hx]
      simp only [val]
      rw [if_neg]
      · exact ih
      · rintro ⟨_, e⟩
        refine hx ?_
        unfold firstC
        rw [e, hp]
        simp
theorem pre_filter {L : List Rf} {c : UInt8} {p : Path} (t : Path) (hp : p = c :: t) : pre (L.filter (firstC c)) p = pre L p := by
  subst hp
  rw [Bool.eq_iff_iff]
  simp only [pre, List.any_eq_true, List.mem_filter, Bool.and_eq_true, firstC, List.isPrefixOf_iff_prefix]
  constructor
  · rintro ⟨x, ⟨h1, _⟩, h3⟩; exact ⟨x, h1, h3⟩
  · rintro ⟨x, h1, h2, u, h3⟩
    exact ⟨x, ⟨h1, t ++ u, by rw [← h3]; rfl⟩, h2, u, h3⟩
theorem goes_pre (L : List Rf) (p : Path) : goes L p = pre L p := by
  unfold goes
  by_cases h : 0 < cnt [] L
  · rw [decide_eq_true h, Bool.true_and]
  · rw [cnt_pos (by omega) p, Bool.and_false]
theorem best_filter {L : List Rf} {c : UInt8} {s : Path} (t : Path) (hs : s = c :: t) (k : Nat) : best (L.filter (firstC c)) s k = best L s k := by
  induction k with
  | zero => rfl
  | succ k ih =>
    unfold best
    rw [val_filter (t.take k) (by rw [hs]; rfl), ih]
theorem begC_filter {L : List Rf} {c : UInt8} {s : Path} (t : Path) (hs : s = c :: t) (n : Nat) : begC (L.filter (firstC c)) s n = begC L s n := by
  unfold begC
  rw [goes_pre, goes_pre, pre_filter (t.take n) (by rw [hs]; rfl)]
theorem begF_filter {L : List Rf} {c : UInt8} {s : Path} (t : Path) (hs : s = c :: t) (f n : Nat) : begF (L.filter (firstC c)) s f n = begF L s f n := by
  induction f generalizing n with
  | zero => rfl
  | succ f ih => simp only [begF]; rw [begC_filter t hs, ih]
theorem named_filter {L : List Rf} {c : UInt8} {s : Path} (t : Path) (hs : s = c :: t) (attr : Bool) : namedP (L.filter (firstC c)) attr s = namedP L attr s := by
  unfold namedP begunP begN
  simp only [best_filter t hs, begF_filter t hs]
theorem named_empty (L : List Rf) (attr : Bool) : namedP L attr [] = (0, 0, []) := by
  unfold namedP begunP begN
  simp [best, begF]
theorem ref_like (L : List Rf) (attr : Bool) (l : List UInt8) : refP (likeL L l) attr l = refP L attr l := by
  unfold refP
  split
  · rfl
  split
  · rename_i h1 h2
    match l, h1, h2 with
    | [a], _, _ => rw [show ([a] : List UInt8).drop 1 = [] from rfl, named_empty, named_empty]
    | a :: b :: t, h1, h2 =>
      have ha : a = 38 := by simp [List.isPrefixOf] at h2; exact h2.symm
      subst ha
      have hb : b ≠ 35 := fun e => by subst e; exact h1 (by simp [List.isPrefixOf])
      show namedP (if (38 : UInt8) = 38 ∧ b ≠ 35 then L.filter (firstC b) else []) attr (b :: t) = _
      rw [if_pos ⟨rfl, hb⟩]
      exact named_filter t rfl attr
  · rfl
theorem numB_fine (k base : Nat) (l : List UInt8) : 0 ≤ (numB k base l).1 ∧ (numB k base l).1 ≤ 1114111 := by
  have := chrP_ok (accN base (digs base (l.drop k)) : Nat)
  unfold numB
  split
  · simp
  split
  · show 0 ≤ (chrP _).1 ∧ (chrP _).1 ≤ 1114111; omega
  · show 0 ≤ (chrP _).1 ∧ (chrP _).1 ≤ 1114111; omega
theorem ref_fine {L : List Rf} (F : Fine L) (attr : Bool) (l : List UInt8) : 0 ≤ (refP L attr l).1 ∧ (refP L attr l).1 ≤ 1114111 := by
  unfold refP
  split
  · unfold numbP
    split
    · exact numB_fine _ _ _
    · exact numB_fine _ _ _
  split
  · have := best_fine F (l.drop 1) (l.drop 1).length
    unfold namedP
    repeat' split
    all_goals first | exact this | simp
  · simp
theorem Fine.like {L : List Rf} (F : Fine L) (l : List UInt8) : Fine (likeL L l) := by
  unfold likeL
  split
  · split
    · exact fun x hx => F x (List.mem_filter.1 hx).1
    · exact fun x hx => by cases hx
  · exact fun x hx => by cases hx

set_option maxHeartbeats 1000000 in
theorem one_any {L : List Rf} (A : Api L) {w : World} (H : Hi w) (s : ByteArray) (attr : Bool) (hs : s.size ≤ 1000000) :
    Calls Tryd.prog 11 #[.string s, .bool attr] w fun e w' => Refd w .i64 (refP L attr s.data.toList) e w' := by
  have HR : Hid (∀ w1 e w2 tv, Below w.heap.size w w1 → TrieV w1 w.heap.size tv (likeL L s.data.toList) → Refd w1 .i32 (refP (likeL L s.data.toList) attr s.data.toList) e w2 → ∃ r n v, e = .returned (.tuple #[.int .i32 r, .int .i64 n, v]) ∧ 0 ≤ r ∧ r ≤ 1114111 ∧ Refd w .i64 (refP L attr s.data.toList) (.returned (.tuple #[.int .i64 r, .int .i64 n, v])) w2) := by
    rintro w1 e w2 tv b1 T ⟨v, rfl, h1, h2⟩
    rw [ref_like] at h1 ⊢
    have := ref_fine A.fine attr s.data.toList
    exact ⟨_, _, v, rfl, this.1, this.2, v, rfl, cds_mono h1 b1.size, b1.trans (h2.mono b1.size)⟩
  have k1 := likely_any A s w
  have k2 : ∀ w1 tv, Hi w1 → TrieV w1 w.heap.size tv (likeL L s.data.toList) → Calls Tryd.prog 22 #[.string s, .bool attr, tv] w1 fun e w' => Refd w1 .i32 (refP (likeL L s.data.toList) attr s.data.toList) e w' := fun w1 tv H1 T => reference_any H1 T (A.fine.like _) s attr hs
  have HH : Hid (Hi w) := H
  clear H A
  go_enter Tryd.func11, Tryd.ntmps11
  go_wp2_with (go_at_call 23; refine k1.mono ?_; rintro e w1 ⟨tv, rfl, b1, T⟩; have K2 := k2 w1 tv (HH.out.below b1 HH.out.lt) T; have HB : Hid _ := (⟨b1, T⟩ : _ ∧ _); clear b1 T k1 k2)
  refine K2.mono ?_
  intro e w2 h
  obtain ⟨r, n, v, rfl, h0, h1, h3⟩ := HR.out w1 e w2 tv HB.out.1 HB.out.2 h
  have H3 : Hid _ := h3
  clear h h3 HR HB
  go_wp2
  go_ret3
  exact H3.out
end Go.Proofs.YtaadphifagimaaaDoor
