/- Line ends, plainly: a text whose lines end in 13 10 has the numbers of the text whose lines end in 10. -/
import Derived.Test.YtkphiopeclgffaaFlow
namespace Go.Proofs.Ytkphiopeclgffaa

theorem start_low (c : UInt8) (h : c.toNat < 128) : start c = ([], [((c.toNat : Int), 1)]) := by
  have e : begF c.toNat = ⟨c.toNat, 0, 0, 0⟩ := by unfold begF; rw [if_pos h]
  unfold start
  rw [e, if_pos rfl]

theorem step_low (u : List UInt8) (c : UInt8) (hu : pend u) (h : c.toNat < 128) : step u c = ([], fin u ++ [((c.toNat : Int), 1)]) := by
  match u, hu with
  | [], _ => exact start_low c h
  | a :: t, hu =>
    obtain ⟨_, _, m3⟩ := pend_form a t hu
    have hf : fitsF (formL (a :: t)) c.toNat = false := by
      rw [m3]
      unfold okc lo2 hi2
      repeat' split
      all_goals (rw [decide_eq_false_iff_not]; omega)
    rw [step_cons, hf, start_low c h]
    rfl

/-- Behind a byte below 128 a text begins anew. -/
theorem items_low (x s : List UInt8) (c : UInt8) (h : c.toNat < 128) : items (x ++ c :: s) = items x ++ ((c.toNat : Int), 1) :: items s := by
  obtain ⟨p1, p2, _, _⟩ := run_ok x [] trivial
  obtain ⟨_, q2, _, _⟩ := run_ok s [] trivial
  obtain ⟨_, r2, _, _⟩ := run_ok (x ++ c :: s) [] trivial
  rw [List.nil_append] at p2 q2 r2
  have hst := step_low (run [] x).1 c p1 h
  have hr : run (run [] x).1 (c :: s) = ((run [] s).1, (fin (run [] x).1 ++ [((c.toNat : Int), 1)]) ++ (run [] s).2) := by
    rw [run, hst]
  rw [r2, run_append, hr, p2, q2]
  simp

theorem ext_first (n a : Nat) (b : UInt8) (t : List UInt8) (h : 1 < ext n a 1 (b :: t)) : okc 1 a b.toNat = true := by
  rw [ext] at h
  split at h
  · rename_i c; exact c.2
  · omega

theorem one_13 (a : UInt8) (t : List UInt8) (h : (one (a :: t)).1 = 13) : a = 13 := by
  have ha := UInt8.toNat_lt a
  rw [one_cons] at h
  split at h
  · simp at h
  · rename_i h0
    split at h
    · simp at h
    · rename_i hx
      simp only at h
      have hle := ext_le (need a.toNat) a.toNat t 1
      obtain ⟨n, hn⟩ : ∃ n, a.toNat = n := ⟨_, rfl⟩
      rw [hn] at h h0 hx ha hle
      have hN : need n = 1 ∧ n < 128 ∨ need n = 2 ∧ 194 ≤ n ∧ n ≤ 223 ∨ need n = 3 ∧ 224 ≤ n ∧ n ≤ 239 ∨ need n = 4 ∧ 240 ≤ n ∧ n ≤ 244 := by
        unfold need at h0 ⊢
        repeat' split
        all_goals simp_all
      rcases hN with ⟨e, h1⟩ | ⟨e, h1⟩ | ⟨e, h1⟩ | ⟨e, h1⟩
      · rw [e] at h
        simp [val, mask] at h
        have h' : a.toNat = 13 := by omega
        exact UInt8.toNat_inj.1 h'
      · rw [e] at h hx hle
        match t, hle, hx, h with
        | [], hle, hx, _ => simp at hle; omega
        | b :: t, hle, hx, h =>
          have := (val_bd ((b :: t).take (2 - 1)) (mask 2 n : Nat) (by omega)).1
          rw [h] at this
          simp [mask] at this
          omega
      · rw [e] at h hx hle
        match t, hle, hx, h with
        | [], hle, hx, _ => simp at hle; omega
        | [b], hle, hx, _ => simp at hle; omega
        | b :: b2 :: t, hle, hx, h =>
          have ho := ext_first 3 n b (b2 :: t) (by omega)
          have hv : val (mask 3 n : Nat) ((b :: b2 :: t).take (3 - 1)) = val (add6 (mask 3 n : Nat) b) [b2] := rfl
          have h6 : 0 ≤ add6 (mask 3 n : Nat) b := by unfold add6; omega
          have := (val_bd [b2] (add6 (mask 3 n : Nat) b) h6).1
          rw [← hv, h] at this
          simp [add6, mask] at this
          unfold okc lo2 hi2 at ho
          rw [if_pos rfl, decide_eq_true_eq] at ho
          by_cases h224 : n = 224
          · subst h224; simp at ho; omega
          · omega
      · rw [e] at h hx hle
        match t, hle, hx, h with
        | [], hle, hx, _ => simp at hle; omega
        | [b], hle, hx, _ => simp at hle; omega
        | [b, b2], hle, hx, _ => simp at hle; omega
        | b :: b2 :: b3 :: t, hle, hx, h =>
          have ho := ext_first 4 n b (b2 :: b3 :: t) (by omega)
          have hv : val (mask 4 n : Nat) ((b :: b2 :: b3 :: t).take (4 - 1)) = val (add6 (mask 4 n : Nat) b) [b2, b3] := rfl
          have h6 : 0 ≤ add6 (mask 4 n : Nat) b := by unfold add6; omega
          have := (val_bd [b2, b3] (add6 (mask 4 n : Nat) b) h6).1
          rw [← hv, h] at this
          simp [add6, mask] at this
          unfold okc lo2 hi2 at ho
          rw [if_pos rfl, decide_eq_true_eq] at ho
          by_cases h240 : n = 240
          · subst h240; simp at ho; omega
          · omega

theorem no13 : ∀ (k : Nat) (s : List UInt8), s.length ≤ k → (∀ b ∈ s, b ≠ 13) → ∀ x ∈ items s, x.1 ≠ 13
  | 0, s, h, _ => by
    have : s = [] := List.eq_nil_of_length_eq_zero (by omega)
    subst this; simp [items_nil]
  | k + 1, [], _, _ => by simp [items_nil]
  | k + 1, a :: t, h, hb => by
    intro x hx
    rw [items_cons _ (by simp)] at hx
    have hp := one_pos (a :: t)
    simp only [List.mem_cons] at hx
    rcases hx with rfl | hx
    · intro e
      exact hb a (by simp) (one_13 a t e)
    · exact no13 k _ (by simp at h ⊢; omega) (fun b hm => hb b (List.mem_of_mem_drop hm)) x hx

/-- The numbers alone. -/
def fixn (r : Int) : Int := if r = 0 then 65533 else if r = 13 then 10 else r
def nf : List Int → List Int
  | [] => []
  | [c] => [fixn c]
  | c :: d :: l => if c = 13 ∧ d = 10 then 10 :: nf l else fixn c :: nf (d :: l)
def rn (x : Int × Nat) : Int := if x.1 = -1 then 65533 else x.1

theorem rfs_num : ∀ (k : Nat) (l : List Ch), l.length ≤ k → (rfs l).map Ch.r = nf (l.map Ch.r)
  | _, [], _ => rfl
  | _, [c], _ => rfl
  | 0, c :: d :: l, h => by simp at h
  | k + 1, c :: d :: l, h => by
    have i1 := rfs_num k l (by simp at h; omega)
    have i2 := rfs_num k (d :: l) (by simp at h ⊢; omega)
    simp only [List.map_cons] at i2 ⊢
    rw [rfs, nf]
    split
    · simp [i1]
    · rw [List.map_cons, i2]; rfl
theorem chs_num : ∀ (l : List (Int × Nat)) (p : Int), (chs p l).map Ch.r = l.map rn
  | [], _ => rfl
  | (r, n) :: l, p => by simp [chs, chs_num l, rn]

theorem nf_cons (c : Int) (l : List Int) (h : c ≠ 13) : nf (c :: l) = fixn c :: nf l := by
  cases l with
  | nil => rfl
  | cons d l => rw [nf, if_neg (fun x => h x.1)]
theorem nf_front : ∀ (X Y : List Int), (∀ x ∈ X, x ≠ 13) → nf (X ++ Y) = X.map fixn ++ nf Y
  | [], Y, _ => rfl
  | c :: X, Y, h => by
    rw [List.cons_append, nf_cons c _ (h c (by simp)), nf_front X Y (fun x hx => h x (by simp [hx]))]; rfl

/-- Two texts of the same lines so far. -/
structure Alike (a b : List UInt8) : Prop where
  fa : ∀ s, items (a ++ s) = items a ++ items s
  fb : ∀ s, items (b ++ s) = items b ++ items s
  num : ∃ M, (∀ Y, nf ((items a).map rn ++ Y) = M ++ nf Y) ∧ (∀ Y, nf ((items b).map rn ++ Y) = M ++ nf Y)

theorem Alike.nil : Alike [] [] := ⟨fun _ => rfl, fun _ => rfl, [], fun _ => rfl, fun _ => rfl⟩
theorem Alike.line {a b l : List UInt8} (h : Alike a b) (hl : ∀ c ∈ l, c ≠ 13) : Alike (a ++ (l ++ [13, 10])) (b ++ (l ++ [10])) := by
  have ea : ∀ s, items (a ++ (l ++ [13, 10]) ++ s) = items a ++ (items l ++ [(13, 1), (10, 1)]) ++ items s := fun s => by
    have e : a ++ (l ++ [13, 10]) ++ s = a ++ (l ++ 13 :: ([] ++ 10 :: s)) := by simp
    rw [e, h.fa, items_low l _ 13 (by decide), items_low [] s 10 (by decide), items_nil]
    simp
  have eb : ∀ s, items (b ++ (l ++ [10]) ++ s) = items b ++ (items l ++ [(10, 1)]) ++ items s := fun s => by
    have e : b ++ (l ++ [10]) ++ s = b ++ (l ++ 10 :: s) := by simp
    rw [e, h.fb, items_low l s 10 (by decide)]
    simp
  have ea0 := ea []
  have eb0 := eb []
  rw [List.append_nil, items_nil, List.append_nil] at ea0 eb0
  have hn : ∀ x ∈ (items l).map rn, x ≠ 13 := by
    intro x hx
    obtain ⟨y, hy, rfl⟩ := List.mem_map.1 hx
    have := no13 _ l (Nat.le_refl _) hl y hy
    unfold rn
    split
    · decide
    · exact this
  obtain ⟨M, h1, h2⟩ := h.num
  refine ⟨fun s => by rw [ea, ea0], fun s => by rw [eb, eb0], M ++ ((items l).map rn).map fixn ++ [10], fun Y => ?_, fun Y => ?_⟩
  · rw [ea0]
    have e : (items a ++ (items l ++ [(13, 1), (10, 1)])).map rn ++ Y = (items a).map rn ++ ((items l).map rn ++ (13 :: 10 :: Y)) := by simp [rn]
    rw [e, h1, nf_front _ _ hn, nf, if_pos ⟨rfl, rfl⟩]
    simp
  · rw [eb0]
    have e : (items b ++ (items l ++ [(10, 1)])).map rn ++ Y = (items b).map rn ++ ((items l).map rn ++ (10 :: Y)) := by simp [rn]
    rw [e, h2, nf_front _ _ hn, nf_cons 10 _ (by decide)]
    simp [fixn]

theorem Alike.same {a b : List UInt8} (h : Alike a b) : (rfs (chs 0 (items a))).map Ch.r = (rfs (chs 0 (items b))).map Ch.r := by
  obtain ⟨M, h1, h2⟩ := h.num
  rw [rfs_num _ _ (Nat.le_refl _), rfs_num _ _ (Nat.le_refl _), chs_num, chs_num]
  have x1 := h1 []
  have x2 := h2 []
  rw [List.append_nil] at x1 x2
  rw [x1, x2]

end Go.Proofs.Ytkphiopeclgffaa
