/- What Cover tells, pure: the program's and the document's way are one; it passes Check. A token's class. -/
import Derived.Test.YtkbakbacomidbaaYt
import Derived.Test.YtkbakbacomidbaaZa
namespace Go.Proofs.Ytkbakbacomidbaa.Sp
open Go.RowKit
/-- A token's class. -/
def clsP (k : Int) (s : Bool) : Int := if k = 1 then (if s = true then 5 else 1) else if k = 2 then 2 else if k = 3 then 2 else if k = 4 then 3 else if k = 5 then 4 else 0
theorem clsP_le (k : Int) (s : Bool) : 0 ≤ clsP k s ∧ clsP k s ≤ 5 := by
  unfold clsP
  repeat' split
  all_goals omega
/-- What Cover looks at of a token. -/
structure Sn where
  k : Int
  s : Bool
  f : Int
  t : Int
def cov1 (n : Int) (L : List Pc) (T : Sn) : List Pc :=
  if clsP T.k T.s = 0 ∨ max T.f (ends L) ≥ min T.t n then L else putP (fillP L (max T.f (ends L))) ⟨max T.f (ends L), min T.t n, clsP T.k T.s⟩
def coverP (T : List Sn) (n : Int) : List Pc := fillP (T.foldl (cov1 n) []) n
theorem ends_snoc (L : List Pc) (p : Pc) : ends (L ++ [p]) = p.t := by unfold ends; rw [List.getLast?_concat]
theorem ends_put (L : List Pc) (p : Pc) : ends (putP L p) = p.t := by
  unfold putP
  split
  · split
    · exact ends_snoc _ _
    · exact ends_snoc _ _
  · exact ends_snoc _ _
theorem ends_fill (L : List Pc) (z : Int) (h : ends L ≤ z) : ends (fillP L z) = z := by
  unfold fillP
  split
  · omega
  · exact ends_snoc _ _
theorem len_fill (L : List Pc) (z : Int) : (fillP L z).length ≤ L.length + 1 := by
  unfold fillP
  split
  · omega
  · simp
theorem len_put (L : List Pc) (p : Pc) : (putP L p).length ≤ L.length + 1 := by
  unfold putP
  split
  · split
    · simp
    · simp
  · simp
theorem len_cov1 (n : Int) (L : List Pc) (T : Sn) : (cov1 n L T).length ≤ L.length + 2 := by
  unfold cov1
  split
  · omega
  · have h1 := len_put (fillP L (max T.f (ends L))) ⟨max T.f (ends L), min T.t n, clsP T.k T.s⟩
    have h2 := len_fill L (max T.f (ends L))
    omega
/-- The document's first put is fill. -/
theorem rput_tag (L : List Pc) (z : Int) : rputP L (ends L) z 2 = fillP L z := by
  unfold rputP fillP
  split
  · rfl
  · unfold putP
    split
    · rw [if_neg (by simp)]
    · rfl
/-- A text's length below 0 is as 0. -/
theorem cov_low {n : Int} (hn : n ≤ 0) : ∀ T : List Sn, T.foldl (cov1 n) [] = []
  | [] => rfl
  | x :: T => by
    have : cov1 n [] x = [] := by
      unfold cov1
      rw [if_pos (.inr (show max x.f 0 ≥ min x.t n by omega))]
    rw [List.foldl_cons, this]
    exact cov_low hn T
theorem cover_max (T : List Sn) (n : Int) : coverP T (max n 0) = coverP T n := by
  by_cases h : 0 ≤ n
  · rw [Int.max_eq_left h]
  · rw [Int.max_eq_right (by omega)]
    unfold coverP
    rw [cov_low (Int.le_refl 0), cov_low (by omega)]
    unfold fillP
    rw [if_pos (show ends [] ≥ 0 from Int.le_refl 0), if_pos (show ends [] ≥ n from by show (0 : Int) ≥ n; omega)]
/-- Parts up to here are as Check asks: they end at e, the last one's class is s. -/
def Fine : List Pc → Int → Int → Int → Int → Prop
  | [], a, s, e, z => a = e ∧ s = z
  | p :: L, a, s, e, z => p.f = a ∧ p.f < p.t ∧ 1 ≤ p.c ∧ p.c ≤ 5 ∧ ¬ (s = 1 ∧ p.c = 1) ∧ Fine L p.t p.c e z
theorem fine_chk : ∀ (L : List Pc) (a s e z n : Int), Fine L a s e z → chk L a s n = decide (e = max n 0)
  | [], a, s, e, z, n, h => by rw [chk, h.1]
  | p :: L, a, s, e, z, n, h => by
    obtain ⟨h1, h2, h3, h4, h5, h6⟩ := h
    rw [chk_go (by rintro (h | h | h | h | h); exact h h1; omega; omega; omega; exact h5 h)]
    exact fine_chk L _ _ e z n h6
theorem fine_snoc : ∀ (L : List Pc) (a s e z : Int) (p : Pc), Fine L a s e z → p.f = e → p.f < p.t → 1 ≤ p.c → p.c ≤ 5 → ¬ (z = 1 ∧ p.c = 1) → Fine (L ++ [p]) a s p.t p.c
  | [], a, s, e, z, p, h, h1, h2, h3, h4, h5 => by
    obtain ⟨rfl, rfl⟩ := h
    exact ⟨h1, h2, h3, h4, h5, rfl, rfl⟩
  | q :: L, a, s, e, z, p, h, h1, h2, h3, h4, h5 => ⟨h.1, h.2.1, h.2.2.1, h.2.2.2.1, h.2.2.2.2.1, fine_snoc L _ _ e z p h.2.2.2.2.2 h1 h2 h3 h4 h5⟩
theorem fine_last : ∀ (L : List Pc) (a s e z : Int), Fine L a s e z → (∀ q, L.getLast? = some q → q.t = e ∧ q.c = z) ∧ (L = [] → a = e ∧ s = z)
  | [], a, s, e, z, h => ⟨fun q hq => by simp at hq, fun _ => h⟩
  | [p], a, s, e, z, h => ⟨fun q hq => by
      have e1 : p = q := by simpa using hq
      subst e1
      exact h.2.2.2.2.2, fun h => by simp at h⟩
  | p :: q :: L, a, s, e, z, h => ⟨fun r hr => (fine_last (q :: L) _ _ e z h.2.2.2.2.2).1 r (by simpa using hr), fun h => by simp at h⟩
/-- The last text grows. -/
theorem fine_grow : ∀ (L : List Pc) (a s e z : Int) (q : Pc) (t : Int), Fine (L ++ [q]) a s e z → e ≤ t → Fine (L ++ [⟨q.f, t, q.c⟩]) a s t z
  | [], a, s, e, z, q, t, h, ht => by
    obtain ⟨h1, h2, h3, h4, h5, h6, h7⟩ := h
    exact ⟨h1, by simp only at h6 ⊢; omega, h3, h4, h5, rfl, h7⟩
  | p :: L, a, s, e, z, q, t, h, ht => ⟨h.1, h.2.1, h.2.2.1, h.2.2.2.1, h.2.2.2.2.1, fine_grow L _ _ e z q t h.2.2.2.2.2 ht⟩
def FineL (L : List Pc) : Prop := ∃ z, Fine L 0 0 (ends L) z
theorem fineL_nil : FineL [] := ⟨0, rfl, rfl⟩
theorem fineL_fill {L : List Pc} (h : FineL L) (z : Int) : FineL (fillP L z) := by
  unfold fillP
  split
  · exact h
  · next hz =>
    obtain ⟨y, hy⟩ := h
    refine ⟨2, ?_⟩
    rw [ends_snoc]
    exact fine_snoc L 0 0 _ y ⟨ends L, z, 2⟩ hy rfl (by simp only; omega) (by simp) (by simp) (by simp)
theorem fineL_put {L : List Pc} (h : FineL L) (p : Pc) (h1 : p.f = ends L) (h2 : p.f < p.t) (h3 : 1 ≤ p.c) (h4 : p.c ≤ 5) : FineL (putP L p) := by
  obtain ⟨y, hy⟩ := h
  have hl := fine_last L 0 0 _ y hy
  unfold putP
  split
  · next q hq =>
    obtain ⟨e1, e2⟩ := hl.1 q hq
    split
    · next hc =>
      refine ⟨y, ?_⟩
      rw [ends_snoc]
      have hL : L = L.dropLast ++ [q] := by
        have hne : L ≠ [] := by rintro rfl; simp at hq
        have := List.dropLast_concat_getLast hne
        rw [List.getLast?_eq_some_getLast hne] at hq
        rw [Option.some.inj hq] at this
        exact this.symm
      rw [hL] at hy
      rw [← hL] at hy
      refine fine_grow L.dropLast 0 0 (ends L) y q p.t ?_ (by omega)
      rw [← hL]
      exact hy
    · next hc =>
      refine ⟨p.c, ?_⟩
      rw [ends_snoc]
      exact fine_snoc L 0 0 _ y p hy h1 h2 h3 h4 (by rw [← e2]; exact hc)
  · next hq =>
    have hn : L = [] := by simpa using hq
    subst hn
    refine ⟨p.c, ?_⟩
    rw [ends_snoc]
    exact fine_snoc [] 0 0 _ y p hy h1 h2 h3 h4 (by have := (hl.2 rfl).2; omega)
theorem fineL_cov1 {n : Int} {L : List Pc} (h : FineL L) (T : Sn) : FineL (cov1 n L T) := by
  unfold cov1
  split
  · exact h
  · next hc =>
    have hx : ¬ clsP T.k T.s = 0 ∧ ¬ max T.f (ends L) ≥ min T.t n := ⟨fun e => hc (.inl e), fun e => hc (.inr e)⟩
    have hb := clsP_le T.k T.s
    refine fineL_put (fineL_fill h _) _ ?_ ?_ ?_ ?_
    · rw [ends_fill _ _ (by omega)]
    · simp only; omega
    · simp only; omega
    · simp only; omega
theorem ends_cov1 {n : Int} {L : List Pc} (T : Sn) (h : ends L ≤ max n 0) : ends (cov1 n L T) ≤ max n 0 := by
  unfold cov1
  split
  · exact h
  · rw [ends_put]
    simp only
    omega
theorem fine_fold (n : Int) : ∀ (T : List Sn) (L : List Pc), FineL L → ends L ≤ max n 0 → FineL (T.foldl (cov1 n) L) ∧ ends (T.foldl (cov1 n) L) ≤ max n 0
  | [], _, h, h2 => ⟨h, h2⟩
  | x :: T, _, h, h2 => fine_fold n T _ (fineL_cov1 h x) (ends_cov1 x h2)
/-- What Cover tells passes Check. -/
theorem cover_check (T : List Sn) (n : Int) : checkP (coverP T n) n = true := by
  rw [← cover_max]
  obtain ⟨h1, h2⟩ := fine_fold (max n 0) T [] fineL_nil (by show (0 : Int) ≤ _; omega)
  obtain ⟨z, hz⟩ := fineL_fill h1 (max n 0)
  unfold checkP coverP
  rw [fine_chk _ _ _ _ z n hz, decide_eq_true_iff, ends_fill _ _ (by omega)]
set_option maxHeartbeats 1000000 in
theorem class_any (T : G9.Tk) (w : World) : Calls Try.prog 17 #[T.val] w fun e w' => e = .returned (.int .i64 (clsP T.k T.s)) ∧ Below w.heap.size w w' := by
  obtain ⟨k, r, nm, tx, ao, n, cap, s, f, t⟩ := T
  simp only [G9.Tk.val, G9.Tk.arr]
  by_cases h1 : k = 1
  · subst h1
    cases s
    all_goals
      go_enter Try.func17, Try.ntmps17
      go_wp2_with fail
      go_ret
      exact ⟨rfl, (Below.refl _ _).alloc (Nat.le_refl _) _⟩
  by_cases h2 : k = 2
  · subst h2
    go_enter Try.func17, Try.ntmps17
    go_wp2_with fail
    go_ret
    exact ⟨rfl, (Below.refl _ _).alloc (Nat.le_refl _) _⟩
  by_cases h3 : k = 3
  · subst h3
    go_enter Try.func17, Try.ntmps17
    go_wp2_with fail
    go_ret
    exact ⟨rfl, (Below.refl _ _).alloc (Nat.le_refl _) _⟩
  by_cases h4 : k = 4
  · subst h4
    go_enter Try.func17, Try.ntmps17
    go_wp2_with fail
    go_ret
    exact ⟨rfl, (Below.refl _ _).alloc (Nat.le_refl _) _⟩
  by_cases h5 : k = 5
  · subst h5
    go_enter Try.func17, Try.ntmps17
    go_wp2_with fail
    go_ret
    exact ⟨rfl, (Below.refl _ _).alloc (Nat.le_refl _) _⟩
  have e : clsP k s = 0 := by unfold clsP; rw [if_neg h1, if_neg h2, if_neg h3, if_neg h4, if_neg h5]
  rw [e]
  have g1 := beq_false_of_ne h1
  have g2 := beq_false_of_ne h2
  have g3 := beq_false_of_ne h3
  have g4 := beq_false_of_ne h4
  have g5 := beq_false_of_ne h5
  clear h1 h2 h3 h4 h5 e
  go_enter Try.func17, Try.ntmps17
  go_wp2_with fail
  go_ret
  exact ⟨rfl, (Below.refl _ _).alloc (Nat.le_refl _) _⟩
set_option maxHeartbeats 1000000 in
theorem rclass_any (T : G9.Tk) (w : World) : Calls Try.prog 21 #[T.val] w fun e w' => e = .returned (.int .i64 (clsP T.k T.s)) ∧ Below w.heap.size w w' := by
  obtain ⟨k, r, nm, tx, ao, n, cap, s, f, t⟩ := T
  simp only [G9.Tk.val, G9.Tk.arr]
  by_cases h1 : k = 1
  · subst h1
    cases s
    all_goals
      go_enter Try.func21, Try.ntmps21
      go_wp2_with fail
      go_ret
      exact ⟨rfl, (Below.refl _ _).alloc (Nat.le_refl _) _⟩
  by_cases h2 : k = 2
  · subst h2
    go_enter Try.func21, Try.ntmps21
    go_wp2_with fail
    go_ret
    exact ⟨rfl, (Below.refl _ _).alloc (Nat.le_refl _) _⟩
  by_cases h3 : k = 3
  · subst h3
    go_enter Try.func21, Try.ntmps21
    go_wp2_with fail
    go_ret
    exact ⟨rfl, (Below.refl _ _).alloc (Nat.le_refl _) _⟩
  by_cases h4 : k = 4
  · subst h4
    go_enter Try.func21, Try.ntmps21
    go_wp2_with fail
    go_ret
    exact ⟨rfl, (Below.refl _ _).alloc (Nat.le_refl _) _⟩
  by_cases h5 : k = 5
  · subst h5
    go_enter Try.func21, Try.ntmps21
    go_wp2_with fail
    go_ret
    exact ⟨rfl, (Below.refl _ _).alloc (Nat.le_refl _) _⟩
  have e : clsP k s = 0 := by unfold clsP; rw [if_neg h1, if_neg h2, if_neg h3, if_neg h4, if_neg h5]
  rw [e]
  have g1 := beq_false_of_ne h1
  have g2 := beq_false_of_ne h2
  have g3 := beq_false_of_ne h3
  have g4 := beq_false_of_ne h4
  have g5 := beq_false_of_ne h5
  clear h1 h2 h3 h4 h5 e
  go_enter Try.func21, Try.ntmps21
  go_wp2_with fail
  go_ret
  exact ⟨rfl, (Below.refl _ _).alloc (Nat.le_refl _) _⟩
end Go.Proofs.Ytkbakbacomidbaa.Sp
