/- Characters with their spans; their faults; line ends made one, plainly: what a stream tells step by step, and what the document's own way gives of a whole text: the same. -/
import Derived.Test.YtkphiopeclgffaaPure
namespace Go.Proofs.Ytkphiopeclgffaa

/-- A character with its span. -/
structure Ch where
  r : Int
  a : Int
  z : Int
/-- The characters and the faults' places of items that begin at p. -/
def chs : Int → List (Int × Nat) → List Ch
  | _, [] => []
  | p, (r, n) :: l => ⟨if r = -1 then 65533 else r, p, p + (n : Int)⟩ :: chs (p + (n : Int)) l
def fls : Int → List (Int × Nat) → List Int
  | _, [] => []
  | p, (r, n) :: l => (if r = -1 then [p] else []) ++ fls (p + (n : Int)) l

theorem chs_append : ∀ (a b : List (Int × Nat)) (p : Int), chs p (a ++ b) = chs p a ++ chs (p + (tot a : Nat)) b
  | [], b, p => by simp [tot, chs]
  | (r, n) :: a, b, p => by
    rw [List.cons_append, chs, chs_append a b, chs, List.cons_append, tot_cons]
    congr 3; push_cast; omega
theorem fls_append : ∀ (a b : List (Int × Nat)) (p : Int), fls p (a ++ b) = fls p a ++ fls (p + (tot a : Nat)) b
  | [], b, p => by simp [tot, fls]
  | (r, n) :: a, b, p => by
    rw [List.cons_append, fls, fls_append a b, fls, List.append_assoc, tot_cons]
    congr 3; push_cast; omega
theorem chs_length : ∀ (l : List (Int × Nat)) (p : Int), (chs p l).length = l.length
  | [], _ => rfl
  | (r, n) :: l, p => by simp [chs, chs_length l]
theorem fls_length : ∀ (l : List (Int × Nat)) (p : Int), (fls p l).length ≤ l.length
  | [], _ => Nat.le_refl _
  | (r, n) :: l, p => by
    have := fls_length l (p + (n : Int))
    simp only [fls, List.length_append, List.length_cons]
    split <;> simp <;> omega

/-- The fault of a character (4.1), for characters from 0 on. -/
def badN (r : Int) : Int := if r = 0 then 2 else if r = 9 ∨ r = 10 ∨ r = 12 ∨ r = 13 then 0 else if (1 ≤ r ∧ r ≤ 31) ∨ (127 ≤ r ∧ r ≤ 159) then 3 else if (64976 ≤ r ∧ r ≤ 65007) ∨ 65534 ≤ r % 65536 then 4 else 0
/-- The fault of an item: -1 stands for bytes that are no character. -/
def cod (r : Int) : Int := if r = -1 then 1 else badN r
/-- The faults, with their codes, of items that begin at p. -/
def fcs : Int → List (Int × Nat) → List (Int × Int)
  | _, [] => []
  | p, (r, n) :: l => (if cod r = 0 then [] else [(cod r, p)]) ++ fcs (p + (n : Int)) l

theorem fcs_append : ∀ (a b : List (Int × Nat)) (p : Int), fcs p (a ++ b) = fcs p a ++ fcs (p + (tot a : Nat)) b
  | [], b, p => by simp [tot, fcs]
  | (r, n) :: a, b, p => by
    rw [List.cons_append, fcs, fcs_append a b, fcs, List.append_assoc, tot_cons]
    congr 3; push_cast; omega
theorem fcs_length : ∀ (l : List (Int × Nat)) (p : Int), (fcs p l).length ≤ l.length
  | [], _ => Nat.le_refl _
  | (r, n) :: l, p => by
    have := fcs_length l (p + (n : Int))
    simp only [fcs, List.length_append, List.length_cons]
    split <;> simp <;> omega
theorem fls_ge : ∀ (l : List (Int × Nat)) (p x : Int), x ∈ fls p l → p ≤ x
  | [], _, _, h => by simp [fls] at h
  | (r, n) :: l, p, x, h => by
    simp only [fls, List.mem_append] at h
    rcases h with h | h
    · split at h
      · simp at h; omega
      · simp at h
    · have := fls_ge l _ x h; omega

/-- The line end that waits: none, if it has no bytes. -/
def Ch0 : Ch := ⟨0, 0, 0⟩
def rel (w : Ch) : List Ch := if w.a < w.z then [w] else []
def off (w : Ch) : Ch := if w.a < w.z then Ch0 else w
/-- One character: what waits then, what is told. -/
def ts (w c : Ch) : Ch × List Ch :=
  if c.r = 10 ∧ w.a < w.z then (Ch0, [⟨w.r, w.a, c.z⟩]) else if c.r = 13 then (⟨10, c.a, c.z⟩, rel w) else (off w, rel w ++ [⟨if c.r = 0 then 65533 else c.r, c.a, c.z⟩])
def tsL : Ch → List Ch → Ch × List Ch
  | w, [] => (w, [])
  | w, c :: l => ((tsL (ts w c).1 l).1, (ts w c).2 ++ (tsL (ts w c).1 l).2)
theorem tsL_append : ∀ (a b : List Ch) (w : Ch), tsL w (a ++ b) = ((tsL (tsL w a).1 b).1, (tsL w a).2 ++ (tsL (tsL w a).1 b).2)
  | [], b, w => by simp [tsL]
  | c :: a, b, w => by
    rw [List.cons_append, tsL, tsL_append a b, tsL]
    simp
theorem rel_len (w : Ch) : (rel w).length ≤ 1 := by unfold rel; split <;> simp
theorem ts_len (w c : Ch) : (ts w c).2.length ≤ 2 := by
  have := rel_len w
  unfold ts
  split
  · simp
  · split
    · show (rel w).length ≤ 2; omega
    · simp; omega
theorem tsL_len : ∀ (l : List Ch) (w : Ch), (tsL w l).2.length ≤ 2 * l.length
  | [], w => by simp [tsL]
  | c :: l, w => by
    have := ts_len w c
    have := tsL_len l (ts w c).1
    simp only [tsL, List.length_append, List.length_cons]
    omega

/-- The document's way. -/
def fix (c : Ch) : Ch := ⟨if c.r = 0 then 65533 else if c.r = 13 then 10 else c.r, c.a, c.z⟩
def rfs : List Ch → List Ch
  | [] => []
  | [c] => [fix c]
  | c :: d :: l => if c.r = 13 ∧ d.r = 10 then ⟨10, c.a, d.z⟩ :: rfs l else fix c :: rfs (d :: l)

theorem rfs_cons (c : Ch) (l : List Ch) (h : c.r ≠ 13) : rfs (c :: l) = fix c :: rfs l := by
  cases l with
  | nil => rfl
  | cons d l => rw [rfs, if_neg (fun x => h x.1)]

theorem tsL_rfs : ∀ (l : List Ch) (w : Ch), (∀ c ∈ l, c.a < c.z) → ((w.a < w.z → w.r = 10 → (tsL w l).2 ++ rel (tsL w l).1 = rfs (⟨13, w.a, w.z⟩ :: l)) ∧ (¬ w.a < w.z → (tsL w l).2 ++ rel (tsL w l).1 = rfs l))
  | [], w, _ => by
    refine ⟨fun h1 h2 => ?_, fun h => ?_⟩
    · simp [tsL, rel, rfs, fix, h1]; cases w; simp_all
    · simp [tsL, rel, rfs, h]
  | c :: l, w, hl => by
    have hc := hl c (by simp)
    have hl2 : ∀ c ∈ l, c.a < c.z := fun x hx => hl x (by simp [hx])
    have h0 : ¬ Ch0.a < Ch0.z := by decide
    refine ⟨fun h1 h2 => ?_, fun h => ?_⟩
    · by_cases h10 : c.r = 10
      · have e : ts w c = (Ch0, [⟨w.r, w.a, c.z⟩]) := by unfold ts; rw [if_pos ⟨h10, h1⟩]
        have := (tsL_rfs l Ch0 hl2).2 h0
        rw [tsL, e]
        simp only [List.append_assoc]
        rw [this, rfs, if_pos ⟨rfl, h10⟩, h2]; rfl
      · have er : rfs (⟨13, w.a, w.z⟩ :: c :: l) = w :: rfs (c :: l) := by
          rw [rfs, if_neg (fun x => h10 x.2)]
          congr 1
          cases w; simp_all [fix]
        have hre : rel w = [w] := by unfold rel; rw [if_pos h1]
        have hof : off w = Ch0 := by unfold off; rw [if_pos h1]
        rw [er]
        by_cases h13 : c.r = 13
        · have e : ts w c = (⟨10, c.a, c.z⟩, [w]) := by unfold ts; rw [if_neg (fun x => h10 x.1), if_pos h13, hre]
          have := (tsL_rfs l ⟨10, c.a, c.z⟩ hl2).1 hc rfl
          rw [tsL, e]
          simp only [List.append_assoc]
          rw [this]
          have : c = ⟨13, c.a, c.z⟩ := by cases c; simp_all
          rw [← this]; rfl
        · have e : ts w c = (Ch0, [w, fix c]) := by
            unfold ts; rw [if_neg (fun x => h10 x.1), if_neg h13, hre, hof]; simp [fix, h13]
          have := (tsL_rfs l Ch0 hl2).2 h0
          rw [tsL, e]
          simp only [List.append_assoc]
          rw [this, rfs_cons c l h13]; rfl
    · have hre : rel w = [] := by unfold rel; rw [if_neg h]
      have hof : off w = w := by unfold off; rw [if_neg h]
      by_cases h13 : c.r = 13
      · have e : ts w c = (⟨10, c.a, c.z⟩, []) := by unfold ts; rw [if_neg (fun x => h x.2), if_pos h13, hre]
        have := (tsL_rfs l ⟨10, c.a, c.z⟩ hl2).1 hc rfl
        rw [tsL, e]
        simp only [List.nil_append]
        rw [this]
        have : c = ⟨13, c.a, c.z⟩ := by cases c; simp_all
        rw [← this]
      · have e : ts w c = (w, [fix c]) := by
          unfold ts; rw [if_neg (fun x => h x.2), if_neg h13, hre, hof]; simp [fix, h13]
        have := (tsL_rfs l w hl2).2 h
        rw [tsL, e]
        simp only [List.append_assoc]
        rw [this, rfs_cons c l h13]; rfl

/-- Items are of at least one byte; their numbers are those of characters. -/
theorem step_pos (u : List UInt8) (b : UInt8) : ∀ x ∈ (step u b).2, 1 ≤ x.2 := by
  have hs : ∀ x ∈ (start b).2, 1 ≤ x.2 := by
    unfold start; intro x hx
    split at hx
    · simp at hx; subst hx; exact Nat.le_refl _
    · simp at hx
  match u with
  | [] => exact hs
  | a :: t =>
    intro x hx
    rw [step_cons] at hx
    split at hx
    · split at hx
      · simp at hx; subst hx; show 1 ≤ t.length + 2; omega
      · simp at hx
    · simp only [List.mem_cons] at hx
      rcases hx with rfl | hx
      · show 1 ≤ t.length + 1; omega
      · exact hs x hx
theorem run_pos : ∀ (s u : List UInt8), ∀ x ∈ (run u s).2, 1 ≤ x.2
  | [], u => by simp [run]
  | b :: s, u => by
    intro x hx
    rw [run] at hx
    simp only [List.mem_append] at hx
    rcases hx with hx | hx
    · exact step_pos u b x hx
    · exact run_pos s _ x hx
theorem fin_pos (u : List UInt8) : ∀ x ∈ fin u, 1 ≤ x.2 := by
  intro x hx
  unfold fin at hx
  split at hx
  · simp at hx
  · rename_i h
    simp at hx; subst hx
    cases u with
    | nil => exact absurd rfl h
    | cons a t => simp
theorem items_pos (s : List UInt8) : ∀ x ∈ items s, 1 ≤ x.2 := by
  obtain ⟨_, r2, _, _⟩ := run_ok s [] trivial
  rw [List.nil_append] at r2
  intro x hx
  rw [r2, List.mem_append] at hx
  rcases hx with hx | hx
  · exact run_pos s [] x hx
  · exact fin_pos _ x hx
theorem chs_wide : ∀ (l : List (Int × Nat)) (p : Int), (∀ x ∈ l, 1 ≤ x.2) → ∀ c ∈ chs p l, c.a < c.z
  | [], _, _ => by simp [chs]
  | (r, n) :: l, p, h => by
    intro c hc
    have := h (r, n) (by simp)
    simp only [chs, List.mem_cons] at hc
    rcases hc with rfl | hc
    · show p < p + (n : Int); simp only at this; omega
    · exact chs_wide l _ (fun x hx => h x (by simp [hx])) c hc

theorem val_bd : ∀ (l : List UInt8) (r : Int), 0 ≤ r → r * 64 ^ l.length ≤ val r l ∧ 0 ≤ val r l ∧ val r l < (r + 1) * 64 ^ l.length
  | [], r, h0 => ⟨by simp [val], h0, by simp [val]; omega⟩
  | b :: t, r, h0 => by
    have e : val r (b :: t) = val (add6 r b) t := rfl
    have ha : 0 ≤ add6 r b ∧ add6 r b + 1 ≤ (r + 1) * 64 ∧ r * 64 ≤ add6 r b := by unfold add6; omega
    obtain ⟨i0, i1, i2⟩ := val_bd t (add6 r b) ha.1
    have hp : (0 : Int) ≤ 64 ^ t.length := Int.pow_nonneg (by omega)
    refine ⟨?_, by rw [e]; exact i1, ?_⟩
    · rw [e, List.length_cons, Int.pow_succ]
      have : (r * 64) * 64 ^ t.length ≤ add6 r b * 64 ^ t.length := Int.mul_le_mul_of_nonneg_right ha.2.2 hp
      rw [Int.mul_comm ((64 : Int) ^ t.length) 64, ← Int.mul_assoc]
      omega
    · rw [e, List.length_cons, Int.pow_succ]
      have : (add6 r b + 1) * 64 ^ t.length ≤ ((r + 1) * 64) * 64 ^ t.length := Int.mul_le_mul_of_nonneg_right ha.2.1 hp
      rw [Int.mul_comm ((64 : Int) ^ t.length) 64, ← Int.mul_assoc]
      omega
theorem mask_bd (n a : Nat) (ha : a < 256) : mask n a ≤ 255 := by
  unfold mask
  repeat' split
  all_goals omega
theorem pow_le3 {k : Nat} (h : k ≤ 3) : (64 : Int) ^ k ≤ 262144 := by
  match k, h with
  | 0, _ => decide
  | 1, _ => decide
  | 2, _ => decide
  | 3, _ => decide

theorem one_range (s : List UInt8) : (one s).1 = -1 ∨ (0 ≤ (one s).1 ∧ (one s).1 ≤ 1000000000) := by
  cases s with
  | nil => exact .inl rfl
  | cons a t =>
    rw [one_cons]
    repeat' split
    · exact .inl rfl
    · exact .inl rfl
    · right
      have hn := need_le a.toNat
      have hm := mask_bd (need a.toNat) a.toNat (UInt8.toNat_lt a)
      obtain ⟨_, v1, v2⟩ := val_bd (t.take (need a.toNat - 1)) (mask (need a.toNat) a.toNat : Nat) (by omega)
      have hl := pow_le3 (k := (t.take (need a.toNat - 1)).length) (by rw [List.length_take]; omega)
      have : ((mask (need a.toNat) a.toNat : Nat) + 1 : Int) * 64 ^ (t.take (need a.toNat - 1)).length ≤ 256 * 262144 := Int.mul_le_mul (by omega) hl (Int.pow_nonneg (by omega)) (by omega)
      exact ⟨v1, by show val _ _ ≤ _; omega⟩

theorem items_range : ∀ (k : Nat) (s : List UInt8), s.length ≤ k → ∀ x ∈ items s, x.1 = -1 ∨ (0 ≤ x.1 ∧ x.1 ≤ 1000000000)
  | 0, s, h => by
    have : s = [] := List.eq_nil_of_length_eq_zero (by omega)
    subst this; simp [items_nil]
  | k + 1, [], _ => by simp [items_nil]
  | k + 1, a :: t, h => by
    intro x hx
    rw [items_cons _ (by simp)] at hx
    have hp := one_pos (a :: t)
    simp only [List.mem_cons] at hx
    rcases hx with rfl | hx
    · exact one_range _
    · exact items_range k _ (by simp at h ⊢; omega) x hx
theorem run_range (s u : List UInt8) (hu : pend u) : ∀ x ∈ (run u s).2, x.1 = -1 ∨ (0 ≤ x.1 ∧ x.1 ≤ 1000000000) := by
  obtain ⟨_, r2, _, _⟩ := run_ok s u hu
  intro x hx
  exact items_range _ _ (Nat.le_refl _) x (by rw [r2]; simp [hx])
theorem fin_range (u : List UInt8) : ∀ x ∈ fin u, x.1 = -1 ∨ (0 ≤ x.1 ∧ x.1 ≤ 1000000000) := by
  intro x hx
  unfold fin at hx
  split at hx
  · simp at hx
  · simp at hx; subst hx; exact .inl rfl
end Go.Proofs.Ytkphiopeclgffaa
