/- What the laws say of lists of attributes, with no memory: names found, added, missing; lists that are the same; lists in order. -/
import Derived.Test.YtibndgembpcdgaaMem
namespace Go.Proofs.Ytibndgembpcdgaa

/-- One name ahead of another, by their bytes. -/
def ltP : Path → Path → Bool
  | [], [] => false
  | [], _ :: _ => true
  | _ :: _, [] => false
  | x :: a, y :: b => decide (x.toNat < y.toNat) || (x == y && ltP a b)

theorem ltP_irrefl : ∀ a, ltP a a = false
  | [] => rfl
  | x :: a => by simp [ltP, ltP_irrefl a]
theorem ltP_asymm : ∀ {a b}, ltP a b = true → ltP b a = false
  | [], [], h => by cases h
  | [], _ :: _, _ => rfl
  | _ :: _, [], h => by cases h
  | x :: a, y :: b, h => by
    simp only [ltP, Bool.or_eq_true, decide_eq_true_eq, Bool.and_eq_true, beq_iff_eq] at h
    simp only [ltP, Bool.or_eq_false_iff, decide_eq_false_iff_not, Bool.and_eq_false_iff]
    rcases h with h | ⟨rfl, h⟩
    · exact ⟨by omega, .inl (by simp; intro e; subst e; omega)⟩
    · exact ⟨by omega, .inr (ltP_asymm h)⟩
theorem ltP_total : ∀ {a b}, a ≠ b → ltP a b = true ∨ ltP b a = true
  | [], [], h => absurd rfl h
  | [], _ :: _, _ => .inl rfl
  | _ :: _, [], _ => .inr rfl
  | x :: a, y :: b, h => by
    simp only [ltP, Bool.or_eq_true, decide_eq_true_eq, Bool.and_eq_true, beq_iff_eq]
    by_cases e : x = y
    · subst e
      rcases ltP_total (a := a) (b := b) (fun e => h (by rw [e])) with h | h
      · exact .inl (.inr ⟨rfl, h⟩)
      · exact .inr (.inr ⟨rfl, h⟩)
    · have : x.toNat ≠ y.toNat := fun e2 => e (UInt8.toNat_inj.1 e2)
      rcases Nat.lt_or_gt_of_ne this with h | h
      · exact .inl (.inl h)
      · exact .inr (.inl h)
theorem ltP_trans : ∀ {a b c}, ltP a b = true → ltP b c = true → ltP a c = true
  | [], [], _, h, _ => by cases h
  | [], _ :: _, [], _, h => by cases h
  | [], _ :: _, _ :: _, _, _ => rfl
  | _ :: _, [], _, h, _ => by cases h
  | _ :: _, _ :: _, [], _, h => by cases h
  | x :: a, y :: b, z :: c, h1, h2 => by
    simp only [ltP, Bool.or_eq_true, decide_eq_true_eq, Bool.and_eq_true, beq_iff_eq] at *
    rcases h1 with h1 | ⟨rfl, h1⟩
    · rcases h2 with h2 | ⟨rfl, h2⟩
      · exact .inl (by omega)
      · exact .inl h1
    · rcases h2 with h2 | ⟨rfl, h2⟩
      · exact .inl h2
      · exact .inr ⟨rfl, ltP_trans h1 h2⟩
theorem less_eq : ∀ a b : List UInt8, Op.bytesLess a b = ltP a b
  | [], [] => rfl
  | [], _ :: _ => rfl
  | _ :: _, [] => rfl
  | x :: a, y :: b => by
    rw [Op.bytesLess, ltP, less_eq a b]
    rfl

/-- Names found. -/
def hasP (L : List At) (k : Path) : Bool := L.any fun x => decide (x.nm = k)
def getP (L : List At) (k : Path) : Option At := L.find? fun x => decide (x.nm = k)
theorem get_some (L : List At) (k : Path) : (getP L k).isSome = hasP L k := by
  unfold getP hasP
  rw [Bool.eq_iff_iff, List.find?_isSome, List.any_eq_true]
theorem has_iff {L : List At} {k : Path} : hasP L k = true ↔ ∃ x ∈ L, x.nm = k := by
  unfold hasP
  rw [List.any_eq_true]
  simp
theorem has_app (L M : List At) (k : Path) : hasP (L ++ M) k = (hasP L k || hasP M k) := by
  unfold hasP
  rw [List.any_append]
theorem get_none {L : List At} {k : Path} (h : hasP L k = false) : getP L k = none := by
  have := get_some L k
  rw [h] at this
  simpa using this
theorem get_added {L : List At} {a : At} (h : hasP L a.nm = false) : getP (L ++ [a]) a.nm = some a := by
  have h1 := get_none h
  unfold getP at h1 ⊢
  rw [List.find?_append, h1]
  simp
def addP (L : List At) (a : At) : List At := if hasP L a.nm = true then L else L ++ [a]
def missP (L M : List At) : List At := M.foldl addP L
/-- Of M those whose name is not among the seen ones, of like names the first. -/
def newP : List Path → List At → List At
  | _, [] => []
  | S, x :: M => if x.nm ∈ S then newP S M else x :: newP (x.nm :: S) M
theorem new_cons (S : List Path) (x : At) (M : List At) : newP S (x :: M) = if x.nm ∈ S then newP S M else x :: newP (x.nm :: S) M := rfl
theorem new_same : ∀ (M : List At) (S T : List Path), (∀ k, k ∈ S ↔ k ∈ T) → newP S M = newP T M
  | [], _, _, _ => rfl
  | x :: M, S, T, h => by
    unfold newP
    by_cases hx : x.nm ∈ S
    · rw [if_pos hx, if_pos ((h _).1 hx)]
      exact new_same M S T h
    · rw [if_neg hx, if_neg (fun e => hx ((h _).2 e))]
      congr 1
      exact new_same M _ _ fun k => by simp only [List.mem_cons]; rw [h k]
theorem mem_names {L : List At} {k : Path} : k ∈ L.map At.nm ↔ hasP L k = true := by
  rw [has_iff, List.mem_map]
theorem miss_new : ∀ (M L : List At), missP L M = L ++ newP (L.map At.nm) M
  | [], L => by simp [missP, newP]
  | x :: M, L => by
    have h : missP L (x :: M) = missP (addP L x) M := rfl
    rw [h, miss_new M]
    rw [new_cons]
    unfold addP
    by_cases hx : hasP L x.nm = true
    · rw [if_pos hx, if_pos (mem_names.2 hx)]
    · rw [if_neg hx, if_neg (fun e => hx (mem_names.1 e)), List.append_assoc]
      congr 1
      simp only [List.singleton_append]
      congr 1
      exact new_same M _ _ fun k => by simp [or_comm]
theorem new_len : ∀ (M : List At) (S : List Path), (newP S M).length ≤ M.length
  | [], _ => Nat.le_refl _
  | x :: M, S => by
    unfold newP
    split
    · have := new_len M S; simp; omega
    · have := new_len M (x.nm :: S); simp; omega
theorem new_fresh : ∀ (M : List At) (S : List Path) (y : At), y ∈ newP S M → y.nm ∉ S
  | [], _, y, h => by simp [newP] at h
  | x :: M, S, y, h => by
    unfold newP at h
    by_cases hx : x.nm ∈ S
    · rw [if_pos hx] at h
      exact new_fresh M S y h
    · rw [if_neg hx] at h
      rcases List.mem_cons.1 h with rfl | h
      · exact hx
      · exact fun e => new_fresh M _ y h (List.mem_cons_of_mem _ e)
theorem new_once : ∀ (M : List At) (S : List Path), (newP S M).Pairwise fun x y => x.nm ≠ y.nm
  | [], _ => List.Pairwise.nil
  | x :: M, S => by
    unfold newP
    split
    · exact new_once M S
    · exact List.pairwise_cons.2 ⟨fun y hy e => new_fresh M _ y hy (by rw [← e]; simp), new_once M _⟩
theorem new_all : ∀ (M : List At) (S : List Path) (x : At), x ∈ M → x.nm ∈ S ∨ hasP (newP S M) x.nm = true
  | [], _, x, h => by simp at h
  | z :: M, S, x, h => by
    unfold newP
    by_cases hz : z.nm ∈ S
    · rw [if_pos hz]
      rcases List.mem_cons.1 h with rfl | h
      · exact .inl hz
      · exact new_all M S x h
    · rw [if_neg hz]
      rcases List.mem_cons.1 h with rfl | h
      · exact .inr (has_iff.2 ⟨x, by simp, rfl⟩)
      · rcases new_all M (z.nm :: S) x h with h | h
        · rcases List.mem_cons.1 h with h | h
          · exact .inr (has_iff.2 ⟨z, by simp, h.symm⟩)
          · exact .inl h
        · obtain ⟨y, h1, h2⟩ := has_iff.1 h
          exact .inr (has_iff.2 ⟨y, List.mem_cons_of_mem _ h1, h2⟩)
theorem once_apart {L M : List At} {i k : Nat} {x y : At} (hi : L.length ≤ i) (hk : k < i) (hx : (missP L M)[i]? = some x) (hy : (missP L M)[k]? = some y) : y.nm ≠ x.nm := by
  rw [miss_new] at hx hy
  rw [List.getElem?_append_right hi] at hx
  by_cases hkl : k < L.length
  · rw [List.getElem?_append_left hkl] at hy
    intro e
    exact new_fresh M _ x (List.mem_of_getElem? hx) (by rw [← e]; exact List.mem_map_of_mem (List.mem_of_getElem? hy))
  · rw [List.getElem?_append_right (by omega)] at hy
    obtain ⟨h1, rfl⟩ := List.getElem?_eq_some_iff.1 hx
    obtain ⟨h2, rfl⟩ := List.getElem?_eq_some_iff.1 hy
    exact List.pairwise_iff_getElem.1 (new_once M _) _ _ h2 h1 (by omega)
theorem once_found {L M : List At} {x : At} (h : x ∈ M) : hasP (missP L M) x.nm = true := by
  rw [miss_new, has_app, Bool.or_eq_true]
  rcases new_all M _ x h with h | h
  · exact .inl (mem_names.1 h)
  · exact .inr h
theorem miss_none : ∀ (M L : List At), (∀ x ∈ M, hasP L x.nm = true) → missP L M = L
  | [], _, _ => rfl
  | x :: M, L, h => by
    have e : missP L (x :: M) = missP (addP L x) M := rfl
    rw [e]
    unfold addP
    rw [if_pos (h x (by simp))]
    exact miss_none M L fun y hy => h y (List.mem_cons_of_mem _ hy)
theorem miss_len (L M : List At) : (missP L M).length ≤ L.length + M.length ∧ L.length ≤ (missP L M).length := by
  rw [miss_new, List.length_append]
  have := new_len M (L.map At.nm)
  omega
theorem miss_take (L M : List At) : (missP L M).take L.length = L := by
  rw [miss_new, List.take_left]

/-- Lists that are the same. -/
def inP (x : At) (L : List At) : Bool := L.any fun y => At.eqb y x
theorem in_iff {x : At} {L : List At} : inP x L = true ↔ x ∈ L := by
  unfold inP
  rw [List.any_eq_true]
  constructor
  · rintro ⟨y, h1, h2⟩
    rw [At.eqb_iff] at h2
    rw [← h2]; exact h1
  · intro h
    exact ⟨x, h, At.eqb_refl x⟩
def withinP (A B : List At) : Bool := A.all fun x => inP x B
theorem within_iff {A B : List At} : withinP A B = true ↔ ∀ x ∈ A, x ∈ B := by
  unfold withinP
  rw [List.all_eq_true]
  constructor
  · exact fun h x hx => in_iff.1 (h x hx)
  · exact fun h x hx => in_iff.2 (h x hx)
def sameP (A B : List At) : Bool := decide (A.length = B.length) && withinP A B && withinP B A
theorem same_refl (A : List At) : sameP A A = true := by
  unfold sameP
  simp only [decide_true, Bool.true_and, Bool.and_self]
  exact within_iff.2 fun _ h => h
theorem same_perm {A B : List At} (h : A.Perm B) : sameP A B = true := by
  unfold sameP
  rw [Bool.and_eq_true, Bool.and_eq_true, decide_eq_true_iff]
  exact ⟨⟨h.length_eq, within_iff.2 fun x hx => h.mem_iff.1 hx⟩, within_iff.2 fun x hx => h.mem_iff.2 hx⟩

/-- Lists in order. -/
def ltA (x y : At) : Bool := ltP x.nm y.nm || (decide (x.nm = y.nm) && ltP x.vl y.vl)
theorem ltA_irrefl (x : At) : ltA x x = false := by simp [ltA, ltP_irrefl]
theorem ltA_trans {x y z : At} (h1 : ltA x y = true) (h2 : ltA y z = true) : ltA x z = true := by
  unfold ltA at *
  rw [Bool.or_eq_true, Bool.and_eq_true, decide_eq_true_iff] at *
  rcases h1 with h1 | ⟨e1, h1⟩
  · rcases h2 with h2 | ⟨e2, h2⟩
    · exact .inl (ltP_trans h1 h2)
    · exact .inl (by rw [← e2]; exact h1)
  · rcases h2 with h2 | ⟨e2, h2⟩
    · exact .inl (by rw [e1]; exact h2)
    · exact .inr ⟨e1.trans e2, ltP_trans h1 h2⟩
theorem ltA_total {x y : At} (h : x ≠ y) : ltA x y = true ∨ ltA y x = true := by
  unfold ltA
  rw [Bool.or_eq_true, Bool.and_eq_true, decide_eq_true_iff, Bool.or_eq_true, Bool.and_eq_true, decide_eq_true_iff]
  by_cases e : x.nm = y.nm
  · have : x.vl ≠ y.vl := fun e2 => h (At.ext' e e2)
    rcases ltP_total this with g | g
    · exact .inl (.inr ⟨e, g⟩)
    · exact .inr (.inr ⟨e.symm, g⟩)
  · rcases ltP_total e with g | g
    · exact .inl (.inl g)
    · exact .inr (.inl g)
theorem ltA_asymm {x y : At} (h : ltA x y = true) : ltA y x = false := by
  cases e : ltA y x with
  | false => rfl
  | true => have := ltA_trans h e; rw [ltA_irrefl] at this; cases this
theorem ltA_anti {x y : At} (h1 : ltA x y = false) (h2 : ltA y x = false) : x = y := by
  by_cases e : x = y
  · exact e
  · rcases ltA_total e with g | g
    · rw [h1] at g; cases g
    · rw [h2] at g; cases g
theorem ltA_ntrans {x y z : At} (h1 : ltA x y = false) (h2 : ltA y z = false) : ltA x z = false := by
  cases e : ltA x z with
  | false => rfl
  | true =>
    exfalso
    by_cases exy : x = y
    · rw [exy, h2] at e; cases e
    · rcases ltA_total exy with g | g
      · rw [h1] at g; cases g
      · have := ltA_trans g e; rw [h2] at this; cases this
theorem leA_eq (y x : At) : (ltP y.nm x.nm || (decide (y.nm = x.nm) && !ltP x.vl y.vl)) = !ltA x y := by
  unfold ltA
  by_cases e : y.nm = x.nm
  · rw [e]
    simp [ltP_irrefl]
  · have e2 : ¬ x.nm = y.nm := fun h => e h.symm
    simp only [e, e2, decide_false, Bool.false_and, Bool.or_false]
    rcases ltP_total e with g | g
    · rw [g, ltP_asymm g]; rfl
    · rw [g, ltP_asymm g]; rfl

def SortedA (A : List At) : Prop := A.Pairwise fun x y => ltA y x = false
theorem sorted_eq {A B : List At} (h : A.Perm B) (ha : SortedA A) (hb : SortedA B) : A = B :=
  List.Perm.eq_of_pairwise (fun _ _ _ _ h1 h2 => ltA_anti h2 h1) ha hb h
/-- x among those that are in order, behind all that are not above it. -/
def insP (x : At) : List At → List At
  | [] => [x]
  | y :: l => if ltA x y = true then x :: y :: l else y :: insP x l
theorem ins_perm (x : At) : ∀ l, (insP x l).Perm (x :: l)
  | [] => List.Perm.refl _
  | y :: l => by
    unfold insP
    split
    · exact List.Perm.refl _
    · exact ((ins_perm x l).cons y).trans (List.Perm.swap x y l)
theorem ins_sorted (x : At) : ∀ l, SortedA l → SortedA (insP x l)
  | [], _ => List.pairwise_singleton _ _
  | y :: l, h => by
    unfold SortedA at h ⊢
    unfold insP
    obtain ⟨h1, h2⟩ := List.pairwise_cons.1 h
    split
    · rename_i hx
      refine List.pairwise_cons.2 ⟨fun z hz => ?_, h⟩
      rcases List.mem_cons.1 hz with rfl | hz
      · exact ltA_asymm hx
      · exact ltA_ntrans (h1 z hz) (ltA_asymm hx)
    · rename_i hx
      refine List.pairwise_cons.2 ⟨fun z hz => ?_, ins_sorted x l h2⟩
      rcases List.mem_cons.1 ((ins_perm x l).mem_iff.1 hz) with rfl | hz
      · simpa using hx
      · exact h1 z hz
theorem ins_at (x : At) : ∀ (A : List At) (k : Nat), (∀ j y, j < k → A[j]? = some y → ltA x y = false) → (∀ y, A[k]? = some y → ltA x y = true) → k ≤ A.length → insP x A = A.take k ++ [x] ++ A.drop k
  | [], k, _, _, hk => by
    have : k = 0 := by simpa using hk
    subst this
    rfl
  | y :: l, 0, _, h2, _ => by
    unfold insP
    rw [if_pos (h2 y rfl)]
    rfl
  | y :: l, k + 1, h1, h2, hk => by
    unfold insP
    rw [if_neg (by rw [h1 0 y (by omega) rfl]; exact fun h => by cases h)]
    rw [ins_at x l k (fun j z hj hz => h1 (j + 1) z (by omega) (by simpa using hz)) (fun z hz => h2 z (by simpa using hz)) (by simpa using hk)]
    rfl
def sortP (L : List At) : List At := L.foldl (fun out x => insP x out) []
theorem sort_snoc (L : List At) (x : At) : sortP (L ++ [x]) = insP x (sortP L) := by
  unfold sortP
  rw [List.foldl_append]
  rfl
theorem sort_spec (L : List At) : (sortP L).Perm L ∧ SortedA (sortP L) := by
  have h : ∀ (L out : List At), SortedA out → (L.foldl (fun out x => insP x out) out).Perm (out ++ L) ∧ SortedA (L.foldl (fun out x => insP x out) out) := by
    intro L
    induction L with
    | nil => intro out ho; simpa using ho
    | cons x L ih =>
      intro out ho
      obtain ⟨h1, h2⟩ := ih (insP x out) (ins_sorted x out ho)
      refine ⟨h1.trans ?_, h2⟩
      refine ((ins_perm x out).append_right L).trans ?_
      simpa using (List.perm_middle (a := x) (l₁ := out) (l₂ := L)).symm
  have := h L [] List.Pairwise.nil
  simpa [sortP] using this
theorem sort_len (L : List At) : (sortP L).length = L.length := (sort_spec L).1.length_eq
theorem sort_perm {A B : List At} (h : A.Perm B) : sortP A = sortP B :=
  sorted_eq ((sort_spec A).1.trans (h.trans (sort_spec B).1.symm)) (sort_spec A).2 (sort_spec B).2
theorem sort_unique {A S : List At} (h : S.Perm A) (hs : SortedA S) : S = sortP A := sorted_eq (h.trans (sort_spec A).1.symm) hs (sort_spec A).2
theorem rotate_perm (L : List At) (k : Nat) : L.Perm (L.drop k ++ L.take k) := by
  have := List.perm_append_comm (l₁ := L.drop k) (l₂ := L.take k)
  rw [List.take_append_drop] at this
  exact this.symm
end Go.Proofs.Ytibndgembpcdgaa
