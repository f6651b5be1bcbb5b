/- Pure: lists of attributes; the document's in and Same. -/
import Derived.Test.YtdpibnmbgjhohaaAg
namespace Go.Proofs.Ytdpibnmbgjhohaa
open Go.RowKit

theorem At.eqb_refl (x : At) : At.eqb x x = true := At.eqb_iff.2 rfl

/-- One name ahead of another, by their bytes. -/
def ltP : Path → Path → Bool
  | [], [] => false
  | [], _ :: _ => true
  | _ :: _, [] => false
  | x :: a, y :: b => decide (x.toNat < y.toNat) || (x == y && ltP a b)

theorem ltP_irrefl : ∀ a, ltP a a = false
  | [] => rfl
  | x :: a => by simp [ltP, ltP_irrefl a]
theorem ltP_asymm : ∀ {a b}, ltP a b = true → ltP b a = false
  | [], [], h => by cases h
  | [], _ :: _, _ => rfl
  | _ :: _, [], h => by cases h
  | x :: a, y :: b, h => by
    simp only [ltP, Bool.or_eq_true, decide_eq_true_eq, Bool.and_eq_true, beq_iff_eq] at h
    simp only [ltP, Bool.or_eq_false_iff, decide_eq_false_iff_not, Bool.and_eq_false_iff]
    rcases h with h | ⟨rfl, h⟩
    · exact ⟨by omega, .inl (by simp; intro e; subst e; omega)⟩
    · exact ⟨by omega, .inr (ltP_asymm h)⟩
theorem ltP_total : ∀ {a b}, a ≠ b → ltP a b = true ∨ ltP b a = true
  | [], [], h => absurd rfl h
  | [], _ :: _, _ => .inl rfl
  | _ :: _, [], _ => .inr rfl
  | x :: a, y :: b, h => by
    simp only [ltP, Bool.or_eq_true, decide_eq_true_eq, Bool.and_eq_true, beq_iff_eq]
    by_cases e : x = y
    · subst e
      rcases ltP_total (a := a) (b := b) (fun e => h (by rw [e])) with h | h
      · exact .inl (.inr ⟨rfl, h⟩)
      · exact .inr (.inr ⟨rfl, h⟩)
    · have : x.toNat ≠ y.toNat := fun e2 => e (UInt8.toNat_inj.1 e2)
      rcases Nat.lt_or_gt_of_ne this with h | h
      · exact .inl (.inl h)
      · exact .inr (.inl h)
theorem ltP_trans : ∀ {a b c}, ltP a b = true → ltP b c = true → ltP a c = true
  | [], [], _, h, _ => by cases h
  | [], _ :: _, [], _, h => by cases h
  | [], _ :: _, _ :: _, _, _ => rfl
  | _ :: _, [], _, h, _ => by cases h
  | _ :: _, _ :: _, [], _, h => by cases h
  | x :: a, y :: b, z :: c, h1, h2 => by
    simp only [ltP, Bool.or_eq_true, decide_eq_true_eq, Bool.and_eq_true, beq_iff_eq] at *
    rcases h1 with h1 | ⟨rfl, h1⟩
    · rcases h2 with h2 | ⟨rfl, h2⟩
      · exact .inl (by omega)
      · exact .inl h1
    · rcases h2 with h2 | ⟨rfl, h2⟩
      · exact .inl h2
      · exact .inr ⟨rfl, ltP_trans h1 h2⟩
theorem less_eq : ∀ a b : List UInt8, Op.bytesLess a b = ltP a b
  | [], [] => rfl
  | [], _ :: _ => rfl
  | _ :: _, [] => rfl
  | x :: a, y :: b => by
    rw [Op.bytesLess, ltP, less_eq a b]
    rfl

/-- Names found. -/
def hasP (L : List At) (k : Path) : Bool := L.any fun x => decide (x.nm = k)
def getP (L : List At) (k : Path) : Option At := L.find? fun x => decide (x.nm = k)
theorem get_some (L : List At) (k : Path) : (getP L k).isSome = hasP L k := by
  unfold getP hasP
  rw [Bool.eq_iff_iff, List.find?_isSome, List.any_eq_true]
theorem has_iff {L : List At} {k : Path} : hasP L k = true ↔ ∃ x ∈ L, x.nm = k := by
  unfold hasP
  rw [List.any_eq_true]
  simp
theorem has_app (L M : List At) (k : Path) : hasP (L ++ M) k = (hasP L k || hasP M k) := by
  unfold hasP
  rw [List.any_append]
theorem get_none {L : List At} {k : Path} (h : hasP L k = false) : getP L k = none := by
  have := get_some L k
  rw [h] at this
  simpa using this
theorem get_added {L : List At} {a : At} (h : hasP L a.nm = false) : getP (L ++ [a]) a.nm = some a := by
  have h1 := get_none h
  unfold getP at h1 ⊢
  rw [List.find?_append, h1]
  simp
def addP (L : List At) (a : At) : List At := if hasP L a.nm = true then L else L ++ [a]
def missP (L M : List At) : List At := M.foldl addP L
/-- Of M those whose name is not among the seen ones, of like names the first. -/
def newP : List Path → List At → List At
  | _, [] => []
  | S, x :: M => if x.nm ∈ S then newP S M else x :: newP (x.nm :: S) M
theorem new_cons (S : List Path) (x : At) (M : List At) : newP S (x :: M) = if x.nm ∈ S then newP S M else x :: newP (x.nm :: S) M := rfl
theorem new_same : ∀ (M : List At) (S T : List Path), (∀ k, k ∈ S ↔ k ∈ T) → newP S M = newP T M
  | [], _, _, _ => rfl
  | x :: M, S, T, h => by
    unfold newP
    by_cases hx : x.nm ∈ S
    · rw [if_pos hx, if_pos ((h _).1 hx)]
      exact new_same M S T h
    · rw [if_neg hx, if_neg (fun e => hx ((h _).2 e))]
      congr 1
      exact new_same M _ _ fun k => by simp only [List.mem_cons]; rw [h k]
theorem mem_names {L : List At} {k : Path} : k ∈ L.map At.nm ↔ hasP L k = true := by
  rw [has_iff, List.mem_map]
theorem miss_new : ∀ (M L : List At), missP L M = L ++ newP (L.map At.nm) M
  | [], L => by simp [missP, newP]
  | x :: M, L => by
    have h : missP L (x :: M) = missP (addP L x) M := rfl
    rw [h, miss_new M]
    rw [new_cons]
    unfold addP
    by_cases hx : hasP L x.nm = true
    · rw [if_pos hx, if_pos (mem_names.2 hx)]
    · rw [if_neg hx, if_neg (fun e => hx (mem_names.1 e)), List.append_assoc]
      congr 1
      simp only [List.singleton_append]
      congr 1
      exact new_same M _ _ fun k => by simp [or_comm]
theorem new_len : ∀ (M : List At) (S : List Path), (newP S M).length ≤ M.length
  | [], _ => Nat.le_refl _
  | x :: M, S => by
    unfold newP
    split
    · have := new_len M S; simp; omega
    · have := new_len M (x.nm :: S); simp; omega
theorem new_fresh : ∀ (M : List At) (S : List Path) (y : At), y ∈ newP S M → y.nm ∉ S
  | [], _, y, h => by simp [newP] at h
  | x :: M, S, y, h => by
    unfold newP at h
    by_cases hx : x.nm ∈ S
    · rw [if_pos hx] at h
      exact new_fresh M S y h
    · rw [if_neg hx] at h
      rcases List.mem_cons.1 h with rfl | h
      · exact hx
      · exact fun e => new_fresh M _ y h (List.mem_cons_of_mem _ e)
theorem new_once : ∀ (M : List At) (S : List Path), (newP S M).Pairwise fun x y => x.nm ≠ y.nm
  | [], _ => List.Pairwise.nil
  | x :: M, S => by
    unfold newP
    split
    · exact new_once M S
    · exact List.pairwise_cons.2 ⟨fun y hy e => new_fresh M _ y hy (by rw [← e]; simp), new_once M _⟩
theorem new_all : ∀ (M : List At) (S : List Path) (x : At), x ∈ M → x.nm ∈ S ∨ hasP (newP S M) x.nm = true
  | [], _, x, h => by simp at h
  | z :: M, S, x, h => by
    unfold newP
    by_cases hz : z.nm ∈ S
    · rw [if_pos hz]
      rcases List.mem_cons.1 h with rfl | h
      · exact .inl hz
      · exact new_all M S x h
    · rw [if_neg hz]
      rcases List.mem_cons.1 h with rfl | h
      · exact .inr (has_iff.2 ⟨x, by simp, rfl⟩)
      · rcases new_all M (z.nm :: S) x h with h | h
        · rcases List.mem_cons.1 h with h | h
          · exact .inr (has_iff.2 ⟨z, by simp, h.symm⟩)
          · exact .inl h
        · obtain ⟨y, h1, h2⟩ := has_iff.1 h
          exact .inr (has_iff.2 ⟨y, List.mem_cons_of_mem _ h1, h2⟩)
theorem once_apart {L M : List At} {i k : Nat} {x y : At} (hi : L.length ≤ i) (hk : k < i) (hx : (missP L M)[i]? = some x) (hy : (missP L M)[k]? = some y) : y.nm ≠ x.nm := by
  rw [miss_new] at hx hy
  rw [List.getElem?_append_right hi] at hx
  by_cases hkl : k < L.length
  · rw [List.getElem?_append_left hkl] at hy
    intro e
    exact new_fresh M _ x (List.mem_of_getElem? hx) (by rw [← e]; exact List.mem_map_of_mem (List.mem_of_getElem? hy))
  · rw [List.getElem?_append_right (by omega)] at hy
    obtain ⟨h1, rfl⟩ := List.getElem?_eq_some_iff.1 hx
    obtain ⟨h2, rfl⟩ := List.getElem?_eq_some_iff.1 hy
    exact List.pairwise_iff_getElem.1 (new_once M _) _ _ h2 h1 (by omega)
theorem once_found {L M : List At} {x : At} (h : x ∈ M) : hasP (missP L M) x.nm = true := by
  rw [miss_new, has_app, Bool.or_eq_true]
  rcases new_all M _ x h with h | h
  · exact .inl (mem_names.1 h)
  · exact .inr h
theorem miss_none : ∀ (M L : List At), (∀ x ∈ M, hasP L x.nm = true) → missP L M = L
  | [], _, _ => rfl
  | x :: M, L, h => by
    have e : missP L (x :: M) = missP (addP L x) M := rfl
    rw [e]
    unfold addP
    rw [if_pos (h x (by simp))]
    exact miss_none M L fun y hy => h y (List.mem_cons_of_mem _ hy)
theorem miss_len (L M : List At) : (missP L M).length ≤ L.length + M.length ∧ L.length ≤ (missP L M).length := by
  rw [miss_new, List.length_append]
  have := new_len M (L.map At.nm)
  omega
theorem miss_take (L M : List At) : (missP L M).take L.length = L := by
  rw [miss_new, List.take_left]

/-- Lists that are the same. -/
def inP (x : At) (L : List At) : Bool := L.any fun y => At.eqb y x
theorem in_iff {x : At} {L : List At} : inP x L = true ↔ x ∈ L := by
  unfold inP
  rw [List.any_eq_true]
  constructor
  · rintro ⟨y, h1, h2⟩
    rw [At.eqb_iff] at h2
    rw [← h2]; exact h1
  · intro h
    exact ⟨x, h, At.eqb_refl x⟩
def withinP (A B : List At) : Bool := A.all fun x => inP x B
theorem within_iff {A B : List At} : withinP A B = true ↔ ∀ x ∈ A, x ∈ B := by
  unfold withinP
  rw [List.all_eq_true]
  constructor
  · exact fun h x hx => in_iff.1 (h x hx)
  · exact fun h x hx => in_iff.2 (h x hx)
def sameP (A B : List At) : Bool := decide (A.length = B.length) && withinP A B && withinP B A
theorem same_refl (A : List At) : sameP A A = true := by
  unfold sameP
  simp only [decide_true, Bool.true_and, Bool.and_self]
  exact within_iff.2 fun _ h => h
theorem same_perm {A B : List At} (h : A.Perm B) : sameP A B = true := by
  unfold sameP
  rw [Bool.and_eq_true, Bool.and_eq_true, decide_eq_true_iff]
  exact ⟨⟨h.length_eq, within_iff.2 fun x hx => h.mem_iff.1 hx⟩, within_iff.2 fun x hx => h.mem_iff.2 hx⟩

/-- Lists in order. -/
def ltA (x y : At) : Bool := ltP x.nm y.nm || (decide (x.nm = y.nm) && ltP x.vl y.vl)
theorem ltA_irrefl (x : At) : ltA x x = false := by simp [ltA, ltP_irrefl]
theorem ltA_trans {x y z : At} (h1 : ltA x y = true) (h2 : ltA y z = true) : ltA x z = true := by
  unfold ltA at *
  rw [Bool.or_eq_true, Bool.and_eq_true, decide_eq_true_iff] at *
  rcases h1 with h1 | ⟨e1, h1⟩
  · rcases h2 with h2 | ⟨e2, h2⟩
    · exact .inl (ltP_trans h1 h2)
    · exact .inl (by rw [← e2]; exact h1)
  · rcases h2 with h2 | ⟨e2, h2⟩
    · exact .inl (by rw [e1]; exact h2)
    · exact .inr ⟨e1.trans e2, ltP_trans h1 h2⟩
theorem ltA_total {x y : At} (h : x ≠ y) : ltA x y = true ∨ ltA y x = true := by
  unfold ltA
  rw [Bool.or_eq_true, Bool.and_eq_true, decide_eq_true_iff, Bool.or_eq_true, Bool.and_eq_true, decide_eq_true_iff]
  by_cases e : x.nm = y.nm
  · have : x.vl ≠ y.vl := fun e2 => h (At.ext' e e2)
    rcases ltP_total this with g | g
    · exact .inl (.inr ⟨e, g⟩)
    · exact .inr (.inr ⟨e.symm, g⟩)
  · rcases ltP_total e with g | g
    · exact .inl (.inl g)
    · exact .inr (.inl g)
theorem ltA_asymm {x y : At} (h : ltA x y = true) : ltA y x = false := by
  cases e : ltA y x with
  | false => rfl
  | true => have := ltA_trans h e; rw [ltA_irrefl] at this; cases this
theorem ltA_anti {x y : At} (h1 : ltA x y = false) (h2 : ltA y x = false) : x = y := by
  by_cases e : x = y
  · exact e
  · rcases ltA_total e with g | g
    · rw [h1] at g; cases g
    · rw [h2] at g; cases g
theorem ltA_ntrans {x y z : At} (h1 : ltA x y = false) (h2 : ltA y z = false) : ltA x z = false := by
  cases e : ltA x z with
  | false => rfl
  | true =>
    exfalso
    by_cases exy : x = y
    · rw [exy, h2] at e; cases e
    · rcases ltA_total exy with g | g
      · rw [h1] at g; cases g
      · have := ltA_trans g e; rw [h2] at this; cases this
theorem leA_eq (y x : At) : (ltP y.nm x.nm || (decide (y.nm = x.nm) && !ltP x.vl y.vl)) = !ltA x y := by
  unfold ltA
  by_cases e : y.nm = x.nm
  · rw [e]
    simp [ltP_irrefl]
  · have e2 : ¬ x.nm = y.nm := fun h => e h.symm
    simp only [e, e2, decide_false, Bool.false_and, Bool.or_false]
    rcases ltP_total e with g | g
    · rw [g, ltP_asymm g]; rfl
    · rw [g, ltP_asymm g]; rfl

def SortedA (A : List At) : Prop := A.Pairwise fun x y => ltA y x = false
theorem sorted_eq {A B : List At} (h : A.Perm B) (ha : SortedA A) (hb : SortedA B) : A = B :=
  List.Perm.eq_of_pairwise (fun _ _ _ _ h1 h2 => ltA_anti h2 h1) ha hb h
/-- x among those that are in order, behind all that are not above it. -/
def insP (x : At) : List At → List At
  | [] => [x]
  | y :: l => if ltA x y = true then x :: y :: l else y :: insP x l
theorem ins_perm (x : At) : ∀ l, (insP x l).Perm (x :: l)
  | [] => List.Perm.refl _
  | y :: l => by
    unfold insP
    split
    · exact List.Perm.refl _
    · exact ((ins_perm x l).cons y).trans (List.Perm.swap x y l)
theorem ins_sorted (x : At) : ∀ l, SortedA l → SortedA (insP x l)
  | [], _ => List.pairwise_singleton _ _
  | y :: l, h => by
    unfold SortedA at h ⊢
    unfold insP
    obtain ⟨h1, h2⟩ := List.pairwise_cons.1 h
    split
    · rename_i hx
      refine List.pairwise_cons.2 ⟨fun z hz => ?_, h⟩
      rcases List.mem_cons.1 hz with rfl | hz
      · exact ltA_asymm hx
      · exact ltA_ntrans (h1 z hz) (ltA_asymm hx)
    · rename_i hx
      refine List.pairwise_cons.2 ⟨fun z hz => ?_, ins_sorted x l h2⟩
      rcases List.mem_cons.1 ((ins_perm x l).mem_iff.1 hz) with rfl | hz
      · simpa using hx
      · exact h1 z hz
theorem ins_at (x : At) : ∀ (A : List At) (k : Nat), (∀ j y, j < k → A[j]? = some y → ltA x y = false) → (∀ y, A[k]? = some y → ltA x y = true) → k ≤ A.length → insP x A = A.take k ++ [x] ++ A.drop k
  | [], k, _, _, hk => by
    have : k = 0 := by simpa using hk
    subst this
    rfl
  | y :: l, 0, _, h2, _ => by
    unfold insP
    rw [if_pos (h2 y rfl)]
    rfl
  | y :: l, k + 1, h1, h2, hk => by
    unfold insP
    rw [if_neg (by rw [h1 0 y (by omega) rfl]; exact fun h => by cases h)]
    rw [ins_at x l k (fun j z hj hz => h1 (j + 1) z (by omega) (by simpa using hz)) (fun z hz => h2 z (by simpa using hz)) (by simpa using hk)]
    rfl
def sortP (L : List At) : List At := L.foldl (fun out x => insP x out) []
theorem sort_snoc (L : List At) (x : At) : sortP (L ++ [x]) = insP x (sortP L) := by
  unfold sortP
  rw [List.foldl_append]
  rfl
theorem sort_spec (L : List At) : (sortP L).Perm L ∧ SortedA (sortP L) := by
  have h : ∀ (L out : List At), SortedA out → (L.foldl (fun out x => insP x out) out).Perm (out ++ L) ∧ SortedA (L.foldl (fun out x => insP x out) out) := by
    intro L
    induction L with
    | nil => intro out ho; simpa using ho
    | cons x L ih =>
      intro out ho
      obtain ⟨h1, h2⟩ := ih (insP x out) (ins_sorted x out ho)
      refine ⟨h1.trans ?_, h2⟩
      refine ((ins_perm x out).append_right L).trans ?_
      simpa using (List.perm_middle (a := x) (l₁ := out) (l₂ := L)).symm
  have := h L [] List.Pairwise.nil
  simpa [sortP] using this
theorem sort_len (L : List At) : (sortP L).length = L.length := (sort_spec L).1.length_eq
theorem sort_perm {A B : List At} (h : A.Perm B) : sortP A = sortP B :=
  sorted_eq ((sort_spec A).1.trans (h.trans (sort_spec B).1.symm)) (sort_spec A).2 (sort_spec B).2
theorem sort_unique {A S : List At} (h : S.Perm A) (hs : SortedA S) : S = sortP A := sorted_eq (h.trans (sort_spec A).1.symm) hs (sort_spec A).2
theorem rotate_perm (L : List At) (k : Nat) : L.Perm (L.drop k ++ L.take k) := by
  have := List.perm_append_comm (l₁ := L.drop k) (l₂ := L.take k)
  rw [List.take_append_drop] at this
  exact this.symm
theorem beq_yes {a b : ByteArray} (h : a.data.toList = b.data.toList) : (a.toList == b.toList) = true := by rw [beq_bytes]; exact decide_eq_true h
theorem beq_no {a b : ByteArray} (h : ¬ a.data.toList = b.data.toList) : (a.toList == b.toList) = false := by rw [beq_bytes]; exact decide_eq_false h

def gv : Option At → ByteArray
  | some x => x.v
  | none => ⟨#[]⟩

theorem drop_at {L : List At} {i : Nat} {x : At} (h : L[i]? = some x) : L.drop i = x :: L.drop (i + 1) := by
  obtain ⟨h1, rfl⟩ := List.getElem?_eq_some_iff.1 h
  exact List.drop_eq_getElem_cons h1
theorem get_drop {L : List At} {i : Nat} {x : At} {k : Path} (h : L[i]? = some x) : getP (L.drop i) k = if x.nm = k then some x else getP (L.drop (i + 1)) k := by
  rw [drop_at h]
  unfold getP
  rw [List.find?_cons]
  by_cases e : x.nm = k <;> simp [e]

theorem in_drop {L : List At} {i : Nat} {x a : At} (h : L[i]? = some x) : inP a (L.drop i) = (At.eqb x a || inP a (L.drop (i + 1))) := by
  rw [drop_at h]
  rfl

set_option maxHeartbeats 1000000 in
theorem rin_any {w : World} {ao : Option Addr} {L : List At} (n cap : Nat) (nm vl : ByteArray) (ha : AtRow w ao L) (hn : L.length = n) (hn2 : n ≤ 100000) :
    Calls Try.prog 47 #[.agg #[.string nm, .string vl], .slice ao n cap] w fun e w' => e = .returned (.bool (inP ⟨nm, vl⟩ L)) ∧ Below w.heap.size w w' := by
  obtain ⟨g, hg0⟩ : ∃ g, inP ⟨nm, vl⟩ L = g := ⟨_, rfl⟩
  rw [hg0]
  have HA : Hid (AtRow w ao L ∧ L.length = n ∧ inP ⟨nm, vl⟩ (L.drop 0) = g) := ⟨ha, hn, hg0⟩
  clear ha hn hg0
  go_enter Try.func47, Try.ntmps47
  go_wp2_with fail
  obtain ⟨W, hW⟩ : ∃ W, w.alloc (.cells #[.string nm, .string vl] 53) = W := ⟨_, rfl⟩
  have hbW : Below w.heap.size w W := by rw [← hW]; exact (Below.refl _ _).alloc (Nat.le_refl _) _
  have hnew : W.heap[w.heap.size]? = some (.cells #[.string nm, .string vl] 53 (0, 0)) := by rw [← hW]; exact heap_alloc_new _ _
  have d1 : W.cell? ⟨w.heap.size, 0, none⟩ = some (.string nm) := by simp [World.cell?, hnew]
  have d2 : W.cell? ⟨w.heap.size, 1, none⟩ = some (.string vl) := by simp [World.cell?, hnew]
  have HW : Hid (Below w.heap.size w W) := hbW
  rw [hW]
  clear hW hnew hbW
  go_loopg [5] n (fun g2 iv wr => ∃ (i q : Nat), iv = .int .i64 i ∧ i + g2 = n ∧ inP ⟨nm, vl⟩ (L.drop i) = g ∧ wr = W.drewN q)
  case atStart => exact ⟨0, 0, rfl, by omega, HA.out.2.2, rfl⟩
  case round =>
    obtain ⟨i, q, rfl, hig, hgi, rfl⟩ := hrel
    have HG : Hid (inP ⟨nm, vl⟩ (L.drop i) = g) := hgi
    clear hgi
    cases gk with
    | zero =>
      obtain rfl : i = n := by omega
      have hg0 : decide ((i : Int) < (i : Int)) = false := decide_eq_false (by omega)
      go_wp2_with fail
      have e : g = false := by
        have h := HG.out
        rw [List.drop_of_length_le (by rw [HA.out.2.1]; exact Nat.le_refl _)] at h
        exact h.symm
      subst e
      go_ret
      exact ⟨rfl, below_drewN HW.out _⟩
    | succ k =>
      have hin : i < n := by omega
      have hil : i < L.length := by rw [HA.out.2.1]; exact hin
      obtain ⟨x, hx⟩ : ∃ x, L[i]? = some x := ⟨_, List.getElem?_eq_getElem hil⟩
      obtain ⟨b1, o1, rfl, h1, c1, c2⟩ := (HA.out.1.old HW.out) i x hx
      have HD : Hid (inP ⟨nm, vl⟩ (L.drop i) = (At.eqb x ⟨nm, vl⟩ || inP ⟨nm, vl⟩ (L.drop (i + 1)))) := in_drop hx
      clear hil hx
      obtain ⟨nm1, vl1⟩ := x
      simp only at c1 c2
      have heq := eq53 nm1 vl1 nm vl
      obtain ⟨r, hr⟩ : ∃ r, At.eqb ⟨nm1, vl1⟩ ⟨nm, vl⟩ = r := ⟨_, rfl⟩
      rw [hr] at HD
      simp only [hr] at heq
      clear hr
      cases r with
      | true =>
        have e : g = true := by
          rw [← HG.out, HD.out]
          rfl
        subst e
        go_wp2_with fail
        go_quiet (fail)
        go_wp2_with fail
        go_ret
        exact ⟨rfl, below_drewN (below_drewN HW.out _) _⟩
      | false =>
        have HN : Hid (inP ⟨nm, vl⟩ (L.drop (i + 1)) = g) := by
          have h := HD.out
          rw [Bool.false_or] at h
          exact h.symm.trans HG.out
        go_wp2_with fail
        go_quiet (fail)
        go_wp2_with fail
        go_roundg k
        case measure => omega
        case rel => exact ⟨i + 1, _, by go_num, by omega, HN.out, rfl⟩

theorem same_step {A B : List At} {i : Nat} {x y : At} (hx : A[i]? = some x) (hy : B[i]? = some y) : (withinP (A.drop i) B && withinP (B.drop i) A) = (inP x B && inP y A && (withinP (A.drop (i + 1)) B && withinP (B.drop (i + 1)) A)) := by
  rw [drop_at hx, drop_at hy]
  unfold withinP
  simp only [List.all_cons]
  cases inP x B <;> cases inP y A <;> simp

set_option maxHeartbeats 2000000 in
theorem rsame_any {w : World} {ao bo : Option Addr} {A B : List At} (n m ca cb : Nat) (ha : AtRow w ao A) (hb : AtRow w bo B) (hn : A.length = n) (hm : B.length = m) (hn2 : n ≤ 100000) (hm2 : m ≤ 100000) :
    Calls Try.prog 31 #[.slice ao n ca, .slice bo m cb] w fun e w' => e = .returned (.bool (sameP A B)) ∧ Below w.heap.size w w' := by
  by_cases hnm : n = m
  · subst hnm
    obtain ⟨g, hg0⟩ : ∃ g, sameP A B = g := ⟨_, rfl⟩
    rw [hg0]
    have hg1 : (withinP (A.drop 0) B && withinP (B.drop 0) A) = g := by
      rw [← hg0]
      unfold sameP
      simp [hn, hm]
    have HA : Hid (AtRow w ao A ∧ AtRow w bo B ∧ A.length = n ∧ B.length = n ∧ (withinP (A.drop 0) B && withinP (B.drop 0) A) = g) := ⟨ha, hb, hn, hm, hg1⟩
    clear ha hb hn hm hg0 hg1
    go_enter Try.func31, Try.ntmps31
    go_wp2_with fail
    go_loopg [5] n (fun g2 iv wr => ∃ i : Nat, iv = .int .i64 i ∧ i + g2 = n ∧ (withinP (A.drop i) B && withinP (B.drop i) A) = g ∧ Below w.heap.size w wr)
    case atStart => exact ⟨0, rfl, by omega, HA.out.2.2.2.2, Below.refl _ _⟩
    case round =>
      obtain ⟨i, rfl, hig, hgi, hbe⟩ := hrel
      have HG : Hid ((withinP (A.drop i) B && withinP (B.drop i) A) = g ∧ Below w.heap.size w wr) := ⟨hgi, hbe⟩
      clear hgi hbe
      cases gk with
      | zero =>
        obtain rfl : i = n := by omega
        have hg0 : decide ((i : Int) < (i : Int)) = false := decide_eq_false (by omega)
        go_wp2_with fail
        have e : g = true := by
          have h := HG.out.1
          rw [List.drop_of_length_le (by rw [HA.out.2.2.1]; exact Nat.le_refl _), List.drop_of_length_le (by rw [HA.out.2.2.2.1]; exact Nat.le_refl _)] at h
          exact h.symm
        subst e
        go_ret
        exact ⟨rfl, HG.out.2⟩
      | succ k =>
        have hin : i < n := by omega
        obtain ⟨x, hx⟩ : ∃ x, A[i]? = some x := ⟨_, List.getElem?_eq_getElem (by rw [HA.out.2.2.1]; exact hin)⟩
        obtain ⟨y, hy⟩ : ∃ y, B[i]? = some y := ⟨_, List.getElem?_eq_getElem (by rw [HA.out.2.2.2.1]; exact hin)⟩
        have hAr := HA.out.1.old HG.out.2
        have hBr := HA.out.2.1.old HG.out.2
        obtain ⟨b1, o1, rfl, h1, c1, c2⟩ := hAr i x hx
        obtain ⟨b2, o2, rfl, h2, c3, c4⟩ := hBr i y hy
        have HD : Hid ((withinP (A.drop i) B && withinP (B.drop i) A) = (inP x B && inP y A && (withinP (A.drop (i + 1)) B && withinP (B.drop (i + 1)) A))) := same_step hx hy
        clear hx hy
        obtain ⟨nm1, vl1⟩ := x
        obtain ⟨nm2, vl2⟩ := y
        simp only at c1 c2 c3 c4
        have k1 := rin_any n cb nm1 vl1 hBr HA.out.2.2.2.1 hn2
        obtain ⟨r1, hr1⟩ : ∃ r, inP ⟨nm1, vl1⟩ B = r := ⟨_, rfl⟩
        obtain ⟨r2, hr2⟩ : ∃ r, inP ⟨nm2, vl2⟩ A = r := ⟨_, rfl⟩
        have HR2 : Hid (inP ⟨nm2, vl2⟩ A = r2) := hr2
        rw [hr1, hr2] at HD
        rw [hr1] at k1
        have HAr : Hid (AtRow wr (some ⟨b1, o1, none⟩) A) := hAr
        clear hr1 hr2 hAr hBr
        go_wp2_with fail
        refine k1.mono ?_
        rintro e w1 ⟨rfl, q1⟩
        clear k1
        have c3' := (q1.cell (p := ⟨b2, o2 + i * 2, none⟩) h2).trans c3
        have c4' := (q1.cell (p := ⟨b2, o2 + i * 2 + 1, none⟩) h2).trans c4
        have hs := q1.size
        have h2' : b2 < w1.heap.size := Nat.lt_of_lt_of_le h2 hs
        have k2 := rin_any n ca nm2 vl2 (HAr.out.old q1) HA.out.2.2.1 hn2
        rw [HR2.out] at k2
        have HQ : Hid (Below w.heap.size w w1) := HG.out.2.trans (q1.mono HG.out.2.size)
        clear q1 c1 c2 c3 c4 h1 h2 hs
        cases r1 with
        | false =>
          go_wp2_with fail
          have e : g = false := by rw [← HG.out.1, HD.out]; rfl
          subst e
          go_ret
          exact ⟨rfl, HQ.out⟩
        | true =>
          go_wp2_with fail
          refine k2.mono ?_
          rintro e w2 ⟨rfl, q2⟩
          clear k2
          have HQ2 : Hid (Below w.heap.size w w2) := HQ.out.trans (q2.mono HQ.out.size)
          clear q2
          cases r2 with
          | false =>
            go_wp2_with fail
            have e : g = false := by rw [← HG.out.1, HD.out]; rfl
            subst e
            go_ret
            exact ⟨rfl, HQ2.out⟩
          | true =>
            have HN : Hid ((withinP (A.drop (i + 1)) B && withinP (B.drop (i + 1)) A) = g) := by
              have h := HD.out
              simp only [Bool.and_self, Bool.true_and] at h
              exact h.symm.trans HG.out.1
            go_wp2_with fail
            go_roundg k
            case measure => omega
            case rel => exact ⟨i + 1, by go_num, by omega, HN.out, HQ2.out⟩
  · have e : sameP A B = false := by
      unfold sameP
      rw [hn, hm, decide_eq_false hnm]
      rfl
    rw [e]
    have hne : ((n : Int) == (m : Int)) = false := by simp; omega
    clear ha hb hn hm e
    go_enter Try.func31, Try.ntmps31
    go_wp2_with fail
    go_ret
    exact ⟨rfl, Below.refl _ _⟩


end Go.Proofs.Ytdpibnmbgjhohaa
