/- The law's own look at chapter 8's examples is true. -/
import Derived.Test.YtibndgembpcdgaaWi
namespace Go.Proofs.Ytibndgembpcdgaa
open Go.RowKit

def tx : ByteArray := ⟨#[120]⟩
def ty : ByteArray := ⟨#[121]⟩
def t1 : ByteArray := ⟨#[49]⟩
def t2 : ByteArray := ⟨#[50]⟩
def exA : List At := [⟨tx, t1⟩]
def exB : List At := [⟨tx, t1⟩, ⟨ty, t2⟩]
def exC : List At := [⟨ty, t2⟩, ⟨tx, t1⟩]

theorem fine_ex : Fine exA ∧ Fine exB ∧ Fine exC := by
  have h1 : tx.size ≤ maxLen := by unfold maxLen; decide
  have h2 : ty.size ≤ maxLen := by unfold maxLen; decide
  have h3 : t1.size ≤ maxLen := by unfold maxLen; decide
  have h4 : t2.size ≤ maxLen := by unfold maxLen; decide
  refine ⟨fun x hx => ?_, fun x hx => ?_, fun x hx => ?_⟩
  · simp only [exA, List.mem_singleton] at hx
    subst hx; exact ⟨h1, h3⟩
  · simp only [exB, List.mem_cons, List.not_mem_nil, or_false] at hx
    rcases hx with rfl | rfl
    · exact ⟨h1, h3⟩
    · exact ⟨h2, h4⟩
  · simp only [exC, List.mem_cons, List.not_mem_nil, or_false] at hx
    rcases hx with rfl | rfl
    · exact ⟨h2, h4⟩
    · exact ⟨h1, h3⟩

theorem ex1 : hasP exA tx.data.toList = true ∧ addP exA ⟨tx, t2⟩ = exA := by
  have h : hasP exA tx.data.toList = true := by decide
  refine ⟨h, ?_⟩
  unfold addP
  rw [if_pos h]
theorem ex2 : hasP exA ty.data.toList = false ∧ addP exA ⟨ty, t2⟩ = exB := by
  have h : hasP exA ty.data.toList = false := by decide
  refine ⟨h, ?_⟩
  unfold addP
  rw [if_neg (by rw [h]; decide)]
  rfl
theorem ex3 : getP exB ty.data.toList = some ⟨ty, t2⟩ := rfl
theorem ex4 : sameP exB exC = true ∧ sameP exB exA = false := by decide

theorem at_two (w : World) (x y : At) : AtRow (w.alloc (.cells #[.string x.n, .string x.v, .string y.n, .string y.v] 24)) (some ⟨w.heap.size, 0, none⟩) [x, y] := fun i z hz => by
  have hnew := heap_alloc_new w (.cells #[.string x.n, .string x.v, .string y.n, .string y.v] 24)
  obtain ⟨W, hW⟩ : ∃ W, w.alloc (.cells #[.string x.n, .string x.v, .string y.n, .string y.v] 24) = W := ⟨_, rfl⟩
  rw [hW] at hnew ⊢
  match i, hz with
  | 0, hz =>
    simp at hz
    subst hz
    exact ⟨_, _, rfl, (Array.getElem?_eq_some_iff.1 hnew).1, by simp [World.cell?, hnew], by simp [World.cell?, hnew]⟩
  | 1, hz =>
    simp at hz
    subst hz
    exact ⟨_, _, rfl, (Array.getElem?_eq_some_iff.1 hnew).1, by simp [World.cell?, hnew], by simp [World.cell?, hnew]⟩

set_option maxHeartbeats 2000000 in
theorem awake_any (w : World) : Calls Try.prog 9 #[] w fun e w' => e = .returned (.bool true) ∧ Below w.heap.size w w' := by
  obtain ⟨V, hV⟩ : ∃ V, w.alloc (.cells #[.string tx, .string t1] 24) = V := ⟨_, rfl⟩
  have hrow := at_one w ⟨tx, t1⟩
  simp only at hrow
  rw [hV] at hrow
  have bV : Below w.heap.size w V := by rw [← hV]; exact (Below.refl _ _).alloc (Nat.le_refl _) _
  have k1 := add_any (L := exA) 1 1 tx t2 hrow rfl (by omega)
  rw [ex1.1, ex1.2] at k1
  have HV : Hid (Below w.heap.size w V) := bV
  clear hrow bV
  simp only [tx, t1, t2] at k1 hV
  go_enter Try.func9, Try.ntmps9
  go_wp2_with fail
  refine k1.mono ?_
  rintro e w1 ⟨v1, rfl, r1, b1⟩
  clear k1 hV
  obtain ⟨ao, c1, rfl, a1, _, _⟩ := row_at r1
  have k2 := add_any (L := exA) 1 c1 ty t2 a1 rfl (by omega)
  rw [ex2.1, ex2.2] at k2
  have H1 : Hid (AtRow w1 ao exA ∧ Below w.heap.size w w1) := ⟨a1, HV.out.trans (b1.mono HV.out.size)⟩
  clear a1 b1 r1
  have e1 : exA.length = 1 := rfl
  rw [e1]
  simp only [ty, t2] at k2
  clear e1
  go_wp2_with fail
  refine k2.mono ?_
  rintro e w2 ⟨v2, rfl, r2, b2⟩
  clear k2
  obtain ⟨bo, c2, rfl, a2, _, _⟩ := row_at r2
  have k3 := get_any 2 c2 ty a2 rfl (by omega)
  rw [ex3] at k3
  have H2 : Hid (AtRow w2 ao exA ∧ AtRow w2 bo exB ∧ Below w.heap.size w w2) := ⟨H1.out.1.below b2, a2, H1.out.2.trans (b2.mono H1.out.2.size)⟩
  clear a2 b2 r2
  have e1 : exB.length = 2 := rfl
  rw [e1]
  simp only [gv, ty, t2, Option.isSome_some] at k3
  clear e1
  go_wp2_with fail
  refine k3.mono ?_
  rintro e w3 ⟨rfl, b3⟩
  clear k3
  obtain ⟨U, hU⟩ : ∃ U, w3.alloc (.cells #[.string ty, .string t2, .string tx, .string t1] 24) = U := ⟨_, rfl⟩
  have hrow := at_two w3 ⟨ty, t2⟩ ⟨tx, t1⟩
  simp only at hrow
  rw [hU] at hrow
  have bU : Below w3.heap.size w3 U := by rw [← hU]; exact (Below.refl _ _).alloc (Nat.le_refl _) _
  have b3' : Below w2.heap.size w2 U := b3.trans (bU.mono b3.size)
  have k4 := same_any (A := exB) (B := exC) 2 2 c2 2 (H2.out.2.1.below b3') hrow rfl rfl (by omega) (by omega) fine_ex.2.1 fine_ex.2.2
  rw [ex4.1] at k4
  have H3 : Hid (AtRow U ao exA ∧ AtRow U bo exB ∧ Below w.heap.size w U) := ⟨H2.out.1.below b3', H2.out.2.1.below b3', H2.out.2.2.trans (b3'.mono H2.out.2.2.size)⟩
  clear hrow bU b3 b3'
  simp only [tx, t1, ty, t2] at hU
  go_wp2_with fail
  refine k4.mono ?_
  rintro e w4 ⟨rfl, b4⟩
  clear k4 hU
  have k5 := same_any (A := exB) (B := exA) 2 1 c2 c1 (H3.out.2.1.below b4) (H3.out.1.below b4) rfl rfl (by omega) (by omega) fine_ex.2.1 fine_ex.1
  rw [ex4.2] at k5
  have H4 : Hid (Below w.heap.size w w4) := H3.out.2.2.trans (b4.mono H3.out.2.2.size)
  clear b4
  go_wp2_with fail
  refine k5.mono ?_
  rintro e w5 ⟨rfl, b5⟩
  have H5 : Hid (Below w.heap.size w w5) := H4.out.trans (b5.mono H4.out.size)
  clear k5 b5
  go_wp2_with fail
  go_ret
  exact ⟨rfl, H5.out⟩
end Go.Proofs.Ytibndgembpcdgaa
