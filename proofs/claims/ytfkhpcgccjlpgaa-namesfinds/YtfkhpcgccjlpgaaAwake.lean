/- The law's own look at chapter 5's examples is true. -/
import Derived.Test.YtfkhpcgccjlpgaaRefs
namespace Go.Proofs.Ytfkhpcgccjlpgaa
open Go.RowKit Go.Maps

theorem rf_at (l : List Rf) (i : Nat) (x : Rf) (h : l[i]? = some x) : (l.flatMap Rf.cells)[i * 2]? = some (.string x.n) ∧ (l.flatMap Rf.cells)[i * 2 + 1]? = some (.int .i64 x.r) := by
  induction l generalizing i with
  | nil => simp at h
  | cons y l ih =>
    rw [List.flatMap_cons]
    cases i with
    | zero => simp at h; subst h; exact ⟨rfl, rfl⟩
    | succ i =>
      have := ih i (by simpa using h)
      rw [show (i + 1) * 2 = i * 2 + 1 + 1 by omega, show i * 2 + 1 + 1 + 1 = (i * 2 + 1) + 1 + 1 by omega]
      simp only [Rf.cells, List.cons_append, List.nil_append, List.getElem?_cons_succ]
      exact this

theorem refs_any (w : World) : Calls Try.prog 19 #[] w fun e w' => e = .returned (.slice (some ⟨w.heap.size, 0, none⟩) 78 78) ∧ RefRow w' (some ⟨w.heap.size, 0, none⟩) refs ∧ Below w.heap.size w w' ∧ w'.heap.size = w.heap.size + 1 := by
  refine (refs_walk w).mono ?_
  rintro e w' ⟨rfl, rfl⟩
  obtain ⟨L, hL⟩ : ∃ L, L = refs := ⟨_, rfl⟩
  rw [← hL]
  clear hL
  refine ⟨rfl, fun i x hx => ?_, (Below.refl _ _).alloc (Nat.le_refl _) _, by simp⟩
  have e := heap_alloc_new w (.cells (L.flatMap Rf.cells).toArray 36)
  obtain ⟨W, hW⟩ : ∃ W, W = w.alloc (.cells (L.flatMap Rf.cells).toArray 36) := ⟨_, rfl⟩
  rw [← hW] at e ⊢
  obtain ⟨h1, h2⟩ := rf_at L i x hx
  refine ⟨w.heap.size, 0, rfl, by rw [hW]; simp, ?_, ?_⟩
  · simp [World.cell?, e, h1]
  · simp [World.cell?, e, h2]

def plainB (c : UInt8) : Bool := decide (48 ≤ c.toNat ∧ c.toNat ≤ 57) || decide (65 ≤ c.toNat ∧ c.toNat ≤ 90) || decide (97 ≤ c.toNat ∧ c.toNat ≤ 122) || c == 59

/-- What is asked of api's names. -/
structure Api (L : List Rf) : Prop where
  refs : ∀ w, Calls Try.prog 19 #[] w fun e w' => e = .returned (.slice (some ⟨w.heap.size, 0, none⟩) 78 78) ∧ RefRow w' (some ⟨w.heap.size, 0, none⟩) L ∧ Below w.heap.size w w' ∧ w'.heap.size = w.heap.size + 1
  len : L.length = 78
  ba : best L [110, 111, 116, 105, 116] 5 = (172, 3)
  bb : best L [110, 111, 116, 105, 110, 59, 120] 7 = (8713, 6)
  ga : goes L [110, 111, 116, 105] = true
  gb : goes L [110, 111, 116, 120] = false
  cn : cnt [] L = 78
  small : ∀ x ∈ L, x.n.size ≤ 8 ∧ 0 < x.n.size
  plain : ∀ x ∈ L, ∀ c ∈ x.nm, plainB c = true
  once : ∀ x ∈ L, val L x.nm = some x.r

theorem api_refs : Api refs where
  refs := refs_any
  len := refs_len
  ba := by decide +kernel
  bb := by decide +kernel
  ga := by decide +kernel
  gb := by decide +kernel
  cn := by decide +kernel
  small := by decide +kernel
  plain := by decide +kernel
  once := by decide +kernel

theorem Api.new {L : List Rf} (A : Api L) {w : World} {b : Nat} (h : RefRow w (some ⟨b, 0, none⟩) L) : Calls Try.prog 10 #[.slice (some ⟨b, 0, none⟩) 78 78] w fun e w' => ∃ t, e = .returned (.pointer (some ⟨t, 0, none⟩)) ∧ TrieIs w' w.heap.size t L ∧ Below w.heap.size w w' :=
  new_any 78 78 h A.len (by decide)

set_option maxHeartbeats 2000000 in
set_option maxRecDepth 10000 in
theorem awake_any (w : World) : Calls Try.prog 9 #[] w fun e w' => e = .returned (.bool true) ∧ Below w.heap.size w w' := by
  obtain ⟨L, A0⟩ : ∃ L, Api L := ⟨refs, api_refs⟩
  have A : Hid (Api L) := A0
  clear A0
  go_enter Try.func9, Try.ntmps9
  go_wp2_with fail
  refine (A.out.refs _).mono ?_
  rintro e w1 ⟨rfl, hr, b1, z1⟩
  have H1 : Hid (RefRow w1 (some ⟨w.heap.size, 0, none⟩) L ∧ Below w.heap.size w w1) := ⟨hr, b1⟩
  clear hr b1
  go_wp2_with fail
  refine (A.out.new H1.out.1).mono ?_
  rintro e w2 ⟨t, rfl, T, b2⟩
  have H2 : Hid (TrieIs w2 w1.heap.size t L ∧ Below w.heap.size w w2) := ⟨T, H1.out.2.trans (b2.mono H1.out.2.size)⟩
  clear T b2 H1
  go_wp2_with fail
  refine (longest_any H2.out.1 ⟨#[110, 111, 116, 105, 116]⟩ (by decide)).mono ?_
  rintro e w3 ⟨rfl, b3⟩
  rw [show best L (ByteArray.mk #[110, 111, 116, 105, 116]).data.toList (ByteArray.mk #[110, 111, 116, 105, 116]).size = (172, 3) from A.out.ba]
  have H3 : Hid (TrieIs w3 w1.heap.size t L ∧ Below w.heap.size w w3) := ⟨H2.out.1.below b3, H2.out.2.trans (b3.mono H2.out.2.size)⟩
  clear b3 H2
  go_wp2_with fail
  refine (longest_any H3.out.1 ⟨#[110, 111, 116, 105, 110, 59, 120]⟩ (by decide)).mono ?_
  rintro e w4 ⟨rfl, b4⟩
  rw [show best L (ByteArray.mk #[110, 111, 116, 105, 110, 59, 120]).data.toList (ByteArray.mk #[110, 111, 116, 105, 110, 59, 120]).size = (8713, 6) from A.out.bb]
  have H4 : Hid (TrieIs w4 w1.heap.size t L ∧ Below w.heap.size w w4) := ⟨H3.out.1.below b4, H3.out.2.trans (b4.mono H3.out.2.size)⟩
  clear b4 H3
  go_wp2_with fail
  refine (goes_any H4.out.1 ⟨#[110, 111, 116, 105]⟩ (by decide)).mono ?_
  rintro e w5 ⟨rfl, b5⟩
  rw [show goes L (ByteArray.mk #[110, 111, 116, 105]).data.toList = true from A.out.ga]
  have H5 : Hid (TrieIs w5 w1.heap.size t L ∧ Below w.heap.size w w5) := ⟨H4.out.1.below b5, H4.out.2.trans (b5.mono H4.out.2.size)⟩
  clear b5 H4
  go_wp2_with fail
  refine (goes_any H5.out.1 ⟨#[110, 111, 116, 120]⟩ (by decide)).mono ?_
  rintro e w6 ⟨rfl, b6⟩
  rw [show goes L (ByteArray.mk #[110, 111, 116, 120]).data.toList = false from A.out.gb]
  have H6 : Hid (TrieIs w6 w1.heap.size t L ∧ Below w.heap.size w w6) := ⟨H5.out.1.below b6, H5.out.2.trans (b6.mono H5.out.2.size)⟩
  clear b6 H5
  go_wp2_with fail
  refine (count_any H6.out.1).mono ?_
  rintro e w7 ⟨rfl, rfl⟩
  rw [A.out.cn]
  go_wp2_with fail
  refine (A.out.refs _).mono ?_
  rintro e w8 ⟨rfl, _, b8, _⟩
  have H8 : Hid (Below w.heap.size w w8) := H6.out.2.trans (b8.mono H6.out.2.size)
  clear b8 H6
  go_wp2_with fail
  go_ret
  exact ⟨rfl, H8.out⟩
end Go.Proofs.Ytfkhpcgccjlpgaa
