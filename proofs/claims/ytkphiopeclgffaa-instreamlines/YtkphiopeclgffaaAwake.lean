/- The law's own look at chapter 4's examples is true. -/
import Derived.Test.YtkphiopeclgffaaScop
namespace Go.Proofs.Ytkphiopeclgffaa
open Go.RowKit

theorem chars_as {w : World} (s : ByteArray) (cs : List Ch) (fs : List (Int × Int)) (n m : Nat) (hs : s.size ≤ 50000) (hc : outc s.data.toList = cs) (hf : fcs 0 (items s.data.toList) = fs) (hn : cs.length = n) (hm : fs.length = m) :
    Calls Try.prog 8 #[.string s] w fun e w' => ∃ ca cc fa fc, e = .returned (.tuple #[.slice ca n cc, .slice fa m fc]) ∧ n ≤ cc ∧ cc ≤ maxLen ∧ Chars w.heap.size (.slice ca n cc) cs w' ∧ FaultsC w.heap.size (.slice fa m fc) fs w' ∧ Below w.heap.size w w' := by
  subst hn; subst hm; subst hc; subst hf
  refine (chars_any s hs).mono ?_
  rintro e w' ⟨ca, cn, cc, fa, fn, fc, rfl, h1, h2, h3⟩
  obtain ⟨ao, c, e1, l1, l2⟩ := own_form h1
  obtain ⟨ao2, c2, e2, _, _⟩ := own_form h2
  simp only [Value.slice.injEq] at e1 e2
  obtain ⟨rfl, rfl, rfl⟩ := e1
  obtain ⟨rfl, rfl, rfl⟩ := e2
  exact ⟨_, _, _, _, rfl, l1, l2, h1, h2, h3⟩

theorem ch_of {B n cc : Nat} {ca : Option Addr} {l : List Ch} {w : World} (h : Chars B (.slice ca n cc) l w) (hn : l.length = n) (h0 : 0 < n) (k : Nat) (x : Ch) (hk : l[k]? = some x) : ∃ g, ca = some ⟨g, 0, none⟩ ∧ g < w.heap.size ∧ w.cell? ⟨g, k * 3, none⟩ = some (.int .i64 x.r) ∧ w.cell? ⟨g, k * 3 + 1, none⟩ = some (.int .i64 x.a) ∧ w.cell? ⟨g, k * 3 + 2, none⟩ = some (.int .i64 x.z) := by
  subst hn
  obtain ⟨g, cap, hv, _, _, hg, hc⟩ := row_cells h h0
  simp only [Value.slice.injEq] at hv
  obtain ⟨rfl, _, _⟩ := hv
  obtain ⟨q0, q1, q2⟩ := ch_at l k x hk
  exact ⟨g, rfl, hg, hc _ _ q0, hc _ _ q1, hc _ _ q2⟩
theorem fl_of {B n cc : Nat} {ca : Option Addr} {l : List (Int × Int)} {w : World} (h : FaultsC B (.slice ca n cc) l w) (hn : l.length = n) (h0 : 0 < n) (k : Nat) (x : Int × Int) (hk : l[k]? = some x) : ∃ g, ca = some ⟨g, 0, none⟩ ∧ g < w.heap.size ∧ w.cell? ⟨g, k * 2, none⟩ = some (.int .i64 x.1) ∧ w.cell? ⟨g, k * 2 + 1, none⟩ = some (.int .i64 x.2) := by
  subst hn
  obtain ⟨g, cap, hv, _, _, hg, hc⟩ := row_cells h h0
  simp only [Value.slice.injEq] at hv
  obtain ⟨rfl, _, _⟩ := hv
  obtain ⟨q0, q1⟩ := gl_at l k x hk
  exact ⟨g, rfl, hg, hc _ _ q0, hc _ _ q1⟩

set_option maxHeartbeats 2000000 in
set_option maxRecDepth 10000 in
theorem awake_any (w : World) : Calls Try.prog 7 #[] w fun e w' => e = .returned (.bool true) ∧ Below w.heap.size w w' := by
  go_enter Try.func7, Try.ntmps7
  go_wp2_with fail
  refine (chars_as ⟨#[97, 13, 10, 98]⟩ [⟨97, 0, 1⟩, ⟨10, 1, 3⟩, ⟨98, 3, 4⟩] [] 3 0 (by decide) rfl rfl rfl rfl).mono ?_
  rintro e w1 ⟨ca1, cc1, fa1, fc1, rfl, l1, m1, c1, f1, b1⟩
  obtain ⟨g1, rfl, hg1, d10, d11, d12⟩ := ch_of c1 rfl (by decide) 1 _ rfl
  simp only [Nat.reduceMul, Nat.reduceAdd] at d10 d11 d12
  have C1 := b1
  clear c1 f1 b1
  go_wp2_with fail
  refine (chars_as ⟨#[0]⟩ [⟨65533, 0, 1⟩] [(2, 0)] 1 1 (by decide) rfl rfl rfl rfl).mono ?_
  rintro e w2 ⟨ca2, cc2, fa2, fc2, rfl, l2, m2, c2, f2, b2⟩
  obtain ⟨g2, rfl, hg2, d20, d21, d22⟩ := ch_of c2 rfl (by decide) 0 _ rfl
  obtain ⟨k2, rfl, hk2, i20, i21⟩ := fl_of f2 rfl (by decide) 0 _ rfl
  simp only [Nat.zero_mul, Nat.zero_add] at d20 d21 d22 i20 i21
  have z1 := C1.size
  have C2 := C1.trans (b2.mono z1)
  have e10 := (b2.cell (p := ⟨g1, 3, none⟩) hg1).trans d10
  have e11 := (b2.cell (p := ⟨g1, 4, none⟩) hg1).trans d11
  have e12 := (b2.cell (p := ⟨g1, 5, none⟩) hg1).trans d12
  have hg12 : g1 < w2.heap.size := Nat.lt_of_lt_of_le hg1 b2.size
  clear c2 f2 b2 d10 d11 d12
  go_wp2_with fail
  refine (chars_as ⟨#[13, 13]⟩ [⟨10, 0, 1⟩, ⟨10, 1, 2⟩] [] 2 0 (by decide) rfl rfl rfl rfl).mono ?_
  rintro e w3 ⟨ca3, cc3, fa3, fc3, rfl, l3, m3, c3, f3, b3⟩
  have z2 := C2.size
  have C3 := C2.trans (b3.mono z2)
  have h10 := (b3.cell (p := ⟨g1, 3, none⟩) hg12).trans e10
  have h11 := (b3.cell (p := ⟨g1, 4, none⟩) hg12).trans e11
  have h12 := (b3.cell (p := ⟨g1, 5, none⟩) hg12).trans e12
  have h20 := (b3.cell (p := ⟨g2, 0, none⟩) hg2).trans d20
  have h21 := (b3.cell (p := ⟨g2, 1, none⟩) hg2).trans d21
  have h22 := (b3.cell (p := ⟨g2, 2, none⟩) hg2).trans d22
  have j20 := (b3.cell (p := ⟨k2, 0, none⟩) hk2).trans i20
  have j21 := (b3.cell (p := ⟨k2, 1, none⟩) hk2).trans i21
  have hg13 : g1 < w3.heap.size := Nat.lt_of_lt_of_le hg12 b3.size
  have hg23 : g2 < w3.heap.size := Nat.lt_of_lt_of_le hg2 b3.size
  have hk23 : k2 < w3.heap.size := Nat.lt_of_lt_of_le hk2 b3.size
  clear c3 f3 b3 e10 e11 e12 d20 d21 d22 i20 i21
  go_wp2_with fail
  go_ret
  exact ⟨rfl, C3⟩
end Go.Proofs.Ytkphiopeclgffaa
