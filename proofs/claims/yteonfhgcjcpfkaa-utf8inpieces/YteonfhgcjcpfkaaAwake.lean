/- The law's own look at chapter 3's examples is true. -/
import Derived.Test.YteonfhgcjcpfkaaEnc
import Derived.Test.YteonfhgcjcpfkaaSame
namespace Go.Proofs.Yteonfhgcjcpfkaa
open Go.RowKit

theorem decode_as {w : World} (s : ByteArray) (cs : List Ch) (fs : List Int) (n m : Nat) (hs : s.size ≤ 100000) (hc : chs 0 (items s.data.toList) = cs) (hf : fls 0 (items s.data.toList) = fs) (hn : cs.length = n) (hm : fs.length = m) :
    Calls Try.prog 9 #[.string s] w fun e w' => ∃ ca cc fa fc, e = .returned (.tuple #[.slice ca n cc, .slice fa m fc]) ∧ n ≤ cc ∧ cc ≤ maxLen ∧ Chars w.heap.size (.slice ca n cc) cs w' ∧ Faults w.heap.size (.slice fa m fc) fs w' ∧ Below w.heap.size w w' := by
  subst hn; subst hm; subst hc; subst hf
  refine (decode_any s hs).mono ?_
  rintro e w' ⟨ca, cn, cc, fa, fn, fc, rfl, h1, h2, h3⟩
  obtain ⟨ao, c, e1, l1, l2⟩ := own_form h1
  obtain ⟨ao2, c2, e2, _, _⟩ := own_form h2
  simp only [Value.slice.injEq] at e1 e2
  obtain ⟨rfl, rfl, rfl⟩ := e1
  obtain ⟨rfl, rfl, rfl⟩ := e2
  exact ⟨_, _, _, _, rfl, l1, l2, h1, h2, h3⟩

theorem first_ch {B n cc : Nat} {ca : Option Addr} {x : Ch} {l : List Ch} {w : World} (h : Chars B (.slice ca n cc) (x :: l) w) (hn : (x :: l).length = n) : ∃ g, ca = some ⟨g, 0, none⟩ ∧ g < w.heap.size ∧ w.cell? ⟨g, 0, none⟩ = some (.int .i64 x.r) ∧ w.cell? ⟨g, 1, none⟩ = some (.int .i64 x.a) ∧ w.cell? ⟨g, 2, none⟩ = some (.int .i64 x.z) := by
  subst hn
  obtain ⟨g, cap, hv, _, _, hg, hc⟩ := row_cells h (by simp)
  simp only [Value.slice.injEq] at hv
  obtain ⟨rfl, _, _⟩ := hv
  obtain ⟨q0, q1, q2⟩ := ch_at (x :: l) 0 x rfl
  exact ⟨g, rfl, hg, hc _ _ q0, hc _ _ q1, hc _ _ q2⟩

set_option maxHeartbeats 2000000 in
set_option maxRecDepth 10000 in
theorem awake_any (w : World) : Calls Try.prog 8 #[] w fun e w' => e = .returned (.bool true) ∧ Below w.heap.size w w' := by
  have x1 : Utf8.encode (chr 8364) = ⟨#[226, 130, 172]⟩ := by decide +kernel
  have x2 : Utf8.encode (chr 55296) = ⟨#[239, 191, 189]⟩ := by decide +kernel
  go_enter Try.func8, Try.ntmps8
  go_wp2_with fail
  refine (decode_as ⟨#[195, 169]⟩ [⟨233, 0, 2⟩] [] 1 0 (by decide) rfl rfl rfl rfl).mono ?_
  rintro e w1 ⟨ca1, cc1, fa1, fc1, rfl, l1, m1, c1, f1, b1⟩
  obtain ⟨g1, rfl, hg1, d10, d11, d12⟩ := first_ch c1 rfl
  have C1 := b1
  clear c1 f1 b1
  go_wp2_with fail
  refine (decode_as ⟨#[226, 130, 65]⟩ [⟨65533, 0, 2⟩, ⟨65, 2, 3⟩] [0] 2 1 (by decide) rfl rfl rfl rfl).mono ?_
  rintro e w2 ⟨ca2, cc2, fa2, fc2, rfl, l2, m2, c2, f2, b2⟩
  obtain ⟨g2, rfl, hg2, d20, d21, d22⟩ := first_ch c2 rfl
  have z1 := C1.size
  have C2 := C1.trans (b2.mono z1)
  have e10 := (b2.cell (p := ⟨g1, 0, none⟩) hg1).trans d10
  have e11 := (b2.cell (p := ⟨g1, 1, none⟩) hg1).trans d11
  have e12 := (b2.cell (p := ⟨g1, 2, none⟩) hg1).trans d12
  have hg12 : g1 < w2.heap.size := Nat.lt_of_lt_of_le hg1 b2.size
  clear c2 f2 b2 d10 d11 d12
  go_wp2_with fail
  refine (decode_as ⟨#[192, 128]⟩ [⟨65533, 0, 1⟩, ⟨65533, 1, 2⟩] [0, 1] 2 2 (by decide) rfl rfl rfl rfl).mono ?_
  rintro e w3 ⟨ca3, cc3, fa3, fc3, rfl, l3, m3, c3, f3, b3⟩
  have z2 := C2.size
  have C3 := C2.trans (b3.mono z2)
  have h10 := (b3.cell (p := ⟨g1, 0, none⟩) hg12).trans e10
  have h11 := (b3.cell (p := ⟨g1, 1, none⟩) hg12).trans e11
  have h12 := (b3.cell (p := ⟨g1, 2, none⟩) hg12).trans e12
  have h20 := (b3.cell (p := ⟨g2, 0, none⟩) hg2).trans d20
  have h21 := (b3.cell (p := ⟨g2, 1, none⟩) hg2).trans d21
  have h22 := (b3.cell (p := ⟨g2, 2, none⟩) hg2).trans d22
  have hg13 : g1 < w3.heap.size := Nat.lt_of_lt_of_le hg12 b3.size
  have hg23 : g2 < w3.heap.size := Nat.lt_of_lt_of_le hg2 b3.size
  clear c3 f3 b3 e10 e11 e12 d20 d21 d22
  go_wp2_with fail
  refine (decode_as ⟨#[240, 159, 152]⟩ [⟨65533, 0, 3⟩] [0] 1 1 (by decide) rfl rfl rfl rfl).mono ?_
  rintro e w4 ⟨ca4, cc4, fa4, fc4, rfl, l4, m4, c4, f4, b4⟩
  have z3 := C3.size
  have C4 := C3.trans (b4.mono z3)
  have k10 := (b4.cell (p := ⟨g1, 0, none⟩) hg13).trans h10
  have k11 := (b4.cell (p := ⟨g1, 1, none⟩) hg13).trans h11
  have k12 := (b4.cell (p := ⟨g1, 2, none⟩) hg13).trans h12
  have k20 := (b4.cell (p := ⟨g2, 0, none⟩) hg23).trans h20
  have k21 := (b4.cell (p := ⟨g2, 1, none⟩) hg23).trans h21
  have k22 := (b4.cell (p := ⟨g2, 2, none⟩) hg23).trans h22
  clear c4 f4 b4 h10 h11 h12 h20 h21 h22
  go_wp2_with (go_at_call 13; refine (enc_any _ _).mono ?_; rintro e w' ⟨rfl, rfl⟩; first | rw [x1] | rw [x2])
  go_ret
  exact ⟨rfl, C4⟩
end Go.Proofs.Yteonfhgcjcpfkaa
