/- refs: two rows of the same names are told the same; few. -/
import Derived.Test.YtfkhpcgccjlpgaaPu
import Derived.Test.YtfkhpcgccjlpgaaBase
namespace Go.Proofs.Ytfkhpcgccjlpgaa
open Go.RowKit

theorem row_ref {w : World} {B : Nat} {v : Value} {L : List Rf} (h : RowIs w B v L) : ∃ ao cap, v = .slice ao L.length cap ∧ RefRow w ao L ∧ L.length ≤ cap ∧ cap ≤ maxLen := by
  rcases h.2 with ⟨rfl, h0⟩ | ⟨g, cap, cur, rfl, hB, hg, h1, h2, h3, h4⟩
  · have : L = [] := List.eq_nil_of_length_eq_zero h0
    subst this
    exact ⟨none, 0, rfl, fun i x hx => by simp at hx, Nat.le_refl _, by unfold maxLen; omega⟩
  · refine ⟨_, cap, rfl, fun i x hx => ?_, h1, h2⟩
    have hil := (List.getElem?_eq_some_iff.1 hx).1
    obtain ⟨q1, q2⟩ := rf_at L i x hx
    rw [← h4, List.getElem?_take_of_lt (by omega), Array.getElem?_toList] at q1 q2
    refine ⟨g, 0, rfl, (Array.getElem?_eq_some_iff.1 hg).1, ?_, ?_⟩
    · simp [World.cell?, hg, q1]
    · simp [World.cell?, hg, q2]

set_option maxHeartbeats 1000000 in
theorem refs_same {w : World} {ao bo : Option Addr} {L : List Rf} (n ca cb : Nat) (ha : RefRow w ao L) (hb : RefRow w bo L) (hn : L.length = n) (hn2 : n ≤ 100000) :
    Calls Try.prog 17 #[.slice ao n ca, .slice bo n cb] w fun e w' => e = .returned (.bool true) ∧ Below w.heap.size w w' := by
  have HA : Hid (RefRow w ao L ∧ RefRow w bo L ∧ L.length = n) := ⟨ha, hb, hn⟩
  clear ha hb hn
  go_enter Try.func17, Try.ntmps17
  go_wp2_with fail
  go_loopw [5] (fun iv wr => ∃ (i q : Nat), iv = .int .i64 i ∧ i ≤ n ∧ wr = w.drewN q) (fun iv _ => n - (intOf iv).toNat)
  case atStart => exact ⟨0, 0, rfl, Nat.zero_le _, rfl⟩
  case round =>
    obtain ⟨i, q, rfl, hi, rfl⟩ := hrel
    by_cases hin : i < n
    · have hil : i < L.length := by rw [HA.out.2.2]; exact hin
      obtain ⟨x, hx⟩ : ∃ x, L[i]? = some x := ⟨_, List.getElem?_eq_getElem hil⟩
      obtain ⟨b1, o1, rfl, h1, c1, c2⟩ := HA.out.1 i x hx
      obtain ⟨b2, o2, rfl, h2, c3, c4⟩ := HA.out.2.1 i x hx
      obtain ⟨nm, r⟩ := x
      simp only at c1 c2 c3 c4
      clear hx hil
      go_wp2_with fail
      go_quiet (fail)
      go_wp2_with fail
      exact ⟨⟨i + 1, _, by go_num, by omega, rfl⟩, by simp [intOf]; omega⟩
    · have hg : decide ((i : Int) < (n : Int)) = false := decide_eq_false (by omega)
      go_wp2_with fail
      go_ret
      exact ⟨rfl, below_drewN (Below.refl _ _) _⟩

set_option maxHeartbeats 400000 in
theorem few_any (ao : Option Addr) (n cap : Nat) (s : ByteArray) (w : World) : Calls Try.prog 8 #[.slice ao n cap, .string s] w fun e w' => e = .returned (.bool (decide (n ≤ 300 ∧ s.size ≤ 2000))) ∧ w' = w := by
  by_cases h1 : n ≤ 300
  · by_cases h2 : s.size ≤ 2000
    · go_enter Try.func8, Try.ntmps8
      go_wp2_with fail
      go_ret
      refine ⟨?_, rfl⟩
      simp [h1, h2]
      try omega
    · go_enter Try.func8, Try.ntmps8
      go_wp2_with fail
      go_ret
      refine ⟨?_, rfl⟩
      simp [h1, h2]
      try omega
  · go_enter Try.func8, Try.ntmps8
    go_wp2_with fail
    go_ret
    refine ⟨?_, rfl⟩
    simp
    try omega
end Go.Proofs.Ytfkhpcgccjlpgaa
