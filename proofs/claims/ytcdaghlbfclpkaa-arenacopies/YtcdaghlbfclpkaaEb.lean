/- Whether there are few deeds: size. -/
import Derived.Test.YtcdaghlbfclpkaaBf
namespace Go.Proofs.Ytcdaghlbfclpkaa
open Go.RowKit

set_option maxHeartbeats 2000000 in
theorem size_any {w : World} {lo : Option Addr} {len cap : Nat} {l : List Dd} (hl : Dds w lo len cap l) (hm : len ≤ 9223372036854775807) (hs : ∀ (i : Nat) (T : Dd), l[i]? = some T → T.d.name.size ≤ 2000000000000000000 ∧ T.d.text.size ≤ 2000000000000000000 ∧ T.d.al.length ≤ 2000000000000000000) :
    Calls Try.prog 10 #[.slice lo len cap] w fun e w' => ∃ r, e = .returned (.bool r) ∧ Below w.heap.size w w' ∧ (r = true → ∀ (i : Nat) (T : Dd), l[i]? = some T → T.d.al.length < 5000) := by
  have HL : Hid (Dds w lo len cap l ∧ l.length = len ∧ (∀ (i : Nat) (T : Dd), l[i]? = some T → T.d.name.size ≤ 2000000000000000000 ∧ T.d.text.size ≤ 2000000000000000000 ∧ T.d.al.length ≤ 2000000000000000000)) := ⟨hl, hl.hlen, hs⟩
  clear hl hs
  go_enter Try.func10, Try.ntmps10
  go_wp2_with fail
  go_loopg [3, 4] len (fun g2 nv iv wr => ∃ (i q m : Nat), nv = .int .i64 m ∧ iv = .int .i64 i ∧ i + g2 = len ∧ m ≤ 7000000000000000000 ∧ (∀ (j : Nat) (T : Dd), j < i → l[j]? = some T → T.d.al.length ≤ m) ∧ wr = w.drewN q)
  case atStart => exact ⟨0, 0, 0, rfl, rfl, by omega, by omega, fun j T h => by omega, rfl⟩
  case round =>
    obtain ⟨i, q, m, rfl, rfl, hig, hm7, hall, rfl⟩ := hrel
    have HG : Hid (∀ (j : Nat) (T : Dd), j < i → l[j]? = some T → T.d.al.length ≤ m) := hall
    clear hall
    cases gk with
    | zero =>
      obtain rfl : i = len := by omega
      have hg0 : decide ((i : Int) < (i : Int)) = false := decide_eq_false (by omega)
      go_wp2_with fail
      go_ret
      refine ⟨_, rfl, below_drewN (Below.refl _ _) _, fun h j T hj => ?_⟩
      have := HG.out j T (by rw [← HL.out.2.1]; exact (List.getElem?_eq_some_iff.1 hj).1) hj
      have : (m : Int) < 5000 := of_decide_eq_true h
      omega
    | succ k =>
      have hin : i < len := by omega
      have g1 : decide ((i : Int) < (len : Int)) = true := decide_eq_true (by omega)
      by_cases hm5 : m < 5000
      · have g2 : decide ((m : Int) < 5000) = true := decide_eq_true (by omega)
        obtain ⟨T, hT⟩ : ∃ T, l[i]? = some T := ⟨_, List.getElem?_eq_getElem (by rw [HL.out.2.1]; exact hin)⟩
        obtain ⟨b, off, rfl, hb, hc, _⟩ := HL.out.1.row i T hT
        obtain ⟨z1, z2, z3⟩ := HL.out.2.2 i T hT
        have c7 : w.cell? ⟨b, off + i * 15 + 7, none⟩ = some (.string T.d.name) := hc 7 _ rfl
        have c8 : w.cell? ⟨b, off + i * 15 + 8, none⟩ = some (.string T.d.text) := hc 8 _ rfl
        have c9 : w.cell? ⟨b, off + i * 15 + 9, none⟩ = some (.slice T.ao T.d.al.length T.ac) := hc 9 _ rfl
        have HT : Hid (l[i]? = some T) := hT
        clear hc hT
        go_wp2_with fail
        go_quiet (fail)
        go_wp2_with fail
        go_roundg k
        case measure => omega
        case rel =>
          refine ⟨i + 1, _, m + (1 + T.d.al.length + T.d.text.size + T.d.name.size), by simp, by go_num, by omega, by omega, fun j U hj hU => ?_, rfl⟩
          rcases Nat.lt_succ_iff_lt_or_eq.1 hj with h | rfl
          · have := HG.out j U h hU
            omega
          · obtain rfl : U = T := Option.some.inj (hU.symm.trans HT.out)
            omega
      · have g2 : decide ((m : Int) < 5000) = false := decide_eq_false (by omega)
        go_wp2_with fail
        go_ret
        exact ⟨_, rfl, below_drewN (Below.refl _ _) _, fun h => by simp at h⟩
end Go.Proofs.Ytcdaghlbfclpkaa
