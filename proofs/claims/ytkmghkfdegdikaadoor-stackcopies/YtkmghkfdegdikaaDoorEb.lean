/- Whether there are few deeds. -/
import Derived.Test.YtkmghkfdegdikaaDoorEa
namespace Go.Proofs.YtkmghkfdegdikaaDoor
open Go.ChangeShapes Go.WideShapes Go.ChangeAt Go.RowKit Go.Joins

set_option maxHeartbeats 1000000 in
set_option maxRecDepth 20000 in
theorem few_any {w : World} (lo : Option Addr) (len cap : Nat) (L : List Dd) (hL : DdsIn w lo len L) : Calls Tryd.prog 9 #[.slice lo len cap] w fun e w' => ∃ b, e = .returned (.bool b) ∧ Below w.heap.size w w' := by
  have hfit := hL.fit
  have HI : Hid (DdsIn w lo len L) := hL
  clear hL
  go_enter Tryd.func9, Tryd.ntmps9
  go_wp2_with fail
  go_loopg [3, 4] len (fun g2 nv iv' wr => ∃ (i : Nat) (n : Int), nv = iv n ∧ iv' = iv (i : Int) ∧ i + g2 = len ∧ Hid (Below w.heap.size w wr))
  case atStart => exact ⟨0, 0, rfl, rfl, by omega, Below.refl _ _⟩
  case round =>
    obtain ⟨i, n, rfl, rfl, hig, HB⟩ := hrel
    cases hn : decide (n < (5000 : Int)) with
    | false =>
      cases gk with
      | succ k =>
        have hin : i < len := by omega
        go_wp2_with fail
        go_ret
        exact ⟨_, rfl, HB.out⟩
      | zero =>
        obtain rfl : i = len := by omega
        have hg0 : decide ((i : Int) < (i : Int)) = false := decide_eq_false (by omega)
        go_wp2_with fail
        go_ret
        exact ⟨_, rfl, HB.out⟩
    | true =>
      cases gk with
      | succ k =>
        have hin : i < len := by omega
        obtain ⟨d, b, off, ao, ac, rfl, q0, q1, q2, q3, q4, q5, q6, q7, hav, _, _⟩ := (HI.out.old HB.out).at hin
        rw [hav] at q6
        clear hav
        go_wp2_with fail
        go_quiet (fail)
        go_wp2_with fail
        go_roundg k
        case measure => omega
        case rel => exact ⟨i + 1, _, rfl, by go_num, by omega, below_drewN HB.out _⟩
      | zero =>
        obtain rfl : i = len := by omega
        have hg0 : decide ((i : Int) < (i : Int)) = false := decide_eq_false (by omega)
        go_wp2_with fail
        go_ret
        exact ⟨_, rfl, HB.out⟩
end Go.Proofs.YtkmghkfdegdikaaDoor
