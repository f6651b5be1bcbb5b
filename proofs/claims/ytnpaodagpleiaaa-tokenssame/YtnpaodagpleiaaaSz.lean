/- size: it answers, whatever the tokens are; nothing is kept. -/
import Derived.Test.YtnpaodagpleiaaaSf
namespace Go.Proofs.Ytnpaodagpleiaaa
open Go.RowKit

/-- A truth value was handed back. -/
def Ans (e : Ending) : Prop := ∃ b : Bool, e = .returned (.bool b)

set_option maxHeartbeats 2000000 in
set_option maxRecDepth 10000 in
theorem size_any {w : World} {lo : Option Addr} {L : List TL} (n cap : Nat) (ha : TkRow w lo L) (hn : L.length = n) (hn2 : n ≤ 9223372036854775807) :
    Calls Try.prog 7 #[.slice lo n cap] w fun e w' => Ans e ∧ Below w.heap.size w w' := by
  have HA : Hid (TkRow w lo L ∧ L.length = n) := ⟨ha, hn⟩
  clear ha hn
  go_enter Try.func7, Try.ntmps7
  go_wp2_with fail
  go_loopg [3, 4] n (fun g2 nv iv wr => ∃ (i q : Nat) (z : Int), nv = .int .i64 z ∧ iv = .int .i64 i ∧ i + g2 = n ∧ wr = w.drewN q)
  case atStart => exact ⟨0, 0, 0, rfl, rfl, by omega, rfl⟩
  case round =>
    obtain ⟨i, q, z, rfl, rfl, hig, rfl⟩ := hrel
    cases gk with
    | zero =>
      obtain rfl : i = n := by omega
      have hg0 : decide ((i : Int) < (i : Int)) = false := decide_eq_false (by omega)
      go_wp2_with fail
      go_ret
      exact ⟨⟨_, rfl⟩, below_drewN (Below.refl w.heap.size w) _⟩
    | succ k =>
      have hin : i < n := by omega
      have hid : decide ((i : Int) < (n : Int)) = true := decide_eq_true (by omega)
      obtain ⟨x, hx⟩ : ∃ x, L[i]? = some x := ⟨_, List.getElem?_eq_getElem (by rw [HA.out.2]; exact hin)⟩
      obtain ⟨b1, o1, rfl, h1, ⟨c0, c1, c2, c3, c4, c5, c6, c7⟩, ok1⟩ := HA.out.1.at hx
      clear hx
      obtain ⟨⟨kk, r, nm, tx, ao, m, ca, s, f, t⟩, A⟩ := x
      simp only at c0 c1 c2 c3 c4 c5 c6 c7 ok1
      have HO : Hid (AtRow w ao A ∧ A.length = m) := ⟨ok1.row, ok1.len⟩
      have hm2 : m ≤ 9223372036854775807 := ok1.small
      clear ok1 c0 c1 c5 c6 c7
      by_cases hz : z < 20000
      · go_wp2_with fail
        go_quiet (fail)
        go_wp2_with fail
        go_loopg [3, 5] m (fun g3 nv jv wr => ∃ (j q2 : Nat) (z2 : Int), nv = .int .i64 z2 ∧ jv = .int .i64 j ∧ j + g3 = m ∧ wr = w.drewN q2)
        case atStart => exact ⟨0, _, _, rfl, rfl, by omega, by first | rfl | rw [World.drewN_drewN]⟩
        case round =>
          obtain ⟨j, q2, z2, rfl, rfl, hjg, rfl⟩ := hrel
          cases gk with
          | zero =>
            obtain rfl : j = m := by omega
            have hg0 : decide ((j : Int) < (j : Int)) = false := decide_eq_false (by omega)
            go_wp2_with fail
            go_roundg k
            case measure => omega
            case rel => exact ⟨i + 1, _, _, rfl, by go_num, by omega, rfl⟩
          | succ k2 =>
            have hjn : j < m := by omega
            have hjd : decide ((j : Int) < (m : Int)) = true := decide_eq_true (by omega)
            obtain ⟨y, hy⟩ : ∃ y, A[j]? = some y := ⟨_, List.getElem?_eq_getElem (by rw [HO.out.2]; exact hjn)⟩
            obtain ⟨b2, o2, rfl, h2, d0, d1⟩ := HO.out.1 j y hy
            clear hy
            obtain ⟨nm2, vl2⟩ := y
            simp only at d0 d1
            go_wp2_with fail
            go_quiet (fail)
            go_wp2_with fail
            go_roundg k2
            case measure => omega
            case rel => exact ⟨j + 1, _, _, rfl, by go_num, by omega, by first | rfl | rw [World.drewN_drewN]⟩
      · go_wp2_with fail
        go_ret
        exact ⟨⟨_, rfl⟩, below_drewN (Below.refl w.heap.size w) _⟩
end Go.Proofs.Ytnpaodagpleiaaa
