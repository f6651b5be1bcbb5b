/- The document's List. -/
import Derived.Test.YtnpaodagpleiaaaLi
import Derived.Deep.RegionHeld3
namespace Go.Proofs.Ytnpaodagpleiaaa
open Go.RowKit

set_option maxHeartbeats 2000000 in
set_option maxRecDepth 10000 in
theorem rlist_any {w : World} {ao bo : Option Addr} {A B : List TL} (n m ca cb : Nat) (ha : TkRow w ao A) (hb : TkRow w bo B) (hn : A.length = n) (hm : B.length = m) (hn2 : n ≤ 9223372036854775807) (hm2 : m ≤ 9223372036854775807) :
    Calls Try.prog 16 #[.slice ao n ca, .slice bo m cb] w fun e w' => e = .returned (.bool (lsP A B)) ∧ Below w.heap.size w w' := by
  by_cases hnm : n = m
  · subst hnm
    obtain ⟨g, hg0⟩ : ∃ g, lsP A B = g := ⟨_, rfl⟩
    rw [hg0]
    have HA : Hid (TkRow w ao A ∧ TkRow w bo B ∧ A.length = n ∧ B.length = n ∧ lsP (A.drop 0) (B.drop 0) = g) := ⟨ha, hb, hn, hm, hg0⟩
    clear ha hb hn hm hg0
    go_enter Try.func16, Try.ntmps16
    go_wp2_with fail
    go_loopg [5] n (fun g2 iv wr => ∃ (i : Nat), iv = .int .i64 i ∧ i + g2 = n ∧ lsP (A.drop i) (B.drop i) = g ∧ Below w.heap.size w wr)
    case atStart => exact ⟨0, rfl, by omega, HA.out.2.2.2.2, Below.refl _ _⟩
    case round =>
      obtain ⟨i, rfl, hig, hgi, hbe⟩ := hrel
      have HG : Hid (lsP (A.drop i) (B.drop i) = g ∧ Below w.heap.size w wr) := ⟨hgi, hbe⟩
      clear hgi hbe
      cases gk with
      | zero =>
        obtain rfl : i = n := by omega
        have hg0 : decide ((i : Int) < (i : Int)) = false := decide_eq_false (by omega)
        go_wp2_with fail
        have e : g = true := by
          have h := HG.out.1
          rw [List.drop_of_length_le (by rw [HA.out.2.2.1]; exact Nat.le_refl _), List.drop_of_length_le (by rw [HA.out.2.2.2.1]; exact Nat.le_refl _)] at h
          exact h.symm
        subst e
        go_ret
        exact ⟨rfl, HG.out.2⟩
      | succ k =>
        have hin : i < n := by omega
        obtain ⟨x, hx⟩ : ∃ x, A[i]? = some x := ⟨_, List.getElem?_eq_getElem (by rw [HA.out.2.2.1]; exact hin)⟩
        obtain ⟨y, hy⟩ : ∃ y, B[i]? = some y := ⟨_, List.getElem?_eq_getElem (by rw [HA.out.2.2.2.1]; exact hin)⟩
        obtain ⟨b1, o1, rfl, h1, ⟨c0, c1, c2, c3, c4, c5, c6, c7⟩, ok1⟩ := (HA.out.1.below HG.out.2).at hx
        obtain ⟨b2, o2, rfl, h2, ⟨d0, d1, d2, d3, d4, d5, d6, d7⟩, ok2⟩ := (HA.out.2.1.below HG.out.2).at hy
        have HD : Hid (lsP (A.drop i) (B.drop i) = (Tk.eqb x.1 y.1 x.2 y.2 && lsP (A.drop (i + 1)) (B.drop (i + 1)))) := lsP_drop hx hy
        clear hx hy
        obtain ⟨X, LX⟩ := x
        obtain ⟨Y, LY⟩ := y
        simp only at c0 c1 c2 c3 c4 c5 c6 c7 d0 d1 d2 d3 d4 d5 d6 d7 ok1 ok2 HD
        obtain ⟨r, hr⟩ : ∃ r, Tk.eqb X Y LX LY = r := ⟨_, rfl⟩
        have HR : Hid (Tk.eqb X Y LX LY = r) := hr
        rw [hr] at HD
        have HO : Hid (TkOk wr X LX ∧ TkOk wr Y LY) := ⟨ok1, ok2⟩
        clear ok1 ok2 hr
        have kk : ∀ q, Calls Try.prog 14 #[X.val, Y.val] (wr.drewN q) fun e w' => e = .returned (.bool r) ∧ Below w.heap.size w w' := fun q => by
          have hb : Below wr.heap.size wr (wr.drewN q) := below_drewN (Below.refl _ _) q
          have k0 := rsame_any (HO.out.1.below hb) (HO.out.2.below hb)
          rw [HR.out] at k0
          refine k0.mono ?_
          rintro e w1 ⟨rfl, b1⟩
          exact ⟨rfl, (HG.out.2.trans (hb.mono HG.out.2.size)).trans (b1.mono HG.out.2.size)⟩
        simp only [Tk.val, Tk.arr] at kk
        go_wp2_with fail
        go_region_with (go_at_call 14; refine (kk _).mono ?_; rintro e w1 ⟨rfl, b1⟩)
        all_goals
          have H1 : Hid (Below w.heap.size w w1) := b1
          clear b1 kk
          cases r with
          | false =>
            have e : g = false := by rw [← HG.out.1, HD.out]; rfl
            subst e
            go_wp2_with fail
            go_ret
            exact ⟨rfl, H1.out⟩
          | true =>
            have HN : Hid (lsP (A.drop (i + 1)) (B.drop (i + 1)) = g) := by
              have h := HD.out
              rw [Bool.true_and] at h
              exact h.symm.trans HG.out.1
            go_wp2_with fail
            go_roundg k
            case measure => omega
            case rel => exact ⟨i + 1, by go_num, by omega, HN.out, H1.out⟩
  · rw [lsP_len (by rw [hn, hm]; exact hnm)]
    have hne : ((n : Int) == (m : Int)) = false := by simp; omega
    clear ha hb hn hm
    go_enter Try.func16, Try.ntmps16
    go_wp2_with fail
    go_ret
    exact ⟨rfl, Below.refl _ _⟩
end Go.Proofs.Ytnpaodagpleiaaa
