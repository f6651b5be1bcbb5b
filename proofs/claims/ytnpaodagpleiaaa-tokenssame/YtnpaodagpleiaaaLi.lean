/- List, the program's and the document's: tokens one by one. -/
import Derived.Test.YtnpaodagpleiaaaSm
namespace Go.Proofs.Ytnpaodagpleiaaa
open Go.RowKit

abbrev TL := Tk × List At
def lsP : List TL → List TL → Bool
  | [], [] => true
  | x :: A, y :: B => Tk.eqb x.1 y.1 x.2 y.2 && lsP A B
  | _, _ => false
theorem lsP_len : ∀ {A B : List TL}, A.length ≠ B.length → lsP A B = false
  | [], [], h => absurd rfl h
  | [], _ :: _, _ => rfl
  | _ :: _, [], _ => rfl
  | x :: A, y :: B, h => by
    unfold lsP
    rw [lsP_len (by simpa using h), Bool.and_false]
theorem lsP_drop {A B : List TL} {i : Nat} {x y : TL} (hx : A[i]? = some x) (hy : B[i]? = some y) : lsP (A.drop i) (B.drop i) = (Tk.eqb x.1 y.1 x.2 y.2 && lsP (A.drop (i + 1)) (B.drop (i + 1))) := by
  rw [drop_at hx, drop_at hy]
  rfl
theorem Tk.eqb_refl (T : Tk) (A : List At) : Tk.eqb T T A A = true := by
  unfold Tk.eqb
  simp [eqL_refl]
theorem lsP_refl : ∀ A : List TL, lsP A A = true
  | [] => rfl
  | x :: A => by unfold lsP; rw [Tk.eqb_refl, lsP_refl A]; rfl

structure TkCells (w : World) (b o : Nat) (T : Tk) : Prop where
  c0 : w.cell? ⟨b, o, none⟩ = some (.int .i64 T.k)
  c1 : w.cell? ⟨b, o + 1, none⟩ = some (.int .i64 T.r)
  c2 : w.cell? ⟨b, o + 2, none⟩ = some (.string T.nm)
  c3 : w.cell? ⟨b, o + 3, none⟩ = some (.string T.tx)
  c4 : w.cell? ⟨b, o + 4, none⟩ = some (.slice T.ao T.n T.cap)
  c5 : w.cell? ⟨b, o + 5, none⟩ = some (.bool T.s)
  c6 : w.cell? ⟨b, o + 6, none⟩ = some (.int .i64 T.f)
  c7 : w.cell? ⟨b, o + 7, none⟩ = some (.int .i64 T.t)
theorem TkCells.of {w : World} {b o : Nat} {T : Tk} (h : ∀ j u, T.arr[j]? = some u → w.cell? ⟨b, o + j, none⟩ = some u) : TkCells w b o T :=
  ⟨h 0 _ rfl, h 1 _ rfl, h 2 _ rfl, h 3 _ rfl, h 4 _ rfl, h 5 _ rfl, h 6 _ rfl, h 7 _ rfl⟩
theorem TkCells.below {w w' : World} {b o : Nat} {T : Tk} (h : TkCells w b o T) (k : Below w.heap.size w w') (hb : b < w.heap.size) : TkCells w' b o T :=
  ⟨(k.cell (p := ⟨b, o, none⟩) hb).trans h.c0, (k.cell (p := ⟨b, o + 1, none⟩) hb).trans h.c1, (k.cell (p := ⟨b, o + 2, none⟩) hb).trans h.c2, (k.cell (p := ⟨b, o + 3, none⟩) hb).trans h.c3, (k.cell (p := ⟨b, o + 4, none⟩) hb).trans h.c4, (k.cell (p := ⟨b, o + 5, none⟩) hb).trans h.c5, (k.cell (p := ⟨b, o + 6, none⟩) hb).trans h.c6, (k.cell (p := ⟨b, o + 7, none⟩) hb).trans h.c7⟩
theorem TkRow.at {w : World} {lo : Option Addr} {l : List TL} (h : TkRow w lo l) {i : Nat} {x : TL} (hx : l[i]? = some x) : ∃ b off, lo = some ⟨b, off, none⟩ ∧ b < w.heap.size ∧ TkCells w b (off + i * 8) x.1 ∧ TkOk w x.1 x.2 := by
  obtain ⟨⟨b, off, h1, h2, h3⟩, ok⟩ := h i x hx
  exact ⟨b, off, h1, h2, TkCells.of h3, ok⟩
theorem TkRow.nil (w : World) (lo : Option Addr) : TkRow w lo [] := fun i x hx => by simp at hx

set_option maxHeartbeats 2000000 in
set_option maxRecDepth 10000 in
theorem eqf_any {w : World} {ao bo : Option Addr} {A B : List TL} (n m ca cb : Nat) (ha : TkRow w ao A) (hb : TkRow w bo B) (hn : A.length = n) (hm : B.length = m) (hn2 : n ≤ 9223372036854775807) (hm2 : m ≤ 9223372036854775807) :
    Calls Try.prog 27 #[.slice ao n ca, .slice bo m cb, .func (.func 13) #[] #[]] w fun e w' => e = .returned (.bool (lsP A B)) ∧ Below w.heap.size w w' := by
  by_cases hnm : n = m
  · subst hnm
    obtain ⟨g, hg0⟩ : ∃ g, lsP A B = g := ⟨_, rfl⟩
    rw [hg0]
    have HA : Hid (TkRow w ao A ∧ TkRow w bo B ∧ A.length = n ∧ B.length = n ∧ lsP (A.drop 0) (B.drop 0) = g) := ⟨ha, hb, hn, hm, hg0⟩
    clear ha hb hn hm hg0
    go_enter Try.func27, Try.ntmps27
    go_wp2_with fail
    go_loopg [17] n (fun g2 iv wr => ∃ (i : Nat), iv = .int .i64 i ∧ i + g2 = n ∧ lsP (A.drop i) (B.drop i) = g ∧ Below w.heap.size w wr)
    case atStart => exact ⟨0, rfl, by omega, HA.out.2.2.2.2, Below.refl _ _⟩
    case round =>
      obtain ⟨i, rfl, hig, hgi, hbe⟩ := hrel
      have HG : Hid (lsP (A.drop i) (B.drop i) = g ∧ Below w.heap.size w wr) := ⟨hgi, hbe⟩
      clear hgi hbe
      cases gk with
      | zero =>
        obtain rfl : i = n := by omega
        have hg0 : decide ((i : Int) < (i : Int)) = false := decide_eq_false (by omega)
        go_wp2_with fail
        have e : g = true := by
          have h := HG.out.1
          rw [List.drop_of_length_le (by rw [HA.out.2.2.1]; exact Nat.le_refl _), List.drop_of_length_le (by rw [HA.out.2.2.2.1]; exact Nat.le_refl _)] at h
          exact h.symm
        subst e
        go_ret
        exact ⟨rfl, HG.out.2⟩
      | succ k =>
        have hin : i < n := by omega
        obtain ⟨x, hx⟩ : ∃ x, A[i]? = some x := ⟨_, List.getElem?_eq_getElem (by rw [HA.out.2.2.1]; exact hin)⟩
        obtain ⟨y, hy⟩ : ∃ y, B[i]? = some y := ⟨_, List.getElem?_eq_getElem (by rw [HA.out.2.2.2.1]; exact hin)⟩
        obtain ⟨b1, o1, rfl, h1, ⟨c0, c1, c2, c3, c4, c5, c6, c7⟩, ok1⟩ := (HA.out.1.below HG.out.2).at hx
        obtain ⟨b2, o2, rfl, h2, ⟨d0, d1, d2, d3, d4, d5, d6, d7⟩, ok2⟩ := (HA.out.2.1.below HG.out.2).at hy
        have HD : Hid (lsP (A.drop i) (B.drop i) = (Tk.eqb x.1 y.1 x.2 y.2 && lsP (A.drop (i + 1)) (B.drop (i + 1)))) := lsP_drop hx hy
        clear hx hy
        obtain ⟨X, LX⟩ := x
        obtain ⟨Y, LY⟩ := y
        simp only at c0 c1 c2 c3 c4 c5 c6 c7 d0 d1 d2 d3 d4 d5 d6 d7 ok1 ok2 HD
        have hbX : Below w.heap.size w ((wr.alloc (.cells X.arr 26)).alloc (.cells Y.arr 26)) := HG.out.2.trans (((Below.refl w.heap.size wr).alloc HG.out.2.size _).alloc (by have := HG.out.2.size; simp; omega) _)
        have hb2 : Below wr.heap.size wr ((wr.alloc (.cells X.arr 26)).alloc (.cells Y.arr 26)) := ((Below.refl _ _).alloc (Nat.le_refl _) _).alloc (by simp) _
        have kk := same_any (ok1.below hb2) (ok2.below hb2)
        obtain ⟨r, hr⟩ : ∃ r, Tk.eqb X Y LX LY = r := ⟨_, rfl⟩
        rw [hr] at HD kk
        have HW : Hid (Below w.heap.size w ((wr.alloc (.cells X.arr 26)).alloc (.cells Y.arr 26))) := hbX
        clear ok1 ok2 hr hbX hb2
        simp only [Tk.val, Tk.arr] at kk HW
        go_wp2_with fail
        refine kk.mono ?_
        rintro e w1 ⟨rfl, b1⟩
        have H1 : Hid (Below w.heap.size w w1) := HW.out.trans (b1.mono HW.out.size)
        clear kk b1 HW
        cases r with
        | false =>
          have e : g = false := by rw [← HG.out.1, HD.out]; rfl
          subst e
          go_wp2_with fail
          go_ret
          exact ⟨rfl, H1.out⟩
        | true =>
          have HN : Hid (lsP (A.drop (i + 1)) (B.drop (i + 1)) = g) := by
            have h := HD.out
            rw [Bool.true_and] at h
            exact h.symm.trans HG.out.1
          go_wp2_with fail
          go_roundg k
          case measure => omega
          case rel => exact ⟨i + 1, by go_num, by omega, HN.out, H1.out⟩
  · rw [lsP_len (by rw [hn, hm]; exact hnm)]
    have hne : ((n : Int) == (m : Int)) = false := by simp; omega
    clear ha hb hn hm
    go_enter Try.func27, Try.ntmps27
    go_wp2_with fail
    go_ret
    exact ⟨rfl, Below.refl _ _⟩

set_option maxHeartbeats 1000000 in
theorem list_any {w : World} {ao bo : Option Addr} {A B : List TL} (n m ca cb : Nat) (ha : TkRow w ao A) (hb : TkRow w bo B) (hn : A.length = n) (hm : B.length = m) (hn2 : n ≤ 9223372036854775807) (hm2 : m ≤ 9223372036854775807) :
    Calls Try.prog 15 #[.slice ao n ca, .slice bo m cb] w fun e w' => e = .returned (.bool (lsP A B)) ∧ Below w.heap.size w w' := by
  have kk := eqf_any n m ca cb ha hb hn hm hn2 hm2
  clear ha hb hn hm
  go_enter Try.func15, Try.ntmps15
  go_wp2_with fail
  refine kk.mono ?_
  rintro e w1 ⟨rfl, b1⟩
  clear kk
  go_wp2_with fail
  go_ret
  exact ⟨rfl, b1⟩
end Go.Proofs.Ytnpaodagpleiaaa
