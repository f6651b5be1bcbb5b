/- The document's Get, in, Equal, Same; few. -/
import Derived.Test.YtibndgembpcdgaaPu
namespace Go.Proofs.Ytibndgembpcdgaa
open Go.RowKit

theorem beq_yes {a b : ByteArray} (h : a.data.toList = b.data.toList) : (a.toList == b.toList) = true := by rw [beq_bytes]; exact decide_eq_true h
theorem beq_no {a b : ByteArray} (h : ¬ a.data.toList = b.data.toList) : (a.toList == b.toList) = false := by rw [beq_bytes]; exact decide_eq_false h

def gv : Option At → ByteArray
  | some x => x.v
  | none => ⟨#[]⟩

theorem drop_at {L : List At} {i : Nat} {x : At} (h : L[i]? = some x) : L.drop i = x :: L.drop (i + 1) := by
  obtain ⟨h1, rfl⟩ := List.getElem?_eq_some_iff.1 h
  exact List.drop_eq_getElem_cons h1
theorem get_drop {L : List At} {i : Nat} {x : At} {k : Path} (h : L[i]? = some x) : getP (L.drop i) k = if x.nm = k then some x else getP (L.drop (i + 1)) k := by
  rw [drop_at h]
  unfold getP
  rw [List.find?_cons]
  by_cases e : x.nm = k <;> simp [e]

set_option maxHeartbeats 1000000 in
theorem rget_any {w : World} {ao : Option Addr} {L : List At} (n cap : Nat) (s : ByteArray) (ha : AtRow w ao L) (hn : L.length = n) (hn2 : n ≤ 100000) :
    Calls Try.prog 13 #[.slice ao n cap, .string s] w fun e w' => e = .returned (.tuple #[.string (gv (getP L s.data.toList)), .bool (getP L s.data.toList).isSome]) ∧ w' = w := by
  obtain ⟨g, hg0⟩ : ∃ g, getP L s.data.toList = g := ⟨_, rfl⟩
  rw [hg0]
  have HA : Hid (AtRow w ao L ∧ L.length = n ∧ getP (L.drop 0) s.data.toList = g) := ⟨ha, hn, hg0⟩
  clear ha hn hg0
  go_enter Try.func13, Try.ntmps13
  go_wp2_with fail
  go_loopg [6] n (fun g2 iv wr => ∃ i : Nat, iv = .int .i64 i ∧ i + g2 = n ∧ getP (L.drop i) s.data.toList = g ∧ wr = w)
  case atStart => exact ⟨0, rfl, by omega, HA.out.2.2, rfl⟩
  case round =>
    obtain ⟨i, rfl, hig, hgi, rfl⟩ := hrel
    have HG : Hid (getP (L.drop i) s.data.toList = g) := hgi
    clear hgi
    cases gk with
    | zero =>
      obtain rfl : i = n := by omega
      have hg0 : decide ((i : Int) < (i : Int)) = false := decide_eq_false (by omega)
      go_wp2_with fail
      have e : g = none := by
        have h := HG.out
        rw [List.drop_of_length_le (by rw [HA.out.2.1]; exact Nat.le_refl _)] at h
        exact h.symm
      subst e
      go_ret2
      exact ⟨rfl, rfl⟩
    | succ k =>
      have hin : i < n := by omega
      have hil : i < L.length := by rw [HA.out.2.1]; exact hin
      obtain ⟨x, hx⟩ : ∃ x, L[i]? = some x := ⟨_, List.getElem?_eq_getElem hil⟩
      obtain ⟨b1, o1, rfl, h1, c1, c2⟩ := HA.out.1 i x hx
      have HD : Hid (getP (L.drop i) s.data.toList = if x.nm = s.data.toList then some x else getP (L.drop (i + 1)) s.data.toList) := get_drop hx
      clear hil hx
      obtain ⟨nm, vl⟩ := x
      simp only at c1 c2
      by_cases hk : nm.data.toList = s.data.toList
      · have hb := beq_yes hk
        have e : g = some ⟨nm, vl⟩ := by
          rw [← HG.out, HD.out, if_pos hk]
        subst e
        clear hk
        go_wp2_with fail
        go_ret2
        exact ⟨rfl, rfl⟩
      · have hb := beq_no hk
        have HN : Hid (getP (L.drop (i + 1)) s.data.toList = g) := by
          have h := HD.out
          rw [if_neg hk] at h
          exact h.symm.trans HG.out
        clear hk
        go_wp2_with fail
        go_roundg k
        case measure => omega
        case rel => exact ⟨i + 1, by go_num, by omega, HN.out, rfl⟩

theorem in_drop {L : List At} {i : Nat} {x a : At} (h : L[i]? = some x) : inP a (L.drop i) = (At.eqb x a || inP a (L.drop (i + 1))) := by
  rw [drop_at h]
  rfl

set_option maxHeartbeats 1000000 in
theorem rin_any {w : World} {ao : Option Addr} {L : List At} (n cap : Nat) (nm vl : ByteArray) (ha : AtRow w ao L) (hn : L.length = n) (hn2 : n ≤ 100000) :
    Calls Try.prog 29 #[.agg #[.string nm, .string vl], .slice ao n cap] w fun e w' => e = .returned (.bool (inP ⟨nm, vl⟩ L)) ∧ Below w.heap.size w w' := by
  obtain ⟨g, hg0⟩ : ∃ g, inP ⟨nm, vl⟩ L = g := ⟨_, rfl⟩
  rw [hg0]
  have HA : Hid (AtRow w ao L ∧ L.length = n ∧ inP ⟨nm, vl⟩ (L.drop 0) = g) := ⟨ha, hn, hg0⟩
  clear ha hn hg0
  go_enter Try.func29, Try.ntmps29
  go_wp2_with fail
  obtain ⟨W, hW⟩ : ∃ W, w.alloc (.cells #[.string nm, .string vl] 24) = W := ⟨_, rfl⟩
  have hbW : Below w.heap.size w W := by rw [← hW]; exact (Below.refl _ _).alloc (Nat.le_refl _) _
  have hnew : W.heap[w.heap.size]? = some (.cells #[.string nm, .string vl] 24 (0, 0)) := by rw [← hW]; exact heap_alloc_new _ _
  have d1 : W.cell? ⟨w.heap.size, 0, none⟩ = some (.string nm) := by simp [World.cell?, hnew]
  have d2 : W.cell? ⟨w.heap.size, 1, none⟩ = some (.string vl) := by simp [World.cell?, hnew]
  have HW : Hid (Below w.heap.size w W) := hbW
  rw [hW]
  clear hW hnew hbW
  go_loopg [5] n (fun g2 iv wr => ∃ (i q : Nat), iv = .int .i64 i ∧ i + g2 = n ∧ inP ⟨nm, vl⟩ (L.drop i) = g ∧ wr = W.drewN q)
  case atStart => exact ⟨0, 0, rfl, by omega, HA.out.2.2, rfl⟩
  case round =>
    obtain ⟨i, q, rfl, hig, hgi, rfl⟩ := hrel
    have HG : Hid (inP ⟨nm, vl⟩ (L.drop i) = g) := hgi
    clear hgi
    cases gk with
    | zero =>
      obtain rfl : i = n := by omega
      have hg0 : decide ((i : Int) < (i : Int)) = false := decide_eq_false (by omega)
      go_wp2_with fail
      have e : g = false := by
        have h := HG.out
        rw [List.drop_of_length_le (by rw [HA.out.2.1]; exact Nat.le_refl _)] at h
        exact h.symm
      subst e
      go_ret
      exact ⟨rfl, below_drewN HW.out _⟩
    | succ k =>
      have hin : i < n := by omega
      have hil : i < L.length := by rw [HA.out.2.1]; exact hin
      obtain ⟨x, hx⟩ : ∃ x, L[i]? = some x := ⟨_, List.getElem?_eq_getElem hil⟩
      obtain ⟨b1, o1, rfl, h1, c1, c2⟩ := (HA.out.1.below HW.out) i x hx
      have HD : Hid (inP ⟨nm, vl⟩ (L.drop i) = (At.eqb x ⟨nm, vl⟩ || inP ⟨nm, vl⟩ (L.drop (i + 1)))) := in_drop hx
      clear hil hx
      obtain ⟨nm1, vl1⟩ := x
      simp only at c1 c2
      have heq := eq24 nm1 vl1 nm vl
      obtain ⟨r, hr⟩ : ∃ r, At.eqb ⟨nm1, vl1⟩ ⟨nm, vl⟩ = r := ⟨_, rfl⟩
      rw [hr] at HD
      simp only [hr] at heq
      clear hr
      cases r with
      | true =>
        have e : g = true := by
          rw [← HG.out, HD.out]
          rfl
        subst e
        go_wp2_with fail
        go_quiet (fail)
        go_wp2_with fail
        go_ret
        exact ⟨rfl, below_drewN (below_drewN HW.out _) _⟩
      | false =>
        have HN : Hid (inP ⟨nm, vl⟩ (L.drop (i + 1)) = g) := by
          have h := HD.out
          rw [Bool.false_or] at h
          exact h.symm.trans HG.out
        go_wp2_with fail
        go_quiet (fail)
        go_wp2_with fail
        go_roundg k
        case measure => omega
        case rel => exact ⟨i + 1, _, by go_num, by omega, HN.out, rfl⟩

set_option maxHeartbeats 1000000 in
theorem equal_same {w : World} {ao bo : Option Addr} {L : List At} (n ca cb : Nat) (ha : AtRow w ao L) (hb : AtRow w bo L) (hn : L.length = n) (hn2 : n ≤ 100000) :
    Calls Try.prog 14 #[.slice ao n ca, .slice bo n cb] w fun e w' => e = .returned (.bool true) ∧ Below w.heap.size w w' := by
  have HA : Hid (AtRow w ao L ∧ AtRow w bo L ∧ L.length = n) := ⟨ha, hb, hn⟩
  clear ha hb hn
  go_enter Try.func14, Try.ntmps14
  go_wp2_with fail
  go_loopw [5] (fun iv wr => ∃ (i q : Nat), iv = .int .i64 i ∧ i ≤ n ∧ wr = w.drewN q) (fun iv _ => n - (intOf iv).toNat)
  case atStart => exact ⟨0, 0, rfl, Nat.zero_le _, rfl⟩
  case round =>
    obtain ⟨i, q, rfl, hi, rfl⟩ := hrel
    by_cases hin : i < n
    · have hil : i < L.length := by rw [HA.out.2.2]; exact hin
      obtain ⟨x, hx⟩ : ∃ x, L[i]? = some x := ⟨_, List.getElem?_eq_getElem hil⟩
      obtain ⟨b1, o1, rfl, h1, c1, c2⟩ := HA.out.1 i x hx
      obtain ⟨b2, o2, rfl, h2, c3, c4⟩ := HA.out.2.1 i x hx
      obtain ⟨nm, vl⟩ := x
      simp only at c1 c2 c3 c4
      have hne := ne24 nm vl nm vl
      simp only [At.eqb_refl, Bool.not_true] at hne
      clear hx hil
      go_wp2_with fail
      go_quiet (fail)
      go_wp2_with fail
      exact ⟨⟨i + 1, _, by go_num, by omega, rfl⟩, by simp [intOf]; omega⟩
    · have hg : decide ((i : Int) < (n : Int)) = false := decide_eq_false (by omega)
      go_wp2_with fail
      go_ret
      exact ⟨rfl, below_drewN (Below.refl _ _) _⟩

theorem same_step {A B : List At} {i : Nat} {x y : At} (hx : A[i]? = some x) (hy : B[i]? = some y) : (withinP (A.drop i) B && withinP (B.drop i) A) = (inP x B && inP y A && (withinP (A.drop (i + 1)) B && withinP (B.drop (i + 1)) A)) := by
  rw [drop_at hx, drop_at hy]
  unfold withinP
  simp only [List.all_cons]
  cases inP x B <;> cases inP y A <;> simp

set_option maxHeartbeats 2000000 in
theorem rsame_any {w : World} {ao bo : Option Addr} {A B : List At} (n m ca cb : Nat) (ha : AtRow w ao A) (hb : AtRow w bo B) (hn : A.length = n) (hm : B.length = m) (hn2 : n ≤ 100000) (hm2 : m ≤ 100000) :
    Calls Try.prog 18 #[.slice ao n ca, .slice bo m cb] w fun e w' => e = .returned (.bool (sameP A B)) ∧ Below w.heap.size w w' := by
  by_cases hnm : n = m
  · subst hnm
    obtain ⟨g, hg0⟩ : ∃ g, sameP A B = g := ⟨_, rfl⟩
    rw [hg0]
    have hg1 : (withinP (A.drop 0) B && withinP (B.drop 0) A) = g := by
      rw [← hg0]
      unfold sameP
      simp [hn, hm]
    have HA : Hid (AtRow w ao A ∧ AtRow w bo B ∧ A.length = n ∧ B.length = n ∧ (withinP (A.drop 0) B && withinP (B.drop 0) A) = g) := ⟨ha, hb, hn, hm, hg1⟩
    clear ha hb hn hm hg0 hg1
    go_enter Try.func18, Try.ntmps18
    go_wp2_with fail
    go_loopg [5] n (fun g2 iv wr => ∃ i : Nat, iv = .int .i64 i ∧ i + g2 = n ∧ (withinP (A.drop i) B && withinP (B.drop i) A) = g ∧ Below w.heap.size w wr)
    case atStart => exact ⟨0, rfl, by omega, HA.out.2.2.2.2, Below.refl _ _⟩
    case round =>
      obtain ⟨i, rfl, hig, hgi, hbe⟩ := hrel
      have HG : Hid ((withinP (A.drop i) B && withinP (B.drop i) A) = g ∧ Below w.heap.size w wr) := ⟨hgi, hbe⟩
      clear hgi hbe
      cases gk with
      | zero =>
        obtain rfl : i = n := by omega
        have hg0 : decide ((i : Int) < (i : Int)) = false := decide_eq_false (by omega)
        go_wp2_with fail
        have e : g = true := by
          have h := HG.out.1
          rw [List.drop_of_length_le (by rw [HA.out.2.2.1]; exact Nat.le_refl _), List.drop_of_length_le (by rw [HA.out.2.2.2.1]; exact Nat.le_refl _)] at h
          exact h.symm
        subst e
        go_ret
        exact ⟨rfl, HG.out.2⟩
      | succ k =>
        have hin : i < n := by omega
        obtain ⟨x, hx⟩ : ∃ x, A[i]? = some x := ⟨_, List.getElem?_eq_getElem (by rw [HA.out.2.2.1]; exact hin)⟩
        obtain ⟨y, hy⟩ : ∃ y, B[i]? = some y := ⟨_, List.getElem?_eq_getElem (by rw [HA.out.2.2.2.1]; exact hin)⟩
        have hAr := HA.out.1.below HG.out.2
        have hBr := HA.out.2.1.below HG.out.2
        obtain ⟨b1, o1, rfl, h1, c1, c2⟩ := hAr i x hx
        obtain ⟨b2, o2, rfl, h2, c3, c4⟩ := hBr i y hy
        have HD : Hid ((withinP (A.drop i) B && withinP (B.drop i) A) = (inP x B && inP y A && (withinP (A.drop (i + 1)) B && withinP (B.drop (i + 1)) A))) := same_step hx hy
        clear hx hy
        obtain ⟨nm1, vl1⟩ := x
        obtain ⟨nm2, vl2⟩ := y
        simp only at c1 c2 c3 c4
        have k1 := rin_any n cb nm1 vl1 hBr HA.out.2.2.2.1 hn2
        obtain ⟨r1, hr1⟩ : ∃ r, inP ⟨nm1, vl1⟩ B = r := ⟨_, rfl⟩
        obtain ⟨r2, hr2⟩ : ∃ r, inP ⟨nm2, vl2⟩ A = r := ⟨_, rfl⟩
        have HR2 : Hid (inP ⟨nm2, vl2⟩ A = r2) := hr2
        rw [hr1, hr2] at HD
        rw [hr1] at k1
        have HAr : Hid (AtRow wr (some ⟨b1, o1, none⟩) A) := hAr
        clear hr1 hr2 hAr hBr
        go_wp2_with fail
        refine k1.mono ?_
        rintro e w1 ⟨rfl, q1⟩
        clear k1
        have c3' := (q1.cell (p := ⟨b2, o2 + i * 2, none⟩) h2).trans c3
        have c4' := (q1.cell (p := ⟨b2, o2 + i * 2 + 1, none⟩) h2).trans c4
        have hs := q1.size
        have h2' : b2 < w1.heap.size := Nat.lt_of_lt_of_le h2 hs
        have k2 := rin_any n ca nm2 vl2 (HAr.out.below q1) HA.out.2.2.1 hn2
        rw [HR2.out] at k2
        have HQ : Hid (Below w.heap.size w w1) := HG.out.2.trans (q1.mono HG.out.2.size)
        clear q1 c1 c2 c3 c4 h1 h2 hs
        cases r1 with
        | false =>
          go_wp2_with fail
          have e : g = false := by rw [← HG.out.1, HD.out]; rfl
          subst e
          go_ret
          exact ⟨rfl, HQ.out⟩
        | true =>
          go_wp2_with fail
          refine k2.mono ?_
          rintro e w2 ⟨rfl, q2⟩
          clear k2
          have HQ2 : Hid (Below w.heap.size w w2) := HQ.out.trans (q2.mono HQ.out.size)
          clear q2
          cases r2 with
          | false =>
            go_wp2_with fail
            have e : g = false := by rw [← HG.out.1, HD.out]; rfl
            subst e
            go_ret
            exact ⟨rfl, HQ2.out⟩
          | true =>
            have HN : Hid ((withinP (A.drop (i + 1)) B && withinP (B.drop (i + 1)) A) = g) := by
              have h := HD.out
              simp only [Bool.and_self, Bool.true_and] at h
              exact h.symm.trans HG.out.1
            go_wp2_with fail
            go_roundg k
            case measure => omega
            case rel => exact ⟨i + 1, by go_num, by omega, HN.out, HQ2.out⟩
  · have e : sameP A B = false := by
      unfold sameP
      rw [hn, hm, decide_eq_false hnm]
      rfl
    rw [e]
    have hne : ((n : Int) == (m : Int)) = false := by simp; omega
    clear ha hb hn hm e
    go_enter Try.func18, Try.ntmps18
    go_wp2_with fail
    go_ret
    exact ⟨rfl, Below.refl _ _⟩

set_option maxHeartbeats 1000000 in
theorem few_one {w : World} {b : Nat} (ao : Option Addr) (n ca : Nat) (h0 : w.cell? ⟨b, 0, none⟩ = some (.slice ao n ca)) (hn : n ≤ 1000000000000000) :
    Calls Try.prog 8 #[.slice (some ⟨b, 0, none⟩) 1 1] w fun e w' => e = .returned (.bool (decide (n ≤ 400))) ∧ w' = w := by
  go_enter Try.func8, Try.ntmps8
  go_wp2_with fail
  refine wp_loop_rounds 2 ?_
  rw [rounds_succ]
  go_wp2_with fail
  rw [rounds_succ]
  go_wp2_with fail
  go_ret
  have e : decide ((n : Int) ≤ 400) = decide (n ≤ 400) := by rw [Bool.eq_iff_iff]; simp; omega
  exact ⟨by rw [← e]; rfl, rfl⟩
set_option maxHeartbeats 1000000 in
theorem few_two {w : World} {b : Nat} (ao bo : Option Addr) (n m ca cb : Nat) (h0 : w.cell? ⟨b, 0, none⟩ = some (.slice ao n ca)) (h1 : w.cell? ⟨b, 1, none⟩ = some (.slice bo m cb)) (hn : n ≤ 1000000000000000) (hm : m ≤ 1000000000000000) :
    Calls Try.prog 8 #[.slice (some ⟨b, 0, none⟩) 2 2] w fun e w' => e = .returned (.bool (decide (n + m ≤ 400))) ∧ w' = w := by
  go_enter Try.func8, Try.ntmps8
  go_wp2_with fail
  refine wp_loop_rounds 3 ?_
  rw [rounds_succ]
  go_wp2_with fail
  rw [rounds_succ]
  go_wp2_with fail
  rw [rounds_succ]
  go_wp2_with fail
  go_ret
  have e : decide ((n : Int) + (m : Int) ≤ 400) = decide (n + m ≤ 400) := by rw [Bool.eq_iff_iff]; simp; omega
  exact ⟨by rw [← e]; rfl, rfl⟩
end Go.Proofs.Ytibndgembpcdgaa
