/- The walk of the law TokensSame. -/
import Derived.Test.YtnpaodagpleiaaaOne
import Derived.Test.YtnpaodagpleiaaaRl
import Derived.Deep.RegionHeld3
namespace Go.Proofs.Ytnpaodagpleiaaa
open Go.ChangeShapes Go.WideShapes Go.ChangeAt Go.RowKit Go.Joins

set_option maxRecDepth 10000 in
set_option maxHeartbeats 4000000 in
theorem same_walk (w : World) (lo : Option Addr) (len cap : Nat) (A : List TL) (hA : Toks w lo len cap A) (hb : len ≤ 2000000000000) (lo' : Option Addr) (len' cap' : Nat) (B : List TL) (hB : Toks w lo' len' cap' B) (hb' : len' ≤ 2000000000000) :
    Calls Try.prog 4 #[.slice lo len cap, .slice lo' len' cap'] w fun e w' => e = .returned (.bool true) ∧ Below w.heap.size w w' := by
  have HA : Hid (TkRow w lo A ∧ A.length = len ∧ TkRow w lo' B ∧ B.length = len') := ⟨hA.row, hA.hlen, hB.row, hB.hlen⟩
  clear hA hB
  have ks := size_any len cap HA.out.1 HA.out.2.1 (by omega)
  go_enter Try.func4, Try.ntmps4
  go_wp2_with fail
  refine ks.mono ?_
  rintro e w1 ⟨⟨p, rfl⟩, b1⟩
  have H1 : Hid (Below w.heap.size w w1) := b1
  have ks2 := size_any len' cap' (HA.out.2.2.1.below b1) HA.out.2.2.2 (by omega)
  clear ks b1
  cases p with
  | false =>
    go_wp2_with fail
    refine (awake_any _).mono ?_
    rintro e wz ⟨rfl, bz⟩
    have HZ : Hid (Below w.heap.size w wz) := H1.out.trans (bz.mono H1.out.size)
    clear bz
    go_wp2_with fail
    go_ret
    exact ⟨rfl, HZ.out⟩

  | true =>
    go_wp2_with fail
    refine ks2.mono ?_
    rintro e w2 ⟨⟨p, rfl⟩, b2⟩
    have H2 : Hid (Below w.heap.size w w2) := H1.out.trans (b2.mono H1.out.size)
    clear ks2 b2 H1
    cases p with
    | false =>
      go_wp2_with fail
      refine (awake_any _).mono ?_
      rintro e wz ⟨rfl, bz⟩
      have HZ : Hid (Below w.heap.size w wz) := H2.out.trans (bz.mono H2.out.size)
      clear bz
      go_wp2_with fail
      go_ret
      exact ⟨rfl, HZ.out⟩

    | true =>
      go_wp2_with fail
      go_loopg [5] len (fun g2 iv wr => ∃ i : Nat, iv = .int .i64 i ∧ i + g2 = len ∧ Below w.heap.size w wr)
      case atStart => exact ⟨0, rfl, by omega, H2.out⟩
      case round =>
        obtain ⟨i, rfl, hig, hbw⟩ := hrel
        have HW : Hid (Below w.heap.size w wr) := hbw
        clear hbw
        by_cases hin : i < len ∧ i < len'
        · obtain ⟨hi1, hi2⟩ := hin
          obtain ⟨k, rfl⟩ : ∃ k, gk = k + 1 := ⟨gk - 1, by omega⟩
          have e1 : decide ((i : Int) < (len : Int)) = true := decide_eq_true (by omega)
          have e2 : decide ((i : Int) < (len' : Int)) = true := decide_eq_true (by omega)
          obtain ⟨x, hx⟩ : ∃ x, A[i]? = some x := ⟨_, List.getElem?_eq_getElem (by rw [HA.out.2.1]; exact hi1)⟩
          obtain ⟨y, hy⟩ : ∃ y, B[i]? = some y := ⟨_, List.getElem?_eq_getElem (by rw [HA.out.2.2.2]; exact hi2)⟩
          obtain ⟨b1, o1, rfl, h1, C1, ok1⟩ := HA.out.1.at hx
          obtain ⟨b2, o2, rfl, h2, C2, ok2⟩ := HA.out.2.2.1.at hy
          obtain ⟨X, LX⟩ := x
          obtain ⟨Y, LY⟩ := y
          simp only at C1 C2 ok1 ok2
          obtain ⟨r, hr⟩ : ∃ r, Tk.eqb X Y LX LY = r := ⟨_, rfl⟩
          have CO : ∀ z : World, Below w.heap.size w z → z.cell? ⟨b1, o1 + i * 8, none⟩ = some (.int .i64 X.k) ∧ z.cell? ⟨b1, o1 + i * 8 + 1, none⟩ = some (.int .i64 X.r) ∧ z.cell? ⟨b1, o1 + i * 8 + 2, none⟩ = some (.string X.nm) ∧ z.cell? ⟨b1, o1 + i * 8 + 3, none⟩ = some (.string X.tx) ∧ z.cell? ⟨b1, o1 + i * 8 + 4, none⟩ = some (.slice X.ao X.n X.cap) ∧ z.cell? ⟨b1, o1 + i * 8 + 5, none⟩ = some (.bool X.s) ∧ z.cell? ⟨b1, o1 + i * 8 + 6, none⟩ = some (.int .i64 X.f) ∧ z.cell? ⟨b1, o1 + i * 8 + 7, none⟩ = some (.int .i64 X.t) ∧ z.cell? ⟨b2, o2 + i * 8, none⟩ = some (.int .i64 Y.k) ∧ z.cell? ⟨b2, o2 + i * 8 + 1, none⟩ = some (.int .i64 Y.r) ∧ z.cell? ⟨b2, o2 + i * 8 + 2, none⟩ = some (.string Y.nm) ∧ z.cell? ⟨b2, o2 + i * 8 + 3, none⟩ = some (.string Y.tx) ∧ z.cell? ⟨b2, o2 + i * 8 + 4, none⟩ = some (.slice Y.ao Y.n Y.cap) ∧ z.cell? ⟨b2, o2 + i * 8 + 5, none⟩ = some (.bool Y.s) ∧ z.cell? ⟨b2, o2 + i * 8 + 6, none⟩ = some (.int .i64 Y.f) ∧ z.cell? ⟨b2, o2 + i * 8 + 7, none⟩ = some (.int .i64 Y.t) ∧ Below w.heap.size w z := fun z hz => by
            obtain ⟨c0, c1, c2, c3, c4, c5, c6, c7⟩ := C1.below hz h1
            obtain ⟨d0, d1, d2, d3, d4, d5, d6, d7⟩ := C2.below hz h2
            exact ⟨c0, c1, c2, c3, c4, c5, c6, c7, d0, d1, d2, d3, d4, d5, d6, d7, hz⟩
          have BO : ∀ z : World, (z.cell? ⟨b1, o1 + i * 8, none⟩ = some (.int .i64 X.k) ∧ z.cell? ⟨b1, o1 + i * 8 + 1, none⟩ = some (.int .i64 X.r) ∧ z.cell? ⟨b1, o1 + i * 8 + 2, none⟩ = some (.string X.nm) ∧ z.cell? ⟨b1, o1 + i * 8 + 3, none⟩ = some (.string X.tx) ∧ z.cell? ⟨b1, o1 + i * 8 + 4, none⟩ = some (.slice X.ao X.n X.cap) ∧ z.cell? ⟨b1, o1 + i * 8 + 5, none⟩ = some (.bool X.s) ∧ z.cell? ⟨b1, o1 + i * 8 + 6, none⟩ = some (.int .i64 X.f) ∧ z.cell? ⟨b1, o1 + i * 8 + 7, none⟩ = some (.int .i64 X.t) ∧ z.cell? ⟨b2, o2 + i * 8, none⟩ = some (.int .i64 Y.k) ∧ z.cell? ⟨b2, o2 + i * 8 + 1, none⟩ = some (.int .i64 Y.r) ∧ z.cell? ⟨b2, o2 + i * 8 + 2, none⟩ = some (.string Y.nm) ∧ z.cell? ⟨b2, o2 + i * 8 + 3, none⟩ = some (.string Y.tx) ∧ z.cell? ⟨b2, o2 + i * 8 + 4, none⟩ = some (.slice Y.ao Y.n Y.cap) ∧ z.cell? ⟨b2, o2 + i * 8 + 5, none⟩ = some (.bool Y.s) ∧ z.cell? ⟨b2, o2 + i * 8 + 6, none⟩ = some (.int .i64 Y.f) ∧ z.cell? ⟨b2, o2 + i * 8 + 7, none⟩ = some (.int .i64 Y.t) ∧ Below w.heap.size w z) → Below w.heap.size w z := fun z hz => hz.2.2.2.2.2.2.2.2.2.2.2.2.2.2.2.2
          have k13 : ∀ z : World, (z.cell? ⟨b1, o1 + i * 8, none⟩ = some (.int .i64 X.k) ∧ z.cell? ⟨b1, o1 + i * 8 + 1, none⟩ = some (.int .i64 X.r) ∧ z.cell? ⟨b1, o1 + i * 8 + 2, none⟩ = some (.string X.nm) ∧ z.cell? ⟨b1, o1 + i * 8 + 3, none⟩ = some (.string X.tx) ∧ z.cell? ⟨b1, o1 + i * 8 + 4, none⟩ = some (.slice X.ao X.n X.cap) ∧ z.cell? ⟨b1, o1 + i * 8 + 5, none⟩ = some (.bool X.s) ∧ z.cell? ⟨b1, o1 + i * 8 + 6, none⟩ = some (.int .i64 X.f) ∧ z.cell? ⟨b1, o1 + i * 8 + 7, none⟩ = some (.int .i64 X.t) ∧ z.cell? ⟨b2, o2 + i * 8, none⟩ = some (.int .i64 Y.k) ∧ z.cell? ⟨b2, o2 + i * 8 + 1, none⟩ = some (.int .i64 Y.r) ∧ z.cell? ⟨b2, o2 + i * 8 + 2, none⟩ = some (.string Y.nm) ∧ z.cell? ⟨b2, o2 + i * 8 + 3, none⟩ = some (.string Y.tx) ∧ z.cell? ⟨b2, o2 + i * 8 + 4, none⟩ = some (.slice Y.ao Y.n Y.cap) ∧ z.cell? ⟨b2, o2 + i * 8 + 5, none⟩ = some (.bool Y.s) ∧ z.cell? ⟨b2, o2 + i * 8 + 6, none⟩ = some (.int .i64 Y.f) ∧ z.cell? ⟨b2, o2 + i * 8 + 7, none⟩ = some (.int .i64 Y.t) ∧ Below w.heap.size w z) → Calls Try.prog 13 #[.agg #[.int .i64 X.k, .int .i64 X.r, .string X.nm, .string X.tx, .slice X.ao X.n X.cap, .bool X.s, .int .i64 X.f, .int .i64 X.t], .agg #[.int .i64 Y.k, .int .i64 Y.r, .string Y.nm, .string Y.tx, .slice Y.ao Y.n Y.cap, .bool Y.s, .int .i64 Y.f, .int .i64 Y.t]] z fun e w' => e = .returned (.bool r) ∧ w'.cell? ⟨b1, o1 + i * 8, none⟩ = some (.int .i64 X.k) ∧ w'.cell? ⟨b1, o1 + i * 8 + 1, none⟩ = some (.int .i64 X.r) ∧ w'.cell? ⟨b1, o1 + i * 8 + 2, none⟩ = some (.string X.nm) ∧ w'.cell? ⟨b1, o1 + i * 8 + 3, none⟩ = some (.string X.tx) ∧ w'.cell? ⟨b1, o1 + i * 8 + 4, none⟩ = some (.slice X.ao X.n X.cap) ∧ w'.cell? ⟨b1, o1 + i * 8 + 5, none⟩ = some (.bool X.s) ∧ w'.cell? ⟨b1, o1 + i * 8 + 6, none⟩ = some (.int .i64 X.f) ∧ w'.cell? ⟨b1, o1 + i * 8 + 7, none⟩ = some (.int .i64 X.t) ∧ w'.cell? ⟨b2, o2 + i * 8, none⟩ = some (.int .i64 Y.k) ∧ w'.cell? ⟨b2, o2 + i * 8 + 1, none⟩ = some (.int .i64 Y.r) ∧ w'.cell? ⟨b2, o2 + i * 8 + 2, none⟩ = some (.string Y.nm) ∧ w'.cell? ⟨b2, o2 + i * 8 + 3, none⟩ = some (.string Y.tx) ∧ w'.cell? ⟨b2, o2 + i * 8 + 4, none⟩ = some (.slice Y.ao Y.n Y.cap) ∧ w'.cell? ⟨b2, o2 + i * 8 + 5, none⟩ = some (.bool Y.s) ∧ w'.cell? ⟨b2, o2 + i * 8 + 6, none⟩ = some (.int .i64 Y.f) ∧ w'.cell? ⟨b2, o2 + i * 8 + 7, none⟩ = some (.int .i64 Y.t) ∧ Below w.heap.size w w' := fun z hz => by
            have bz := BO z hz
            have k0 := same_any (ok1.below bz) (ok2.below bz)
            rw [hr] at k0
            refine k0.mono ?_
            rintro e w' ⟨rfl, b⟩
            exact ⟨rfl, CO w' (bz.trans (b.mono bz.size))⟩
          have k14 : ∀ z : World, (z.cell? ⟨b1, o1 + i * 8, none⟩ = some (.int .i64 X.k) ∧ z.cell? ⟨b1, o1 + i * 8 + 1, none⟩ = some (.int .i64 X.r) ∧ z.cell? ⟨b1, o1 + i * 8 + 2, none⟩ = some (.string X.nm) ∧ z.cell? ⟨b1, o1 + i * 8 + 3, none⟩ = some (.string X.tx) ∧ z.cell? ⟨b1, o1 + i * 8 + 4, none⟩ = some (.slice X.ao X.n X.cap) ∧ z.cell? ⟨b1, o1 + i * 8 + 5, none⟩ = some (.bool X.s) ∧ z.cell? ⟨b1, o1 + i * 8 + 6, none⟩ = some (.int .i64 X.f) ∧ z.cell? ⟨b1, o1 + i * 8 + 7, none⟩ = some (.int .i64 X.t) ∧ z.cell? ⟨b2, o2 + i * 8, none⟩ = some (.int .i64 Y.k) ∧ z.cell? ⟨b2, o2 + i * 8 + 1, none⟩ = some (.int .i64 Y.r) ∧ z.cell? ⟨b2, o2 + i * 8 + 2, none⟩ = some (.string Y.nm) ∧ z.cell? ⟨b2, o2 + i * 8 + 3, none⟩ = some (.string Y.tx) ∧ z.cell? ⟨b2, o2 + i * 8 + 4, none⟩ = some (.slice Y.ao Y.n Y.cap) ∧ z.cell? ⟨b2, o2 + i * 8 + 5, none⟩ = some (.bool Y.s) ∧ z.cell? ⟨b2, o2 + i * 8 + 6, none⟩ = some (.int .i64 Y.f) ∧ z.cell? ⟨b2, o2 + i * 8 + 7, none⟩ = some (.int .i64 Y.t) ∧ Below w.heap.size w z) → Calls Try.prog 14 #[.agg #[.int .i64 X.k, .int .i64 X.r, .string X.nm, .string X.tx, .slice X.ao X.n X.cap, .bool X.s, .int .i64 X.f, .int .i64 X.t], .agg #[.int .i64 Y.k, .int .i64 Y.r, .string Y.nm, .string Y.tx, .slice Y.ao Y.n Y.cap, .bool Y.s, .int .i64 Y.f, .int .i64 Y.t]] z fun e w' => e = .returned (.bool r) ∧ w'.cell? ⟨b1, o1 + i * 8, none⟩ = some (.int .i64 X.k) ∧ w'.cell? ⟨b1, o1 + i * 8 + 1, none⟩ = some (.int .i64 X.r) ∧ w'.cell? ⟨b1, o1 + i * 8 + 2, none⟩ = some (.string X.nm) ∧ w'.cell? ⟨b1, o1 + i * 8 + 3, none⟩ = some (.string X.tx) ∧ w'.cell? ⟨b1, o1 + i * 8 + 4, none⟩ = some (.slice X.ao X.n X.cap) ∧ w'.cell? ⟨b1, o1 + i * 8 + 5, none⟩ = some (.bool X.s) ∧ w'.cell? ⟨b1, o1 + i * 8 + 6, none⟩ = some (.int .i64 X.f) ∧ w'.cell? ⟨b1, o1 + i * 8 + 7, none⟩ = some (.int .i64 X.t) ∧ w'.cell? ⟨b2, o2 + i * 8, none⟩ = some (.int .i64 Y.k) ∧ w'.cell? ⟨b2, o2 + i * 8 + 1, none⟩ = some (.int .i64 Y.r) ∧ w'.cell? ⟨b2, o2 + i * 8 + 2, none⟩ = some (.string Y.nm) ∧ w'.cell? ⟨b2, o2 + i * 8 + 3, none⟩ = some (.string Y.tx) ∧ w'.cell? ⟨b2, o2 + i * 8 + 4, none⟩ = some (.slice Y.ao Y.n Y.cap) ∧ w'.cell? ⟨b2, o2 + i * 8 + 5, none⟩ = some (.bool Y.s) ∧ w'.cell? ⟨b2, o2 + i * 8 + 6, none⟩ = some (.int .i64 Y.f) ∧ w'.cell? ⟨b2, o2 + i * 8 + 7, none⟩ = some (.int .i64 Y.t) ∧ Below w.heap.size w w' := fun z hz => by
            have bz := BO z hz
            have k0 := rsame_any (ok1.below bz) (ok2.below bz)
            rw [hr] at k0
            refine k0.mono ?_
            rintro e w' ⟨rfl, b⟩
            exact ⟨rfl, CO w' (bz.trans (b.mono bz.size))⟩
          have K := CO wr HW.out
          clear C1 C2 ok1 ok2 hx hy hr
          go_wp2_with fail
          go_region_held3 (fun w' => w'.cell? ⟨b1, o1 + i * 8, none⟩ = some (.int .i64 X.k) ∧ w'.cell? ⟨b1, o1 + i * 8 + 1, none⟩ = some (.int .i64 X.r) ∧ w'.cell? ⟨b1, o1 + i * 8 + 2, none⟩ = some (.string X.nm) ∧ w'.cell? ⟨b1, o1 + i * 8 + 3, none⟩ = some (.string X.tx) ∧ w'.cell? ⟨b1, o1 + i * 8 + 4, none⟩ = some (.slice X.ao X.n X.cap) ∧ w'.cell? ⟨b1, o1 + i * 8 + 5, none⟩ = some (.bool X.s) ∧ w'.cell? ⟨b1, o1 + i * 8 + 6, none⟩ = some (.int .i64 X.f) ∧ w'.cell? ⟨b1, o1 + i * 8 + 7, none⟩ = some (.int .i64 X.t) ∧ w'.cell? ⟨b2, o2 + i * 8, none⟩ = some (.int .i64 Y.k) ∧ w'.cell? ⟨b2, o2 + i * 8 + 1, none⟩ = some (.int .i64 Y.r) ∧ w'.cell? ⟨b2, o2 + i * 8 + 2, none⟩ = some (.string Y.nm) ∧ w'.cell? ⟨b2, o2 + i * 8 + 3, none⟩ = some (.string Y.tx) ∧ w'.cell? ⟨b2, o2 + i * 8 + 4, none⟩ = some (.slice Y.ao Y.n Y.cap) ∧ w'.cell? ⟨b2, o2 + i * 8 + 5, none⟩ = some (.bool Y.s) ∧ w'.cell? ⟨b2, o2 + i * 8 + 6, none⟩ = some (.int .i64 Y.f) ∧ w'.cell? ⟨b2, o2 + i * 8 + 7, none⟩ = some (.int .i64 Y.t) ∧ Below w.heap.size w w')
            (first | assumption | exact CO _ (Below.drew (BO _ (by assumption))) | go_keep)
            (first
              | (go_at_call 13; refine (k13 _ (by assumption)).mono ?_; rintro e w' ⟨rfl, h⟩)
              | (go_at_call 14; refine (k14 _ (by assumption)).mono ?_; rintro e w' ⟨rfl, h⟩))
          have HZ : Hid (Below w.heap.size w w') := BO _ h
          clear h K CO BO k13 k14
          go_wp2_with fail
          go_roundg k
          case measure => omega
          case rel => exact ⟨i + 1, by go_num, by omega, HZ.out⟩
        · have hor : ¬ i < len ∨ (i < len ∧ ¬ i < len') := by omega
          have kl := list_any len len' cap cap' (HA.out.1.below HW.out) (HA.out.2.2.1.below HW.out) HA.out.2.1 HA.out.2.2.2 (by omega) (by omega)
          obtain ⟨g, hg⟩ : ∃ g, lsP A B = g := ⟨_, rfl⟩
          rw [hg] at kl
          have HG : Hid (lsP A B = g) := hg
          clear hin hg
          rcases hor with h | h
          case' inl =>
            have e1 : decide ((i : Int) < (len : Int)) = false := decide_eq_false (by omega)
            go_wp2_with fail
          case' inr =>
            have e1 : decide ((i : Int) < (len : Int)) = true := decide_eq_true (by omega)
            have e2 : decide ((i : Int) < (len' : Int)) = false := decide_eq_false (by omega)
            go_wp2_with fail
          all_goals
            refine kl.mono ?_
            rintro e w3 ⟨rfl, b3⟩
            have H3 : Hid (Below w.heap.size w w3) := HW.out.trans (b3.mono HW.out.size)
            clear kl b3 HW
            have kl := rlist_any len len' cap cap' (HA.out.1.below H3.out) (HA.out.2.2.1.below H3.out) HA.out.2.1 HA.out.2.2.2 (by omega) (by omega)
            rw [HG.out] at kl
            go_wp2_with fail
            refine kl.mono ?_
            rintro e w4 ⟨rfl, b4⟩
            have H4 : Hid (Below w.heap.size w w4) := H3.out.trans (b4.mono H3.out.size)
            clear kl b4 H3
            have kl := list_any len len cap cap (HA.out.1.below H4.out) (HA.out.1.below H4.out) HA.out.2.1 HA.out.2.1 (by omega) (by omega)
            rw [lsP_refl] at kl
            have hgg : (g == g) = true := by simp
            go_wp2_with fail
            refine kl.mono ?_
            rintro e w5 ⟨rfl, b5⟩
            have H5 : Hid (Below w.heap.size w w5) := H4.out.trans (b5.mono H4.out.size)
            clear kl b5 H4
            have kl := text_any len cap (HA.out.1.below H5.out) HA.out.2.1 hb
            obtain ⟨S, hS⟩ : ∃ S, (⟨(txP A).toArray⟩ : ByteArray) = S := ⟨_, rfl⟩
            rw [hS] at kl
            have HS : Hid ((⟨(txP A).toArray⟩ : ByteArray) = S) := hS
            clear hS
            go_wp2_with fail
            refine kl.mono ?_
            rintro e w6 ⟨rfl, b6⟩
            have H6 : Hid (Below w.heap.size w w6) := H5.out.trans (b6.mono H5.out.size)
            clear kl b6 H5
            have kl := rtext_any len cap (HA.out.1.below H6.out) HA.out.2.1 hb
            rw [HS.out] at kl
            go_wp2_with fail
            refine kl.mono ?_
            rintro e w7 ⟨rfl, b7⟩
            have H7 : Hid (Below w.heap.size w w7) := H6.out.trans (b7.mono H6.out.size)
            clear kl b7 H6
            go_wp2_with fail
            refine (awake_any _).mono ?_
            rintro e wz ⟨rfl, bz⟩
            have HZ : Hid (Below w.heap.size w wz) := H7.out.trans (bz.mono H7.out.size)
            clear bz
            go_wp2_with fail
            go_ret
            exact ⟨rfl, HZ.out⟩

end Go.Proofs.Ytnpaodagpleiaaa
