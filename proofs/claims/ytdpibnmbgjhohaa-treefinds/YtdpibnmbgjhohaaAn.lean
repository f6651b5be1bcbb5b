/- The document's Sorted of numbers: one call of it. -/
import Derived.Test.YtdpibnmbgjhohaaAm
namespace Go.Proofs.Ytdpibnmbgjhohaa
open Go.RowKit

abbrev mg (A B : List Int) : List Int := List.merge A B (fun a b => decide (a ≤ b))
theorem mg_nil (A : List Int) : mg A [] = A := by simp [mg]
theorem nil_mg (A : List Int) : mg [] A = A := by simp [mg]
theorem mg_le {x y : Int} (A B : List Int) (h : x ≤ y) : mg (x :: A) (y :: B) = x :: mg A (y :: B) := by simp [mg, h]
theorem mg_gt {x y : Int} (A B : List Int) (h : ¬ x ≤ y) : mg (x :: A) (y :: B) = y :: mg (x :: A) B := by simp [mg, h]
theorem mg_perm (A B : List Int) : (mg A B).Perm (A ++ B) := List.merge_perm_append _
theorem mg_sorted {A B : List Int} (ha : A.Pairwise (· ≤ ·)) (hb : B.Pairwise (· ≤ ·)) : (mg A B).Pairwise (· ≤ ·) := by
  have := List.pairwise_merge (le := fun a b : Int => decide (a ≤ b)) (fun a b c => by simp; omega) (fun a b => by simp; omega) A B (by simpa using ha) (by simpa using hb)
  simpa using this
set_option maxHeartbeats 4000000 in
set_option maxRecDepth 20000 in
theorem rsort_one {w : World} {ao : Option Addr} {L : List Int} (n cap : Nat) (ha : IntRow w ao L) (hn : L.length = n) (hc : n ≤ cap) (hcm : cap ≤ maxLen) (h2 : 2 ≤ n) (hn2 : n ≤ 1000000)
    (hk : ∀ w' ao' (K : List Int) m c, Below w.heap.size w w' → IntRow w' ao' K → K.length = m → m < n → m ≤ c → c ≤ maxLen → Calls Try.prog 35 #[.slice ao' m c] w' fun e w'' => SortedIs K m w' e w'') :
    Calls Try.prog 35 #[.slice ao n cap] w fun e w' => SortedIs L n w e w' := by
  obtain ⟨q, hq⟩ : ∃ q, n / 2 = q := ⟨_, rfl⟩
  have hdv : ((n : Int)).tdiv 2 = (q : Int) := by rw [← hq]; exact (Int.ofNat_tdiv n 2).symm
  have hq1 : 1 ≤ q := by omega
  have hq2 : q < n := by omega
  have g0 : decide ((n : Int) < 2) = false := decide_eq_false (by omega)
  have h3 : q ≤ cap := by omega
  have h4 : (q : Int) ≤ (n : Int) := by omega
  have h5 : (0 : Int) ≤ (q : Int) := by omega
  have h6 : (q : Int) ≤ (cap : Int) := by omega
  have hwq : IntKind.i64.wrap (q : Int) = (q : Int) := by rw [IntKind.wrap_i64]; omega
  go_enter Try.func35, Try.ntmps35
  go_upto_region 3 with fail
  have HC1 : Hid (∀ wd, Below w.heap.size w wd → Calls Try.prog 35 #[.slice ao q cap] wd fun e w1 => ∃ a1 c1 A, e = .returned (.slice a1 q c1) ∧ Below w.heap.size w w1 ∧ Hid (q ≤ c1 ∧ c1 ≤ maxLen ∧ A.length = q ∧ A.Perm (L.take q) ∧ A.Pairwise (· ≤ ·) ∧ IntRow w1 a1 A)) := by
    intro wd b
    refine (hk wd ao (L.take q) q cap b ((ha.old b).take q) (by rw [List.length_take]; omega) hq2 h3 hcm).mono ?_
    rintro e w1 ⟨a1, c1, A, rfl, r1, r2, r3, r4, r5, r6, r7⟩
    exact ⟨a1, c1, A, rfl, b.trans (r7.mono b.size), r1, r2, r3, r4, r5, r6⟩
  have HC2 : Hid (∀ wd, Below w.heap.size w wd → Calls Try.prog 35 #[.slice (if cap = q then ao else ao.map (·.add q)) (n - q) (cap - q)] wd fun e w1 => ∃ b1 d1 B, e = .returned (.slice b1 (n - q) d1) ∧ Below wd.heap.size wd w1 ∧ Hid (n - q ≤ d1 ∧ d1 ≤ maxLen ∧ B.length = n - q ∧ B.Perm (L.drop q) ∧ B.Pairwise (· ≤ ·) ∧ IntRow w1 b1 B)) := by
    intro wd b
    refine (hk wd _ (L.drop q) (n - q) (cap - q) b ((ha.old b).drop q cap (by rw [hn]; exact hc)) (by rw [List.length_drop]; omega) (by omega) (by omega) (by omega)).mono ?_
    rintro e w1 ⟨a1, c1, A, rfl, r1, r2, r3, r4, r5, r6, r7⟩
    exact ⟨a1, c1, A, rfl, r7, r1, r2, r3, r4, r5, r6⟩
  have HL : Hid (IntRow w ao L ∧ L.length = n ∧ (L.take q ++ L.drop q) = L) := ⟨ha, hn, List.take_append_drop q L⟩
  clear hk ha hn hcm
  go_region_law (first
      | (refine step_call1 35 _ _ rfl rfl enters35 _ (by first | (simp [Act.eval]; done) | simp [Act.eval, Act.put]) (HC1.out _ ((Below.refl _ _).drew)) ?_; rintro e w1 ⟨a1, c1, A, rfl, B1, HA⟩; refine ⟨_, rfl, ?_⟩)
      | (refine step_call1 35 _ _ rfl rfl enters35 _ (by first | (simp [Act.eval]; done) | simp [Act.eval, Act.put]) (HC2.out _ B1) ?_; rintro e w2 ⟨b1, d1, B, rfl, B2, HB⟩; refine ⟨_, rfl, ?_⟩))
  have HA2 := HA.out.2.2.2.2.2.old B2
  have HO : Hid (Below w.heap.size w w2 ∧ (mg A B).length = n ∧ (mg A B).Perm L ∧ (mg A B).Pairwise (· ≤ ·)) := by
    have p := (mg_perm A B).trans ((HA.out.2.2.2.1.append HB.out.2.2.2.1).trans (by rw [HL.out.2.2]))
    exact ⟨B1.trans (B2.mono B1.size), by rw [p.length_eq]; exact HL.out.2.1, p, mg_sorted HA.out.2.2.2.2.1 HB.out.2.2.2.2.1⟩
  have HS : Hid (A.length = q ∧ B.length = n - q ∧ q ≤ c1 ∧ c1 ≤ maxLen ∧ n - q ≤ d1 ∧ d1 ≤ maxLen ∧ IntRow w2 a1 A ∧ IntRow w2 b1 B) := ⟨HA.out.2.2.1, HB.out.2.2.1, HA.out.1, HA.out.2.1, HB.out.1, HB.out.2.1, HA2, HB.out.2.2.2.2.2⟩
  clear HA HA2 HC1 HC2 B1 B2 HL HB
  go_wp2_with fail
  go_loopg [3, 4, 5] n (fun g2 av bv ov wr => ∃ (la ca lb cb : Nat) (ap bp : Option Addr) (A' B' O : List Int), av = .slice ap la ca ∧ bv = .slice bp lb cb ∧ la + lb = g2 ∧ la ≤ ca ∧ lb ≤ cb ∧ ca ≤ maxLen ∧ cb ≤ maxLen ∧ A'.length = la ∧ B'.length = lb ∧ Hid (IntRow w2 ap A' ∧ IntRow w2 bp B' ∧ Below w2.heap.size w2 wr ∧ Rw (fun k => k < w2.heap.size) wr 3 1 ov O.length (ivs O) ∧ O ++ mg A' B' = mg A B ∧ O.length + la + lb = n))
  case atStart => exact ⟨q, c1, n - q, d1, a1, b1, A, B, [], rfl, rfl, by omega, HS.out.2.2.1, HS.out.2.2.2.2.1, HS.out.2.2.2.1, HS.out.2.2.2.2.2.1, HS.out.1, HS.out.2.1, HS.out.2.2.2.2.2.2.1, HS.out.2.2.2.2.2.2.2, Below.refl _ _, Rw.nil _ _ _ _, by simp, by simp; omega⟩
  case round =>
    obtain ⟨la, ca, lb, cb, ap, bp, A', B', O, rfl, rfl, hg, r1, r2, r3, r4, r5, r6, HI⟩ := hrel
    unfold maxLen at r3 r4
    cases A' with
    | nil =>
      obtain rfl : la = 0 := by rw [← r5]; rfl
      cases B' with
      | nil =>
        obtain rfl : lb = 0 := by rw [← r6]; rfl
        obtain ⟨oo, oc, rfl, q1, q2, q3, q4⟩ := HI.out.2.2.2.1.ints
        go_wp2_with fail
        go_ret
        have e : O = mg A B := by have := HI.out.2.2.2.2.1; rwa [mg_nil, List.append_nil] at this
        have en : O.length = n := by rw [e]; exact HO.out.2.1
        refine ⟨oo, oc, O, by rw [← en]; rfl, by omega, q2, en, by rw [e]; exact HO.out.2.2.1, by rw [e]; exact HO.out.2.2.2, q4, HO.out.1.trans (HI.out.2.2.1.mono HO.out.1.size)⟩
      | cons y B' =>
        have hlb : 0 < lb := by rw [← r6]; simp
        obtain ⟨bb, bo, rfl, hbb, hb0⟩ := HI.out.2.1 0 y rfl
        have c0 : wr.cell? ⟨bb, bo, none⟩ = some (iv y) := (HI.out.2.2.1.cell (p := ⟨bb, bo, none⟩) hbb).trans (by simpa using hb0)
        have g1 : decide ((lb : Int) > 0) = true := decide_eq_true (by omega)
        have g1' : decide (0 < lb) = true := decide_eq_true hlb
        have g2 : ((lb : Int) == 0) = false := by simp; omega
        have g3 : (0 : Int) < (lb : Int) := by omega
        have g4 : ¬ (lb : Int) = 0 := by omega
        have g5 : ¬ lb = 0 := by omega
        obtain ⟨k, rfl⟩ : ∃ k, gk = k + 1 := ⟨gk - 1, by omega⟩
        go_upto_region 6 with fail
        have HF : Hid (lb ≤ cb ∧ cb ≤ 9223372036854775807 ∧ 0 ≤ ca ∧ ca ≤ 9223372036854775807 ∧ B'.length + 1 = lb ∧ 0 + lb = k + 1 ∧ n ≤ 1000000) := ⟨r2, by omega, by omega, by omega, r6, hg, hn2⟩
        have HG : Hid (0 + lb = k + 1) := hg
        have HR : Hid (([] : List Int).length = 0) := r5
        clear hc h2 hn2 hq hdv hq1 hq2 g0 h3 h4 h5 h6 hwq hg r1 r2 r3 r4 r5 r6
        go_quiet (fail)
        go_upto_region 9 with fail
        obtain ⟨V, hV⟩ : ∃ V, V = wr.drewN nq := ⟨_, rfl⟩
        have bV : Below wr.heap.size wr V := by rw [hV]; exact below_drewN (Below.refl _ _) _
        rw [← hV]
        have b2V : Below w2.heap.size w2 V := HI.out.2.2.1.trans (bV.mono HI.out.2.2.1.size)
        have e0' : V.cell? ⟨bb, bo, none⟩ = some (iv y) := (bV.cell (p := ⟨bb, bo, none⟩) (Nat.lt_of_lt_of_le hbb HI.out.2.2.1.size)).trans c0
        obtain ⟨v', W', hrun, hr', hb'⟩ := ints_more (HI.out.2.2.2.1.old bV) b2V y (by have := HI.out.2.2.2.2.2; have := HF.out; omega)
        have HN : Hid ((∀ p', (cb = 1 → p' = (some ⟨bb, bo, none⟩ : Option Addr)) → (¬ cb = 1 → p' = some ⟨bb, bo + 1, none⟩) → IntRow w2 p' B') ∧ Below w2.heap.size w2 W' ∧ Rw (fun k => k < w2.heap.size) W' 3 1 v' (O ++ [y]).length (ivs (O ++ [y])) ∧ (O ++ [y]) ++ mg ([] : List Int) B' = mg A B ∧ (O ++ [y]).length + 0 + (lb - 1) = n ∧ B'.length = lb - 1) := by
          refine ⟨fun p' e1 e2 => ?_, hb', by rw [List.length_append]; exact hr', ?_, ?_, ?_⟩
          · intro i u hu
            have hil := (List.getElem?_eq_some_iff.1 hu).1
            have := HF.out
            rw [e2 (by omega)]
            obtain ⟨b', o', e, h1, h2⟩ := HI.out.2.1 (i + 1) u (by simpa using hu)
            simp only [Option.some.injEq, Addr.mk.injEq, and_true] at e
            obtain ⟨rfl, rfl⟩ := e
            exact ⟨_, _, rfl, h1, by rw [Nat.add_assoc, Nat.add_comm 1 i]; exact h2⟩
          · rw [← HI.out.2.2.2.2.1, List.append_assoc, nil_mg, nil_mg]; rfl
          · have := HI.out.2.2.2.2.2; have := HF.out; rw [List.length_append]; simp; omega
          · have := HF.out; omega
        have f1 : (1 : Int) ≤ (lb : Int) := by omega
        have f2 : 1 ≤ lb := by omega
        have f3 : lb ≤ cb := by have := HF.out; omega
        have f4 : (lb : Int) ≤ (cb : Int) := by omega
        clear hr' hb' bV b2V hV c0
        go_wp2_with (at_builtin; refine list_append_eq rfl _ _ 31 31 rfl _ _ rfl rfl hrun ?_)
        · go_roundg k
          case measure => have := HF.out; omega
          case rel =>
            have q := HF.out
            unfold maxLen
            exact ⟨0, ca, lb - 1, 0, _, some ⟨bb, bo, none⟩, [], B', O ++ [y], rfl, rfl, by omega, by omega, by omega, by omega, by omega, HR.out, HN.out.2.2.2.2.2, HI.out.1, HN.out.1 _ (fun h => by first | rfl | exact absurd h (by assumption)) (fun h => by first | rfl | exact absurd rfl h | exact absurd (by assumption) h), HN.out.2.1, HN.out.2.2.1, HN.out.2.2.2.1, HN.out.2.2.2.2.1⟩
        · go_roundg k
          case measure => have := HF.out; omega
          case rel =>
            have q := HF.out
            unfold maxLen
            exact ⟨0, ca, lb - 1, cb - 1, _, some ⟨bb, bo + 1, none⟩, [], B', O ++ [y], rfl, rfl, by omega, by omega, by omega, by omega, by omega, HR.out, HN.out.2.2.2.2.2, HI.out.1, HN.out.1 _ (fun h => by first | rfl | exact absurd h (by assumption)) (fun h => by first | rfl | exact absurd rfl h | exact absurd (by assumption) h), HN.out.2.1, HN.out.2.2.1, HN.out.2.2.2.1, HN.out.2.2.2.2.1⟩
    | cons x A' =>
      have hla : 0 < la := by rw [← r5]; simp
      obtain ⟨ab, ao', rfl, hab, ha0⟩ := HI.out.1 0 x rfl
      have d0 : wr.cell? ⟨ab, ao', none⟩ = some (iv x) := (HI.out.2.2.1.cell (p := ⟨ab, ao', none⟩) hab).trans (by simpa using ha0)
      have k1 : decide ((la : Int) > 0) = true := decide_eq_true (by omega)
      have k1' : decide (0 < la) = true := decide_eq_true hla
      have k3 : (0 : Int) < (la : Int) := by omega
      obtain ⟨k, rfl⟩ : ∃ k, gk = k + 1 := ⟨gk - 1, by omega⟩
      cases B' with
      | nil =>
        obtain rfl : lb = 0 := by rw [← r6]; rfl
        go_upto_region 6 with fail
        have HF : Hid (0 ≤ cb ∧ cb ≤ 9223372036854775807 ∧ la ≤ ca ∧ ca ≤ 9223372036854775807 ∧ A'.length + 1 = la ∧ la + 0 = k + 1 ∧ n ≤ 1000000) := ⟨by omega, by omega, r1, by omega, r5, hg, hn2⟩
        have HG : Hid (la + 0 = k + 1) := hg
        have HR : Hid (([] : List Int).length = 0) := r6
        clear hc h2 hn2 hq hdv hq1 hq2 g0 h3 h4 h5 h6 hwq hg r1 r2 r3 r4 r5 r6
        go_quiet (fail)
        go_upto_region 7 with fail
        obtain ⟨V, hV⟩ : ∃ V, V = wr.drewN nq := ⟨_, rfl⟩
        have bV : Below wr.heap.size wr V := by rw [hV]; exact below_drewN (Below.refl _ _) _
        rw [← hV]
        have b2V : Below w2.heap.size w2 V := HI.out.2.2.1.trans (bV.mono HI.out.2.2.1.size)
        have e0' : V.cell? ⟨ab, ao', none⟩ = some (iv x) := (bV.cell (p := ⟨ab, ao', none⟩) (Nat.lt_of_lt_of_le hab HI.out.2.2.1.size)).trans d0
        obtain ⟨v', W', hrun, hr', hb'⟩ := ints_more (HI.out.2.2.2.1.old bV) b2V x (by have := HI.out.2.2.2.2.2; have := HF.out; omega)
        have HN : Hid ((∀ p', (ca = 1 → p' = (some ⟨ab, ao', none⟩ : Option Addr)) → (¬ ca = 1 → p' = some ⟨ab, ao' + 1, none⟩) → IntRow w2 p' A') ∧ Below w2.heap.size w2 W' ∧ Rw (fun k => k < w2.heap.size) W' 3 1 v' (O ++ [x]).length (ivs (O ++ [x])) ∧ (O ++ [x]) ++ mg A' [] = mg A B ∧ (O ++ [x]).length + (la - 1) + 0 = n ∧ A'.length = la - 1) := by
          refine ⟨fun p' e1 e2 => ?_, hb', by rw [List.length_append]; exact hr', ?_, ?_, ?_⟩
          · intro i u hu
            have hil := (List.getElem?_eq_some_iff.1 hu).1
            have := HF.out
            rw [e2 (by omega)]
            obtain ⟨b', o', e, h1, h2⟩ := HI.out.1 (i + 1) u (by simpa using hu)
            simp only [Option.some.injEq, Addr.mk.injEq, and_true] at e
            obtain ⟨rfl, rfl⟩ := e
            exact ⟨_, _, rfl, h1, by rw [Nat.add_assoc, Nat.add_comm 1 i]; exact h2⟩
          · rw [← HI.out.2.2.2.2.1, List.append_assoc, mg_nil, mg_nil]; rfl
          · have := HI.out.2.2.2.2.2; have := HF.out; rw [List.length_append]; simp; omega
          · have := HF.out; omega
        have f1 : (1 : Int) ≤ (la : Int) := by omega
        have f2 : 1 ≤ la := by omega
        have f3 : la ≤ ca := by have := HF.out; omega
        have f4 : (la : Int) ≤ (ca : Int) := by omega
        clear hr' hb' bV b2V hV d0
        go_wp2_with (at_builtin; refine list_append_eq rfl _ _ 31 31 rfl _ _ rfl rfl hrun ?_)
        · go_roundg k
          case measure => have := HF.out; omega
          case rel =>
            have q := HF.out
            unfold maxLen
            exact ⟨la - 1, 0, 0, cb, some ⟨ab, ao', none⟩, _, A', [], O ++ [x], rfl, rfl, by omega, by omega, by omega, by omega, by omega, HN.out.2.2.2.2.2, HR.out, HN.out.1 _ (fun h => by first | rfl | exact absurd h (by assumption)) (fun h => by first | rfl | exact absurd rfl h | exact absurd (by assumption) h), HI.out.2.1, HN.out.2.1, HN.out.2.2.1, HN.out.2.2.2.1, HN.out.2.2.2.2.1⟩
        · go_roundg k
          case measure => have := HF.out; omega
          case rel =>
            have q := HF.out
            unfold maxLen
            exact ⟨la - 1, ca - 1, 0, cb, some ⟨ab, ao' + 1, none⟩, _, A', [], O ++ [x], rfl, rfl, by omega, by omega, by omega, by omega, by omega, HN.out.2.2.2.2.2, HR.out, HN.out.1 _ (fun h => by first | rfl | exact absurd h (by assumption)) (fun h => by first | rfl | exact absurd rfl h | exact absurd (by assumption) h), HI.out.2.1, HN.out.2.1, HN.out.2.2.1, HN.out.2.2.2.1, HN.out.2.2.2.2.1⟩
      | cons y B' =>
        have hlb : 0 < lb := by rw [← r6]; simp
        obtain ⟨bb, bo, rfl, hbb, hb0⟩ := HI.out.2.1 0 y rfl
        have c0 : wr.cell? ⟨bb, bo, none⟩ = some (iv y) := (HI.out.2.2.1.cell (p := ⟨bb, bo, none⟩) hbb).trans (by simpa using hb0)
        have g1 : decide ((lb : Int) > 0) = true := decide_eq_true (by omega)
        have g1' : decide (0 < lb) = true := decide_eq_true hlb
        have g2 : ((lb : Int) == 0) = false := by simp; omega
        have g3 : (0 : Int) < (lb : Int) := by omega
        have g4 : ¬ (lb : Int) = 0 := by omega
        have g5 : ¬ lb = 0 := by omega
        by_cases hle : x ≤ y
        · have l1 : decide (x ≤ y) = true := decide_eq_true hle
          go_upto_region 6 with fail
          have HF : Hid (lb ≤ cb ∧ cb ≤ 9223372036854775807 ∧ la ≤ ca ∧ ca ≤ 9223372036854775807 ∧ A'.length + 1 = la ∧ la + lb = k + 1 ∧ n ≤ 1000000) := ⟨r2, by omega, r1, by omega, r5, hg, hn2⟩
          have HG : Hid (la + lb = k + 1) := hg
          have HR : Hid ((y :: B').length = lb) := r6
          clear hc h2 hn2 hq hdv hq1 hq2 g0 h3 h4 h5 h6 hwq hg r1 r2 r3 r4 r5 r6
          go_quiet (fail)
          go_upto_region 7 with fail
          obtain ⟨V, hV⟩ : ∃ V, V = wr.drewN nq := ⟨_, rfl⟩
          have bV : Below wr.heap.size wr V := by rw [hV]; exact below_drewN (Below.refl _ _) _
          rw [← hV]
          have b2V : Below w2.heap.size w2 V := HI.out.2.2.1.trans (bV.mono HI.out.2.2.1.size)
          have e0' : V.cell? ⟨ab, ao', none⟩ = some (iv x) := (bV.cell (p := ⟨ab, ao', none⟩) (Nat.lt_of_lt_of_le hab HI.out.2.2.1.size)).trans d0
          obtain ⟨v', W', hrun, hr', hb'⟩ := ints_more (HI.out.2.2.2.1.old bV) b2V x (by have := HI.out.2.2.2.2.2; have := HF.out; omega)
          have HN : Hid ((∀ p', (ca = 1 → p' = (some ⟨ab, ao', none⟩ : Option Addr)) → (¬ ca = 1 → p' = some ⟨ab, ao' + 1, none⟩) → IntRow w2 p' A') ∧ Below w2.heap.size w2 W' ∧ Rw (fun k => k < w2.heap.size) W' 3 1 v' (O ++ [x]).length (ivs (O ++ [x])) ∧ (O ++ [x]) ++ mg A' (y :: B') = mg A B ∧ (O ++ [x]).length + (la - 1) + lb = n ∧ A'.length = la - 1) := by
            refine ⟨fun p' e1 e2 => ?_, hb', by rw [List.length_append]; exact hr', ?_, ?_, ?_⟩
            · intro i u hu
              have hil := (List.getElem?_eq_some_iff.1 hu).1
              have := HF.out
              rw [e2 (by omega)]
              obtain ⟨b', o', e, h1, h2⟩ := HI.out.1 (i + 1) u (by simpa using hu)
              simp only [Option.some.injEq, Addr.mk.injEq, and_true] at e
              obtain ⟨rfl, rfl⟩ := e
              exact ⟨_, _, rfl, h1, by rw [Nat.add_assoc, Nat.add_comm 1 i]; exact h2⟩
            · rw [← HI.out.2.2.2.2.1, List.append_assoc, mg_le _ _ hle]; rfl
            · have := HI.out.2.2.2.2.2; have := HF.out; rw [List.length_append]; simp; omega
            · have := HF.out; omega
          have f1 : (1 : Int) ≤ (la : Int) := by omega
          have f2 : 1 ≤ la := by omega
          have f3 : la ≤ ca := by have := HF.out; omega
          have f4 : (la : Int) ≤ (ca : Int) := by omega
          clear hr' hb' bV b2V hV d0
          go_wp2_with (at_builtin; refine list_append_eq rfl _ _ 31 31 rfl _ _ rfl rfl hrun ?_)
          · go_roundg k
            case measure => have := HF.out; omega
            case rel =>
              have q := HF.out
              unfold maxLen
              exact ⟨la - 1, 0, lb, cb, some ⟨ab, ao', none⟩, _, A', (y :: B'), O ++ [x], rfl, rfl, by omega, by omega, by omega, by omega, by omega, HN.out.2.2.2.2.2, HR.out, HN.out.1 _ (fun h => by first | rfl | exact absurd h (by assumption)) (fun h => by first | rfl | exact absurd rfl h | exact absurd (by assumption) h), HI.out.2.1, HN.out.2.1, HN.out.2.2.1, HN.out.2.2.2.1, HN.out.2.2.2.2.1⟩
          · go_roundg k
            case measure => have := HF.out; omega
            case rel =>
              have q := HF.out
              unfold maxLen
              exact ⟨la - 1, ca - 1, lb, cb, some ⟨ab, ao' + 1, none⟩, _, A', (y :: B'), O ++ [x], rfl, rfl, by omega, by omega, by omega, by omega, by omega, HN.out.2.2.2.2.2, HR.out, HN.out.1 _ (fun h => by first | rfl | exact absurd h (by assumption)) (fun h => by first | rfl | exact absurd rfl h | exact absurd (by assumption) h), HI.out.2.1, HN.out.2.1, HN.out.2.2.1, HN.out.2.2.2.1, HN.out.2.2.2.2.1⟩
        · have l1 : decide (x ≤ y) = false := decide_eq_false hle
          go_upto_region 6 with fail
          have HF : Hid (lb ≤ cb ∧ cb ≤ 9223372036854775807 ∧ la ≤ ca ∧ ca ≤ 9223372036854775807 ∧ B'.length + 1 = lb ∧ la + lb = k + 1 ∧ n ≤ 1000000) := ⟨r2, by omega, r1, by omega, r6, hg, hn2⟩
          have HG : Hid (la + lb = k + 1) := hg
          have HR : Hid ((x :: A').length = la) := r5
          clear hc h2 hn2 hq hdv hq1 hq2 g0 h3 h4 h5 h6 hwq hg r1 r2 r3 r4 r5 r6
          go_quiet (fail)
          go_upto_region 9 with fail
          obtain ⟨V, hV⟩ : ∃ V, V = wr.drewN nq := ⟨_, rfl⟩
          have bV : Below wr.heap.size wr V := by rw [hV]; exact below_drewN (Below.refl _ _) _
          rw [← hV]
          have b2V : Below w2.heap.size w2 V := HI.out.2.2.1.trans (bV.mono HI.out.2.2.1.size)
          have e0' : V.cell? ⟨bb, bo, none⟩ = some (iv y) := (bV.cell (p := ⟨bb, bo, none⟩) (Nat.lt_of_lt_of_le hbb HI.out.2.2.1.size)).trans c0
          obtain ⟨v', W', hrun, hr', hb'⟩ := ints_more (HI.out.2.2.2.1.old bV) b2V y (by have := HI.out.2.2.2.2.2; have := HF.out; omega)
          have HN : Hid ((∀ p', (cb = 1 → p' = (some ⟨bb, bo, none⟩ : Option Addr)) → (¬ cb = 1 → p' = some ⟨bb, bo + 1, none⟩) → IntRow w2 p' B') ∧ Below w2.heap.size w2 W' ∧ Rw (fun k => k < w2.heap.size) W' 3 1 v' (O ++ [y]).length (ivs (O ++ [y])) ∧ (O ++ [y]) ++ mg (x :: A') B' = mg A B ∧ (O ++ [y]).length + la + (lb - 1) = n ∧ B'.length = lb - 1) := by
            refine ⟨fun p' e1 e2 => ?_, hb', by rw [List.length_append]; exact hr', ?_, ?_, ?_⟩
            · intro i u hu
              have hil := (List.getElem?_eq_some_iff.1 hu).1
              have := HF.out
              rw [e2 (by omega)]
              obtain ⟨b', o', e, h1, h2⟩ := HI.out.2.1 (i + 1) u (by simpa using hu)
              simp only [Option.some.injEq, Addr.mk.injEq, and_true] at e
              obtain ⟨rfl, rfl⟩ := e
              exact ⟨_, _, rfl, h1, by rw [Nat.add_assoc, Nat.add_comm 1 i]; exact h2⟩
            · rw [← HI.out.2.2.2.2.1, List.append_assoc, mg_gt _ _ hle]; rfl
            · have := HI.out.2.2.2.2.2; have := HF.out; rw [List.length_append]; simp; omega
            · have := HF.out; omega
          have f1 : (1 : Int) ≤ (lb : Int) := by omega
          have f2 : 1 ≤ lb := by omega
          have f3 : lb ≤ cb := by have := HF.out; omega
          have f4 : (lb : Int) ≤ (cb : Int) := by omega
          clear hr' hb' bV b2V hV c0
          go_wp2_with (at_builtin; refine list_append_eq rfl _ _ 31 31 rfl _ _ rfl rfl hrun ?_)
          · go_roundg k
            case measure => have := HF.out; omega
            case rel =>
              have q := HF.out
              unfold maxLen
              exact ⟨la, ca, lb - 1, 0, _, some ⟨bb, bo, none⟩, (x :: A'), B', O ++ [y], rfl, rfl, by omega, by omega, by omega, by omega, by omega, HR.out, HN.out.2.2.2.2.2, HI.out.1, HN.out.1 _ (fun h => by first | rfl | exact absurd h (by assumption)) (fun h => by first | rfl | exact absurd rfl h | exact absurd (by assumption) h), HN.out.2.1, HN.out.2.2.1, HN.out.2.2.2.1, HN.out.2.2.2.2.1⟩
          · go_roundg k
            case measure => have := HF.out; omega
            case rel =>
              have q := HF.out
              unfold maxLen
              exact ⟨la, ca, lb - 1, cb - 1, _, some ⟨bb, bo + 1, none⟩, (x :: A'), B', O ++ [y], rfl, rfl, by omega, by omega, by omega, by omega, by omega, HR.out, HN.out.2.2.2.2.2, HI.out.1, HN.out.1 _ (fun h => by first | rfl | exact absurd h (by assumption)) (fun h => by first | rfl | exact absurd rfl h | exact absurd (by assumption) h), HN.out.2.1, HN.out.2.2.1, HN.out.2.2.2.1, HN.out.2.2.2.2.1⟩
end Go.Proofs.Ytdpibnmbgjhohaa
