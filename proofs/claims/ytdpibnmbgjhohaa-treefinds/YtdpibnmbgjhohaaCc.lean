/- Two nodes: slices.Equal, agree, equal; Equal. -/
import Derived.Test.YtdpibnmbgjhohaaCb
import Derived.Test.YtdpibnmbgjhohaaAh
import Derived.Test.YtdpibnmbgjhohaaBj
namespace Go.Proofs.Ytdpibnmbgjhohaa
open Go.RowKit

set_option maxHeartbeats 1000000 in
theorem sleq_ats {w : World} {ao bo : Option Addr} {A B : List At} (n m ca cb : Nat) (ha : AtRow w ao A) (hb : AtRow w bo B) (hn : A.length = n) (hm : B.length = m) (hn2 : n ≤ 9223372036854775807) :
    Calls Try.prog 45 #[.slice ao n ca, .slice bo m cb] w fun e w' => e = .returned (.bool (eqA A B)) ∧ ∃ q, w' = w.drewN q := by
  have HA : Hid (AtRow w ao A ∧ AtRow w bo B ∧ A.length = n ∧ B.length = m) := ⟨ha, hb, hn, hm⟩
  clear ha hb hn hm
  by_cases hnm : n = m
  · subst hnm
    go_enter Try.func45, Try.ntmps45
    go_wp2_with fail
    go_loopg [13] n (fun g2 iv wr => ∃ (i q : Nat), iv = .int .i64 i ∧ i + g2 = n ∧ wr = w.drewN q ∧ Hid (A.take i = B.take i))
    case atStart => exact ⟨0, 0, rfl, by omega, rfl, by simp [Hid]⟩
    case round =>
      obtain ⟨i, q, rfl, hig, rfl, HT⟩ := hrel
      cases gk with
      | zero =>
        obtain rfl : i = n := by omega
        have hg0 : decide ((i : Int) < (i : Int)) = false := decide_eq_false (by omega)
        have HE : Hid (eqA A B = true) := by
          refine eqA_iff.2 ?_
          have := HT.out
          rwa [List.take_of_length_le (by rw [HA.out.2.2.1]; omega), List.take_of_length_le (by rw [HA.out.2.2.2]; omega)] at this
        go_wp2_with fail
        go_ret
        exact ⟨by rw [HE.out]; rfl, _, rfl⟩
      | succ k =>
        have hin : i < n := by omega
        obtain ⟨x, hx⟩ : ∃ x, A[i]? = some x := ⟨_, List.getElem?_eq_getElem (by rw [HA.out.2.2.1]; exact hin)⟩
        obtain ⟨y, hy⟩ : ∃ y, B[i]? = some y := ⟨_, List.getElem?_eq_getElem (by rw [HA.out.2.2.2]; exact hin)⟩
        obtain ⟨b1, o1, rfl, h1, c1, c2⟩ := HA.out.1 i x hx
        obtain ⟨b2, o2, rfl, h2, c3, c4⟩ := HA.out.2.1 i y hy
        obtain ⟨nm1, vl1⟩ := x
        obtain ⟨nm2, vl2⟩ := y
        simp only at c1 c2 c3 c4
        cases hq : At.eqb ⟨nm1, vl1⟩ ⟨nm2, vl2⟩ with
        | true =>
          have hne : ∀ w : World, (binOp .neq 53 (.agg #[.string nm1, .string vl1]) (.agg #[.string nm2, .string vl2])).run Try.prog w = .ok (.bool false) w := fun w => by
            rw [ne53, hq]; rfl
          have HT2 : Hid (A.take (i + 1) = B.take (i + 1)) := by
            show A.take (i + 1) = B.take (i + 1)
            rw [List.take_add_one, List.take_add_one, hx, hy, HT.out, At.eqb_iff.1 hq]
          clear hq hx hy
          go_wp2_with fail
          go_quiet (fail)
          go_wp2_with fail
          go_roundg k
          case measure => omega
          case rel => exact ⟨i + 1, _, by go_num, by omega, rfl, HT2⟩
        | false =>
          have hne : ∀ w : World, (binOp .neq 53 (.agg #[.string nm1, .string vl1]) (.agg #[.string nm2, .string vl2])).run Try.prog w = .ok (.bool true) w := fun w => by
            rw [ne53, hq]; rfl
          have HE : Hid (eqA A B = false) := by
            refine eqA_no.2 fun e => ?_
            rw [e, hy] at hx
            have := At.eqb_iff.2 (Option.some.inj hx).symm
            rw [this] at hq
            exact absurd hq (by decide)
          clear hq hx hy
          go_wp2_with fail
          go_quiet (fail)
          go_wp2_with fail
          go_ret
          exact ⟨by rw [HE.out]; rfl, _, World.drewN_drewN _ _ _⟩
  · have h1 : ((n : Int) == (m : Int)) = false := by simp; omega
    have h2 : ¬ (n : Int) = (m : Int) := by omega
    have HE : Hid (eqA A B = false) := eqA_no.2 fun e => hnm (by rw [← HA.out.2.2.1, ← HA.out.2.2.2, e])
    go_enter Try.func45, Try.ntmps45
    go_wp2_with fail
    go_ret
    exact ⟨by rw [HE.out]; rfl, 0, rfl⟩
set_option maxRecDepth 20000 in
set_option maxHeartbeats 4000000 in
theorem agree_any {w : World} {b off b' off' : Nat} (d d' : Nd) {av av' : Value} {kp qp : Option Addr} (kn kc qn qc : Nat) (hc : CellsAt w b off (d.cs av (.slice kp kn kc))) (hc' : CellsAt w b' off' (d'.cs av' (.slice qp qn qc))) :
    Calls Try.prog 44 #[.pointer (some ⟨b, off, none⟩), .pointer (some ⟨b', off', none⟩)] w fun e w' => e = .returned (.bool (alk d kn d' qn)) ∧ ∃ q, w' = w.drewN q := by
  have x1 : w.cell? ⟨b, off + 1, none⟩ = some (iv d.kind) := hc 1 _ rfl
  have x2 : w.cell? ⟨b, off + 2, none⟩ = some (iv d.space) := hc 2 _ rfl
  have x3 : w.cell? ⟨b, off + 3, none⟩ = some (.string d.name) := hc 3 _ rfl
  have x4 : w.cell? ⟨b, off + 4, none⟩ = some (.string d.text) := hc 4 _ rfl
  have x10 : w.cell? ⟨b, off + 10, none⟩ = some (.slice kp kn kc) := hc 10 _ rfl
  have y1 : w.cell? ⟨b', off' + 1, none⟩ = some (iv d'.kind) := hc' 1 _ rfl
  have y2 : w.cell? ⟨b', off' + 2, none⟩ = some (iv d'.space) := hc' 2 _ rfl
  have y3 : w.cell? ⟨b', off' + 3, none⟩ = some (.string d'.name) := hc' 3 _ rfl
  have y4 : w.cell? ⟨b', off' + 4, none⟩ = some (.string d'.text) := hc' 4 _ rfl
  have y10 : w.cell? ⟨b', off' + 10, none⟩ = some (.slice qp qn qc) := hc' 10 _ rfl
  clear hc hc'
  by_cases h1 : d.kind = d'.kind
  · have g1 : (d.kind == d'.kind) = true := by simp [h1]
    by_cases h2 : d.space = d'.space
    · have g2 : (d.space == d'.space) = true := by simp [h2]
      by_cases h3 : d.name.data.toList = d'.name.data.toList
      · have g3 : (d.name.toList == d'.name.toList) = true := by rw [beq_bytes]; exact decide_eq_true h3
        by_cases h4 : d.text.data.toList = d'.text.data.toList
        · have g4 : (d.text.toList == d'.text.toList) = true := by rw [beq_bytes]; exact decide_eq_true h4
          by_cases h5 : kn = qn
          · have g5 : ((kn : Int) == (qn : Int)) = true := by simp [h5]
            have HN : Hid (alk d kn d' qn = true) := by
              show alk d kn d' qn = true
              simp [alk, h1, h2, h3, h4, h5]
            clear h1 h2 h3 h4 h5
            go_enter Try.func44, Try.ntmps44
            go_wp2_with fail
            go_quiet (fail)
            go_wp2_with fail
            go_ret
            exact ⟨by rw [HN.out]; rfl, _, rfl⟩
          · have g5 : ((kn : Int) == (qn : Int)) = false := by simp; omega
            have HN : Hid (alk d kn d' qn = false) := by
              show alk d kn d' qn = false
              simp [alk, h5]
            clear h1 h2 h3 h4 h5
            go_enter Try.func44, Try.ntmps44
            go_wp2_with fail
            go_quiet (fail)
            go_wp2_with fail
            go_ret
            exact ⟨by rw [HN.out]; rfl, _, rfl⟩
        · have g4 : (d.text.toList == d'.text.toList) = false := by rw [beq_bytes]; exact decide_eq_false h4
          have HN : Hid (alk d kn d' qn = false) := by
            show alk d kn d' qn = false
            simp [alk, h4]
          clear h1 h2 h3 h4
          go_enter Try.func44, Try.ntmps44
          go_wp2_with fail
          go_quiet (fail)
          go_wp2_with fail
          go_ret
          exact ⟨by rw [HN.out]; rfl, _, rfl⟩
      · have g3 : (d.name.toList == d'.name.toList) = false := by rw [beq_bytes]; exact decide_eq_false h3
        have HN : Hid (alk d kn d' qn = false) := by
          show alk d kn d' qn = false
          simp [alk, h3]
        clear h1 h2 h3
        go_enter Try.func44, Try.ntmps44
        go_wp2_with fail
        go_quiet (fail)
        go_wp2_with fail
        go_ret
        exact ⟨by rw [HN.out]; rfl, _, rfl⟩
    · have g2 : (d.space == d'.space) = false := by simp [h2]
      have HN : Hid (alk d kn d' qn = false) := by
        show alk d kn d' qn = false
        simp [alk, h2]
      clear h1 h2
      go_enter Try.func44, Try.ntmps44
      go_wp2_with fail
      go_quiet (fail)
      go_wp2_with fail
      go_ret
      exact ⟨by rw [HN.out]; rfl, _, rfl⟩
  · have g1 : (d.kind == d'.kind) = false := by simp [h1]
    have HN : Hid (alk d kn d' qn = false) := by
      show alk d kn d' qn = false
      simp [alk, h1]
    clear h1
    go_enter Try.func44, Try.ntmps44
    go_wp2_with fail
    go_quiet (fail)
    go_wp2_with fail
    go_ret
    exact ⟨by rw [HN.out]; rfl, _, rfl⟩
/-- What equal asks of two nodes. -/
noncomputable def eq1 (x y : Tr) : Bool := decide (x.d.id = y.d.id) && ((x.d.sf == y.d.sf && x.d.st == y.d.st) && ((x.d.ef == y.d.ef && x.d.et == y.d.et) && (alk x.d x.k.length y.d y.k.length && eqA x.d.al y.d.al)))
set_option maxRecDepth 20000 in
set_option maxHeartbeats 4000000 in
theorem equal_one {w : World} {b off b' off' : Nat} (x y : Tr) {ao bo kp qp : Option Addr} (an ac bn bc kn kc qn qc : Nat) (han : x.d.al.length = an) (hbn : y.d.al.length = bn) (hkn : x.k.length = kn) (hqn : y.k.length = qn) (ha : AtRow w ao x.d.al) (hb : AtRow w bo y.d.al) (hn : an ≤ 9223372036854775807)
    (hc : CellsAt w b off (x.d.cs (.slice ao an ac) (.slice kp kn kc))) (hc' : CellsAt w b' off' (y.d.cs (.slice bo bn bc) (.slice qp qn qc))) :
    Calls Try.prog 27 #[.pointer (some ⟨b, off, none⟩), .pointer (some ⟨b', off', none⟩)] w fun e w' => e = .returned (.bool (eq1 x y)) ∧ ∃ q, w' = w.drewN q := by
  have ka : ∀ q, Calls Try.prog 44 #[.pointer (some ⟨b, off, none⟩), .pointer (some ⟨b', off', none⟩)] (w.drewN q) fun e w' => e = .returned (.bool (alk x.d kn y.d qn)) ∧ ∃ q', w' = (w.drewN q).drewN q' := fun q => agree_any x.d y.d kn kc qn qc (fun j u hj => hc j u hj) (fun j u hj => hc' j u hj)
  have kb : ∀ q, Calls Try.prog 45 #[.slice ao an ac, .slice bo bn bc] (w.drewN q) fun e w' => e = .returned (.bool (eqA x.d.al y.d.al)) ∧ ∃ q', w' = (w.drewN q).drewN q' := fun q => sleq_ats an bn ac bc (fun i u hu => ha i u hu) (fun i u hu => hb i u hu) han hbn hn
  have HU : Hid (eq1 x y = (decide (x.d.id = y.d.id) && ((x.d.sf == y.d.sf && x.d.st == y.d.st) && ((x.d.ef == y.d.ef && x.d.et == y.d.et) && (alk x.d kn y.d qn && eqA x.d.al y.d.al))))) := by
    show eq1 x y = _
    rw [eq1, hkn, hqn]
  clear han hbn hkn hqn ha hb
  have x0 : w.cell? ⟨b, off, none⟩ = some (iv x.d.id) := hc 0 _ rfl
  have x5 : w.cell? ⟨b, off + 5, none⟩ = some (.slice ao an ac) := hc 5 _ rfl
  have x6 : w.cell? ⟨b, off + 6, none⟩ = some (iv x.d.sf) := hc 6 _ rfl
  have x7 : w.cell? ⟨b, off + 7, none⟩ = some (iv x.d.st) := hc 7 _ rfl
  have x8 : w.cell? ⟨b, off + 8, none⟩ = some (iv x.d.ef) := hc 8 _ rfl
  have x9 : w.cell? ⟨b, off + 9, none⟩ = some (iv x.d.et) := hc 9 _ rfl
  have y0 : w.cell? ⟨b', off', none⟩ = some (iv y.d.id) := hc' 0 _ rfl
  have y5 : w.cell? ⟨b', off' + 5, none⟩ = some (.slice bo bn bc) := hc' 5 _ rfl
  have y6 : w.cell? ⟨b', off' + 6, none⟩ = some (iv y.d.sf) := hc' 6 _ rfl
  have y7 : w.cell? ⟨b', off' + 7, none⟩ = some (iv y.d.st) := hc' 7 _ rfl
  have y8 : w.cell? ⟨b', off' + 8, none⟩ = some (iv y.d.ef) := hc' 8 _ rfl
  have y9 : w.cell? ⟨b', off' + 9, none⟩ = some (iv y.d.et) := hc' 9 _ rfl
  clear hc hc'
  have s1 := eq24g x.d.sf x.d.st y.d.sf y.d.st
  have s2 := eq24g x.d.ef x.d.et y.d.ef y.d.et
  obtain ⟨A, hA⟩ : ∃ A, alk x.d kn y.d qn = A := ⟨_, rfl⟩
  obtain ⟨B, hB⟩ : ∃ B, eqA x.d.al y.d.al = B := ⟨_, rfl⟩
  obtain ⟨C, hC⟩ : ∃ C, (x.d.sf == y.d.sf && x.d.st == y.d.st) = C := ⟨_, rfl⟩
  obtain ⟨D, hD⟩ : ∃ D, (x.d.ef == y.d.ef && x.d.et == y.d.et) = D := ⟨_, rfl⟩
  rw [hA] at ka
  rw [hB] at kb
  rw [hC] at s1
  rw [hD] at s2
  have HV : Hid (eq1 x y = (decide (x.d.id = y.d.id) && (C && (D && (A && B))))) := by
    show eq1 x y = _
    rw [HU.out, hA, hB, hC, hD]
  clear hA hB hC hD HU
  by_cases h1 : x.d.id = y.d.id
  · have g1 : (x.d.id == y.d.id) = true := by simp [h1]
    cases C with
    | false =>
      have HN : Hid (eq1 x y = false) := by
        show eq1 x y = false
        rw [HV.out]; simp
      clear h1
      go_enter Try.func27, Try.ntmps27
      go_wp2_with fail
      go_quiet (first | (go_at_call 44; exact Calls.quiet_of (ka _)) | (go_at_call 45; exact Calls.quiet_of (kb _)))
      go_wp2_with fail
      go_ret
      exact ⟨by rw [HN.out]; rfl, _, rfl⟩
    | true =>
      cases D with
      | false =>
        have HN : Hid (eq1 x y = false) := by
          show eq1 x y = false
          rw [HV.out]; simp
        clear h1
        go_enter Try.func27, Try.ntmps27
        go_wp2_with fail
        go_quiet (first | (go_at_call 44; exact Calls.quiet_of (ka _)) | (go_at_call 45; exact Calls.quiet_of (kb _)))
        go_wp2_with fail
        go_ret
        exact ⟨by rw [HN.out]; rfl, _, rfl⟩
      | true =>
        cases A with
        | false =>
          have HN : Hid (eq1 x y = false) := by
            show eq1 x y = false
            rw [HV.out]; simp
          clear h1
          go_enter Try.func27, Try.ntmps27
          go_wp2_with fail
          go_quiet (first | (go_at_call 44; exact Calls.quiet_of (ka _)) | (go_at_call 45; exact Calls.quiet_of (kb _)))
          go_wp2_with fail
          go_ret
          exact ⟨by rw [HN.out]; rfl, _, rfl⟩
        | true =>
          cases B with
          | false =>
            have HN : Hid (eq1 x y = false) := by
              show eq1 x y = false
              rw [HV.out]; simp
            clear h1
            go_enter Try.func27, Try.ntmps27
            go_wp2_with fail
            go_quiet (first | (go_at_call 44; exact Calls.quiet_of (ka _)) | (go_at_call 45; exact Calls.quiet_of (kb _)))
            go_wp2_with fail
            go_ret
            exact ⟨by rw [HN.out]; rfl, _, rfl⟩
          | true =>
            have HN : Hid (eq1 x y = true) := by
              show eq1 x y = true
              rw [HV.out]; simp [h1]
            clear h1
            go_enter Try.func27, Try.ntmps27
            go_wp2_with fail
            go_quiet (first | (go_at_call 44; exact Calls.quiet_of (ka _)) | (go_at_call 45; exact Calls.quiet_of (kb _)))
            go_wp2_with fail
            go_ret
            exact ⟨by rw [HN.out]; rfl, _, rfl⟩
  · have g1 : (x.d.id == y.d.id) = false := by simp [h1]
    have HN : Hid (eq1 x y = false) := by
      show eq1 x y = false
      rw [HV.out]; simp [h1]
    clear h1
    go_enter Try.func27, Try.ntmps27
    go_wp2_with fail
    go_quiet (first | (go_at_call 44; exact Calls.quiet_of (ka _)) | (go_at_call 45; exact Calls.quiet_of (kb _)))
    go_wp2_with fail
    go_ret
    exact ⟨by rw [HN.out]; rfl, _, rfl⟩
theorem eq1_mk (d : Nd) (ks : List Tr) (u : Tr) : eq1 (.mk d ks) u = (decide (d.id = u.d.id) && ((d.sf == u.d.sf && d.st == u.d.st) && ((d.ef == u.d.ef && d.et == u.d.et) && (alk d ks.length u.d u.k.length && eqA d.al u.d.al)))) := rfl
mutual
theorem pAll_eq : ∀ (t u : Tr), pAll eq1 t u = eT t u
  | .mk d ks, u => by
    have h := pAll_eqL ks u.k
    rw [pAll, pT, List.all_cons, h]
    show (eq1 (.mk d ks) u && eL ks u.k) = _
    rw [eT, eq1_mk]
    generalize decide (d.id = u.d.id) = a
    generalize (d.sf == u.d.sf && d.st == u.d.st) = b
    generalize (d.ef == u.d.ef && d.et == u.d.et) = c
    generalize eqA d.al u.d.al = f
    generalize alk d ks.length u.d u.k.length = g
    cases a <;> cases b <;> cases c <;> cases f <;> cases g <;> simp
theorem pAll_eqL : ∀ (l m : List Tr), (pL l m).all (fun p => eq1 p.1 p.2) = eL l m
  | [], _ => by rw [pL, eL]; rfl
  | x :: xs, [] => by rw [pL, eL]; rfl
  | x :: xs, y :: ys => by
    have h1 := pAll_eq x y
    rw [pAll] at h1
    rw [pL, List.all_append, h1, pAll_eqL xs ys, eL]
end
theorem TrC.flat {w : World} {t : Tr} {av kv : Value} (h : TrC w t av kv) : ∃ a ac k kc, av = .slice a t.d.al.length ac ∧ kv = .slice k t.k.length kc ∧ AtRow w a t.d.al := by
  cases h with
  | mk ha _ _ _ _ => exact ⟨_, _, _, _, rfl, rfl, ha⟩
theorem Ok.len {t : Tr} (h : Ok t) : t.d.al.length ≤ 140737488351232 := by
  cases h with
  | mk ha _ _ _ => exact ha
theorem equal_on {W : World} {x y : Tr} {b off b' off' : Nat} {av kv av' kv' : Value} (hx : x.d.al.length ≤ 4000) (hc : CellsAt W b off (x.d.cs av kv)) (hc' : CellsAt W b' off' (y.d.cs av' kv')) (ht : TrC W x av kv) (hu : TrC W y av' kv') :
    Calls Try.prog 27 #[.pointer (some ⟨b, off, none⟩), .pointer (some ⟨b', off', none⟩)] W fun e W' => e = .returned (.bool (eq1 x y)) ∧ Below W.heap.size W W' := by
  obtain ⟨a, ac, k, kc, rfl, rfl, h1⟩ := ht.flat
  obtain ⟨a', ac', k', kc', rfl, rfl, h2⟩ := hu.flat
  exact (equal_one x y _ ac _ ac' _ kc _ kc' rfl rfl rfl rfl h1 h2 (by omega) hc hc').mono fun e w' h => by
    obtain ⟨h3, q, rfl⟩ := h
    exact ⟨h3, below_drewN (Below.refl _ _) _⟩
mutual
theorem pT_mem : ∀ (t u : Tr) (lv : Nat), ∀ p ∈ pT t u, ∃ l, (p.1, l) ∈ vT t lv
  | .mk d ks, u, lv, p, hp => by
    rw [pT] at hp
    rw [vT]
    simp only [List.mem_cons] at hp ⊢
    rcases hp with rfl | hp
    · exact ⟨lv, .inl rfl⟩
    · obtain ⟨l, h⟩ := pL_mem ks u.k (lv + 1) p hp
      exact ⟨l, .inr h⟩
theorem pL_mem : ∀ (l m : List Tr) (lv : Nat), ∀ p ∈ pL l m, ∃ k, (p.1, k) ∈ vL l lv
  | [], _, _, p, hp => by rw [pL] at hp; simp at hp
  | x :: xs, [], _, p, hp => by rw [pL] at hp; simp at hp
  | x :: xs, y :: ys, lv, p, hp => by
    rw [pL, List.mem_append] at hp
    rw [vL]
    rcases hp with hp | hp
    · obtain ⟨k, h⟩ := pT_mem x y lv p hp
      exact ⟨k, List.mem_append_left _ h⟩
    · obtain ⟨k, h⟩ := pL_mem xs ys lv p hp
      exact ⟨k, List.mem_append_right _ h⟩
end
set_option maxRecDepth 20000 in
set_option maxHeartbeats 2000000 in
theorem equal_prog {w : World} {t u : Tr} {av kv av' kv' : Value} (ht : TrC w t av kv) (hu : TrC w u av' kv') (hs : Sml t) (hn : cT t ≤ 900000) :
    Calls Try.prog 9 #[nv t.d av kv, nv u.d av' kv'] w fun e w' => e = .returned (.bool (eT t u)) ∧ Below w.heap.size w w' := by
  have h26 : ∀ W : World, Below w.heap.size w W → Calls Try.prog 26 #[nv t.d av kv, nv u.d av' kv', .func (.func 27) #[] #[]] W fun e W' => e = .returned (.bool (eT t u)) ∧ Below W.heap.size W W' := fun W hb => by
    rw [← pAll_eq]
    refine (callsIn_wide (n := 0)).1 (everywhere_in 0 (ht.old hb) (hu.old hb) hn 27 (enters_of Try.func27 (by kernel_rfl) rfl) eq1 (fun W x y b off b' off' av kv av' kv' hm hc hc' hx hy => ?_))
    obtain ⟨l, hl⟩ := pT_mem t u 1 (x, y) hm
    have hsx := (vT_sml t 1 hs _ hl).1
    cases hsx with
    | mk ha _ _ => exact equal_on ha hc hc' hx hy
  obtain ⟨a, ac, k, kc, rfl, rfl, _⟩ := ht.flat
  obtain ⟨a', ac', k', kc', rfl, rfl, _⟩ := hu.flat
  obtain ⟨V1, hV1⟩ : ∃ V, (w.alloc (na t.d (.slice a t.d.al.length ac) (.slice k t.k.length kc))).alloc (na u.d (.slice a' u.d.al.length ac') (.slice k' u.k.length kc')) = V := ⟨_, rfl⟩
  have hb1 : Below w.heap.size w V1 := by
    rw [← hV1]
    exact ((Below.refl _ _).alloc (Nat.le_refl _) _).alloc (by simp) _
  have hk := h26 V1 hb1
  have HB : Hid (Below w.heap.size w V1) := hb1
  have HV1 : Hid ((w.alloc (na t.d (.slice a t.d.al.length ac) (.slice k t.k.length kc))).alloc (na u.d (.slice a' u.d.al.length ac') (.slice k' u.k.length kc')) = V1) := hV1
  clear h26 hb1 ht hu hV1
  go_enter Try.func9, Try.ntmps9
  go_wp2_with fail
  rw [HV1.out]
  refine hk.mono ?_
  rintro e W1 ⟨rfl, b1⟩
  go_wp2_with fail
  go_ret
  exact ⟨rfl, HB.out.trans (b1.mono HB.out.size)⟩
end Go.Proofs.Ytdpibnmbgjhohaa
