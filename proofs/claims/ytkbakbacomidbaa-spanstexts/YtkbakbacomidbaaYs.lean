/- The document's put: a new row each time. -/
import Derived.Test.YtkbakbacomidbaaYr
namespace Go.Proofs.Ytkbakbacomidbaa.Sp
open Go.RowKit
def rputP (L : List Pc) (f t c : Int) : List Pc := if f ≥ t then L else putP L ⟨f, t, c⟩
/-- A row of parts that a call answers. -/
def Rowed (L : List Pc) (w : World) (e : Ending) (w' : World) : Prop := ∃ ao cap, e = .returned (.slice ao L.length cap) ∧ PcRow w' ao L ∧ Below w.heap.size w w'
theorem own_nil (w : World) (B : Nat) : RowIs w B (.slice none 0 0) [] := ⟨rfl, .inl ⟨rfl, rfl⟩⟩
theorem copy_row {w : World} {ao : Option Addr} {L : List Pc} (c : Nat) (h : PcRow w ao L) (hL : L.length ≤ 1000000000) :
    ∃ l' w', (Builtin.append_ #[24, 24] 24 #[.slice none 0 0, .slice ao L.length c]).run Try.prog w = .ok l' w' ∧ RowIs w' w.heap.size l' L ∧ Below w.heap.size w w' := by
  obtain ⟨l', w', h1, h2, h3⟩ := row_more (own_nil w w.heap.size) ao c h (Nat.le_refl _) (by simp; omega)
  exact ⟨l', w', h1, h2, h3.below (own_nil w w.heap.size) (Nat.le_refl _)⟩
theorem Rowed.own {w w1 w' : World} {v : Value} {L : List Pc} (b : Below w.heap.size w w1) (h : RowIs w' w1.heap.size v L) (b2 : Below w1.heap.size w1 w') : Rowed L w (.returned v) w' := by
  obtain ⟨ao, cap, rfl, hr, _⟩ := row_at h
  exact ⟨ao, cap, rfl, hr, b.trans (b2.mono b.size)⟩
theorem Rowed.own0 {w w' : World} {B : Nat} {v : Value} {L : List Pc} (h : RowIs w' B v L) (b2 : Below w.heap.size w w') : Rowed L w (.returned v) w' := by
  obtain ⟨ao, cap, rfl, hr, _⟩ := row_at h
  exact ⟨ao, cap, rfl, hr, b2⟩
theorem putP_nil (p : Pc) : putP [] p = [p] := rfl
theorem putP_no {L : List Pc} {q p : Pc} (h : L.getLast? = some q) (hn : ¬ (q.c = 1 ∧ p.c = 1)) : putP L p = L ++ [p] := by
  unfold putP
  rw [h]
  simp only
  rw [if_neg hn]
theorem putP_yes {L : List Pc} {q p : Pc} {j : Nat} (h : L.getLast? = some q) (hj : L.length = j + 1) (h1 : q.c = 1) (h2 : p.c = 1) : putP L p = L.set j ⟨q.f, p.t, q.c⟩ := by
  unfold putP
  rw [h]
  simp only
  rw [if_pos ⟨h1, h2⟩, set_last hj]
set_option maxHeartbeats 2000000 in
set_option maxRecDepth 20000 in
theorem rput_any {w : World} {ao : Option Addr} {L : List Pc} (n cap : Nat) (h : PcRow w ao L) (hn : L.length = n) (hL : n ≤ 1000000000) (f t c : Int) :
    Calls Try.prog 22 #[.slice ao n cap, .int .i64 f, .int .i64 t, .int .i64 c] w (Rowed (rputP L f t c) w) := by
  by_cases hft : f ≥ t
  · have HZ : Hid (Rowed (rputP L f t c) w (.returned (.slice ao n cap)) w) := by
      unfold rputP
      rw [if_pos hft, ← hn]
      exact ⟨_, _, rfl, h, Below.refl _ _⟩
    have hd : decide (f ≥ t) = true := decide_eq_true hft
    clear h hn hft
    go_enter Try.func22, Try.ntmps22
    go_wp2_with fail
    go_ret
    exact HZ.out
  · have hd : decide (f ≥ t) = false := decide_eq_false hft
    have hP : rputP L f t c = putP L ⟨f, t, c⟩ := by unfold rputP; rw [if_neg hft]
    obtain ⟨l1, w1, hrun, h1, b1⟩ := copy_row cap h (by omega)
    rw [hn] at hrun
    obtain ⟨l2, w2, hrun2, h2, b2⟩ := row_one h1 ⟨f, t, c⟩ b1.size (by omega)
    have HZ : Hid (putP L ⟨f, t, c⟩ = L ++ [⟨f, t, c⟩] → Rowed (rputP L f t c) w (.returned l2) w2) := fun e => by
      rw [hP, e]
      exact Rowed.own0 h2 (b1.trans (b2.below h1 b1.size))
    simp only at hrun2
    clear hft h2 b2
    cases n with
    | zero =>
      have HE : Hid (putP L ⟨f, t, c⟩ = L ++ [⟨f, t, c⟩]) := by obtain rfl := List.eq_nil_of_length_eq_zero hn; rfl
      clear h hn hP h1 b1
      go_enter Try.func22, Try.ntmps22
      go_wp2_with (at_builtin; first | refine list_append_eq rfl _ _ 24 24 rfl _ _ rfl rfl hrun ?_ | refine list_append_eq rfl _ _ 24 24 rfl _ _ rfl rfl hrun2 ?_)
      go_ret
      exact HZ.out HE.out
    | succ j =>
      obtain ⟨q, hq, hl⟩ := last_at hn
      obtain ⟨b, off, rfl, hb, d0, d1, d2⟩ := h j q hq
      obtain ⟨qf, qt, qc⟩ := q
      simp only at d0 d1 d2
      obtain ⟨n, hjn⟩ : ∃ n, j + 1 = n := ⟨_, rfl⟩
      rw [hjn] at hrun ⊢
      have hw : IntKind.i64.wrap ((n : Int) - 1) = (j : Int) := by rw [IntKind.wrap_i64]; omega
      have hj : j < n := by omega
      have hj2 : (j : Int) < (n : Int) := by omega
      have hg0 : decide ((n : Int) > 0) = true := decide_eq_true (by omega)
      by_cases hyes : qc = c ∧ c = 1
      · obtain ⟨rfl, rfl⟩ := hyes
        obtain ⟨ao1, cap1, rfl, hr1, _⟩ := row_at h1
        obtain ⟨g, rfl, _⟩ := own_some h1 (by omega)
        have h1' : w1.ownsRow w.heap.size 42 3 (.slice (some ⟨g, 0, none⟩) n cap1) n (L.flatMap Pc.cells) := by have h1' := h1; unfold RowIs at h1'; rw [hn, hjn] at h1'; exact h1'
        obtain ⟨s1, s2⟩ := World.ownsRow.stored h1' (j * 3 + 1) (.int .i64 t)
        rw [flat_set L j ⟨qf, qt, 1⟩ t hq] at s1
        have f1 : w1.frozen? ⟨g, j * 3 + 1, none⟩ = false := World.ownsRow.frozenAt h1' _
        have c1 : w1.cell? ⟨g, j * 3 + 1, none⟩ = some (.int .i64 qt) := by
          obtain ⟨b', off', e, _, _, c1, _⟩ := hr1 j _ hq
          simp only [Option.some.injEq, Addr.mk.injEq, and_true] at e
          obtain ⟨rfl, rfl⟩ := e
          rw [Nat.zero_add] at c1
          exact c1
        have HZ2 : Hid (Rowed (rputP L f t 1) w (.returned (.slice (some ⟨g, 0, none⟩) n cap1)) (w1.setCell ⟨g, j * 3 + 1, none⟩ (.int .i64 t))) := by
          rw [hP, putP_yes hl hn rfl rfl]
          have hg := (own_blk h1' (g := g) rfl).1
          refine Rowed.own0 (B := w.heap.size) ?_ (b1.trans ⟨s2.os, s2.tape, s2.output, s2.size, fun d hd => s2.block d (Nat.lt_of_lt_of_le hd b1.size) (fun e => by simp at e; omega)⟩)
          show World.ownsRow _ _ 42 3 _ (L.set j ⟨qf, t, 1⟩).length _
          rw [List.length_set, hn, hjn]
          exact s1
        rw [hn, hjn] at hrun
        have HJ : Hid (j + 1 = n) := hjn
        clear h hn hP h1 b1 hq hl hjn hr1 h1' s1 s2 HZ hrun2
        go_enter Try.func22, Try.ntmps22
        go_wp2_with (at_builtin; refine list_append_eq rfl _ _ 24 24 rfl _ _ rfl rfl hrun ?_)
        go_ret
        exact HZ2.out
      · have HE : Hid (putP L ⟨f, t, c⟩ = L ++ [⟨f, t, c⟩]) := putP_no hl (by rintro ⟨e1, e2⟩; simp only at e1 e2; exact hyes ⟨e1.trans e2.symm, e2⟩)
        have HJ : Hid (j + 1 = n) := hjn
        clear h hn hP h1 b1 hq hl hjn
        by_cases hqc : qc = c
        · subst hqc
          have hc1 : (qc == 1) = false := beq_false_of_ne (fun e => hyes ⟨rfl, e⟩)
          clear hyes
          go_enter Try.func22, Try.ntmps22
          go_wp2_with (at_builtin; first | refine list_append_eq rfl _ _ 24 24 rfl _ _ rfl rfl hrun ?_ | refine list_append_eq rfl _ _ 24 24 rfl _ _ rfl rfl hrun2 ?_)
          go_ret
          exact HZ.out HE.out
        · have hc1 : (qc == c) = false := beq_false_of_ne hqc
          clear hyes hqc
          go_enter Try.func22, Try.ntmps22
          go_wp2_with (at_builtin; first | refine list_append_eq rfl _ _ 24 24 rfl _ _ rfl rfl hrun ?_ | refine list_append_eq rfl _ _ 24 24 rfl _ _ rfl rfl hrun2 ?_)
          go_ret
          exact HZ.out HE.out
end Go.Proofs.Ytkbakbacomidbaa.Sp
namespace Go.Proofs.Ytkbakbacomidbaa.Sp
open Go.RowKit
def atP : List Pc → Int → Int
  | [], _ => 0
  | p :: L, a => if p.f ≤ a ∧ a < p.t then p.c else atP L a
def sameP : List Pc → List Pc → Bool
  | [], [] => true
  | x :: A, y :: B => x.eqb y && sameP A B
  | _, _ => false
theorem drop_at {α : Type} {L : List α} {i : Nat} {x : α} (h : L[i]? = some x) : L.drop i = x :: L.drop (i + 1) := by
  obtain ⟨h1, rfl⟩ := List.getElem?_eq_some_iff.1 h
  exact List.drop_eq_getElem_cons h1
theorem sameP_len : ∀ {A B : List Pc}, A.length ≠ B.length → sameP A B = false
  | [], [], h => absurd rfl h
  | [], _ :: _, _ => rfl
  | _ :: _, [], _ => rfl
  | x :: A, y :: B, h => by
    unfold sameP
    rw [sameP_len (by simpa using h), Bool.and_false]
theorem sameP_iff : ∀ {A B : List Pc}, sameP A B = true ↔ A = B
  | [], [] => by simp [sameP]
  | [], _ :: _ => by simp [sameP]
  | _ :: _, [] => by simp [sameP]
  | x :: A, y :: B => by
    unfold sameP
    rw [Bool.and_eq_true, Pc.eqb_iff, sameP_iff, List.cons.injEq]
theorem sameP_refl (A : List Pc) : sameP A A = true := sameP_iff.2 rfl
theorem sameP_drop {A B : List Pc} {i : Nat} {x y : Pc} (hx : A[i]? = some x) (hy : B[i]? = some y) : sameP (A.drop i) (B.drop i) = (x.eqb y && sameP (A.drop (i + 1)) (B.drop (i + 1))) := by
  rw [drop_at hx, drop_at hy]
  rfl
set_option maxHeartbeats 2000000 in
set_option maxRecDepth 20000 in
theorem at_any {w : World} {ao : Option Addr} {L : List Pc} (n c : Nat) (h : PcRow w ao L) (hn : L.length = n) (hn2 : n ≤ 9223372036854775807) (a : Int) :
    Calls Try.prog 13 #[.slice ao n c, .int .i64 a] w fun e w' => e = .returned (.int .i64 (atP L a)) ∧ Below w.heap.size w w' := by
  obtain ⟨g, hg0⟩ : ∃ g, atP L a = g := ⟨_, rfl⟩
  rw [hg0]
  have HA : Hid (PcRow w ao L ∧ L.length = n ∧ atP (L.drop 0) a = g) := ⟨h, hn, hg0⟩
  clear h hn hg0
  go_enter Try.func13, Try.ntmps13
  go_wp2_with fail
  go_loopg [9] n (fun g2 iv wr => ∃ (i : Nat), iv = .int .i64 i ∧ i + g2 = n ∧ atP (L.drop i) a = g ∧ Below w.heap.size w wr)
  case atStart => exact ⟨0, rfl, by omega, HA.out.2.2, Below.refl _ _⟩
  case round =>
    obtain ⟨i, rfl, hig, hgi, hbe⟩ := hrel
    have HG : Hid (atP (L.drop i) a = g ∧ Below w.heap.size w wr) := ⟨hgi, hbe⟩
    clear hgi hbe
    cases gk with
    | zero =>
      obtain rfl : i = n := by omega
      have hg0 : decide ((i : Int) < (i : Int)) = false := decide_eq_false (by omega)
      go_wp2_with fail
      have e : g = 0 := by
        have h := HG.out.1
        rw [List.drop_of_length_le (by rw [HA.out.2.1]; exact Nat.le_refl _)] at h
        exact h.symm
      subst e
      go_ret
      exact ⟨rfl, HG.out.2⟩
    | succ k =>
      have hin : i < n := by omega
      obtain ⟨x, hx⟩ : ∃ x, L[i]? = some x := ⟨_, List.getElem?_eq_getElem (by rw [HA.out.2.1]; exact hin)⟩
      obtain ⟨b1, o1, rfl, hb1, c0, c1, c2⟩ := (HA.out.1.below HG.out.2) i x hx
      have HD : Hid (L.drop i = x :: L.drop (i + 1)) := drop_at hx
      clear hx
      obtain ⟨xf, xt, xc⟩ := x
      simp only at c0 c1 c2 HD
      have hlt : decide ((i : Int) < (n : Int)) = true := decide_eq_true (by omega)
      have hin2 : (i : Int) < (n : Int) := by omega
      by_cases h1 : xf ≤ a
      · by_cases h2 : a < xt
        · skip
          have g1 : decide (xf ≤ a) = true := decide_eq_true h1
          have g2 : decide (a < xt) = true := decide_eq_true h2
          have e : g = xc := by rw [← HG.out.1, HD.out]; simp only [atP]; rw [if_pos ⟨h1, h2⟩]
          subst e
          clear h1 h2
          go_wp2_with fail
          go_ret
          exact ⟨rfl, (HG.out.2.alloc HG.out.2.size _)⟩
        · skip
          have g1 : decide (xf ≤ a) = true := decide_eq_true h1
          have g2 : decide (a < xt) = false := decide_eq_false h2
          have HN : Hid (atP (L.drop (i + 1)) a = g) := by
            rw [← HG.out.1, HD.out]
            simp only [atP]
            rw [if_neg (by rintro ⟨h, h'⟩; exact h2 h')]
            exact rfl
          clear h1 h2
          go_wp2_with fail
          go_roundg k
          case measure => omega
          case rel => exact ⟨i + 1, by go_num, by omega, HN.out, (HG.out.2.alloc HG.out.2.size _)⟩
      · skip
        have g1 : decide (xf ≤ a) = false := decide_eq_false h1
        have HN : Hid (atP (L.drop (i + 1)) a = g) := by
          rw [← HG.out.1, HD.out]
          simp only [atP]
          rw [if_neg (by rintro ⟨h, h'⟩; exact h1 h)]
          exact rfl
        clear h1
        go_wp2_with fail
        go_roundg k
        case measure => omega
        case rel => exact ⟨i + 1, by go_num, by omega, HN.out, (HG.out.2.alloc HG.out.2.size _)⟩
set_option maxHeartbeats 2000000 in
set_option maxRecDepth 20000 in
theorem rat_any {w : World} {ao : Option Addr} {L : List Pc} (n c : Nat) (h : PcRow w ao L) (hn : L.length = n) (hn2 : n ≤ 9223372036854775807) (a : Int) :
    Calls Try.prog 14 #[.slice ao n c, .int .i64 a] w fun e w' => e = .returned (.int .i64 (atP L a)) ∧ Below w.heap.size w w' := by
  obtain ⟨g, hg0⟩ : ∃ g, atP L a = g := ⟨_, rfl⟩
  rw [hg0]
  have HA : Hid (PcRow w ao L ∧ L.length = n ∧ atP (L.drop 0) a = g) := ⟨h, hn, hg0⟩
  clear h hn hg0
  go_enter Try.func14, Try.ntmps14
  go_wp2_with fail
  go_loopg [5] n (fun g2 iv wr => ∃ (i : Nat), iv = .int .i64 i ∧ i + g2 = n ∧ atP (L.drop i) a = g ∧ Below w.heap.size w wr)
  case atStart => exact ⟨0, rfl, by omega, HA.out.2.2, Below.refl _ _⟩
  case round =>
    obtain ⟨i, rfl, hig, hgi, hbe⟩ := hrel
    have HG : Hid (atP (L.drop i) a = g ∧ Below w.heap.size w wr) := ⟨hgi, hbe⟩
    clear hgi hbe
    cases gk with
    | zero =>
      obtain rfl : i = n := by omega
      have hg0 : decide ((i : Int) < (i : Int)) = false := decide_eq_false (by omega)
      go_wp2_with fail
      have e : g = 0 := by
        have h := HG.out.1
        rw [List.drop_of_length_le (by rw [HA.out.2.1]; exact Nat.le_refl _)] at h
        exact h.symm
      subst e
      go_ret
      exact ⟨rfl, HG.out.2⟩
    | succ k =>
      have hin : i < n := by omega
      obtain ⟨x, hx⟩ : ∃ x, L[i]? = some x := ⟨_, List.getElem?_eq_getElem (by rw [HA.out.2.1]; exact hin)⟩
      obtain ⟨b1, o1, rfl, hb1, c0, c1, c2⟩ := (HA.out.1.below HG.out.2) i x hx
      have HD : Hid (L.drop i = x :: L.drop (i + 1)) := drop_at hx
      clear hx
      obtain ⟨xf, xt, xc⟩ := x
      simp only at c0 c1 c2 HD
      have hlt : decide ((i : Int) < (n : Int)) = true := decide_eq_true (by omega)
      have hin2 : (i : Int) < (n : Int) := by omega
      by_cases h1 : xf ≤ a
      · by_cases h2 : a < xt
        · skip
          have g1 : decide (a ≥ xf) = true := decide_eq_true h1
          have g2 : decide (a < xt) = true := decide_eq_true h2
          have e : g = xc := by rw [← HG.out.1, HD.out]; simp only [atP]; rw [if_pos ⟨h1, h2⟩]
          subst e
          clear h1 h2
          go_wp2_with fail
          go_ret
          exact ⟨rfl, HG.out.2⟩
        · skip
          have g1 : decide (a ≥ xf) = true := decide_eq_true h1
          have g2 : decide (a < xt) = false := decide_eq_false h2
          have HN : Hid (atP (L.drop (i + 1)) a = g) := by
            rw [← HG.out.1, HD.out]
            simp only [atP]
            rw [if_neg (by rintro ⟨h, h'⟩; exact h2 h')]
            exact rfl
          clear h1 h2
          go_wp2_with fail
          go_roundg k
          case measure => omega
          case rel => exact ⟨i + 1, by go_num, by omega, HN.out, HG.out.2⟩
      · skip
        have g1 : decide (a ≥ xf) = false := decide_eq_false h1
        have HN : Hid (atP (L.drop (i + 1)) a = g) := by
          rw [← HG.out.1, HD.out]
          simp only [atP]
          rw [if_neg (by rintro ⟨h, h'⟩; exact h1 h)]
          exact rfl
        clear h1
        go_wp2_with fail
        go_roundg k
        case measure => omega
        case rel => exact ⟨i + 1, by go_num, by omega, HN.out, HG.out.2⟩
set_option maxHeartbeats 2000000 in
set_option maxRecDepth 20000 in
theorem same_any {w : World} {ao bo : Option Addr} {A B : List Pc} (n m ca cb : Nat) (ha : PcRow w ao A) (hb : PcRow w bo B) (hn : A.length = n) (hm : B.length = m) (hn2 : n ≤ 9223372036854775807) (hm2 : m ≤ 9223372036854775807) :
    Calls Try.prog 15 #[.slice ao n ca, .slice bo m cb] w fun e w' => e = .returned (.bool (sameP A B)) ∧ Below w.heap.size w w' := by
  by_cases hnm : n = m
  · subst hnm
    obtain ⟨g, hg0⟩ : ∃ g, sameP A B = g := ⟨_, rfl⟩
    rw [hg0]
    have HA : Hid (PcRow w ao A ∧ PcRow w bo B ∧ A.length = n ∧ B.length = n ∧ sameP (A.drop 0) (B.drop 0) = g) := ⟨ha, hb, hn, hm, hg0⟩
    clear ha hb hn hm hg0
    go_enter Try.func15, Try.ntmps15
    go_wp2_with fail
    go_loopg [14] n (fun g2 iv wr => ∃ (i : Nat), iv = .int .i64 i ∧ i + g2 = n ∧ sameP (A.drop i) (B.drop i) = g ∧ Below w.heap.size w wr)
    case atStart => exact ⟨0, rfl, by omega, HA.out.2.2.2.2, Below.refl _ _⟩
    case round =>
      obtain ⟨i, rfl, hig, hgi, hbe⟩ := hrel
      have HG : Hid (sameP (A.drop i) (B.drop i) = g ∧ Below w.heap.size w wr) := ⟨hgi, hbe⟩
      clear hgi hbe
      cases gk with
      | zero =>
        obtain rfl : i = n := by omega
        have hg0 : decide ((i : Int) < (i : Int)) = false := decide_eq_false (by omega)
        go_wp2_with fail
        have e : g = true := by
          have h := HG.out.1
          rw [List.drop_of_length_le (by rw [HA.out.2.2.1]; exact Nat.le_refl _), List.drop_of_length_le (by rw [HA.out.2.2.2.1]; exact Nat.le_refl _)] at h
          exact h.symm
        subst e
        go_ret
        exact ⟨rfl, HG.out.2⟩
      | succ k =>
        have hin : i < n := by omega
        obtain ⟨x, hx⟩ : ∃ x, A[i]? = some x := ⟨_, List.getElem?_eq_getElem (by rw [HA.out.2.2.1]; exact hin)⟩
        obtain ⟨y, hy⟩ : ∃ y, B[i]? = some y := ⟨_, List.getElem?_eq_getElem (by rw [HA.out.2.2.2.1]; exact hin)⟩
        obtain ⟨b1, o1, rfl, hb1, c0, c1, c2⟩ := (HA.out.1.below HG.out.2) i x hx
        obtain ⟨b2, o2, rfl, hb2, d0, d1, d2⟩ := (HA.out.2.1.below HG.out.2) i y hy
        have HD : Hid (sameP (A.drop i) (B.drop i) = (x.eqb y && sameP (A.drop (i + 1)) (B.drop (i + 1)))) := sameP_drop hx hy
        clear hx hy
        obtain ⟨xf, xt, xc⟩ := x
        obtain ⟨yf, yt, yc⟩ := y
        simp only at c0 c1 c2 d0 d1 d2 HD
        have hlt : decide ((i : Int) < (n : Int)) = true := decide_eq_true (by omega)
        have hin2 : (i : Int) < (n : Int) := by omega
        have kn := fun w => ne42 xf xt xc yf yt yc w
        obtain ⟨r, hr⟩ : ∃ r, Pc.eqb ⟨xf, xt, xc⟩ ⟨yf, yt, yc⟩ = r := ⟨_, rfl⟩
        rw [hr] at HD
        simp only [hr] at kn
        clear hr
        cases r with
        | false =>
          have e : g = false := by rw [← HG.out.1, HD.out]; rfl
          subst e
          go_wp2_with fail
          go_quiet (fail)
          go_wp2_with fail
          go_ret
          exact ⟨rfl, below_drewN (HG.out.2.alloc HG.out.2.size _) nq⟩
        | true =>
          have HN : Hid (sameP (A.drop (i + 1)) (B.drop (i + 1)) = g) := by
            have h := HD.out
            rw [Bool.true_and] at h
            exact h.symm.trans HG.out.1
          go_wp2_with fail
          go_quiet (fail)
          go_wp2_with fail
          go_roundg k
          case measure => omega
          case rel => exact ⟨i + 1, by go_num, by omega, HN.out, below_drewN (HG.out.2.alloc HG.out.2.size _) nq⟩
  · rw [sameP_len (by rw [hn, hm]; exact hnm)]
    have hne : ((n : Int) == (m : Int)) = false := by simp; omega
    have hne2 : ((n : Int) != (m : Int)) = true := by simp; omega
    clear ha hb hn hm
    go_enter Try.func15, Try.ntmps15
    go_wp2_with fail
    go_ret
    exact ⟨rfl, Below.refl _ _⟩
set_option maxHeartbeats 2000000 in
set_option maxRecDepth 20000 in
theorem rsame_any {w : World} {ao bo : Option Addr} {A B : List Pc} (n m ca cb : Nat) (ha : PcRow w ao A) (hb : PcRow w bo B) (hn : A.length = n) (hm : B.length = m) (hn2 : n ≤ 9223372036854775807) (hm2 : m ≤ 9223372036854775807) :
    Calls Try.prog 9 #[.slice ao n ca, .slice bo m cb] w fun e w' => e = .returned (.bool (sameP A B)) ∧ Below w.heap.size w w' := by
  by_cases hnm : n = m
  · subst hnm
    obtain ⟨g, hg0⟩ : ∃ g, sameP A B = g := ⟨_, rfl⟩
    rw [hg0]
    have HA : Hid (PcRow w ao A ∧ PcRow w bo B ∧ A.length = n ∧ B.length = n ∧ sameP (A.drop 0) (B.drop 0) = g) := ⟨ha, hb, hn, hm, hg0⟩
    clear ha hb hn hm hg0
    go_enter Try.func9, Try.ntmps9
    go_wp2_with fail
    go_loopg [5] n (fun g2 iv wr => ∃ (i : Nat), iv = .int .i64 i ∧ i + g2 = n ∧ sameP (A.drop i) (B.drop i) = g ∧ Below w.heap.size w wr)
    case atStart => exact ⟨0, rfl, by omega, HA.out.2.2.2.2, Below.refl _ _⟩
    case round =>
      obtain ⟨i, rfl, hig, hgi, hbe⟩ := hrel
      have HG : Hid (sameP (A.drop i) (B.drop i) = g ∧ Below w.heap.size w wr) := ⟨hgi, hbe⟩
      clear hgi hbe
      cases gk with
      | zero =>
        obtain rfl : i = n := by omega
        have hg0 : decide ((i : Int) < (i : Int)) = false := decide_eq_false (by omega)
        go_wp2_with fail
        have e : g = true := by
          have h := HG.out.1
          rw [List.drop_of_length_le (by rw [HA.out.2.2.1]; exact Nat.le_refl _), List.drop_of_length_le (by rw [HA.out.2.2.2.1]; exact Nat.le_refl _)] at h
          exact h.symm
        subst e
        go_ret
        exact ⟨rfl, HG.out.2⟩
      | succ k =>
        have hin : i < n := by omega
        obtain ⟨x, hx⟩ : ∃ x, A[i]? = some x := ⟨_, List.getElem?_eq_getElem (by rw [HA.out.2.2.1]; exact hin)⟩
        obtain ⟨y, hy⟩ : ∃ y, B[i]? = some y := ⟨_, List.getElem?_eq_getElem (by rw [HA.out.2.2.2.1]; exact hin)⟩
        obtain ⟨b1, o1, rfl, hb1, c0, c1, c2⟩ := (HA.out.1.below HG.out.2) i x hx
        obtain ⟨b2, o2, rfl, hb2, d0, d1, d2⟩ := (HA.out.2.1.below HG.out.2) i y hy
        have HD : Hid (sameP (A.drop i) (B.drop i) = (x.eqb y && sameP (A.drop (i + 1)) (B.drop (i + 1)))) := sameP_drop hx hy
        clear hx hy
        obtain ⟨xf, xt, xc⟩ := x
        obtain ⟨yf, yt, yc⟩ := y
        simp only at c0 c1 c2 d0 d1 d2 HD
        have hlt : decide ((i : Int) < (n : Int)) = true := decide_eq_true (by omega)
        have hin2 : (i : Int) < (n : Int) := by omega
        have kn := fun w => ne42 xf xt xc yf yt yc w
        obtain ⟨r, hr⟩ : ∃ r, Pc.eqb ⟨xf, xt, xc⟩ ⟨yf, yt, yc⟩ = r := ⟨_, rfl⟩
        rw [hr] at HD
        simp only [hr] at kn
        clear hr
        cases r with
        | false =>
          have e : g = false := by rw [← HG.out.1, HD.out]; rfl
          subst e
          go_wp2_with fail
          go_quiet (fail)
          go_wp2_with fail
          go_ret
          exact ⟨rfl, below_drewN HG.out.2 nq⟩
        | true =>
          have HN : Hid (sameP (A.drop (i + 1)) (B.drop (i + 1)) = g) := by
            have h := HD.out
            rw [Bool.true_and] at h
            exact h.symm.trans HG.out.1
          go_wp2_with fail
          go_quiet (fail)
          go_wp2_with fail
          go_roundg k
          case measure => omega
          case rel => exact ⟨i + 1, by go_num, by omega, HN.out, below_drewN HG.out.2 nq⟩
  · rw [sameP_len (by rw [hn, hm]; exact hnm)]
    have hne : ((n : Int) == (m : Int)) = false := by simp; omega
    have hne2 : ((n : Int) != (m : Int)) = true := by simp; omega
    clear ha hb hn hm
    go_enter Try.func9, Try.ntmps9
    go_wp2_with fail
    go_ret
    exact ⟨rfl, Below.refl _ _⟩
end Go.Proofs.Ytkbakbacomidbaa.Sp
