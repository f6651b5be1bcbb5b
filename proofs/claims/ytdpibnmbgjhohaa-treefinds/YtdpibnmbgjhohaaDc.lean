/- The document's Sorted of numbers, and its Check. -/
import Derived.Test.YtdpibnmbgjhohaaDb
import Derived.Test.YtdpibnmbgjhohaaAn
import Derived.Test.YtdpibnmbgjhohaaAf
namespace Go.Proofs.Ytdpibnmbgjhohaa
open Go.RowKit Go.Lib

theorem rsort_any : ∀ (n : Nat) {w : World} {ao : Option Addr} {L : List Int} (cap : Nat), IntRow w ao L → L.length = n → n ≤ cap → cap ≤ maxLen → n ≤ 1000000 → Calls Try.prog 35 #[.slice ao n cap] w fun e w' => SortedIs L n w e w' := by
  intro n
  induction n using Nat.strongRecOn with
  | ind n ih =>
    intro w ao L cap ha hn hc hcm hn2
    by_cases h2 : 2 ≤ n
    · exact rsort_one n cap ha hn hc hcm h2 hn2 fun w' ao' K m c hb hk hl hm hmc hcm' => ih m hm c hk hl hmc hcm' (by omega)
    · obtain ⟨ao', c', W, hr, q1, q2, q3, q4⟩ := ints_copy n cap ha hn (by omega)
      have g1 : decide ((n : Int) < 2) = true := decide_eq_true (by omega)
      have HF : Hid (SortedIs L n w (.returned (.slice ao' n c')) W) := by
        refine ⟨ao', c', L, rfl, q1, q2, hn, List.Perm.refl _, ?_, q3, q4⟩
        match L, hn with
        | [], _ => exact List.Pairwise.nil
        | [x], _ => exact List.pairwise_singleton _ _
        | x :: y :: l, hn => simp at hn; omega
      clear q1 q2 q3 q4 ha ih
      go_enter Try.func35, Try.ntmps35
      go_wp2_with (at_builtin; refine list_append_eq rfl _ _ 31 31 rfl _ _ rfl rfl hr ?_)
      go_ret
      exact HF.out
/-- Fine up to a place. -/
def finI (S : List Int) (m : Nat) : Prop := ∀ j, j < m → ∀ x, S[j]? = some x → 0 ≤ x ∧ ∀ y, 0 < j → S[j - 1]? = some y → x ≠ y
theorem sI_sorted (L : List Int) : (sI L).Pairwise (· ≤ ·) := by
  have h := List.pairwise_mergeSort (le := fun x y : Int => decide (x ≤ y)) (fun a b c h1 h2 => by simp at *; omega) (fun a b => by simp; omega) L
  exact h.imp fun hab => by simpa using hab
theorem sI_eq {S L : List Int} (hp : S.Perm L) (hs : S.Pairwise (· ≤ ·)) : S = sI L :=
  (hp.trans (List.mergeSort_perm L _).symm).eq_of_pairwise (fun a b _ _ h1 h2 => by omega) hs (sI_sorted L)
theorem numP_iff {S L : List Int} (hp : S.Perm L) (hs : S.Pairwise (· ≤ ·)) (hl : 0 < L.length) : numP L = true ↔ finI S S.length := by
  have hlen := hp.length_eq
  have e := sI_eq hp hs
  rw [numP, ← e, Bool.and_eq_true, decide_eq_true_iff, decide_eq_true_iff, ← hlen, compact_full]
  constructor
  · rintro ⟨h0, hk⟩ j hj x hx
    refine ⟨?_, fun y hj0 hy => ?_⟩
    · cases S with
      | nil => simp at hx
      | cons a l =>
        simp at h0
        cases j with
        | zero => simp at hx; omega
        | succ j =>
          have := (List.pairwise_cons.1 hs).1 x (List.mem_of_getElem? (by simpa using hx))
          omega
    · have := hk j hj
      simp only [keeps, decide_eq_true_iff] at this
      rcases this with h | h
      · omega
      · have e1 : S.toArray[j]! = x := by
          obtain ⟨hj', e⟩ := List.getElem?_eq_some_iff.1 hx
          simp [hj', e]
        have e2 : S.toArray[j - 1]! = y := by
          obtain ⟨hj', e⟩ := List.getElem?_eq_some_iff.1 hy
          simp [hj', e]
        rw [e1, e2] at h
        exact h
  · intro h
    refine ⟨?_, fun j hj => ?_⟩
    · cases S with
      | nil => simp
      | cons a l => simpa using (h 0 (by simp) a rfl).1
    · by_cases hj0 : j = 0
      · simp [keeps, hj0]
      · obtain ⟨x, hx⟩ : ∃ x, S[j]? = some x := ⟨_, List.getElem?_eq_getElem hj⟩
        obtain ⟨y, hy⟩ : ∃ y, S[j - 1]? = some y := ⟨_, List.getElem?_eq_getElem (by omega)⟩
        have hne := (h j hj x hx).2 y (by omega) hy
        refine keeps_pos ?_
        have e1 : S.toArray[j]! = x := by
          obtain ⟨hj', e⟩ := List.getElem?_eq_some_iff.1 hx
          simp [hj', e]
        have e2 : S.toArray[j - 1]! = y := by
          obtain ⟨hj', e⟩ := List.getElem?_eq_some_iff.1 hy
          simp [hj', e]
        rw [e1, e2]
        exact hne
/-- What is wrong with a tree, as a number. -/
def chkP (t : Tr) : Int := if numP (iT t) = true then (if t.d.kind = 0 ∧ bT t = true then 0 else 3) else 4
set_option maxRecDepth 20000 in
set_option maxHeartbeats 4000000 in
theorem rcheck_any {w : World} {t : Tr} {av kv : Value} (ht : TrC w t av kv) (hok : Ok t) (hn : cT t ≤ 900000) :
    Calls Try.prog 19 #[nv t.d av kv] w fun e w' => e = .returned (iv (chkP t)) ∧ Below w.heap.size w w' := by
  have h14 : ∀ W : World, Below w.heap.size w W → Calls Try.prog 14 #[nv t.d av kv] W fun e w' => Idd (iT t) W e w' := fun W hb => rids_any ht.v hok (by omega) W hb
  have h36 : ∀ W : World, Below w.heap.size w W → Calls Try.prog 36 #[nv t.d av kv] W fun e w' => e = .returned (.bool (bT t)) ∧ Below W.heap.size W w' := fun W hb => rbelow_any ht.v hok W hb
  have hlen : (iT t).length ≤ 900000 := by rw [iT_len]; exact hn
  have hpos := iT_pos t
  obtain ⟨a, ac, k, kc, rfl, rfl, _⟩ := ht.flat
  obtain ⟨V1, hV1⟩ : ∃ V, w.alloc (na t.d (.slice a t.d.al.length ac) (.slice k t.k.length kc)) = V := ⟨_, rfl⟩
  have hb1 : Below w.heap.size w V1 := by rw [← hV1]; exact (Below.refl _ _).alloc (Nat.le_refl _) _
  have hn1 : V1.heap[w.heap.size]? = some (na t.d (.slice a t.d.al.length ac) (.slice k t.k.length kc)) := by rw [← hV1]; exact heap_alloc_new w _
  have hk := h14 V1 hb1
  have HB : Hid (Below w.heap.size w V1 ∧ w.alloc (na t.d (.slice a t.d.al.length ac) (.slice k t.k.length kc)) = V1 ∧ V1.heap[w.heap.size]? = some (na t.d (.slice a t.d.al.length ac) (.slice k t.k.length kc))) := ⟨hb1, hV1, hn1⟩
  have H36 : Hid (∀ W : World, Below w.heap.size w W → Calls Try.prog 36 #[nv t.d (.slice a t.d.al.length ac) (.slice k t.k.length kc)] W fun e w' => e = .returned (.bool (bT t)) ∧ Below W.heap.size W w') := h36
  clear h14 h36 hb1 ht hV1 hn1
  go_enter Try.func19, Try.ntmps19
  go_wp2_with fail
  rw [HB.out.2.1]
  refine hk.mono ?_
  rintro e W1 ⟨v, rfl, b1, r1⟩
  obtain ⟨ao, c, rfl, hnc, hcm, hln, hrow⟩ := r1.ints
  obtain ⟨n, hnl⟩ : ∃ n, (iT t).length = n := ⟨_, rfl⟩
  rw [hnl] at hnc hlen hpos hln
  rw [hnl]
  have H1 : Hid (Below w.heap.size w W1 ∧ W1.heap[w.heap.size]? = some (na t.d (.slice a t.d.al.length ac) (.slice k t.k.length kc))) := ⟨HB.out.1.trans (b1.mono HB.out.1.size), (b1.block _ (Array.getElem?_eq_some_iff.1 HB.out.2.2).1).trans HB.out.2.2⟩
  have hs := rsort_any n c hrow hnl hnc hcm (by omega)
  clear b1 r1 hk hrow hln
  go_wp2_with fail
  refine hs.mono ?_
  rintro e W2 ⟨bo, c2, S, rfl, hc2, hc2m, hSn, hSp, hSs, hSr, hSb⟩
  have hpos' := hpos
  have HN : Hid ((numP (iT t) = true ↔ finI S n) ∧ IntRow W2 bo S ∧ S.length = n ∧ Below w.heap.size w W2 ∧ W2.heap[w.heap.size]? = some (na t.d (.slice a t.d.al.length ac) (.slice k t.k.length kc))) := by
    refine ⟨?_, hSr, hSn, H1.out.1.trans (hSb.mono H1.out.1.size), (hSb.block _ (Array.getElem?_eq_some_iff.1 H1.out.2).1).trans H1.out.2⟩
    rw [← hSn]
    exact numP_iff hSp hSs (by omega)
  clear hSp hSs hSr hSb hs hSn hnl
  go_wp2_with fail
  go_loopg [5] n (fun g2 iv' wr => ∃ (i q : Nat), iv' = .int .i64 i ∧ i + g2 = n ∧ wr = W2.drewN q ∧ Hid (finI S i))
  case atStart => exact ⟨0, 0, rfl, by omega, rfl, fun j hj => absurd hj (Nat.not_lt_zero _)⟩
  case round =>
    obtain ⟨i, q, rfl, hig, rfl, HT⟩ := hrel
    cases gk with
    | zero =>
      obtain rfl : i = n := by omega
      have hg0 : decide ((i : Int) < (i : Int)) = false := decide_eq_false (by omega)
      have HE : Hid (numP (iT t) = true) := HN.out.1.2 HT.out
      have HW : Hid (Below w.heap.size w (W2.drewN q)) := below_drewN HN.out.2.2.2.1 q
      have hbx : Bx (W2.drewN q) w.heap.size #[iv t.d.id, iv t.d.kind, iv t.d.space, .string t.d.name, .string t.d.text, .slice a t.d.al.length ac, iv t.d.sf, iv t.d.st, iv t.d.ef, iv t.d.et, .slice k t.k.length kc] := HN.out.2.2.2.2
      have x0 := hbx.cell 0
      have x1 := hbx.cell 1
      have x2 := hbx.cell 2
      have x3 := hbx.cell 3
      have x4 := hbx.cell 4
      have x5 := hbx.cell 5
      have x6 := hbx.cell 6
      have x7 := hbx.cell 7
      have x8 := hbx.cell 8
      have x9 := hbx.cell 9
      have x10 := hbx.cell 10
      simp only [List.getElem?_toArray, List.getElem?_cons_zero, List.getElem?_cons_succ] at x0 x1 x2 x3 x4 x5 x6 x7 x8 x9 x10
      have hq36 := H36.out _ HW.out
      clear hbx
      have HP : Hid (chkP t = if t.d.kind = 0 ∧ bT t = true then 0 else 3) := by
        show chkP t = _
        rw [chkP, if_pos HE.out]
      obtain ⟨B, hB⟩ : ∃ B, bT t = B := ⟨_, rfl⟩
      rw [hB] at hq36 HP
      obtain ⟨kd, hkd⟩ : ∃ kd, t.d.kind = kd := ⟨_, rfl⟩
      simp only [nv] at hq36
      rw [hkd] at x1 hq36 HP
      clear hkd hB HE HT HN hpos hpos' hig hg0
      have hg0 : decide ((i : Int) < (i : Int)) = false := decide_eq_false (by omega)
      by_cases hk0 : kd = 0
      · subst hk0
        cases B with
        | true =>
          have HE : Hid (chkP t = 0) := by
            show chkP t = 0
            rw [HP.out]; rfl
          clear HP
          go_wp2_with fail
          refine hq36.mono ?_
          rintro e W5 ⟨rfl, b5⟩
          clear hq36
          go_wp2_with fail
          go_ret
          exact ⟨by rw [HE.out]; rfl, HW.out.trans (b5.mono HW.out.size)⟩
        | false =>
          have HE : Hid (chkP t = 3) := by
            show chkP t = 3
            rw [HP.out]; rfl
          clear HP
          go_wp2_with fail
          refine hq36.mono ?_
          rintro e W5 ⟨rfl, b5⟩
          clear hq36
          go_wp2_with fail
          go_ret
          exact ⟨by rw [HE.out]; rfl, HW.out.trans (b5.mono HW.out.size)⟩
      · have HE : Hid (chkP t = 3) := by
          show chkP t = 3
          rw [HP.out, if_neg (fun h => hk0 h.1)]
        have hk1 : (kd == 0) = false := by simp [hk0]
        clear HP hq36
        go_wp2_with fail
        go_ret
        exact ⟨by rw [HE.out]; rfl, HW.out⟩
    | succ k =>
      have hin : i < n := by omega
      have hin' : (i : Int) < n := by omega
      have hg0 : decide ((i : Int) < (n : Int)) = true := decide_eq_true hin'
      have HQ : Hid (i + (k + 1) = n) := hig
      obtain ⟨x, hx⟩ : ∃ x, S[i]? = some x := ⟨_, List.getElem?_eq_getElem (by rw [HN.out.2.2.1]; exact hin)⟩
      obtain ⟨g, off, rfl, hg, cx⟩ := HN.out.2.1 i x hx
      by_cases hx0 : x < 0
      · have g1 : decide (x < 0) = true := decide_eq_true hx0
        have HE : Hid (chkP t = 4) := by
          show chkP t = 4
          have : ¬ finI S n := fun h => by have := (h i hin x hx).1; omega
          rw [chkP, if_neg (fun h => this (HN.out.1.1 h))]
        clear hx hig hx0
        go_wp2_with fail
        go_quiet (fail)
        go_wp2_with fail
        go_ret
        exact ⟨by rw [HE.out]; rfl, below_drewN (below_drewN HN.out.2.2.2.1 _) _⟩
      · have g1 : decide (x < 0) = false := decide_eq_false hx0
        by_cases hi0 : i = 0
        · subst hi0
          rw [Nat.add_zero] at cx
          have g2 : decide ((0 : Int) > 0) = false := by decide
          have HT2 : Hid (finI S 1) := fun j hj y hy => by
            obtain rfl : j = 0 := by omega
            rw [hx] at hy
            cases hy
            exact ⟨by omega, fun z hz => absurd hz (Nat.lt_irrefl _)⟩
          clear hx hig hx0
          go_wp2_with fail
          go_quiet (fail)
          go_wp2_with fail
          go_roundg k
          case measure => omega
          case rel => exact ⟨1, _, by go_num, by have := HQ.out; omega, rfl, HT2⟩
        · obtain ⟨y, hy⟩ : ∃ y, S[i - 1]? = some y := ⟨_, List.getElem?_eq_getElem (by rw [HN.out.2.2.1]; omega)⟩
          obtain ⟨g', off', e', hg', cy⟩ := HN.out.2.1 (i - 1) y hy
          cases e'
          obtain ⟨m, hm⟩ : ∃ m, i - 1 = m := ⟨_, rfl⟩
          rw [hm] at cy
          have g2 : decide ((i : Int) > 0) = true := decide_eq_true (by omega)
          have g2' : decide (0 < i) = true := decide_eq_true (by omega)
          have wm : IntKind.i64.wrap ((i : Int) - 1) = (m : Int) := by rw [IntKind.wrap_i64]; omega
          have im : m < n := by omega
          have im' : (m : Int) < n := by omega
          by_cases hxy : x = y
          · have g3 : (x == y) = true := by simp [hxy]
            have HE : Hid (chkP t = 4) := by
              show chkP t = 4
              have : ¬ finI S n := fun h => (h i hin x hx).2 y (by omega) hy hxy
              rw [chkP, if_neg (fun h => this (HN.out.1.1 h))]
            clear hx hig hx0 hy hm hxy hi0
            go_wp2_with fail
            go_quiet (fail)
            go_wp2_with fail
            go_ret
            exact ⟨by rw [HE.out]; rfl, below_drewN (below_drewN HN.out.2.2.2.1 _) _⟩
          · have g3 : (x == y) = false := by simp [hxy]
            have HT2 : Hid (finI S (i + 1)) := fun j hj z hz => by
              by_cases hji : j = i
              · subst hji
                rw [hx] at hz
                cases hz
                refine ⟨by omega, fun u hj0 hu => ?_⟩
                rw [hy] at hu
                cases hu
                exact hxy
              · exact HT.out j (by omega) z hz
            clear hx hig hx0 hy hm hxy hi0
            go_wp2_with fail
            go_quiet (fail)
            go_wp2_with fail
            go_roundg k
            case measure => omega
            case rel => exact ⟨i + 1, _, by go_num, by have := HQ.out; omega, rfl, HT2⟩
end Go.Proofs.Ytdpibnmbgjhohaa
