/- distinct, same, like; Like. -/
import Derived.Test.YtdpibnmbgjhohaaFb
import Derived.Test.YtdpibnmbgjhohaaCc
import Derived.Test.YtdpibnmbgjhohaaAj
namespace Go.Proofs.Ytdpibnmbgjhohaa
open Go.RowKit

/-- The attributes of a list in order, each once. -/
def disP (L : List At) : List At := cpU (sortP L) L.length
theorem cpU_mem (L : List At) : ∀ (m : Nat) (x : At), m ≤ L.length → (x ∈ cpU L m ↔ x ∈ L.take m)
  | 0, x, _ => by simp [cpU]
  | m + 1, x, h => by
    obtain ⟨y, hy⟩ : ∃ y, L[m]? = some y := ⟨_, List.getElem?_eq_getElem (by omega)⟩
    have ih := cpU_mem L m x (by omega)
    rw [cpU_next hy, List.take_add_one, hy]
    by_cases hr : repA L m y = true
    · rw [if_pos hr, ih]
      constructor
      · intro hx
        exact List.mem_append_left _ hx
      · intro hx
        rw [List.mem_append] at hx
        rcases hx with hx | hx
        · exact hx
        · simp at hx
          subst hx
          unfold repA at hr
          rw [Bool.and_eq_true, decide_eq_true_iff] at hr
          obtain ⟨h0, h1⟩ := hr
          split at h1
          · rename_i z hz
            rw [At.eqb_iff] at h1
            subst h1
            exact List.mem_of_getElem? (i := m - 1) (by rw [List.getElem?_take, if_pos (by omega)]; exact hz)
          · cases h1
    · rw [if_neg hr, List.mem_append, ih, List.mem_append]
      simp
theorem cpU_strict {L : List At} (hs : SortedA L) : ∀ (m : Nat), m ≤ L.length → (cpU L m).Pairwise fun x y => ltA x y = true
  | 0, _ => by simp [cpU]
  | m + 1, h => by
    obtain ⟨y, hy⟩ : ∃ y, L[m]? = some y := ⟨_, List.getElem?_eq_getElem (by omega)⟩
    have ih := cpU_strict hs m (by omega)
    rw [cpU_next hy]
    by_cases hr : repA L m y = true
    · rw [if_pos hr]
      exact ih
    · rw [if_neg hr, List.pairwise_append]
      refine ⟨ih, List.pairwise_singleton _ _, fun x hx z hz => ?_⟩
      simp at hz
      subst hz
      rw [cpU_mem L m x (by omega)] at hx
      obtain ⟨i, hi⟩ := List.mem_iff_getElem?.1 hx
      rw [List.getElem?_take] at hi
      by_cases him : i < m
      · rw [if_pos him] at hi
        have hat : ∀ a b u v, a < b → L[a]? = some u → L[b]? = some v → ltA v u = false := fun a b u v hab ha hb => by
          obtain ⟨ha', rfl⟩ := List.getElem?_eq_some_iff.1 ha
          obtain ⟨hb', rfl⟩ := List.getElem?_eq_some_iff.1 hb
          exact List.pairwise_iff_getElem.1 hs a b ha' hb' hab
        by_cases hxz : x = z
        · exfalso
          subst hxz
          obtain ⟨p, hp⟩ : ∃ p, L[m - 1]? = some p := ⟨_, List.getElem?_eq_getElem (by omega)⟩
          have h1 := hat (m - 1) m p x (by omega) hp hy
          have h2 : ltA p x = false := by
            by_cases hie : i = m - 1
            · rw [hie, hp] at hi
              cases hi
              exact ltA_irrefl _
            · exact hat i (m - 1) x p (by omega) hi hp
          have : x = p := ltA_anti h1 h2
          subst this
          exact hr (by
            rw [repA, decide_eq_true (by omega), Bool.true_and, hp]
            exact At.eqb_iff.2 rfl)
        · rcases ltA_total hxz with h1 | h1
          · exact h1
          · rw [hat i m x z him hi hy] at h1
            cases h1
      · rw [if_neg him] at hi
        cases hi
theorem dis_mem (L : List At) (x : At) : x ∈ disP L ↔ x ∈ L := by
  rw [disP, cpU_mem _ _ _ (by rw [sort_len]; exact Nat.le_refl _), List.take_of_length_le (by rw [sort_len]; exact Nat.le_refl _), (sort_spec L).1.mem_iff]
theorem dis_strict (L : List At) : (disP L).Pairwise fun x y => ltA x y = true := cpU_strict (sort_spec L).2 _ (by rw [sort_len]; exact Nat.le_refl _)
theorem strict_eq {A B : List At} (ha : A.Pairwise fun x y => ltA x y = true) (hb : B.Pairwise fun x y => ltA x y = true) (h : ∀ x, x ∈ A ↔ x ∈ B) : A = B := by
  have nd : ∀ {C : List At}, C.Pairwise (fun x y => ltA x y = true) → C.Nodup := fun hc => hc.imp fun {a b} hab e => by rw [e, ltA_irrefl] at hab; cases hab
  have st : ∀ {C : List At}, C.Pairwise (fun x y => ltA x y = true) → SortedA C := fun hc => hc.imp fun {a b} hab => ltA_asymm hab
  exact sorted_eq ((List.perm_ext_iff_of_nodup (nd ha) (nd hb)).2 h) (st ha) (st hb)
theorem same_dis {A B : List At} (hl : A.length = B.length) : sameP A B = (eqA A B || eqA (disP A) (disP B)) := by
  rw [Bool.eq_iff_iff, sameP, decide_eq_true hl, Bool.true_and, Bool.and_eq_true, within_iff, within_iff, Bool.or_eq_true, eqA_iff, eqA_iff]
  constructor
  · rintro ⟨h1, h2⟩
    exact .inr (strict_eq (dis_strict A) (dis_strict B) fun x => by rw [dis_mem, dis_mem]; exact ⟨h1 x, h2 x⟩)
  · rintro (rfl | h)
    · exact ⟨fun _ h => h, fun _ h => h⟩
    · exact ⟨fun x hx => (dis_mem B x).1 (h ▸ (dis_mem A x).2 hx), fun x hx => (dis_mem A x).1 (h ▸ (dis_mem B x).2 hx)⟩
theorem compact_nil (w : World) : Calls Try.prog 75 #[.slice none 0 0] w fun e w' => e = .returned (.slice none 0 0) ∧ w' = w := by
  go_enter Try.func75, Try.ntmps75
  go_wp2_with fail
  go_ret
  exact ⟨rfl, rfl⟩
set_option maxRecDepth 20000 in
set_option maxHeartbeats 4000000 in
theorem distinct_any {w : World} {ao : Option Addr} {L : List At} (n ca : Nat) (ha : AtRow w ao L) (hl : L.length = n) (hn : n ≤ 5000) :
    Calls Try.prog 59 #[.slice ao n ca] w fun e w' => ∃ bo m c, e = .returned (.slice bo m c) ∧ (disP L).length = m ∧ AtRow w' bo (disP L) ∧ Below w.heap.size w w' := by
  obtain ⟨V, hV⟩ : ∃ V, w.alloc (.cells #[.slice ao n ca] 22) = V := ⟨_, rfl⟩
  obtain ⟨z1, z2, z3⟩ := slot1 _ _ hV
  have q51 := concat51_any (w := V) (A := L.flatMap At.cells) n ca z1 z2 (by rw [at_len, hl]) (at_src ha z3) (at_one _) hn
  have HV : Hid (w.alloc (.cells #[.slice ao n ca] 22) = V ∧ Below w.heap.size w V) := ⟨hV, z3⟩
  clear hV z1 z2 z3 ha
  go_enter Try.func59, Try.ntmps59
  go_wp2_with fail
  rw [HV.out.1]
  refine q51.mono ?_
  rintro e W1 ⟨v, rfl, r1, b1⟩
  have hb1 : Below w.heap.size w W1 := HV.out.2.trans (b1.mono HV.out.2.size)
  have hVs := HV.out.2.size
  clear q51
  rcases r1.own.2 with ⟨rfl, h0⟩ | ⟨g, c, cur, rfl, _, hg, h1, h2, h3, h4⟩
  · subst h0
    have hL : L = [] := List.eq_nil_of_length_eq_zero hl
    subst hL
    have hs := AnyF.slices_SortFunc_none attLays none 0 (.func (.func 40) #[] #[]) W1
    change Calls Try.prog 39 _ _ _ at hs
    have HF : Hid (Below w.heap.size w W1) := hb1
    clear r1 b1 hb1 hl
    go_wp2_with fail
    refine hs.mono ?_
    rintro e w2 ⟨rfl, hw2⟩
    subst hw2
    go_wp2_with fail
    refine (compact_nil _).mono ?_
    rintro e w3 ⟨rfl, hw3⟩
    subst hw3
    go_wp2_with fail
    go_ret
    exact ⟨none, 0, 0, rfl, rfl, AtRow.nil _ _, HF.out⟩
  · have hgV : V.heap.size ≤ g := by
      have := r1.out g rfl
      omega
    have hs := sort_ats r1 hl (by omega)
    have HF : Hid (Below w.heap.size w W1 ∧ w.heap.size ≤ g) := ⟨hb1, by omega⟩
    clear b1 hb1 hg h3 h4 r1
    go_wp2_with fail
    refine hs.mono ?_
    rintro e W2 ⟨rfl, r2, g2⟩
    have hc := compact_ats r2 (by rw [sort_len, hl]) (by omega)
    have HF2 : Hid (Below w.heap.size w W2) := HF.out.1.trans ⟨g2.os, g2.tape, g2.output, g2.size, fun i hi => g2.block i (Nat.lt_of_lt_of_le hi HF.out.1.size) (fun e => by simp at e; have := HF.out.2; omega)⟩
    clear r2 g2 hs
    go_wp2_with fail
    refine hc.mono ?_
    rintro e W3 ⟨m, rfl, hm, hr, g3⟩
    have HE : Hid ((disP L).length = m ∧ AtRow W3 (some ⟨g, 0, none⟩) (disP L) ∧ Below w.heap.size w W3) := by
      rw [disP, hl]
      exact ⟨hm, hr, HF2.out.trans ⟨g3.os, g3.tape, g3.output, g3.size, fun i hi => g3.block i (Nat.lt_of_lt_of_le hi HF2.out.size) (fun e => by simp at e; have := HF.out.2; omega)⟩⟩
    clear hm hr g3 hc
    go_wp2_with fail
    go_ret
    exact ⟨_, _, _, rfl, HE.out.1, HE.out.2.1, HE.out.2.2⟩
set_option maxRecDepth 20000 in
set_option maxHeartbeats 4000000 in
theorem same_any {w : World} {ao bo : Option Addr} {A B : List At} (n m ca cb : Nat) (ha : AtRow w ao A) (hb : AtRow w bo B) (hn : A.length = n) (hm : B.length = m) (hn2 : n ≤ 5000) :
    Calls Try.prog 46 #[.slice ao n ca, .slice bo m cb] w fun e w' => e = .returned (.bool (sameP A B)) ∧ Below w.heap.size w w' := by
  by_cases hnm : n = m
  · subst hnm
    have HD : Hid (sameP A B = (eqA A B || eqA (disP A) (disP B))) := same_dis (by rw [hn, hm])
    have h45 := sleq_ats n n ca cb ha hb hn hm (by omega)
    have HA : Hid (AtRow w ao A ∧ AtRow w bo B ∧ A.length = n ∧ B.length = n) := ⟨ha, hb, hn, hm⟩
    clear ha hb hn hm
    cases hE : eqA A B with
    | true =>
      rw [hE] at h45 HD
      clear hE
      have HE : Hid (sameP A B = true) := by
        show sameP A B = true
        rw [HD.out]; rfl
      go_enter Try.func46, Try.ntmps46
      go_wp2_with fail
      refine h45.mono ?_
      rintro e w' ⟨rfl, q, rfl⟩
      clear h45
      go_wp2_with fail
      go_ret
      exact ⟨by rw [HE.out]; rfl, below_drewN (Below.refl _ _) _⟩
    | false =>
      rw [hE] at h45 HD
      clear hE
      go_enter Try.func46, Try.ntmps46
      go_wp2_with fail
      refine h45.mono ?_
      rintro e w1 ⟨rfl, q, hw1⟩
      have hb1 : Below w.heap.size w w1 := by rw [hw1]; exact below_drewN (Below.refl _ _) _
      have hd1 := distinct_any n ca (HA.out.1.old hb1) HA.out.2.2.1 hn2
      have HB1 : Hid (Below w.heap.size w w1) := hb1
      clear h45 hw1 hb1
      go_wp2_with fail
      refine hd1.mono ?_
      rintro e w2 ⟨do1, m1, c1, rfl, hl1, hr1, b1⟩
      have hb2 : Below w.heap.size w w2 := HB1.out.trans (b1.mono HB1.out.size)
      have hd2 := distinct_any n cb (HA.out.2.1.old hb2) HA.out.2.2.2 hn2
      have HB2 : Hid (Below w.heap.size w w2 ∧ (disP A).length = m1 ∧ AtRow w2 do1 (disP A)) := ⟨hb2, hl1, hr1⟩
      clear hd1 hb2 b1 hl1 hr1
      go_wp2_with fail
      refine hd2.mono ?_
      rintro e w3 ⟨do2, m2, c2, rfl, hl2, hr2, b2⟩
      have hm1 : m1 ≤ 5000 := by
        rw [← HB2.out.2.1]
        exact Nat.le_trans (cpU_len _ _) (by rw [HA.out.2.2.1]; exact hn2)
      have hs := sleq_ats m1 m2 c1 c2 (HB2.out.2.2.old b2) hr2 HB2.out.2.1 hl2 (by omega)
      have HB3 : Hid (Below w.heap.size w w3) := HB2.out.1.trans (b2.mono HB2.out.1.size)
      have HE : Hid (sameP A B = eqA (disP A) (disP B)) := by
        show sameP A B = _
        rw [HD.out, Bool.false_or]
      clear hd2 hl2 hr2 b2 hm1
      obtain ⟨R, hR⟩ : ∃ R, eqA (disP A) (disP B) = R := ⟨_, rfl⟩
      rw [hR] at hs HE
      clear hR
      go_wp2_with fail
      refine hs.mono ?_
      rintro e w4 ⟨rfl, q4, rfl⟩
      clear hs
      go_wp2_with fail
      go_ret
      exact ⟨by rw [HE.out]; rfl, below_drewN HB3.out _⟩
  · have h1 : ((n : Int) == (m : Int)) = false := by simp; omega
    have h2 : ¬ (n : Int) = (m : Int) := by omega
    have HE : Hid (sameP A B = false) := by
      show sameP A B = false
      rw [sameP, decide_eq_false (by omega)]
      rfl
    clear ha hb hn hm
    go_enter Try.func46, Try.ntmps46
    go_wp2_with fail
    go_ret
    exact ⟨by rw [HE.out]; rfl, Below.refl _ _⟩
/-- What like asks of two nodes. -/
def lk1 (x y : Tr) : Bool := alk x.d x.k.length y.d y.k.length && sameP x.d.al y.d.al
set_option maxRecDepth 20000 in
set_option maxHeartbeats 4000000 in
theorem like_on {w : World} {x y : Tr} {b off b' off' : Nat} {av kv av' kv' : Value} (hx : x.d.al.length ≤ 4000) (hc : CellsAt w b off (x.d.cs av kv)) (hc' : CellsAt w b' off' (y.d.cs av' kv')) (ht : TrC w x av kv) (hu : TrC w y av' kv') :
    Calls Try.prog 30 #[.pointer (some ⟨b, off, none⟩), .pointer (some ⟨b', off', none⟩)] w fun e W' => e = .returned (.bool (lk1 x y)) ∧ Below w.heap.size w W' := by
  obtain ⟨a, ac, k, kc, rfl, rfl, h1⟩ := ht.flat
  obtain ⟨a', ac', k', kc', rfl, rfl, h2⟩ := hu.flat
  have hka0 : ∀ q, Calls Try.prog 44 #[.pointer (some ⟨b, off, none⟩), .pointer (some ⟨b', off', none⟩)] (w.drewN q) fun e w' => e = .returned (.bool (alk x.d x.k.length y.d y.k.length)) ∧ ∃ q', w' = (w.drewN q).drewN q' := fun q => agree_any x.d y.d x.k.length kc y.k.length kc' (fun j u hj => hc j u hj) (fun j u hj => hc' j u hj)
  have x5 : w.cell? ⟨b, off + 5, none⟩ = some (.slice a x.d.al.length ac) := hc 5 _ rfl
  have y5 : w.cell? ⟨b', off' + 5, none⟩ = some (.slice a' y.d.al.length ac') := hc' 5 _ rfl
  have ks : ∀ q, Calls Try.prog 46 #[.slice a x.d.al.length ac, .slice a' y.d.al.length ac'] (w.drewN q) fun e w' => e = .returned (.bool (sameP x.d.al y.d.al)) ∧ Below (w.drewN q).heap.size (w.drewN q) w' := fun q => same_any _ _ ac ac' (fun i u hi => h1 i u hi) (fun i u hi => h2 i u hi) rfl rfl (by omega)
  clear hc hc' ht hu h1 h2 hx
  obtain ⟨A, hA⟩ : ∃ A, alk x.d x.k.length y.d y.k.length = A := ⟨_, rfl⟩
  obtain ⟨B, hB⟩ : ∃ B, sameP x.d.al y.d.al = B := ⟨_, rfl⟩
  have HV : Hid (lk1 x y = (A && B)) := by
    show lk1 x y = _
    rw [lk1, hA, hB]
  rw [hB] at ks
  have hA0 := hA
  clear hB
  have k44 : ∀ q, Calls Try.prog 44 #[.pointer (some ⟨b, off, none⟩), .pointer (some ⟨b', off', none⟩)] (w.drewN q) fun e w' => e = .returned (.bool A) ∧ ∃ q', w' = (w.drewN q).drewN q' := fun q => by
    have := hka0 q
    rwa [hA0] at this
  cases A with
  | false =>
    have HE : Hid (lk1 x y = false) := by
      show lk1 x y = false
      rw [HV.out]; rfl
    go_enter Try.func30, Try.ntmps30
    go_wp2_with fail
    go_quiet (first | (go_at_call 44; exact Calls.quiet_of (k44 _)))
    go_wp2_with fail
    go_ret
    exact ⟨by rw [HE.out]; rfl, below_drewN (Below.refl _ _) _⟩
  | true =>
    have HE : Hid (lk1 x y = B) := by
      show lk1 x y = B
      rw [HV.out]; rfl
    go_enter Try.func30, Try.ntmps30
    go_wp2_with fail
    go_region_with (first | (go_at_call 44; refine (k44 1).mono ?_; rintro e w' ⟨rfl, q, hw⟩; rw [World.drewN_drewN] at hw; subst hw) | (go_at_call 46; refine (ks _).mono ?_; rintro e w' ⟨rfl, b9⟩))
    all_goals
      go_wp2_with fail
      go_ret
      exact ⟨by rw [HE.out]; rfl, (below_drewN (Below.refl w.heap.size w) _).trans b9⟩
theorem lk1_mk (d : Nd) (ks : List Tr) (u : Tr) : lk1 (.mk d ks) u = (alk d ks.length u.d u.k.length && sameP d.al u.d.al) := rfl
mutual
theorem pAll_lk : ∀ (t u : Tr), pAll lk1 t u = lT t u
  | .mk d ks, u => by
    have h := pAll_lkL ks u.k
    rw [pAll, pT, List.all_cons, h]
    show (lk1 (.mk d ks) u && lL ks u.k) = _
    rw [lT, lk1_mk, Bool.and_assoc]
theorem pAll_lkL : ∀ (l m : List Tr), (pL l m).all (fun p => lk1 p.1 p.2) = lL l m
  | [], _ => by rw [pL, lL]; rfl
  | x :: xs, [] => by rw [pL, lL]; rfl
  | x :: xs, y :: ys => by
    have h1 := pAll_lk x y
    rw [pAll] at h1
    rw [pL, List.all_append, h1, pAll_lkL xs ys, lL]
end
set_option maxRecDepth 20000 in
set_option maxHeartbeats 2000000 in
theorem like_prog {w : World} {t u : Tr} {av kv av' kv' : Value} (ht : TrC w t av kv) (hu : TrC w u av' kv') (hs : Sml t) (hn : cT t ≤ 900000) :
    Calls Try.prog 11 #[nv t.d av kv, nv u.d av' kv'] w fun e w' => e = .returned (.bool (lT t u)) ∧ Below w.heap.size w w' := by
  have h26 : ∀ W : World, Below w.heap.size w W → Calls Try.prog 26 #[nv t.d av kv, nv u.d av' kv', .func (.func 30) #[] #[]] W fun e W' => e = .returned (.bool (lT t u)) ∧ Below W.heap.size W W' := fun W hb => by
    rw [← pAll_lk]
    refine (callsIn_wide (n := 0)).1 (everywhere_in 0 (ht.old hb) (hu.old hb) hn 30 (enters_of Try.func30 (by kernel_rfl) rfl) lk1 (fun W x y b off b' off' av kv av' kv' hm hc hc' hx hy => ?_))
    obtain ⟨l, hl⟩ := pT_mem t u 1 (x, y) hm
    have hsx := (vT_sml t 1 hs _ hl).1
    cases hsx with
    | mk ha _ _ => exact like_on ha hc hc' hx hy
  obtain ⟨a, ac, k, kc, rfl, rfl, _⟩ := ht.flat
  obtain ⟨a', ac', k', kc', rfl, rfl, _⟩ := hu.flat
  obtain ⟨V1, hV1⟩ : ∃ V, (w.alloc (na t.d (.slice a t.d.al.length ac) (.slice k t.k.length kc))).alloc (na u.d (.slice a' u.d.al.length ac') (.slice k' u.k.length kc')) = V := ⟨_, rfl⟩
  have hb1 : Below w.heap.size w V1 := by
    rw [← hV1]
    exact ((Below.refl _ _).alloc (Nat.le_refl _) _).alloc (by simp) _
  have hk := h26 V1 hb1
  have HB : Hid (Below w.heap.size w V1) := hb1
  have HV1 : Hid ((w.alloc (na t.d (.slice a t.d.al.length ac) (.slice k t.k.length kc))).alloc (na u.d (.slice a' u.d.al.length ac') (.slice k' u.k.length kc')) = V1) := hV1
  clear h26 hb1 ht hu hV1
  go_enter Try.func11, Try.ntmps11
  go_wp2_with fail
  rw [HV1.out]
  refine hk.mono ?_
  rintro e W1 ⟨rfl, b1⟩
  go_wp2_with fail
  go_ret
  exact ⟨rfl, HB.out.trans (b1.mono HB.out.size)⟩
end Go.Proofs.Ytdpibnmbgjhohaa
