/- allowed; Check. -/
import Derived.Test.YtdpibnmbgjhohaaDc
namespace Go.Proofs.Ytdpibnmbgjhohaa
open Go.RowKit
attribute [local go_sem] Oper.semAt_some
attribute [local go_sem] wide_fn wide_depth round_fn round_depth

/-- Whether a node of a level may be as it is. -/
def alwP (d : Nd) (nk lv : Nat) : Bool := if d.kind = 0 then decide (lv = 1) else decide (1 < lv) && kOk d.kind nk d.text
set_option maxRecDepth 20000 in
set_option maxHeartbeats 4000000 in
theorem allowed_any {w : World} {b off : Nat} (d : Nd) {av : Value} {kp : Option Addr} (kn kc lv : Nat) (hlv : 1 ≤ lv) (hc : CellsAt w b off (d.cs av (.slice kp kn kc))) :
    Calls Try.prog 34 #[.pointer (some ⟨b, off, none⟩), iv lv] w fun e w' => e = .returned (.bool (alwP d kn lv)) ∧ w' = w := by
  have x1 : w.cell? ⟨b, off + 1, none⟩ = some (iv d.kind) := hc 1 _ rfl
  have x4 : w.cell? ⟨b, off + 4, none⟩ = some (.string d.text) := hc 4 _ rfl
  have x10 : w.cell? ⟨b, off + 10, none⟩ = some (.slice kp kn kc) := hc 10 _ rfl
  clear hc
  obtain ⟨R, hR⟩ : ∃ R, alwP d kn lv = R := ⟨_, rfl⟩
  have HR : Hid ((if d.kind = 0 then decide (lv = 1) else decide (1 < lv) && kOk d.kind kn d.text) = R) := hR
  rw [hR]
  clear hR
  obtain ⟨kd, hkd⟩ : ∃ kd, d.kind = kd := ⟨_, rfl⟩
  rw [hkd] at x1 HR
  clear hkd
  by_cases h0 : kd = 0
  · subst h0
    have hr := HR.out
    rw [if_pos rfl] at hr
    subst hr
    clear HR
    by_cases hl : lv = 1
    · subst hl
      go_enter Try.func34, Try.ntmps34
      go_wp2_with fail
      go_ret
      exact ⟨rfl, rfl⟩
    · have g1 : ((lv : Int) == 1) = false := by rw [beq_eq_false_iff_ne]; omega
      rw [decide_eq_false hl]
      clear hl
      go_enter Try.func34, Try.ntmps34
      go_wp2_with fail
      go_ret
      exact ⟨rfl, rfl⟩
  · have hr := HR.out
    rw [if_neg h0] at hr
    have n0 : (kd == 0) = false := by simp [h0]
    clear HR
    by_cases h1 : kd = 1
    · subst h1
      by_cases hl : 1 < lv
      · have g1 : decide ((lv : Int) > 1) = true := decide_eq_true (by omega)
        have g1' : decide (1 < lv) = true := decide_eq_true hl
        have HC : True := trivial
        have hv : R = true := by
          rw [← hr]
          simp [kOk, hl]
        rw [hv]
        clear hr hv HC
        go_enter Try.func34, Try.ntmps34
        go_wp2_with fail
        go_ret
        exact ⟨rfl, rfl⟩
      · have g1 : decide ((lv : Int) > 1) = false := decide_eq_false (by omega)
        have g1' : decide (1 < lv) = false := decide_eq_false hl
        have HC : True := trivial
        have hv : R = false := by
          rw [← hr]
          simp [kOk, hl]
        rw [hv]
        clear hr hv HC
        go_enter Try.func34, Try.ntmps34
        go_wp2_with fail
        go_ret
        exact ⟨rfl, rfl⟩
    · have n1 : (kd == 1) = false := by simp [h1]
      by_cases h2 : kd = 2
      · subst h2
        by_cases hl : 1 < lv
        · have g1 : decide ((lv : Int) > 1) = true := decide_eq_true (by omega)
          have g1' : decide (1 < lv) = true := decide_eq_true hl
          have HC : True := trivial
          by_cases hk : kn = 0
          · subst hk
            by_cases ht : d.text.data.toList = []
            · have g3 : (d.text.toList == []) = true := by rw [ByteArray.toList_eq, ht]; rfl
              have hv : R = false := by
                rw [← hr]
                simp [kOk, hl, ht]
              rw [hv]
              clear hr hv HC
              go_enter Try.func34, Try.ntmps34
              go_wp2_with fail
              go_ret
              exact ⟨rfl, rfl⟩
            · have g3 : (d.text.toList == []) = false := by rw [ByteArray.toList_eq, beq_eq_false_iff_ne]; exact ht
              have hv : R = true := by
                rw [← hr]
                simp [kOk, hl, ht]
              rw [hv]
              clear hr hv HC
              go_enter Try.func34, Try.ntmps34
              go_wp2_with fail
              go_ret
              exact ⟨rfl, rfl⟩
          · have g2 : ((kn : Int) == 0) = false := by rw [beq_eq_false_iff_ne]; omega
            have hk0 : 0 < kn := by omega
            have hv : R = false := by
              rw [← hr]
              simp [kOk, hl, hk0]
            rw [hv]
            clear hr hv HC
            go_enter Try.func34, Try.ntmps34
            go_wp2_with fail
            go_ret
            exact ⟨rfl, rfl⟩
        · have g1 : decide ((lv : Int) > 1) = false := decide_eq_false (by omega)
          have g1' : decide (1 < lv) = false := decide_eq_false hl
          have HC : True := trivial
          have hv : R = false := by
            rw [← hr]
            simp [kOk, hl]
          rw [hv]
          clear hr hv HC
          go_enter Try.func34, Try.ntmps34
          go_wp2_with fail
          go_ret
          exact ⟨rfl, rfl⟩
      · have n2 : (kd == 2) = false := by simp [h2]
        by_cases h3 : kd = 3
        · subst h3
          by_cases hl : 1 < lv
          · have g1 : decide ((lv : Int) > 1) = true := decide_eq_true (by omega)
            have g1' : decide (1 < lv) = true := decide_eq_true hl
            have HC : True := trivial
            by_cases hk : kn = 0
            · subst hk
              have hv : R = true := by
                rw [← hr]
                simp [kOk, hl]
              rw [hv]
              clear hr hv HC
              go_enter Try.func34, Try.ntmps34
              go_wp2_with fail
              go_ret
              exact ⟨rfl, rfl⟩
            · have g2 : ((kn : Int) == 0) = false := by rw [beq_eq_false_iff_ne]; omega
              have hk0 : 0 < kn := by omega
              have hv : R = false := by
                rw [← hr]
                simp [kOk, hl, hk0]
              rw [hv]
              clear hr hv HC
              go_enter Try.func34, Try.ntmps34
              go_wp2_with fail
              go_ret
              exact ⟨rfl, rfl⟩
          · have g1 : decide ((lv : Int) > 1) = false := decide_eq_false (by omega)
            have g1' : decide (1 < lv) = false := decide_eq_false hl
            have HC : True := trivial
            have hv : R = false := by
              rw [← hr]
              simp [kOk, hl]
            rw [hv]
            clear hr hv HC
            go_enter Try.func34, Try.ntmps34
            go_wp2_with fail
            go_ret
            exact ⟨rfl, rfl⟩
        · have n3 : (kd == 3) = false := by simp [h3]
          by_cases h4 : kd = 4
          · subst h4
            by_cases hl : 1 < lv
            · have g1 : decide ((lv : Int) > 1) = true := decide_eq_true (by omega)
              have g1' : decide (1 < lv) = true := decide_eq_true hl
              have HC : True := trivial
              by_cases hk : kn = 0
              · subst hk
                have hv : R = true := by
                  rw [← hr]
                  simp [kOk, hl]
                rw [hv]
                clear hr hv HC
                go_enter Try.func34, Try.ntmps34
                go_wp2_with fail
                go_ret
                exact ⟨rfl, rfl⟩
              · have g2 : ((kn : Int) == 0) = false := by rw [beq_eq_false_iff_ne]; omega
                have hk0 : 0 < kn := by omega
                have hv : R = false := by
                  rw [← hr]
                  simp [kOk, hl, hk0]
                rw [hv]
                clear hr hv HC
                go_enter Try.func34, Try.ntmps34
                go_wp2_with fail
                go_ret
                exact ⟨rfl, rfl⟩
            · have g1 : decide ((lv : Int) > 1) = false := decide_eq_false (by omega)
              have g1' : decide (1 < lv) = false := decide_eq_false hl
              have HC : True := trivial
              have hv : R = false := by
                rw [← hr]
                simp [kOk, hl]
              rw [hv]
              clear hr hv HC
              go_enter Try.func34, Try.ntmps34
              go_wp2_with fail
              go_ret
              exact ⟨rfl, rfl⟩
          · have n4 : (kd == 4) = false := by simp [h4]
            have HC : True := trivial
            have hv : R = false := by
              rw [← hr]
              have : kOk kd kn d.text = false := by
                have : kd < 1 ∨ 4 < kd := by omega
                rcases this with h | h
                · simp [kOk, h]
                · simp [kOk, h]
              rw [this, Bool.and_false]
            rw [hv]
            clear hr hv HC
            go_enter Try.func34, Try.ntmps34
            go_wp2_with fail
            go_ret
            exact ⟨rfl, rfl⟩
mutual
theorem vT_alw : ∀ (t : Tr) (lv : Nat), 1 < lv → ((vT t lv).all fun x => alwP x.1.d x.1.k.length x.2) = (kOk t.d.kind t.k.length t.d.text && bT t)
  | .mk d ks, lv, h => by
    rw [vT, List.all_cons, vL_alw ks (lv + 1) (by omega), bT]
    show (alwP d ks.length lv && _) = (kOk d.kind ks.length d.text && bL ks)
    have : alwP d ks.length lv = kOk d.kind ks.length d.text := by
      unfold alwP
      by_cases h0 : d.kind = 0
      · rw [if_pos h0, h0, decide_eq_false (by omega)]
        simp [kOk]
      · rw [if_neg h0, decide_eq_true h, Bool.true_and]
    rw [this]
theorem vL_alw : ∀ (l : List Tr) (lv : Nat), 1 < lv → ((vL l lv).all fun x => alwP x.1.d x.1.k.length x.2) = bL l
  | [], _, _ => rfl
  | t :: ts, lv, h => by rw [vL, List.all_append, vT_alw t lv h, vL_alw ts lv h, bL]
end
theorem all_alw (t : Tr) : ((vT t 1).all fun x => alwP x.1.d x.1.k.length x.2) = (decide (t.d.kind = 0) && bT t) := by
  obtain ⟨d, ks⟩ := t
  rw [vT, List.all_cons, vL_alw ks 2 (by omega), bT]
  show (alwP d ks.length 1 && bL ks) = (decide (d.kind = 0) && bL ks)
  have : alwP d ks.length 1 = decide (d.kind = 0) := by
    unfold alwP
    by_cases h0 : d.kind = 0 <;> simp [h0]
  rw [this]
mutual
theorem vT_lv : ∀ (t : Tr) (lv : Nat), 1 ≤ lv → ∀ x ∈ vT t lv, 1 ≤ x.2
  | .mk d ks, lv, h, x, hx => by
    rw [vT, List.mem_cons] at hx
    rcases hx with rfl | hx
    · exact h
    · exact vL_lv ks (lv + 1) (by omega) x hx
theorem vL_lv : ∀ (l : List Tr) (lv : Nat), 1 ≤ lv → ∀ x ∈ vL l lv, 1 ≤ x.2
  | [], _, _, x, hx => by simp [vL] at hx
  | t :: ts, lv, h, x, hx => by
    rw [vL, List.mem_append] at hx
    rcases hx with hx | hx
    · exact vT_lv t lv h x hx
    · exact vL_lv ts lv h x hx
end
theorem results33 {fn : Func} {q : Tmp} (hf : fn.results = #[.cell q 33]) {tmps : Array Value} {w : World} {z : Nat} {i : Int} (hq : tmps.getD q undef = .pointer (some ⟨z, 0, none⟩)) (hz : w.heap[z]? = some (.cells #[iv i] 33 (0, 0))) : (results fn tmps).run Try.prog w = .ok (iv i) w := by
  have hq' : tmps[q]?.getD undef = .pointer (some ⟨z, 0, none⟩) := by simpa using hq
  have hl : (loadVar 33 ⟨z, 0, none⟩).run Try.prog w = .ok (iv i) w := by
    have x0 := (one_cell hz).1
    have u4 := Try.underlying33
    have a4 := Try.isAgg33
    go_simp
  simp [results, hf, hq', asAddr, hl]
set_option maxRecDepth 20000 in
set_option maxHeartbeats 4000000 in
theorem check_in (n : Nat) {w : World} {t : Tr} {av kv : Value} (ht : TrC w t av kv) (hn : cT t ≤ 900000) :
    CallsIn Fence.wide n Try.prog 18 #[nv t.d av kv] w fun e w' => e = .returned (iv (chkP t)) ∧ Below w.heap.size w w' := by
  have h33 : ∀ W : World, Below w.heap.size w W → Calls Try.prog 33 #[nv t.d av kv] W fun e w' => e = .returned (.bool (numP (iT t))) ∧ Below W.heap.size W w' := fun W hb => numbered_any (ht.old hb) hn
  obtain ⟨d, ks⟩ := t
  have ht' : ∃ s1 s2 : Sl, av = slv s1 ∧ kv = slv s2 := by
    cases ht
    exact ⟨(_, _, _), (_, _, _), rfl, rfl⟩
  obtain ⟨⟨ao, an, ac⟩, ⟨kp, kn, kc⟩, rfl, rfl⟩ := ht'
  simp only [slv] at ht h33
  simp only [Tr.d, slv]
  simp only [Tr.d] at h33
  obtain ⟨V, hV⟩ : ∃ V, (w.alloc (na d (.slice ao an ac) (.slice kp kn kc))).alloc (.cells #[iv 0] 33) = V := ⟨_, rfl⟩
  have hq := als_spec w [na d (.slice ao an ac) (.slice kp kn kc), .cells #[iv 0] 33]
  simp only [als, List.length_cons, List.length_nil] at hq
  rw [hV] at hq
  obtain ⟨b1, s1, h1⟩ := hq
  have p0 : Bx V w.heap.size #[iv d.id, iv d.kind, iv d.space, .string d.name, .string d.text, .slice ao an ac, iv d.sf, iv d.st, iv d.ef, iv d.et, .slice kp kn kc] := h1 0 _ rfl
  have p1 : V.heap[w.heap.size + 1]? = some (.cells #[iv 0] 33 (0, 0)) := h1 1 _ rfl
  have hc33 := h33 V b1
  have HV : Hid ((w.alloc (na d (.slice ao an ac) (.slice kp kn kc))).alloc (.cells #[iv 0] 33) = V) := hV
  clear hV h33 h1
  refine callsIn_of_wp_marks Try.func18 rfl trivial ?_ rfl
  simp only [Try.ntmps18, List.size_toArray, List.length_cons, List.length_nil, Nat.reduceAdd, Nat.reduceSub, Array.replicate_succ, Array.replicate_zero, List.push_toArray, List.append_toArray, List.nil_append, List.cons_append]
  gi_wp2_with fail
  rw [HV.out]
  refine wide_call hc33 ?_
  rintro e W1 ⟨rfl, bW⟩
  have HB : Hid (Below w.heap.size w W1) := b1.trans (bW.mono b1.size)
  have p0' := p0.old bW
  have p1' := (bW.block _ (Array.getElem?_eq_some_iff.1 p1).1).trans p1
  have c1 := (one_cell p1').1
  have f1 := (one_cell p1').2
  cases hN : numP (iT (.mk d ks)) with
  | false =>
    have HE : Hid (chkP (.mk d ks) = 4) := by
      show chkP (.mk d ks) = 4
      rw [chkP, if_neg (by rw [hN]; decide)]
    clear hN
    gi_wp2_with fail
    have h9' := one_set (iv 4) p1'
    have hb : Below w.heap.size W1 (W1.setCell ⟨w.heap.size + 1, 0, none⟩ (iv 4)) := (Below.refl w.heap.size W1).setCell (p := ⟨w.heap.size + 1, 0, none⟩) (by simp only []; omega) _
    revert h9' hb
    generalize World.setCell _ _ _ = W'
    intro h9' hb
    exact ⟨_, results33 rfl rfl h9', by rw [HE.out], HB.out.trans hb⟩
  | true =>
    have x0 : W1.cell? ⟨w.heap.size, 0, none⟩ = some (iv d.id) := Bx.cell p0' 0
    have x1 : W1.cell? ⟨w.heap.size, 1, none⟩ = some (iv d.kind) := Bx.cell p0' 1
    have x2 : W1.cell? ⟨w.heap.size, 2, none⟩ = some (iv d.space) := Bx.cell p0' 2
    have x3 : W1.cell? ⟨w.heap.size, 3, none⟩ = some (.string d.name) := Bx.cell p0' 3
    have x4 : W1.cell? ⟨w.heap.size, 4, none⟩ = some (.string d.text) := Bx.cell p0' 4
    have x5 : W1.cell? ⟨w.heap.size, 5, none⟩ = some (.slice ao an ac) := Bx.cell p0' 5
    have x6 : W1.cell? ⟨w.heap.size, 6, none⟩ = some (iv d.sf) := Bx.cell p0' 6
    have x7 : W1.cell? ⟨w.heap.size, 7, none⟩ = some (iv d.st) := Bx.cell p0' 7
    have x8 : W1.cell? ⟨w.heap.size, 8, none⟩ = some (iv d.ef) := Bx.cell p0' 8
    have x9 : W1.cell? ⟨w.heap.size, 9, none⟩ = some (iv d.et) := Bx.cell p0' 9
    have x10 : W1.cell? ⟨w.heap.size, 10, none⟩ = some (.slice kp kn kc) := Bx.cell p0' 10
    have HC : Hid (chkP (.mk d ks) = if d.kind = 0 ∧ bT (.mk d ks) = true then 0 else 3) := by
      show chkP (.mk d ks) = _
      rw [chkP, if_pos hN]
      rfl
    clear hN
    gi_wp2_with (gi_at_call 32; refine wide_call (nodes_any _ _ _ _) ?_; rintro e w' ⟨rfl, rfl⟩)
    have hq := als_spec W1 [na d (.slice ao an ac) (.slice kp kn kc), .cells #[.slice (some ⟨W1.heap.size, 0, none⟩) 1 1] 25]
    simp only [als, List.length_cons, List.length_nil] at hq
    revert hq
    generalize World.alloc (World.alloc _ _) _ = w2
    rintro ⟨b2, s2, h2⟩
    have q0 : w2.heap[W1.heap.size]? = some (na d (.slice ao an ac) (.slice kp kn kc)) := h2 0 _ rfl
    have q1 : w2.heap[W1.heap.size + 1]? = some (.cells #[.slice (some ⟨W1.heap.size, 0, none⟩) 1 1] 25 (0, 0)) := h2 1 _ rfl
    have qr : w2.heap[w.heap.size + 1]? = some (.cells #[iv 0] 33 (0, 0)) := (b2.block _ (Array.getElem?_eq_some_iff.1 p1').1).trans p1'
    have hW2 : Below w.heap.size w w2 := HB.out.trans (b2.mono HB.out.size)
    have hsz := HB.out.size
    have hl1 := (Array.getElem?_eq_some_iff.1 p1').1
    clear h2 x0 x1 x2 x3 x4 x5 x6 x7 x8 x9 x10
    refine walk_law (r := W1.heap.size) (bx := W1.heap.size + 1) ht hn hW2 (na_cells q0) (by omega) (one_cell q1).1 rfl
      (fun pre W => (Below w.heap.size w W ∧ W.heap[W1.heap.size]? = some (na d (.slice ao an ac) (.slice kp kn kc))) ∧ W.heap[w.heap.size + 1]? = some (.cells #[iv 0] 33 (0, 0)) ∧ ∀ x ∈ pre, alwP x.1.d x.1.k.length x.2 = true)
      (fun c W => c = .ret ∧ chkP (.mk d ks) = 3 ∧ Below w.heap.size w W ∧ W.heap[w.heap.size + 1]? = some (.cells #[iv 3] 33 (0, 0)))
      ?_ ?_ (fun pre W h => ⟨h.1.1, h.1.2.trans q0.symm⟩) ⟨⟨hW2, q0⟩, qr, fun x hx => by simp at hx⟩
      (fun x y => { tmps := #[nv d (.slice ao an ac) (.slice kp kn kc), ptr w.heap.size, ptr (w.heap.size + 1), x, y, nv d (.slice ao an ac) (.slice kp kn kc), .bool true, .bool false, nv d (.slice ao an ac) (.slice kp kn kc), .slice (some ⟨W1.heap.size, 0, none⟩) 1 1, .func (.func 48) #[] #[ptr (W1.heap.size + 1)], x, y, undef, undef, undef, undef], defers := [] }) ?_ ?_ ?_ ?_
    · rintro pre W1' W2' ⟨⟨h1, h2⟩, h3, h4⟩ ho
      exact ⟨⟨h1.trans (ho.below.mono (by omega)), (ho.low _ (by omega)).trans h2⟩, (ho.low _ (by omega)).trans h3, h4⟩
    · rintro c W1' W2' ⟨hc, h1, h2, h3⟩ ho
      exact ⟨hc, h1, h2.trans (ho.below.mono (by omega)), (ho.low _ (by omega)).trans h3⟩
    · intro l x y W K hK
      simp only [List.setIfInBounds_toArray, List.set_cons_succ, List.set_cons_zero]
      gi_wp2
      exact hK
    · rintro l pre u lv rest b off av' kv' W heq ⟨⟨h1, hr⟩, h2, h3⟩ hc hu
      obtain ⟨a1, k1, kp1, kc1, rfl, rfl⟩ := hu.v.form
      have hlv : 1 ≤ lv := vT_lv (.mk d ks) 1 (Nat.le_refl _) (u, lv) (by rw [heq]; simp)
      have h34 := allowed_any u.d u.k.length kc1 lv hlv hc
      have hall := all_alw (.mk d ks)
      have c2 := (one_cell h2).1
      have f2 := (one_cell h2).2
      cases hA : alwP u.d u.k.length lv with
      | true =>
        rw [hA] at h34
        clear hall
        gi_wp2_with fail
        refine round_call h34 ?_
        rintro e W3 ⟨rfl, rfl⟩
        gi_wp2
        exact ⟨Kp.refl _ _, ⟨h1, hr⟩, h2, fun x hx => by
          rw [List.mem_append, List.mem_singleton] at hx
          rcases hx with hx | rfl
          · exact h3 x hx
          · exact hA⟩
      | false =>
        rw [hA] at h34
        have HE : Hid (chkP (.mk d ks) = 3) := by
          show chkP (.mk d ks) = 3
          rw [HC.out, if_neg]
          rintro ⟨q1, q2⟩
          have : ((vT (.mk d ks) 1).all fun x => alwP x.1.d x.1.k.length x.2) = true := by
            rw [hall, q2, Bool.and_true]
            exact decide_eq_true q1
          rw [List.all_eq_true] at this
          have := this (u, lv) (by rw [heq]; simp)
          rw [hA] at this
          cases this
        clear hall hA heq hu hc
        gi_wp2_with fail
        refine round_call h34 ?_
        rintro e W3 ⟨rfl, hW3⟩
        subst hW3
        clear h34
        gi_wp2
        have h9' := one_set (iv 3) h2
        exact ⟨Kp.set _ h2 (by decide), rfl, HE.out, h1.trans ((Below.refl w.heap.size W3).setCell (p := ⟨w.heap.size + 1, 0, none⟩) (by simp only []; omega) _), h9'⟩
    · rintro D W hD ⟨⟨h1, hr⟩, h2, h3⟩ hd
      have hall := all_alw (.mk d ks)
      have HE : Hid (chkP (.mk d ks) = 0) := by
        show chkP (.mk d ks) = 0
        rw [HC.out, if_pos]
        rw [List.all_eq_true.2 h3] at hall
        have := hall.symm
        rw [Bool.and_eq_true, decide_eq_true_iff] at this
        exact this
      have c2 := (one_cell h2).1
      have f2 := (one_cell h2).2
      clear hall
      gi_wp2
      have h9' := one_set (iv 0) h2
      have hb : Below w.heap.size W (W.setCell ⟨w.heap.size + 1, 0, none⟩ (iv 0)) := (Below.refl w.heap.size W).setCell (p := ⟨w.heap.size + 1, 0, none⟩) (by simp only []; omega) _
      have hd' : (W.setCell ⟨w.heap.size + 1, 0, none⟩ (iv 0)).heap[D]? = some (.deferred (some [])) := (Below.heap_setCell W _ _ _ (by simp only []; omega)).trans hd
      revert h9' hb hd'
      generalize World.setCell _ _ _ = W'
      intro h9' hb hd'
      refine ⟨by simp, .inl ⟨_, _, rfl, run_takeDeferred hd', ?_⟩⟩
      refine ⟨_, results33 rfl rfl ((World.putObj_heap_other (by omega)).trans h9'), by rw [HE.out], (h1.trans hb).trans (Off.put (q := 25) _ (by omega) hd' rfl).below⟩
    · rintro D c W hD ⟨rfl, h1, h2, h3⟩ hd
      gi_wp2
      refine ⟨by simp, .inl ⟨_, _, rfl, run_takeDeferred hd, ?_⟩⟩
      refine ⟨_, results33 rfl rfl ((World.putObj_heap_other (by omega)).trans h3), by rw [h1], h2.trans (Off.put (q := 25) _ (by omega) hd rfl).below⟩
end Go.Proofs.Ytdpibnmbgjhohaa
