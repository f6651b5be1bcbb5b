/- The law NamesFinds holds for every list of names and every text: a trie of any names finds what the document's plain search over them finds. No condition. -/
import Derived.Test.YtfkhpcgccjlpgaaOp
import Derived.Test.YtfkhpcgccjlpgaaNm
namespace Go.Proofs.Ytfkhpcgccjlpgaa
open Go.ChangeShapes Go.WideShapes Go.ChangeAt Go.RowKit Go.Joins

/-- 'append' where its run is known by an equation, in a region that draws no order. -/
theorem list_append_eq {P : Program} {ops : Array Oper} {rest : List Oper} {o : Oper} {a : Act} {w : World} {Q : Exit → Act → World → Prop}
    (hg : o.guard = none) (d x : Operand) (dT sT : TypeId) (hop : o.op = Op.call { callee := Callee.builtin Builtin.append, args := #[d, x], argTypes := #[dT, sT] })
    (v u : Value) (hd : a.eval d = v) (hx : a.eval x = u) {v' : Value} {w' : World} (hr : (Builtin.append_ #[dT, sT] o.type #[v, u]).run P w = .ok v' w') (hK : wpList P ops Q rest (a.put o.dst v') w') :
    wpList P ops Q (o :: rest) a w :=
  wpList_plain hg fun K hK2 => by
    unfold Oper.wp
    simp [execOp, hop, resolve, invoke, builtin, hd, hx, hr, Result.andThen]
    exact hK2 _ _ hK

theorem rlong_best {w : World} {ao : Option Addr} {L : List Rf} (n cap : Nat) (s : ByteArray) (ha : RefRow w ao (allP L)) (hn : (allP L).length = n) (hn2 : n ≤ 100000) :
    Calls Try.prog 13 #[.slice ao n cap, .string s] w fun e w' => e = .returned (.tuple #[.int .i64 (best L s.data.toList s.size).1, .int .i64 ((best L s.data.toList s.size).2 : Nat)]) ∧ Below w.heap.size w w' := by
  have h := rlong_any n cap s ha hn hn2 (fun x hx => by
    have h1 := (val_len ((allP_mem x).1 hx)).2
    have h2 : x.nm.length = x.n.size := Array.length_toList
    omega)
  rw [lg_best] at h
  have h2 : s.data.toList.length = s.size := Array.length_toList
  rw [h2] at h
  exact h
theorem rgoes_goes {w : World} {ao : Option Addr} {L : List Rf} (n cap : Nat) (s : ByteArray) (ha : RefRow w ao (allP L)) (hn : (allP L).length = n) (hn2 : n ≤ 100000) :
    Calls Try.prog 15 #[.slice ao n cap, .string s] w fun e w' => e = .returned (.bool (goes L s.data.toList)) ∧ w' = w := by
  have h := rgoes_any n cap s ha hn hn2
  rw [any_goes] at h
  exact h

set_option maxHeartbeats 2000000 in
set_option maxRecDepth 10000 in
theorem finds_walk (lo : Option Addr) (len cap : Nat) (L : List Rf) (s : ByteArray) (w : World) (hL : L.length = len) (hrow : RefRow w lo L) :
    Calls Try.prog 3 #[.slice lo len cap, .string s] w fun e w' => e = .returned (.bool true) ∧ Below w.heap.size w w' := by
  have HR : Hid (RefRow w lo L ∧ L.length = len) := ⟨hrow, hL⟩
  clear hrow hL
  by_cases hfew : len ≤ 300 ∧ s.size ≤ 2000
  · have hcnt := cnt_le [] L
    have hlenA := all_len L
    obtain ⟨m, hm⟩ : ∃ m, cnt [] L = m := ⟨_, rfl⟩
    rw [hm] at hcnt hlenA
    rw [HR.out.2] at hcnt
    have HA : Hid ((allP L).length = m ∧ cnt [] L = m) := ⟨hlenA, hm⟩
    clear hm hlenA
    have hfd : decide (len ≤ 300 ∧ s.size ≤ 2000) = true := decide_eq_true hfew
    have hfe := few_any lo len cap s w
    rw [hfd] at hfe
    obtain ⟨v1, w1, e1, r1, f1⟩ := row_more (w := w) (B := w.heap.size) (L := []) (World.ownsRow_nil _ _ _ _) lo cap HR.out.1 (Nat.le_refl _) (by simp) (by rw [HR.out.2]; omega)
    have b1 : Below w.heap.size w w1 := lfr_below f1 (World.ownsRow_nil _ _ _ _) (Nat.le_refl _)
    rw [HR.out.2] at e1
    rw [List.nil_append] at r1
    obtain ⟨ao1, ca1, rfl, r1, _, _⟩ := row_ref r1
    rw [HR.out.2] at e1
    have H1 : Hid (RefRow w1 ao1 L ∧ Below w.heap.size w w1) := ⟨r1, b1⟩
    clear f1 r1 b1
    go_enter Try.func3, Try.ntmps3
    go_wp2_with fail
    refine hfe.mono ?_
    rintro e w0 ⟨rfl, rfl⟩
    clear hfe
    go_wp2_with (at_builtin; refine list_append_eq rfl _ _ 22 22 rfl _ _ rfl rfl e1 ?_)
    clear e1
    refine (new_any len ca1 H1.out.1 HR.out.2 (by omega)).mono ?_
    rintro e w2 ⟨t, rfl, T, b2⟩
    have bb2 : Below w0.heap.size w0 w2 := H1.out.2.trans (b2.mono H1.out.2.size)
    have H2 : Hid (TrieIs w2 w1.heap.size t L ∧ Below w0.heap.size w0 w2 ∧ RefRow w2 lo L) := ⟨T, bb2, HR.out.1.below bb2⟩
    clear T b2 bb2 H1
    go_wp2_with fail
    refine (names_any len cap H2.out.2.2 HR.out.2 (by omega)).mono ?_
    rintro e w3 ⟨xo, n, xc, rfl, hn, r3, b3⟩
    obtain rfl : m = n := by rw [← HA.out.1]; exact hn
    have H3 : Hid (TrieIs w3 w1.heap.size t L ∧ Below w0.heap.size w0 w3 ∧ RefRow w3 xo (allP L)) := ⟨H2.out.1.below b3, H2.out.2.1.trans (b3.mono H2.out.2.1.size), r3⟩
    clear hn r3 b3 H2
    go_wp2_with fail
    refine (longest_any H3.out.1 s (by omega)).mono ?_
    rintro e w4 ⟨rfl, b4⟩
    have H4 : Hid (TrieIs w4 w1.heap.size t L ∧ Below w0.heap.size w0 w4 ∧ RefRow w4 xo (allP L)) := ⟨H3.out.1.below b4, H3.out.2.1.trans (b4.mono H3.out.2.1.size), H3.out.2.2.below b4⟩
    clear b4 H3
    have hlo := rlong_best m xc s H4.out.2.2 HA.out.1 (by omega)
    obtain ⟨bs, hbs⟩ : ∃ bs, best L s.data.toList s.size = bs := ⟨_, rfl⟩
    rw [hbs] at hlo ⊢
    obtain ⟨br, bk⟩ := bs
    simp only at hlo ⊢
    clear hbs
    go_wp2_with fail
    refine hlo.mono ?_
    rintro e w5 ⟨rfl, b5⟩
    have H5 : Hid (TrieIs w5 w1.heap.size t L ∧ Below w0.heap.size w0 w5 ∧ RefRow w5 xo (allP L)) := ⟨H4.out.1.below b5, H4.out.2.1.trans (b5.mono H4.out.2.1.size), H4.out.2.2.below b5⟩
    clear b5 H4 hlo
    have hg1 := goes_any H5.out.1 s (by omega)
    obtain ⟨g, hg⟩ : ∃ g, goes L s.data.toList = g := ⟨_, rfl⟩
    have HG : Hid (goes L s.data.toList = g) := hg
    rw [hg] at hg1
    clear hg
    go_wp2_with fail
    refine hg1.mono ?_
    rintro e w6 ⟨rfl, b6⟩
    have H6 : Hid (TrieIs w6 w1.heap.size t L ∧ Below w0.heap.size w0 w6 ∧ RefRow w6 xo (allP L)) := ⟨H5.out.1.below b6, H5.out.2.1.trans (b6.mono H5.out.2.1.size), H5.out.2.2.below b6⟩
    clear b6 H5 hg1
    have hg2 := rgoes_goes m xc s H6.out.2.2 HA.out.1 (by omega)
    rw [HG.out] at hg2
    go_wp2_with fail
    refine hg2.mono ?_
    rintro e w7 ⟨rfl, rfl⟩
    clear hg2
    have hct := count_any H6.out.1
    rw [HA.out.2] at hct
    go_wp2_with fail
    refine hct.mono ?_
    rintro e w8 ⟨rfl, rfl⟩
    clear hct
    go_wp2_with fail
    refine (all_any H6.out.1 (by rw [HR.out.2]; omega) (by rw [HA.out.1]; omega)).mono ?_
    rintro e w9 ⟨v8, rfl, q8, b8⟩
    obtain ⟨o8, c8, rfl, r8, _, _⟩ := row_ref q8
    rw [HA.out.1]
    have H9 : Hid (Below w0.heap.size w0 w9 ∧ RefRow w9 o8 (allP L) ∧ RefRow w9 xo (allP L)) := ⟨H6.out.2.1.trans (b8.mono H6.out.2.1.size), r8, H6.out.2.2.below b8⟩
    clear b8 H6 q8 r8
    go_wp2_with fail
    refine (refs_same m c8 xc H9.out.2.1 H9.out.2.2 HA.out.1 (by omega)).mono ?_
    rintro e wa ⟨rfl, ba⟩
    have Ha : Hid (Below w0.heap.size w0 wa) := H9.out.1.trans (ba.mono H9.out.1.size)
    clear ba H9
    go_wp2_with fail
    refine (awake_any _).mono ?_
    rintro e wb ⟨rfl, bb⟩
    have Hb : Hid (Below w0.heap.size w0 wb) := Ha.out.trans (bb.mono Ha.out.size)
    clear bb Ha
    go_wp2_with fail
    go_ret
    exact ⟨rfl, Hb.out⟩
  · have hfd : decide (len ≤ 300 ∧ s.size ≤ 2000) = false := decide_eq_false hfew
    have hfe := few_any lo len cap s w
    rw [hfd] at hfe
    go_enter Try.func3, Try.ntmps3
    go_wp2_with fail
    refine hfe.mono ?_
    rintro e w0 ⟨rfl, rfl⟩
    clear hfe
    go_wp2_with fail
    refine (awake_any _).mono ?_
    rintro e wb ⟨rfl, bb⟩
    go_wp2_with fail
    go_ret
    exact ⟨rfl, bb⟩

set_option maxRecDepth 100000 in
theorem finds_lifted (os : Os) (started : os.Started) (H : Type) (enc : TypeId × Value → H) :
    ReturnsInHanded {} Try.checked os 3 .any (Rows.namesFindsSpec.pre6 enc Try.prog Try.f3 Rows.namesFindsRow.domain false) (Rows.namesFindsSpec.post enc Try.prog Try.f3 false true false false) := by
  refine returnsInHanded_of_change (C := Try.checked) own started (by kernel_rfl) Try.func3
    (ChangeSpec.witness6 (enc := enc) (C := Try.checked) false ⟨#[], #[.slice none 0 0, .string ⟨#[]⟩], []⟩ 8 (by kernel_rfl) (by kernel_rfl) (by kernel_rfl) (by kernel_rfl)) ?_
  intro W base args ds gs before hval0 hW hcnd _
  have hval : ∀ (j : Nat) t v, Try.f3.params[j]? = some t → args[j]? = some v → Value.okWide Try.prog W .any base t v := hval0
  have hW' := hW
  obtain ⟨p, q, hA0, hV, rfl, hfz, hnd⟩ := hW
  have hA : DataW.TrodAll enc Try.prog W 0 (fun _ => true) true Try.f3.params.toList args.toList ds p := hA0
  rw [Try.params3] at hA hval
  obtain ⟨v0, vs0, d0, ds0, p0, q0, hargs, rfl, rfl, h0, r0⟩ := trodAll_cons hA
  obtain ⟨v1, vs1, d1, ds1, p1, q1, rfl, rfl, rfl, h1, r1⟩ := trodAll_cons r0
  obtain ⟨rfl, rfl, rfl⟩ := trodAll_nil r1
  obtain rfl : args = #[v0, v1] := by cases args; simp_all
  obtain ⟨rfl, rfl⟩ := trodVars_none hV
  have k0 := h0
  have lt0 : ∀ x ∈ p0, x.block < W.heap.size := by obtain ⟨m, hm⟩ := k0; exact DataW.trod_lt m _ _ _ hm
  have k1 := h1
  have lt1 : ∀ x ∈ p1, x.block < W.heap.size := by obtain ⟨m, hm⟩ := k1; exact DataW.trod_lt m _ _ _ hm
  obtain ⟨lo, len, cap, hv0⟩ := okWide_slice Try.underlying22 (hval 0 22 v0 rfl rfl)
  subst hv0
  obtain ⟨x1, hv1, _, _, wx1⟩ := Go.ChangeMaps.open_string Try.underlying9 (hval 1 9 v1 rfl rfl) h1
  subst hv1
  obtain ⟨fuel, hf⟩ := h0
  obtain ⟨L, hL, hrow⟩ := open_refs (n := fuel) (by simpa [Value.cells] using hf)
  clear hA0 hval0
  refine (finds_walk lo len cap L x1 W hL hrow).mono fun e W' ⟨he, bel⟩ => ?_
  subst he
  exact ⟨_, rfl, _, _, _, [], _, [], hW', trodAll_mk1 (shut_bool Try.underlying4 _), (trodAll_cons_mk (Below.trod laidOut (by kernel_rfl) (of_decide_eq_true (by kernel_rfl)) k0 bel lt0) (trodAll_cons_mk (Below.trod laidOut (by kernel_rfl) (of_decide_eq_true (by kernel_rfl)) k1 bel lt1) trodAll_mk0)), rfl, bel.frame _, fun h => by cases h⟩

theorem finds_holds : Rows.NamesFindsSaid :=
  OpenClaim.holds_of_wide 3 Try.f3 rfl rfl rfl rfl rfl rfl rfl ⟨rfl, rfl, rfl, rfl, rfl⟩ rfl rfl rfl rfl rfl (by kernel_rfl) Try.func3 (by kernel_rfl)
    (of_decide_eq_true (by kernel_rfl)) (by unfold Func.isWrapper; first | (rw [if_pos (by decide +kernel)]; kernel_rfl) | (rw [if_neg (by decide +kernel)]; exact ⟨rfl, rfl⟩))
    (fun os started H enc _ => finds_lifted os started H enc)
#print axioms finds_holds
end Go.Proofs.Ytfkhpcgccjlpgaa
