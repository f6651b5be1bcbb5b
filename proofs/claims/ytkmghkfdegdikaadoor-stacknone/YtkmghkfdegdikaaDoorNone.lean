/- The law StackNone holds for any deed: a stack that is none answers zero values, and does nothing. The program's lists are laid as its text lays them (the card ties them); no other condition. -/
import Derived.Test.YtkmghkfdegdikaaDoorBa
namespace Go.Proofs.YtkmghkfdegdikaaDoor
open Go.ChangeShapes Go.WideShapes Go.ChangeAt Go.RowKit Go.Joins

set_option maxHeartbeats 4000000 in
set_option maxRecDepth 20000 in
theorem none_walk {w : World} (TB : Tb w) (T : Dd) (hT : DdIn w T) : Calls Tryd.prog 7 #[.agg T.arr] w fun e w' => e = .returned (.bool true) ∧ Below w.heap.size w w' := by
  obtain ⟨k, a, s, ⟨id, sp, nm, av, al⟩, no, nl, nc⟩ := T
  obtain ⟨⟨ao, ac, hav, har⟩, hnr, hnf⟩ := hT
  simp only at hav
  subst hav
  obtain ⟨n, hn⟩ : ∃ n, nl.length = n := ⟨_, rfl⟩
  obtain ⟨an, han⟩ : ∃ an, al.length = an := ⟨_, rfl⟩
  show Calls Tryd.prog 7 #[.agg #[iv k, iv a, iv s, iv id, iv sp, .string nm, .slice ao al.length ac, .slice no nl.length nc]] w _
  rw [hn, han]
  clear hn han har hnr hnf
  obtain ⟨W0, hW0⟩ : ∃ W0, w.alloc (.cells #[iv k, iv a, iv s, iv id, iv sp, .string nm, .slice ao an ac, .slice no n nc] 37) = W0 := ⟨_, rfl⟩
  have HW0 : Hid (w.alloc (.cells #[iv k, iv a, iv s, iv id, iv sp, .string nm, .slice ao an ac, .slice no n nc] 37) = W0) := hW0
  have x0 : Bx W0 w.heap.size 37 #[iv k, iv a, iv s, iv id, iv sp, .string nm, .slice ao an ac, .slice no n nc] := by rw [← hW0]; exact heap_alloc_new w _
  have b0 : Below w.heap.size w W0 := by rw [← hW0]; exact (Below.refl _ _).alloc (Nat.le_refl _) _
  have CC : Hid (∀ V : World, Below W0.heap.size W0 V → V.cell? ⟨w.heap.size, 1, none⟩ = some (iv a) ∧ V.cell? ⟨w.heap.size, 2, none⟩ = some (iv s) ∧ V.cell? ⟨w.heap.size, 3, none⟩ = some (iv id) ∧ V.cell? ⟨w.heap.size, 4, none⟩ = some (iv sp) ∧ V.cell? ⟨w.heap.size, 5, none⟩ = some (.string nm) ∧ V.cell? ⟨w.heap.size, 6, none⟩ = some (.slice ao an ac) ∧ V.cell? ⟨w.heap.size, 7, none⟩ = some (.slice no n nc)) := fun V bV => by
    have xV := x0.old bV
    exact ⟨xV.cell 1, xV.cell 2, xV.cell 3, xV.cell 4, xV.cell 5, xV.cell 6, xV.cell 7⟩
  have HB : Hid (Below w.heap.size w W0 ∧ Tb w) := ⟨b0, TB⟩
  clear hW0 x0 b0 TB
  obtain ⟨c1, c2, c3, c4, c5, c6, c7⟩ := CC.out W0 (Below.refl _ _)
  go_enter Tryd.func7, Tryd.ntmps7
  go_upto_region 1 with fail
  rw [HW0.out]
  go_wp2_with fail
  refine (push_nil W0 id sp nm ao an ac).mono ?_
  rintro e w1 ⟨rfl, b1⟩
  clear c1 c2 c3 c4 c5 c6 c7
  have H1 : Hid (Below W0.heap.size W0 w1) := b1
  clear b1
  go_wp2_with fail
  refine (pop_nil w1).mono ?_
  rintro e w2 ⟨rfl, b2⟩
  obtain ⟨W3, hW3, x3, b3⟩ := zbox w2
  have HW3 : Hid _ := hW3
  have H3 : Hid (Below W0.heap.size W0 W3) := H1.out.trans ((b2.trans (b3.mono b2.size)).mono H1.out.size)
  clear hW3 x3 b3 b2 H1
  go_upto_region 4 with fail
  rw [HW3.out]
  go_wp2_with fail
  refine (top_nil W3).mono ?_
  rintro e w4 ⟨rfl, b4⟩
  obtain ⟨W5, hW5, x5, b5⟩ := zbox w4
  have HW5 : Hid _ := hW5
  have H5 : Hid (Below W0.heap.size W0 W5) := H3.out.trans ((b4.trans (b5.mono b4.size)).mono H3.out.size)
  clear hW5 x5 b5 b4 H3
  obtain ⟨c1, c2, c3, c4, c5, c6, c7⟩ := CC.out W5 H5.out
  go_upto_region 5 with fail
  rw [HW5.out]
  go_wp2_with fail
  refine (all_nil W5).mono ?_
  rintro e w' ⟨rfl, hw'⟩
  rw [hw']
  clear hw' w'
  go_wp2_with fail
  refine (has_nil W5 s no n nc).mono ?_
  rintro e w' ⟨rfl, hw'⟩
  rw [hw']
  clear hw' w'
  go_wp2_with fail
  refine (implied_nil W5 ⟨#[]⟩).mono ?_
  rintro e w' ⟨rfl, hw'⟩
  rw [hw']
  clear hw' w'
  go_wp2_with fail
  refine (until_nil W5 no n nc).mono ?_
  rintro e w' ⟨rfl, hw'⟩
  rw [hw']
  clear hw' w'
  go_wp2_with fail
  refine (remove_nil W5 a).mono ?_
  rintro e w' ⟨rfl, hw'⟩
  rw [hw']
  clear hw' w'
  go_wp2_with fail
  refine (find_nil W5 a).mono ?_
  rintro e w' ⟨rfl, hw'⟩
  rw [hw']
  clear hw' w'
  go_wp2_with fail
  refine (above_nil W5 a id sp nm ao an ac).mono ?_
  rintro e w6 ⟨rfl, b6⟩
  have H6 : Hid (Below W0.heap.size W0 w6) := H5.out.trans (b6.mono H5.out.size)
  clear b6 H5 c1 c2 c3 c4 c5 c6 c7
  go_wp2_with fail
  refine (copy_nil w6).mono ?_
  rintro e w' ⟨rfl, hw'⟩
  rw [hw']
  clear hw' w'
  have b7 : Below w.heap.size w w6 := HB.out.1.trans (H6.out.mono HB.out.1.size)
  have ka := awake_any (HB.out.2.below b7)
  have H7 : Hid (Below w.heap.size w w6) := b7
  clear b7
  go_wp2_with fail
  refine ka.mono ?_
  rintro e w8 ⟨rfl, b8⟩
  have H8 : Hid (Below w.heap.size w w8) := H7.out.trans (b8.mono H7.out.size)
  clear b8 ka
  go_wp2_with fail
  go_ret
  exact ⟨rfl, H8.out⟩
set_option maxRecDepth 100000 in
theorem none_lifted (os : Os) (started : os.Started) (H : Type) (enc : TypeId × Value → H) :
    ReturnsInHanded {} Tryd.checked os 7 .any (fun w args => (Rows.stackNoneSpec.pre enc Tryd.prog Tryd.f7 [] false w args ∧ laidMetH Tryd.prog laidL w) ∧ sizedMet enc Tryd.prog Tryd.f7 (OpenSpec.ofChange Rows.stackNoneSpec) false w args) (Rows.stackNoneSpec.post enc Tryd.prog Tryd.f7 false true false false) := by
  refine returnsInHanded_of_change_and (C := Tryd.checked) (X := fun w _ => laidMetH Tryd.prog laidL w) (fun _ _ _ hh h => h.of_heap hh) own started (by kernel_rfl) Tryd.func7
    (ChangeSpec.witness_shaped (enc := enc) (C := Tryd.checked) (os := os) (X := fun w _ => laidMetH Tryd.prog laidL w) false (World.doorLaid Tryd.prog 25 os) #[.agg #[.int .i64 0, .int .i64 0, .int .i64 0, .int .i64 0, .int .i64 0, .string ⟨#[]⟩, .slice none 0 0, .slice none 0 0]] 8 rfl (World.shaped_of_RefB (by kernel_rfl) (by kernel_rfl)) (by kernel_rfl) (by kernel_rfl) (by kernel_rfl) (door_met os _)) ?_
  intro W base args ds gs before hval0 hW _ _ hL _
  have hval : ∀ (j : Nat) t v, Tryd.f7.params[j]? = some t → args[j]? = some v → Value.okWide Tryd.prog W .any base t v := hval0
  have hH : Tb W := tb_of_laid hL
  have hW' := hW
  obtain ⟨p, q, hA0, hV, rfl, hfz, hnd⟩ := hW
  have hA : DataW.TrodAll enc Tryd.prog W 0 (fun _ => true) true Tryd.f7.params.toList args.toList ds p := hA0
  rw [Tryd.params7] at hA hval
  obtain ⟨v0, vs0, d0, ds0, p0, q0, hargs, rfl, rfl, h0, r0⟩ := trodAll_cons hA
  obtain ⟨rfl, rfl, rfl⟩ := trodAll_nil r0
  obtain rfl : args = #[v0] := by cases args; simp_all
  obtain ⟨rfl, rfl⟩ := trodVars_none hV
  have k0 := h0
  have lt0 : ∀ x ∈ p0, x.block < W.heap.size := by obtain ⟨m, hm⟩ := k0; exact DataW.trod_lt m _ _ _ hm
  obtain ⟨T0, hv0, hI0⟩ := open_deed (hval 0 37 v0 rfl rfl) h0
  subst hv0
  clear hA0 hval0
  refine (none_walk hH T0 hI0).mono fun e W' ⟨he, bel⟩ => ?_
  subst he
  exact ⟨_, rfl, _, _, _, [], _, [], hW', trodAll_mk1 (shut_bool Tryd.underlying4 _), (trodAll_cons_mk (Below.trod laidOut (by kernel_rfl) (of_decide_eq_true (by kernel_rfl)) k0 bel lt0) trodAll_mk0), rfl, bel.frame _, fun h => by cases h⟩

theorem none_holds : Rows.StackNoneSaid :=
  OpenClaim.holds_of_wide 7 Tryd.f7 rfl rfl rfl rfl rfl rfl rfl ⟨rfl, rfl, rfl, rfl, rfl⟩ rfl rfl rfl rfl rfl (by kernel_rfl) Tryd.func7 (by kernel_rfl)
    (of_decide_eq_true (by kernel_rfl)) (by unfold Func.isWrapper; first | (rw [if_pos (by decide +kernel)]; kernel_rfl) | (rw [if_neg (by decide +kernel)]; exact ⟨rfl, rfl⟩))
    (fun os started H enc _ => none_lifted os started H enc)

theorem none_card : Rows.StackNoneCardSaid :=
  Claim7.holds_tied_plain_at .later [] [.data] true Rows.stackNoneCard.stood.harness false
    none_holds (fun _ h => by cases h) (by kernel_rfl) (fun _ h => by cases h) stackNone_row_tie rfl ⟨rfl, rfl⟩ (by kernel_rfl) rfl
    (fun f fn hf hfn => by
      obtain rfl : f = 7 := Option.some.inj ((show Tryd.prog.funcNamed Rows.stackNoneRow.func = some 7 by kernel_rfl).symm.trans hf) |>.symm
      obtain rfl : fn = Tryd.f7 := (Option.some.inj (Tryd.func7.symm.trans hfn)).symm
      exact ⟨by kernel_rfl, fun j t ht => by
        rw [Tryd.params7] at ht
        have hm : t ∈ [37] := by simpa using Array.mem_of_getElem? ht
        have hall : ([37].all fun u => !Tryd.prog.wantsStandIn u) = true := by kernel_rfl
        exact (show Tryd.prog.wantsStandIn t = false by simpa using List.all_eq_true.1 hall t hm)⟩)
    (by kernel_rfl)
#print axioms none_card
end Go.Proofs.YtkmghkfdegdikaaDoor
