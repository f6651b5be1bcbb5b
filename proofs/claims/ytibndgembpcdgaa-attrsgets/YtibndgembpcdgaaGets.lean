/- The law AttrsGets holds for every list and every attribute: what was added is found, unless its name was there; then the elder value stays. No condition. -/
import Derived.Test.YtibndgembpcdgaaBase
namespace Go.Proofs.Ytibndgembpcdgaa
open Go.ChangeShapes Go.WideShapes Go.ChangeAt Go.RowKit Go.Joins

theorem gets_len {L : List At} {a : At} (h : hasP L a.nm = true) : (addP L a) = L := by unfold addP; rw [if_pos h]
theorem gets_new {L : List At} {a : At} (h : hasP L a.nm = false) : (addP L a) = L ++ [a] := by unfold addP; rw [if_neg (by rw [h]; decide)]

set_option maxRecDepth 10000 in
set_option maxHeartbeats 2000000 in
theorem gets_walk (w : World) (lo : Option Addr) (len cap : Nat) (L : List At) (hL : Came w lo len cap L) (_hb : len ≤ 1000000000000000) (nm vl : ByteArray) (_hn : nm.size ≤ maxLen) (_hv : vl.size ≤ maxLen) :
    Calls Try.prog 7 #[.slice lo len cap, .agg #[.string nm, .string vl]] w fun e w' => e = .returned (.bool true) ∧ Below w.heap.size w w' := by
  obtain ⟨V, hV⟩ : ∃ V, w.alloc (.cells #[.string nm, .string vl] 24) = V := ⟨_, rfl⟩
  have hnew : V.heap[w.heap.size]? = some (.cells #[.string nm, .string vl] 24 (0, 0)) := by rw [← hV]; exact heap_alloc_new _ _
  have bV : Below w.heap.size w V := by rw [← hV]; exact (Below.refl _ _).alloc (Nat.le_refl _) _
  have hVl : w.heap.size < V.heap.size := (Array.getElem?_eq_some_iff.1 hnew).1
  have d0 : V.cell? ⟨w.heap.size, 0, none⟩ = some (.string nm) := by simp [World.cell?, hnew]
  have d1 : V.cell? ⟨w.heap.size, 1, none⟩ = some (.string vl) := by simp [World.cell?, hnew]
  obtain ⟨U, hU⟩ : ∃ U, V.alloc (.cells #[.slice lo len cap] 22) = U := ⟨_, rfl⟩
  obtain ⟨hUl, u0, bU⟩ := one_slot _ hU
  have hfe := few_one lo len cap u0 _hb
  have bw : Below w.heap.size w U := bV.trans (bU.mono bV.size)
  have q0 := (bU.cell (p := ⟨w.heap.size, 0, none⟩) hVl).trans d0
  have q1 := (bU.cell (p := ⟨w.heap.size, 1, none⟩) hVl).trans d1
  have hl : w.heap.size < U.heap.size := Nat.lt_of_lt_of_le hVl bU.size
  have HR : Hid (Came w lo len cap L ∧ Below w.heap.size w U) := ⟨hL, bw⟩
  clear hnew bV d0 d1 bU bw hL u0 hUl hVl
  by_cases hfew : len ≤ 400
  · rw [decide_eq_true hfew] at hfe
    go_enter Try.func7, Try.ntmps7
    go_wp2_with fail
    refine hfe.mono ?_
    rintro e w0 ⟨rfl, rfl⟩
    clear hfe hV hU
    obtain ⟨r, hr⟩ : ∃ r, getP L nm.data.toList = r := ⟨_, rfl⟩
    have hk := get_any len cap nm (HR.out.1.row.below HR.out.2) HR.out.1.hlen (by omega)
    rw [hr] at hk
    have HG : Hid (getP L nm.data.toList = r) := hr
    clear hr
    go_wp2_with fail
    refine hk.mono ?_
    rintro e w1 ⟨rfl, b1⟩
    clear hk
    have b1' : Below w.heap.size w w1 := HR.out.2.trans (b1.mono HR.out.2.size)
    have p0 := (b1.cell (p := ⟨w.heap.size, 0, none⟩) hl).trans q0
    have p1 := (b1.cell (p := ⟨w.heap.size, 1, none⟩) hl).trans q1
    have hl1 : w.heap.size < w1.heap.size := Nat.lt_of_lt_of_le hl b1.size
    have ha := add_any len cap nm vl (HR.out.1.row.below b1') HR.out.1.hlen (by omega)
    have H1 : Hid (Below w.heap.size w w1) := b1'
    clear b1 b1' q0 q1 hl
    have hgs := get_some L nm.data.toList
    rw [HG.out] at hgs
    rw [← hgs] at ha
    cases r with
    | some x =>
      have hh : hasP L nm.data.toList = true := hgs.symm
      rw [gets_len (a := ⟨nm, vl⟩) hh] at ha
      clear hgs hh
      go_wp2_with fail
      refine ha.mono ?_
      rintro e w2 ⟨v2, rfl, r2, b2⟩
      clear ha
      obtain ⟨ao, c, rfl, a2, _, _⟩ := row_at r2
      have z0 := (b2.cell (p := ⟨w.heap.size, 0, none⟩) hl1).trans p0
      have z1 := (b2.cell (p := ⟨w.heap.size, 1, none⟩) hl1).trans p1
      have hl2 : w.heap.size < w2.heap.size := Nat.lt_of_lt_of_le hl1 b2.size
      rw [HR.out.1.hlen]
      have hk2 := get_any len c nm a2 HR.out.1.hlen (by omega)
      rw [HG.out] at hk2
      have H2 : Hid (Below w.heap.size w w2) := H1.out.trans (b2.mono H1.out.size)
      clear p0 p1 r2 a2 b2
      simp only [gv, Option.isSome_some] at hk2 ⊢
      have heq : (x.v.toList == x.v.toList) = true := by simp
      go_wp2_with fail
      refine hk2.mono ?_
      rintro e w3 ⟨rfl, b3⟩
      clear hk2
      have H3 : Hid (Below w.heap.size w w3) := H2.out.trans (b3.mono H2.out.size)
      clear b3
      go_wp2_with fail
      refine (awake_any w3).mono ?_
      rintro e w4 ⟨rfl, b4⟩
      have H4 : Hid (Below w.heap.size w w4) := H3.out.trans (b4.mono H3.out.size)
      clear b4
      go_wp2_with fail
      go_ret
      exact ⟨rfl, H4.out⟩
    | none =>
      have hh : hasP L nm.data.toList = false := hgs.symm
      have hga := get_added (L := L) (a := ⟨nm, vl⟩) hh
      rw [gets_new (a := ⟨nm, vl⟩) hh] at ha
      clear hgs hh
      go_wp2_with fail
      refine ha.mono ?_
      rintro e w2 ⟨v2, rfl, r2, b2⟩
      clear ha
      obtain ⟨ao, c, rfl, a2, _, _⟩ := row_at r2
      have z0 := (b2.cell (p := ⟨w.heap.size, 0, none⟩) hl1).trans p0
      have z1 := (b2.cell (p := ⟨w.heap.size, 1, none⟩) hl1).trans p1
      have hl2 : w.heap.size < w2.heap.size := Nat.lt_of_lt_of_le hl1 b2.size
      have hl9 : (L ++ [(⟨nm, vl⟩ : At)]).length = len + 1 := by rw [List.length_append, HR.out.1.hlen]; rfl
      rw [hl9]
      have hk2 := get_any (len + 1) c nm a2 hl9 (by omega)
      rw [hga] at hk2
      have H2 : Hid (Below w.heap.size w w2) := H1.out.trans (b2.mono H1.out.size)
      clear p0 p1 r2 a2 b2 hga hl9
      simp only [gv, Option.isSome_some, Option.isSome_none] at hk2 ⊢
      have heq : (vl.toList == vl.toList) = true := by simp
      go_wp2_with fail
      refine hk2.mono ?_
      rintro e w3 ⟨rfl, b3⟩
      clear hk2
      have y0 := (b3.cell (p := ⟨w.heap.size, 0, none⟩) hl2).trans z0
      have y1 := (b3.cell (p := ⟨w.heap.size, 1, none⟩) hl2).trans z1
      have H3 : Hid (Below w.heap.size w w3) := H2.out.trans (b3.mono H2.out.size)
      clear b3 z0 z1
      go_wp2_with fail
      refine (awake_any w3).mono ?_
      rintro e w4 ⟨rfl, b4⟩
      have H4 : Hid (Below w.heap.size w w4) := H3.out.trans (b4.mono H3.out.size)
      clear b4
      go_wp2_with fail
      go_ret
      exact ⟨rfl, H4.out⟩
  · rw [decide_eq_false hfew] at hfe
    go_enter Try.func7, Try.ntmps7
    go_wp2_with fail
    refine hfe.mono ?_
    rintro e w0 ⟨rfl, rfl⟩
    clear hfe hV hU
    go_wp2_with fail
    refine (awake_any _).mono ?_
    rintro e w4 ⟨rfl, b4⟩
    have H4 : Hid (Below w.heap.size w w4) := HR.out.2.trans (b4.mono HR.out.2.size)
    clear b4
    go_wp2_with fail
    go_ret
    exact ⟨rfl, H4.out⟩

set_option maxRecDepth 100000 in
theorem gets_lifted (os : Os) (started : os.Started) (H : Type) (enc : TypeId × Value → H) :
    ReturnsInHanded {} Try.checked os 7 .any (Rows.attrsGetsSpec.pre6 enc Try.prog Try.f7 Rows.attrsGetsRow.domain false) (Rows.attrsGetsSpec.post enc Try.prog Try.f7 false true false false) := by
  refine returnsInHanded_of_change_sized (C := Try.checked) own started (by kernel_rfl) Try.func7
    (ChangeSpec.witness6 (enc := enc) (C := Try.checked) false ⟨#[], #[.slice none 0 0, .agg #[.string ⟨#[]⟩, .string ⟨#[]⟩]], []⟩ 8 (by kernel_rfl) (by kernel_rfl) (by kernel_rfl) (by kernel_rfl)) ?_
  intro W base args ds gs before hval0 hW hcnd hz0 _
  have hval : ∀ (j : Nat) t v, Try.f7.params[j]? = some t → args[j]? = some v → Value.okWide Try.prog W .any base t v := hval0
  have hz : (DataW.weightsEach Try.prog (Try.f7.params.toList ++ Rows.attrsGetsSpec.plain.varTypes Try.prog) (ds ++ gs)).all (· ≤ reachBytes) = true := hz0
  have hW' := hW
  obtain ⟨p, q, hA0, hV, rfl, hfz, hnd⟩ := hW
  have hA : DataW.TrodAll enc Try.prog W 0 (fun _ => true) true Try.f7.params.toList args.toList ds p := hA0
  rw [Try.params7] at hA hval hz
  obtain ⟨v0, vs0, d0, ds0, p0, q0, hargs, rfl, rfl, h0, r0⟩ := trodAll_cons hA
  obtain ⟨v1, vs1, d1, ds1, p1, q1, rfl, rfl, rfl, h1, r1⟩ := trodAll_cons r0
  obtain ⟨rfl, rfl, rfl⟩ := trodAll_nil r1
  obtain rfl : args = #[v0, v1] := by cases args; simp_all
  obtain ⟨rfl, rfl⟩ := trodVars_none hV
  have k0 := h0
  have lt0 : ∀ x ∈ p0, x.block < W.heap.size := by obtain ⟨m, hm⟩ := k0; exact DataW.trod_lt m _ _ _ hm
  have k1 := h1
  have lt1 : ∀ x ∈ p1, x.block < W.heap.size := by obtain ⟨m, hm⟩ := k1; exact DataW.trod_lt m _ _ _ hm
  obtain ⟨lo0, len0, cap0, hv0⟩ := okWide_slice Try.underlying22 (hval 0 22 v0 rfl rfl)
  subst hv0
  obtain ⟨fuel0, hf0⟩ := h0
  obtain ⟨L0, hL0, hx0⟩ := open_attrs (n := fuel0) (by simpa [Value.cells] using hf0)
  have hb0 : len0 ≤ 1000000000000000 := came_bound (j := 0) hz rfl rfl hx0
  obtain ⟨c1, e1, y1, z1, m1, hv1, hd1, _, hy1, hy1b⟩ := open_agg2 Try.underlying24 (by kernel_rfl) cells24 (hval 1 24 v1 rfl rfl) h1
  obtain ⟨nm1, en1, _, sn1⟩ := DataW.trod_string Try.underlying9 hy1
  obtain ⟨vl1, ev1, _, sv1⟩ := DataW.trod_string Try.underlying9 hy1b
  simp only [List.cons.injEq, and_true] at en1 ev1
  subst en1 ev1 hv1
  clear hA0 hval0 hz0
  refine (gets_walk W lo0 len0 cap0 L0 hL0 hb0 nm1 vl1 sn1 sv1).mono fun e W' ⟨he, bel⟩ => ?_
  subst he
  exact ⟨_, rfl, _, _, _, [], _, [], hW', trodAll_mk1 (shut_bool Try.underlying4 _), (trodAll_cons_mk (Below.trod laidOut (by kernel_rfl) (of_decide_eq_true (by kernel_rfl)) k0 bel lt0) (trodAll_cons_mk (Below.trod laidOut (by kernel_rfl) (of_decide_eq_true (by kernel_rfl)) k1 bel lt1) trodAll_mk0)), rfl, bel.frame _, fun h => by cases h⟩

theorem gets_holds : Rows.AttrsGetsSaid :=
  OpenClaim.holds_of_wide 7 Try.f7 rfl rfl rfl rfl rfl rfl rfl ⟨rfl, rfl, rfl, rfl, rfl⟩ rfl rfl rfl rfl rfl (by kernel_rfl) Try.func7 (by kernel_rfl)
    (of_decide_eq_true (by kernel_rfl)) (by unfold Func.isWrapper; first | (rw [if_pos (by decide +kernel)]; kernel_rfl) | (rw [if_neg (by decide +kernel)]; exact ⟨rfl, rfl⟩))
    (fun os started H enc _ => gets_lifted os started H enc)
#print axioms gets_holds
end Go.Proofs.Ytibndgembpcdgaa
