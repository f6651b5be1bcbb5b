/- The law TokenizerSpans holds for every text, in any text state, svg or not: tokens' spans rise, within the text, and the end is the last one and comes once. The program's table is laid as its text lays it (the card ties it); no other condition. -/
import Derived.Test.YtjjfalbngcbfaaaGreatDoorYd
import Derived.ProofKit
import Derived.OpenShut
import Derived.ShutString
import Derived.ChangeOld
import Derived.ChangeMaps
import Derived.Lib.SmallJoins
import Derived.Test.YtjjfalbngcbfaaaGreatDoorRc
namespace Go.Proofs.YtjjfalbngcbfaaaGreatDoor
open Go.ChangeShapes Go.WideShapes Go.ChangeAt Go.RowKit Go.Joins

/-- Tokens that rise from lo, within n; the end is the last one. -/
def Fine : Int → List Pt → Int → Prop
  | _, [], _ => False
  | lo, [e], n => e.k = 6 ∧ lo ≤ e.f ∧ e.f ≤ e.t ∧ e.t ≤ n
  | lo, t :: u :: L, n => t.k ≠ 6 ∧ lo ≤ t.f ∧ t.f < t.t ∧ t.t ≤ n ∧ Fine t.t (u :: L) n
theorem fine_of {n mid : Int} (hn : mid ≤ n) (e : Pt) (he : e.k = 6 ∧ e.f = n ∧ e.t = n) : ∀ (L : List Pt) (lo : Int), Rise lo L mid → Fine lo (L ++ [e]) n
  | [], lo, h => by
    have h : lo ≤ mid := h
    exact ⟨he.1, by rw [he.2.1]; omega, by rw [he.2.1, he.2.2]; omega, by rw [he.2.2]; omega⟩
  | t :: L, lo, h => by
    have ih := fine_of hn e he L t.t h.2.2.2
    have h2 := h.2.2.2.le
    have h3 : t.t ≤ n := by omega
    match L, ih with
    | [], ih => exact ⟨h.2.2.1, h.1, h.2.1, h3, ih⟩
    | u :: L, ih => exact ⟨h.2.2.1, h.1, h.2.1, h3, ih⟩
theorem fine_all (s : ByteArray) (text : Int) (foreign : Bool) : Fine 0 (allP s text foreign true).1 s.size := by
  obtain ⟨L, mid, e, h1, h2⟩ := all_sp s text foreign true
  rw [e]
  exact fine_of h2 _ ⟨rfl, rfl, rfl⟩ L 0 h1

set_option maxHeartbeats 4000000 in
set_option maxRecDepth 20000 in
theorem spans_walk {w : World} (H : G6.Hi w) (s : ByteArray) (text : Int) (foreign : Bool) : Calls Tryz.prog 5 #[.string s, .int .i64 text, .bool foreign] w fun e w' => e = .returned (.bool true) ∧ Below w.heap.size w w' := by
  have hw0 := H.lt
  have HAW : Hid (∀ w', Below w.heap.size w w' → Calls Tryz.prog 9 #[] w' fun e w2 => e = .returned (.bool true) ∧ Below w'.heap.size w' w2) := fun w' b => awake_any (H.below b hw0)
  by_cases hs : s.size ≤ 5000
  · have g1 : decide ((s.size : Int) > 5000) = false := decide_eq_false (by omega)
    have k10 := all_any H s text foreign true (by omega)
    have HFA : Hid (Fine 0 (allP s text foreign true).1 s.size) := fine_all s text foreign
    clear H
    go_enter Tryz.func5, Tryz.ntmps5
    go_wp2_with fail
    refine k10.mono ?_
    rintro e w1 ⟨oo, T, oc, fo, fc, rfl, hT, hTl, h1, _, b1⟩
    have hT0 : T ≠ [] := fun e => by
      have h := HFA.out
      rw [← hT, e] at h
      exact h
    obtain ⟨j, hj⟩ : ∃ j, T.length = j + 1 := by
      cases T with
      | nil => exact absurd rfl hT0
      | cons t T => exact ⟨T.length, rfl⟩
    have H1 : Hid (Toks w.heap.size (.slice oo (j + 1) oc) T w1 ∧ Fine 0 (T.map ptOf) s.size ∧ Below w.heap.size w w1 ∧ T.length = j + 1) := ⟨by rw [← hj]; exact h1, by rw [hT]; exact HFA.out, b1, hj⟩
    have hjl : j < 100000000000 := by omega
    obtain ⟨nf, hnf⟩ : ∃ nf, (allP s text foreign true).2.length = nf := ⟨_, rfl⟩
    obtain ⟨ns, hns⟩ : ∃ ns : Int, (s.size : Int) = ns := ⟨_, rfl⟩
    rw [hj, hnf]
    clear h1 hT b1 k10 hTl hT0 HFA hj hnf
    go_wp2_with fail
    go_loopw [9, 10] (fun av iv wr => ∃ (i : Nat) (lo : Int), av = .int .i64 lo ∧ iv = .int .i64 i ∧ i ≤ j + 1 ∧ (i < j + 1 → Fine lo ((T.map ptOf).drop i) s.size) ∧ Below w1.heap.size w1 wr) (fun _ iv _ => j + 1 - (intOf iv).toNat)
    case atStart => exact ⟨0, 0, rfl, rfl, Nat.zero_le _, fun _ => H1.out.2.1, Below.refl _ _⟩
    case round =>
      obtain ⟨i, lo, rfl, rfl, hin, hfi, hb⟩ := hrel
      have HB : Hid (Below w1.heap.size w1 wr) := hb
      by_cases hlt : i < j + 1
      · obtain ⟨t, ht⟩ : ∃ t, T[i]? = some t := ⟨_, List.getElem?_eq_getElem (by rw [H1.out.2.2.2]; exact hlt)⟩
        obtain ⟨g, rfl, hg, tc, _⟩ := H1.out.1.at H1.out.2.2.2 ht
        have t0 := (hb.cell (p := ⟨g, i * 8, none⟩) hg).trans tc.c0
        have t6 := (hb.cell (p := ⟨g, i * 8 + 6, none⟩) hg).trans tc.c6
        have t7 := (hb.cell (p := ⟨g, i * 8 + 7, none⟩) hg).trans tc.c7
        have hd : (T.map ptOf).drop i = ptOf t :: (T.map ptOf).drop (i + 1) := by
          have h1 : i < (T.map ptOf).length := by rw [List.length_map, H1.out.2.2.2]; exact hlt
          rw [List.drop_eq_getElem_cons h1]
          congr 1
          obtain ⟨h2, rfl⟩ := List.getElem?_eq_some_iff.1 ht
          simp
        have hf := hfi hlt
        rw [hd] at hf
        obtain ⟨kd, hkd⟩ : ∃ kd, t.1.k = kd := ⟨_, rfl⟩
        obtain ⟨ft, hft⟩ : ∃ ft, t.1.f = ft := ⟨_, rfl⟩
        obtain ⟨zt, hzt⟩ : ∃ zt, t.1.t = zt := ⟨_, rfl⟩
        rw [hkd] at t0
        rw [hft] at t6
        rw [hzt] at t7
        have hbase : lo ≤ ft ∧ ft ≤ zt ∧ zt ≤ (s.size : Int) ∧ (i + 1 < j + 1 → kd ≠ 6 ∧ ft < zt ∧ Fine zt ((T.map ptOf).drop (i + 1)) s.size) ∧ (i = j → kd = 6) := by
          have hlen : ((T.map ptOf).drop (i + 1)).length = j - i := by rw [List.length_drop, List.length_map, H1.out.2.2.2]; omega
          cases hr : (T.map ptOf).drop (i + 1) with
          | nil =>
            rw [hr] at hf hlen
            simp at hlen
            obtain ⟨p1, p2, p3, p4⟩ := hf
            simp only [ptOf] at p1 p2 p3 p4
            refine ⟨by omega, by omega, by omega, fun h => ?_, fun _ => by omega⟩
            omega
          | cons u L =>
            rw [hr] at hf hlen
            simp at hlen
            obtain ⟨p1, p2, p3, p4, p5⟩ := hf
            simp only [ptOf] at p1 p2 p3 p4 p5
            refine ⟨by omega, by omega, by omega, fun _ => ⟨by omega, by omega, by rw [← hzt]; exact p5⟩, fun h => ?_⟩
            omega
        obtain ⟨y1, y2, y3, y4, y5⟩ := hbase
        rw [hns] at y3
        have HF : Hid (i + 1 < j + 1 → Fine zt ((T.map ptOf).drop (i + 1)) s.size) := fun h => (y4 h).2.2
        have f1 : decide (ft < lo) = false := decide_eq_false (by omega)
        have f2 : decide (zt < ft) = false := decide_eq_false (by omega)
        have f3 : decide (ns < zt) = false := decide_eq_false (by omega)
        have hlt' : decide ((i : Int) < (j : Int) + 1) = true := decide_eq_true (by omega)
        have hgr : g < wr.heap.size := Nat.lt_of_lt_of_le hg hb.size
        obtain ⟨W0, hW0⟩ : ∃ W0, wr.alloc (.cells #[.int .i64 ft, .int .i64 zt] 43) = W0 := ⟨_, rfl⟩
        have b0 : Below wr.heap.size wr W0 := by rw [← hW0]; exact (Below.refl _ _).alloc (Nat.le_refl _) _
        have HB0 : Hid (Below w1.heap.size w1 W0) := hb.trans (b0.mono hb.size)
        have hnew : W0.heap[wr.heap.size]? = some (.cells #[.int .i64 ft, .int .i64 zt] 43 (0, 0)) := by rw [← hW0]; exact heap_alloc_new _ _
        have d0 : W0.cell? ⟨wr.heap.size, 0, none⟩ = some (.int .i64 ft) := by simp [World.cell?, hnew]
        have d1 : W0.cell? ⟨wr.heap.size, 1, none⟩ = some (.int .i64 zt) := by simp [World.cell?, hnew]
        have u0 := (b0.cell (p := ⟨g, i * 8, none⟩) hgr).trans t0
        have hg0 : g < W0.heap.size := Nat.lt_of_lt_of_le hgr b0.size
        clear ht hd hf tc hfi hb hg hnew b0 hkd hft hzt
        by_cases hl : i = j
        · have hk6 := y5 hl
          have ez : zt = zt := rfl
          clear y1 y2 y3 y4 y5 ez
          subst hl
          have f4 : (kd == 6) = true := by simp [hk6]
          have f5 : (kd != 6) = false := by simp [hk6]
          clear hk6
          go_wp2_with fail
          go_roundw
          case rel => exact ⟨i + 1, zt, rfl, by go_num, by omega, HF.out, HB0.out⟩
          case measure => simp [intOf]
        · obtain ⟨hk6, hfz, _⟩ := y4 (by omega)
          clear y1 y2 y3 y4 y5
          have f4 : (kd == 6) = false := by simp [hk6]
          have f5 : (kd != 6) = true := by simp [hk6]
          have f6 : ((i : Int) == (j : Int)) = false := by simp; omega
          have f7 : (zt == ft) = false := by simp; omega
          clear hk6
          go_wp2_with fail
          go_roundw
          case rel => exact ⟨i + 1, zt, rfl, by go_num, by omega, HF.out, HB0.out⟩
          case measure => simp [intOf]; omega
      · obtain rfl : i = j + 1 := by omega
        have hlt' : decide (((j + 1 : Nat) : Int) < ((j + 1 : Nat) : Int)) = false := decide_eq_false (by omega)
        have hpos : decide (((j + 1 : Nat) : Int) > 0) = true := decide_eq_true (by omega)
        clear hb hfi
        go_wp2_with fail
        refine (HAW.out _ (H1.out.2.2.1.trans (HB.out.mono H1.out.2.2.1.size))).mono ?_
        rintro e w3 ⟨rfl, b3⟩
        have bb := H1.out.2.2.1.trans (HB.out.mono H1.out.2.2.1.size)
        have B3 : Hid (Below w.heap.size w w3) := bb.trans (b3.mono bb.size)
        clear b3 bb
        go_wp2_with fail
        go_ret
        exact ⟨rfl, B3.out⟩
  · have g1 : decide ((s.size : Int) > 5000) = true := decide_eq_true (by omega)
    clear H
    go_enter Tryz.func5, Tryz.ntmps5
    go_wp2_with fail
    refine (HAW.out _ (Below.refl _ _)).mono ?_
    rintro e w1 ⟨rfl, b1⟩
    have B1 : Hid (Below w.heap.size w w1) := b1
    clear b1
    go_wp2_with fail
    go_ret
    exact ⟨rfl, B1.out⟩

set_option maxRecDepth 100000 in
theorem spans_lifted (os : Os) (started : os.Started) (H : Type) (enc : TypeId × Value → H) :
    ReturnsInHanded {} Tryz.checked os 5 .any (fun w args => (Rows.tokenizerSpansSpec.pre enc Tryz.prog Tryz.f5 [] false w args ∧ laidMetH Tryz.prog laidL w) ∧ sizedMet enc Tryz.prog Tryz.f5 (OpenSpec.ofChange Rows.tokenizerSpansSpec) false w args) (Rows.tokenizerSpansSpec.post enc Tryz.prog Tryz.f5 false true false false) := by
  refine returnsInHanded_of_change_and (C := Tryz.checked) (X := fun w _ => laidMetH Tryz.prog laidL w) (fun _ _ _ hh h => h.of_heap hh) own started (by kernel_rfl) Tryz.func5
    (ChangeSpec.witness_shaped (enc := enc) (C := Tryz.checked) (os := os) (X := fun w _ => laidMetH Tryz.prog laidL w) false (World.doorLaid Tryz.prog 14 os) #[.string ⟨#[]⟩, .int .i64 0, .bool false] 8 rfl (World.shaped_of_RefB (by kernel_rfl) (by kernel_rfl)) (by kernel_rfl) (by kernel_rfl) (by kernel_rfl) (door_met os _)) ?_
  intro W base args ds gs before hval0 hW _ _ hL _
  have hval : ∀ (j : Nat) t v, Tryz.f5.params[j]? = some t → args[j]? = some v → Value.okWide Tryz.prog W .any base t v := hval0
  have hH : G6.Hi W := hi_of_laid hL
  have hW' := hW
  obtain ⟨p, q, hA0, hV, rfl, hfz, hnd⟩ := hW
  have hA : DataW.TrodAll enc Tryz.prog W 0 (fun _ => true) true Tryz.f5.params.toList args.toList ds p := hA0
  rw [Tryz.params5] at hA hval
  obtain ⟨v0, vs0, d0, ds0, p0, q0, hargs, rfl, rfl, h0, r0⟩ := trodAll_cons hA
  obtain ⟨v1, vs1, d1, ds1, p1, q1, rfl, rfl, rfl, h1, r1⟩ := trodAll_cons r0
  obtain ⟨v2, vs2, d2, ds2, p2, q2, rfl, rfl, rfl, h2, r2⟩ := trodAll_cons r1
  obtain ⟨rfl, rfl, rfl⟩ := trodAll_nil r2
  obtain rfl : args = #[v0, v1, v2] := by cases args; simp_all
  obtain ⟨rfl, rfl⟩ := trodVars_none hV
  have k0 := h0
  have lt0 : ∀ x ∈ p0, x.block < W.heap.size := by obtain ⟨m, hm⟩ := k0; exact DataW.trod_lt m _ _ _ hm
  have k1 := h1
  have lt1 : ∀ x ∈ p1, x.block < W.heap.size := by obtain ⟨m, hm⟩ := k1; exact DataW.trod_lt m _ _ _ hm
  have k2 := h2
  have lt2 : ∀ x ∈ p2, x.block < W.heap.size := by obtain ⟨m, hm⟩ := k2; exact DataW.trod_lt m _ _ _ hm
  obtain ⟨x0, hv0, _, _, wx0⟩ := Go.ChangeMaps.open_string Tryz.underlying9 (hval 0 9 v0 rfl rfl) h0
  subst hv0
  obtain ⟨x1, hv1, _, _, wx1⟩ := open_int Tryz.underlying3 (hval 1 3 v1 rfl rfl) h1
  subst hv1
  obtain ⟨x2, hv2, _, _⟩ := open_bool Tryz.underlying4 (hval 2 4 v2 rfl rfl) h2
  subst hv2
  clear hA0 hval0
  refine (spans_walk hH x0 x1 x2).mono fun e W' ⟨he, bel⟩ => ?_
  subst he
  exact ⟨_, rfl, _, _, _, [], _, [], hW', trodAll_mk1 (shut_bool Tryz.underlying4 _), (trodAll_cons_mk (Below.trod laidOut (by kernel_rfl) (of_decide_eq_true (by kernel_rfl)) k0 bel lt0) (trodAll_cons_mk (Below.trod laidOut (by kernel_rfl) (of_decide_eq_true (by kernel_rfl)) k1 bel lt1) (trodAll_cons_mk (Below.trod laidOut (by kernel_rfl) (of_decide_eq_true (by kernel_rfl)) k2 bel lt2) trodAll_mk0))), rfl, bel.frame _, fun h => by cases h⟩

theorem spans_holds : Rows.TokenizerSpansSaid :=
  OpenClaim.holds_of_wide 5 Tryz.f5 rfl rfl rfl rfl rfl rfl rfl ⟨rfl, rfl, rfl, rfl, rfl⟩ rfl rfl rfl rfl rfl (by kernel_rfl) Tryz.func5 (by kernel_rfl)
    (of_decide_eq_true (by kernel_rfl)) (by unfold Func.isWrapper; first | (rw [if_pos (by decide +kernel)]; kernel_rfl) | (rw [if_neg (by decide +kernel)]; exact ⟨rfl, rfl⟩))
    (fun os started H enc _ => spans_lifted os started H enc)

theorem spans_card : Rows.TokenizerSpansCardSaid :=
  Claim7.holds_tied_plain_at .later [] [.data] true Rows.tokenizerSpansCard.stood.harness true
    spans_holds (fun _ h => by cases h) (by kernel_rfl) (fun _ h => by cases h) tokenizerSpans_row_tie rfl ⟨rfl, rfl⟩ (by kernel_rfl) rfl
    (fun f fn hf hfn => by
      obtain rfl : f = 5 := Option.some.inj ((show Tryz.prog.funcNamed Rows.tokenizerSpansRow.func = some 5 by kernel_rfl).symm.trans hf) |>.symm
      obtain rfl : fn = Tryz.f5 := (Option.some.inj (Tryz.func5.symm.trans hfn)).symm
      exact ⟨by kernel_rfl, fun j t ht => by
        rw [Tryz.params5] at ht
        have hm : t ∈ [9, 3, 4] := by simpa using Array.mem_of_getElem? ht
        have hall : ([9, 3, 4].all fun u => !Tryz.prog.wantsStandIn u) = true := by kernel_rfl
        exact (show Tryz.prog.wantsStandIn t = false by simpa using List.all_eq_true.1 hall t hm)⟩)
    (by kernel_rfl)
#print axioms spans_card
end Go.Proofs.YtjjfalbngcbfaaaGreatDoor
