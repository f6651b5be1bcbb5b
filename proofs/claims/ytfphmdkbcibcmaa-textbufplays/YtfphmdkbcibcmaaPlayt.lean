/- The law TextbufPlays holds for every text, every bound and every list of deeds: any edits and undos of any text: each answer, the text, its parts. No condition. -/
import Derived.Test.YtfphmdkbcibcmaaPlays
import Derived.Test.YtfphmdkbcibcmaaBacks
namespace Go.Proofs.Ytfphmdkbcibcmaa
open Go.ChangeShapes Go.WideShapes Go.ChangeAt Go.RowKit Go.Joins

theorem cells33 : Try.prog.cellsOf 33 = 4 := by kernel_rfl

theorem edit_cells2 {H : Type} {enc : TypeId × Value → H} {W : World} {n : Nat} {cs : List Value} {x : DataW H × List MemPlace} (h : DataW.trod enc Try.prog W 0 (fun _ => true) true n 31 cs = some x) :
    ∃ e : Ed, cs = [.int .i64 e.a, .int .i64 e.d, .string e.s] ∧ e.s.size ≤ maxLen := by
  obtain ⟨y0, y1, y2, m, _, hl, h0, h1, h2⟩ := Go.Deep.trod_struct3 Try.underlying31 h
  rw [cells31] at hl
  obtain ⟨c0, c1, c2, rfl⟩ : ∃ c0 c1 c2, cs = [c0, c1, c2] := by
    match cs, hl with
    | [c0, c1, c2], _ => exact ⟨c0, c1, c2, rfl⟩
  have k3 : Try.prog.cellsOf 3 = 1 := by kernel_rfl
  have k9 : Try.prog.cellsOf 9 = 1 := by kernel_rfl
  simp only [k3, k9] at h0 h1 h2
  obtain ⟨a, e0, _, _⟩ := DataW.trod_int Try.underlying3 h0
  obtain ⟨b, e1, _, _⟩ := DataW.trod_int Try.underlying3 h1
  obtain ⟨s, e2, _, hs⟩ := DataW.trod_string Try.underlying9 h2
  simp at e0 e1 e2
  subst e0 e1 e2
  exact ⟨⟨a, b, s⟩, rfl, hs⟩

theorem deed_cells {H : Type} {enc : TypeId × Value → H} {W : World} {n : Nat} {cs : List Value} {x : DataW H × List MemPlace} (h : DataW.trod enc Try.prog W 0 (fun _ => true) true n 33 cs = some x) :
    ∃ d : De, cs = [.int .i64 d.e.a, .int .i64 d.e.d, .string d.e.s, .bool d.u] ∧ d.e.s.size ≤ maxLen := by
  obtain ⟨xs, m, _, _, hl, hxl, hf⟩ := DataW.trod_struct Try.underlying33 h
  rw [cells33] at hl
  obtain ⟨c0, c1, c2, c3, rfl⟩ : ∃ c0 c1 c2 c3, cs = [c0, c1, c2, c3] := by
    match cs, hl with
    | [c0, c1, c2, c3], _ => exact ⟨c0, c1, c2, c3, rfl⟩
  obtain ⟨y0, y1, rfl⟩ : ∃ y0 y1, xs = [y0, y1] := by
    match xs, hxl with
    | [y0, y1], _ => exact ⟨y0, y1, rfl⟩
  have k4 : Try.prog.cellsOf 4 = 1 := by kernel_rfl
  have g0 := hf 0 ⟨ "E", 31, 0, false, "", "", 0⟩ rfl
  have g1 := hf 1 ⟨ "Undo", 4, 3, false, "", "", 32⟩ rfl
  simp only [cells31, k4] at g0 g1
  obtain ⟨e, he, hs⟩ := edit_cells2 (x := y0) (by simpa using g0)
  obtain ⟨b, hb, _⟩ := DataW.trod_bool (x := y1) Try.underlying4 (by simpa using g1)
  simp at he hb
  obtain ⟨rfl, rfl, rfl⟩ := he
  subst hb
  exact ⟨⟨e, b⟩, rfl, hs⟩

theorem open_deeds {H : Type} {enc : TypeId × Value → H} {W : World} {n : Nat} {lo : Option Addr} {len cap : Nat} {x : DataW H × List MemPlace} (h : DataW.trod enc Try.prog W 0 (fun _ => true) true n 22 [.slice lo len cap] = some x) :
    ∃ f, DeRow W lo len f := by
  rcases Go.Deep.open_slice Try.underlying22 h with ⟨h0, _⟩ | ⟨a, len', cap', m, k, D, Pl, hcs, _, hl, hm, hmm, _, hx⟩
  · simp only [List.cons.injEq, Value.slice.injEq, and_true] at h0
    obtain ⟨_, rfl, rfl⟩ := h0
    exact ⟨fun _ => ⟨⟨0, 0, ⟨#[]⟩⟩, false⟩, fun i hi => absurd hi (Nat.not_lt_zero _)⟩
  · simp only [List.cons.injEq, Value.slice.injEq, and_true] at hcs
    obtain ⟨rfl, rfl, rfl⟩ := hcs
    rw [if_pos rfl] at hmm
    have each : ∀ i, i < len → ∃ d : De, d.e.s.size ≤ maxLen ∧ W.cell? (a.add (i * 4)) = some (.int .i64 d.e.a) ∧ W.cell? (a.add (i * 4 + 1)) = some (.int .i64 d.e.d) ∧ W.cell? (a.add (i * 4 + 2)) = some (.string d.e.s) ∧ W.cell? (a.add (i * 4 + 3)) = some (.bool d.u) := by
      intro i hi
      obtain ⟨cs', h1, h2⟩ := hx i (by omega)
      rw [cells33] at h1
      obtain ⟨_, hlen, hcell⟩ := World.cells?_some h1
      obtain ⟨d, rfl, hs⟩ := deed_cells h2
      refine ⟨d, hs, ?_, ?_, ?_, ?_⟩
      · have := hcell 0 (by omega); rw [Go.Deep.add_add] at this; simpa using this
      · have := hcell 1 (by omega); rw [Go.Deep.add_add] at this; simpa using this
      · have := hcell 2 (by omega); rw [Go.Deep.add_add] at this; simpa using this
      · have := hcell 3 (by omega); rw [Go.Deep.add_add] at this; simpa using this
    obtain ⟨f, hf⟩ : ∃ f : Nat → De, ∀ i, i < len → (f i).e.s.size ≤ maxLen ∧ W.cell? (a.add (i * 4)) = some (.int .i64 (f i).e.a) ∧ W.cell? (a.add (i * 4 + 1)) = some (.int .i64 (f i).e.d) ∧ W.cell? (a.add (i * 4 + 2)) = some (.string (f i).e.s) ∧ W.cell? (a.add (i * 4 + 3)) = some (.bool (f i).u) := by
      haveI : Inhabited De := ⟨⟨⟨0, 0, ⟨#[]⟩⟩, false⟩⟩
      exact Go.Deep.choose_lt each
    refine ⟨f, fun i hi => ?_⟩
    obtain ⟨gs, g0, g1, g2, g3⟩ := hf i hi
    obtain ⟨b, off, spot⟩ := a
    have hspot : spot = none := by
      have := World.cell?_spot (hf 0 (by omega)).2.1
      simpa [Addr.add] using this
    subst hspot
    rw [Addr.add_lit] at g0 g1 g2 g3
    exact ⟨gs, b, off, rfl, World.block_lt_of_cell? W _ g0, g0, by rw [Nat.add_assoc]; exact g1, by rw [Nat.add_assoc]; exact g2, by rw [Nat.add_assoc]; exact g3⟩

theorem play_walk (s : ByteArray) (most : Int) (lo : Option Addr) (len cap : Nat) (f : Nat → De) (w : World) (hrow : DeRow w lo len f) :
    Calls Try.prog 3 #[.string s, .int .i64 most, .slice lo len cap] w fun e w' => e = .returned (.bool true) ∧ Below w.heap.size w w' := by
  by_cases h : (s.size : Int) ≤ most ∧ most ≤ 65536
  · exact play_yes s most lo len cap f w h.1 h.2 hrow
  · exact play_no s most lo len cap w (by omega)

set_option maxRecDepth 100000 in
theorem play_lifted (os : Os) (started : os.Started) (H : Type) (enc : TypeId × Value → H) :
    ReturnsInHanded {} Try.checked os 3 .any (Rows.textbufPlaysSpec.pre6 enc Try.prog Try.f3 Rows.textbufPlaysRow.domain false) (Rows.textbufPlaysSpec.post enc Try.prog Try.f3 false true false false) := by
  refine returnsInHanded_of_change (C := Try.checked) own started (by kernel_rfl) Try.func3
    (ChangeSpec.witness6 (enc := enc) (C := Try.checked) false ⟨#[], #[.string ⟨#[]⟩, .int .i64 0, .slice none 0 0], []⟩ 8 (by kernel_rfl) (by kernel_rfl) (by kernel_rfl) (by kernel_rfl)) ?_
  intro W base args ds gs before hval0 hW hcnd _
  have hval : ∀ (j : Nat) t v, Try.f3.params[j]? = some t → args[j]? = some v → Value.okWide Try.prog W .any base t v := hval0
  have hW' := hW
  obtain ⟨p, q, hA0, hV, rfl, hfz, hnd⟩ := hW
  have hA : DataW.TrodAll enc Try.prog W 0 (fun _ => true) true Try.f3.params.toList args.toList ds p := hA0
  rw [Try.params3] at hA hval
  obtain ⟨v0, vs0, d0, ds0, p0, q0, hargs, rfl, rfl, h0, r0⟩ := trodAll_cons hA
  obtain ⟨v1, vs1, d1, ds1, p1, q1, rfl, rfl, rfl, h1, r1⟩ := trodAll_cons r0
  obtain ⟨v2, vs2, d2, ds2, p2, q2, rfl, rfl, rfl, h2, r2⟩ := trodAll_cons r1
  obtain ⟨rfl, rfl, rfl⟩ := trodAll_nil r2
  obtain rfl : args = #[v0, v1, v2] := by cases args; simp_all
  obtain ⟨rfl, rfl⟩ := trodVars_none hV
  have k0 := h0
  have lt0 : ∀ x ∈ p0, x.block < W.heap.size := by obtain ⟨m, hm⟩ := k0; exact DataW.trod_lt m _ _ _ hm
  have k1 := h1
  have lt1 : ∀ x ∈ p1, x.block < W.heap.size := by obtain ⟨m, hm⟩ := k1; exact DataW.trod_lt m _ _ _ hm
  have k2 := h2
  have lt2 : ∀ x ∈ p2, x.block < W.heap.size := by obtain ⟨m, hm⟩ := k2; exact DataW.trod_lt m _ _ _ hm
  obtain ⟨s0, hv0, _, _, ws0⟩ := Go.ChangeMaps.open_string Try.underlying9 (hval 0 9 v0 rfl rfl) h0
  obtain ⟨k, hv1, _, _, wk⟩ := open_int Try.underlying3 (hval 1 3 v1 rfl rfl) h1
  obtain ⟨lo, len, cap, hv2⟩ := okWide_slice Try.underlying22 (hval 2 22 v2 rfl rfl)
  subst hv0 hv1 hv2
  obtain ⟨fuel, hf⟩ := h2
  obtain ⟨f, hrow⟩ := open_deeds (n := fuel) (by simpa [Value.cells] using hf)
  clear hA0 hval0
  refine (play_walk s0 k lo len cap f W hrow).mono fun e W' ⟨he, bel⟩ => ?_
  subst he
  exact ⟨_, rfl, _, _, _, [], _, [], hW', trodAll_mk1 (shut_bool Try.underlying4 _), (trodAll_cons_mk (Below.trod laidOut (by kernel_rfl) (of_decide_eq_true (by kernel_rfl)) k0 bel lt0) (trodAll_cons_mk (Below.trod laidOut (by kernel_rfl) (of_decide_eq_true (by kernel_rfl)) k1 bel lt1) (trodAll_cons_mk (Below.trod laidOut (by kernel_rfl) (of_decide_eq_true (by kernel_rfl)) k2 bel lt2) trodAll_mk0))), rfl, bel.frame _, fun h => by cases h⟩

theorem plays_holds : Rows.TextbufPlaysSaid :=
  OpenClaim.holds_of_wide 3 Try.f3 rfl rfl rfl rfl rfl rfl rfl ⟨rfl, rfl, rfl, rfl, rfl⟩ rfl rfl rfl rfl rfl (by kernel_rfl) Try.func3 (by kernel_rfl)
    (of_decide_eq_true (by kernel_rfl)) (by unfold Func.isWrapper; first | (rw [if_pos (by decide +kernel)]; kernel_rfl) | (rw [if_neg (by decide +kernel)]; exact ⟨rfl, rfl⟩))
    (fun os started H enc _ => play_lifted os started H enc)
#print axioms plays_holds
end Go.Proofs.Ytfphmdkbcibcmaa
