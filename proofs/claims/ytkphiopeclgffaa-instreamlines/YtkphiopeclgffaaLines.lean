/- The law InstreamLines holds for all lines: a text whose lines end in 13 10 has the same characters' numbers as the text whose lines end in 10. No condition. -/
import Derived.Test.YtkphiopeclgffaaJoin
import Derived.Test.YtkphiopeclgffaaLns
import Derived.ProofKit
import Derived.OpenShut
import Derived.ShutString
import Derived.ChangeOld
import Derived.ChangeMaps
import Derived.Lib.SmallJoins
import Derived.SizedLaws
namespace Go.Proofs.Ytkphiopeclgffaa
open Go.ChangeShapes Go.WideShapes Go.ChangeAt Go.RowKit Go.Joins

theorem weights_mem_all {H : Type} {P : Program} {e : TypeId} : ∀ {ds : List (DataW H)} {d : DataW H}, d ∈ ds → ∀ n ∈ d.weights P e, n ∈ DataW.weightsAll P e ds
  | d0 :: ds, d, hd, n, hn => by
    simp only [DataW.weightsAll, List.mem_append]
    rcases List.mem_cons.1 hd with rfl | h
    · exact Or.inl hn
    · exact Or.inr (weights_mem_all h n hn)

/-- A row of texts that came in, each no longer than the form's reach. -/
theorem open_lines {H : Type} {enc : TypeId × Value → H} {W : World} {n : Nat} {lo : Option Addr} {len cap : Nat} {x : DataW H × List MemPlace} (h : DataW.trod enc Try.prog W 0 (fun _ => true) true n 30 [.slice lo len cap] = some x)
    (hw : ∀ k ∈ x.1.weights Try.prog 30, k ≤ reachBytes) : len ≤ cap ∧ cap ≤ maxLen ∧ ∃ f, StrRow W lo len f ∧ ∀ i, i < len → (f i).size ≤ 140737488355328 := by
  rcases Go.Deep.open_strs Try.underlying30 Try.underlying9 cells9 h with ⟨h0, _⟩ | ⟨a, len', cap', m, Sx, hcs, _, hl, hm, hmm, hxd, hx⟩
  · simp only [List.cons.injEq, Value.slice.injEq, and_true] at h0
    obtain ⟨_, rfl, rfl⟩ := h0
    exact ⟨Nat.le_refl _, by unfold maxLen; omega, fun _ => ⟨#[]⟩, fun i hi => absurd hi (Nat.not_lt_zero _), fun i hi => absurd hi (Nat.not_lt_zero _)⟩
  · simp only [List.cons.injEq, Value.slice.injEq, and_true] at hcs
    obtain ⟨rfl, rfl, rfl⟩ := hcs
    rw [if_pos rfl] at hmm
    refine ⟨hl, hm, Sx, fun i hi => ?_, fun i hi => ?_⟩
    · obtain ⟨b, off, spot⟩ := a
      have hspot : spot = none := by
        have := World.cell?_spot (hx 0 (by omega)).1
        simpa [Addr.add] using this
      subst hspot
      have hc := (hx i (by omega)).1
      rw [Addr.add_lit] at hc
      exact ⟨b, off, rfl, block_lt_of_cell hc, hc⟩
    · have g1 : (Sx i).data.toList.length ∈ (DataW.lit (.string (Sx i).data.toList) : DataW H).weights Try.prog 9 := by simp [DataW.weights]
      have g2 : (DataW.lit (.string (Sx i).data.toList) : DataW H) ∈ (List.range len).map (fun i => (DataW.lit (.string (Sx i).data.toList) : DataW H)) := List.mem_map.2 ⟨i, List.mem_range.2 hi, rfl⟩
      have g3 := weights_mem_all (P := Try.prog) (e := 9) g2 _ g1
      have g4 : (Sx i).data.toList.length ≤ reachBytes := by
        apply hw
        rw [hxd]
        simp only [DataW.weights, Try.underlying30, List.mem_cons, List.mem_append]
        exact Or.inr (Or.inl g3)
      have g5 : (Sx i).data.toList.length = (Sx i).size := Array.length_toList
      have g6 : reachBytes = 140737488351232 := by decide
      omega

theorem alike_next {A B t : ByteArray} (h : Alike A.data.toList B.data.toList) (ht : ∀ i (hi : i < t.size), t[i] ≠ 13) : Alike (A ++ (t ++ ⟨#[13, 10]⟩)).data.toList (B ++ (t ++ ⟨#[10]⟩)).data.toList := by
  have e : ∀ (X Y : ByteArray), (X ++ Y).data.toList = X.data.toList ++ Y.data.toList := fun X Y => by simp [ByteArray.data_append]
  rw [e, e, e, e]
  refine h.line fun c hc => ?_
  obtain ⟨i, hi, rfl⟩ := List.mem_iff_getElem.1 hc
  have hi2 : i < t.size := by rw [Array.length_toList] at hi; exact hi
  have := ht i hi2
  rw [Array.getElem_toList]
  exact this

theorem same_at {cs ds : List Ch} (h : cs.map Ch.r = ds.map Ch.r) (k : Nat) (x : Ch) (hk : cs[k]? = some x) : ∃ y, ds[k]? = some y ∧ y.r = x.r := by
  have h1 : (cs.map Ch.r)[k]? = some x.r := by rw [List.getElem?_map, hk]; rfl
  rw [h, List.getElem?_map] at h1
  cases hd : ds[k]? with
  | none => rw [hd] at h1; simp at h1
  | some y => rw [hd] at h1; simp at h1; exact ⟨y, rfl, h1⟩

set_option maxHeartbeats 4000000 in
set_option maxRecDepth 100000 in
theorem lin_walk (lo : Option Addr) (len cap : Nat) (f : Nat → ByteArray) (w : World) (_hl : len ≤ cap) (_hcap : cap ≤ 9223372036854775807) (hrow : StrRow w lo len f) (hsz : ∀ i, i < len → (f i).size ≤ 140737488355328) :
    Calls Try.prog 6 #[.slice lo len cap] w fun e w' => e = .returned (.bool true) ∧ Below w.heap.size w w' := by
  have HR : Hid (StrRow w lo len f) := hrow
  have HSZ : Hid (∀ i, i < len → (f i).size ≤ 140737488355328) := hsz
  clear hrow hsz
  go_enter Try.func6, Try.ntmps6
  go_wp2_with fail
  go_loop [3, 4, 5, 6, 7] (fun nv av bv iv _ => ∃ (k m : Nat) (A B : ByteArray), k ≤ len ∧ iv = .int .i64 k ∧ nv = .int .i64 m ∧ m ≤ 20000 ∧ av = .string A ∧ bv = .string B ∧ A.size ≤ m ∧ B.size ≤ m ∧ Alike A.data.toList B.data.toList) (fun _ _ _ iv _ => len - (intOf iv).toNat)
  case atStart => exact ⟨0, 0, ⟨#[]⟩, ⟨#[]⟩, Nat.zero_le _, rfl, rfl, Nat.zero_le _, rfl, rfl, Nat.le_refl _, Nat.le_refl _, Alike.nil⟩
  case round =>
    obtain ⟨k, m, A, B, hk, rfl, rfl, hm, rfl, rfl, hA, hB, hAB⟩ := hrel
    have HAB : Hid (Alike A.data.toList B.data.toList) := hAB
    clear hAB
    by_cases hlt : k < len
    · obtain ⟨b0, off, hlo, hb0, c0⟩ := HR.out k hlt
      subst hlo
      have hts := HSZ.out k hlt
      obtain ⟨t, ht⟩ : ∃ t, f k = t := ⟨_, rfl⟩
      rw [ht] at c0 hts
      clear ht
      by_cases hbig : 20000 < m + (t.size + 2)
      · go_wp2_with fail
        refine (awake_any _).mono ?_
        rintro e w1 ⟨rfl, b1⟩
        go_wp2_with fail
        go_ret
        exact ⟨rfl, b1⟩
      · go_wp2_with fail
        go_loop [7] (fun jv => ∃ j : Nat, j ≤ t.size ∧ jv = .int .i64 j ∧ ∀ i (hi : i < t.size), i < j → t[i] ≠ 13) (fun jv => t.size - (intOf jv).toNat)
        case atStart => exact ⟨0, Nat.zero_le _, rfl, fun i _ h => absurd h (Nat.not_lt_zero _)⟩
        case round =>
          obtain ⟨j, hj, rfl, hno⟩ := hrel
          have HNO : Hid (∀ i (hi : i < t.size), i < j → t[i] ≠ 13) := hno
          clear hno
          by_cases hjl : j < t.size
          · by_cases h13 : t[j].toNat = 13
            · have f13 : ((t[j].toNat : Int) == 13) = true := by rw [h13]; rfl
              clear h13
              go_wp2_with fail
              refine (awake_any _).mono ?_
              rintro e w1 ⟨rfl, b1⟩
              go_wp2_with fail
              go_ret
              exact ⟨rfl, b1⟩
            · have f13 : ((t[j].toNat : Int) == 13) = false := by rw [beq_eq_false_iff_ne]; omega
              by_cases h10 : t[j].toNat = 10
              · have f10 : ((t[j].toNat : Int) == 10) = true := by rw [h10]; rfl
                clear h10 h13
                go_wp2_with fail
                refine (awake_any _).mono ?_
                rintro e w1 ⟨rfl, b1⟩
                go_wp2_with fail
                go_ret
                exact ⟨rfl, b1⟩
              · have f10 : ((t[j].toNat : Int) == 10) = false := by rw [beq_eq_false_iff_ne]; omega
                have hne : t[j] ≠ 13 := fun e => h13 (by rw [e]; rfl)
                have HNE : Hid (∀ i (hi : i < t.size), i < j + 1 → t[i] ≠ 13) := fun i hi hij => by
                  by_cases h : i = j
                  · subst h; exact hne
                  · exact HNO.out i hi (by omega)
                clear h10 h13 hne
                go_wp2_with fail
                exact ⟨⟨j + 1, by omega, by go_num, HNE.out⟩, by simp [intOf]; omega⟩
          · have hNX : Hid (Alike (A ++ (t ++ ⟨#[13, 10]⟩)).data.toList (B ++ (t ++ ⟨#[10]⟩)).data.toList) := alike_next HAB.out (fun i hi => HNO.out i hi (by omega))
            have hz1 : (A ++ (t ++ ⟨#[13, 10]⟩)).size ≤ m + (t.size + 2) := by
              rw [ByteArray.size_append, ByteArray.size_append]
              show A.size + (t.size + 2) ≤ _
              omega
            have hz2 : (B ++ (t ++ ⟨#[10]⟩)).size ≤ m + (t.size + 2) := by
              rw [ByteArray.size_append, ByteArray.size_append]
              show B.size + (t.size + 1) ≤ _
              omega
            go_wp2_with fail
            exact ⟨⟨k + 1, m + (t.size + 2), _, _, by omega, by go_num, by go_num, by omega, rfl, rfl, hz1, hz2, hNX.out⟩, by simp [intOf]; omega⟩
    · have hsame := HAB.out.same
      have hla : (outc A.data.toList).length = (outc B.data.toList).length := by
        have := congrArg List.length hsame
        rw [List.length_map, List.length_map] at this
        exact this
      have HS : Hid ((outc A.data.toList).map Ch.r = (outc B.data.toList).map Ch.r) := hsame
      obtain ⟨n, hn⟩ : ∃ n, (outc A.data.toList).length = n := ⟨_, rfl⟩
      rw [hn] at hla
      have HLA : Hid ((outc A.data.toList).length = n) := hn
      have HLB : Hid ((outc B.data.toList).length = n) := hla.symm
      clear hsame hla hn
      go_wp2_with fail
      refine (chars_as A (outc A.data.toList) _ n _ (by omega) rfl rfl HLA.out rfl).mono ?_
      rintro e w1 ⟨ca, cc, fa, fc, rfl, l1, m1, c1, f1, b1⟩
      have C1 : Hid (Chars w.heap.size (.slice ca n cc) (outc A.data.toList) w1) := c1
      have z1 := b1.size
      have HB1 : Hid (Below w.heap.size w w1) := b1
      clear c1 f1 b1
      go_wp2_with fail
      refine (chars_as B (outc B.data.toList) _ n _ (by omega) rfl rfl HLB.out rfl).mono ?_
      rintro e w2 ⟨ca2, cc2, fa2, fc2, rfl, l2, m2, c2, f2, b2⟩
      have D1 : Hid (Chars w.heap.size (.slice ca n cc) (outc A.data.toList) w2) := own_below C1.out b2
      have D2 : Hid (Chars w1.heap.size (.slice ca2 n cc2) (outc B.data.toList) w2) := c2
      have HB2 : Hid (Below w.heap.size w w2) := HB1.out.trans (b2.mono z1)
      have z2 := b2.size
      unfold maxLen at m1 m2
      clear c2 f2 b2 C1
      go_wp2_with fail
      go_loopw [12] (fun iv wr => ∃ i : Nat, i ≤ n ∧ iv = .int .i64 i ∧ Below w2.heap.size w2 wr) (fun iv _ => n - (intOf iv).toNat)
      case atStart => exact ⟨0, Nat.zero_le _, rfl, Below.refl _ _⟩
      case round =>
        obtain ⟨i, hi, rfl, hbl⟩ := hrel
        by_cases hin : i < n
        · obtain ⟨x, hx⟩ : ∃ x, (outc A.data.toList)[i]? = some x := ⟨_, List.getElem?_eq_getElem (by rw [HLA.out]; exact hin)⟩
          obtain ⟨y, hy, hxy⟩ := same_at HS.out i x hx
          obtain ⟨g, rfl, hg, d0, _, _⟩ := ch_of D1.out HLA.out (by omega) i x hx
          obtain ⟨g2, rfl, hg2, e0, _, _⟩ := ch_of D2.out HLB.out (by omega) i y hy
          rw [hxy] at e0
          have d0' := (hbl.cell (p := ⟨g, i * 3, none⟩) hg).trans d0
          have e0' := (hbl.cell (p := ⟨g2, i * 3, none⟩) hg2).trans e0
          obtain ⟨xr, hxr⟩ : ∃ xr, x.r = xr := ⟨_, rfl⟩
          rw [hxr] at d0' e0'
          clear d0 e0 hx hy hxy hxr
          go_wp2_with fail
          go_quiet (fail)
          go_wp2_with fail
          exact ⟨⟨i + 1, by omega, by go_num, below_drewN hbl nq⟩, by simp [intOf]; omega⟩
        · go_wp2_with fail
          refine (awake_any _).mono ?_
          rintro e w5 ⟨rfl, b5⟩
          go_wp2_with fail
          go_ret
          exact ⟨rfl, HB2.out.trans ((hbl.trans (b5.mono hbl.size)).mono HB2.out.size)⟩

set_option maxRecDepth 100000 in
theorem lin_lifted (os : Os) (started : os.Started) (H : Type) (enc : TypeId × Value → H) :
    ReturnsInHanded {} Try.checked os 6 .any (Rows.instreamLinesSpec.pre6 enc Try.prog Try.f6 Rows.instreamLinesRow.domain false) (Rows.instreamLinesSpec.post enc Try.prog Try.f6 false true false false) := by
  refine returnsInHanded_of_change_sized (C := Try.checked) own started (by kernel_rfl) Try.func6
    (ChangeSpec.witness6 (enc := enc) (C := Try.checked) false ⟨#[], #[.slice none 0 0], []⟩ 8 (by kernel_rfl) (by kernel_rfl) (by kernel_rfl) (by kernel_rfl)) ?_
  intro W base args ds gs before hval0 hW hcnd hz0 _
  have hval : ∀ (j : Nat) t v, Try.f6.params[j]? = some t → args[j]? = some v → Value.okWide Try.prog W .any base t v := hval0
  have hW' := hW
  obtain ⟨p, q, hA0, hV, rfl, hfz, hnd⟩ := hW
  have hA : DataW.TrodAll enc Try.prog W 0 (fun _ => true) true Try.f6.params.toList args.toList ds p := hA0
  rw [Try.params6] at hA hval
  obtain ⟨v0, vs0, d0, ds0, p0, q0, hargs, rfl, rfl, h0, r0⟩ := trodAll_cons hA
  obtain ⟨rfl, rfl, rfl⟩ := trodAll_nil r0
  obtain rfl : args = #[v0] := by cases args; simp_all
  obtain ⟨rfl, rfl⟩ := trodVars_none hV
  have k0 := h0
  have lt0 : ∀ x ∈ p0, x.block < W.heap.size := by obtain ⟨m, hm⟩ := k0; exact DataW.trod_lt m _ _ _ hm
  obtain ⟨lo, len, cap, hv0⟩ := okWide_slice Try.underlying30 (hval 0 30 v0 rfl rfl)
  subst hv0
  obtain ⟨fuel, hf⟩ := h0
  have hz : (DataW.weightsEach Try.prog (Try.f6.params.toList ++ Rows.instreamLinesSpec.plain.varTypes Try.prog) ([d0] ++ [])).all (· ≤ reachBytes) = true := hz0
  rw [Try.params6] at hz
  obtain ⟨hl, hcm, f, hrow, hsz⟩ := open_lines (n := fuel) (by simpa [Value.cells] using hf) (fun k hk => of_decide_eq_true (List.all_eq_true.1 hz _ (DataW.weights_mem_each (j := 0) rfl rfl _ hk)))
  clear hA0 hval0
  refine (lin_walk lo len cap f W hl hcm hrow hsz).mono fun e W' ⟨he, bel⟩ => ?_
  subst he
  exact ⟨_, rfl, _, _, _, [], _, [], hW', trodAll_mk1 (shut_bool Try.underlying4 _), (trodAll_cons_mk (Below.trod laidOut (by kernel_rfl) (of_decide_eq_true (by kernel_rfl)) k0 bel lt0) trodAll_mk0), rfl, bel.frame _, fun h => by cases h⟩

theorem lines_holds : Rows.InstreamLinesSaid :=
  OpenClaim.holds_of_wide 6 Try.f6 rfl rfl rfl rfl rfl rfl rfl ⟨rfl, rfl, rfl, rfl, rfl⟩ rfl rfl rfl rfl rfl (by kernel_rfl) Try.func6 (by kernel_rfl)
    (of_decide_eq_true (by kernel_rfl)) (by unfold Func.isWrapper; first | (rw [if_pos (by decide +kernel)]; kernel_rfl) | (rw [if_neg (by decide +kernel)]; exact ⟨rfl, rfl⟩))
    (fun os started H enc _ => lin_lifted os started H enc)
#print axioms lines_holds
end Go.Proofs.Ytkphiopeclgffaa
