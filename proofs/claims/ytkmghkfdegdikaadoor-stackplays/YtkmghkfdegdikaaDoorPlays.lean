/- The law StackPlays holds for any deeds: each answer of the program's stack is the document's stack's, and so is the whole stack behind each deed. The program's lists are laid as its text lays them (the card ties them); no other condition. -/
import Derived.Test.YtkmghkfdegdikaaDoorEc
namespace Go.Proofs.YtkmghkfdegdikaaDoor
open Go.ChangeShapes Go.WideShapes Go.ChangeAt Go.RowKit Go.Joins

/-- The facts that the compared reads read. -/
abbrev FF (b1 b2 y : Nat) (id sp : Int) (nm : ByteArray) (ao ao' : Option Addr) (ac ac' : Nat) (al : List At) (yo : Option Addr) (ym yc : Nat) (V : World) : Prop := V.cell? ⟨b1, 0, none⟩ = some (iv id) ∧ V.cell? ⟨b1, 1, none⟩ = some (iv sp) ∧ V.cell? ⟨b1, 2, none⟩ = some (.string nm) ∧ V.cell? ⟨b1, 3, none⟩ = some (.slice ao al.length ac) ∧ V.cell? ⟨b2, 0, none⟩ = some (iv id) ∧ V.cell? ⟨b2, 1, none⟩ = some (iv sp) ∧ V.cell? ⟨b2, 2, none⟩ = some (.string nm) ∧ V.cell? ⟨b2, 3, none⟩ = some (.slice ao' al.length ac') ∧ V.cell? ⟨y, 0, none⟩ = some (.slice yo ym yc)
/-- One, All and Same behind a deed. -/
theorem Duo.same {w W : World} {x y i : Nat} (h : Duo w W x y i) (hi : i ≤ 1000000) {id sp : Int} {nm : ByteArray} {ao ao' : Option Addr} {ac ac' : Nat} {al : List At} {b1 b2 : Nat} {yo : Option Addr} {ym yc : Nat} (f : FF b1 b2 y id sp nm ao ao' ac ac' al yo ym yc W) (o1 : Ats W (.slice ao al.length ac) al) (o2 : Ats W (.slice ao' al.length ac') al) :
    Calls Tryd.prog 14 #[.agg #[iv id, iv sp, .string nm, .slice ao al.length ac], .agg #[iv id, iv sp, .string nm, .slice ao' al.length ac']] W fun e w7 => e = .returned (.bool true) ∧ FF b1 b2 y id sp nm ao ao' ac ac' al yo ym yc w7 ∧ Hid (Calls Tryd.prog 16 #[ptr x] w7 fun e w8 => ∃ so m sc, e = .returned (.slice so m sc) ∧ FF b1 b2 y id sp nm ao ao' ac ac' al yo ym yc w8 ∧ Hid (Calls Tryd.prog 15 #[.slice so m sc, .slice yo ym yc] w8 fun e w9 => e = .returned (.bool true) ∧ FF b1 b2 y id sp nm ao ao' ac ac' al yo ym yc w9 ∧ Hid (Duo w w9 x y i))) := by
  have fm : ∀ {V V' : World}, Below V.heap.size V V' → FF b1 b2 y id sp nm ao ao' ac ac' al yo ym yc V → FF b1 b2 y id sp nm ao ao' ac ac' al yo ym yc V' := fun {V V'} b q => by
    have mv : ∀ {p : Addr} {u : Value}, V.cell? p = some u → V'.cell? p = some u := fun {p u} hp => (b.cell (p := p) (World.block_lt_of_cell? V _ hp)).trans hp
    obtain ⟨q0, q1, q2, q3, q4, q5, q6, q7, q8⟩ := q
    exact ⟨mv q0, mv q1, mv q2, mv q3, mv q4, mv q5, mv q6, mv q7, mv q8⟩
  refine (one_any ⟨id, sp, nm, .slice ao al.length ac, al⟩ ⟨id, sp, nm, .slice ao' al.length ac', al⟩ o1 o2).mono ?_
  rintro e w7 ⟨r, rfl, hr, b7⟩
  obtain rfl : r = true := hr rfl
  refine ⟨rfl, fm b7 f, ((h.old b7).all hi).mono ?_⟩
  rintro e w8 ⟨so, m, sc, rfl, b8, hs⟩
  have f8 := fm b8 (fm b7 f)
  refine ⟨so, m, sc, rfl, f8, (hs _ _ _ f8.2.2.2.2.2.2.2.2).mono ?_⟩
  rintro e w9 ⟨rfl, b9⟩
  exact ⟨rfl, fm b9 f8, ((h.old b7).old b8).old b9⟩
set_option maxHeartbeats 4000000 in
set_option maxRecDepth 20000 in
theorem plays_walk {w : World} (TB : Tb w) (lo : Option Addr) (len cap : Nat) (L : List Dd) (hL : DdsIn w lo len L) : Calls Tryd.prog 3 #[.slice lo len cap] w fun e w' => e = .returned (.bool true) ∧ Below w.heap.size w w' := by
  have HI : Hid (Tb w ∧ DdsIn w lo len L) := ⟨TB, hL⟩
  have hfit := hL.fit
  have kn := new_any w
  clear TB hL
  go_enter Tryd.func3, Tryd.ntmps3
  go_wp2_with fail
  refine kn.mono ?_
  rintro e w1 ⟨rfl, b1, s1⟩
  obtain ⟨W2, hW2, r2, b2⟩ := rfresh (w := w1) w.heap.size b1.size
  have HW2 : Hid (w1.alloc (.cells #[Value.slice none 0 0] 28) = W2) := hW2
  obtain ⟨x, hx⟩ : ∃ x, w.heap.size = x := ⟨_, rfl⟩
  obtain ⟨y, hy⟩ : ∃ y, w1.heap.size = y := ⟨_, rfl⟩
  have HD : Hid (Duo w W2 x y 0) := by
    rw [← hx, ← hy]
    exact ⟨_, _, [], [], ⟨s1.old b2, r2, fun g hg => by simp [Value.ownBlock] at hg⟩, b1.trans (b2.mono b1.size), rfl, Nat.le_refl _⟩
  have kf := few_any lo len cap L (HI.out.2.old (b1.trans (b2.mono b1.size)))
  clear kn b1 s1 hW2 r2 b2
  go_upto_region 2 with fail
  rw [HW2.out]
  clear HW2 hx hy
  go_wp2_with fail
  refine kf.mono ?_
  rintro e w3 ⟨b, rfl, b3⟩
  have HE : Hid (Duo w w3 x y 0) := HD.out.old b3
  clear kf b3 HD
  cases b with
  | false =>
    have ka := awake_any (HI.out.1.below HE.out.below)
    go_wp2_with fail
    refine ka.mono ?_
    rintro e w4 ⟨rfl, b4⟩
    have HF : Hid (Below w.heap.size w w4) := (HE.out.old b4).below
    clear b4 ka
    go_wp2_with fail
    go_ret
    exact ⟨rfl, HF.out⟩
  | true =>
    go_wp2_with fail
    go_loopg [5] len (fun g2 iv' wr => ∃ (i : Nat), iv' = iv (i : Int) ∧ i + g2 = len ∧ Hid (i ≤ 100 ∧ Duo w wr x y i))
    case atStart => exact ⟨0, rfl, by omega, Nat.zero_le _, HE.out⟩
    case round =>
      obtain ⟨i, rfl, hig, HP⟩ := hrel
      obtain ⟨Wp, rfl⟩ : ∃ Wp, Wp = wr := ⟨_, rfl⟩
      cases gk with
      | zero =>
        obtain rfl : i = len := by omega
        have hg0 : decide ((i : Int) < (i : Int)) = false := decide_eq_false (by omega)
        have ka := awake_any (HI.out.1.below HP.out.2.below)
        go_wp2_with fail
        refine ka.mono ?_
        rintro e w4 ⟨rfl, b4⟩
        have HF : Hid (Below w.heap.size w w4) := (HP.out.2.old b4).below
        clear b4 ka
        go_wp2_with fail
        go_ret
        exact ⟨rfl, HF.out⟩
      | succ k =>
        have hin : i < len := by omega
        by_cases hc : i < 100
        · have hd : decide ((i : Int) < (100 : Int)) = true := decide_eq_true (by omega)
          have HC : Hid (i + 1 ≤ 100) := hc
          obtain ⟨d, b, off, ao, ac, rfl, q0, q1, q2, q3, q4, q5, q6, q7, hav, hdi, hal⟩ := HI.out.2.at2 HP.out.2.below hin
          have kd := HP.out.2.next (by have := HP.out.1; omega) d hdi hal HI.out.1
          obtain ⟨dk, da, dds, ⟨did, dsp, dnm, dav, dal⟩, dno, dnl, dnc⟩ := d
          simp only at hav q0 q1 q2 q3 q4 q5 q6 q7
          subst hav
          clear hdi hal hc
          go_wp2_with fail
          refine kd.mono ?_
          rintro e w4 ⟨rfl, h4⟩
          have H4 : Hid (Duo w w4 x y (i + 1)) := h4
          have kt := H4.out.tops (by have := HC.out; omega)
          clear kd h4 q0 q1 q2 q3 q4 q5 q6 q7
          go_wp2_with fail
          refine kt.mono ?_
          rintro e w5 ⟨id, sp, nm, ao, ac, al, b, rfl, o5, b5, ht⟩
          obtain ⟨W6, hW6⟩ : ∃ W6, w5.alloc (.cells #[Value.int IntKind.i64 id, Value.int IntKind.i64 sp, Value.string nm, Value.slice ao al.length ac] 34) = W6 := ⟨_, rfl⟩
          have HW6 : Hid (w5.alloc (.cells #[Value.int IntKind.i64 id, Value.int IntKind.i64 sp, Value.string nm, Value.slice ao al.length ac] 34) = W6) := hW6
          have x6 : Bx W6 w5.heap.size 34 #[iv id, iv sp, .string nm, .slice ao al.length ac] := by rw [← hW6]; exact heap_alloc_new w5 _
          have b6 : Below w5.heap.size w5 W6 := by rw [← hW6]; exact (Below.refl _ _).alloc (Nat.le_refl _) _
          have kr := ht W6 b6
          have H6 : Hid (Duo w W6 x y (i + 1) ∧ Own W6 (.slice ao al.length ac) al ∧ Bx W6 w5.heap.size 34 #[iv id, iv sp, .string nm, .slice ao al.length ac]) := ⟨H4.out.old (b5.trans (b6.mono b5.size)), o5.old b6, x6⟩
          clear kt ht hW6 x6 b6 b5 o5 H4
          go_upto_region 10 with fail
          rw [HW6.out]
          obtain ⟨c1, hc1⟩ : ∃ c1, w5.heap.size = c1 := ⟨_, rfl⟩
          rw [hc1]
          rw [hc1] at H6
          clear HW6 hc1
          go_wp2_with fail
          refine kr.mono ?_
          rintro e w7 ⟨ao', ac', rfl, o7, b7⟩
          obtain ⟨W8, hW8⟩ : ∃ W8, w7.alloc (.cells #[Value.int IntKind.i64 id, Value.int IntKind.i64 sp, Value.string nm, Value.slice ao' al.length ac'] 34) = W8 := ⟨_, rfl⟩
          have HW8 : Hid (w7.alloc (.cells #[Value.int IntKind.i64 id, Value.int IntKind.i64 sp, Value.string nm, Value.slice ao' al.length ac'] 34) = W8) := hW8
          have x8 : Bx W8 w7.heap.size 34 #[iv id, iv sp, .string nm, .slice ao' al.length ac'] := by rw [← hW8]; exact heap_alloc_new w7 _
          have b8 : Below w7.heap.size w7 W8 := by rw [← hW8]; exact (Below.refl _ _).alloc (Nat.le_refl _) _
          have b68 := b7.trans (b8.mono b7.size)
          obtain ⟨yo, ym, yc, hyc⟩ := (H6.out.1.old b68).cell
          have x6' := H6.out.2.2.old b68
          have fd : FF c1 w7.heap.size y id sp nm ao ao' ac ac' al yo ym yc W8 := ⟨x6'.cell 0, x6'.cell 1, x6'.cell 2, x6'.cell 3, x8.cell 0, x8.cell 1, x8.cell 2, x8.cell 3, hyc⟩
          have bd := (Below.refl W8.heap.size W8).drew
          have mv : ∀ {p : Addr} {u : Value}, W8.cell? p = some u → W8.drew.cell? p = some u := fun {p u} hp => hp
          have KO : Hid _ := (((H6.out.1.old b68).old bd).same (by have := HC.out; omega) (yo := yo) (ym := ym) (yc := yc) (b1 := c1) (b2 := w7.heap.size) fd ((H6.out.2.1.old b68).old bd).ats ((o7.old b8).old bd).ats)
          obtain ⟨e0, e1, e2, e3, e4, e5, e6, e7, e8⟩ := fd
          clear kr hW8 x8 b8 b68 o7 b7 x6' hyc bd mv H6
          go_upto_region 11 with fail
          rw [HW8.out]
          obtain ⟨c2, hc2⟩ : ∃ c2, w7.heap.size = c2 := ⟨_, rfl⟩
          rw [hc2]
          rw [hc2] at KO e4 e5 e6 e7
          clear HW8 hc2
          go_region_held3 (fun w' => w'.cell? ⟨c1, 0, none⟩ = some (iv id) ∧ w'.cell? ⟨c1, 1, none⟩ = some (iv sp) ∧ w'.cell? ⟨c1, 2, none⟩ = some (.string nm) ∧ w'.cell? ⟨c1, 3, none⟩ = some (.slice ao al.length ac) ∧ w'.cell? ⟨c2, 0, none⟩ = some (iv id) ∧ w'.cell? ⟨c2, 1, none⟩ = some (iv sp) ∧ w'.cell? ⟨c2, 2, none⟩ = some (.string nm) ∧ w'.cell? ⟨c2, 3, none⟩ = some (.slice ao' al.length ac') ∧ w'.cell? ⟨y, 0, none⟩ = some (.slice yo ym yc)) (first | exact ⟨i0, i1, i2, i3, i4, i5, i6, i7, i8⟩ | exact ⟨g0, g1, g2, g3, g4, g5, g6, g7, g8⟩ | exact ⟨f0, f1, f2, f3, f4, f5, f6, f7, f8⟩ | exact ⟨e0, e1, e2, e3, e4, e5, e6, e7, e8⟩) (first
            | (go_at_call 14; refine Calls.mono KO.out ?_; rintro e w9 ⟨rfl, ⟨f0, f1, f2, f3, f4, f5, f6, f7, f8⟩, HQ⟩)
            | (go_at_call 16; refine Calls.mono HQ.out ?_; rintro e w10 ⟨so, sm, sc, rfl, ⟨g0, g1, g2, g3, g4, g5, g6, g7, g8⟩, HR⟩)
            | (go_at_call 15; refine Calls.mono HR.out ?_; rintro e w11 ⟨rfl, ⟨i0, i1, i2, i3, i4, i5, i6, i7, i8⟩, HF⟩))
          all_goals
            go_wp2_with fail
            go_roundg k
            case measure => omega
            case rel => exact ⟨i + 1, by go_num, by omega, HC.out, HF.out⟩
        · have hd : decide ((i : Int) < (100 : Int)) = false := decide_eq_false (by omega)
          have ka := awake_any (HI.out.1.below HP.out.2.below)
          clear hc
          go_wp2_with fail
          refine ka.mono ?_
          rintro e w4 ⟨rfl, b4⟩
          have HF : Hid (Below w.heap.size w w4) := (HP.out.2.old b4).below
          clear b4 ka
          go_wp2_with fail
          go_ret
          exact ⟨rfl, HF.out⟩
set_option maxRecDepth 100000 in
theorem plays_lifted (os : Os) (started : os.Started) (H : Type) (enc : TypeId × Value → H) :
    ReturnsInHanded {} Tryd.checked os 3 .any (fun w args => (Rows.stackPlaysSpec.pre enc Tryd.prog Tryd.f3 [] false w args ∧ laidMetH Tryd.prog laidL w) ∧ sizedMet enc Tryd.prog Tryd.f3 (OpenSpec.ofChange Rows.stackPlaysSpec) false w args) (Rows.stackPlaysSpec.post enc Tryd.prog Tryd.f3 false true false false) := by
  refine returnsInHanded_of_change_and (C := Tryd.checked) (X := fun w _ => laidMetH Tryd.prog laidL w) (fun _ _ _ hh h => h.of_heap hh) own started (by kernel_rfl) Tryd.func3
    (ChangeSpec.witness_shaped (enc := enc) (C := Tryd.checked) (os := os) (X := fun w _ => laidMetH Tryd.prog laidL w) false (World.doorLaid Tryd.prog 25 os) #[.slice none 0 0] 8 rfl (World.shaped_of_RefB (by kernel_rfl) (by kernel_rfl)) (by kernel_rfl) (by kernel_rfl) (by kernel_rfl) (door_met os _)) ?_
  intro W base args ds gs before hval0 hW _ hz0 hL _
  have hz : (DataW.weightsEach Tryd.prog (Tryd.f3.params.toList ++ Rows.stackPlaysSpec.plain.varTypes Tryd.prog) (ds ++ gs)).all (· ≤ reachBytes) = true := hz0
  have hval : ∀ (j : Nat) t v, Tryd.f3.params[j]? = some t → args[j]? = some v → Value.okWide Tryd.prog W .any base t v := hval0
  have hH : Tb W := tb_of_laid hL
  have hW' := hW
  obtain ⟨p, q, hA0, hV, rfl, hfz, hnd⟩ := hW
  have hA : DataW.TrodAll enc Tryd.prog W 0 (fun _ => true) true Tryd.f3.params.toList args.toList ds p := hA0
  rw [Tryd.params3] at hA hval hz
  obtain ⟨v0, vs0, d0, ds0, p0, q0, hargs, rfl, rfl, h0, r0⟩ := trodAll_cons hA
  obtain ⟨rfl, rfl, rfl⟩ := trodAll_nil r0
  obtain rfl : args = #[v0] := by cases args; simp_all
  obtain ⟨rfl, rfl⟩ := trodVars_none hV
  have k0 := h0
  have lt0 : ∀ x ∈ p0, x.block < W.heap.size := by obtain ⟨m, hm⟩ := k0; exact DataW.trod_lt m _ _ _ hm
  obtain ⟨lo0, len0, cap0, hv0⟩ := okWide_slice Tryd.underlying22 (hval 0 22 v0 rfl rfl)
  subst hv0
  obtain ⟨L0, hL0⟩ := open_deeds (j := 0) hz rfl rfl h0
  clear hA0 hval0 hz0
  refine (plays_walk hH lo0 len0 cap0 L0 hL0).mono fun e W' ⟨he, bel⟩ => ?_
  subst he
  exact ⟨_, rfl, _, _, _, [], _, [], hW', trodAll_mk1 (shut_bool Tryd.underlying4 _), (trodAll_cons_mk (Below.trod laidOut (by kernel_rfl) (of_decide_eq_true (by kernel_rfl)) k0 bel lt0) trodAll_mk0), rfl, bel.frame _, fun h => by cases h⟩

theorem plays_holds : Rows.StackPlaysSaid :=
  OpenClaim.holds_of_wide 3 Tryd.f3 rfl rfl rfl rfl rfl rfl rfl ⟨rfl, rfl, rfl, rfl, rfl⟩ rfl rfl rfl rfl rfl (by kernel_rfl) Tryd.func3 (by kernel_rfl)
    (of_decide_eq_true (by kernel_rfl)) (by unfold Func.isWrapper; first | (rw [if_pos (by decide +kernel)]; kernel_rfl) | (rw [if_neg (by decide +kernel)]; exact ⟨rfl, rfl⟩))
    (fun os started H enc _ => plays_lifted os started H enc)

theorem plays_card : Rows.StackPlaysCardSaid :=
  Claim7.holds_tied_plain_at .later [] [.data] true Rows.stackPlaysCard.stood.harness false
    plays_holds (fun _ h => by cases h) (by kernel_rfl) (fun _ h => by cases h) stackPlays_row_tie rfl ⟨rfl, rfl⟩ (by kernel_rfl) rfl
    (fun f fn hf hfn => by
      obtain rfl : f = 3 := Option.some.inj ((show Tryd.prog.funcNamed Rows.stackPlaysRow.func = some 3 by kernel_rfl).symm.trans hf) |>.symm
      obtain rfl : fn = Tryd.f3 := (Option.some.inj (Tryd.func3.symm.trans hfn)).symm
      exact ⟨by kernel_rfl, fun j t ht => by
        rw [Tryd.params3] at ht
        have hm : t ∈ [22] := by simpa using Array.mem_of_getElem? ht
        have hall : ([22].all fun u => !Tryd.prog.wantsStandIn u) = true := by kernel_rfl
        exact (show Tryd.prog.wantsStandIn t = false by simpa using List.all_eq_true.1 hall t hm)⟩)
    (by kernel_rfl)
#print axioms plays_card
end Go.Proofs.YtkmghkfdegdikaaDoor
