/- The law TokenizerFeeds holds for every text, in any text state, svg or not: all tokens and all faults that a machine tells are those that the document's scanner tells. The program's table is laid as its text lays it (the card ties it); no other condition. -/
import Derived.Test.YtjjfalbngcbfaaaGreatDoorZ0
import Derived.Test.YtjjfalbngcbfaaaGreatDoorYd
import Derived.ProofKit
import Derived.OpenShut
import Derived.ShutString
import Derived.ChangeOld
import Derived.ChangeMaps
import Derived.Lib.SmallJoins
import Derived.Test.YtjjfalbngcbfaaaGreatDoorYx
set_option maxHeartbeats 4000000
set_option maxRecDepth 100000
namespace Go.Proofs.YtjjfalbngcbfaaaGreatDoor
open Go.ChangeShapes Go.WideShapes Go.ChangeAt Go.RowKit Go.Joins
variable {w : World}
theorem eqL_self (A : List At) : G9.eqL A A = true := G9.eqL_iff.2 rfl
theorem lsP_of : ∀ {A B : List TL},A.map ptOf = B.map ptOf -> G9.lsP A B = true
 | [],[],_ => rfl
 | [],_ :: _,h => by simp at h
 | _ :: _,[],h => by simp at h
 | x :: A,y :: B,h => by
  simp only [List.map_cons,List.cons.injEq] at h;have ih := lsP_of h.2;obtain ⟨⟨k,r,nm,tx,ao,n,cap,s,f,t⟩,L⟩ := x;obtain ⟨⟨k',r',nm',tx',ao',n',cap',s',f',t'⟩,L'⟩ := y;have h1 := h.1;simp only [ptOf,Pt.mk.injEq] at h1;obtain ⟨rfl,rfl,rfl,rfl,rfl,rfl,rfl,rfl⟩ := h1;unfold G9.lsP G9.Tk.eqb;simp [ih,eqL_self]
theorem refT_few (auto fo : Bool) (N : Int) : ∀ (n : Nat) (sc : Sc) (r : List Ch),(refT auto fo N n sc r).2.length <= sc.fs.length + 8 * r.length
 | 0,sc,r => Nat.le_add_right _ _
 | n + 1,sc,[] => by
  unfold refT;rw [jp rfl];exact Nat.le_add_right _ _
 | n + 1,sc,c :: t => by
  have h1 := refT_few auto fo N n (autoSc auto (nextR N fo sc (c :: t)).1 (nextR N fo sc (c :: t)).2.1) (nextR N fo sc (c :: t)).2.2;have h2 := (next_few N fo sc c t).2;rw [autoSc_fs] at h1;unfold refT;rw [jq (by simp)];dsimp only;simp only [zi];omega
theorem Toks.rowT {B : Nat} {oo : Option Addr} {n oc : Nat} {T : List TL} (h : Toks B (.slice oo n oc) T w) : G9.TkRow w oo T := by
 rcases h.own.2 with ⟨e,h0⟩ | ⟨g,cap,cur,z,e,hg,_,_,_,_,h4⟩
 · have : T = [] := yb h0
   rw [this];exact G9.TkRow.nil _ _
 simp only [Value.slice.injEq] at e
 obtain ⟨rfl,_,_⟩ := e
 exact (own_row hg h4 h.toks).1
theorem open_bool2 {H : Type} {enc : TypeId × Value -> H} {W : World} {r : Reach} {b0 : Nat} {v : Value} {d : DataW H} {p : List MemPlace} {base : Nat} {spare : Nat -> Bool} {held : Bool} (hval : Value.okWide Tryz.prog W r b0 22 v) (h : DataW.Trod enc Tryz.prog W base spare held 22 v d p) : ∃ a b : Bool,v = .agg #[.bool a,.bool b] := by
 have ht := Tryz.underlying22
 have hv : ∃ cs,v = .agg cs /\ cs.size = Tryz.prog.cellsOf 22 := by
  simp only [Value.okWide,ht] at hval;obtain ⟨cs,h1,h2,_⟩ := hval;exact ⟨cs,h1,h2⟩
 obtain ⟨cs,rfl,hsz⟩ := hv
 obtain ⟨c0,c1,rfl⟩ := array2 (hsz.trans (show Tryz.prog.cellsOf 22 = 2 by kernel_rfl))
 obtain ⟨fuel,hf⟩ := h
 obtain ⟨xs,m,_,_,_,hl,hx⟩ := DataW.trod_array ht hf
 have hce : Tryz.prog.cellsOf 4 = 1 := by kernel_rfl
 have h0 := hx 0 (by decide)
 have h1 := hx 1 (by decide)
 rw [hce] at h0 h1
 have e0 : (((Value.agg #[c0,c1]).cells.toList.drop (0 * 1)).take 1) = [c0] := rfl
 have e1 : (((Value.agg #[c0,c1]).cells.toList.drop (1 * 1)).take 1) = [c1] := rfl
 rw [e0] at h0
 rw [e1] at h1
 obtain ⟨y0,hy0⟩ : ∃ y,xs[0]? = some y := ⟨_,zy (by rw [hl];decide)⟩
 obtain ⟨y1,hy1⟩ : ∃ y,xs[1]? = some y := ⟨_,zy (by rw [hl];decide)⟩
 rw [hy0] at h0
 rw [hy1] at h1
 obtain ⟨a,ha,_⟩ := DataW.trod_bool Tryz.underlying4 h0
 obtain ⟨b,hb,_⟩ := DataW.trod_bool Tryz.underlying4 h1
 simp only [List.cons.injEq,and_true] at ha hb
 exact ⟨a,b,by rw [ha,hb]⟩
theorem feeds_walk (H : G6.Hi w) (s : ByteArray) (text : Int) (fo auto : Bool) : Calls Tryz.prog 3 #[.string s,ji text,.agg #[.bool fo,.bool auto]] w fun e w' => e = jr (.bool true) /\ Below w.heap.size w w' := by
 have hw0 := H.lt
 have HAW : Hid (∀ w',Below w.heap.size w w' -> Calls Tryz.prog 9 #[] w' fun e w2 => e = jr (.bool true) /\ Below w'.heap.size w' w2) := fun w' b => awake_any (H.below b hw0)
 obtain ⟨W0,hW0⟩ := ex (w.alloc (.cells #[.bool fo,.bool auto] 22))
 have b0 : Below w.heap.size w W0 := by rw [<- hW0];exact ze _ _
 have hnew : W0.heap[w.heap.size]? = some (.cells #[.bool fo,.bool auto] 22 (0,0)) := by rw [<- hW0];exact zx _ _
 have HW0 := hid hW0
 have hy0 : w.heap.size < W0.heap.size := (zf hnew)
 have d0 : W0.cell? (jd w.heap.size 0) = some (.bool fo) := by simp [World.cell?,hnew]
 have d1 : W0.cell? (jd w.heap.size 1) = some (.bool auto) := by simp [World.cell?,hnew]
 have B0 := hid b0
 by_cases hs : s.size <= 5000
 · have g1 : decide ((s.size : Int) > 5000) = false := zn (by omega)
   have k10 := all_any (H.below b0 hw0) s text fo auto (by omega);have k11 := fun W => want_any s text fo auto W (by omega);have e0 := all_refT s text fo auto;have hF : (allP s text fo auto).2.length <= 1000000 := by
    rw [e0];have h1 := refT_few auto fo s.size ((chars s).length + 1) (sc0 text) (chars s);have h2 := outc_le s.data.toList;rw [show s.data.toList.length = s.size from zw] at h2;have h3 : (sc0 text).fs.length = 0 := rfl;have h4 : (chars s).length <= s.size := h2;omega
   rw [<- e0] at k11;obtain ⟨L,hL⟩ := ex ((allP s text fo auto).1);obtain ⟨F,hF2⟩ := ex ((allP s text fo auto).2);rw [hL,hF2] at k10;rw [hF2] at hF;simp only [hL,hF2] at k11;clear H hW0 b0 hnew e0 hL hF2;go_enter Tryz.func3,Tryz.ntmps3;go_upto_region 1 with fail
   rw [HW0.out];go_wp2_with fail;refine k10.mono ?_;rintro e w1 ⟨oo,T,oc,fo1,fc1,rfl,hT,hTl,h1,f1,b1⟩;have H1 := yf h1 hT hTl f1 b1;have d2 := (b1.cell (p := (jd w.heap.size 0)) hy0).trans d0;have d3 := (b1.cell (p := (jd w.heap.size 1)) hy0).trans d1;have hy1 : w.heap.size < w1.heap.size := zo hy0 b1.size;obtain ⟨nA,hnA⟩ := ex (T.length);obtain ⟨nF,hnF⟩ := ex (F.length);have HnA := yc hnA hnF;rw [hnA,hnF];clear h1 hT hTl f1 b1 k10 d0 d1;clear hnA;go_wp2_with fail;refine (k11 _).mono ?_;rintro e w2 ⟨oo2,T2,oc2,fo2,fc2,rfl,hT2,hTl2,h2,f2,b2⟩;have H2 : Hid (G9.TkRow w2 oo T /\ G9.TkRow w2 oo2 T2 /\ G9.lsP T T2 = true /\ T2.length <= 100000000000 /\ G4.FaultsC W0.heap.size (.slice fo1 F.length fc1) F w2 /\ G4.FaultsC w1.heap.size (.slice fo2 F.length fc2) F w2 /\ Below w.heap.size w w2) := by
    refine ⟨H1.out.1.rowT.below b2,h2.rowT,lsP_of (H1.out.2.1.trans hT2.symm),hTl2,FaultsC.below H1.out.2.2.2.1 b2,f2,?_⟩;have b01 := B0.out.trans (H1.out.2.2.2.2.mono B0.out.size);exact b01.trans (b2.mono b01.size)
   obtain ⟨nB,hnB⟩ := ex (T2.length);have HnB := hid hnB;rw [hnB,hnF];have kAB : Calls Tryz.prog 12 #[.slice oo nA oc,.slice oo2 nB oc2] w2 fun e w' => e = jr (.bool true) /\ Below w2.heap.size w2 w' := by
    rw [<- H2.out.2.2.1];exact G9.rlist_any nA nB oc oc2 H2.out.1 H2.out.2.1 HnA.out.1 HnB.out (by have h1 := HnA.out.1;have h2 := H1.out.2.2.1;omega) (by have h1 := HnB.out;have h2 := H2.out.2.2.2.1;omega)
   have kFF : ∀ W,Below w2.heap.size w2 W -> Calls Tryz.prog 13 #[.slice fo1 nF fc1,.slice fo2 nF fc2] W fun e w' => e = jr (.bool true) /\ Below W.heap.size W w' := fun W b => by
    rw [<- HnA.out.2];exact G4.faults_same (FaultsC.below H2.out.2.2.2.2.1 b) (FaultsC.below H2.out.2.2.2.2.2.1 b) hF
   clear h2 f2 b2 hT2 hTl2 hnB hnF k11 d2 d3;go_wp2_with fail;refine kAB.mono ?_;rintro e w3 ⟨rfl,b3⟩;have B3 := hid b3;clear b3 kAB;go_wp2_with fail;refine (kFF _ B3.out).mono ?_;rintro e w4 ⟨rfl,b4⟩;have B4 : Hid (Below w.heap.size w w4) := by
    have b24 := B3.out.trans (b4.mono B3.out.size);exact H2.out.2.2.2.2.2.2.trans (b24.mono H2.out.2.2.2.2.2.2.size)
   clear b4 kFF;go_wp2_with fail;refine (HAW.out _ B4.out).mono ?_;rintro e w5 ⟨rfl,b5⟩;have B5 := hid (B4.out.trans (b5.mono B4.out.size));clear b5;go_wp2_with fail;go_ret;exact ⟨rfl,B5.out⟩
 have g1 : decide ((s.size : Int) > 5000) = true := zm (by omega)
 clear H hW0 b0 hnew
 go_enter Tryz.func3,Tryz.ntmps3
 go_upto_region 1 with fail
 rw [HW0.out]
 go_wp2_with fail
 refine (HAW.out _ B0.out).mono ?_
 rintro e w1 ⟨rfl,b1⟩
 have B1 := hid (B0.out.trans (b1.mono B0.out.size))
 clear b1
 go_wp2_with fail
 go_ret
 exact ⟨rfl,B1.out⟩
theorem feeds_lifted (os : Os) (started : os.Started) (H : Type) (enc : TypeId × Value -> H) :
 ReturnsInHanded {} Tryz.checked os 3 .any (fun w args => (Rows.tokenizerFeedsSpec.pre enc Tryz.prog Tryz.f3 [] false w args /\ laidMetH Tryz.prog laidL w) /\ sizedMet enc Tryz.prog Tryz.f3 (OpenSpec.ofChange Rows.tokenizerFeedsSpec) false w args) (Rows.tokenizerFeedsSpec.post enc Tryz.prog Tryz.f3 false true false false) := by
 refine returnsInHanded_of_change_and (C := Tryz.checked) (X := fun w _ => laidMetH Tryz.prog laidL w) (fun _ _ _ hh h => h.of_heap hh) own started (by kernel_rfl) Tryz.func3
  (ChangeSpec.witness_shaped (enc := enc) (C := Tryz.checked) (os := os) (X := fun w _ => laidMetH Tryz.prog laidL w) false (World.doorLaid Tryz.prog 14 os) #[js,ji 0,.agg #[.bool false,.bool false]] 8 rfl (World.shaped_of_RefB (by kernel_rfl) (by kernel_rfl)) (by kernel_rfl) (by kernel_rfl) (by kernel_rfl) (door_met os _)) ?_
 intro W base args ds gs before hval0 hW _ _ hL _
 have hval : ∀ (j : Nat) t v,Tryz.f3.params[j]? = some t -> args[j]? = some v -> Value.okWide Tryz.prog W .any base t v := hval0
 have hH : G6.Hi W := hi_of_laid hL
 have hW' := hW
 obtain ⟨p,q,hA0,hV,rfl,hfz,hnd⟩ := hW
 have hA : DataW.TrodAll enc Tryz.prog W 0 (fun _ => true) true Tryz.f3.params.toList args.toList ds p := hA0
 rw [Tryz.params3] at hA hval
 obtain ⟨v0,vs0,d0,ds0,p0,q0,hargs,rfl,rfl,h0,r0⟩ := trodAll_cons hA
 obtain ⟨v1,vs1,d1,ds1,p1,q1,rfl,rfl,rfl,h1,r1⟩ := trodAll_cons r0
 obtain ⟨v2,vs2,d2,ds2,p2,q2,rfl,rfl,rfl,h2,r2⟩ := trodAll_cons r1
 obtain ⟨rfl,rfl,rfl⟩ := trodAll_nil r2
 obtain rfl : args = #[v0,v1,v2] := by cases args;simp_all
 obtain ⟨rfl,rfl⟩ := trodVars_none hV
 have k0 := h0
 have lt0 : ∀ x ∈ p0,x.block < W.heap.size := by obtain ⟨m,hm⟩ := k0;exact DataW.trod_lt m _ _ _ hm
 have k1 := h1
 have lt1 : ∀ x ∈ p1,x.block < W.heap.size := by obtain ⟨m,hm⟩ := k1;exact DataW.trod_lt m _ _ _ hm
 have k2 := h2
 have lt2 : ∀ x ∈ p2,x.block < W.heap.size := by obtain ⟨m,hm⟩ := k2;exact DataW.trod_lt m _ _ _ hm
 obtain ⟨x0,hv0,_,_,wx0⟩ := Go.ChangeMaps.open_string Tryz.underlying9 (hval 0 9 v0 rfl rfl) h0
 subst hv0
 obtain ⟨x1,hv1,_,_,wx1⟩ := open_int Tryz.underlying3 (hval 1 3 v1 rfl rfl) h1
 subst hv1
 obtain ⟨x2a,x2b,hv2⟩ := open_bool2 (hval 2 22 v2 rfl rfl) h2
 subst hv2
 clear hA0 hval0
 refine (feeds_walk hH x0 x1 x2a x2b).mono fun e W' ⟨he,bel⟩ => ?_
 subst he
 exact ⟨_,rfl,_,_,_,[],_,[],hW',trodAll_mk1 (shut_bool Tryz.underlying4 _),(trodAll_cons_mk (Below.trod laidOut (by kernel_rfl) (of_decide_eq_true (by kernel_rfl)) k0 bel lt0) (trodAll_cons_mk (Below.trod laidOut (by kernel_rfl) (of_decide_eq_true (by kernel_rfl)) k1 bel lt1) (trodAll_cons_mk (Below.trod laidOut (by kernel_rfl) (of_decide_eq_true (by kernel_rfl)) k2 bel lt2) trodAll_mk0))),rfl,bel.frame _,fun h => by cases h⟩
theorem feeds_holds : Rows.TokenizerFeedsSaid :=
 OpenClaim.holds_of_wide 3 Tryz.f3 rfl rfl rfl rfl rfl rfl rfl ⟨rfl,rfl,rfl,rfl,rfl⟩ rfl rfl rfl rfl rfl (by kernel_rfl) Tryz.func3 (by kernel_rfl)
  (of_decide_eq_true (by kernel_rfl)) (by unfold Func.isWrapper;first | (rw [jp (by decide +kernel)];kernel_rfl) | (rw [jq (by decide +kernel)];exact ⟨rfl,rfl⟩))
  (fun os started H enc _ => feeds_lifted os started H enc)
theorem feeds_card : Rows.TokenizerFeedsCardSaid :=
 Claim7.holds_tied_plain_at .later [] [.data] true Rows.tokenizerFeedsCard.stood.harness true
  feeds_holds (fun _ h => by cases h) (by kernel_rfl) (fun _ h => by cases h) tokenizerFeeds_row_tie rfl ⟨rfl,rfl⟩ (by kernel_rfl) rfl
  (fun f fn hf hfn => by
   obtain rfl : f = 3 := Option.some.inj ((show Tryz.prog.funcNamed Rows.tokenizerFeedsRow.func = some 3 by kernel_rfl).symm.trans hf) |>.symm;obtain rfl : fn = Tryz.f3 := (Option.some.inj (Tryz.func3.symm.trans hfn)).symm
   exact ⟨by kernel_rfl,fun j t ht => by
    rw [Tryz.params3] at ht;have hm : t ∈ [9,3,22] := by simpa using Array.mem_of_getElem? ht
    have hall : ([9,3,22].all fun u => !Tryz.prog.wantsStandIn u) = true := by kernel_rfl
    exact (show Tryz.prog.wantsStandIn t = false by simpa using List.all_eq_true.1 hall t hm)⟩)
  (by kernel_rfl)
#print axioms feeds_card
end Go.Proofs.YtjjfalbngcbfaaaGreatDoor
