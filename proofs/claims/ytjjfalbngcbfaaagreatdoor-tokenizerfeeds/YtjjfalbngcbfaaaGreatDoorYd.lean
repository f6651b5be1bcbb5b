import Derived.Test.YtjjfalbngcbfaaaGreatDoorZ0
import Derived.Test.YtjjfalbngcbfaaaGreatDoorYc
import Derived.Test.YtjjfalbngcbfaaaGreatDoorRows
import Derived.Test.YtjjfalbngcbfaaaGreatDoorCards
import Derived.Test.YtjjfalbngcbfaaaGreatDoorTie
import Derived.Lib.LaidTab
import Derived.LaidMore
import Derived.Stop.Joined
import Derived.SevenTiedAt
set_option maxHeartbeats 4000000
set_option maxRecDepth 20000
namespace Go.Proofs.YtjjfalbngcbfaaaGreatDoor
open Go.RowKit
variable {α β : Type} {B n : Nat} {w : World} {F : List (Int × Int)}
def key (t : Pt) : Int × jl × List (jl × jl) := (t.k,t.nm.data.toList,t.ats.map fun a => (a.n.data.toList,a.v.data.toList))
theorem exA : (allP ⟨#[60,97,32,66,61,49,32,98,61,50,47,62]⟩ 0 false false).1.map key = [(2,[97],[([98],[49])]),(6,[],[])] /\ (allP ⟨#[60,97,32,66,61,49,32,98,61,50,47,62]⟩ 0 false false).2.map (·.1) = [9] := by decide +kernel
theorem exB : (allP ⟨#[60,33,45,45,62]⟩ 0 false false).1.map key = [(4,[],[]),(6,[],[])] /\ (allP ⟨#[60,33,45,45,62]⟩ 0 false false).2.map (·.1) = [15] := by decide +kernel
theorem exC : (allP ⟨#[60,47,62]⟩ 0 false false).1.map key = [(6,[],[])] /\ (allP ⟨#[60,47,62]⟩ 0 false false).2.map (·.1) = [6] := by decide +kernel
theorem map_two {f : α -> β} {l : List α} {a b : β} (h : l.map f = [a,b]) : ∃ x y,l = [x,y] /\ f x = a /\ f y = b := by
 cases l with
 | nil => simp at h
 | cons x l =>
  cases l with
  | nil => simp at h
  | cons y l =>
   simp at h;exact ⟨x,y,by rw [h.2.2],h.1,h.2.1⟩
theorem map_one {f : α -> β} {l : List α} {a : β} (h : l.map f = [a]) : ∃ x,l = [x] /\ f x = a := by
 cases l with
 | nil => simp at h
 | cons x l =>
  simp at h;exact ⟨x,by rw [h.2],h.1⟩
theorem Toks.at {oo : Option Addr} {oc : Nat} {T : List TL} (h : Toks B (.slice oo n oc) T w) (hn : T.length = n) {i : Nat} {t : TL} (ht : T[i]? = some t) : ∃ g,oo = some (jd g 0) /\ g < w.heap.size /\ G9.TkCells w g (i * 8) t.1 /\ TkS NoZ w t.1 t.2 := by
 subst hn
 rcases h.own.2 with ⟨e,h0⟩ | ⟨g,cap,cur,z,e,hg,_,_,_,_,h4⟩
 · have : T = [] := yb h0
   rw [this] at ht;simp at ht
 simp only [Value.slice.injEq] at e
 obtain ⟨rfl,_,_⟩ := e
 have hr := own_row hg h4 h.toks
 obtain ⟨b,off,e2,hb,hc,_⟩ := hr.1.at ht
 cases e2
 rw [Nat.zero_add] at hc
 exact ⟨g,rfl,hb,hc,h.toks t (List.mem_of_getElem? ht)⟩
theorem faults_at {fo : Option Addr} {fc : Nat} (h : G4.FaultsC B (.slice fo n fc) F w) {i : Nat} {f : Int × Int} (hf : F[i]? = some f) : ∃ g,fo = some (jd g 0) /\ g < w.heap.size /\ w.cell? (jd g (i * 2)) = some (ji f.1) /\ w.cell? (jd g (i * 2 + 1)) = some (ji f.2) := by
 have hi := (zg hf)
 rcases h.2 with ⟨e,h0⟩ | ⟨g,cap,cur,e,_,hg,_,_,_,h4⟩
 · omega
 simp only [Value.slice.injEq] at e
 obtain ⟨rfl,_,_⟩ := e
 obtain ⟨q1,q2⟩ := G4.gl_at F i f hf
 rw [<- h4,List.getElem?_take_of_lt (by omega),Array.getElem?_toList] at q1 q2
 exact ⟨g,rfl,(zf hg),by simp [World.cell?,hg,q1],by simp [World.cell?,hg,q2]⟩
theorem FaultsC.below {v : Value} {w' : World} (h : G4.FaultsC B v F w) (b : Below w.heap.size w w') : G4.FaultsC B v F w' :=
 G4.own_keep h fun g _ _ _ hg => (b.block g (zf hg)).trans hg
structure ExA (oo : Option Addr) (fo : Option Addr) (w : World) : Prop where
 row : ∃ g ag ac fg,oo = some (jd g 0) /\ fo = some (jd fg 0) /\ g < w.heap.size /\ ag < w.heap.size /\ fg < w.heap.size /\ w.cell? (jd g 2) = some (.string ⟨#[97]⟩) /\ w.cell? (jd g 4) = some (.slice (some (jd ag 0)) 1 ac) /\ w.cell? (jd ag 0) = some (.string ⟨#[98]⟩) /\ w.cell? (jd ag 1) = some (.string ⟨#[49]⟩) /\ w.cell? (jd fg 0) = some (ji 9)
theorem all_A (H : G6.Hi w) : Calls Tryz.prog 10 #[.string ⟨#[60,97,32,66,61,49,32,98,61,50,47,62]⟩,ji 0,.bool false,.bool false] w fun e w' => ∃ oo oc fo fc,e = jr (.tuple #[.slice oo 2 oc,.slice fo 1 fc]) /\ ExA oo fo w' /\ Below w.heap.size w w' := by
 refine (all_any H _ 0 false false (by decide)).mono ?_
 rintro e w' ⟨oo,T,oc,fo,fc,rfl,hT,_,h1,h2,b⟩
 obtain ⟨x1,x2⟩ := exA
 rw [<- hT,List.map_map] at x1
 clear hT
 generalize (allP ⟨#[60,97,32,66,61,49,32,98,61,50,47,62]⟩ 0 false false).2 = F at x2 h2
 obtain ⟨t0,t1,rfl,x1,_⟩ := map_two x1
 obtain ⟨f0,rfl,y2⟩ := map_one x2
 obtain ⟨g,rfl,hg,hc,hk⟩ := h1.at rfl (i := 0) rfl
 obtain ⟨fg,rfl,hfg,c0,_⟩ := faults_at h2 (i := 0) rfl
 rw [y2] at c0
 refine ⟨_,oc,_,fc,rfl,?_,b⟩
 obtain ⟨⟨tk,tr,tnm,ttx,tao,tn,tcap,ts,tf,tt⟩,A⟩ := t0
 simp only [key,ptOf,Function.comp,Prod.mk.injEq] at x1
 obtain ⟨_,n1,a1⟩ := x1
 obtain ⟨y,rfl,a2⟩ := map_one a1
 obtain ⟨yn,yv⟩ := y
 have a1 := Prod.mk.inj a2
 have e1 : yn = ⟨#[98]⟩ := G9.bytes_eq a1.1
 have e2 : yv = ⟨#[49]⟩ := G9.bytes_eq a1.2
 have e3 : tnm = ⟨#[97]⟩ := G9.bytes_eq n1
 subst e1 e2 e3
 obtain ⟨⟨l1,l2,_⟩,l3⟩ := hk
 simp only [zi,zj] at l1
 obtain ⟨ag,off,r1,r2,r3,r4⟩ := l2 0 _ rfl
 obtain ⟨ag',_,_,r5,_⟩ := l3 (by simp)
 simp only at r1 r5
 rw [r5] at r1
 cases r1
 have c4 := hc.c4
 simp only at c4
 rw [r5,<- l1] at c4
 exact ⟨g,ag,tcap,fg,rfl,rfl,hg,r2,hfg,hc.c2,c4,r3,r4,c0⟩
theorem all_B (H : G6.Hi w) : Calls Tryz.prog 10 #[.string ⟨#[60,33,45,45,62]⟩,ji 0,.bool false,.bool false] w fun e w' => ∃ g oc fg fc,e = jr (.tuple #[.slice (some (jd g 0)) 2 oc,.slice (some (jd fg 0)) 1 fc]) /\ g < w'.heap.size /\ fg < w'.heap.size /\ w'.cell? (jd g 0) = some (ji 4) /\ w'.cell? (jd fg 0) = some (ji 15) /\ Below w.heap.size w w' := by
 refine (all_any H _ 0 false false (by decide)).mono ?_
 rintro e w' ⟨oo,T,oc,fo,fc,rfl,hT,_,h1,h2,b⟩
 obtain ⟨x1,x2⟩ := exB
 rw [<- hT,List.map_map] at x1
 clear hT
 generalize (allP ⟨#[60,33,45,45,62]⟩ 0 false false).2 = F at x2 h2
 obtain ⟨t0,t1,rfl,x1,_⟩ := map_two x1
 obtain ⟨f0,rfl,y2⟩ := map_one x2
 obtain ⟨g,rfl,hg,hc,hk⟩ := h1.at rfl (i := 0) rfl
 obtain ⟨fg,rfl,hfg,c0,_⟩ := faults_at h2 (i := 0) rfl
 rw [y2] at c0
 have c1 := hc.c0
 simp only [key,ptOf,Function.comp,Prod.mk.injEq] at x1
 rw [x1.1] at c1
 exact ⟨g,oc,fg,fc,rfl,hg,hfg,c1,c0,b⟩
theorem all_C (H : G6.Hi w) : Calls Tryz.prog 10 #[.string ⟨#[60,47,62]⟩,ji 0,.bool false,.bool false] w fun e w' => ∃ oo oc fo fc,e = jr (.tuple #[.slice oo 1 oc,.slice fo 1 fc]) /\ Below w.heap.size w w' := by
 refine (all_any H _ 0 false false (by decide)).mono ?_
 rintro e w' ⟨oo,T,oc,fo,fc,rfl,hT,_,h1,h2,b⟩
 obtain ⟨x1,x2⟩ := exC
 rw [<- hT,List.map_map] at x1
 clear hT
 generalize (allP ⟨#[60,47,62]⟩ 0 false false).2 = F at x2 h2
 obtain ⟨t0,rfl,_⟩ := map_one x1
 obtain ⟨f0,rfl,_⟩ := map_one x2
 exact ⟨oo,oc,fo,fc,rfl,b⟩
theorem awake_any (H : G6.Hi w) : Calls Tryz.prog 9 #[] w fun e w' => e = jr (.bool true) /\ Below w.heap.size w w' := by
 have HH := hid H
 have hw0 := H.lt
 clear H
 go_enter Tryz.func9,Tryz.ntmps9
 go_wp2_with fail
 refine (all_A HH.out).mono ?_
 rintro e w1 ⟨oo,oc,fo,fc,rfl,h1,b1⟩
 have H1 := yc h1 b1
 clear h1 b1
 go_wp2_with fail
 refine (all_B (HH.out.below H1.out.2 hw0)).mono ?_
 rintro e w2 ⟨bg,bc,bf,bfc,rfl,hbg,hbf,c0,d0,b2⟩
 have b02 : Below w.heap.size w w2 := H1.out.2.trans (b2.mono H1.out.2.size)
 have H2 := yg b2 b02 hbg hbf c0 d0
 clear hbg hbf c0 d0 b2 b02
 go_wp2_with fail
 refine (all_C (HH.out.below H2.out.2.1 hw0)).mono ?_
 rintro e w3 ⟨co,cc,cf,cfc,rfl,b3⟩
 obtain ⟨b12,b02,hbg,hbf,c0,d0⟩ := H2.out
 have b13 := b12.trans (b3.mono b12.size)
 have HB : Hid (Below w.heap.size w w3) := b02.trans (b3.mono b02.size)
 obtain ⟨g,ag,ac,fg,rfl,rfl,hg,hag,hfg,a2,a4,ra0,ra1,f0⟩ := H1.out.1.row
 have a2' := (b13.cell (p := (jd g 2)) hg).trans a2
 have a4' := (b13.cell (p := (jd g 4)) hg).trans a4
 have ra0' := (b13.cell (p := (jd ag 0)) hag).trans ra0
 have ra1' := (b13.cell (p := (jd ag 1)) hag).trans ra1
 have f0' := (b13.cell (p := (jd fg 0)) hfg).trans f0
 have c0' := (b3.cell (p := (jd bg 0)) hbg).trans c0
 have d0' := (b3.cell (p := (jd bf 0)) hbf).trans d0
 have e49 : ∀ w,(binOp .eql 49 (.agg #[.string ⟨#[98]⟩,.string ⟨#[49]⟩]) (.agg #[.string ⟨#[98]⟩,.string ⟨#[49]⟩])).run Tryz.prog w = .ok (.bool true) w := fun w => by
  rw [G9.eq49];rfl
 clear b12 b02 b13 b3 hbg hbf c0 d0 hg hag hfg a2 a4 ra0 ra1 f0 H1 H2
 go_wp2_with fail
 go_ret
 exact ⟨rfl,HB.out⟩
theorem own : ownKnob Tryz.prog.godebug = none := by kernel_rfl
theorem laidOut : laidOutB Tryz.prog = true := by kernel_rfl
abbrev laidL : List (String × DataW Unit) := Rows.tokenizerNoneRow.laid
def hname : String := Rows.tokenizerNoneRow.named.headD ""
theorem gHigh : Tryz.prog.globalNamed hname = some 0 := by kernel_rfl
theorem tHigh : (Tryz.prog.globals[0]?).map (·.type) = some 163 := by kernel_rfl
theorem c21 : Tryz.prog.cellsOf 21 = 1 := by kernel_rfl
theorem c163 : Tryz.prog.cellsOf 163 = 32 := by kernel_rfl
theorem hi_of_laid {W : World} (h : laidMetH Tryz.prog laidL W) : G6.Hi W := by
 rw [MakeChecks.laidMetH_plain _ _ _ (by kernel_rfl)] at h
 have hT : Lib.TabIs Tryz.prog W hname .i32 G6.tabL := Lib.tabIs_of_head gHigh tHigh Tryz.underlying163 Tryz.underlying21 c21 c163 (rest := []) h
 exact fun i hi => hT.cell gHigh i hi
theorem door_met (os : Os) (args : Array Value) : laidMetH Tryz.prog laidL ((World.doorLaid Tryz.prog 14 os).forCall (fun _ _ => 0) ⟨#[],args,[]⟩).memory :=
 laidMetH_of_parts3 (fuel := 8) (laidMet_of_run' 8 (by kernel_rfl) (by kernel_rfl)) (by kernel_rfl) (by kernel_rfl)
end Go.Proofs.YtjjfalbngcbfaaaGreatDoor
