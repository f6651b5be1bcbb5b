import Derived.Test.YtjjfalbngcbfaaaGreatDoorZ0
import Derived.Test.YtjjfalbngcbfaaaGreatDoorZz
import Derived.Test.YtjjfalbngcbfaaaGreatDoorZt
import Derived.Test.YtjjfalbngcbfaaaGreatDoorZt1
import Derived.Test.YtjjfalbngcbfaaaGreatDoorZt2
import Derived.Test.YtjjfalbngcbfaaaGreatDoorZu
import Derived.Deep.RegionHeld3
set_option maxHeartbeats 4000000
set_option maxRecDepth 20000
namespace Go.Proofs.YtjjfalbngcbfaaaGreatDoor
open Go.RowKit Go.Maps
variable {Z S : Nat -> Prop} {x : Nat} {m : Mc} {w : World}
theorem rawName_any (h : Mach Z S x m w) (c : Ch) (hw : 2 <= m.wait.length) (hwl : m.wait.length <= 20000) (hls : m.last.size <= 1000000) (hn : m.tot <= 480000000) : Dz Z S x w 123 c (m.rawName c) := by
 obtain ⟨r,p,q⟩ := c
 cases hlt : ltr r with
 | true => exact rawName_1 h r p q hlt hn
 | false =>
  by_cases hm : Mc.lowL (encs (m.wait.drop 2)) = m.last.data.toList
  · cases hbl : blk r with
    | true =>
     have e : m.rawName ⟨r,p,q⟩ = ({ m.beg 3 79 with nm := m.last.data.toList,st := 81 } : Mc).tagName ⟨r,p,q⟩ := by unfold Mc.rawName;rw [jq (by rw [hlt];simp),jp ⟨.inl hbl,hm⟩]
     rw [e];exact rawName_tb h r p q hbl hlt (zm hm) hw hwl hls hn
    | false =>
     by_cases h47 : r = 47
     · subst h47
       have e : m.rawName ⟨47,p,q⟩ = ({ m.beg 3 79 with nm := m.last.data.toList,st := 81 } : Mc).tagName ⟨47,p,q⟩ := by unfold Mc.rawName;rw [jq (by rw [hlt];simp),jp ⟨.inr (.inl rfl),hm⟩]
       rw [e];exact rawName_t47 h p q (zm hm) hw hwl hls hn
     by_cases h62 : r = 62
     · subst h62
       have e : m.rawName ⟨62,p,q⟩ = ({ m.beg 3 79 with nm := m.last.data.toList,st := 81 } : Mc).tagName ⟨62,p,q⟩ := by unfold Mc.rawName;rw [jq (by rw [hlt];simp),jp ⟨.inr (.inr rfl),hm⟩]
       rw [e];exact rawName_t62 h p q (zm hm) hw hwl hls hn
     have e : m.rawName ⟨r,p,q⟩ = m.dataAgain ⟨r,p,q⟩ := by unfold Mc.rawName;rw [jq (by rw [hlt];simp),jq (fun h => by rcases h.1 with h | h | h;(rw [hbl] at h;cases h);exact h47 h;exact h62 h)]
     rw [e];exact rawName_n h r p q hbl hlt (by simpa using h47) (by simpa using h62) hn
  have e : m.rawName ⟨r,p,q⟩ = m.dataAgain ⟨r,p,q⟩ := by unfold Mc.rawName;rw [jq (by rw [hlt];simp),jq (fun h => hm h.2)]
  rw [e];cases hbl : blk r with
  | true => exact rawName_fb h r p q hbl hlt (zn hm) hw hwl hn
  | false =>
   by_cases h47 : r = 47
   · subst h47
     exact rawName_f47 h p q (zn hm) hw hwl hn
   by_cases h62 : r = 62
   · subst h62
     exact rawName_f62 h p q (zn hm) hw hwl hn
   exact rawName_n h r p q hbl hlt (by simpa using h47) (by simpa using h62) hn
theorem en123 : Enters 123 := enters_of Tryz.func123 (by kernel_rfl) rfl
theorem rawSlash_1 (h : Mach Z S x m w) (r p q : Int) (hlt : ltr r = true) (hw : 2 <= m.wait.length) (hwl : m.wait.length <= 20000) (hls : m.last.size <= 1000000) (hn : m.tot <= 470000000) : Dz Z S x w 84 ⟨r,p,q⟩ (m.rawSlash ⟨r,p,q⟩) := by
 have HE := hid (show (m.rawSlash ⟨r,p,q⟩) = (({ m with st := 123 } : Mc).rawName ⟨r,p,q⟩) by simp [Mc.rawSlash,hlt])
 apply won h r p q;clear h;intro W0 K0;intros
 go_enter Tryz.func84,Tryz.ntmps84
 go_wp2_with (go_at_call 77;refine smx (letter_as r true _ hlt) ?_)
 refine wky K0 (fun U h => again_any 123 en123 h ⟨r,p,q⟩ (fun U W h => rawName_any h ⟨r,p,q⟩ hw hwl hls (by show m.tot <= _;omega))) ?_;intro W1 K1;intros
 go_wp2_with fail
 exact ⟨rfl,_,zq rfl,rfl,wke HE K1⟩
theorem rawSlash_2 (h : Mach Z S x m w) (r p q : Int) (hlt : ltr r = false) (hn : m.tot <= 470000000) : Dz Z S x w 84 ⟨r,p,q⟩ (m.rawSlash ⟨r,p,q⟩) := by
 have HE := hid (show (m.rawSlash ⟨r,p,q⟩) = (m.dataAgain ⟨r,p,q⟩) by simp [Mc.rawSlash,hlt])
 apply won h r p q;clear h;intro W0 K0;intros
 go_enter Tryz.func84,Tryz.ntmps84
 go_wp2_with (go_at_call 77;refine smx (letter_as r false _ hlt) ?_)
 refine wky K0 (fun U h => dataAgain_any h ⟨r,p,q⟩ (by show m.tot <= _;omega)) ?_;intro W1 K1;intros
 go_wp2_with fail
 exact ⟨rfl,_,zq rfl,rfl,wke HE K1⟩
theorem rawSlash_any (h : Mach Z S x m w) (c : Ch) (hw : 2 <= m.wait.length) (hwl : m.wait.length <= 20000) (hls : m.last.size <= 1000000) (hn : m.tot <= 470000000) : Dz Z S x w 84 c (m.rawSlash c) := by
 obtain ⟨r,p,q⟩ := c
 cases hlt : ltr r with
 | true => exact rawSlash_1 h r p q hlt hw hwl hls hn
 | false => exact rawSlash_2 h r p q hlt hn
end Go.Proofs.YtjjfalbngcbfaaaGreatDoor
namespace Go.Proofs.YtjjfalbngcbfaaaGreatDoor
open Go.RowKit
variable {Z S : Nat -> Prop} {x : Nat} {m : Mc} {w : World}
theorem ne_one {l : List Ch} (h : l.length = 1) : l ≠ [] := fun e => by rw [e] at h;cases h
theorem take_any (h : Mach Z S x m w) (hi : Inv m) (c : Ch) (hwl : m.wait.length <= 20000) (hls : m.last.size <= 1000000) (hn : m.tot <= 400000000) :
 Calls Tryz.prog m.st #[mp x,cv c] w (Did Z S x (m.take c) w) := by
 unfold Mc.take
 rcases hi.1 with k | k | k | k | k | k | k | k | ⟨k,hw⟩
 · rw [k.1];exact tagOpen_any h c (ne_one k.2) (by omega)
 · rw [k.1];exact endOpen_any h c k.2 (by omega)
 · rw [k.1];exact markup_any h c k.2.1 hwl k.2.2 (by omega)
 · rw [k.1];exact rawSlash_any h c k.2 hwl hls (by omega)
 · rw [k.1];exact rawName_any h c k.2 hwl hls (by omega)
 · rw [k.1];exact cdataTwo_any h c k.2 (by omega)
 · rw [k.1];exact rawOpen_any h c (by omega)
 · rw [k.1];exact cdataOne_any h c (by omega)
 rcases k with k | k | k | k | k | k | k | k | k | k | k | k | k | k | k | k | k | k | k | k | k | k | k
 · rw [k];exact data_any h c (by omega)
 · rw [k];exact tagName_any h c (by omega)
 · rw [k];exact beforeName_any h c (by omega)
 · rw [k];exact name_any h c (by omega)
 · rw [k];exact afterName_any h c (by omega)
 · rw [k];exact beforeValue_any h c (by omega)
 · rw [k];exact double_1 h c.r c.a c.z (by omega)
 · rw [k];exact single_1 h c.r c.a c.z (by omega)
 · rw [k];exact bare_any h c (by omega)
 · rw [k];exact afterValue_any h c (by omega)
 · rw [k];exact slash_any h c (by omega)
 · rw [k];exact inBogus_any h c (by omega)
 · rw [k];exact comStart_any h c (by omega)
 · rw [k];exact comStartDash_any h c (by omega)
 · rw [k];exact comment_any h c (by omega)
 · rw [k];exact comDash_any h c (by omega)
 · rw [k];exact comEnd_any h c (by omega)
 · rw [k];exact comBang_any h c (by omega)
 · rw [k];exact beforeDoc_any h c (by omega)
 · rw [k];exact docName_any h c (by omega)
 · rw [k];exact afterDoc_any h c (by omega)
 · rw [k];exact bogusDoc_any h c (by omega)
 rw [k];exact cdata_any h c (by omega)
theorem endS_any (h : Mach Z S x m w) (hi : Inv m) (at' : Int) (hwl : m.wait.length <= 20000) (hn : m.tot <= 400000000) :
 Calls Tryz.prog m.en #[mp x,ji at'] w (Did Z S x (m.endS at') w) := by
 unfold Mc.endS
 rcases hi.2 with ⟨k,ks⟩ | k | k | k | k | k | k | k
 · have hw : m.wait ≠ [] /\ ∀ c ∈ m.wait.tail,c.r ≠ 62 := by
    rcases hi.1 with h | h | h | h | h | h | h | h | ⟨h,_⟩
    · rw [ks] at h;exact absurd h.1 (by decide)
    · rw [ks] at h;exact absurd h.1 (by decide)
    · exact h.2
    · rw [ks] at h;exact absurd h.1 (by decide)
    · rw [ks] at h;exact absurd h.1 (by decide)
    · rw [ks] at h;exact absurd h.1 (by decide)
    · rw [ks] at h;exact absurd h.1 (by decide)
    · rw [ks] at h;exact absurd h.1 (by decide)
    rw [ks] at h;simp at h
   rw [k];exact endMarkup_any h at' hw.1 hwl hw.2 (by omega)
 · rw [k];exact endWaiting_any h at' (by omega)
 · rw [k];exact endTagOpen_any h at' (by omega)
 · rw [k];exact endEndOpen_any h at' (by omega)
 · rw [k];exact endTag_any h at' (by omega)
 · rw [k];exact endBogus_any h at' (by omega)
 · rw [k];exact endComment_any h at' (by omega)
 rw [k];exact endDoctype_any h at' (by omega)
theorem resolve_any (h : Mach Z S x m w) {n : Nat} (hg : GoodW n m) (hr : RefW m.ref) (hn : n <= 20000) : Calls Tryz.prog 35 #[mp x] w (Did Z S x m.resolve w) := by
 obtain ⟨a0,t0,hl⟩ : ∃ a t,m.ref = a :: t := by
  cases e : m.ref with
  | nil => exact absurd e hr.ne
  | cons a t => exact ⟨a,t,rfl⟩
 have hlen := oneR_len hr
 have hf := hg.few
 obtain ⟨b1,b2,b3⟩ := hg.wl hn
 have H : ∀ (U : Nat -> Prop) (W : World) (i : Nat) (c : Ch),m.left[i]? = some c -> Mach Z U x ((m.left.take i).foldl Mc.take m.mid) W -> Calls Tryz.prog 38 #[mp x,cv c] W (Did Z U x ((m.left.take (i + 1)).foldl Mc.take m.mid) W) := fun U W i c hc hU => by
  obtain ⟨hil,rfl⟩ := List.getElem?_eq_some_iff.1 hc;obtain ⟨r1,r2,r3,_⟩ := run_ok m.left (left_38 hr) m.mid (mid_inv hg.inv) (mid_ctl m).2.2.2.1 i (by omega);have g2 := mid_good hg hr.ne _ i (by omega) r1 r2;obtain ⟨c1,c2,c3⟩ := g2.wl hn;rw [<- List.take_append_getElem hil,List.foldl_append];exact step_low hU (enters_take r1) (r3 hil) _ fun V W' hV => take_any hV r1 _ c1 c2 c3
 by_cases hk : m.oneR.2.1 = 0
 · exact resolve_1 h a0 t0 hl hlen (by omega) m.kind rfl b3 hk H
 exact resolve_2 h a0 t0 hl hlen (by omega) m.kind rfl b3 (m.oneR.2.1 - 1) (by omega) H
theorem step_any (h : Mach Z S x m w) {n : Nat} (hg : Good n m) (c : Ch) (hn : n < 20000) : Dz Z S x w 38 c (m.step c) := by
 obtain ⟨b1,b2,b3⟩ := hg.w.wl (by omega)
 by_cases hr : m.ref = []
 · have e : m.step c = m.take c := by unfold Mc.step;rw [jq (by simpa using hr)]
   rw [e];exact step_low h (enters_take hg.w.inv) hr c fun V W' hV => take_any hV hg.w.inv c b1 b2 b3
 have e : m.step c = m.refer c := by unfold Mc.step;rw [jp hr]
 rw [e]
 have hro := hg.ref.resolve_left hr
 exact step_high h hr c fun U W hU => refer_any hU hr c b3 fun V W' hV _ => resolve_any hV (app_good hg c) (.inr ⟨_,_,rfl,hro⟩) (by omega)
def MachN (Z : Nat -> Prop) (S : Nat -> Prop) (x : Nat) (m : Mc) (w : World) : Prop := ∃ v,MachV Z S x m v [] w /\ v.o = jn
theorem MachN.mach (h : MachN Z S x m w) : Mach Z S x m w := by
 obtain ⟨v,h,_⟩ := h
 exact ⟨v,_,h⟩
def Gave (Z : Nat -> Prop) (S : Nat -> Prop) (x : Nat) (m : Mc) (L : List Pt) (w : World) (e : Ending) (w' : World) : Prop :=
 ∃ U T ao cap,e = jr (.slice ao T.length cap) /\ T.map ptOf = L /\ T.length <= cap /\ (∀ k,S k -> U k) /\ MachN Z U x m w' /\ Keep S w w' /\ (Stays U w' fun w => TkRowS Z w ao T) /\ ∀ b o,ao = some (jd b o) -> ¬ S b
theorem unout {v : Vs} {T : List TL} (h : MachV Z S x m v T w) : ∃ ao cap,w.cell? (jd x 19) = some (.slice ao T.length cap) /\ T.length <= cap /\ ∃ U,(∀ k,S k -> U k) /\ MachV Z U x { m with out := [] } { v with o := jn } [] (w.setCell (jd x 19) jn) /\ Keep S w (w.setCell (jd x 19) jn) /\ (Stays U (w.setCell (jd x 19) jn) fun w => TkRowS Z w ao T) /\ ∀ b o,ao = some (jd b o) -> ¬ S b := by
 have ho := h.bag.own 7 _ rfl
 have c := h.cells 19 v.o rfl
 obtain ⟨q1,q2⟩ := h.turn (m' := { m with out := [] }) (v' := { v with o := jn }) (T' := []) [(19,jn)] rfl (by simp [Mc.cells]) (h.bag.drop h.low 7 _ rfl 45 8) h.names rfl rfl (fun t ht => by cases ht)
 have hW : setAll w x [(19,jn)] = w.setCell (jd x 19) jn := rfl
 rw [hW] at q1 q2
 rcases ho.2 with ⟨e,h0⟩ | ⟨g,cap,cur,z,e,hg,_,h1,h2,h3,h4⟩
 · simp only at e h0
   have : T = [] := yb h0;subst this;rw [e] at c;exact ⟨none,0,c,zb _,S,fun _ h => h,q1,q2,fun w' _ => TkRowS.nil _ _,fun b o e => (by cases e)⟩
 simp only at e h1 h4 hg
 rw [e] at c
 have hgl := (zf hg)
 have hgx : g ≠ x := fun e => by
  subst e;rw [h.blk] at hg;simp at hg
 have hgW : (w.setCell (jd x 19) jn).heap[g]? = w.heap[g]? := Below.heap_setCell _ _ _ _ hgx
 refine ⟨_,cap,c,h1,fun k => S k \/ k = g,fun k hk => .inl hk,q1.more (fun k => k = g) ?_ ?_ ?_ ?_,q2,fun w' k => ?_,fun b o e' => ?_⟩
 · rintro k rfl
   exact zo hgl q2.size
 · exact fun e => hgx e.symm
 · intro i r hr g' hg' e'
   subst e';by_cases hi : i = 7
   · subst hi
     simp [Mc.rows] at hr;subst hr;simp [Value.ownBlock] at hg'
   have hr' : (m.rows v T)[i]? = some r := by
    have : ({ m with out := [] } : Mc).rows { v with o := jn } [] = (m.rows v T).set 7 (rwT jn []) := rfl;rw [this,List.getElem?_set_ne (fun e => hi e.symm)] at hr;exact hr
   exact h.bag.apart i 7 r _ hi hr' rfl g' hg' (by show v.o.ownBlock = _;rw [e];rfl)
 · intro b e' hb
   subst hb;have hn := h.names;have e2 : v.m = .map (some b) := e';rw [e2] at hn;exact hn.obj _ _ _ hg
 · have e1 : w'.heap[g]? = (w.setCell (jd x 19) jn).heap[g]? := k.block g (.inr rfl) (zo hgl q2.size)
   exact own_row ((e1.trans hgW).trans hg) h4 fun t ht => h.toks t ht w' (q2.trans (k.sub fun _ => .inl))
 cases e'
 exact h.bag.out 7 _ rfl g (by show v.o.ownBlock = _;rw [e];rfl)
theorem feed_any (h : Mach Z S x m w) {n : Nat} (hg : Good n m) (c : Ch) (hn : n < 20000) : Calls Tryz.prog 23 #[mp x,cv c] w (Gave Z S x (m.feed c).2 (m.feed c).1 w) := by
 have HH : Hid (∀ U W,Mach Z U x m W -> Calls Tryz.prog 38 #[mp x,cv c] W (Did Z U x (m.step c) W)) := fun U W hU => step_any hU hg c hn
 obtain ⟨r,p,q⟩ := c
 obtain ⟨W0,hW0,k0⟩ := Walk.start h ⟨r,p,q⟩
 have hxw := h.low
 obtain ⟨hb,d0,d1,d2⟩ := k0.box
 have hx0 := k0.lt
 have K0 := hid k0
 clear h k0 hg
 go_enter Tryz.func23,Tryz.ntmps23
 go_wp2_with fail
 refine (K0.out.call (fun U => HH.out U _)).mono ?_
 rintro e W1 ⟨rfl,k1⟩
 obtain ⟨U1,s1,⟨v,T,h1⟩,_⟩ := k1.ex
 have hx1 := h1.lt
 have f19 := h1.free 19
 obtain ⟨ao,cap,c19,hcap,U2,s2,h2,kk2,st2,nS⟩ := unout h1
 obtain ⟨nT,hnT⟩ := ex (T.length)
 rw [hnT] at c19 hcap
 have HG : Hid (Gave Z S x (m.feed ⟨r,p,q⟩).2 (m.feed ⟨r,p,q⟩).1 w (jr (.slice ao nT cap)) (W1.setCell (jd x 19) jn)) :=
  ⟨U2,T,ao,cap,by rw [hnT],h1.told,by rw [hnT];exact hcap,fun k hk => s2 k (s1 k hk),⟨_,h2,rfl⟩,k1.keep.trans (kk2.sub s1),st2,fun b o e hS => nS b o e (s1 b hS)⟩
 clear h1 k1 h2 st2 kk2 hnT s1 s2 nS
 go_wp2_with fail
 go_ret
 exact HG.out
theorem clone_run {t e size bytes : Nat} {z0 : Value} (ht : Tryz.prog.underlying t = some (.slice e)) (hinfo : (Tryz.prog.info? e).map (fun i => (i.zero,i.size,i.bytes)) = some (some z0,size,bytes)) (hzs : z0.cells.size = size) (hsz : 0 < size) (hb : bytes <= 96)
 {w : World} {g n cap : Nat} {xs : List Value} {q : Bool} (hown : OwnQ w q e size (.slice (some (jd g 0)) n cap) n xs) (h1 : ∀ u ∈ xs,u.oneCell' = true) (hn : n <= 1000000000000) :
 ∃ ao' c' W',(Builtin.append_ #[t,t] t #[.slice (some (jd w.heap.size 0)) 0 0,.slice (some (jd g 0)) n cap]).run Tryz.prog (w.alloc (.cells #[] e)) = .ok (.slice ao' n c') W' /\ W'.ownsRow w.heap.size e size (.slice ao' n c') n xs /\ Below w.heap.size w W' := by
 obtain ⟨i0,hi0,hz0,hzs0,hzb⟩ := info_parts hinfo
 have b0 : Below w.heap.size w (w.alloc (.cells #[] e)) := ze _ _
 have hnew := zx w (.cells #[] e)
 have ho : (w.alloc (.cells #[] e)).ownsRow w.heap.size e size (.slice (some (jd w.heap.size 0)) 0 0) 0 [] := ⟨by simp,.inr ⟨w.heap.size,0,#[],rfl,zb _,hnew,zb _,Nat.zero_le _,by simp,by simp⟩⟩
 obtain ⟨v',W',hrun,ho',hg',_,_⟩ := run_append_own_at (P := Tryz.prog) (w.alloc (.cells #[] e)) w.heap.size t t e i0 _ size bytes ht hi0 hz0 hzs0 hzb hzs hsz _ 0 [] ho (jd g 0) n cap xs hown.1 (fun j u hj => by
  rw [Addr.add_lit,Nat.zero_add];rcases hown.2 with ⟨e2,_⟩ | ⟨g2,cap2,cur,z,e2,hg2,_,_,_,_,htake⟩
  · cases e2
  simp only [Value.slice.injEq,Option.some.injEq,Addr.mk.injEq,and_true,true_and] at e2;obtain ⟨rfl,rfl⟩ := e2;have hjl := (zg hj);rw [<- htake,List.getElem?_take_of_lt (by rw [<- hown.1];exact hjl),Array.getElem?_toList] at hj;rw [b0.cell (p := (jd g j)) (zf hg2)]
  simp [World.cell?,hg2,hj]) h1 (by unfold maxLen;omega) (by have := Nat.mul_le_mul hn hb;simp;omega) b0.size
 have hf : ∃ ao c,v' = .slice ao n c := by
  rcases ho'.2 with ⟨e2,h2⟩ | ⟨g2,cap2,cur,e2,_⟩
  · rw [Nat.zero_add] at h2
    subst h2;exact ⟨_,_,e2⟩
  rw [Nat.zero_add] at e2;exact ⟨_,_,e2⟩
 obtain ⟨ao,c,rfl⟩ := hf
 rw [Nat.zero_add,List.nil_append] at ho'
 refine ⟨ao,c,W',hrun,ho',b0.trans ⟨hg'.os,hg'.tape,hg'.output,hg'.size,fun d hd => hg'.block d (zo hd b0.size) (fun e2 => ?_)⟩⟩
 simp [Value.ownBlock] at e2
 omega
theorem eqIn_nil (d t e : Nat) (a : Option Addr) (l c : Nat) (w : World) (h : Tryz.prog.underlying t = some (.slice e)) : (Op.equalIn (d + 1) t (.slice a l c) jn).run Tryz.prog w = .ok a.isNone w := by
 cases a <;> simp [Op.equalIn,run_underlying h]
theorem eq_nil (t e : Nat) (a : Option Addr) (l c : Nat) (w : World) (b : Bool) (hb : a.isNone = b) (h : Tryz.prog.underlying t = some (.slice e)) : (binOp .eql t (.slice a l c) jn).run Tryz.prog w = .ok (.bool b) w := by
 subst hb
 simp only [binOp]
 simp [show Op.equal t (.slice a l c) jn = Op.equalIn (9999 + 1) t (.slice a l c) jn from rfl,eqIn_nil 9999 t e a l c w h]
def Cloned (e s n : Nat) (xs : List Value) (w : World) (en : Ending) (w' : World) : Prop := ∃ ao c,en = jr (.slice ao n c) /\ w'.ownsRow w.heap.size e s (.slice ao n c) n xs /\ Below w.heap.size w w'
theorem cloneF_any {v : Value} {n : Nat} {xs : List Value} {q : Bool} (hown : OwnQ w q 58 2 v n xs) (h1 : ∀ u ∈ xs,u.oneCell' = true) (hn : n <= 1000000000000) : Calls Tryz.prog 33 #[v] w (Cloned 58 2 n xs w) := by
 rcases hown.2 with ⟨rfl,rfl⟩ | ⟨g,cap,cur,z,rfl,rest⟩
 · have HC : Hid (Cloned 58 2 0 xs w (jr jn) w) := ⟨none,0,rfl,⟨hown.1,.inl ⟨rfl,rfl⟩⟩,Below.refl _ _⟩
   have en := fun w => eq_nil 25 58 none 0 0 w true rfl Tryz.underlying25;clear hown h1 hn;go_enter Tryz.func33,Tryz.ntmps33;go_wp2_with fail;go_ret;exact HC.out
 obtain ⟨ao',c',W',hrun,ho,hb⟩ := clone_run Tryz.underlying25 info58 rfl (by decide) (by decide) hown h1 hn
 have HC : Hid (Cloned 58 2 n xs w (jr (.slice ao' n c')) W') := ⟨ao',c',rfl,ho,hb⟩
 have en := fun w => eq_nil 25 58 (some (jd g 0)) n cap w false rfl Tryz.underlying25
 clear hown h1 hn rest ho hb
 go_enter Tryz.func33,Tryz.ntmps33
 go_wp2_with (at_builtin;refine list_append_eq rfl _ _ 25 25 rfl _ _ rfl rfl hrun ?_)
 go_ret
 exact HC.out
theorem fl_one (fs : List (Int × Int)) : ∀ u ∈ fs.flatMap gcells,u.oneCell' = true := fun u hu => by
 rw [List.mem_flatMap] at hu
 obtain ⟨x,_,hu⟩ := hu
 simp only [gcells,G4.gcells,List.mem_cons,List.not_mem_nil,or_false] at hu
 rcases hu with rfl | rfl <;> rfl
theorem faults_any (h : Mach Z S x m w) (hn : m.tot <= 1000000000) : Calls Tryz.prog 24 #[mp x] w (Cloned 58 2 m.fs.length (m.fs.flatMap gcells) w) := by
 obtain ⟨v,T,h⟩ := h
 have hxw := h.lt
 have c20 := h.cells 20 v.f rfl
 have k := cloneF_any (h.bag.own 8 _ rfl) (fl_one _) (by show m.fs.length <= _;unfold Mc.tot at hn;omega)
 obtain ⟨ao,ca,e5,_,_⟩ := own_form (h.bag.own 8 _ rfl)
 simp only at e5 k
 rw [e5] at c20 k
 obtain ⟨n,hnn⟩ := ex (m.fs.length)
 rw [hnn] at c20 k |-
 obtain ⟨xs,hxs⟩ := ex (m.fs.flatMap gcells)
 rw [hxs] at k |-
 clear h e5 hxs
 go_enter Tryz.func24,Tryz.ntmps24
 go_wp2_with fail
 refine k.mono ?_
 rintro e w1 ⟨ao',c',rfl,ho,hb⟩
 have HC : Hid (Cloned 58 2 n xs w (jr (.slice ao' n c')) w1) := ⟨ao',c',rfl,ho,hb⟩
 clear ho hb k
 go_wp2_with fail
 go_ret
 exact HC.out
end Go.Proofs.YtjjfalbngcbfaaaGreatDoor
