import Derived.Test.YtjjfalbngcbfaaaGreatDoorZ0
import Derived.Test.YtjjfalbngcbfaaaGreatDoorYt
import Derived.Test.YtjjfalbngcbfaaaGreatDoorYs
import Derived.Test.YtjjfalbngcbfaaaGreatDoorYp
import Derived.Test.YtjjfalbngcbfaaaGreatDoorYk
set_option maxHeartbeats 4000000
set_option maxRecDepth 20000
namespace Go.Proofs.YtjjfalbngcbfaaaGreatDoor
open Go.RowKit
variable {S : Nat -> Prop} {x y n cap : Nat} {E : Env} {r r' t : List Ch} {sc sc' : Sc} {dn sf dn' : Bool} {w W : World} {kind cr ca cz N : Int} {nm : ByteArray} {av : Value} {A : List At} {ao : Option Addr} {fs : Fs}
structure TG (S : Nat -> Prop) (x : Nat) (E : Env) (r : List Ch) (sc : Sc) (dn : Bool) (w : World) (y : Nat) (kind : Int) (nm : ByteArray) (av : Value) (A : List At) (sf : Bool) (W : World) : Prop where
 ty : TY S x E r sc dn w y (tkA kind nm av sf 0 0) 45 W
 own : Rw.own W (rwA av A)
 out : ∀ g,av.ownBlock = some g -> ¬ S g /\ w.heap.size <= g
theorem TG.lift (h : TG S x E r sc dn w y kind nm av A sf W) {F : Nat} {args : Array Value} {Q : Ending -> Prop}
 (hc : ∀ S',(∀ k,S k -> S' k) -> (∀ g,av.ownBlock = some g -> S' g) -> Tm S' x E r sc dn W -> Calls Tryz.prog F args W fun e w' => Q e /\ TW S' x E r' sc' dn' W w') : Calls Tryz.prog F args W fun e w' => Q e /\ TG S x E r' sc' dn' w y kind nm av A sf w' := by
 refine (h.ty.tw.lift (fun k => k = y \/ av.ownBlock = some k) (fun k hk => ?_) (fun S' h1 h2 => hc S' h1 (fun g hg => h2 g (.inr hg)))).mono ?_
 · rcases hk with rfl | hk
   · exact ⟨_,45,(0,0),h.ty.blk,by decide,by decide⟩
   obtain ⟨_,cur,z,hb⟩ := own_blk h.own hk;exact ⟨cur,49,z,hb,by decide,by decide⟩
 rintro e w' ⟨hq,k',hb⟩
 exact ⟨hq,⟨k',(hb y (.inl rfl)).trans h.ty.blk,h.ty.ns,h.ty.ty1,h.ty.ty2⟩,own_mv h.own fun g hg => hb g (.inr hg),h.out⟩
theorem TG.hop (h : TG S x E r sc dn w y kind nm av A sf W) {i : Nat} {u : Value} (k : TW S x E r' sc' dn' w (W.setCell (jd x i) u)) : TG S x E r' sc' dn' w y kind nm av A sf (W.setCell (jd x i) u) := by
 refine ⟨h.ty.hop k,own_mv h.own fun g hg => Below.heap_setCell _ _ _ _ fun e => ?_,h.out⟩
 have e : g = x := e
 subst e
 obtain ⟨fv,h1⟩ := h.ty.tw.tm
 obtain ⟨_,cur,z,hg2⟩ := own_blk h.own hg
 rw [h1.blk] at hg2
 simp at hg2
theorem TG.adv {c : Ch} (h : TG S x E (c :: t) sc dn w y kind nm av A sf W) : TG S x E t sc dn w y kind nm av A sf (W.setCell (jd x 1) (ji (pos E (c :: t) + 1))) := h.hop h.ty.tw.adv
theorem tgx {f : FuncId} {a : Array Value} {v : Ending} {Q : Ending -> World -> Prop} (c : Calls Tryz.prog f a W fun e w' => e = v /\ TG S x E r sc dn w y kind nm av A sf w') (h : ∀ w',Hid (TG S x E r sc dn w y kind nm av A sf w') -> x < w'.heap.size -> y < w'.heap.size -> Q v w') : Calls Tryz.prog f a W Q := c.mono fun _ w' k => by
 rw [k.1]
 exact h w' k.2 k.2.ty.tw.lt k.2.ty.lt
theorem TG.advx {c : Ch} (h : TG S x E (c :: t) sc dn w y kind nm av A sf W) : ∃ p : Int,W.cell? (jd x 1) = some (ji p) /\ W.frozen? (jd x 1) = false /\ 0 <= p /\ p <= 100000 /\ Hid (TG S x E t sc dn w y kind nm av A sf (W.setCell (jd x 1) (ji (p + 1)))) := by
 obtain ⟨a,b,c,d,_⟩ := h.ty.tw.at
 exact ⟨_,a,b,c,d,h.adv⟩
theorem TG.self (h : TG S x E r sc dn w y kind nm av A sf W) : TG S x E r sc dn w y kind nm av A true (W.setCell (jd y 5) (.bool true)) := by
 refine ⟨h.ty.put 5 (.bool true) rfl,own_mv h.own fun g hg => Below.heap_setCell _ _ _ _ fun e => ?_,h.out⟩
 have e : g = y := e
 subst e
 obtain ⟨_,cur,z,hg2⟩ := own_blk h.own hg
 rw [h.ty.blk] at hg2
 simp at hg2
theorem TG.below {W' : World} (h : TG S x E r sc dn w y kind nm av A sf W) (b : Below W.heap.size W W') : TG S x E r sc dn w y kind nm av A sf W' := ⟨h.ty.below b,own_mv h.own fun g hg => b.block g (own_blk h.own hg).1,h.out⟩
theorem TG.c (h : TG S x E r sc dn w y kind nm av A sf W) : Calls Tryz.prog 39 #[mp x] W fun e w' => e = jr (ji (hd r)) /\ TG S x E r sc dn w y kind nm av A sf w' := h.lift fun _ _ _ k => (TW.start k).c
theorem TG.cc (h : TG S x E (⟨cr,ca,cz⟩ :: t) sc dn w y kind nm av A sf W) : Calls Tryz.prog 39 #[mp x] W fun e w' => e = jr (ji cr) /\ TG S x E (⟨cr,ca,cz⟩ :: t) sc dn w y kind nm av A sf w' := h.c
theorem TG.c0 (h : TG S x E [] sc dn w y kind nm av A sf W) : Calls Tryz.prog 39 #[mp x] W fun e w' => e = jr (ji (-1)) /\ TG S x E [] sc dn w y kind nm av A sf w' := h.c
theorem TG.ba (h : TG S x E (⟨cr,ca,cz⟩ :: t) sc dn w y kind nm av A sf W) : Calls Tryz.prog 41 #[mp x] W fun e w' => e = jr (ji ca) /\ TG S x E (⟨cr,ca,cz⟩ :: t) sc dn w y kind nm av A sf w' := h.lift fun _ _ _ k => (TW.start k).ba
theorem TG.tfl (h : TG S x E r sc dn w y kind nm av A sf W) (code at' : Int) (hn : sc.fs.length <= 1000000000) : Calls Tryz.prog 65 #[mp x,ji code,ji at'] W fun e w' => e = jr (.tuple #[]) /\ TG S x E r (sc.fsd (sc.fs ++ [(code,at')])) dn w y kind nm av A sf w' := h.lift fun _ _ _ k => (TW.start k).tfl code at' hn
theorem own_stays (h : Rw.own w (rwA (.slice ao n cap) A)) (hg : ∀ g,(Value.slice ao n cap).ownBlock = some g -> S g) : (Stays S w fun w => G9.AtRow w ao A) := fun w' k => by
 have h2 : OwnQ w' false 49 2 (.slice ao n cap) A.length (A.flatMap G9.At.cells) := own_mv h fun g e => k.block g (hg g e) (own_blk h e).1
 obtain ⟨ao',cap',e,hr,_⟩ := G9.row_at h2.row
 simp only [Value.slice.injEq] at e
 obtain ⟨rfl,_,_⟩ := e
 exact hr
theorem TG.form (h : TG S x E r sc dn w y kind nm av A sf W) : ∃ ao cap,av = .slice ao A.length cap /\ A.length <= cap := by
 obtain ⟨ao,c,e,h1,_⟩ := own_form h.own
 exact ⟨ao,c,e,h1⟩
theorem TG.attr (h : TG S x E (⟨cr,ca,cz⟩ :: t) sc dn w y kind nm (.slice ao n cap) A sf W) (hpos : ∀ d ∈ (⟨cr,ca,cz⟩ : Ch) :: t,0 <= d.r) (hB : sc.fs.length + 8 * (t.length + 1) + 8 <= 1000000000) (hn : A.length = n) (hn2 : n <= 100000) (hnc : n <= cap) (hO : Once A) :
 Calls Tryz.prog 105 #[mp x,.slice ao n cap] W fun e w' => e = jr (.tuple #[.agg #[.string (bs (attrR E.N A sc.fs (⟨cr,ca,cz⟩ :: t)).1.1),.string (bs (attrR E.N A sc.fs (⟨cr,ca,cz⟩ :: t)).1.2)],.bool (attrR E.N A sc.fs (⟨cr,ca,cz⟩ :: t)).2.1]) /\ TG S x E (attrR E.N A sc.fs (⟨cr,ca,cz⟩ :: t)).2.2.2 (sc.fsd (attrR E.N A sc.fs (⟨cr,ca,cz⟩ :: t)).2.2.1) dn w y kind nm (.slice ao n cap) A sf w' := h.lift fun _ _ hg k => attr_any k hpos hB (own_stays h.own hg) hn hn2 hnc hO
theorem TG.done {nm : jl} (h : TG S x E r sc dn w y kind (bs nm) (.slice ao n cap) A sf W) {c0 : Ch} {F : List Ch} (hF : c0 :: F <:+ E.L) (hl : r.length <= F.length) (hk : kind = 2 \/ kind = 3) (hn : A.length = n) (hn2 : n <= 100000) (hf : sc.fs.length <= 1000000000) :
 Calls Tryz.prog 104 #[mp x,ji (pos E (c0 :: F)),.agg (tkA kind (bs nm) (.slice ao n cap) sf 0 0)] W (Tokd S x E (doneR (c0 :: F) kind nm sc A sf sc.fs r) dn w) := by
 have hm := h.ty.tw.more (fun k => (Value.slice ao n cap).ownBlock = some k) (fun k hk => (own_blk h.own hk).1) (fun k hk => by obtain ⟨_,cur,z,hb⟩ := own_blk h.own hk;exact ⟨cur,49,z,hb,by decide,by decide⟩)
 refine (done_any hm.tm hF hl hk nm sf (own_stays h.own fun g hg => .inr hg) hn hn2 h.ty.tw.keep.size (fun hA => ?_) hf).mono ?_
 · rcases h.own.2 with ⟨_,h0⟩ | ⟨g,cap',cur,z,e,hg,_⟩
   · exact absurd (yb h0) hA
   simp only [Value.slice.injEq] at e;exact ⟨g,cur,z,e.1,(h.out g (by rw [e.1];rfl)).2,.inr (by rw [e.1];rfl),hg⟩
 rintro e w' ⟨ao',T,cap',h1,h2,h3,h4,h5⟩
 exact ⟨ao',T,cap',h1,h2,h3,h4,h.ty.tw.less h5 fun _ => .inl⟩
theorem TG.grow (h : TG S x E r sc dn w y kind nm (.slice ao n cap) A sf W) (hn : A.length = n) (hn2 : n <= 100000) (an avl : ByteArray) (W0 : World) (hW0 : W.alloc (.cells #[.string an,.string avl] 49) = W0) :
 ∃ ao' c' W',(Builtin.append_ #[41,41] 41 #[.slice ao n cap,.slice (some (jd W.heap.size 0)) 1 1]).run Tryz.prog W0 = .ok (.slice ao' (n + 1) c') W' /\ TG S x E r sc dn w y kind nm (.slice ao' (n + 1) c') (A ++ [⟨an,avl⟩]) sf (W'.setCell (jd y 4) (.slice ao' (n + 1) c')) /\ W'.cell? (jd y 4) = some (.slice ao n cap) /\ W'.frozen? (jd y 4) = false /\ y < W'.heap.size /\ x < W'.heap.size := by
 have b0 : Below W.heap.size W W0 := by rw [<- hW0];exact ze _ _
 have hnew : W0.heap[W.heap.size]? = some (.cells #[.string an,.string avl] 49 (0,0)) := by rw [<- hW0];exact zx _ _
 have h0 := h.below b0
 have ho : OwnQ W0 false 49 2 (.slice ao n cap) n (A.flatMap G9.At.cells) := by have := h0.own;rw [<- hn];rw [<- hn] at this;exact this
 obtain ⟨v',W',hrun,ho',hg',hat⟩ := row_app Tryz.underlying41 info49 rfl (by decide) (by decide) ho W.heap.size 0 1 1 [.string an,.string avl] rfl (fun j u hj => by rw [Nat.zero_add];simp [World.cell?,hnew];exact hj) (by simp [Value.oneCell']) (by omega)
 obtain ⟨ao',c',rfl,_,_⟩ := own_form ho'
 have hgy : ∀ g,(Value.slice ao n cap).ownBlock = some g -> g ≠ y := fun g hg e => by
  subst e;obtain ⟨_,cur,z,hg2⟩ := own_blk h.own hg;rw [h.ty.blk] at hg2;simp at hg2
 have tw' : TW S x E r sc dn w W' := h0.ty.tw.grown hg' fun g hg => by
  obtain ⟨_,cur,z,hb⟩ := own_blk h0.own hg;exact ⟨(h.out g hg).1,cur,49,z,hb,by decide,by decide⟩
 have hy' : W'.heap[y]? = some (.cells (tkA kind nm (.slice ao n cap) sf 0 0) 45 (0,0)) := (hg'.block y h0.ty.lt (fun e => hgy y e.symm rfl)).trans h0.ty.blk
 have ty' : TY S x E r sc dn w y (tkA kind nm (.slice ao n cap) sf 0 0) 45 W' := ⟨tw',hy',h.ty.ns,h.ty.ty1,h.ty.ty2⟩
 have hfr : ∀ g,(Value.slice ao' (n + 1) c').ownBlock = some g -> (Value.slice ao n cap).ownBlock = some g \/ W0.heap.size <= g := fun g hg => fresh_of hat g hg
 refine ⟨ao',c',W',hrun,⟨ty'.put 4 (.slice ao' (n + 1) c') rfl,?_,fun g hg => ?_⟩,(ty'.cell 4 rfl).1,(ty'.cell 4 rfl).2,ty'.lt,tw'.lt⟩
 · have e1 : (A ++ [(⟨an,avl⟩ : At)]).length = n + 1 := by rw [zh,hn];rfl
   have e2 : (A ++ [(⟨an,avl⟩ : At)]).flatMap G9.At.cells = A.flatMap G9.At.cells ++ [.string an,.string avl] := by simp [G9.At.cells]
   show OwnQ _ false 49 2 _ (A ++ [(⟨an,avl⟩ : At)]).length ((A ++ [(⟨an,avl⟩ : At)]).flatMap G9.At.cells);rw [e1,e2];refine own_mv ho' fun g hg => Below.heap_setCell _ _ _ _ fun e => ?_;have e : g = y := e;subst e;rcases hfr g hg with e | e
   · exact hgy g e rfl
   have := h0.ty.lt;omega
 rcases hfr g hg with e | e
 · exact h.out g e
 refine ⟨fun hS => ?_,?_⟩
 · have := h0.ty.tw.facts.2.2 g hS
   omega
 have := h0.ty.tw.keep.size
 omega
theorem tagL_nil (h : skipB r = []) : tagL N (n + 1) A sf fs r = (none,fs ++ [(7,N)],[]) := by
 conv => lhs;unfold tagL
 rw [h]
theorem tagL_gt {c : Ch} (h : skipB r = c :: t) (hc : c.r = 62) : tagL N (n + 1) A sf fs r = (some (A,sf),fs,t) := by
 conv => lhs;unfold tagL
 rw [h]
 simp only
 rw [jp hc]
theorem tagL_sl {c : Ch} (h : skipB r = c :: t) (hc : c.r = 47) : tagL N (n + 1) A sf fs r = if hd t = 62 then tagL N n A true fs t else if t ≠ [] then tagL N n A sf (fs ++ [(12,frN N t)]) t else tagL N n A sf fs t := by
 conv => lhs;unfold tagL
 rw [h]
 simp only
 rw [jq (by rw [hc];decide),jp hc]
theorem tagL_at {c : Ch} (h : skipB r = c :: t) (h1 : c.r ≠ 62) (h2 : c.r ≠ 47) : tagL N (n + 1) A sf fs r = tagL N n (addA A (attrR N A fs (c :: t))) sf (attrR N A fs (c :: t)).2.2.1 (attrR N A fs (c :: t)).2.2.2 := by
 conv => lhs;unfold tagL
 rw [h]
 simp only
 rw [jq h1,jq h2]
theorem tag_any : TagAny := by
 intro S x E r sc dn w h c0 F hF hr hpos hB kind hk
 have k00 := TW.start h
 obtain ⟨hfew,hsuf,hlow⟩ := k00.facts
 have hr5 : r.length <= 100000 := by have := hsuf.length_le;omega
 obtain ⟨T,hT⟩ := ex (tagR E.N (c0 :: F) kind sc r)
 rw [hT]
 obtain ⟨Q,hQ⟩ := ex (lows (r.takeWhile nmC))
 obtain ⟨R,hR⟩ := ex (r.dropWhile nmC)
 have HT : Hid (tagE (c0 :: F) kind Q sc (tagL E.N (R.length + 1) [] false sc.fs R) = T /\ R <:+ r) := by
  refine ⟨?_,by rw [<- hR];exact List.dropWhile_suffix _⟩;rw [<- hT];unfold tagR;rw [hQ,hR]
 have HQ := yc hQ hR
 have HFr := yg hF hr hpos hr5 hB hk
 obtain ⟨pF,hpF⟩ := ex (pos E (c0 :: F))
 have HPF := hid hpF
 rw [hpF]
 obtain ⟨W0,hW0⟩ := ex (w.alloc (.cells (tkA kind ⟨#[]⟩ jn false 0 0) 45))
 have HW0 := hid hW0
 have k0 : TY S x E r sc dn w w.heap.size (tkA kind ⟨#[]⟩ jn false 0 0) 45 W0 := by
  rw [<- hW0];exact TY.new k00 _ 45 (by decide) (by decide)
 have K0 := hid k0
 have hx0 := k0.tw.lt
 have hy0 := k0.lt
 have hne : w.heap.size ≠ x := k0.ne
 clear h hF hr hpos hB hk k00 hfew hsuf hlow hr5 hT hQ hR hpF hW0 k0
 go_enter Tryz.func69,Tryz.ntmps69
 go_wp2_with fail
 rw [HW0.out]
 clear HW0
 go_loopg [31] r.length (fun g _ wr => ∃ (q : jl) (r1 : List Ch),r1.length <= g /\ q ++ lows (r1.takeWhile nmC) = Q /\ r1.dropWhile nmC = R /\ r1 <:+ r /\ q.length + 4 * r1.length <= 4 * r.length /\ TY S x E r1 sc dn w w.heap.size (tkA kind (bs q) jn false 0 0) 45 wr)
 case atStart => exact ⟨[],r,zb _,HQ.out.1,HQ.out.2,List.suffix_refl _,by simp,K0.out⟩
 obtain ⟨q,r1,hgl,hq1,hq2,hq3,hq4,hk⟩ := hrel
 have HNM := yf hq1 hq2 hq3 hq4 hgl
 have HPR : Hid (∀ d ∈ r1,0 <= d.r) := suf_pos hq3 HFr.out.2.2.1
 clear K0
 have K0 := hid hk
 have hxr := hk.tw.lt
 have hyr := hk.lt
 clear hgl hq1 hq2 hq3 hq4 hk
 go_upto_region 2 with fail
 go_cut [31] (fun s wc => s = .bool (tst nmC r1) /\ TY S x E r1 sc dn w w.heap.size (tkA kind (bs q) jn false 0 0) 45 wc)
 case first =>
  cases r1 with
  | nil =>
   have HTS : Hid (tst nmC [] = false) := rfl;go_wp2_with fail;refine tyx K0.out.c0 fun W1 K1 hx1 hy1 => ?_;go_wp2_with fail;go_meet
   case rel => exact ⟨by rw [HTS.out],K1.out⟩
  | cons d t1 =>
   obtain ⟨dr,da,dz⟩ := d;have hd0 : 0 <= dr := HPR.out ⟨dr,da,dz⟩ (by simp);have gd0 : decide (dr >= 0) = true := zm (by omega);clear hd0;by_cases hbk : blk dr = true
   · have HTS : Hid (tst nmC (⟨dr,da,dz⟩ :: t1) = false) := by
      show nmC _ = _;unfold nmC;simp [hbk]
     go_wp2_with fail;refine tyx K0.out.cc fun W1 K1 hx1 hy1 => ?_;go_wp2_with fail;refine tyx K1.out.cc fun W2 K2 hx2 hy2 => ?_;go_wp2_with fail;refine rbx dr _ ?_;go_wp2_with fail;go_meet
     case rel => exact ⟨by rw [HTS.out],K2.out⟩
   have hbk' : blk dr = false := by simpa using hbk
   by_cases h47 : dr = 47
   · have g47 : (dr != 47) = false := by simp [h47]
     have HTS : Hid (tst nmC (⟨dr,da,dz⟩ :: t1) = false) := by
      show nmC _ = _;unfold nmC;simp [h47]
     clear h47;go_wp2_with fail;refine tyx K0.out.cc fun W1 K1 hx1 hy1 => ?_;go_wp2_with fail;refine tyx K1.out.cc fun W2 K2 hx2 hy2 => ?_;go_wp2_with fail;refine rbx dr _ ?_;go_wp2_with fail;refine tyx K2.out.cc fun W3 K3 hx3 hy3 => ?_;go_wp2_with fail;go_meet
     case rel => exact ⟨by rw [HTS.out],K3.out⟩
   have g47 : (dr != 47) = true := by simp [h47]
   by_cases h62 : dr = 62
   · have g62 : (dr != 62) = false := by simp [h62]
     have HTS : Hid (tst nmC (⟨dr,da,dz⟩ :: t1) = false) := by
      show nmC _ = _;unfold nmC;simp [h62]
     clear h62;go_wp2_with fail;refine tyx K0.out.cc fun W1 K1 hx1 hy1 => ?_;go_wp2_with fail;refine tyx K1.out.cc fun W2 K2 hx2 hy2 => ?_;go_wp2_with fail;refine rbx dr _ ?_;go_wp2_with fail;refine tyx K2.out.cc fun W3 K3 hx3 hy3 => ?_;go_wp2_with fail;refine tyx K3.out.cc fun W4 K4 hx4 hy4 => ?_;go_wp2_with fail;go_meet
     case rel => exact ⟨by rw [HTS.out],K4.out⟩
   have g62 : (dr != 62) = true := by simp [h62]
   have HTS : Hid (tst nmC (⟨dr,da,dz⟩ :: t1) = true) := by
    show nmC _ = _;unfold nmC;simp [hbk',h47,h62]
   go_wp2_with fail;refine tyx K0.out.cc fun W1 K1 hx1 hy1 => ?_;go_wp2_with fail;refine tyx K1.out.cc fun W2 K2 hx2 hy2 => ?_;go_wp2_with fail;refine rbx dr _ ?_;go_wp2_with fail;refine tyx K2.out.cc fun W3 K3 hx3 hy3 => ?_;go_wp2_with fail;refine tyx K3.out.cc fun W4 K4 hx4 hy4 => ?_;go_wp2_with fail;go_meet
   case rel => exact ⟨by rw [HTS.out],K4.out⟩
 obtain ⟨hu,k0⟩ := hcut
 clear K0
 have K0 := hid k0
 have hxc := k0.tw.lt
 have hyc := k0.lt
 clear k0
 obtain ⟨nv,hnv⟩ := ex (bs q)
 have hnz : nv.size <= 400005 := by
  have h1 := HNM.out.2.2.2.1;have h2 := HFr.out.2.2.2.1;rw [<- hnv,bs_size];omega
 have HNV := hid hnv
 rw [hnv] at K0
 clear hnv
 cases ht : tst nmC r1 with
 | true =>
  rw [ht] at hu;subst hu;obtain ⟨⟨dr,da,dz⟩,t1,rfl,hdc,e1,e2⟩ := tst_yes ht;have HST : Hid ((q ++ enc (lowr dr)) ++ lows (t1.takeWhile nmC) = Q /\ t1.length + 1 <= gk /\ t1.dropWhile nmC = R /\ t1 <:+ r /\ (q ++ enc (lowr dr)).length + 4 * t1.length <= 4 * r.length) := by
   obtain ⟨h1,h2,h3,h4,h5⟩ := HNM.out;rw [e1] at h1;rw [e2] at h2;refine ⟨?_,h5,h2,(zl _ _).trans h3,?_⟩
   · rw [<- h1]
     simp [lows]
   have := enc_len (lowr dr);simp only [zh,zi] at h4 |-;omega
  clear ht hdc e1 e2;obtain ⟨b0,f0⟩ := K0.out.cell 2 rfl;go_upto_region 3 with fail
  go_cut [] (fun wc => TY S x E (⟨dr,da,dz⟩ :: t1) sc dn w w.heap.size (tkA kind (bs (q ++ enc (lowr dr))) jn false 0 0) 45 wc)
  case first =>
   have hev : (bs (enc (lowr dr))).size <= 4 := by rw [bs_size];exact enc_len _
   obtain ⟨ev,hev2⟩ := ex (bs (enc (lowr dr)));have HEV := hid hev2;rw [hev2] at hev;clear hev2
   go_region_with (first
    | (go_at_call 39;refine ((K0.out.below ((Below.refl _ _).drew)).cc).mono ?_;rintro e wa ⟨rfl,ka⟩;have KA : Hid (TY S x E (⟨dr,da,dz⟩ :: t1) sc dn w w.heap.size (tkA kind nv jn false 0 0) 45 wa) := ka;obtain ⟨ba,fa⟩ := ka.cell 2 rfl;have hxa := ka.tw.lt;have hya := ka.lt;clear ka)
    | (go_at_call 71;refine (KA.out.lower dr).mono ?_;rintro e wb ⟨rfl,kb⟩;rw [HEV.out];have KB : Hid (TY S x E (⟨dr,da,dz⟩ :: t1) sc dn w w.heap.size (tkA kind nv jn false 0 0) 45 wb) := kb;obtain ⟨bb,fb⟩ := kb.cell 2 rfl;have hxb := kb.tw.lt;have hyb := kb.lt;clear kb))
   all_goals
    go_wp2_with fail;go_meet
    case rel =>
     rw [show bs (q ++ enc (lowr dr)) = nv ++ ev by rw [<- bs_app,HNV.out,HEV.out]];exact KB.out.put 2 (.string (nv ++ ev)) rfl
  have KC := hid hcut;have hxd := hcut.tw.lt;have hyd := hcut.lt;obtain ⟨a1,a2,a3,a4,_⟩ := hcut.tw.at;obtain ⟨pq,hpq⟩ := ex (pos E (⟨dr,da,dz⟩ :: t1));have KN : Hid (TY S x E t1 sc dn w w.heap.size (tkA kind (bs (q ++ enc (lowr dr))) jn false 0 0) 45 (wc.setCell (jd x 1) (ji (pq + 1)))) := by
   show TY _ _ _ _ _ _ _ _ _ _ _;rw [<- hpq];exact hcut.adv
  rw [hpq] at a1 a3 a4;clear hcut hpq;go_wp2_with fail;go_roundg (gk - 1)
  case measure => have := HST.out.2.1;omega
  case rel => exact ⟨q ++ enc (lowr dr),t1,by have := HST.out.2.1;omega,HST.out.1,HST.out.2.2.1,HST.out.2.2.2.1,HST.out.2.2.2.2,KN.out⟩
 | false =>
  rw [ht] at hu;subst hu;have HNS : Hid (q = Q /\ r1 = R) := by
   obtain ⟨h1,h2,_⟩ := HNM.out;obtain ⟨e1,e2⟩ := tst_no ht;rw [e1] at h1;rw [e2] at h2;simp [lows] at h1;exact ⟨h1,h2⟩
  clear ht HNM;obtain ⟨rfl,rfl⟩ := HNS.out;clear HNS HQ;obtain ⟨V,hV⟩ := ex (tagL E.N (r1.length + 1) [] false sc.fs r1);have HV0 := hid hV;have HTV : Hid (tagE (c0 :: F) kind q sc V = T /\ r1 <:+ r) := by
   have h0 := HT.out;rw [hV] at h0;exact h0
  clear hV HT;have KG0 : Hid (TG S x E r1 sc dn w w.heap.size kind nv jn [] false wc) := ⟨K0.out,⟨rfl,.inl ⟨rfl,rfl⟩⟩,fun g hg => by simp [Value.ownBlock] at hg⟩;clear K0;go_wp2_with fail;go_loopg [8,9,10] (r1.length + 1) (fun g _ _ _ wr => ∃ (A : List At) (sf : Bool) (fs : Fs) (r2 : List Ch) (av : Value),tagL E.N g A sf fs r2 = V /\ r2.length < g /\ r2 <:+ r1 /\ Once A /\ A.length + r2.length <= r1.length /\ fs.length + 8 * r2.length <= sc.fs.length + 8 * r1.length /\ TG S x E r2 (sc.fsd fs) dn w w.heap.size kind nv av A sf wr)
  case atStart => exact ⟨[],false,sc.fs,r1,_,HV0.out,Nat.lt_succ_self _,List.suffix_refl _,Once.nil,by simp,zb _,KG0.out⟩
  obtain ⟨A,sf,fs,r2,av,hv,hgl,hs2,hO,hAl,hfl,hk⟩ := hrel;obtain ⟨g0,rfl⟩ : ∃ g0,gk = g0 + 1 := ⟨gk - 1,by omega⟩;obtain ⟨ao,cap,rfl,hcp⟩ := hk.form;obtain ⟨n,hn⟩ := ex (A.length);rw [hn] at hcp hk;obtain ⟨R2,hR2⟩ := ex (skipB r2);have hRl : R2 <:+ r2 := by rw [<- hR2];exact skip_suf _
  have H2 : Hid (tagL E.N (g0 + 1) A sf fs r2 = V /\ r2.length <= g0 /\ r2 <:+ r1 /\ Once A /\ n + r2.length <= r1.length /\ fs.length + 8 * r2.length <= sc.fs.length + 8 * r1.length /\ A.length = n /\ skipB r2 = R2 /\ R2 <:+ r2) := ⟨hv,by omega,hs2,hO,by omega,hfl,hn,hR2,hRl⟩;have H3 : Hid (n <= 100000 /\ n <= cap /\ R2 <:+ F /\ (∀ d ∈ R2,0 <= d.r) /\ fs.length + 8 * R2.length + 16 <= 1000000000) := by
   obtain ⟨f1,f2,f3,f4,f5,f6⟩ := HFr.out;have l1 := hs2.length_le;have l2 := hRl.length_le;have l3 := HTV.out.2.length_le;refine ⟨by omega,hcp,hRl.trans (hs2.trans (HTV.out.2.trans f2)),suf_pos (hRl.trans (hs2.trans HTV.out.2)) f3,by omega⟩
  have hn5 : n <= 100000 := H3.out.1;clear KG0;have KG0 := hid hk;have hxr := hk.ty.tw.lt;have hyr := hk.ty.lt;clear hv hgl hs2 hO hAl hfl hk hcp hn hR2 hRl;go_wp2_with fail;go_loopg [48] r2.length (fun g _ wr => ∃ r3 : List Ch,r3.length <= g /\ skipB r3 = R2 /\ TG S x E r3 (sc.fsd fs) dn w w.heap.size kind nv (.slice ao n cap) A sf wr)
  case atStart => exact ⟨r2,zb _,H2.out.2.2.2.2.2.2.2.1,KG0.out⟩
  obtain ⟨r3,hgl,hr3,hk⟩ := hrel;clear KG0;have K0 := hid hk;have hxr := hk.ty.tw.lt;have hyr := hk.ty.lt;by_cases hb : ∃ c t,r3 = c :: t /\ blk c.r = true
  · obtain ⟨⟨er,ea,ez⟩,t2,rfl,hb⟩ := hb
    have HNX : Hid (skipB t2 = R2 /\ t2.length + 1 <= gk) := by
     rw [skipB_cons,jp hb] at hr3;exact ⟨hr3,hgl⟩
    have hb' : blk er = true := hb;clear hk hr3 hb hgl;go_wp2_with fail;refine tgx K0.out.cc fun W1 K1 hx1 hy1 => ?_;go_wp2_with fail;refine rbx er _ ?_;obtain ⟨pq,c1,c2,c3,c4,KN⟩ := K1.out.advx;go_wp2_with fail;go_roundg (gk - 1)
    case measure => have := HNX.out.2;omega
    case rel => exact ⟨t2,by have := HNX.out.2;omega,HNX.out.1,KN.out⟩
  have HRR : Hid (r3 = R2) := by
   show r3 = R2;cases r3 with
   | nil => exact hr3
   | cons c t =>
    rw [skipB_cons,jq fun h => hb ⟨c,t,rfl,h⟩] at hr3;exact hr3
  have hbv : blk (hd r3) = false := by
   cases r3 with
   | nil => decide
   | cons c t =>
    cases hbb : blk c.r with
    | false => exact hbb
    | true => exact absurd ⟨c,t,rfl,hbb⟩ hb
  clear hb hk hr3 hgl;obtain rfl := HRR.out;clear HRR;cases r3 with
  | nil =>
   have HVV : Hid (T = ([],{ sc with fs := fs ++ [(7,E.N)] },[])) := by
    show T = _;have h0 := HTV.out.1;rw [<- H2.out.1,tagL_nil H2.out.2.2.2.2.2.2.2.1] at h0;exact h0.symm
   go_wp2_with fail;refine tgx K0.out.c0 fun W1 K1 hx1 hy1 => ?_;go_wp2_with fail;refine rbx (-1) _ ?_;go_wp2_with fail;refine tgx K1.out.c0 fun W2 K2 hx2 hy2 => ?_;obtain ⟨_,_,_,_,d2⟩ := K2.out.ty.tw.c3;obtain ⟨N,hN⟩ := ex (E.N);rw [hN] at d2;rw [hN] at HVV;clear hN;go_wp2_with fail;refine (K2.out.tfl 7 N (by have := H3.out.2.2.2.2;show fs.length <= _;omega)).mono ?_;rintro e W3 ⟨rfl,k'⟩;have K3 := hid k'.ty.tw;have hx3 := k'.ty.tw.lt;clear k';go_wp2_with fail;go_ret;rw [HVV.out];exact ⟨none,[],0,rfl,rfl,zb _,TokR.nil _ _ _,K3.out⟩
  | cons d0 t2 =>
   obtain ⟨er,ea,ez⟩ := d0;have hbe : blk er = false := hbv;have he0 : 0 <= er := H3.out.2.2.2.1 ⟨er,ea,ez⟩ (by simp);have ge0 : decide (er < 0) = false := zn (by omega);clear hbv he0;by_cases h62 : er = 62
   · have g62 : (er == 62) = true := by simp [h62]
     have HVV : Hid (T = doneR (c0 :: F) kind q (sc.fsd fs) A sf fs t2) := by
      show T = _;have h0 := HTV.out.1;rw [<- H2.out.1,tagL_gt H2.out.2.2.2.2.2.2.2.1 h62] at h0;exact h0.symm
     clear h62;go_wp2_with fail;refine tgx K0.out.cc fun W1 K1 hx1 hy1 => ?_;go_wp2_with fail;refine rbx er _ ?_;go_wp2_with fail;refine tgx K1.out.cc fun W2 K2 hx2 hy2 => ?_;obtain ⟨pq,c1,c2,c3,c4,KN⟩ := K2.out.advx;obtain ⟨W3,hW3⟩ := ex (W2.setCell (jd x 1) (ji (pq + 1)));have HW3 := hid hW3;rw [hW3] at KN;have kcm := (show TG S x E t2 (sc.fsd fs) dn w w.heap.size kind (bs q) (.slice ao n cap) A sf W3 by rw [HNV.out];exact KN.out).done HFr.out.1 (by have h1 := H3.out.2.2.1.length_le;simp only [zi] at h1;omega) HFr.out.2.2.2.2.2 H2.out.2.2.2.2.2.2.1 H3.out.1 (by have := H3.out.2.2.2.2;show fs.length <= _;omega);rw [HPF.out,HNV.out] at kcm;obtain ⟨e0,_⟩ := KN.out.ty.cell 0 rfl;obtain ⟨e1,_⟩ := KN.out.ty.cell 1 rfl;obtain ⟨e2,_⟩ := KN.out.ty.cell 2 rfl;obtain ⟨e3,_⟩ := KN.out.ty.cell 3 rfl;obtain ⟨e4,_⟩ := KN.out.ty.cell 4 rfl;obtain ⟨e5,_⟩ := KN.out.ty.cell 5 rfl;obtain ⟨e6,_⟩ := KN.out.ty.cell 6 rfl;obtain ⟨e7,_⟩ := KN.out.ty.cell 7 rfl;have hx3 := KN.out.ty.tw.lt;have hy3 := KN.out.ty.lt;clear hW3;go_upto_region 16 with fail
     rw [HW3.out];clear c1 c2 c3 c4;go_wp2_with fail;refine kcm.mono ?_;rintro e w9 h9;have H9 : Hid (Tokd S x E T dn w e w9) := by
      show Tokd _ _ _ _ _ _ _ _;rw [HVV.out];exact h9
     obtain ⟨ao9,T9,cap9,rfl,_⟩ := h9;clear kcm;go_wp2_with fail;go_ret;exact H9.out
   have g62 : (er == 62) = false := by simp [h62]
   by_cases h47 : er = 47
   · have g47 : (er == 47) = true := by simp [h47]
     have HVS : Hid ((if hd t2 = 62 then tagL E.N g0 A true fs t2 else if t2 ≠ [] then tagL E.N g0 A sf (fs ++ [(12,frN E.N t2)]) t2 else tagL E.N g0 A sf fs t2) = V) := by
      have h0 := H2.out.1;rw [tagL_sl H2.out.2.2.2.2.2.2.2.1 h47] at h0;exact h0
     have HNR : Hid (t2.length < g0 /\ t2 <:+ r1 /\ Once A /\ A.length + t2.length <= r1.length /\ fs.length + 1 + 8 * t2.length <= sc.fs.length + 8 * r1.length) := by
      obtain ⟨h1,h2,h3,h4,h5,h6,h7,h8,h9⟩ := H2.out;have l1 := h9.length_le;simp only [zi] at l1;refine ⟨by omega,(zl _ _).trans (h9.trans h3),h4,by omega,by omega⟩
     clear h62 h47;go_wp2_with fail;refine tgx K0.out.cc fun W1 K1 hx1 hy1 => ?_;go_wp2_with fail;refine rbx er _ ?_;go_wp2_with fail;refine tgx K1.out.cc fun W2 K2 hx2 hy2 => ?_;obtain ⟨pq,c1,c2,c3,c4,KN⟩ := K2.out.advx;obtain ⟨W3,hW3⟩ := ex (W2.setCell (jd x 1) (ji (pq + 1)));have HW3 := hid hW3;rw [hW3] at KN;have K3 := hid KN;have hx3 := K3.out.ty.tw.lt;have hy3 := K3.out.ty.lt;clear KN hW3;go_upto_region 19 with fail
     rw [HW3.out];clear c1 c2 c3 c4 HW3;cases t2 with
     | nil =>
      have HVV : Hid (tagL E.N g0 A sf fs [] = V) := by
       have h0 := HVS.out;rw [jq (by decide),jq (by simp)] at h0;exact h0
      go_wp2_with fail;refine tgx K3.out.c0 fun W4 K4 hx4 hy4 => ?_;go_wp2_with fail;refine tgx K4.out.c0 fun W5 K5 hx5 hy5 => ?_;go_wp2_with fail;go_roundg g0
      case measure => exact Nat.lt_succ_self _
      case rel => exact ⟨A,sf,fs,[],_,HVV.out,HNR.out.1,HNR.out.2.1,HNR.out.2.2.1,HNR.out.2.2.2.1,by have := HNR.out.2.2.2.2;omega,K5.out⟩
     | cons u0 t3 =>
      obtain ⟨ur,ua,uz⟩ := u0;have hu0 : 0 <= ur := H3.out.2.2.2.1 ⟨ur,ua,uz⟩ (by simp);have gu0 : decide (ur >= 0) = true := zm (by omega);clear hu0;by_cases hu62 : ur = 62
      · have gu62 : (ur == 62) = true := by simp [hu62]
        have HVV : Hid (tagL E.N g0 A true fs (⟨ur,ua,uz⟩ :: t3) = V) := by
         have h0 := HVS.out;rw [jp (show hd (⟨ur,ua,uz⟩ :: t3) = 62 from hu62)] at h0;exact h0
        clear hu62;go_wp2_with fail;refine tgx K3.out.cc fun W4 K4 hx4 hy4 => ?_;obtain ⟨s5,s6⟩ := K4.out.ty.cell 5 rfl;have K5 := hid K4.out.self;go_wp2_with fail;go_roundg g0
        case measure => exact Nat.lt_succ_self _
        case rel => exact ⟨A,true,fs,_,_,HVV.out,HNR.out.1,HNR.out.2.1,HNR.out.2.2.1,HNR.out.2.2.2.1,by have := HNR.out.2.2.2.2;omega,K5.out⟩
      have gu62 : (ur == 62) = false := by simp [hu62]
      have HVV : Hid (tagL E.N g0 A sf (fs ++ [(12,ua)]) (⟨ur,ua,uz⟩ :: t3) = V) := by
       have h0 := HVS.out;rw [jq (show ¬ hd (⟨ur,ua,uz⟩ :: t3) = 62 from hu62),jp (by simp)] at h0;exact h0
      clear hu62;go_wp2_with fail;refine tgx K3.out.cc fun W4 K4 hx4 hy4 => ?_;go_wp2_with fail;refine tgx K4.out.cc fun W5 K5 hx5 hy5 => ?_;go_wp2_with fail;refine tgx K5.out.ba fun W6 K6 hx6 hy6 => ?_;go_wp2_with fail;refine tgx (K6.out.tfl 12 ua (by have := H3.out.2.2.2.2;show fs.length <= _;omega)) fun W7 K7 hx7 hy7 => ?_;go_wp2_with fail;go_roundg g0
      case measure => exact Nat.lt_succ_self _
      case rel => exact ⟨A,sf,(fs ++ [(12,ua)]),_,_,HVV.out,HNR.out.1,HNR.out.2.1,HNR.out.2.2.1,HNR.out.2.2.2.1,by have := HNR.out.2.2.2.2;rw [zh];exact this,K7.out⟩
   have g47 : (er == 47) = false := by simp [h47]
   obtain ⟨P,hP⟩ := ex (attrR E.N A fs (⟨er,ea,ez⟩ :: t2));have HVA : Hid (tagL E.N g0 (addA A P) sf P.2.2.1 P.2.2.2 = V) := by
    have h0 := H2.out.1;rw [tagL_at H2.out.2.2.2.2.2.2.2.1 h62 h47,hP] at h0;exact h0
   have HNR : Hid (P.2.2.2.length < g0 /\ P.2.2.2 <:+ r1 /\ Once (addA A P) /\ (addA A P).length + P.2.2.2.length <= r1.length /\ P.2.2.1.length + 8 * P.2.2.2.length <= sc.fs.length + 8 * r1.length) := by
    obtain ⟨h1,h2,h3,h4,h5,h6,h7,h8,h9⟩ := H2.out;have l1 := h9.length_le;have s1 : P.2.2.2 <:+ t2 := by
     rw [<- hP];exact attr_suf hbe h47 h62 fun d hd => H3.out.2.2.2.1 d (List.mem_cons_of_mem _ hd)
    have l2 := s1.length_le;have l3 := addA_len A P;have l4 : P.2.2.1.length + 8 * P.2.2.2.length <= fs.length + 8 * ((⟨er,ea,ez⟩ : Ch) :: t2).length := by
     rw [<- hP];exact attrR_few h4 hbe h47 h62
    simp only [zi] at l1 l4;refine ⟨by omega,s1.trans ((zl _ _).trans (h9.trans h3)),?_,by omega,by omega⟩;rw [<- hP];exact once_addA h4 E.N fs _
   have HPP := hid hP;clear h62 h47 hP;go_wp2_with fail;refine tgx K0.out.cc fun W1 K1 hx1 hy1 => ?_;go_wp2_with fail;refine rbx er _ ?_;go_wp2_with fail;refine tgx K1.out.cc fun W2 K2 hx2 hy2 => ?_;obtain ⟨e4,_⟩ := K2.out.ty.cell 4 rfl;have kat := K2.out.attr H3.out.2.2.2.1 (by have := H3.out.2.2.2.2;simp only [zi] at this;show fs.length + _ + _ <= _;omega) H2.out.2.2.2.2.2.2.1 H3.out.1 H3.out.2.1 H2.out.2.2.2.1;rw [show (sc.fsd fs).fs = fs from rfl,HPP.out] at kat;obtain ⟨⟨an,avl⟩,kp,fs2,r5⟩ := P;simp only at kat HVA HNR;go_wp2_with fail;refine kat.mono ?_;rintro e W3 ⟨rfl,k'⟩;have K3 := hid k';have hx3 := k'.ty.tw.lt;have hy3 := k'.ty.lt;clear k' kat e4;obtain ⟨nb,hnb⟩ := ex (bs an);obtain ⟨vb,hvb⟩ := ex (bs avl);have HNB := yc hnb hvb;rw [hnb,hvb];clear hnb hvb;have bA : Below W3.heap.size W3 (W3.alloc (.cells #[.string nb,.string vb] 49)) := ze _ _;obtain ⟨W4,hW4⟩ := ex (W3.alloc (.cells #[.string nb,.string vb] 49));have HW4 := hid hW4;rw [hW4] at bA;have hna : W4.heap[W3.heap.size]? = some (.cells #[.string nb,.string vb] 49 (0,0)) := by rw [<- hW4];exact zx _ _
   have K4 := hid (K3.out.below bA);have hx4 := K4.out.ty.tw.lt;have hy4 := K4.out.ty.lt;have la : W4.cell? (jd W3.heap.size 0) = some (.string nb) := by simp [World.cell?,hna]
   have lb : W4.cell? (jd W3.heap.size 1) = some (.string vb) := by simp [World.cell?,hna]
   have hl4 : W3.heap.size < W4.heap.size := (zf hna);clear hna hW4 bA;cases kp with
   | false =>
    have HVV := hid HVA.out;have HNR2 := hid (HNR.out.2.2.imp id And.left);go_upto_region 9 with fail
    rw [HW4.out];go_wp2_with fail;go_roundg g0
    case measure => exact Nat.lt_succ_self _
    case rel => exact ⟨A,sf,fs2,r5,_,HVV.out,HNR.out.1,HNR.out.2.1,HNR2.out.1,HNR2.out.2,HNR.out.2.2.2.2,K4.out⟩
   | true =>
    have HVV : Hid (tagL E.N g0 (A ++ [⟨nb,vb⟩]) sf fs2 r5 = V) := by
     have h0 := HVA.out;unfold addA at h0;rw [jp rfl] at h0;simp only at h0;rw [HNB.out.1,HNB.out.2] at h0;exact h0
    have HNR2 : Hid (Once (A ++ [⟨nb,vb⟩]) /\ (A ++ [(⟨nb,vb⟩ : At)]).length + r5.length <= r1.length) := by
     have h0 := HNR.out.2.2;unfold addA at h0;rw [jp rfl] at h0;simp only at h0;rw [HNB.out.1,HNB.out.2] at h0;exact ⟨h0.1,h0.2.1⟩
    obtain ⟨e4,_⟩ := K4.out.ty.cell 4 rfl;obtain ⟨W5,hW5⟩ := ex (W4.alloc (.cells #[.string nb,.string vb] 49));obtain ⟨ao',c',W6,hrun,k6,y4,y5,y6,y7⟩ := K4.out.grow H2.out.2.2.2.2.2.2.1 H3.out.1 nb vb W5 hW5;rw [<- hW5] at hrun;have K6 := hid k6;clear k6 hW5;go_upto_region 9 with fail
    rw [HW4.out];go_wp2_with (at_builtin;refine list_append_eq rfl _ _ 41 41 rfl _ _ rfl rfl hrun ?_);go_roundg g0
    case measure => exact Nat.lt_succ_self _
    case rel => exact ⟨_,sf,fs2,r5,_,HVV.out,HNR.out.1,HNR.out.2.1,HNR2.out.1,HNR2.out.2,HNR.out.2.2.2.2,K6.out⟩
end Go.Proofs.YtjjfalbngcbfaaaGreatDoor
