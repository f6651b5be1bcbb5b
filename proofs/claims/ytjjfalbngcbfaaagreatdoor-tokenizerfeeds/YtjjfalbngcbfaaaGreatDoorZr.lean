import Derived.Test.YtjjfalbngcbfaaaGreatDoorZ0
import Derived.Test.YtjjfalbngcbfaaaGreatDoorZq
import Derived.StillTailTactics
set_option maxHeartbeats 2000000
set_option maxRecDepth 20000
namespace Go.Proofs.YtjjfalbngcbfaaaGreatDoor
open Go.RowKit Go.Maps
variable {Z S : Nat -> Prop} {x : Nat} {m m' : Mc} {v : Vs} {T : List TL} {w W : World} {ao : Option Addr} {l : List Ch}
theorem MachV.more (h : MachV Z S x m v T w) (P : Nat -> Prop) (hl : ∀ k,P k -> k < w.heap.size) (hx : ¬ P x) (hb : ∀ (i : Nat) (r : Rw),(m.rows v T)[i]? = some r -> ∀ g,r.v.ownBlock = some g -> ¬ P g) (hm : ∀ b,v.m = .map (some b) -> ¬ P b) : MachV Z (fun k => S k \/ P k) x m v T w :=
 ⟨fun k hk => hk.elim (h.low k) (hl k),⟨fun hk => hk.elim h.hx hx,fun k hk => .inl (h.hz.2 k hk)⟩,h.hi.mono (fun _ h => .inl h),h.blk,h.bag.more (fun i r hr g hg hU => hU.elim id (fun hP => absurd hP (hb i r hr g hg))),h.names.mv (fun b e hS hU => hU.elim hS (hm b e)) (fun _ _ _ => rfl),h.trie.mono (fun _ h => .inl h),h.told,fun t ht => (h.toks t ht).mono (fun _ h => .inl h)⟩
abbrev Lets (S : Nat -> Prop) (v : Vs) : Nat -> Prop := fun k => S k \/ v.w.ownBlock = some k
theorem beg_v (h : MachV Z S x m v T w) (kind : Int) (en : Nat) (hw : m.wait ≠ []) : Calls Tryz.prog 78 #[mp x,ji kind,fn en] w (Did Z (Lets S v) x (m.beg kind en) w) := by
 have hxw := h.lt
 obtain ⟨c,l,hcl⟩ : ∃ c l,m.wait = c :: l := by
  cases e : m.wait with
  | nil => exact absurd e hw
  | cons c l => exact ⟨c,l,rfl⟩
 obtain ⟨g,cap,eg,g1,g2,hg,_,d1,_⟩ := wait_cells h 0 c (by rw [hcl];rfl)
 simp only [Nat.zero_mul,Nat.zero_add] at d1
 obtain ⟨n,hn⟩ := ex (m.wait.length)
 have hn1 : 1 <= n := by rw [<- hn,hcl];simp
 have c5 := h.cells 5 v.w rfl
 rw [eg,hn] at c5
 rw [hn] at g1
 have hp : m.w0 = c.a := by unfold Mc.w0;rw [hcl]
 have HP : Hid (Post Z (Lets S v) x (m.beg kind en) w (setAll w x [(8,ji kind),(9,ji c.a),(10,jn),(11,jn),(12,.bool false),(13,jn),(14,.map none),(15,ji 0),(16,jn),(17,jn),(18,.bool false),(5,jn),(1,fn en)])) := by
  obtain ⟨q1,q2⟩ := h.turn (m' := m.beg kind en) (v' := { v with w := jn,n := jn,t := jn,a := jn,m := .map none,an := jn,av := jn }) (T' := T) [(8,ji kind),(9,ji c.a),(10,jn),(11,jn),(12,.bool false),(13,jn),(14,.map none),(15,ji 0),(16,jn),(17,jn),(18,.bool false),(5,jn),(1,fn en)] rfl (by simp [Mc.cells,Mc.beg,Mc.noMade,hp]) (h.noMade.drop h.low 0 _ rfl 37 3) (Names.none _ _) rfl h.told h.toks;have hsz : ∀ l,(setAll w x l).heap.size = w.heap.size := fun l => setAll_size x l w;refine ⟨_,fun k hk => hk,⟨_,_,q1.more (fun k => v.w.ownBlock = some k) (fun k hk => ?_) (fun hk => h.toW.apart 0 _ rfl x hk rfl) (fun i r hr g hg hP => ?_) (fun b e => by cases e)⟩,setAll_keep (fun hk => hk.elim h.hx (fun hk => h.toW.apart 0 _ rfl x hk rfl)) _ _⟩
  · rw [hsz];exact (own_blk (h.bag.own 0 _ rfl) hk).1
  match i,hr with
  | 0,hr => simp [Mc.rows,Mc.beg,Mc.noMade] at hr;subst hr;simp [Value.ownBlock] at hg
  | 1,hr => exact h.bag.apart 0 1 _ r (by decide) rfl hr g hP hg
  | 2,hr => simp [Mc.rows,Mc.beg,Mc.noMade] at hr;subst hr;simp [Value.ownBlock] at hg
  | 3,hr => simp [Mc.rows,Mc.beg,Mc.noMade] at hr;subst hr;simp [Value.ownBlock] at hg
  | 4,hr => simp [Mc.rows,Mc.beg,Mc.noMade] at hr;subst hr;simp [Value.ownBlock] at hg
  | 5,hr => simp [Mc.rows,Mc.beg,Mc.noMade] at hr;subst hr;simp [Value.ownBlock] at hg
  | 6,hr => simp [Mc.rows,Mc.beg,Mc.noMade] at hr;subst hr;simp [Value.ownBlock] at hg
  | 7,hr => exact h.bag.apart 0 7 _ r (by decide) rfl hr g hP hg
  | 8,hr => exact h.bag.apart 0 8 _ r (by decide) rfl hr g hP hg
  | (i + 9),hr => simp [Mc.rows] at hr
 have k1 := h.cells 1 _ rfl
 have f1 := h.free 1
 have k8 := h.cells 8 _ rfl
 have f8 := h.free 8
 have k9 := h.cells 9 _ rfl
 have f9 := h.free 9
 have k10 := h.cells 10 _ rfl
 have f10 := h.free 10
 have k11 := h.cells 11 _ rfl
 have f11 := h.free 11
 have k12 := h.cells 12 _ rfl
 have f12 := h.free 12
 have k13 := h.cells 13 _ rfl
 have f13 := h.free 13
 have k14 := h.cells 14 _ rfl
 have f14 := h.free 14
 have k15 := h.cells 15 _ rfl
 have f15 := h.free 15
 have k16 := h.cells 16 _ rfl
 have f16 := h.free 16
 have k17 := h.cells 17 _ rfl
 have f17 := h.free 17
 have k18 := h.cells 18 _ rfl
 have f18 := h.free 18
 have f5 := h.free 5
 have hgx : g ≠ x := h.toW.apart 0 _ rfl g (by simp [eg,Value.ownBlock])
 obtain ⟨ca,hca⟩ := ex (c.a)
 rw [hca] at d1 HP
 clear h hp hcl hw eg hn hca
 unfold fn
 go_enter Tryz.func78,Tryz.ntmps78
 go_wp2_with fail
 refine bodyPost_end (zq rfl) rfl ?_
 exact ⟨rfl,HP.out⟩
theorem bogus_fold (m : Mc) (l : List Ch) (h : ∀ c ∈ l,c.r ≠ 62) : l.foldl Mc.inBogus m = { m with tx := m.tx ++ encs l } := by
 induction l generalizing m with
 | nil => simp [encs]
 | cons c l ih =>
  rw [List.foldl_cons,ih _ (fun d hd => h d (List.mem_cons_of_mem _ hd))];have : m.inBogus c = m.addText c.r := by unfold Mc.inBogus;rw [jq (h c List.mem_cons_self)]
  rw [this];simp [Mc.addText,encs]
structure BogW (Z : Nat -> Prop) (S : Nat -> Prop) (x : Nat) (m : Mc) (ao : Option Addr) (l : List Ch) (w W : World) : Prop where
 ex : ∃ U,(∀ k,S k -> U k) /\ Mach Z U x m W /\ Stays U W (ChRow ao l)
 keep : Keep S w W
theorem BogW.post (h : BogW Z S x m ao l w W) : Post Z S x m w W := by
 obtain ⟨U,h1,h2,_⟩ := h.ex
 exact ⟨U,h1,h2,h.keep⟩
theorem BogW.call (h : BogW Z S x m ao l w W) {f : Nat} {args : Array Value} (H : ∀ U,Mach Z U x m W -> Calls Tryz.prog f args W (Did Z U x m' W)) : Calls Tryz.prog f args W fun e W' => e = jr (.tuple #[]) /\ BogW Z S x m' ao l w W' := by
 obtain ⟨U,h1,h2,h3⟩ := h.ex
 refine (H U h2).mono ?_
 rintro e W' ⟨rfl,V,p1,p2,p3⟩
 exact ⟨rfl,⟨V,fun k hk => p1 k (h1 k hk),p2,(h3.keep p3).mono p1⟩,h.keep.trans (p3.sub h1)⟩
theorem BogW.below {W' : World} (h : BogW Z S x m ao l w W) (b : Below W.heap.size W W') : BogW Z S x m ao l w W' := by
 obtain ⟨U,h1,h2,h3⟩ := h.ex
 exact ⟨⟨U,h1,h2.below b,h3.keep (Keep.old b)⟩,h.keep.trans (Keep.old b)⟩
theorem BogW.turn {lc : List Ch} (h : BogW Z S x m ao lc w W) (l : List (Nat × Value)) (hc : ∀ v,l.foldl (fun a p => a.set! p.1 p.2) (m.cells v) = m'.cells v) (hr : ∀ v T,m'.rows v T = m.rows v T) (ha : m'.attrs = m.attrs) (ho : m'.out = m.out) : BogW Z S x m' ao lc w (setAll W x l) := by
 obtain ⟨U,h1,⟨v,T,h2⟩,h3⟩ := h.ex
 obtain ⟨q1,q2⟩ := h2.turn (m' := m') l rfl (hc v) (by rw [hr];exact h2.bag) (by rw [ha];exact h2.names) rfl (by rw [ho];exact h2.told) h2.toks
 exact ⟨⟨U,h1,⟨_,_,q1⟩,h3.keep q2⟩,h.keep.trans (q2.sub h1)⟩
theorem tot_bogf (m : Mc) (l : List Ch) : (l.foldl Mc.inBogus m).tot <= m.tot + 4 * l.length := by
 induction l generalizing m with
 | nil => simp
 | cons c l ih =>
  rw [List.foldl_cons,zi];have h1 := ih (m.inBogus c);have h2 : (m.inBogus c).tot <= m.tot + 4 := by
   unfold Mc.inBogus;split
   · have := tot_tellMade m c.z;omega
   exact tot_addText m c.r
  omega
theorem bogus_v (h : MachV Z S x m v T w) (hw : m.wait ≠ []) {ao : Option Addr} {l : List Ch} (n cap : Nat) (hl : Stays (Lets S v) w (ChRow ao l)) (hln : l.length = n) (hnn : n <= 10000000) (hgt : ∀ c ∈ l.dropLast,c.r ≠ 62) (hn : m.tot <= 440000000) : Calls Tryz.prog 114 #[mp x,.slice ao n cap] w (Did Z S x (m.bogus l) w) := by
 have hxw := h.lt
 have HL := yd hl hln hgt
 have HB := beg_v h 4 146 hw
 have HT : Hid ((m.beg 4 146).tot <= m.tot) := tot_beg m 4 146
 clear h hl hln hgt
 go_enter Tryz.func114,Tryz.ntmps114
 go_wp2_with fail
 refine HB.mono ?_
 rintro e w1 ⟨rfl,U,u1,u2,u3⟩
 have hx1 := u2.low
 have s0 : ∃ u,w1.cell? (jd x 0) = some u /\ w1.frozen? (jd x 0) = false := by
  obtain ⟨v2,T2,u4⟩ := u2;exact ⟨_,u4.cells 0 _ rfl,u4.free 0⟩
 obtain ⟨u0,s0,s1⟩ := s0
 have b1 : BogW Z S x (m.beg 4 146) ao l w w1 := ⟨⟨U,fun k hk => u1 k (.inl hk),u2,(HL.out.1.keep u3).mono u1⟩,u3.sub (fun k hk => .inl hk)⟩
 have B2 : Hid (BogW Z S x { m.beg 4 146 with st := 147 } ao l w (w1.setCell (jd x 0) (.func (.func 147) #[] #[]))) := b1.turn [(0,fn 147)] (fun v => by simp [Mc.cells]) (fun _ _ => rfl) rfl rfl
 clear HB u1 u2 u3 b1
 go_wp2_with fail
 go_loopg [13] n (fun g2 iv wr => ∃ (i : Nat),iv = ji i /\ i + g2 = n /\ BogW Z S x ((l.take i).foldl Mc.inBogus { m.beg 4 146 with st := 147 }) ao l w wr)
 case atStart => exact ⟨0,rfl,by omega,B2.out⟩
 obtain ⟨i,rfl,hig,hI⟩ := hrel
 have HI := hid hI
 obtain ⟨_,hxr,_,_⟩ := hI.post.mach
 clear B2 s0 s1 hx1
 cases gk with
 | zero =>
  obtain rfl : i = n := by omega
  have hg0 : decide ((i : Int) < (i : Int)) = false := zn (by omega);clear hI;go_wp2_with fail;refine bodyPost_end (zq rfl) rfl ?_;refine ⟨rfl,?_⟩;have h1 := HI.out.post;rw [List.take_of_length_le (by rw [HL.out.2.1];exact zb _)] at h1;exact h1
 | succ k =>
  have hin : i < n := by omega
  obtain ⟨c,hc⟩ : ∃ c,l[i]? = some c := ⟨_,zy (by rw [HL.out.2.1];exact hin)⟩
  have hne : ∀ d ∈ l.take i,d.r ≠ 62 := fun d hd => HL.out.2.2 d (by
   rw [List.dropLast_eq_take];obtain ⟨j,hj,e⟩ := List.getElem_of_mem hd;rw [List.length_take] at hj;rw [List.getElem_take] at e;rw [<- e];refine List.mem_of_getElem? (i := j) ?_;rw [List.getElem?_take_of_lt (by rw [HL.out.2.1];omega)]
   exact zy _)
  have HF : Hid ((l.take (i + 1)).foldl Mc.inBogus { m.beg 4 146 with st := 147 } = ((l.take i).foldl Mc.inBogus { m.beg 4 146 with st := 147 }).inBogus c) := by
   obtain ⟨h1,rfl⟩ := List.getElem?_eq_some_iff.1 hc;show _ = _;rw [<- List.take_append_getElem h1,List.foldl_append];rfl
  obtain ⟨U2,v1,v2,v3⟩ := hI.ex;obtain ⟨bk,off,rfl,g1,g2,g3,g4⟩ := v3.now i c hc;have hst : wr.cell? (jd x 0) = some (.func (.func 147) #[] #[]) := by
   obtain ⟨v9,T9,u9⟩ := v2;have := u9.cells 0 _ rfl;rw [bogus_fold _ _ hne] at this;exact this
  obtain ⟨r,p,q⟩ := c;simp only at g2 g3 g4;obtain ⟨Wb,hWb⟩ := ex (wr.alloc (.cells #[ji r,ji p,ji q] 37));have b0 : Below wr.heap.size wr Wb := by rw [<- hWb];exact ze _ _
  have hnew : Wb.heap[wr.heap.size]? = some (.cells #[ji r,ji p,ji q] 37 (0,0)) := by rw [<- hWb];exact zx _ _
  have d0 : Wb.cell? (jd wr.heap.size 0) = some (ji r) := by simp [World.cell?,hnew]
  have d1 : Wb.cell? (jd wr.heap.size 1) = some (ji p) := by simp [World.cell?,hnew]
  have d2 : Wb.cell? (jd wr.heap.size 2) = some (ji q) := by simp [World.cell?,hnew]
  have hst2 : Wb.cell? (jd x 0) = some (.func (.func 147) #[] #[]) := (b0.cell (p := (jd x 0)) hxr).trans hst;have hxb : x < Wb.heap.size := zo hxr b0.size;have hbb : wr.heap.size < Wb.heap.size := (zf hnew);have HK := hid (HI.out.below b0);have htot := tot_bogf { m.beg 4 146 with st := 147 } (l.take i);rw [List.length_take] at htot;have HTT : Hid (((l.take i).foldl Mc.inBogus { m.beg 4 146 with st := 147 }).tot <= 500000000) := by
   have h3 : ({ m.beg 4 146 with st := 147 } : Mc).tot <= m.tot := HT.out;show _ <= _;omega
  clear hI v1 v2 v3 b0 hnew hst htot hne hc;go_wp2_with fail;go_still_tail 6,(show Tryz.prog.follows .mixedOrders = true by kernel_rfl);go_wp2_with fail;refine ((HK.out.below ((Below.refl _ _).drew)).call (fun U h => inBogus_any h ⟨r,p,q⟩ HTT.out)).mono ?_;rintro e w3 ⟨rfl,k3⟩;have K3 : Hid (BogW Z S x ((l.take (i + 1)).foldl Mc.inBogus { m.beg 4 146 with st := 147 }) (some (jd bk off)) l w w3) := by
   show BogW Z _ _ _ _ _ _ _;rw [HF.out];exact k3
  clear k3 hWb d0 d1 d2 hst2 g2 g3 g4 hbb hxb;go_wp2_with fail;go_roundg k
  case measure => omega
  case rel => exact ⟨i + 1,by go_num,by omega,K3.out⟩
theorem en81 : Enters 81 := enters_of Tryz.func81 (by kernel_rfl) rfl
theorem bogus_one {U : Nat -> Prop} {V : World} (h : Mach Z U x m W) (c : Ch) (hV : W.alloc (.cells #[ji c.r,ji c.a,ji c.z] 37) = V) (hw : m.wait ≠ []) (hn : m.tot <= 440000000) : Calls Tryz.prog 114 #[mp x,.slice (some (jd W.heap.size 0)) 1 1] V (Did Z U x (m.bogus [c]) W) := by
 have b0 : Below W.heap.size W V := by rw [<- hV];exact ze _ _
 have hnew : V.heap[W.heap.size]? = some (.cells #[ji c.r,ji c.a,ji c.z] 37 (0,0)) := by rw [<- hV];exact zx _ _
 have hlt : W.heap.size < V.heap.size := (zf hnew)
 obtain ⟨v,T,h⟩ := h
 have h1 := h.one b0 hlt
 have hrow : Stays (Lets (fun k => U k \/ k = W.heap.size) v) V (ChRow (some (jd W.heap.size 0)) [c]) := fun w' k i d hd => by
  have hi : i = 0 := by
   have := (zg hd);simpa using this
  subst hi;simp at hd;subst hd;have hk := (k.block W.heap.size (.inl (.inr rfl)) hlt).trans hnew;refine ⟨_,_,rfl,(zf hk),?_,?_,?_⟩
  all_goals simp [World.cell?,hk]
 refine (bogus_v h1 hw 1 1 hrow rfl (by decide) (by simp) hn).mono ?_
 rintro e w' ⟨rfl,p⟩
 exact ⟨rfl,Post.go (fun k hk => .inl hk) (Keep.old b0) p⟩
theorem bogusAgain_1 (h : Mach Z S x m w) (r p q : Int) (hw : m.wait ≠ []) (hn : m.tot <= 430000000) : Dz Z S x w 82 ⟨r,p,q⟩ (m.bogusAgain ⟨r,p,q⟩) := by
 obtain ⟨W0,hW0,k0⟩ := Walk.start h ⟨r,p,q⟩
 have hxw := h.low
 obtain ⟨hb0,d0,d1,d2⟩ := k0.box
 have hx0 := k0.lt
 have K0 := hid k0
 clear h k0
 go_enter Tryz.func82,Tryz.ntmps82
 go_wp2_with fail
 refine (K0.out.call (fun U h => fault_any h 14 p (by omega))).mono ?_
 rintro e W1 ⟨rfl,k1⟩
 have K1 := hid k1
 clear hb0 d0 d1 d2 hx0
 obtain ⟨hb1,d0,d1,d2⟩ := k1.box
 have hx1 := k1.lt
 obtain ⟨V,hV⟩ := ex (W1.alloc (.cells #[ji r,ji p,ji q] 37))
 clear k1
 go_wp2_with fail
 obtain ⟨U,u1,u2,_⟩ := K1.out.ex
 refine (bogus_one u2 ⟨r,p,q⟩ hV hw (by have := tot_fault m 14 p;omega)).mono ?_
 rintro e W2 ⟨rfl,p2⟩
 have P2 : Hid (Post Z S x (m.bogusAgain ⟨r,p,q⟩) w W2) := Post.go u1 K1.out.keep p2
 clear p2 u1 u2
 go_wp2_with fail
 refine bodyPost_end (zq rfl) rfl ?_
 exact ⟨rfl,P2.out⟩
theorem tagOpen_1 (h : Mach Z S x m w) (p q : Int) (_hn : m.tot <= 420000000) : Dz Z S x w 49 ⟨33,p,q⟩ (m.tagOpen ⟨33,p,q⟩) := by
 have HE := hid (show (m.tagOpen ⟨33,p,q⟩) = ({ m with st := 73,en := 74 } : Mc) by simp [Mc.tagOpen])
 obtain ⟨W0,_,_,hb0,_,_,_,hx0,_,_,_,_,_,K0⟩ := Walk.on h 33 p q
 clear h
 go_enter Tryz.func49,Tryz.ntmps49
 have K1 := hid (K0.out.st 73)
 have hb1 := hb0
 have hx1 := hx0
 have K2 := hid (K1.out.en 74)
 have hb2 := hb1
 have hx2 := hx1
 go_wp2_with fail
 exact ⟨rfl,_,zq rfl,rfl,wke HE K2⟩
theorem tagOpen_2 (h : Mach Z S x m w) (p q : Int) (hn : m.tot <= 420000000) : Dz Z S x w 49 ⟨47,p,q⟩ (m.tagOpen ⟨47,p,q⟩) := by
 have HE := hid (show (m.tagOpen ⟨47,p,q⟩) = ({ (m.hold ⟨47,p,q⟩) with st := 75,en := 76 } : Mc) by simp [Mc.tagOpen])
 apply won h 47 p q;clear h;intro W0 K0;intros
 go_enter Tryz.func49,Tryz.ntmps49
 go_wp2_with fail
 refine wkx (K0.out.call (fun U h => hold_any h ⟨47,p,q⟩ (by show m.tot <= _;omega))) fun W1 K1 hb1 _ _ _ hx1 _ _ _ _ => ?_
 have K2 := hid (K1.out.st 75)
 have hb2 := hb1
 have hx2 := hx1
 have K3 := hid (K2.out.en 76)
 have hb3 := hb2
 have hx3 := hx2
 go_wp2_with fail
 exact ⟨rfl,_,zq rfl,rfl,wke HE K3⟩
theorem tagOpen_3 (h : Mach Z S x m w) (r p q : Int) (hlt : ltr r = true) (h33 : (r == 33) = false) (h47 : (r == 47) = false) (hw : m.wait ≠ []) (hn : m.tot <= 420000000) : Dz Z S x w 49 ⟨r,p,q⟩ (m.tagOpen ⟨r,p,q⟩) := by
 have HE := hid (show (m.tagOpen ⟨r,p,q⟩) = (({ (m.beg 2 79) with st := 81 } : Mc).tagName ⟨r,p,q⟩) by simp at h33 h47;simp [Mc.tagOpen,hlt,h33,h47])
 apply won h r p q;clear h;intro W0 K0;intros
 go_enter Tryz.func49,Tryz.ntmps49
 go_wp2_with (go_at_call 77;refine smx (letter_as r true _ hlt) ?_)
 refine wky K0 (fun U h => beg_any h 2 79 hw) ?_;intro W1 K1;intros
 go_wp2_with fail
 refine wky K1 (fun U h => again_any 81 en81 h ⟨r,p,q⟩ (fun U W h => tagName_any h ⟨r,p,q⟩ (by show (m.beg 2 79).tot <= _;have t0 := tot_beg m 2 79;omega))) ?_;intro W2 K2;intros
 go_wp2_with fail
 exact ⟨rfl,_,zq rfl,rfl,wke HE K2⟩
theorem tagOpen_4 (h : Mach Z S x m w) (p q : Int) (hw : m.wait ≠ []) (hn : m.tot <= 420000000) : Dz Z S x w 49 ⟨63,p,q⟩ (m.tagOpen ⟨63,p,q⟩) := by
 have HE := hid (show (m.tagOpen ⟨63,p,q⟩) = (m.bogusAgain ⟨63,p,q⟩) by simp [Mc.tagOpen,show ltr 63 = false from rfl])
 have hlt : ltr 63 = false := rfl
 apply won h 63 p q;clear h;intro W0 K0;intros
 go_enter Tryz.func49,Tryz.ntmps49
 go_wp2_with (go_at_call 77;refine smx (letter_as 63 false _ hlt) ?_)
 refine wky K0 (fun U h => bogusAgain_1 h 63 p q hw (by show m.tot <= _;omega)) ?_;intro W1 K1;intros
 go_wp2_with fail
 exact ⟨rfl,_,zq rfl,rfl,wke HE K1⟩
theorem tagOpen_5 (h : Mach Z S x m w) (r p q : Int) (hlt : ltr r = false) (h33 : (r == 33) = false) (h47 : (r == 47) = false) (h63 : (r == 63) = false) (hn : m.tot <= 420000000) : Dz Z S x w 49 ⟨r,p,q⟩ (m.tagOpen ⟨r,p,q⟩) := by
 have HE := hid (show (m.tagOpen ⟨r,p,q⟩) = ((m.fault 5 (p)).dataAgain ⟨r,p,q⟩) by simp at h33 h47 h63;simp [Mc.tagOpen,hlt,h33,h47,h63])
 apply won h r p q;clear h;intro W0 K0;intros
 go_enter Tryz.func49,Tryz.ntmps49
 go_wp2_with (go_at_call 77;refine smx (letter_as r false _ hlt) ?_)
 refine wky K0 (fun U h => fault_any h 5 p (by show m.tot <= _;omega)) ?_;intro W1 K1;intros
 go_wp2_with fail
 refine wky K1 (fun U h => dataAgain_any h ⟨r,p,q⟩ (by show (m.fault 5 (p)).tot <= _;have t0 := tot_fault m 5 (p);omega)) ?_;intro W2 K2;intros
 go_wp2_with fail
 exact ⟨rfl,_,zq rfl,rfl,wke HE K2⟩
theorem tagOpen_any (h : Mach Z S x m w) (c : Ch) (hw : m.wait ≠ []) (hn : m.tot <= 420000000) : Dz Z S x w 49 c (m.tagOpen c) := by
 obtain ⟨r,p,q⟩ := c
 by_cases h33 : r = 33
 · subst h33
   exact tagOpen_1 h p q hn
 by_cases h47 : r = 47
 · subst h47
   exact tagOpen_2 h p q hn
 cases hlt : ltr r with
 | true => exact tagOpen_3 h r p q hlt (by simpa using h33) (by simpa using h47) hw hn
 | false =>
  by_cases h63 : r = 63
  · subst h63
    exact tagOpen_4 h p q hw hn
  exact tagOpen_5 h r p q hlt (by simpa using h33) (by simpa using h47) (by simpa using h63) hn
theorem endOpen_1 (h : Mach Z S x m w) (r p q : Int) (hlt : ltr r = true) (hw : m.wait ≠ []) (hn : m.tot <= 420000000) : Dz Z S x w 75 ⟨r,p,q⟩ (m.endOpen ⟨r,p,q⟩) := by
 have HE := hid (show (m.endOpen ⟨r,p,q⟩) = (({ (m.beg 3 79) with st := 81 } : Mc).tagName ⟨r,p,q⟩) by simp [Mc.endOpen,hlt])
 apply won h r p q;clear h;intro W0 K0;intros
 go_enter Tryz.func75,Tryz.ntmps75
 go_wp2_with (go_at_call 77;refine smx (letter_as r true _ hlt) ?_)
 refine wky K0 (fun U h => beg_any h 3 79 hw) ?_;intro W1 K1;intros
 go_wp2_with fail
 refine wky K1 (fun U h => again_any 81 en81 h ⟨r,p,q⟩ (fun U W h => tagName_any h ⟨r,p,q⟩ (by show (m.beg 3 79).tot <= _;have t0 := tot_beg m 3 79;omega))) ?_;intro W2 K2;intros
 go_wp2_with fail
 exact ⟨rfl,_,zq rfl,rfl,wke HE K2⟩
theorem endOpen_2 (h : Mach Z S x m w) (p q : Int) (hn : m.tot <= 420000000) : Dz Z S x w 75 ⟨62,p,q⟩ (m.endOpen ⟨62,p,q⟩) := by
 have HE := hid (show (m.endOpen ⟨62,p,q⟩) = (m.fault 6 (p)).toData by simp [Mc.endOpen,show ltr 62 = false from rfl])
 have hlt : ltr 62 = false := rfl
 apply won h 62 p q;clear h;intro W0 K0;intros
 go_enter Tryz.func75,Tryz.ntmps75
 go_wp2_with (go_at_call 77;refine smx (letter_as 62 false _ hlt) ?_)
 refine wky K0 (fun U h => fault_any h 6 p (by show m.tot <= _;omega)) ?_;intro W1 K1;intros
 go_wp2_with fail
 refine wky K1 (fun U h => toData_any h) ?_;intro W2 K2;intros
 go_wp2_with fail
 exact ⟨rfl,_,zq rfl,rfl,wke HE K2⟩
theorem endOpen_3 (h : Mach Z S x m w) (r p q : Int) (hlt : ltr r = false) (h62 : (r == 62) = false) (hw : m.wait ≠ []) (hn : m.tot <= 420000000) : Dz Z S x w 75 ⟨r,p,q⟩ (m.endOpen ⟨r,p,q⟩) := by
 have HE := hid (show (m.endOpen ⟨r,p,q⟩) = (m.bogusAgain ⟨r,p,q⟩) by simp at h62;simp [Mc.endOpen,hlt,h62])
 apply won h r p q;clear h;intro W0 K0;intros
 go_enter Tryz.func75,Tryz.ntmps75
 go_wp2_with (go_at_call 77;refine smx (letter_as r false _ hlt) ?_)
 refine wky K0 (fun U h => bogusAgain_1 h r p q hw (by show m.tot <= _;omega)) ?_;intro W1 K1;intros
 go_wp2_with fail
 exact ⟨rfl,_,zq rfl,rfl,wke HE K1⟩
theorem endOpen_any (h : Mach Z S x m w) (c : Ch) (hw : m.wait ≠ []) (hn : m.tot <= 420000000) : Dz Z S x w 75 c (m.endOpen c) := by
 obtain ⟨r,p,q⟩ := c
 cases hlt : ltr r with
 | true => exact endOpen_1 h r p q hlt hw hn
 | false =>
  by_cases h62 : r = 62
  · subst h62
    exact endOpen_2 h p q hn
  exact endOpen_3 h r p q hlt (by simpa using h62) hw hn
theorem conv_str (s : ByteArray) (w : World) (hs : s.size <= 1000000000) : ∃ cap W1,(convert 9 67 (.string s)).run Tryz.prog w = .ok (.slice (some (jd w.heap.size 0)) s.size cap) W1 /\ OwnQ W1 true 5 1 (.slice (some (jd w.heap.size 0)) s.size cap) s.size (Lib.byteCells s.data.toList) /\ Below w.heap.size w W1 := by
 have hc := run_bytes_of_string (P := Tryz.prog) w 9 67 5 s Tryz.underlying9 Tryz.underlying67 Tryz.underlying5
 have hge := grownCap_ge w s.size 0 5
 have hle := grownCap_le_maxLen w s.size 0 5 (by unfold maxLen;omega)
 obtain ⟨c,hcc⟩ := ex (grownCap w s.size 0 5)
 rw [hcc] at hc hge hle
 have hsz : (bytesRow s c).size = c := by
  unfold bytesRow;simp;have : s.data.size = s.size := rfl;omega
 have hlen : s.data.toList.length = s.size := zw
 refine ⟨c,_,hc,⟨by rw [Lib.byteCells_length,hlen,Nat.mul_one],.inr ⟨w.heap.size,c,bytesRow s c,_,rfl,zx w.drew _,.inr ⟨rfl,zb _⟩,hge,hle,by rw [hsz,Nat.mul_one],?_⟩⟩,((Below.refl _ _).drew).alloc (zb _) _⟩
 unfold bytesRow
 rw [Nat.mul_one,Array.toList_append,List.take_append_of_le_length (by simp)]
 rw [List.take_of_length_le (by simp)]
 simp [Lib.byteCells]
theorem two_set {v : Value} {a b : Ch} (h : Rw.own w (rwC v [a,b])) (c d : Ch) : ∃ g cap,v = .slice (some (jd g 0)) 2 cap /\ 2 <= cap /\ cap <= maxLen /\ v.ownBlock = some g /\ (∀ i,i < 6 -> ∃ u,w.cell? (jd g i) = some u /\ w.frozen? (jd g i) = false) /\
 Rw.own (setAll w g [(0,ji c.r),(1,ji c.a),(2,ji c.z),(3,ji d.r),(4,ji d.a),(5,ji d.z)]) (rwC v [c,d]) := by
 rcases h.2 with ⟨_,h0⟩ | ⟨g,cap,cur,z,e,hg,hz,h1,h2,h3,h4⟩
 · simp at h0
 have hz0 : z = (0,0) := by
  rcases hz with hz | ⟨hz,_⟩
  · exact hz
  cases hz
 subst hz0
 simp only [zi,zj] at e h1 h3
 have h6 : 6 <= cur.size := by omega
 refine ⟨g,cap,e,h1,h2,by simp [e,Value.ownBlock],fun i hi => ⟨cur[i]'(by omega),?_,?_⟩,rfl,.inr ⟨g,cap,_,_,e,setAll_blk g _ w _ _ _ hg,.inl rfl,h1,h2,?_,?_⟩⟩
 · simp [World.cell?,hg]
 · simp [World.frozen?,hg]
 · simp [h3]
 obtain ⟨l,hl⟩ := ex (cur.toList)
 have hll : 6 <= l.length := by rw [<- hl,zw];exact h6
 match l,hll with
 | x0 :: x1 :: x2 :: x3 :: x4 :: x5 :: rest,_ =>
  have hcur : cur = (x0 :: x1 :: x2 :: x3 :: x4 :: x5 :: rest).toArray := by rw [<- hl]
  subst hcur;simp [G4.Ch.cells]
end Go.Proofs.YtjjfalbngcbfaaaGreatDoor
