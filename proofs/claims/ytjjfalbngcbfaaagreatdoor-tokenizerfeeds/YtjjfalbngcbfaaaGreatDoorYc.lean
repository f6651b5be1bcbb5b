import Derived.Test.YtjjfalbngcbfaaaGreatDoorZ0
import Derived.Test.YtjjfalbngcbfaaaGreatDoorYb
import Derived.Test.YtjjfalbngcbfaaaGreatDoorZg
set_option maxHeartbeats 4000000
set_option maxRecDepth 20000
namespace Go.Proofs.YtjjfalbngcbfaaaGreatDoor
open Go.RowKit
variable {Z S : Nat -> Prop} {x n : Nat} {m m' : Mc} {w W : World} {ov : Value} {T : List TL}
structure Sess (Z : Nat -> Prop) (S : Nat -> Prop) (x : Nat) (m : Mc) (ov : Value) (T : List TL) (w W : World) : Prop where
 ex : ∃ U v,(∀ k,S k -> U k) /\ MachV Z U x m v [] W /\ v.o = jn /\ Rw.own W (rwT ov T) /\ (∀ g,ov.ownBlock = some g -> U g /\ ¬ S g) /\ (T = [] -> ov = jn) /\ ∀ t ∈ T,Stays U W fun w => TkS Z w t.1 t.2
 keep : Keep S w W
 zs : ∀ k,Z k -> S k
structure SessX (Z : Nat -> Prop) (S : Nat -> Prop) (x : Nat) (m : Mc) (ov : Value) (T : List TL) (ao : Option Addr) (T' : List TL) (w W : World) : Prop where
 ex : ∃ U v,(∀ k,S k -> U k) /\ MachV Z U x m v [] W /\ v.o = jn /\ Rw.own W (rwT ov T) /\ (∀ g,ov.ownBlock = some g -> U g /\ ¬ S g) /\ (T = [] -> ov = jn) /\ (∀ t ∈ T,Stays U W fun w => TkS Z w t.1 t.2) /\ (Stays U W fun w => TkRowS Z w ao T') /\ ∀ b o,ao = some (jd b o) -> ov.ownBlock ≠ some b
 keep : Keep S w W
 zs : ∀ k,Z k -> S k
theorem Sess.start (h : MachN Z S x m w) : Sess Z S x m jn [] w w := by
 obtain ⟨v,h,e⟩ := h
 exact ⟨⟨S,v,fun _ h => h,h,e,⟨rfl,.inl ⟨rfl,rfl⟩⟩,fun g hg => (by simp [Value.ownBlock] at hg),fun _ => rfl,fun t ht => (by cases ht)⟩,Keep.refl _ _,h.hz.2⟩
theorem Sess.lt (h : Sess Z S x m ov T w W) : x < W.heap.size := by
 obtain ⟨U,v,_,h2,_⟩ := h.ex
 exact h2.lt
def Fed (Z : Nat -> Prop) (S : Nat -> Prop) (x : Nat) (m : Mc) (ov : Value) (T : List TL) (L : List Pt) (w : World) (e : Ending) (W' : World) : Prop :=
 ∃ T' ao cap,e = jr (.slice ao T'.length cap) /\ T'.map ptOf = L /\ T'.length <= cap /\ SessX Z S x m ov T ao T' w W'
theorem Sess.gave (h : Sess Z S x m ov T w W) {f : Nat} {args : Array Value} {L : List Pt} (H : ∀ U,Mach Z U x m W -> Calls Tryz.prog f args W (Gave Z U x m' L W)) : Calls Tryz.prog f args W (Fed Z S x m' ov T L w) := by
 obtain ⟨U,v,s1,h1,hv,ho,hb,hT,ht⟩ := h.ex
 refine (H U ⟨v,[],h1⟩).mono ?_
 rintro e W' ⟨U2,T',ao,cap,rfl,p1,p2,p3,⟨v2,p4,p5⟩,p6,p7,p8⟩
 refine ⟨T',ao,cap,rfl,p1,p2,⟨⟨U2,v2,fun k hk => p3 k (s1 k hk),p4,p5,own_mv ho fun g hg => p6.block g (hb g hg).1 (own_blk ho hg).1,fun g hg => ⟨p3 g (hb g hg).1,(hb g hg).2⟩,hT,fun t hm => ((ht t hm).keep p6).mono p3,p7,fun b o e hg => p8 b o e (hb b hg).1⟩,h.keep.trans (p6.sub s1),h.zs⟩⟩
theorem Sess.call (h : Sess Z S x m ov T w W) {f : Nat} {args : Array Value} (H : ∀ U v,MachV Z U x m v [] W -> Calls Tryz.prog f args W (DidV Z U x m' v [] W)) : Calls Tryz.prog f args W fun e W' => e = jr (.tuple #[]) /\ Sess Z S x m' ov T w W' := by
 obtain ⟨U,v,s1,h1,hv,ho,hb,hT,ht⟩ := h.ex
 refine (H U v h1).mono ?_
 rintro e W' ⟨rfl,p4,p6⟩
 exact ⟨rfl,⟨U,v,s1,p4,hv,own_mv ho fun g hg => p6.block g (hb g hg).1 (own_blk ho hg).1,hb,hT,fun t hm => (ht t hm).keep p6⟩,h.keep.trans (p6.sub s1),h.zs⟩
theorem Sess.below {W' : World} (h : Sess Z S x m ov T w W) (b : Below W.heap.size W W') : Sess Z S x m ov T w W' := by
 obtain ⟨U,v,s1,h1,hv,ho,hb,hT,ht⟩ := h.ex
 exact ⟨⟨U,v,s1,h1.below b,hv,own_mv ho fun g hg => b.block g (own_blk ho hg).1,hb,hT,fun t hm => (ht t hm).keep (Keep.old b)⟩,h.keep.trans (Keep.old b),h.zs⟩
theorem SessX.app {T' : List TL} {ao : Option Addr} (h : SessX Z S x m ov T ao T' w W) (c : Nat) (hn : T.length + T'.length <= 1000000000000) :
 ∃ ov' W',(Builtin.append_ #[24,24] 24 #[ov,.slice ao T'.length c]).run Tryz.prog W = .ok ov' W' /\ Sess Z S x m ov' (T ++ T') w W' /\ TkRowS Z W' ao T' := by
 obtain ⟨U,v,s1,h1,hv,ho,hb,hT,ht,hr,hne⟩ := h.ex
 obtain ⟨ov',W',hrun,q1,q2,q3,q4⟩ := out_app ho ao c hr.now hn
 refine ⟨ov',W',hrun,?_⟩
 by_cases h0 : T' = []
 · obtain ⟨rfl,rfl⟩ := q4 h0
   subst h0;rw [zu];exact ⟨⟨⟨U,v,s1,h1,hv,ho,hb,hT,ht⟩,h.keep,h.zs⟩,TkRowS.nil _ _⟩
 have hog : ∀ g,ov.ownBlock = some g -> TkBlock W g /\ U g := fun g hg => by
  refine ⟨?_,(hb g hg).1⟩;cases T with
  | nil => rw [hT rfl] at hg;simp [Value.ownBlock] at hg
  | cons t T =>
   rcases ho.2 with ⟨e,_⟩ | ⟨g',cap,cur,z,e,hg',_,_,_,_,htake⟩
   · simp only at e
     rw [e] at hg;simp [Value.ownBlock] at hg
   simp only at e hg' htake;rw [e] at hg;simp [Value.ownBlock] at hg;subst hg;have hc := tk_cell (t :: T) 0 0 t rfl (by decide);rw [<- htake,List.getElem?_take_of_lt (by simp),Array.getElem?_toList] at hc;exact ⟨cur,z,t.1.k,hg',by simp [World.cell?,hg'];simpa using hc⟩
 have hon : ∀ g,ov'.ownBlock = some g -> (ov.ownBlock = some g \/ W.heap.size <= g) /\ g < W'.heap.size := fun g hg => ⟨fresh_of q3 g hg,(own_blk q1 hg).1⟩
 have hlt : ∀ g,ov.ownBlock = some g -> g < W.heap.size := fun g hg => (hog g hg).1.lt
 have hkS : Keep S W W' := Keep.grown q2 fun g hg => (hb g hg).2
 have htk : ∀ t ∈ T ++ T',Stays (fun k => (U k /\ ov.ownBlock ≠ some k) \/ ov'.ownBlock = some k) W' fun w => TkS Z w t.1 t.2 := fun t hm => by
  have : Stays U W fun w => TkS Z w t.1 t.2 := by
   rcases List.mem_append.1 hm with hm | hm
   · exact ht t hm
   exact hr.imp fun w' h => h.2 t hm
  exact this.swap hlt (fun a b hab H => tks_but (fun g e => (hog g e).1) hab H) q2
 refine ⟨⟨⟨_,v,fun k hk => ?_,h1.swap (on := ov'.ownBlock) hog hon q2 (fun g e hz => (hb g e).2 (h.zs g hz)),hv,q1,fun g hg => ⟨.inr hg,?_⟩,fun e => ?_,htk⟩,h.keep.trans hkS,h.zs⟩,⟨fun i t hi => ?_,fun t hm => (htk t (List.mem_append_right _ hm)).now⟩⟩
 · exact .inl ⟨s1 k hk,fun e => (hb k e).2 hk⟩
 · rcases (hon g hg).1 with e | e
   · exact (hb g e).2
   intro hS;have := h1.low g (s1 g hS);omega
 · simp [h0] at e
 obtain ⟨⟨b,off,e,hbl,hc⟩,_⟩ := hr.now.1 i t hi
 have hbb : W'.heap[b]? = W.heap[b]? := q2.block b hbl fun e2 => hne b off e e2.symm
 refine ⟨⟨b,off,e,zo hbl q2.size,fun j u hj => ?_⟩,((htk t (List.mem_append_right _ (List.mem_of_getElem? hi))).now).1⟩
 rw [<- hc j u hj]
 simp [World.cell?,hbb]
def lastStart (L : List Pt) : Option ByteArray := match L.getLast? with
 | some t => if t.k = 2 then some t.nm else none
 | none => none
def Mc.auto (b : Bool) (L : List Pt) (m : Mc) : Mc := if b = true then (match lastStart L with | some nm => m.set (G7.textK nm) | none => m) else m
def fdStep (b : Bool) (p : List Pt × Mc) (c : Ch) : List Pt × Mc := (p.1 ++ (p.2.feed c).1,Mc.auto b (p.2.feed c).1 (p.2.feed c).2)
def Mc.feeds (b : Bool) (l : List Ch) (m : Mc) : List Pt × Mc := l.foldl (fdStep b) ([],m)
theorem auto_good (b : Bool) (L : List Pt) (h : Good n m) : Good n (Mc.auto b L m) := by
 unfold Mc.auto
 split
 · split
   · exact set_good h _
   exact h
 exact h
theorem feed_len (h : Good n m) (c : Ch) (hn : n < 20000) : (m.feed c).1.length <= 300000 := by
 have h1 := (step_good h c).w.mu
 have : (m.step c).out.length <= (m.step c).mu := by unfold Mc.mu;omega
 show (m.step c).out.length <= _
 omega
theorem feeds_snoc (b : Bool) (l : List Ch) (c : Ch) (m : Mc) : Mc.feeds b (l ++ [c]) m = fdStep b (Mc.feeds b l m) c := by simp [Mc.feeds,List.foldl_append]
theorem feedsF_good (b : Bool) : ∀ (l : List Ch) (n : Nat) (p : List Pt × Mc),Good n p.2 -> Good (n + l.length) (l.foldl (fdStep b) p).2
 | [],n,p,h => h
 | c :: l,n,p,h => by
  have := feedsF_good b l (n + 1) (fdStep b p c) (auto_good b (p.2.feed c).1 (feed_good h c));rw [zi,show n + (l.length + 1) = n + 1 + l.length by omega];exact this
theorem feeds_good (b : Bool) (h : Good n m) (l : List Ch) : Good (n + l.length) (Mc.feeds b l m).2 := feedsF_good b l n ([],m) h
def Fedl (Z : Nat -> Prop) (S : Nat -> Prop) (x : Nat) (m : Mc) (L : List Pt) (w : World) (e : Ending) (w' : World) : Prop := ∃ ov T,e = jr ov /\ T.map ptOf = L /\ T.length <= 10000000000 /\ Sess Z S x m ov T w w'
theorem feedL_any (h : MachN Z S x m w) {n0 : Nat} (hg : Good n0 m) {lo : Option Addr} {L : List Ch} (hrow : Stays S w (ChRow lo L)) (k cap : Nat) (hk : L.length = k) (hn : n0 + k <= 20000) (auto : Bool) :
 Calls Tryz.prog 16 #[mp x,.slice lo k cap,.bool auto] w (Fedl Z S x (Mc.feeds auto L m).2 (Mc.feeds auto L m).1 w) := by
 have HS : Hid (Sess Z S x m jn [] w w) := Sess.start h
 have HR := yc hrow hk
 have HG : Hid (∀ i,i <= k -> Good (n0 + i) (Mc.feeds auto (L.take i) m).2) := fun i hi => by
  have := feeds_good auto hg (L.take i);rw [List.length_take,hk,Nat.min_eq_left hi] at this;exact this
 have hxw := h.mach.low
 clear h hg hrow hk
 go_enter Tryz.func16,Tryz.ntmps16
 go_wp2_with fail
 go_loopw [7,8] (fun ov iv wr => ∃ (i : Nat) (T : List TL),iv = ji i /\ i <= k /\ T.map ptOf = (Mc.feeds auto (L.take i) m).1 /\ T.length <= i * 300000 /\ Sess Z S x (Mc.feeds auto (L.take i) m).2 ov T w wr) (fun _ iv _ => k - (intOf iv).toNat)
 case atStart => exact ⟨0,[],rfl,Nat.zero_le _,rfl,zb _,HS.out⟩
 obtain ⟨i,T,rfl,hin,hT,hTl,hs⟩ := hrel
 have hxr := hs.lt
 have HL := hid hTl
 by_cases hlt : i < k
 · obtain ⟨c,hc⟩ : ∃ c,L[i]? = some c := ⟨_,zy (by rw [HR.out.2];exact hlt)⟩
   obtain ⟨b,off,rfl,hb,g0,g1,g2⟩ := (HR.out.1 wr hs.keep) i c hc;have HE : Hid (Mc.feeds auto (L.take (i + 1)) m = fdStep auto (Mc.feeds auto (L.take i) m) c) := by
    obtain ⟨h1,rfl⟩ := List.getElem?_eq_some_iff.1 hc;show Mc.feeds auto (L.take (i + 1)) m = _;rw [<- List.take_append_getElem h1,feeds_snoc]
   obtain ⟨M,hM⟩ := ex ((Mc.feeds auto (L.take i) m).2);have HGM : Hid (Good (n0 + i) M) := by rw [<- hM];exact HG.out i hin
   have hs' : Sess Z S x M u7 T w wr := by rw [<- hM];exact hs
   have HA := yc hT hM;have HK := hid hs';clear hs hs' hT hM hTl hc;obtain ⟨r,p,q⟩ := c;simp only at g0 g1 g2;have hlt' : decide ((i : Int) < (k : Int)) = true := zm (by omega);go_wp2_with fail;refine (HK.out.gave (fun U hU => feed_any hU HGM.out ⟨r,p,q⟩ (by omega))).mono ?_;rintro e W1 ⟨T',ao,cp,rfl,hT',hcp,hx⟩;have hl' : T'.length <= 300000 := by
    have := feed_len HGM.out ⟨r,p,q⟩ (by omega);rw [<- hT',List.length_map] at this;exact this
   obtain ⟨ov',W2,hrun,hs2,hrow2⟩ := hx.app cp (by have := HL.out;omega);have HT2 := yc hT' hl';have HS2 := hid hs2;have hx2 := hs2.lt;obtain ⟨nT,hnT⟩ := ex (T'.length);rw [hnT] at hrun hcp |-;clear hx hT' hl' hs2 g0 g1 g2 HK;cases auto with
   | false =>
    clear hrow2 hnT;go_wp2_with (at_builtin;refine list_append_eq rfl _ _ 24 24 rfl _ _ rfl rfl hrun ?_);have e0 : Mc.auto false (M.feed ⟨r,p,q⟩).1 (M.feed ⟨r,p,q⟩).2 = (M.feed ⟨r,p,q⟩).2 := by
     rfl
    have HF : Hid ((T ++ T').map ptOf = (Mc.feeds false (L.take (i + 1)) m).1 /\ T'.length <= 300000 /\ Sess Z S x (Mc.feeds false (L.take (i + 1)) m).2 ov' (T ++ T') w W2) := by
     have e2 := HE.out;unfold fdStep at e2;rw [HA.out.2,e0,<- HA.out.1,<- HT2.out.1] at e2;rw [e2];exact ⟨List.map_append,HT2.out.2,HS2.out⟩
    go_roundw
    case rel => exact ⟨i + 1,T ++ T',by go_num,by omega,HF.out.1,by rw [zh];have := HF.out.2.1;have := HL.out;omega,HF.out.2.2⟩
    case measure => simp [intOf];omega
   | true =>
    cases hTl : T'.getLast? with
    | none =>
     have hT0 : T' = [] := by simpa using hTl
     obtain rfl : nT = 0 := by rw [<- hnT,hT0];rfl
     have HX : Hid (lastStart (M.feed ⟨r,p,q⟩).1 = none) := by
      show lastStart _ = none;rw [<- HT2.out.1,hT0];rfl
     clear hrow2 hnT hTl hT0;go_wp2_with (at_builtin;refine list_append_eq rfl _ _ 24 24 rfl _ _ rfl rfl hrun ?_);have e0 : Mc.auto true (M.feed ⟨r,p,q⟩).1 (M.feed ⟨r,p,q⟩).2 = (M.feed ⟨r,p,q⟩).2 := by
      unfold Mc.auto;rw [jp rfl,HX.out]
     have HF : Hid ((T ++ T').map ptOf = (Mc.feeds true (L.take (i + 1)) m).1 /\ T'.length <= 300000 /\ Sess Z S x (Mc.feeds true (L.take (i + 1)) m).2 ov' (T ++ T') w W2) := by
      have e2 := HE.out;unfold fdStep at e2;rw [HA.out.2,e0,<- HA.out.1,<- HT2.out.1] at e2;rw [e2];exact ⟨List.map_append,HT2.out.2,HS2.out⟩
     go_roundw
     case rel => exact ⟨i + 1,T ++ T',by go_num,by omega,HF.out.1,by rw [zh];have := HF.out.2.1;have := HL.out;omega,HF.out.2.2⟩
     case measure => simp [intOf];omega
    | some t =>
     obtain ⟨j,hj⟩ : ∃ j,nT = j + 1 := by
      cases nT with
      | zero => rw [yb hnT] at hTl;simp at hTl
      | succ j => exact ⟨j,rfl⟩
     subst hj;have htj : T'[j]? = some t := by rw [List.getLast?_eq_getElem?,hnT] at hTl;exact hTl
     obtain ⟨b2,off2,rfl,hb2,tc,_⟩ := hrow2.1.at htj;have t0 := tc.c0;have t2 := tc.c2;obtain ⟨kd,hkd⟩ := ex (t.1.k);obtain ⟨nm,hnm⟩ := ex (t.1.nm);rw [hkd] at t0;rw [hnm] at t2;have hsz : j < 300000 := by have := HT2.out.2;omega
     have HX : Hid (lastStart (M.feed ⟨r,p,q⟩).1 = if kd = 2 then some nm else none) := by
      show lastStart _ = _;rw [<- HT2.out.1];unfold lastStart;rw [List.getLast?_map,hTl,<- hkd,<- hnm];rfl
     clear hrow2 hTl htj tc hkd hnm hnT;cases h2 : (kd == 2) with
     | false =>
      go_wp2_with (at_builtin;refine list_append_eq rfl _ _ 24 24 rfl _ _ rfl rfl hrun ?_);have e0 : Mc.auto true (M.feed ⟨r,p,q⟩).1 (M.feed ⟨r,p,q⟩).2 = (M.feed ⟨r,p,q⟩).2 := by
       unfold Mc.auto;rw [jp rfl,HX.out,jq (by simpa using h2)]
      have HF : Hid ((T ++ T').map ptOf = (Mc.feeds true (L.take (i + 1)) m).1 /\ T'.length <= 300000 /\ Sess Z S x (Mc.feeds true (L.take (i + 1)) m).2 ov' (T ++ T') w W2) := by
       have e2 := HE.out;unfold fdStep at e2;rw [HA.out.2,e0,<- HA.out.1,<- HT2.out.1] at e2;rw [e2];exact ⟨List.map_append,HT2.out.2,HS2.out⟩
      go_roundw
      case rel => exact ⟨i + 1,T ++ T',by go_num,by omega,HF.out.1,by rw [zh];have := HF.out.2.1;have := HL.out;omega,HF.out.2.2⟩
      case measure => simp [intOf];omega
     | true =>
      have k26 := G7.rtext_any nm;go_wp2_with (at_builtin;refine list_append_eq rfl _ _ 24 24 rfl _ _ rfl rfl hrun ?_);refine (k26 _).mono ?_;rintro e W3 ⟨rfl,hW3⟩;obtain rfl := hW3.symm;clear hW3 k26;go_wp2_with fail;refine (HS2.out.call (fun U v hU => set_v hU (G7.textK nm))).mono ?_;rintro e W4 ⟨rfl,hs4⟩;have HS4 := hid hs4;clear hs4;go_wp2_with fail;have e0 : Mc.auto true (M.feed ⟨r,p,q⟩).1 (M.feed ⟨r,p,q⟩).2 = (M.feed ⟨r,p,q⟩).2.set (G7.textK nm) := by
       unfold Mc.auto;rw [jp rfl,HX.out,jp (by simpa using h2)]
      have HF : Hid ((T ++ T').map ptOf = (Mc.feeds true (L.take (i + 1)) m).1 /\ T'.length <= 300000 /\ Sess Z S x (Mc.feeds true (L.take (i + 1)) m).2 ov' (T ++ T') w W4) := by
       have e2 := HE.out;unfold fdStep at e2;rw [HA.out.2,e0,<- HA.out.1,<- HT2.out.1] at e2;rw [e2];exact ⟨List.map_append,HT2.out.2,HS4.out⟩
      go_roundw
      case rel => exact ⟨i + 1,T ++ T',by go_num,by omega,HF.out.1,by rw [zh];have := HF.out.2.1;have := HL.out;omega,HF.out.2.2⟩
      case measure => simp [intOf];omega
 obtain rfl : i = k := by omega
 have hlt' : decide ((i : Int) < (i : Int)) = false := zn (by omega)
 have HP : Hid (Fedl Z S x (Mc.feeds auto L m).2 (Mc.feeds auto L m).1 w (jr u7) wr) := by
  have e1 : L.take i = L := List.take_of_length_le (by rw [HR.out.2];exact zb _);rw [e1] at hT hs;exact ⟨u7,T,rfl,hT,by omega,hs⟩
 clear hs hT
 go_wp2_with fail
 go_ret
 exact HP.out
theorem items_le (s : jl) : (G4.items s).length <= s.length := by
 have key : ∀ (k : Nat) (s : jl),(G4.itemsF k s).length <= k := by
  intro k;induction k with
  | zero => intro s;exact zb _
  | succ k ih =>
   intro s;cases s with
   | nil => simp [G4.itemsF]
   | cons a t => simp only [G4.itemsF,zi];have := ih ((a :: t).drop (G4.one (a :: t)).2.1);omega
 exact key s.length s
theorem rfs_le : ∀ (l : List Ch),(G4.rfs l).length <= l.length
 | [] => zb _
 | [c] => zb _
 | c :: d :: l => by
  unfold G4.rfs;split
  · have := rfs_le l
    simp only [zi];omega
  have := rfs_le (d :: l);simp only [zi] at this |-;omega
theorem outc_le (s : jl) : (G4.outc s).length <= s.length := by
 have h1 := rfs_le (G4.chs 0 (G4.items s))
 rw [G4.chs_length] at h1
 have h2 := items_le s
 unfold G4.outc
 omega
abbrev chars (s : ByteArray) : List Ch := G4.outc s.data.toList
def Mc.begin0 (text : Int) (foreign : Bool) : Mc := (Mc.new.set text).foreign foreign
def allP (s : ByteArray) (text : Int) (foreign auto : Bool) : List Pt × List (Int × Int) :=
 let p := Mc.feeds auto (chars s) (Mc.begin0 text foreign)
 (p.1 ++ (p.2.ended s.size).1,(p.2.ended s.size).2.fs)
structure Toks (B : Nat) (ov : Value) (T : List TL) (w : World) : Prop where
 own : Rw.own w (rwT ov T)
 high : ∀ g,ov.ownBlock = some g -> B <= g
 toks : ∀ t ∈ T,TkS NoZ w t.1 t.2
theorem TkS.below {w' : World} {T : Tk} {L : List At} (h : TkS Z w T L) (b : Below w.heap.size w w') : TkS Z w' T L := by
 refine ⟨h.1.below b,fun hL => ?_⟩
 obtain ⟨d,cur,z,e1,e2,e3⟩ := h.2 hL
 exact ⟨d,cur,z,e1,(b.block d (zf e2)).trans e2,e3⟩
def Alled (L : List Pt) (F : List (Int × Int)) (w : World) (e : Ending) (w' : World) : Prop :=
 ∃ oo T oc fo fc,e = jr (.tuple #[.slice oo T.length oc,.slice fo F.length fc]) /\ T.map ptOf = L /\ T.length <= 100000000000 /\ Toks w.heap.size (.slice oo T.length oc) T w' /\ G4.FaultsC w.heap.size (.slice fo F.length fc) F w' /\ Below w.heap.size w w'
theorem begin_good (text : Int) (foreign : Bool) : Good 0 (Mc.begin0 text foreign) := foreign_good (set_good good_new _) _
theorem all_any (H : G6.Hi w) (s : ByteArray) (text : Int) (foreign auto : Bool) (hs : s.size < 20000) :
 Calls Tryz.prog 10 #[.string s,ji text,.bool foreign,.bool auto] w (Alled (allP s text foreign auto).1 (allP s text foreign auto).2 w) := by
 have hw0 := H.lt
 have k1 := new_any (S := fun k => k < w.heap.size) H (fun _ h => h) hw0
 have HL : Hid ((chars s).length < 20000) := by
  have := outc_le s.data.toList;rw [show s.data.toList.length = s.size from zw] at this;show (G4.outc s.data.toList).length < 20000;omega
 have k15 := fun w => G4.rchs_any s w (by omega)
 clear H
 go_enter Tryz.func10,Tryz.ntmps10
 go_wp2_with fail
 refine k1.mono ?_
 rintro e w1 ⟨rfl,h1,b1⟩
 have H1 := yc h1 b1
 have hx1 := h1.lt
 clear h1 b1 k1
 go_wp2_with fail
 refine (set_v H1.out.1 text).mono ?_
 rintro e w2 ⟨rfl,h2,kp2⟩
 have H2 : Hid (MachV NoZ (fun k => k < w.heap.size) w.heap.size (Mc.new.set text) newV [] w2 /\ Keep (fun k => k < w.heap.size) w w2) := ⟨h2,(Keep.old H1.out.2).trans kp2⟩
 have hx2 := h2.lt
 clear h2 kp2
 go_wp2_with fail
 refine (foreign_v H2.out.1 foreign).mono ?_
 rintro e w3 ⟨rfl,h3,kp3⟩
 have H3 := yc h3 (H2.out.2.trans kp3)
 have hx3 := h3.lt
 clear h3 kp3
 go_wp2_with fail
 refine (k15 _).mono ?_
 rintro e w4 ⟨ca,cn,cc,fa,fn',fc',rfl,hc4,_,b4⟩
 have hrow : ∃ lo,ca = lo /\ cn = (chars s).length /\ Stays (Since (fun k => k < w.heap.size) w3 w4) w4 (ChRow lo (chars s)) := by
  obtain ⟨ao,cap,e1,_,hr,hz,_⟩ := rowC (OwnQ.of hc4 : Rw.own w4 (rwC _ (chars s)));simp only [Value.slice.injEq] at e1;obtain ⟨rfl,rfl,rfl⟩ := e1;refine ⟨_,rfl,rfl,fun w' k => ?_⟩;rcases hc4.2 with ⟨e2,h0⟩ | ⟨g,cap2,cur,e2,hB,hg,_⟩
  · have : chars s = [] := yb h0
    rw [this];exact fun i c hi => by simp at hi
  simp only [Value.slice.injEq] at e2;obtain ⟨rfl,_,_⟩ := e2;have hgl := (zf hg);exact hr.same (k.block g (.inr ⟨hB,hgl⟩) hgl)
 obtain ⟨lo,rfl,rfl,hst⟩ := hrow
 have h4 := H3.out.1.since b4
 have H4 : Hid (MachN NoZ (Since (fun k => k < w.heap.size) w3 w4) w.heap.size (Mc.begin0 text foreign) w4 /\ Keep (fun k => k < w.heap.size) w w4 /\ Stays (Since (fun k => k < w.heap.size) w3 w4) w4 (ChRow ca (chars s))) := ⟨⟨_,h4,rfl⟩,H3.out.2.trans (Keep.old b4),hst⟩
 have hx4 := h4.lt
 obtain ⟨nl,hnl⟩ := ex ((chars s).length)
 rw [hnl]
 have HNL := hid hnl
 clear h4 hst hc4 b4 k15 hnl
 go_wp2_with fail
 refine (feedL_any H4.out.1 (begin_good text foreign) H4.out.2.2 nl cc HNL.out (by have := HL.out;have := HNL.out;omega) auto).mono ?_
 rintro e w5 ⟨ov,T,rfl,hT,hTl,hs5⟩
 have HS5 := yd hs5 hT hTl
 have HG : Hid (Good nl (Mc.feeds auto (chars s) (Mc.begin0 text foreign)).2) := by
  have := feeds_good auto (begin_good text foreign) (chars s);rw [Nat.zero_add,HNL.out] at this;exact this
 have hx5 := hs5.lt
 clear hs5 hT hTl
 go_wp2_with fail
 refine (HS5.out.1.gave (fun U hU => end_any hU HG.out (by have := HL.out;have := HNL.out;omega) s.size)).mono ?_
 rintro e w6 ⟨T',ao,cp,rfl,hT',hcp,hx⟩
 have hl' : T'.length <= 300000 := by
  have h1 : ((Mc.feeds auto (chars s) (Mc.begin0 text foreign)).2.ended s.size).1.length <= 300000 := by
   have hn : nl < 20000 := by have := HL.out;have := HNL.out;omega
   have key : ∀ r : Mc,Good nl r -> ((r.endS s.size).out ++ [(⟨6,0,ByteArray.empty,ByteArray.empty,[],false,s.size,s.size⟩ : Pt)]).length <= 300000 := fun r hr => by
    have h1 := (gr_endS r s.size).2.1;have h2 := hr.w.mu;have : (r.endS s.size).out.length <= (r.endS s.size).mu := by unfold Mc.mu;omega
    simp;omega
   unfold Mc.ended;dsimp only;split
   · next hr => exact key _ (resolve_good HG.out.w (.inl (HG.out.ref.resolve_left hr)))
   exact key _ HG.out
  rw [<- hT',List.length_map] at h1;exact h1
 obtain ⟨ov',w7,hrun,hs7,_⟩ := hx.app cp (by have := HS5.out.2.2;omega)
 have HS7 : Hid (Sess NoZ (Since (fun k => k < w.heap.size) w3 w4) w.heap.size ((Mc.feeds auto (chars s) (Mc.begin0 text foreign)).2.ended s.size).2 ov' (T ++ T') w4 w7 /\ (T ++ T').map ptOf = (allP s text foreign auto).1 /\ (T ++ T').length <= 100000000000) := ⟨hs7,by rw [List.map_append,HS5.out.2.1,hT'];rfl,by rw [zh];have := HS5.out.2.2;omega⟩
 have hx7 := hs7.lt
 have k24 : Calls Tryz.prog 24 #[mp w.heap.size] w7 (Cloned 58 2 (allP s text foreign auto).2.length ((allP s text foreign auto).2.flatMap gcells) w7) := by
  obtain ⟨U,v,_,h1,_⟩ := hs7.ex;have hg := ended_good HG.out (s.size : Int);have := tot_mu ((Mc.feeds auto (chars s) (Mc.begin0 text foreign)).2.ended s.size).2;have := hg.w.mu;have hn : nl < 20000 := by have := HL.out;have := HNL.out;omega
  exact faults_any ⟨v,[],h1⟩ (by omega)
 obtain ⟨nT,hnT⟩ := ex (T'.length)
 rw [hnT] at hrun |-
 clear hx hT' hl' hs7 hnT hcp
 go_wp2_with (at_builtin;refine list_append_eq rfl _ _ 24 24 rfl _ _ rfl rfl hrun ?_)
 refine k24.mono ?_
 rintro e w8 ⟨fo,fc,rfl,hf8,b8⟩
 have hs8 := HS7.out.1.below b8
 have HA : Hid (Alled (allP s text foreign auto).1 (allP s text foreign auto).2 w (jr (.tuple #[ov',.slice fo (allP s text foreign auto).2.length fc])) w8) := by
  obtain ⟨U,v,q1,q2,_,q3,q4,_,q5⟩ := hs8.ex;obtain ⟨oo,oc,e1,_,_⟩ := own_form q3;simp only at e1;subst e1;have kk : Keep (fun k => k < w.heap.size) w w8 := H4.out.2.1.trans (hs8.keep.sub fun _ h => .inl h);have bb : Below w.heap.size w w8 := kk.below (fun _ h => h) (zb _);refine ⟨oo,T ++ T',oc,fo,fc,rfl,HS7.out.2.1,HS7.out.2.2,⟨q3,fun g hg => ?_,fun t ht => (q5 t ht).now⟩,?_,bb⟩
  · have := (q4 g hg).2
    apply Classical.byContradiction;intro hlt;exact this (.inl (by omega))
  have : w.heap.size <= w7.heap.size := ya hx7;refine ⟨hf8.1,?_⟩;rcases hf8.2 with e2 | ⟨g,cap,cur,e2,hB,rest⟩
  · exact .inl e2
  exact .inr ⟨g,cap,cur,e2,by omega,rest⟩
 clear hs8 hf8 b8 k24
 go_wp2_with fail
 go_ret2
 exact HA.out
end Go.Proofs.YtjjfalbngcbfaaaGreatDoor
