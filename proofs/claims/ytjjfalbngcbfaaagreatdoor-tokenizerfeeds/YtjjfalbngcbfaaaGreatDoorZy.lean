import Derived.Test.YtjjfalbngcbfaaaGreatDoorZ0
import Derived.Test.YtjjfalbngcbfaaaGreatDoorZk
import Derived.Test.YtjjfalbngcbfaaaGreatDoorZr
import Derived.Test.YtjjfalbngcbfaaaGreatDoorZw
import Derived.Test.YtjjfalbngcbfaaaGreatDoorZx
import Derived.Test.YtjjfalbngcbfaaaGreatDoorZm
import Derived.Laws.EntriesVeiled
set_option maxHeartbeats 2000000
set_option maxRecDepth 20000
namespace Go.Proofs.YtjjfalbngcbfaaaGreatDoor
open Go.RowKit
variable {Z S : Nat -> Prop} {x b : Nat} {m : Mc} {P : World -> Prop} {w W W' w' : World} {v : Vs} {T : List TL}
structure WalkP (Z : Nat -> Prop) (S : Nat -> Prop) (x : Nat) (m : Mc) (P : World -> Prop) (w W : World) : Prop where
 ex : ∃ U,(∀ k,S k -> U k) /\ Mach Z U x m W /\ Stays U W P
 keep : Keep S w W
theorem WalkP.post (h : WalkP Z S x m P w W) : Post Z S x m w W := by
 obtain ⟨U,h1,h2,_⟩ := h.ex
 exact ⟨U,h1,h2,h.keep⟩
theorem WalkP.now (h : WalkP Z S x m P w W) : P W := by
 obtain ⟨U,_,_,h3⟩ := h.ex
 exact h3.now
theorem WalkP.lt (h : WalkP Z S x m P w W) : x < W.heap.size := by
 obtain ⟨U,_,h2,_⟩ := h.ex
 exact h2.low
theorem WalkP.mach (h : WalkP Z S x m P w W) : ∃ v : Vs,(∀ i u,(m.cells v)[i]? = some u -> W.cell? (jd x i) = some u) /\ (∀ i,W.frozen? (jd x i) = false) := by
 obtain ⟨U,_,⟨v,T,h2⟩,_⟩ := h.ex
 exact ⟨v,h2.cells,h2.free⟩
theorem WalkP.hi (h : WalkP Z S x m P w W) (b : Below W.heap.size W W') : G6.Hi W' := by
 obtain ⟨U,_,⟨v,T,h2⟩,_⟩ := h.ex
 exact h2.hi _ (Keep.old b)
theorem WalkP.call {m' : Mc} (h : WalkP Z S x m P w W) {f : Nat} {args : Array Value} (H : ∀ U,Mach Z U x m W -> Calls Tryz.prog f args W (Did Z U x m' W)) : Calls Tryz.prog f args W fun e W' => e = jr (.tuple #[]) /\ WalkP Z S x m' P w W' := by
 obtain ⟨U,h1,h2,h3⟩ := h.ex
 refine (H U h2).mono ?_
 rintro e W' ⟨rfl,V,p1,p2,p3⟩
 exact ⟨rfl,⟨V,fun k hk => p1 k (h1 k hk),p2,(h3.keep p3).mono p1⟩,h.keep.trans (p3.sub h1)⟩
theorem WalkP.below (h : WalkP Z S x m P w W) (b : Below W.heap.size W W') : WalkP Z S x m P w W' := by
 obtain ⟨U,h1,h2,h3⟩ := h.ex
 exact ⟨⟨U,h1,h2.below b,h3.keep (Keep.old b)⟩,h.keep.trans (Keep.old b)⟩
theorem WalkP.drew (h : WalkP Z S x m P w W) : WalkP Z S x m P w W.drew := h.below (Below.refl _ _).drew
theorem WalkP.add {Q : World -> Prop} (h : WalkP Z S x m P w W) (b : Below W.heap.size W W') (hq : ∀ U : Nat -> Prop,(∀ k,W.heap.size <= k -> k < W'.heap.size -> U k) -> Stays U W' Q) : WalkP Z S x m (fun w => P w /\ Q w) w W' := by
 obtain ⟨U,h1,⟨v,T,h2⟩,h3⟩ := h.ex
 have q := hq (Since U W W') (fun k p1 p2 => .inr ⟨p1,p2⟩)
 exact ⟨⟨Since U W W',fun k hk => .inl (h1 k hk),⟨v,T,h2.since b⟩,fun w' k => ⟨((h3.keep (Keep.old b)).mono fun _ => .inl) w' k,q w' k⟩⟩,h.keep.trans (Keep.old b)⟩
theorem ChRow.same {o : Nat} {l : List Ch} (h : ChRow (some (jd b o)) l w) (e : w'.heap[b]? = w.heap[b]?) : ChRow (some (jd b o)) l w' := fun i c hc => by
 obtain ⟨b',off,h1,h2,h3,h4,h5⟩ := h i c hc
 cases h1
 have hb : b < w'.heap.size := by
  rw [Array.getElem?_eq_getElem h2] at e;exact (zf e)
 refine ⟨b,o,rfl,hb,?_,?_,?_⟩
 · rw [<- h3];simp [World.cell?,e]
 · rw [<- h4];simp [World.cell?,e]
 rw [<- h5];simp [World.cell?,e]
def IntRow (ao : Option Addr) (l : List Int) (w : World) : Prop :=
 ∀ i c,l[i]? = some c -> ∃ b,ao = some (jd b 0) /\ b < w.heap.size /\ w.cell? (jd b i) = some (ji c)
theorem IntRow.same {l : List Int} (h : IntRow (some (jd b 0)) l w) (e : w'.heap[b]? = w.heap[b]?) : IntRow (some (jd b 0)) l w' := fun i c hc => by
 obtain ⟨b',h1,h2,h3⟩ := h i c hc
 cases h1
 have hb : b < w'.heap.size := by
  rw [Array.getElem?_eq_getElem h2] at e;exact (zf e)
 exact ⟨b,rfl,hb,by rw [<- h3];simp [World.cell?,e]⟩
def OneAt (w : World) (r : Int) (k n : Nat) (C : List Int) (e : Ending) (w' : World) : Prop :=
 ∃ ao cap,e = jr (.tuple #[ji r,ji (k : Nat),.slice ao n cap]) /\ n <= cap /\ IntRow ao C w' /\ (∀ b o,ao = some (jd b o) -> o = 0 /\ w.heap.size <= b /\ b < w'.heap.size) /\ Below w.heap.size w w'
theorem one_at (H : G6.Hi w) (s : ByteArray) (attr : Bool) (hs : s.size <= 1000000) (r : Int) (k n : Nat) (C : List Int) (hp : G6.refP G6.refs attr s.data.toList = (r,k,C)) (hn : C.length = n) : Calls Tryz.prog 58 #[.string s,.bool attr] w (OneAt w r k n C) := by
 refine (G6.one_any api_refs H s attr hs).mono ?_
 rintro e w' ⟨v,rfl,h1,h2⟩
 rw [hp] at h1 |-
 simp only at h1
 rcases h1.2 with ⟨rfl,h0⟩ | ⟨g,cap,cur,rfl,hB,hg,h3,h4,h5,h6⟩
 · obtain rfl : C = [] := yb h0
   simp at hn;subst hn;exact ⟨none,0,rfl,zb _,fun i c hc => (by simp at hc),fun b o e => (by cases e),h2⟩
 rw [hn] at h3 h6 |-
 refine ⟨some (jd g 0),cap,rfl,h3,fun i c hc => ?_,fun b o e => ?_,h2⟩
 · have hi := (zg hc)
   have q0 : (C.map (Value.int .i64))[i]? = some (ji c) := by simp [hc]
   rw [<- h6] at q0;rw [List.getElem?_take_of_lt (by omega),Array.getElem?_toList] at q0;exact ⟨g,rfl,(zf hg),by simp [World.cell?,hg,q0]⟩
 cases e
 exact ⟨rfl,hB,(zf hg)⟩
theorem unref (h : MachV Z S x m v T w) (hl : m.ref ≠ []) : ∃ g cap,w.cell? (jd x 6) = some (.slice (some (jd g 0)) m.ref.length cap) /\ m.ref.length <= cap /\ cap <= maxLen /\ WalkP Z S x { m with ref := [] } (ChRow (some (jd g 0)) m.ref) w (w.setCell (jd x 6) jn) := by
 have ho := h.bag.own 1 _ rfl
 obtain ⟨ao,cap,e6,hca,hrow,hz,hmx⟩ := rowC ho
 obtain ⟨c,t,hct⟩ : ∃ c t,m.ref = c :: t := by
  cases e : m.ref with
  | nil => exact absurd e hl
  | cons c t => exact ⟨c,t,rfl⟩
 obtain ⟨g,off,rfl,hgl,_,_,_⟩ := hrow 0 c (by rw [hct];rfl)
 obtain ⟨rfl,hg⟩ := hz g off rfl
 obtain ⟨_,cur,z,hcell⟩ := own_blk ho hg
 have hgx : g ≠ x := fun e => by
  subst e;rw [h.blk] at hcell;simp at hcell
 have c6 := h.cells 6 v.r rfl
 rw [e6] at c6
 refine ⟨g,cap,c6,hca,hmx,?_⟩
 obtain ⟨q1,q2⟩ := h.turn (m' := { m with ref := [] }) (v' := { v with r := jn }) (T' := T) [(6,jn)] rfl (by simp [Mc.cells]) (h.bag.drop h.low 1 _ rfl 37 3) h.names rfl h.told h.toks
 have hW : setAll w x [(6,jn)] = w.setCell (jd x 6) jn := rfl
 rw [hW] at q1 q2
 have hgW : (w.setCell (jd x 6) jn).heap[g]? = w.heap[g]? := Below.heap_setCell _ _ _ _ hgx
 refine ⟨⟨fun k => S k \/ k = g,fun k hk => .inl hk,⟨_,T,q1.more (fun k => k = g) ?_ ?_ ?_ ?_⟩,fun w' k => ?_⟩,q2⟩
 · rintro k rfl
   exact zo hgl q2.size
 · exact fun e => hgx e.symm
 · intro i r hr g' hg' e
   subst e;by_cases hi : i = 1
   · subst hi
     simp [Mc.rows] at hr;subst hr;simp [Value.ownBlock] at hg'
   have hr' : (m.rows v T)[i]? = some r := by
    have : ({ m with ref := [] } : Mc).rows { v with r := jn } T = (m.rows v T).set 1 (rwC jn []) := rfl;rw [this,List.getElem?_set_ne (fun e => hi e.symm)] at hr;exact hr
   exact h.bag.apart i 1 r _ hi hr' rfl g' hg' hg
 · intro b e hb
   subst hb;have hn := h.names;have e' : v.m = .map (some b) := e;rw [e'] at hn;exact hn.obj _ _ _ hcell
 have e1 : w'.heap[g]? = (w.setCell (jd x 6) jn).heap[g]? := k.block g (.inr rfl) (zo hgl q2.size)
 exact hrow.same (e1.trans hgW)
theorem step_low (h : Mach Z S x m w) (en : Enters m.st) (hr : m.ref = []) (c : Ch) (H : ∀ U W,Mach Z U x m W -> Calls Tryz.prog m.st #[mp x,cv c] W (Did Z U x (m.take c) W)) : Dz Z S x w 38 c (m.take c) := by
 obtain ⟨r,p,q⟩ := c
 obtain ⟨W0,hW0,k0⟩ := Walk.start h ⟨r,p,q⟩
 have hxw := h.low
 obtain ⟨hb,d0,d1,d2⟩ := k0.box
 obtain ⟨c0,_⟩ := k0.st0
 have hx0 := k0.lt
 have hne : w.heap.size ≠ x := by omega
 have K0 := hid k0
 have HH := hid H
 have k34 : Calls Tryz.prog 34 #[mp x] W0 fun e w' => e = jr (.bool false) /\ w' = W0 := by
  obtain ⟨U,_,h2,_⟩ := k0.ex;have := refers_any h2;rw [hr] at this;simpa using this
 obtain ⟨s,hs⟩ := ex (m.st)
 rw [hs] at c0
 have en' : ∀ args w,(callFunc s args).run Tryz.prog w = .ok (.enter s args) w := by rw [<- hs];exact en
 rw [hs] at HH
 clear h H en k0 hr hs
 go_enter Tryz.func38,Tryz.ntmps38
 go_wp2_with fail
 refine k34.mono ?_
 rintro e w1 ⟨rfl,hw1⟩
 obtain rfl := hw1.symm
 clear hw1 k34
 go_wp2_with fail
 go_still_tail 6,(show Tryz.prog.follows .mixedOrders = true by kernel_rfl)
 go_wp2_with fail
 refine (K0.out.drew.call (fun U => HH.out U _)).mono ?_
 rintro e W1 ⟨rfl,k1⟩
 have K1 := hid k1
 clear k1
 go_wp2_with fail
 refine bodyPost_end (zq rfl) rfl ?_
 exact ⟨rfl,K1.out.post⟩
def Mc.more (m : Mc) (c : Ch) : Mc := { m with ref := m.ref ++ [c] }
theorem refer_any (h : Mach Z S x m w) (hr : m.ref ≠ []) (c : Ch) (hn : m.tot <= 400000000) (H : ∀ U W,Mach Z U x (m.more c) W -> Mc.sure (m.more c).ref = true -> Calls Tryz.prog 35 #[mp x] W (Did Z U x (m.more c).resolve W)) : Dz Z S x w 62 c (m.refer c) := by
 obtain ⟨r,p,q⟩ := c
 obtain ⟨v,T,h⟩ := h
 have b0 : Below w.heap.size w (w.alloc (.cells #[ji r,ji p,ji q] 37)) := ze _ _
 have h0 := h.below b0
 have hxw := h.lt
 have hx0 := h0.lt
 obtain ⟨k,hk⟩ := ex (m.ref.length)
 obtain ⟨ao',c',W',hrun,q1,q2,q3,q4⟩ := h0.app (m' := m.more ⟨r,p,q⟩) (T' := T) Tryz.underlying33 info37 rfl (by decide) (by decide) 1 6 v.r m.ref.length 1 (m.ref.flatMap G4.Ch.cells) (G4.Ch.cells ⟨r,p,q⟩) rfl rfl (by simp [G4.Ch.cells,Value.oneCell']) (by unfold Mc.tot at hn;omega) (fun a => { v with r := a }) (fun a => by simp [Mc.rows,Mc.more,rwC]) (fun a => by simp [Mc.cells,Mc.more]) rfl (fun _ => rfl) (fun _ => rfl) h0.told h0.toks
 have c5 := h0.cells 6 v.r rfl
 obtain ⟨ao,ca,e5,_,_⟩ := own_form (h0.bag.own 1 _ rfl)
 simp only at e5
 have q3' : W'.cell? (jd x 6) = some v.r := q3
 rw [e5,hk] at c5 q3' hrun
 rw [hk] at q1 q2
 have HP : Hid (Post Z S x (m.more ⟨r,p,q⟩) w (W'.setCell (jd x 6) (.slice ao' (k + 1) c'))) := Post.of ⟨_,_,q1⟩ ((Keep.old b0).trans q2)
 have HS : Hid (∀ U W,Mach Z U x (m.more ⟨r,p,q⟩) W -> Calls Tryz.prog 94 #[mp x] W (Says Z U x (m.more ⟨r,p,q⟩) W (Mc.sure (m.more ⟨r,p,q⟩).ref))) := fun U W hU => sure_any hU (by
  have : 0 < m.ref.length := List.length_pos_iff.2 hr;simp [Mc.more];omega) (by
  unfold Mc.tot at hn |-;simp [Mc.more]
  omega)
 have HR := hid H
 have HE : Hid (m.refer ⟨r,p,q⟩ = if Mc.sure (m.more ⟨r,p,q⟩).ref = true then (m.more ⟨r,p,q⟩).resolve else m.more ⟨r,p,q⟩) := rfl
 have d0 : (w.alloc (.cells #[ji r,ji p,ji q] 37)).cell? (jd w.heap.size 0) = some (ji r) := by rw [World.cell?_alloc_at _ _ _ _ rfl];rfl
 have d1 : (w.alloc (.cells #[ji r,ji p,ji q] 37)).cell? (jd w.heap.size 1) = some (ji p) := by rw [World.cell?_alloc_at _ _ _ _ rfl];rfl
 have d2 : (w.alloc (.cells #[ji r,ji p,ji q] 37)).cell? (jd w.heap.size 2) = some (ji q) := by rw [World.cell?_alloc_at _ _ _ _ rfl];rfl
 have hz : w.heap.size < (w.alloc (.cells #[ji r,ji p,ji q] 37)).heap.size := by simp
 clear h h0 q1 q2 q3 e5 b0 hk H hr hn
 generalize hB : Mc.sure (m.more ⟨r,p,q⟩).ref = B at *
 clear hB
 go_enter Tryz.func62,Tryz.ntmps62
 go_wp2_with fail
 generalize hW : w.alloc (.cells #[ji r,ji p,ji q] 37) = W0 at *
 clear hW
 go_region_law (refine step_append_eq rfl _ _ 33 33 rfl _ _ (by simp [Act.eval]) (by simp [Act.eval]) hrun ?_)
 all_goals
  go_wp2_with fail;obtain ⟨U,hU1,hU2,hU3⟩ := HP.out;refine (HS.out U _ hU2).mono ?_;rintro e W1 ⟨rfl,hw1⟩;have P1 : Hid (Post Z S x (m.more ⟨r,p,q⟩) w W1) := Post.go hU1 hU3 hw1;clear hU1 hU2 hU3 hw1;cases B with
  | false =>
   go_wp2_with fail;refine ⟨rfl,_,zq rfl,rfl,?_⟩;rw [HE.out];exact P1.out
  | true =>
   go_wp2_with fail;refine (P1.out.call (fun U hU => HR.out U _ hU (by simp))).mono ?_;rintro e W2 ⟨rfl,hw2⟩;have P2 := hid hw2;clear hw2;go_wp2_with fail;refine ⟨rfl,_,zq rfl,rfl,?_⟩;rw [HE.out];exact P2.out
theorem step_high (h : Mach Z S x m w) (hr : m.ref ≠ []) (c : Ch) (H : ∀ U W,Mach Z U x m W -> Calls Tryz.prog 62 #[mp x,cv c] W (Did Z U x (m.refer c) W)) : Dz Z S x w 38 c (m.refer c) := by
 obtain ⟨r,p,q⟩ := c
 obtain ⟨W0,hW0,k0⟩ := Walk.start h ⟨r,p,q⟩
 have hxw := h.low
 obtain ⟨hb,d0,d1,d2⟩ := k0.box
 have hx0 := k0.lt
 have hne : w.heap.size ≠ x := by omega
 have K0 := hid k0
 have HH := hid H
 have k34 : Calls Tryz.prog 34 #[mp x] W0 fun e w' => e = jr (.bool true) /\ w' = W0 := by
  obtain ⟨U,_,h2,_⟩ := k0.ex;have := refers_any h2;rw [zm hr] at this;exact this
 clear h H k0 hr
 go_enter Tryz.func38,Tryz.ntmps38
 go_wp2_with fail
 refine k34.mono ?_
 rintro e w1 ⟨rfl,hw1⟩
 obtain rfl := hw1.symm
 clear hw1 k34
 go_wp2_with fail
 refine (K0.out.call (fun U => HH.out U _)).mono ?_
 rintro e W1 ⟨rfl,k1⟩
 have K1 := hid k1
 clear k1
 go_wp2_with fail
 refine bodyPost_ret (zq rfl) rfl ?_
 exact ⟨rfl,K1.out.post⟩
theorem ent49 : Enters 49 := enters_of Tryz.func49 (by kernel_rfl) rfl
theorem ent75 : Enters 75 := enters_of Tryz.func75 (by kernel_rfl) rfl
theorem ent73 : Enters 73 := enters_of Tryz.func73 (by kernel_rfl) rfl
theorem ent84 : Enters 84 := enters_of Tryz.func84 (by kernel_rfl) rfl
theorem ent123 : Enters 123 := enters_of Tryz.func123 (by kernel_rfl) rfl
theorem ent169 : Enters 169 := enters_of Tryz.func169 (by kernel_rfl) rfl
theorem ent51 : Enters 51 := enters_of Tryz.func51 (by kernel_rfl) rfl
theorem ent145 : Enters 145 := enters_of Tryz.func145 (by kernel_rfl) rfl
theorem ent27 : Enters 27 := enters_of Tryz.func27 (by kernel_rfl) rfl
theorem ent81 : Enters 81 := enters_of Tryz.func81 (by kernel_rfl) rfl
theorem ent119 : Enters 119 := enters_of Tryz.func119 (by kernel_rfl) rfl
theorem ent151 : Enters 151 := enters_of Tryz.func151 (by kernel_rfl) rfl
theorem ent148 : Enters 148 := enters_of Tryz.func148 (by kernel_rfl) rfl
theorem ent170 : Enters 170 := enters_of Tryz.func170 (by kernel_rfl) rfl
theorem ent181 : Enters 181 := enters_of Tryz.func181 (by kernel_rfl) rfl
theorem ent182 : Enters 182 := enters_of Tryz.func182 (by kernel_rfl) rfl
theorem ent183 : Enters 183 := enters_of Tryz.func183 (by kernel_rfl) rfl
theorem ent187 : Enters 187 := enters_of Tryz.func187 (by kernel_rfl) rfl
theorem ent120 : Enters 120 := enters_of Tryz.func120 (by kernel_rfl) rfl
theorem ent147 : Enters 147 := enters_of Tryz.func147 (by kernel_rfl) rfl
theorem ent109 : Enters 109 := enters_of Tryz.func109 (by kernel_rfl) rfl
theorem ent140 : Enters 140 := enters_of Tryz.func140 (by kernel_rfl) rfl
theorem ent142 : Enters 142 := enters_of Tryz.func142 (by kernel_rfl) rfl
theorem ent166 : Enters 166 := enters_of Tryz.func166 (by kernel_rfl) rfl
theorem ent164 : Enters 164 := enters_of Tryz.func164 (by kernel_rfl) rfl
theorem ent178 : Enters 178 := enters_of Tryz.func178 (by kernel_rfl) rfl
theorem ent112 : Enters 112 := enters_of Tryz.func112 (by kernel_rfl) rfl
theorem ent144 : Enters 144 := enters_of Tryz.func144 (by kernel_rfl) rfl
theorem ent168 : Enters 168 := enters_of Tryz.func168 (by kernel_rfl) rfl
theorem ent180 : Enters 180 := enters_of Tryz.func180 (by kernel_rfl) rfl
theorem ent113 : Enters 113 := enters_of Tryz.func113 (by kernel_rfl) rfl
theorem ent74 : Enters 74 := enters_of Tryz.func74 (by kernel_rfl) rfl
theorem ent28 : Enters 28 := enters_of Tryz.func28 (by kernel_rfl) rfl
theorem ent50 : Enters 50 := enters_of Tryz.func50 (by kernel_rfl) rfl
theorem ent76 : Enters 76 := enters_of Tryz.func76 (by kernel_rfl) rfl
theorem ent79 : Enters 79 := enters_of Tryz.func79 (by kernel_rfl) rfl
theorem ent146 : Enters 146 := enters_of Tryz.func146 (by kernel_rfl) rfl
theorem ent108 : Enters 108 := enters_of Tryz.func108 (by kernel_rfl) rfl
theorem ent111 : Enters 111 := enters_of Tryz.func111 (by kernel_rfl) rfl
theorem enters_take (hi : Inv m) : Enters m.st := by
 rcases hi.1 with k | k | k | k | k | k | k | k | ⟨k,hw⟩
 · rw [k.1];exact ent49
 · rw [k.1];exact ent75
 · rw [k.1];exact ent73
 · rw [k.1];exact ent84
 · rw [k.1];exact ent123
 · rw [k.1];exact ent169
 · rw [k.1];exact ent51
 · rw [k.1];exact ent145
 rcases k with k | k | k | k | k | k | k | k | k | k | k | k | k | k | k | k | k | k | k | k | k | k | k
 · rw [k];exact ent27
 · rw [k];exact ent81
 · rw [k];exact ent119
 · rw [k];exact ent151
 · rw [k];exact ent148
 · rw [k];exact ent170
 · rw [k];exact ent181
 · rw [k];exact ent182
 · rw [k];exact ent183
 · rw [k];exact ent187
 · rw [k];exact ent120
 · rw [k];exact ent147
 · rw [k];exact ent109
 · rw [k];exact ent140
 · rw [k];exact ent142
 · rw [k];exact ent166
 · rw [k];exact ent164
 · rw [k];exact ent178
 · rw [k];exact ent112
 · rw [k];exact ent144
 · rw [k];exact ent168
 · rw [k];exact ent180
 rw [k];exact ent113
theorem enters_end (hi : Inv m) : Enters m.en := by
 rcases hi.2 with ⟨k,_⟩ | k | k | k | k | k | k | k
 · rw [k];exact ent74
 · rw [k];exact ent28
 · rw [k];exact ent50
 · rw [k];exact ent76
 · rw [k];exact ent79
 · rw [k];exact ent146
 · rw [k];exact ent108
 rw [k];exact ent111
def newV : Vs := ⟨jn,jn,.pointer none,jn,jn,jn,.map none,jn,jn,jn,jn⟩
theorem own_none (w : World) (q : Bool) (e s : Nat) : OwnQ w q e s jn 0 [] := ⟨by simp,.inl ⟨rfl,rfl⟩⟩
theorem bag_new (S : Nat -> Prop) (w : World) : Bag S w (Mc.new.rows newV []) := by
 have hv : ∀ (i : Nat) (r : Rw),(Mc.new.rows newV [])[i]? = some r -> r.v.ownBlock = none /\ r.own w := fun i r hr => by
  have := List.mem_of_getElem? hr;simp only [Mc.rows,newV,Mc.new,List.mem_cons,List.not_mem_nil,or_false] at this;rcases this with rfl | rfl | rfl | rfl | rfl | rfl | rfl | rfl | rfl <;> exact ⟨rfl,own_none _ _ _ _⟩
 refine ⟨fun i r hr => (hv i r hr).2,fun i r hr g hg => ?_,fun i j a b _ ha _ g hg => ?_⟩
 · rw [(hv i r hr).1] at hg;cases hg
 rw [(hv i a ha).1] at hg;cases hg
theorem mach_new (H : G6.Hi w) (low : ∀ k,S k -> k < w.heap.size) (h0 : S 0) : MachV NoZ S w.heap.size Mc.new newV [] (w.alloc (.cells (Mc.new.cells newV) 74)) := by
 have b0 : Below w.heap.size w (w.alloc (.cells (Mc.new.cells newV) 74)) := ze _ _
 refine ⟨fun k hk => zo (low k hk) b0.size,⟨fun hx => ?_,fun _ h => h.elim⟩,fun w' k => ?_,zx _ _,bag_new _ _,Names.none _ _,.inl rfl,rfl,fun t ht => by cases ht⟩
 · have := low _ hx
   omega
 have hl := H.lt
 have e : w'.heap[0]? = w.heap[0]? := (k.block 0 h0 (zo hl b0.size)).trans (b0.block 0 hl)
 intro i hi
 rw [<- H i hi]
 simp [World.cell?,e]
theorem new_any (H : G6.Hi w) (low : ∀ k,S k -> k < w.heap.size) (h0 : S 0) : Calls Tryz.prog 14 #[] w fun e w' => e = jr (mp w.heap.size) /\ MachV NoZ S w.heap.size Mc.new newV [] w' /\ Below w.heap.size w w' := by
 have b0 : Below w.heap.size w (w.alloc (.cells (Mc.new.cells newV) 74)) := ze _ _
 have HM := yc (mach_new H low h0) b0
 clear H low h0 b0
 go_enter Tryz.func14,Tryz.ntmps14
 go_wp2_with fail
 go_ret
 exact ⟨rfl,HM.out.1,HM.out.2⟩
abbrev DidV (Z : Nat -> Prop) (S : Nat -> Prop) (x : Nat) (m : Mc) (v : Vs) (T : List TL) (w : World) (e : Ending) (w' : World) : Prop := e = jr (.tuple #[]) /\ MachV Z S x m v T w' /\ Keep S w w'
theorem set_v (h : MachV Z S x m v T w) (t : Int) : Calls Tryz.prog 21 #[mp x,ji t] w (DidV Z S x (m.set t) v T w) := by
 have hxw := h.lt
 have c2 := h.cells 2 _ rfl
 have f2 := h.free 2
 have HP : Hid (∀ u,MachV Z S x { m with text := u } v T (setAll w x [(2,ji u)]) /\ Keep S w (setAll w x [(2,ji u)])) := fun u => h.turn [(2,ji u)] rfl (by simp [Mc.cells]) h.bag h.names rfl h.told h.toks
 by_cases hlo : t < 0
 · have HE : Hid (m.set t = { m with text := 0 }) := by
    show m.set t = _;unfold Mc.set;rw [jp (by omega)]
   have g1 : decide (t < 0) = true := zm hlo;clear h hlo;go_enter Tryz.func21,Tryz.ntmps21;go_wp2_with fail;refine bodyPost_end (zq rfl) rfl ?_;refine ⟨rfl,?_⟩;rw [HE.out];exact HP.out 0
 by_cases hhi : t > 3
 · have HE : Hid (m.set t = { m with text := 0 }) := by
    show m.set t = _;unfold Mc.set;rw [jp (by omega)]
   have g1 : decide (t < 0) = false := zn hlo;have g2 : decide (3 < t) = true := zm hhi;clear h;go_enter Tryz.func21,Tryz.ntmps21;go_wp2_with fail;refine bodyPost_end (zq rfl) rfl ?_;refine ⟨rfl,?_⟩;rw [HE.out];exact HP.out 0
 have HE : Hid (m.set t = { m with text := t }) := by
  show m.set t = _;unfold Mc.set;rw [jq (by omega)]
 have g1 : decide (t < 0) = false := zn hlo
 have g2 : decide (3 < t) = false := zn hhi
 clear h
 go_enter Tryz.func21,Tryz.ntmps21
 go_wp2_with fail
 refine bodyPost_end (zq rfl) rfl ?_
 refine ⟨rfl,?_⟩
 rw [HE.out]
 exact HP.out t
theorem foreign_v (h : MachV Z S x m v T w) (b : Bool) : Calls Tryz.prog 22 #[mp x,.bool b] w (DidV Z S x (m.foreign b) v T w) := by
 have hxw := h.lt
 have c3 := h.cells 3 _ rfl
 have f3 := h.free 3
 have HP : Hid (MachV Z S x (m.foreign b) v T (setAll w x [(3,.bool b)]) /\ Keep S w (setAll w x [(3,.bool b)])) := h.turn [(3,.bool b)] rfl (by simp [Mc.cells,Mc.foreign]) h.bag h.names rfl h.told h.toks
 clear h
 go_enter Tryz.func22,Tryz.ntmps22
 go_wp2_with fail
 refine bodyPost_end (zq rfl) rfl ?_
 exact ⟨rfl,HP.out⟩
end Go.Proofs.YtjjfalbngcbfaaaGreatDoor
