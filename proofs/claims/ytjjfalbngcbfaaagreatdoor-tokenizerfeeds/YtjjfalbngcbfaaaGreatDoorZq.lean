import Derived.Test.YtjjfalbngcbfaaaGreatDoorZ0
import Derived.Test.YtjjfalbngcbfaaaGreatDoorZp
import Derived.BigCall
set_option maxHeartbeats 2000000
set_option maxRecDepth 20000
namespace Go.Proofs.YtjjfalbngcbfaaaGreatDoor
open Go.RowKit Go.Maps
variable {Z S : Nat -> Prop} {x : Nat} {m : Mc} {w : World} {ao : Option Addr} {l : List Ch}
theorem en142 : Enters 142 := enters_of Tryz.func142 (by kernel_rfl) rfl
theorem en144 : Enters 144 := enters_of Tryz.func144 (by kernel_rfl) rfl
theorem inBogus_1 (h : Mach Z S x m w) (p q : Int) (hn : m.tot <= 500000000) : Dz Z S x w 147 ⟨62,p,q⟩ (m.inBogus ⟨62,p,q⟩) := by
 have HE := hid (show (m.inBogus ⟨62,p,q⟩) = (m.tellMade q) by simp [Mc.inBogus])
 apply won h 62 p q;clear h;intro W0 K0;intros
 go_enter Tryz.func147,Tryz.ntmps147
 go_wp2_with fail
 refine wky K0 (fun U h => tellMade_any h q (by show m.tot <= _;omega)) ?_;intro W1 K1;intros
 go_wp2_with fail
 exact ⟨rfl,_,zq rfl,rfl,wke HE K1⟩
theorem inBogus_2 (h : Mach Z S x m w) (r p q : Int) (h62 : (r == 62) = false) (hn : m.tot <= 500000000) : Dz Z S x w 147 ⟨r,p,q⟩ (m.inBogus ⟨r,p,q⟩) := by
 have HE := hid (show (m.inBogus ⟨r,p,q⟩) = (m.addText r) by simp at h62;simp [Mc.inBogus,h62])
 apply won h r p q;clear h;intro W0 K0;intros
 go_enter Tryz.func147,Tryz.ntmps147
 go_wp2_with fail
 go_still_tail 5,(show Tryz.prog.follows .mixedOrders = true by kernel_rfl)
 go_wp2_with fail
 refine wkx (K0.out.drew.call (fun U h => addText_any h r (by show m.tot <= _;omega))) fun W1 K1 _ _ _ _ _ _ _ _ _ => ?_
 go_wp2_with fail
 exact ⟨rfl,_,zq rfl,rfl,wke HE K1⟩
theorem inBogus_any (h : Mach Z S x m w) (c : Ch) (hn : m.tot <= 500000000) : Dz Z S x w 147 c (m.inBogus c) := by
 obtain ⟨r,p,q⟩ := c
 by_cases h62 : r = 62
 · subst h62
   exact inBogus_1 h p q hn
 exact inBogus_2 h r p q (by simpa using h62) hn
theorem comment_1 (h : Mach Z S x m w) (p q : Int) (_hn : m.tot <= 500000000) : Dz Z S x w 142 ⟨45,p,q⟩ (m.comment ⟨45,p,q⟩) := by
 have HE := hid (show (m.comment ⟨45,p,q⟩) = ({ m with st := 166 } : Mc) by simp [Mc.comment])
 obtain ⟨W0,_,_,hb0,_,_,_,hx0,_,_,_,_,_,K0⟩ := Walk.on h 45 p q
 clear h
 go_enter Tryz.func142,Tryz.ntmps142
 have K1 := hid (K0.out.st 166)
 have hb1 := hb0
 have hx1 := hx0
 go_wp2_with fail
 exact ⟨rfl,_,zq rfl,rfl,wke HE K1⟩
theorem comment_2 (h : Mach Z S x m w) (r p q : Int) (h45 : (r == 45) = false) (hn : m.tot <= 500000000) : Dz Z S x w 142 ⟨r,p,q⟩ (m.comment ⟨r,p,q⟩) := by
 have HE := hid (show (m.comment ⟨r,p,q⟩) = (m.addText r) by simp at h45;simp [Mc.comment,h45])
 apply won h r p q;clear h;intro W0 K0;intros
 go_enter Tryz.func142,Tryz.ntmps142
 go_wp2_with fail
 go_still_tail 5,(show Tryz.prog.follows .mixedOrders = true by kernel_rfl)
 go_wp2_with fail
 refine wkx (K0.out.drew.call (fun U h => addText_any h r (by show m.tot <= _;omega))) fun W1 K1 _ _ _ _ _ _ _ _ _ => ?_
 go_wp2_with fail
 exact ⟨rfl,_,zq rfl,rfl,wke HE K1⟩
theorem comment_any (h : Mach Z S x m w) (c : Ch) (hn : m.tot <= 500000000) : Dz Z S x w 142 c (m.comment c) := by
 obtain ⟨r,p,q⟩ := c
 by_cases h45 : r = 45
 · subst h45
   exact comment_1 h p q hn
 exact comment_2 h r p q (by simpa using h45) hn
theorem abrupt_1 (h : Mach Z S x m w) (r p q : Int) (hn : m.tot <= 500000000) : Dz Z S x w 141 ⟨r,p,q⟩ (m.abrupt ⟨r,p,q⟩) := by
 have HE := hid (show (m.abrupt ⟨r,p,q⟩) = ((m.fault 15 (p)).tellMade q) by rfl)
 apply won h r p q;clear h;intro W0 K0;intros
 go_enter Tryz.func141,Tryz.ntmps141
 go_wp2_with fail
 refine wky K0 (fun U h => fault_any h 15 p (by show m.tot <= _;omega)) ?_;intro W1 K1;intros
 go_wp2_with fail
 refine wky K1 (fun U h => tellMade_any h q (by show (m.fault 15 (p)).tot <= _;have t0 := tot_fault m 15 (p);omega)) ?_;intro W2 K2;intros
 go_wp2_with fail
 exact ⟨rfl,_,zq rfl,rfl,wke HE K2⟩
theorem abrupt_any (h : Mach Z S x m w) (c : Ch) (hn : m.tot <= 500000000) : Dz Z S x w 141 c (m.abrupt c) := by
 obtain ⟨r,p,q⟩ := c
 exact abrupt_1 h r p q hn
theorem commentAgain_1 (h : Mach Z S x m w) (r p q : Int) (s : ByteArray) (hs : s.size <= 8) (h0 : 0 < s.size) (hn : m.tot <= 490000000) : Calls Tryz.prog 165 #[mp x,.string s,cv ⟨r,p,q⟩] w (Did Z S x (m.commentAgain s.data.toList ⟨r,p,q⟩) w) := by
 have HE := hid (show (m.commentAgain s.data.toList ⟨r,p,q⟩) = (({ (m.addDashes s.data.toList) with st := 142 } : Mc).comment ⟨r,p,q⟩) by rfl)
 apply won h r p q;clear h;intro W0 K0;intros
 go_enter Tryz.func165,Tryz.ntmps165
 go_wp2_with fail
 refine wky K0 (fun U h => addDashes_any h s hs h0 (by show m.tot <= _;omega)) ?_;intro W1 K1;intros
 go_wp2_with fail
 refine wky K1 (fun U h => again_any 142 en142 h ⟨r,p,q⟩ (fun U W h => comment_any h ⟨r,p,q⟩ (by show (m.addDashes s.data.toList).tot <= _;have t0 := tot_addDashes m s.data.toList;have t1 : s.data.toList.length = s.size := zw;omega))) ?_;intro W2 K2;intros
 go_wp2_with fail
 exact ⟨rfl,_,zq rfl,rfl,wke HE K2⟩
theorem comStart_1 (h : Mach Z S x m w) (p q : Int) (_hn : m.tot <= 480000000) : Dz Z S x w 109 ⟨45,p,q⟩ (m.comStart ⟨45,p,q⟩) := by
 have HE := hid (show (m.comStart ⟨45,p,q⟩) = ({ m with st := 140 } : Mc) by simp [Mc.comStart])
 obtain ⟨W0,_,_,hb0,_,_,_,hx0,_,_,_,_,_,K0⟩ := Walk.on h 45 p q
 clear h
 go_enter Tryz.func109,Tryz.ntmps109
 have K1 := hid (K0.out.st 140)
 have hb1 := hb0
 have hx1 := hx0
 go_wp2_with fail
 exact ⟨rfl,_,zq rfl,rfl,wke HE K1⟩
theorem comStart_2 (h : Mach Z S x m w) (p q : Int) (hn : m.tot <= 480000000) : Dz Z S x w 109 ⟨62,p,q⟩ (m.comStart ⟨62,p,q⟩) := by
 have HE := hid (show (m.comStart ⟨62,p,q⟩) = (m.abrupt ⟨62,p,q⟩) by simp [Mc.comStart])
 apply won h 62 p q;clear h;intro W0 K0;intros
 go_enter Tryz.func109,Tryz.ntmps109
 go_wp2_with fail
 refine wky K0 (fun U h => abrupt_any h ⟨62,p,q⟩ (by show m.tot <= _;omega)) ?_;intro W1 K1;intros
 go_wp2_with fail
 exact ⟨rfl,_,zq rfl,rfl,wke HE K1⟩
theorem comStart_3 (h : Mach Z S x m w) (r p q : Int) (h45 : (r == 45) = false) (h62 : (r == 62) = false) (hn : m.tot <= 480000000) : Dz Z S x w 109 ⟨r,p,q⟩ (m.comStart ⟨r,p,q⟩) := by
 have HE := hid (show (m.comStart ⟨r,p,q⟩) = (({ m with st := 142 } : Mc).comment ⟨r,p,q⟩) by simp at h45 h62;simp [Mc.comStart,h45,h62])
 apply won h r p q;clear h;intro W0 K0;intros
 go_enter Tryz.func109,Tryz.ntmps109
 go_wp2_with fail
 refine wky K0 (fun U h => again_any 142 en142 h ⟨r,p,q⟩ (fun U W h => comment_any h ⟨r,p,q⟩ (by show m.tot <= _;omega))) ?_;intro W1 K1;intros
 go_wp2_with fail
 exact ⟨rfl,_,zq rfl,rfl,wke HE K1⟩
theorem comStart_any (h : Mach Z S x m w) (c : Ch) (hn : m.tot <= 480000000) : Dz Z S x w 109 c (m.comStart c) := by
 obtain ⟨r,p,q⟩ := c
 by_cases h45 : r = 45
 · subst h45
   exact comStart_1 h p q hn
 by_cases h62 : r = 62
 · subst h62
   exact comStart_2 h p q hn
 exact comStart_3 h r p q (by simpa using h45) (by simpa using h62) hn
theorem comStartDash_1 (h : Mach Z S x m w) (p q : Int) (_hn : m.tot <= 480000000) : Dz Z S x w 140 ⟨45,p,q⟩ (m.comStartDash ⟨45,p,q⟩) := by
 have HE := hid (show (m.comStartDash ⟨45,p,q⟩) = ({ m with st := 164 } : Mc) by simp [Mc.comStartDash])
 obtain ⟨W0,_,_,hb0,_,_,_,hx0,_,_,_,_,_,K0⟩ := Walk.on h 45 p q
 clear h
 go_enter Tryz.func140,Tryz.ntmps140
 have K1 := hid (K0.out.st 164)
 have hb1 := hb0
 have hx1 := hx0
 go_wp2_with fail
 exact ⟨rfl,_,zq rfl,rfl,wke HE K1⟩
theorem comStartDash_2 (h : Mach Z S x m w) (p q : Int) (hn : m.tot <= 480000000) : Dz Z S x w 140 ⟨62,p,q⟩ (m.comStartDash ⟨62,p,q⟩) := by
 have HE := hid (show (m.comStartDash ⟨62,p,q⟩) = (m.abrupt ⟨62,p,q⟩) by simp [Mc.comStartDash])
 apply won h 62 p q;clear h;intro W0 K0;intros
 go_enter Tryz.func140,Tryz.ntmps140
 go_wp2_with fail
 refine wky K0 (fun U h => abrupt_any h ⟨62,p,q⟩ (by show m.tot <= _;omega)) ?_;intro W1 K1;intros
 go_wp2_with fail
 exact ⟨rfl,_,zq rfl,rfl,wke HE K1⟩
theorem comStartDash_3 (h : Mach Z S x m w) (r p q : Int) (h45 : (r == 45) = false) (h62 : (r == 62) = false) (hn : m.tot <= 480000000) : Dz Z S x w 140 ⟨r,p,q⟩ (m.comStartDash ⟨r,p,q⟩) := by
 have HE := hid (show (m.comStartDash ⟨r,p,q⟩) = (m.commentAgain [45] ⟨r,p,q⟩) by simp at h45 h62;simp [Mc.comStartDash,h45,h62])
 apply won h r p q;clear h;intro W0 K0;intros
 go_enter Tryz.func140,Tryz.ntmps140
 go_wp2_with fail
 refine wky K0 (fun U h => commentAgain_1 h r p q ⟨#[45]⟩ (by decide) (by decide) (by show m.tot <= _;omega)) ?_;intro W1 K1;intros
 go_wp2_with fail
 exact ⟨rfl,_,zq rfl,rfl,wke HE K1⟩
theorem comStartDash_any (h : Mach Z S x m w) (c : Ch) (hn : m.tot <= 480000000) : Dz Z S x w 140 c (m.comStartDash c) := by
 obtain ⟨r,p,q⟩ := c
 by_cases h45 : r = 45
 · subst h45
   exact comStartDash_1 h p q hn
 by_cases h62 : r = 62
 · subst h62
   exact comStartDash_2 h p q hn
 exact comStartDash_3 h r p q (by simpa using h45) (by simpa using h62) hn
theorem comDash_1 (h : Mach Z S x m w) (p q : Int) (_hn : m.tot <= 480000000) : Dz Z S x w 166 ⟨45,p,q⟩ (m.comDash ⟨45,p,q⟩) := by
 have HE := hid (show (m.comDash ⟨45,p,q⟩) = ({ m with st := 164 } : Mc) by simp [Mc.comDash])
 obtain ⟨W0,_,_,hb0,_,_,_,hx0,_,_,_,_,_,K0⟩ := Walk.on h 45 p q
 clear h
 go_enter Tryz.func166,Tryz.ntmps166
 have K1 := hid (K0.out.st 164)
 have hb1 := hb0
 have hx1 := hx0
 go_wp2_with fail
 exact ⟨rfl,_,zq rfl,rfl,wke HE K1⟩
theorem comDash_2 (h : Mach Z S x m w) (r p q : Int) (h45 : (r == 45) = false) (hn : m.tot <= 480000000) : Dz Z S x w 166 ⟨r,p,q⟩ (m.comDash ⟨r,p,q⟩) := by
 have HE := hid (show (m.comDash ⟨r,p,q⟩) = (m.commentAgain [45] ⟨r,p,q⟩) by simp at h45;simp [Mc.comDash,h45])
 apply won h r p q;clear h;intro W0 K0;intros
 go_enter Tryz.func166,Tryz.ntmps166
 go_wp2_with fail
 refine wky K0 (fun U h => commentAgain_1 h r p q ⟨#[45]⟩ (by decide) (by decide) (by show m.tot <= _;omega)) ?_;intro W1 K1;intros
 go_wp2_with fail
 exact ⟨rfl,_,zq rfl,rfl,wke HE K1⟩
theorem comDash_any (h : Mach Z S x m w) (c : Ch) (hn : m.tot <= 480000000) : Dz Z S x w 166 c (m.comDash c) := by
 obtain ⟨r,p,q⟩ := c
 by_cases h45 : r = 45
 · subst h45
   exact comDash_1 h p q hn
 exact comDash_2 h r p q (by simpa using h45) hn
theorem comEnd_1 (h : Mach Z S x m w) (p q : Int) (hn : m.tot <= 480000000) : Dz Z S x w 164 ⟨62,p,q⟩ (m.comEnd ⟨62,p,q⟩) := by
 have HE := hid (show (m.comEnd ⟨62,p,q⟩) = (m.tellMade q) by simp [Mc.comEnd])
 apply won h 62 p q;clear h;intro W0 K0;intros
 go_enter Tryz.func164,Tryz.ntmps164
 go_wp2_with fail
 refine wky K0 (fun U h => tellMade_any h q (by show m.tot <= _;omega)) ?_;intro W1 K1;intros
 go_wp2_with fail
 exact ⟨rfl,_,zq rfl,rfl,wke HE K1⟩
theorem comEnd_2 (h : Mach Z S x m w) (p q : Int) (_hn : m.tot <= 480000000) : Dz Z S x w 164 ⟨33,p,q⟩ (m.comEnd ⟨33,p,q⟩) := by
 have HE := hid (show (m.comEnd ⟨33,p,q⟩) = ({ m with st := 178 } : Mc) by simp [Mc.comEnd])
 obtain ⟨W0,_,_,hb0,_,_,_,hx0,_,_,_,_,_,K0⟩ := Walk.on h 33 p q
 clear h
 go_enter Tryz.func164,Tryz.ntmps164
 have K1 := hid (K0.out.st 178)
 have hb1 := hb0
 have hx1 := hx0
 go_wp2_with fail
 exact ⟨rfl,_,zq rfl,rfl,wke HE K1⟩
theorem comEnd_3 (h : Mach Z S x m w) (p q : Int) (hn : m.tot <= 480000000) : Dz Z S x w 164 ⟨45,p,q⟩ (m.comEnd ⟨45,p,q⟩) := by
 have HE := hid (show (m.comEnd ⟨45,p,q⟩) = (m.addDashes [45]) by simp [Mc.comEnd])
 apply won h 45 p q;clear h;intro W0 K0;intros
 go_enter Tryz.func164,Tryz.ntmps164
 go_wp2_with fail
 refine wky K0 (fun U h => addDashes_any h ⟨#[45]⟩ (by decide) (by decide) (by show m.tot <= _;omega)) ?_;intro W1 K1;intros
 go_wp2_with fail
 exact ⟨rfl,_,zq rfl,rfl,wke HE K1⟩
theorem comEnd_4 (h : Mach Z S x m w) (r p q : Int) (h62 : (r == 62) = false) (h33 : (r == 33) = false) (h45 : (r == 45) = false) (hn : m.tot <= 480000000) : Dz Z S x w 164 ⟨r,p,q⟩ (m.comEnd ⟨r,p,q⟩) := by
 have HE := hid (show (m.comEnd ⟨r,p,q⟩) = (m.commentAgain [45,45] ⟨r,p,q⟩) by simp at h62 h33 h45;simp [Mc.comEnd,h62,h33,h45])
 apply won h r p q;clear h;intro W0 K0;intros
 go_enter Tryz.func164,Tryz.ntmps164
 go_wp2_with fail
 refine wky K0 (fun U h => commentAgain_1 h r p q ⟨#[45,45]⟩ (by decide) (by decide) (by show m.tot <= _;omega)) ?_;intro W1 K1;intros
 go_wp2_with fail
 exact ⟨rfl,_,zq rfl,rfl,wke HE K1⟩
theorem comEnd_any (h : Mach Z S x m w) (c : Ch) (hn : m.tot <= 480000000) : Dz Z S x w 164 c (m.comEnd c) := by
 obtain ⟨r,p,q⟩ := c
 by_cases h62 : r = 62
 · subst h62
   exact comEnd_1 h p q hn
 by_cases h33 : r = 33
 · subst h33
   exact comEnd_2 h p q hn
 by_cases h45 : r = 45
 · subst h45
   exact comEnd_3 h p q hn
 exact comEnd_4 h r p q (by simpa using h62) (by simpa using h33) (by simpa using h45) hn
theorem comBang_1 (h : Mach Z S x m w) (p q : Int) (hn : m.tot <= 480000000) : Dz Z S x w 178 ⟨45,p,q⟩ (m.comBang ⟨45,p,q⟩) := by
 have HE := hid (show (m.comBang ⟨45,p,q⟩) = ({ (m.addDashes [45,45,33]) with st := 166 } : Mc) by simp [Mc.comBang])
 apply won h 45 p q;clear h;intro W0 K0;intros
 go_enter Tryz.func178,Tryz.ntmps178
 go_wp2_with fail
 refine wkx (K0.out.call (fun U h => addDashes_any h ⟨#[45,45,33]⟩ (by decide) (by decide) (by show m.tot <= _;omega))) fun W1 K1 hb1 _ _ _ hx1 _ _ _ _ => ?_
 have K2 := hid (K1.out.st 166)
 have hb2 := hb1
 have hx2 := hx1
 go_wp2_with fail
 exact ⟨rfl,_,zq rfl,rfl,wke HE K2⟩
theorem comBang_2 (h : Mach Z S x m w) (p q : Int) (hn : m.tot <= 480000000) : Dz Z S x w 178 ⟨62,p,q⟩ (m.comBang ⟨62,p,q⟩) := by
 have HE := hid (show (m.comBang ⟨62,p,q⟩) = (m.abrupt ⟨62,p,q⟩) by simp [Mc.comBang])
 apply won h 62 p q;clear h;intro W0 K0;intros
 go_enter Tryz.func178,Tryz.ntmps178
 go_wp2_with fail
 refine wky K0 (fun U h => abrupt_any h ⟨62,p,q⟩ (by show m.tot <= _;omega)) ?_;intro W1 K1;intros
 go_wp2_with fail
 exact ⟨rfl,_,zq rfl,rfl,wke HE K1⟩
theorem comBang_3 (h : Mach Z S x m w) (r p q : Int) (h45 : (r == 45) = false) (h62 : (r == 62) = false) (hn : m.tot <= 480000000) : Dz Z S x w 178 ⟨r,p,q⟩ (m.comBang ⟨r,p,q⟩) := by
 have HE := hid (show (m.comBang ⟨r,p,q⟩) = (m.commentAgain [45,45,33] ⟨r,p,q⟩) by simp at h45 h62;simp [Mc.comBang,h45,h62])
 apply won h r p q;clear h;intro W0 K0;intros
 go_enter Tryz.func178,Tryz.ntmps178
 go_wp2_with fail
 refine wky K0 (fun U h => commentAgain_1 h r p q ⟨#[45,45,33]⟩ (by decide) (by decide) (by show m.tot <= _;omega)) ?_;intro W1 K1;intros
 go_wp2_with fail
 exact ⟨rfl,_,zq rfl,rfl,wke HE K1⟩
theorem comBang_any (h : Mach Z S x m w) (c : Ch) (hn : m.tot <= 480000000) : Dz Z S x w 178 c (m.comBang c) := by
 obtain ⟨r,p,q⟩ := c
 by_cases h45 : r = 45
 · subst h45
   exact comBang_1 h p q hn
 by_cases h62 : r = 62
 · subst h62
   exact comBang_2 h p q hn
 exact comBang_3 h r p q (by simpa using h45) (by simpa using h62) hn
theorem wrongDoc_any (h : Mach Z S x m w) (at' : Int) (hn : m.tot <= 500000000) : Calls Tryz.prog 143 #[mp x,ji at'] w (Did Z S x (m.wrongDoc at') w) := by
 have HE := hid (show (m.wrongDoc at') = ({ (m.fault 17 at') with self := true } : Mc) by rfl)
 have hx0 := h.low
 have p0 := Post.refl h
 obtain ⟨v0,_,cc,ff⟩ := p0.mach
 have s0 := cc 0 _ rfl
 have s1 := ff 0
 have s2 := cc 1 _ rfl
 have s3 := ff 1
 have s4 := cc 12 _ rfl
 have s5 := ff 12
 have P0 := hid p0
 clear h p0 cc ff
 go_enter Tryz.func143,Tryz.ntmps143
 go_wp2_with fail
 refine (P0.out.call (fun U h => fault_any h 17 at' (by show m.tot <= _;omega))).mono ?_
 rintro e W1 ⟨rfl,p1⟩
 clear s0 s1 s2 s3 s4 s5
 obtain ⟨v1,hx1,cc,ff⟩ := p1.mach
 have s0 := cc 0 _ rfl
 have s1 := ff 0
 have s2 := cc 1 _ rfl
 have s3 := ff 1
 have s4 := cc 12 _ rfl
 have s5 := ff 12
 have P1 := hid p1
 clear p1 cc ff
 have P2 : Hid (Post Z S x ({ (m.fault 17 at') with self := true } : Mc) w (W1.setCell (jd x 12) (.bool true))) := P1.out.turn [(12,.bool true)] (fun v => by simp [Mc.cells]) (fun _ _ => rfl) rfl rfl
 go_wp2_with fail
 refine ⟨rfl,_,zq rfl,rfl,?_⟩
 rw [HE.out]
 exact P2.out
theorem docName_1 (h : Mach Z S x m w) (r p q : Int) (hbl : blk r = true) (_hn : m.tot <= 500000000) : Dz Z S x w 144 ⟨r,p,q⟩ (m.docName ⟨r,p,q⟩) := by
 have HE := hid (show (m.docName ⟨r,p,q⟩) = ({ m with st := 168 } : Mc) by simp [Mc.docName,hbl])
 obtain ⟨W0,_,_,hb0,_,_,_,hx0,_,_,_,_,_,K0⟩ := Walk.on h r p q
 clear h
 go_enter Tryz.func144,Tryz.ntmps144
 have K1 := hid (K0.out.st 168)
 have hb1 := hb0
 have hx1 := hx0
 go_wp2_with (go_at_call 118;refine smx (blank_as r true _ hbl) ?_)
 exact ⟨rfl,_,zq rfl,rfl,wke HE K1⟩
theorem docName_2 (h : Mach Z S x m w) (p q : Int) (hn : m.tot <= 500000000) : Dz Z S x w 144 ⟨62,p,q⟩ (m.docName ⟨62,p,q⟩) := by
 have HE := hid (show (m.docName ⟨62,p,q⟩) = (m.tellMade q) by simp [Mc.docName,show blk 62 = false from rfl])
 have hbl : blk 62 = false := rfl
 apply won h 62 p q;clear h;intro W0 K0;intros
 go_enter Tryz.func144,Tryz.ntmps144
 go_wp2_with (go_at_call 118;refine smx (blank_as 62 false _ hbl) ?_)
 refine wky K0 (fun U h => tellMade_any h q (by show m.tot <= _;omega)) ?_;intro W1 K1;intros
 go_wp2_with fail
 exact ⟨rfl,_,zq rfl,rfl,wke HE K1⟩
theorem docName_3 (h : Mach Z S x m w) (r p q : Int) (hbl : blk r = false) (h62 : (r == 62) = false) (hn : m.tot <= 500000000) : Dz Z S x w 144 ⟨r,p,q⟩ (m.docName ⟨r,p,q⟩) := by
 have HE := hid (show (m.docName ⟨r,p,q⟩) = (m.addName r) by simp at h62;simp [Mc.docName,hbl,h62])
 apply won h r p q;clear h;intro W0 K0;intros
 go_enter Tryz.func144,Tryz.ntmps144
 go_wp2_with (go_at_call 118;refine smx (blank_as r false _ hbl) ?_)
 go_still_tail 5,(show Tryz.prog.follows .mixedOrders = true by kernel_rfl)
 go_wp2_with fail
 refine wkx (K0.out.drew.call (fun U h => addName_any h r (by show m.tot <= _;omega))) fun W1 K1 _ _ _ _ _ _ _ _ _ => ?_
 go_wp2_with fail
 exact ⟨rfl,_,zq rfl,rfl,wke HE K1⟩
theorem docName_any (h : Mach Z S x m w) (c : Ch) (hn : m.tot <= 500000000) : Dz Z S x w 144 c (m.docName c) := by
 obtain ⟨r,p,q⟩ := c
 cases hbl : blk r with
 | true => exact docName_1 h r p q hbl hn
 | false =>
  by_cases h62 : r = 62
  · subst h62
    exact docName_2 h p q hn
  exact docName_3 h r p q hbl (by simpa using h62) hn
theorem afterDoc_1 (h : Mach Z S x m w) (r p q : Int) (hbl : blk r = true) (_hn : m.tot <= 500000000) : Dz Z S x w 168 ⟨r,p,q⟩ (m.afterDoc ⟨r,p,q⟩) := by
 have HE := hid (show (m.afterDoc ⟨r,p,q⟩) = m by simp [Mc.afterDoc,hbl])
 apply won h r p q;clear h;intro W0 K0;intros
 go_enter Tryz.func168,Tryz.ntmps168
 go_wp2_with (go_at_call 118;refine smx (blank_as r true _ hbl) ?_)
 exact ⟨rfl,_,zq rfl,rfl,wke HE K0⟩
theorem afterDoc_2 (h : Mach Z S x m w) (p q : Int) (hn : m.tot <= 500000000) : Dz Z S x w 168 ⟨62,p,q⟩ (m.afterDoc ⟨62,p,q⟩) := by
 have HE := hid (show (m.afterDoc ⟨62,p,q⟩) = (m.tellMade q) by simp [Mc.afterDoc,show blk 62 = false from rfl])
 have hbl : blk 62 = false := rfl
 apply won h 62 p q;clear h;intro W0 K0;intros
 go_enter Tryz.func168,Tryz.ntmps168
 go_wp2_with (go_at_call 118;refine smx (blank_as 62 false _ hbl) ?_)
 refine wky K0 (fun U h => tellMade_any h q (by show m.tot <= _;omega)) ?_;intro W1 K1;intros
 go_wp2_with fail
 exact ⟨rfl,_,zq rfl,rfl,wke HE K1⟩
theorem afterDoc_3 (h : Mach Z S x m w) (r p q : Int) (hbl : blk r = false) (h62 : (r == 62) = false) (hn : m.tot <= 500000000) : Dz Z S x w 168 ⟨r,p,q⟩ (m.afterDoc ⟨r,p,q⟩) := by
 have HE := hid (show (m.afterDoc ⟨r,p,q⟩) = ({ (m.wrongDoc p) with st := 180 } : Mc) by simp at h62;simp [Mc.afterDoc,hbl,h62])
 apply won h r p q;clear h;intro W0 K0;intros
 go_enter Tryz.func168,Tryz.ntmps168
 go_wp2_with (go_at_call 118;refine smx (blank_as r false _ hbl) ?_)
 refine wkx (K0.out.call (fun U h => wrongDoc_any h p (by show m.tot <= _;omega))) fun W1 K1 hb1 _ _ _ hx1 _ _ _ _ => ?_
 have K2 := hid (K1.out.st 180)
 have hb2 := hb1
 have hx2 := hx1
 go_wp2_with fail
 exact ⟨rfl,_,zq rfl,rfl,wke HE K2⟩
theorem afterDoc_any (h : Mach Z S x m w) (c : Ch) (hn : m.tot <= 500000000) : Dz Z S x w 168 c (m.afterDoc c) := by
 obtain ⟨r,p,q⟩ := c
 cases hbl : blk r with
 | true => exact afterDoc_1 h r p q hbl hn
 | false =>
  by_cases h62 : r = 62
  · subst h62
    exact afterDoc_2 h p q hn
  exact afterDoc_3 h r p q hbl (by simpa using h62) hn
theorem bogusDoc_1 (h : Mach Z S x m w) (p q : Int) (hn : m.tot <= 500000000) : Dz Z S x w 180 ⟨62,p,q⟩ (m.bogusDoc ⟨62,p,q⟩) := by
 have HE := hid (show (m.bogusDoc ⟨62,p,q⟩) = (m.tellMade q) by simp [Mc.bogusDoc])
 apply won h 62 p q;clear h;intro W0 K0;intros
 go_enter Tryz.func180,Tryz.ntmps180
 go_wp2_with fail
 refine wky K0 (fun U h => tellMade_any h q (by show m.tot <= _;omega)) ?_;intro W1 K1;intros
 go_wp2_with fail
 exact ⟨rfl,_,zq rfl,rfl,wke HE K1⟩
theorem bogusDoc_2 (h : Mach Z S x m w) (r p q : Int) (h62 : (r == 62) = false) (_hn : m.tot <= 500000000) : Dz Z S x w 180 ⟨r,p,q⟩ (m.bogusDoc ⟨r,p,q⟩) := by
 have HE := hid (show (m.bogusDoc ⟨r,p,q⟩) = m by simp at h62;simp [Mc.bogusDoc,h62])
 apply won h r p q;clear h;intro W0 K0;intros
 go_enter Tryz.func180,Tryz.ntmps180
 go_wp2_with fail
 exact ⟨rfl,_,zq rfl,rfl,wke HE K0⟩
theorem bogusDoc_any (h : Mach Z S x m w) (c : Ch) (hn : m.tot <= 500000000) : Dz Z S x w 180 c (m.bogusDoc c) := by
 obtain ⟨r,p,q⟩ := c
 by_cases h62 : r = 62
 · subst h62
   exact bogusDoc_1 h p q hn
 exact bogusDoc_2 h r p q (by simpa using h62) hn
theorem beforeDoc_1 (h : Mach Z S x m w) (r p q : Int) (hbl : blk r = true) (_hn : m.tot <= 490000000) : Dz Z S x w 112 ⟨r,p,q⟩ (m.beforeDoc ⟨r,p,q⟩) := by
 have HE := hid (show (m.beforeDoc ⟨r,p,q⟩) = m by simp [Mc.beforeDoc,hbl])
 apply won h r p q;clear h;intro W0 K0;intros
 go_enter Tryz.func112,Tryz.ntmps112
 go_wp2_with (go_at_call 118;refine smx (blank_as r true _ hbl) ?_)
 exact ⟨rfl,_,zq rfl,rfl,wke HE K0⟩
theorem beforeDoc_2 (h : Mach Z S x m w) (p q : Int) (hn : m.tot <= 490000000) : Dz Z S x w 112 ⟨62,p,q⟩ (m.beforeDoc ⟨62,p,q⟩) := by
 have HE := hid (show (m.beforeDoc ⟨62,p,q⟩) = ((m.wrongDoc p).tellMade q) by simp [Mc.beforeDoc,show blk 62 = false from rfl])
 have hbl : blk 62 = false := rfl
 apply won h 62 p q;clear h;intro W0 K0;intros
 go_enter Tryz.func112,Tryz.ntmps112
 go_wp2_with (go_at_call 118;refine smx (blank_as 62 false _ hbl) ?_)
 refine wky K0 (fun U h => wrongDoc_any h p (by show m.tot <= _;omega)) ?_;intro W1 K1;intros
 go_wp2_with fail
 refine wky K1 (fun U h => tellMade_any h q (by show (m.fault 17 p).tot <= _;have t0 := tot_fault m 17 p;omega)) ?_;intro W2 K2;intros
 go_wp2_with fail
 exact ⟨rfl,_,zq rfl,rfl,wke HE K2⟩
theorem beforeDoc_3 (h : Mach Z S x m w) (r p q : Int) (hbl : blk r = false) (h62 : (r == 62) = false) (hn : m.tot <= 490000000) : Dz Z S x w 112 ⟨r,p,q⟩ (m.beforeDoc ⟨r,p,q⟩) := by
 have HE := hid (show (m.beforeDoc ⟨r,p,q⟩) = (({ m with st := 144 } : Mc).docName ⟨r,p,q⟩) by simp at h62;simp [Mc.beforeDoc,hbl,h62])
 apply won h r p q;clear h;intro W0 K0;intros
 go_enter Tryz.func112,Tryz.ntmps112
 go_wp2_with (go_at_call 118;refine smx (blank_as r false _ hbl) ?_)
 refine wky K0 (fun U h => again_any 144 en144 h ⟨r,p,q⟩ (fun U W h => docName_any h ⟨r,p,q⟩ (by show m.tot <= _;omega))) ?_;intro W1 K1;intros
 go_wp2_with fail
 exact ⟨rfl,_,zq rfl,rfl,wke HE K1⟩
theorem beforeDoc_any (h : Mach Z S x m w) (c : Ch) (hn : m.tot <= 490000000) : Dz Z S x w 112 c (m.beforeDoc c) := by
 obtain ⟨r,p,q⟩ := c
 cases hbl : blk r with
 | true => exact beforeDoc_1 h r p q hbl hn
 | false =>
  by_cases h62 : r = 62
  · subst h62
    exact beforeDoc_2 h p q hn
  exact beforeDoc_3 h r p q hbl (by simpa using h62) hn
theorem quoted_1 (h : Mach Z S x m w) (sg p q : Int) (_hn : m.tot <= 500000000) : Calls Tryz.prog 185 #[mp x,cv ⟨sg,p,q⟩,ji sg] w (Did Z S x (m.quoted ⟨sg,p,q⟩ sg) w) := by
 have HE := hid (show (m.quoted ⟨sg,p,q⟩ sg) = ({ m with st := 187 } : Mc) by simp [Mc.quoted])
 obtain ⟨W0,_,_,hb0,_,_,_,hx0,_,_,_,_,_,K0⟩ := Walk.on h sg p q
 clear h
 go_enter Tryz.func185,Tryz.ntmps185
 have K1 := hid (K0.out.st 187)
 have hb1 := hb0
 have hx1 := hx0
 go_wp2_with fail
 exact ⟨rfl,_,zq rfl,rfl,wke HE K1⟩
theorem quoted_2 (h : Mach Z S x m w) (sg p q : Int) (hsg : ((38 : Int) == sg) = false) (_hn : m.tot <= 500000000) : Calls Tryz.prog 185 #[mp x,cv ⟨38,p,q⟩,ji sg] w (Did Z S x (m.quoted ⟨38,p,q⟩ sg) w) := by
 have HE := hid (show (m.quoted ⟨38,p,q⟩ sg) = ({ m with ref := [⟨38,p,q⟩] } : Mc) by simp at hsg;simp [Mc.quoted,hsg])
 apply won h 38 p q;clear h;intro W0 K0;intros
 go_enter Tryz.func185,Tryz.ntmps185
 have hV0 : ∃ V,W0.alloc (.cells #[ji 38,ji p,ji q] 37) = V := ⟨_,rfl⟩
 obtain ⟨V,hV⟩ := hV0
 obtain ⟨⟨u6,r6⟩,g6,hxV,kV⟩ := Walk.ref K0.out hV
 have K1 := hid kV
 clear kV
 go_wp2_with fail
 exact ⟨rfl,_,zq rfl,rfl,wke HE K1⟩
theorem quoted_3 (h : Mach Z S x m w) (sg r p q : Int) (hsg : (r == sg) = false) (h38 : (r == 38) = false) (hn : m.tot <= 500000000) : Calls Tryz.prog 185 #[mp x,cv ⟨r,p,q⟩,ji sg] w (Did Z S x (m.quoted ⟨r,p,q⟩ sg) w) := by
 have HE := hid (show (m.quoted ⟨r,p,q⟩ sg) = (m.addValue r) by simp at hsg h38;simp [Mc.quoted,hsg,h38])
 apply won h r p q;clear h;intro W0 K0;intros
 go_enter Tryz.func185,Tryz.ntmps185
 go_wp2_with fail
 go_still_tail 5,(show Tryz.prog.follows .mixedOrders = true by kernel_rfl)
 go_wp2_with fail
 refine wkx (K0.out.drew.call (fun U h => addValue_any h r (by show m.tot <= _;omega))) fun W1 K1 _ _ _ _ _ _ _ _ _ => ?_
 go_wp2_with fail
 exact ⟨rfl,_,zq rfl,rfl,wke HE K1⟩
theorem quoted_any (h : Mach Z S x m w) (c : Ch) (sg : Int) (hn : m.tot <= 500000000) : Calls Tryz.prog 185 #[mp x,cv c,ji sg] w (Did Z S x (m.quoted c sg) w) := by
 obtain ⟨r,p,q⟩ := c
 by_cases h1 : r = sg
 · subst h1
   exact quoted_1 h r p q hn
 by_cases h2 : r = 38
 · subst h2
   exact quoted_2 h sg p q (by simpa using h1) hn
 exact quoted_3 h sg r p q (by simpa using h1) (by simpa using h2) hn
theorem double_1 (h : Mach Z S x m w) (r p q : Int) (hn : m.tot <= 490000000) : Dz Z S x w 181 ⟨r,p,q⟩ (m.quoted ⟨r,p,q⟩ 34) := by
 apply won h r p q;clear h;intro W0 K0;intros
 go_enter Tryz.func181,Tryz.ntmps181
 go_wp2_with fail
 refine wky K0 (fun U h => quoted_any h ⟨r,p,q⟩ 34 (by show m.tot <= _;omega)) ?_;intro W1 K1;intros
 go_wp2_with fail
 refine ⟨rfl,_,zq rfl,rfl,?_⟩
 exact K1.out.post
theorem single_1 (h : Mach Z S x m w) (r p q : Int) (hn : m.tot <= 490000000) : Dz Z S x w 182 ⟨r,p,q⟩ (m.quoted ⟨r,p,q⟩ 39) := by
 apply won h r p q;clear h;intro W0 K0;intros
 go_enter Tryz.func182,Tryz.ntmps182
 go_wp2_with fail
 refine wky K0 (fun U h => quoted_any h ⟨r,p,q⟩ 39 (by show m.tot <= _;omega)) ?_;intro W1 K1;intros
 go_wp2_with fail
 refine ⟨rfl,_,zq rfl,rfl,?_⟩
 exact K1.out.post
theorem en113 : Enters 113 := enters_of Tryz.func113 (by kernel_rfl) rfl
theorem data_r0 (h : Mach Z S x m w) (p q : Int) (ht : m.text = 0) (_hn : m.tot <= 500000000) : Dz Z S x w 27 ⟨38,p,q⟩ (m.data ⟨38,p,q⟩) := by
 have HE := hid (show (m.data ⟨38,p,q⟩) = ({ m with ref := [⟨38,p,q⟩] } : Mc) by simp [Mc.data,ht])
 obtain ⟨W0,_,_,_,_,_,_,_,_,_,_,_,_,K0⟩ := Walk.on h 38 p q
 have c2 : W0.cell? (jd x 2) = some (ji 0) := by rw [<- ht];exact K0.out.txt.1
 clear h
 go_enter Tryz.func27,Tryz.ntmps27
 have hV0 : ∃ V,W0.alloc (.cells #[ji 38,ji p,ji q] 37) = V := ⟨_,rfl⟩
 obtain ⟨V,hV⟩ := hV0
 obtain ⟨⟨u6,r6⟩,g6,hxV,kV⟩ := Walk.ref K0.out hV
 have K1 := hid kV
 clear kV
 go_wp2_with fail
 exact ⟨rfl,_,zq rfl,rfl,wke HE K1⟩
theorem data_r1 (h : Mach Z S x m w) (p q : Int) (ht : m.text = 1) (_hn : m.tot <= 500000000) : Dz Z S x w 27 ⟨38,p,q⟩ (m.data ⟨38,p,q⟩) := by
 have HE := hid (show (m.data ⟨38,p,q⟩) = ({ m with ref := [⟨38,p,q⟩] } : Mc) by simp [Mc.data,ht])
 obtain ⟨W0,_,_,_,_,_,_,_,_,_,_,_,_,K0⟩ := Walk.on h 38 p q
 have c2 : W0.cell? (jd x 2) = some (ji 1) := by rw [<- ht];exact K0.out.txt.1
 clear h
 go_enter Tryz.func27,Tryz.ntmps27
 have hV0 : ∃ V,W0.alloc (.cells #[ji 38,ji p,ji q] 37) = V := ⟨_,rfl⟩
 obtain ⟨V,hV⟩ := hV0
 obtain ⟨⟨u6,r6⟩,g6,hxV,kV⟩ := Walk.ref K0.out hV
 have K1 := hid kV
 clear kV
 go_wp2_with fail
 exact ⟨rfl,_,zq rfl,rfl,wke HE K1⟩
theorem data_t0 (h : Mach Z S x m w) (p q : Int) (ht : m.text = 0) (hn : m.tot <= 500000000) : Dz Z S x w 27 ⟨60,p,q⟩ (m.data ⟨60,p,q⟩) := by
 have HE := hid (show (m.data ⟨60,p,q⟩) = ({ (m.hold ⟨60,p,q⟩) with st := 49,en := 50 } : Mc) by simp [Mc.data,ht])
 obtain ⟨W0,_,_,_,_,_,_,_,_,_,_,_,_,K0⟩ := Walk.on h 60 p q
 have c2 : W0.cell? (jd x 2) = some (ji 0) := by rw [<- ht];exact K0.out.txt.1
 clear h
 go_enter Tryz.func27,Tryz.ntmps27
 go_wp2_with fail
 refine wkx (K0.out.call (fun U h => hold_any h ⟨60,p,q⟩ (by show m.tot <= _;omega))) fun W1 K1 hb1 _ _ _ hx1 _ _ _ _ => ?_
 have K2 := hid (K1.out.st 49)
 have hb2 := hb1
 have hx2 := hx1
 have K3 := hid (K2.out.en 50)
 have hb3 := hb2
 have hx3 := hx2
 go_wp2_with fail
 exact ⟨rfl,_,zq rfl,rfl,wke HE K3⟩
theorem data_t1 (h : Mach Z S x m w) (p q : Int) (ht0 : m.text ≠ 0) (ht3 : m.text ≠ 3) (hn : m.tot <= 500000000) : Dz Z S x w 27 ⟨60,p,q⟩ (m.data ⟨60,p,q⟩) := by
 have HE := hid (show (m.data ⟨60,p,q⟩) = ({ (m.hold ⟨60,p,q⟩) with st := 51 } : Mc) by simp [Mc.data,ht0,ht3])
 obtain ⟨W0,hW0,k0⟩ := Walk.start h ⟨60,p,q⟩
 have hxw := h.low
 obtain ⟨hb0,d0,d1,d2⟩ := k0.box
 have hx0 := k0.lt
 have hne : w.heap.size ≠ x := by omega
 obtain ⟨s0,s1,s2,s3⟩ := k0.st0
 obtain ⟨tx,htx⟩ := ex (m.text)
 have c2 : W0.cell? (jd x 2) = some (ji tx) := by rw [<- htx];exact k0.txt.1
 have e0 : (tx == 0) = false := by rw [<- htx];simpa using ht0
 have e3 : (tx == 3) = false := by rw [<- htx];simpa using ht3
 clear htx ht0 ht3
 have K0 := hid k0
 clear h k0
 go_enter Tryz.func27,Tryz.ntmps27
 go_wp2_with fail
 clear hb0 d0 d1 d2 hx0 s0 s1 s2 s3
 refine wkx (K0.out.call (fun U h => hold_any h ⟨60,p,q⟩ (by show m.tot <= _;omega))) fun W1 K1 hb1 d0 d1 d2 hx1 s0 s1 s2 s3 => ?_
 have K2 := hid (K1.out.st 51)
 have hb2 := hb1
 have hx2 := hx1
 go_wp2_with fail
 exact ⟨rfl,_,zq rfl,rfl,wke HE K2⟩
theorem data_t3 (h : Mach Z S x m w) (p q : Int) (ht : m.text = 3) (hn : m.tot <= 500000000) : Dz Z S x w 27 ⟨60,p,q⟩ (m.data ⟨60,p,q⟩) := by
 have HE := hid (show (m.data ⟨60,p,q⟩) = (m.tellChar ⟨60,p,q⟩) by simp [Mc.data,ht])
 obtain ⟨W0,_,_,_,_,_,_,_,_,_,_,_,_,K0⟩ := Walk.on h 60 p q
 have c2 : W0.cell? (jd x 2) = some (ji 3) := by rw [<- ht];exact K0.out.txt.1
 clear h
 go_enter Tryz.func27,Tryz.ntmps27
 go_wp2_with fail
 refine wky K0 (fun U h => tellChar_any h ⟨60,p,q⟩ (by show m.tot <= _;omega)) ?_;intro W1 K1;intros
 go_wp2_with fail
 exact ⟨rfl,_,zq rfl,rfl,wke HE K1⟩
theorem data_n (h : Mach Z S x m w) (p q : Int) (ht0 : m.text ≠ 0) (ht1 : m.text ≠ 1) (hn : m.tot <= 500000000) : Dz Z S x w 27 ⟨38,p,q⟩ (m.data ⟨38,p,q⟩) := by
 have HE := hid (show (m.data ⟨38,p,q⟩) = (m.tellChar ⟨38,p,q⟩) by simp [Mc.data,ht0,ht1])
 obtain ⟨W0,hW0,k0⟩ := Walk.start h ⟨38,p,q⟩
 have hxw := h.low
 obtain ⟨hb0,d0,d1,d2⟩ := k0.box
 have hx0 := k0.lt
 have hne : w.heap.size ≠ x := by omega
 obtain ⟨s0,s1,s2,s3⟩ := k0.st0
 obtain ⟨tx,htx⟩ := ex (m.text)
 have c2 : W0.cell? (jd x 2) = some (ji tx) := by rw [<- htx];exact k0.txt.1
 have e0 : (tx == 0) = false := by rw [<- htx];simpa using ht0
 have e1 : (tx == 1) = false := by rw [<- htx];simpa using ht1
 clear htx ht0 ht1
 have K0 := hid k0
 clear h k0
 go_enter Tryz.func27,Tryz.ntmps27
 go_wp2_with fail
 clear hb0 d0 d1 d2 hx0 s0 s1 s2 s3
 refine wkx (K0.out.call (fun U h => tellChar_any h ⟨38,p,q⟩ (by show m.tot <= _;omega))) fun W1 K1 hb1 d0 d1 d2 hx1 s0 s1 s2 s3 => ?_
 go_wp2_with fail
 exact ⟨rfl,_,zq rfl,rfl,wke HE K1⟩
theorem data_e (h : Mach Z S x m w) (r p q : Int) (h38 : (r == 38) = false) (h60 : (r == 60) = false) (hn : m.tot <= 500000000) : Dz Z S x w 27 ⟨r,p,q⟩ (m.data ⟨r,p,q⟩) := by
 have HE := hid (show (m.data ⟨r,p,q⟩) = (m.tellChar ⟨r,p,q⟩) by simp at h38 h60;simp [Mc.data,h38,h60])
 apply won h r p q;clear h;intro W0 K0;intros
 go_enter Tryz.func27,Tryz.ntmps27
 go_wp2_with fail
 refine wky K0 (fun U h => tellChar_any h ⟨r,p,q⟩ (by show m.tot <= _;omega)) ?_;intro W1 K1;intros
 go_wp2_with fail
 exact ⟨rfl,_,zq rfl,rfl,wke HE K1⟩
theorem data_any (h : Mach Z S x m w) (c : Ch) (hn : m.tot <= 500000000) : Dz Z S x w 27 c (m.data c) := by
 obtain ⟨r,p,q⟩ := c
 by_cases h38 : r = 38
 · subst h38
   by_cases h0 : m.text = 0
   · exact data_r0 h p q h0 hn
   by_cases h1 : m.text = 1
   · exact data_r1 h p q h1 hn
   exact data_n h p q h0 h1 hn
 by_cases h60 : r = 60
 · subst h60
   by_cases h0 : m.text = 0
   · exact data_t0 h p q h0 hn
   by_cases h3 : m.text = 3
   · exact data_t3 h p q h3 hn
   exact data_t1 h p q h0 h3 hn
 exact data_e h r p q (by simpa using h38) (by simpa using h60) hn
theorem dataAgain_1 (h : Mach Z S x m w) (r p q : Int) (hn : m.tot <= 490000000) : Dz Z S x w 83 ⟨r,p,q⟩ (m.dataAgain ⟨r,p,q⟩) := by
 have HE := hid (show (m.dataAgain ⟨r,p,q⟩) = (m.release.toData.data ⟨r,p,q⟩) by rfl)
 apply won h r p q;clear h;intro W0 K0;intros
 go_enter Tryz.func83,Tryz.ntmps83
 go_wp2_with fail
 refine wky K0 (fun U h => release_any h (by show m.tot <= _;omega)) ?_;intro W1 K1;intros
 go_wp2_with fail
 refine wky K1 (fun U h => toData_any h) ?_;intro W2 K2;intros
 go_wp2_with fail
 refine wky K2 (fun U h => data_any h ⟨r,p,q⟩ (by show m.release.toData.tot <= _;have t0 := tot_release m;have t1 := tot_toData m.release;omega)) ?_;intro W3 K3;intros
 go_wp2_with fail
 exact ⟨rfl,_,zq rfl,rfl,wke HE K3⟩
theorem dataAgain_any (h : Mach Z S x m w) (c : Ch) (hn : m.tot <= 490000000) : Dz Z S x w 83 c (m.dataAgain c) := by
 obtain ⟨r,p,q⟩ := c
 exact dataAgain_1 h r p q hn
theorem cdata_1 (h : Mach Z S x m w) (p q : Int) (hn : m.tot <= 500000000) : Dz Z S x w 113 ⟨93,p,q⟩ (m.cdata ⟨93,p,q⟩) := by
 have HE := hid (show (m.cdata ⟨93,p,q⟩) = ({ (m.hold ⟨93,p,q⟩) with st := 145 } : Mc) by simp [Mc.cdata])
 apply won h 93 p q;clear h;intro W0 K0;intros
 go_enter Tryz.func113,Tryz.ntmps113
 go_wp2_with fail
 refine wkx (K0.out.call (fun U h => hold_any h ⟨93,p,q⟩ (by show m.tot <= _;omega))) fun W1 K1 hb1 _ _ _ hx1 _ _ _ _ => ?_
 have K2 := hid (K1.out.st 145)
 have hb2 := hb1
 have hx2 := hx1
 go_wp2_with fail
 exact ⟨rfl,_,zq rfl,rfl,wke HE K2⟩
theorem cdata_2 (h : Mach Z S x m w) (r p q : Int) (h93 : (r == 93) = false) (hn : m.tot <= 500000000) : Dz Z S x w 113 ⟨r,p,q⟩ (m.cdata ⟨r,p,q⟩) := by
 have HE := hid (show (m.cdata ⟨r,p,q⟩) = (m.tellChar ⟨r,p,q⟩) by simp at h93;simp [Mc.cdata,h93])
 apply won h r p q;clear h;intro W0 K0;intros
 go_enter Tryz.func113,Tryz.ntmps113
 go_wp2_with fail
 refine wky K0 (fun U h => tellChar_any h ⟨r,p,q⟩ (by show m.tot <= _;omega)) ?_;intro W1 K1;intros
 go_wp2_with fail
 exact ⟨rfl,_,zq rfl,rfl,wke HE K1⟩
theorem cdata_any (h : Mach Z S x m w) (c : Ch) (hn : m.tot <= 500000000) : Dz Z S x w 113 c (m.cdata c) := by
 obtain ⟨r,p,q⟩ := c
 by_cases h93 : r = 93
 · subst h93
   exact cdata_1 h p q hn
 exact cdata_2 h r p q (by simpa using h93) hn
theorem cdataOne_1 (h : Mach Z S x m w) (p q : Int) (hn : m.tot <= 490000000) : Dz Z S x w 145 ⟨93,p,q⟩ (m.cdataOne ⟨93,p,q⟩) := by
 have HE := hid (show (m.cdataOne ⟨93,p,q⟩) = ({ (m.hold ⟨93,p,q⟩) with st := 169 } : Mc) by simp [Mc.cdataOne])
 apply won h 93 p q;clear h;intro W0 K0;intros
 go_enter Tryz.func145,Tryz.ntmps145
 go_wp2_with fail
 refine wkx (K0.out.call (fun U h => hold_any h ⟨93,p,q⟩ (by show m.tot <= _;omega))) fun W1 K1 hb1 _ _ _ hx1 _ _ _ _ => ?_
 have K2 := hid (K1.out.st 169)
 have hb2 := hb1
 have hx2 := hx1
 go_wp2_with fail
 exact ⟨rfl,_,zq rfl,rfl,wke HE K2⟩
theorem cdataOne_2 (h : Mach Z S x m w) (r p q : Int) (h93 : (r == 93) = false) (hn : m.tot <= 490000000) : Dz Z S x w 145 ⟨r,p,q⟩ (m.cdataOne ⟨r,p,q⟩) := by
 have HE := hid (show (m.cdataOne ⟨r,p,q⟩) = (({ m.release with st := 113 } : Mc).cdata ⟨r,p,q⟩) by simp at h93;simp [Mc.cdataOne,h93])
 apply won h r p q;clear h;intro W0 K0;intros
 go_enter Tryz.func145,Tryz.ntmps145
 go_wp2_with fail
 refine wky K0 (fun U h => release_any h (by show m.tot <= _;omega)) ?_;intro W1 K1;intros
 go_wp2_with fail
 refine wky K1 (fun U h => again_any 113 en113 h ⟨r,p,q⟩ (fun U W h => cdata_any h ⟨r,p,q⟩ (by show m.release.tot <= _;have t0 := tot_release m;omega))) ?_;intro W2 K2;intros
 go_wp2_with fail
 exact ⟨rfl,_,zq rfl,rfl,wke HE K2⟩
theorem cdataOne_any (h : Mach Z S x m w) (c : Ch) (hn : m.tot <= 490000000) : Dz Z S x w 145 c (m.cdataOne c) := by
 obtain ⟨r,p,q⟩ := c
 by_cases h93 : r = 93
 · subst h93
   exact cdataOne_1 h p q hn
 exact cdataOne_2 h r p q (by simpa using h93) hn
theorem cdataTwo_2 (h : Mach Z S x m w) (p q : Int) (_hn : m.tot <= 490000000) : Dz Z S x w 169 ⟨62,p,q⟩ (m.cdataTwo ⟨62,p,q⟩) := by
 have HE := hid (show (m.cdataTwo ⟨62,p,q⟩) = m.toData by simp [Mc.cdataTwo])
 apply won h 62 p q;clear h;intro W0 K0;intros
 go_enter Tryz.func169,Tryz.ntmps169
 go_wp2_with fail
 refine wky K0 (fun U h => toData_any h) ?_;intro W1 K1;intros
 go_wp2_with fail
 exact ⟨rfl,_,zq rfl,rfl,wke HE K1⟩
theorem cdataTwo_3 (h : Mach Z S x m w) (r p q : Int) (h93 : (r == 93) = false) (h62 : (r == 62) = false) (hn : m.tot <= 490000000) : Dz Z S x w 169 ⟨r,p,q⟩ (m.cdataTwo ⟨r,p,q⟩) := by
 have HE := hid (show (m.cdataTwo ⟨r,p,q⟩) = (({ m.release with st := 113 } : Mc).cdata ⟨r,p,q⟩) by simp at h93 h62;simp [Mc.cdataTwo,h93,h62])
 apply won h r p q;clear h;intro W0 K0;intros
 go_enter Tryz.func169,Tryz.ntmps169
 go_wp2_with fail
 refine wky K0 (fun U h => release_any h (by show m.tot <= _;omega)) ?_;intro W1 K1;intros
 go_wp2_with fail
 refine wky K1 (fun U h => again_any 113 en113 h ⟨r,p,q⟩ (fun U W h => cdata_any h ⟨r,p,q⟩ (by show m.release.tot <= _;have t0 := tot_release m;omega))) ?_;intro W2 K2;intros
 go_wp2_with fail
 exact ⟨rfl,_,zq rfl,rfl,wke HE K2⟩
theorem rawOpen_1 (h : Mach Z S x m w) (p q : Int) (hn : m.tot <= 480000000) : Dz Z S x w 51 ⟨47,p,q⟩ (m.rawOpen ⟨47,p,q⟩) := by
 have HE := hid (show (m.rawOpen ⟨47,p,q⟩) = ({ (m.hold ⟨47,p,q⟩) with st := 84 } : Mc) by simp [Mc.rawOpen])
 apply won h 47 p q;clear h;intro W0 K0;intros
 go_enter Tryz.func51,Tryz.ntmps51
 go_wp2_with fail
 refine wkx (K0.out.call (fun U h => hold_any h ⟨47,p,q⟩ (by show m.tot <= _;omega))) fun W1 K1 hb1 _ _ _ hx1 _ _ _ _ => ?_
 have K2 := hid (K1.out.st 84)
 have hb2 := hb1
 have hx2 := hx1
 go_wp2_with fail
 exact ⟨rfl,_,zq rfl,rfl,wke HE K2⟩
theorem rawOpen_2 (h : Mach Z S x m w) (r p q : Int) (h47 : (r == 47) = false) (hn : m.tot <= 480000000) : Dz Z S x w 51 ⟨r,p,q⟩ (m.rawOpen ⟨r,p,q⟩) := by
 have HE := hid (show (m.rawOpen ⟨r,p,q⟩) = (m.dataAgain ⟨r,p,q⟩) by simp at h47;simp [Mc.rawOpen,h47])
 apply won h r p q;clear h;intro W0 K0;intros
 go_enter Tryz.func51,Tryz.ntmps51
 go_wp2_with fail
 refine wky K0 (fun U h => dataAgain_any h ⟨r,p,q⟩ (by show m.tot <= _;omega)) ?_;intro W1 K1;intros
 go_wp2_with fail
 exact ⟨rfl,_,zq rfl,rfl,wke HE K1⟩
theorem rawOpen_any (h : Mach Z S x m w) (c : Ch) (hn : m.tot <= 480000000) : Dz Z S x w 51 c (m.rawOpen c) := by
 obtain ⟨r,p,q⟩ := c
 by_cases h47 : r = 47
 · subst h47
   exact rawOpen_1 h p q hn
 exact rawOpen_2 h r p q (by simpa using h47) hn
theorem endWaiting_any (h : Mach Z S x m w) (at' : Int) (hn : m.tot <= 480000000) : Calls Tryz.prog 28 #[mp x,ji at'] w (Did Z S x (m.release) w) := by
 have hx0 := h.low
 have p0 := Post.refl h
 obtain ⟨v0,_,cc,ff⟩ := p0.mach
 have s0 := cc 0 _ rfl
 have s1 := ff 0
 have s2 := cc 1 _ rfl
 have s3 := ff 1
 have s4 := cc 12 _ rfl
 have s5 := ff 12
 have P0 := hid p0
 clear h p0 cc ff
 go_enter Tryz.func28,Tryz.ntmps28
 go_wp2_with fail
 refine (P0.out.call (fun U h => release_any h (by show m.tot <= _;omega))).mono ?_
 rintro e W1 ⟨rfl,p1⟩
 clear s0 s1 s2 s3 s4 s5
 obtain ⟨v1,hx1,cc,ff⟩ := p1.mach
 have s0 := cc 0 _ rfl
 have s1 := ff 0
 have s2 := cc 1 _ rfl
 have s3 := ff 1
 have s4 := cc 12 _ rfl
 have s5 := ff 12
 have P1 := hid p1
 clear p1 cc ff
 go_wp2_with fail
 refine ⟨rfl,_,zq rfl,rfl,?_⟩
 exact P1.out
theorem endTagOpen_any (h : Mach Z S x m w) (at' : Int) (hn : m.tot <= 480000000) : Calls Tryz.prog 50 #[mp x,ji at'] w (Did Z S x ((m.fault 5 at').release) w) := by
 have hx0 := h.low
 have p0 := Post.refl h
 obtain ⟨v0,_,cc,ff⟩ := p0.mach
 have s0 := cc 0 _ rfl
 have s1 := ff 0
 have s2 := cc 1 _ rfl
 have s3 := ff 1
 have s4 := cc 12 _ rfl
 have s5 := ff 12
 have P0 := hid p0
 clear h p0 cc ff
 go_enter Tryz.func50,Tryz.ntmps50
 go_wp2_with fail
 refine (P0.out.call (fun U h => fault_any h 5 at' (by show m.tot <= _;omega))).mono ?_
 rintro e W1 ⟨rfl,p1⟩
 clear s0 s1 s2 s3 s4 s5
 obtain ⟨v1,hx1,cc,ff⟩ := p1.mach
 have s0 := cc 0 _ rfl
 have s1 := ff 0
 have s2 := cc 1 _ rfl
 have s3 := ff 1
 have s4 := cc 12 _ rfl
 have s5 := ff 12
 have P1 := hid p1
 clear p1 cc ff
 go_wp2_with fail
 refine (P1.out.call (fun U h => release_any h (by show (m.fault 5 at').tot <= _;have t0 := tot_fault m 5 at';omega))).mono ?_
 rintro e W2 ⟨rfl,p2⟩
 clear s0 s1 s2 s3 s4 s5
 obtain ⟨v2,hx2,cc,ff⟩ := p2.mach
 have s0 := cc 0 _ rfl
 have s1 := ff 0
 have s2 := cc 1 _ rfl
 have s3 := ff 1
 have s4 := cc 12 _ rfl
 have s5 := ff 12
 have P2 := hid p2
 clear p2 cc ff
 go_wp2_with fail
 refine ⟨rfl,_,zq rfl,rfl,?_⟩
 exact P2.out
theorem endEndOpen_any (h : Mach Z S x m w) (at' : Int) (hn : m.tot <= 480000000) : Calls Tryz.prog 76 #[mp x,ji at'] w (Did Z S x ((m.fault 6 at').release) w) := by
 have hx0 := h.low
 have p0 := Post.refl h
 obtain ⟨v0,_,cc,ff⟩ := p0.mach
 have s0 := cc 0 _ rfl
 have s1 := ff 0
 have s2 := cc 1 _ rfl
 have s3 := ff 1
 have s4 := cc 12 _ rfl
 have s5 := ff 12
 have P0 := hid p0
 clear h p0 cc ff
 go_enter Tryz.func76,Tryz.ntmps76
 go_wp2_with fail
 refine (P0.out.call (fun U h => fault_any h 6 at' (by show m.tot <= _;omega))).mono ?_
 rintro e W1 ⟨rfl,p1⟩
 clear s0 s1 s2 s3 s4 s5
 obtain ⟨v1,hx1,cc,ff⟩ := p1.mach
 have s0 := cc 0 _ rfl
 have s1 := ff 0
 have s2 := cc 1 _ rfl
 have s3 := ff 1
 have s4 := cc 12 _ rfl
 have s5 := ff 12
 have P1 := hid p1
 clear p1 cc ff
 go_wp2_with fail
 refine (P1.out.call (fun U h => release_any h (by show (m.fault 6 at').tot <= _;have t0 := tot_fault m 6 at';omega))).mono ?_
 rintro e W2 ⟨rfl,p2⟩
 clear s0 s1 s2 s3 s4 s5
 obtain ⟨v2,hx2,cc,ff⟩ := p2.mach
 have s0 := cc 0 _ rfl
 have s1 := ff 0
 have s2 := cc 1 _ rfl
 have s3 := ff 1
 have s4 := cc 12 _ rfl
 have s5 := ff 12
 have P2 := hid p2
 clear p2 cc ff
 go_wp2_with fail
 refine ⟨rfl,_,zq rfl,rfl,?_⟩
 exact P2.out
theorem endTag_any (h : Mach Z S x m w) (at' : Int) (hn : m.tot <= 480000000) : Calls Tryz.prog 79 #[mp x,ji at'] w (Did Z S x (m.fault 7 at') w) := by
 have hx0 := h.low
 have p0 := Post.refl h
 obtain ⟨v0,_,cc,ff⟩ := p0.mach
 have s0 := cc 0 _ rfl
 have s1 := ff 0
 have s2 := cc 1 _ rfl
 have s3 := ff 1
 have s4 := cc 12 _ rfl
 have s5 := ff 12
 have P0 := hid p0
 clear h p0 cc ff
 go_enter Tryz.func79,Tryz.ntmps79
 go_wp2_with fail
 refine (P0.out.call (fun U h => fault_any h 7 at' (by show m.tot <= _;omega))).mono ?_
 rintro e W1 ⟨rfl,p1⟩
 clear s0 s1 s2 s3 s4 s5
 obtain ⟨v1,hx1,cc,ff⟩ := p1.mach
 have s0 := cc 0 _ rfl
 have s1 := ff 0
 have s2 := cc 1 _ rfl
 have s3 := ff 1
 have s4 := cc 12 _ rfl
 have s5 := ff 12
 have P1 := hid p1
 clear p1 cc ff
 go_wp2_with fail
 refine ⟨rfl,_,zq rfl,rfl,?_⟩
 exact P1.out
theorem endBogus_any (h : Mach Z S x m w) (at' : Int) (hn : m.tot <= 480000000) : Calls Tryz.prog 146 #[mp x,ji at'] w (Did Z S x (m.tellMade at') w) := by
 have hx0 := h.low
 have p0 := Post.refl h
 obtain ⟨v0,_,cc,ff⟩ := p0.mach
 have s0 := cc 0 _ rfl
 have s1 := ff 0
 have s2 := cc 1 _ rfl
 have s3 := ff 1
 have s4 := cc 12 _ rfl
 have s5 := ff 12
 have P0 := hid p0
 clear h p0 cc ff
 go_enter Tryz.func146,Tryz.ntmps146
 go_wp2_with fail
 refine (P0.out.call (fun U h => tellMade_any h at' (by show m.tot <= _;omega))).mono ?_
 rintro e W1 ⟨rfl,p1⟩
 clear s0 s1 s2 s3 s4 s5
 obtain ⟨v1,hx1,cc,ff⟩ := p1.mach
 have s0 := cc 0 _ rfl
 have s1 := ff 0
 have s2 := cc 1 _ rfl
 have s3 := ff 1
 have s4 := cc 12 _ rfl
 have s5 := ff 12
 have P1 := hid p1
 clear p1 cc ff
 go_wp2_with fail
 refine ⟨rfl,_,zq rfl,rfl,?_⟩
 exact P1.out
theorem endComment_any (h : Mach Z S x m w) (at' : Int) (hn : m.tot <= 480000000) : Calls Tryz.prog 108 #[mp x,ji at'] w (Did Z S x ((m.fault 16 at').tellMade at') w) := by
 have hx0 := h.low
 have p0 := Post.refl h
 obtain ⟨v0,_,cc,ff⟩ := p0.mach
 have s0 := cc 0 _ rfl
 have s1 := ff 0
 have s2 := cc 1 _ rfl
 have s3 := ff 1
 have s4 := cc 12 _ rfl
 have s5 := ff 12
 have P0 := hid p0
 clear h p0 cc ff
 go_enter Tryz.func108,Tryz.ntmps108
 go_wp2_with fail
 refine (P0.out.call (fun U h => fault_any h 16 at' (by show m.tot <= _;omega))).mono ?_
 rintro e W1 ⟨rfl,p1⟩
 clear s0 s1 s2 s3 s4 s5
 obtain ⟨v1,hx1,cc,ff⟩ := p1.mach
 have s0 := cc 0 _ rfl
 have s1 := ff 0
 have s2 := cc 1 _ rfl
 have s3 := ff 1
 have s4 := cc 12 _ rfl
 have s5 := ff 12
 have P1 := hid p1
 clear p1 cc ff
 go_wp2_with fail
 refine (P1.out.call (fun U h => tellMade_any h at' (by show (m.fault 16 at').tot <= _;have t0 := tot_fault m 16 at';omega))).mono ?_
 rintro e W2 ⟨rfl,p2⟩
 clear s0 s1 s2 s3 s4 s5
 obtain ⟨v2,hx2,cc,ff⟩ := p2.mach
 have s0 := cc 0 _ rfl
 have s1 := ff 0
 have s2 := cc 1 _ rfl
 have s3 := ff 1
 have s4 := cc 12 _ rfl
 have s5 := ff 12
 have P2 := hid p2
 clear p2 cc ff
 go_wp2_with fail
 refine ⟨rfl,_,zq rfl,rfl,?_⟩
 exact P2.out
theorem endDoctype_any (h : Mach Z S x m w) (at' : Int) (hn : m.tot <= 480000000) : Calls Tryz.prog 111 #[mp x,ji at'] w (Did Z S x ((m.wrongDoc at').tellMade at') w) := by
 have hx0 := h.low
 have p0 := Post.refl h
 obtain ⟨v0,_,cc,ff⟩ := p0.mach
 have s0 := cc 0 _ rfl
 have s1 := ff 0
 have s2 := cc 1 _ rfl
 have s3 := ff 1
 have s4 := cc 12 _ rfl
 have s5 := ff 12
 have P0 := hid p0
 clear h p0 cc ff
 go_enter Tryz.func111,Tryz.ntmps111
 go_wp2_with fail
 refine (P0.out.call (fun U h => wrongDoc_any h at' (by show m.tot <= _;omega))).mono ?_
 rintro e W1 ⟨rfl,p1⟩
 clear s0 s1 s2 s3 s4 s5
 obtain ⟨v1,hx1,cc,ff⟩ := p1.mach
 have s0 := cc 0 _ rfl
 have s1 := ff 0
 have s2 := cc 1 _ rfl
 have s3 := ff 1
 have s4 := cc 12 _ rfl
 have s5 := ff 12
 have P1 := hid p1
 clear p1 cc ff
 go_wp2_with fail
 refine (P1.out.call (fun U h => tellMade_any h at' (by show (m.fault 17 at').tot <= _;have t0 := tot_fault m 17 at';omega))).mono ?_
 rintro e W2 ⟨rfl,p2⟩
 clear s0 s1 s2 s3 s4 s5
 obtain ⟨v2,hx2,cc,ff⟩ := p2.mach
 have s0 := cc 0 _ rfl
 have s1 := ff 0
 have s2 := cc 1 _ rfl
 have s3 := ff 1
 have s4 := cc 12 _ rfl
 have s5 := ff 12
 have P2 := hid p2
 clear p2 cc ff
 go_wp2_with fail
 refine ⟨rfl,_,zq rfl,rfl,?_⟩
 exact P2.out
def ChRow (ao : Option Addr) (l : List Ch) (w : World) : Prop :=
 ∀ i c,l[i]? = some c -> ∃ b off,ao = some (jd b off) /\ b < w.heap.size /\ w.cell? (jd b (off + i * 3)) = some (ji c.r) /\ w.cell? (jd b (off + i * 3 + 1)) = some (ji c.a) /\ w.cell? (jd b (off + i * 3 + 2)) = some (ji c.z)
theorem ChRow.below {w' : World} (h : ChRow ao l w) (b : Below w.heap.size w w') : ChRow ao l w' := fun i c hc => by
 obtain ⟨k,off,h1,h2,h3,h4,h5⟩ := h i c hc
 exact ⟨k,off,h1,zo h2 b.size,(b.cell (p := (jd k (off + i * 3))) h2).trans h3,(b.cell (p := (jd k (off + i * 3 + 1))) h2).trans h4,(b.cell (p := (jd k (off + i * 3 + 2))) h2).trans h5⟩
theorem rowC {v : Value} (h : Rw.own w (rwC v l)) : ∃ ao cap,v = .slice ao l.length cap /\ l.length <= cap /\ ChRow ao l w /\ (∀ b off,ao = some (jd b off) -> off = 0 /\ v.ownBlock = some b) /\ cap <= maxLen := by
 rcases h.2 with ⟨e,h0⟩ | ⟨g,cap,cur,z,e,hg,_,h1,h2,h3,h4⟩
 · simp only at e h0
   have : l = [] := yb h0;subst this;exact ⟨none,0,e,zb _,fun i c hc => (by simp at hc),fun b off hb => (by cases hb),Nat.zero_le _⟩
 simp only at e h1 h3 h4
 refine ⟨some (jd g 0),cap,e,h1,fun i c hc => ?_,fun b off hb => ?_,h2⟩
 · have hl := (zg hc)
   obtain ⟨q0,q1,q2⟩ := G4.ch_at l i c hc;rw [<- h4] at q0 q1 q2;rw [List.getElem?_take_of_lt (by omega),Array.getElem?_toList] at q0 q1 q2;refine ⟨g,0,rfl,(zf hg),?_,?_,?_⟩
   · simp [World.cell?,hg,q0]
   · simp [World.cell?,hg,q1]
   simp [World.cell?,hg,q2]
 simp only [Option.some.injEq,Addr.mk.injEq,and_true] at hb
 obtain ⟨rfl,rfl⟩ := hb
 simp [e,Value.ownBlock]
theorem ChRow.drop (h : ChRow ao l w) (k cap : Nat) (hc : l.length <= cap) : ChRow (if cap = k then ao else ao.map (·.add (k * 3))) (l.drop k) w := fun i x hx => by
 have hil := (zg hx)
 rw [zk] at hil
 rw [List.getElem?_drop] at hx
 obtain ⟨b,off,rfl,h1,h2,h3,h4⟩ := h _ x hx
 rw [jq (by omega)]
 refine ⟨b,off + k * 3,by simp [Addr.add_lit],h1,?_,?_,?_⟩
 · rw [show off + k * 3 + i * 3 = off + (k + i) * 3 by omega];exact h2
 · rw [show off + k * 3 + i * 3 = off + (k + i) * 3 by omega];exact h3
 rw [show off + k * 3 + i * 3 = off + (k + i) * 3 by omega];exact h4
theorem encs_len (l : List Ch) : (encs l).length <= 4 * l.length := by
 induction l with
 | nil => exact zb _
 | cons c l ih =>
  unfold encs at ih |-;rw [List.flatMap_cons,zh,zi];have := enc_len c.r;omega
theorem textOf_any {lo : Option Addr} {L : List Ch} (n cap : Nat) (ha : ChRow lo L w) (hn : L.length = n) (hn2 : n <= 2000000000000) :
 Calls Tryz.prog 59 #[.slice lo n cap] w fun e w' => e = jr (.string (bs (encs L))) /\ Below w.heap.size w w' := by
 have HA := yc ha hn
 clear ha hn
 go_enter Tryz.func59,Tryz.ntmps59
 go_wp2_with fail
 go_loopg [8] n (fun g2 iv wr => ∃ (i : Nat),iv = ji i /\ i + g2 = n /\ Lib.IsBuilderF 114 5 w.heap.size w.heap.size (Lib.byteCells (encs (L.take i))) wr /\ w.heap.size < wr.heap.size /\ Below w.heap.size w wr)
 case atStart => exact ⟨0,rfl,by omega,Lib.IsBuilderF.of (Lib.fresh_isBuilder 114 5 w),by simp,(Below.refl _ w).alloc (zb _) _⟩
 obtain ⟨i,rfl,hig,hI,hsz,hbw⟩ := hrel
 have HW := yd hI hsz hbw
 clear hI hsz hbw
 cases gk with
 | zero =>
  obtain rfl : i = n := by omega
  have hg0 : decide ((i : Int) < (i : Int)) = false := zn (by omega);have ks := G6.string_k w.heap.size w.heap.size (encs (L.take i)) wr HW.out.1 (ya HW.out.2.1);rw [List.take_of_length_le (by rw [HA.out.2];exact zb _)] at ks;go_wp2_with fail;refine ks.mono ?_;rintro e w1 ⟨rfl,h1,b1,k1⟩;have HB := hid (HW.out.2.2.trans b1);clear h1 b1 k1 ks;go_wp2_with fail;go_ret;exact ⟨rfl,HB.out⟩
 | succ k =>
  have hin : i < n := by omega
  obtain ⟨x,hx⟩ : ∃ x,L[i]? = some x := ⟨_,zy (by rw [HA.out.2];exact hin)⟩;obtain ⟨b1,o1,rfl,h1,c0,c1,c2⟩ := (HA.out.1.below HW.out.2.2) i x hx;have HD : Hid (encs (L.take (i + 1)) = encs (L.take i) ++ enc x.r) := by
   obtain ⟨h1,rfl⟩ := List.getElem?_eq_some_iff.1 hx;show encs _ = _;rw [<- List.take_append_getElem h1];unfold encs;rw [List.flatMap_append];simp
  have hl0 := encs_len (L.take i);rw [List.length_take] at hl0;clear hx;obtain ⟨r,p,q⟩ := x;simp only at c0 c1 c2;obtain ⟨U,hU⟩ := ex (wr.alloc (.cells #[ji r,ji p,ji q] 37));have HU : Hid (Lib.IsBuilderF 114 5 w.heap.size w.heap.size (Lib.byteCells (encs (L.take i))) U /\ w.heap.size < U.heap.size /\ Below w.heap.size w U) := by
   show _ /\ _ /\ _;rw [<- hU];exact ⟨HW.out.1.alloc _,by have := HW.out.2.1;simp;omega,HW.out.2.2.alloc (ya HW.out.2.1) _⟩
  have hnew : U.heap[wr.heap.size]? = some (.cells #[ji r,ji p,ji q] 37 (0,0)) := by rw [<- hU];exact zx _ _
  have p0 : U.cell? (jd wr.heap.size 0) = some (ji r) := by simp [World.cell?,hnew]
  have p1 : U.cell? (jd wr.heap.size 1) = some (ji p) := by simp [World.cell?,hnew]
  have p2 : U.cell? (jd wr.heap.size 2) = some (ji q) := by simp [World.cell?,hnew]
  clear hnew;have kc := G9.char_any r U;have hcr := chr_ok r;have HE : Hid (enc r = Lib.encodeRune (G9.chr r)) := rfl;obtain ⟨c,hc⟩ := ex (G9.chr r);rw [hc] at kc HE hcr;have kw := G6.writeRune_k w.heap.size w.heap.size (Lib.byteCells (encs (L.take i))) c (by omega) (by omega) U HU.out.1 (by rw [Lib.byteCells_length];omega) (ya HU.out.2.1);clear hc;go_wp2_with fail;refine kc.mono ?_;rintro e w1 ⟨rfl,hw1⟩;obtain rfl := hw1.symm;clear kc hw1;go_wp2_with fail;refine kw.mono ?_;rintro e w2 ⟨rfl,q1,q2,q3⟩;have H2 : Hid (Lib.IsBuilderF 114 5 w.heap.size w.heap.size (Lib.byteCells (encs (L.take (i + 1)))) w2 /\ w.heap.size < w2.heap.size /\ Below w.heap.size w w2) := by
   refine ⟨?_,zo HU.out.2.1 q2.size,HU.out.2.2.trans q2⟩;rw [HD.out];show Lib.IsBuilderF _ _ _ _ (Lib.byteCells (encs (L.take i) ++ enc r)) _;rw [HE.out,Lib.byteCells_append,Lib.byteCells_encodeRune];exact Or.inr q1
  clear q1 q2 q3 kw hU p0 p1 p2 c0 c1 c2;go_wp2_with fail;go_roundg k
  case measure => omega
  case rel => exact ⟨i + 1,by go_num,by omega,H2.out⟩
theorem lowP_list (s : ByteArray) : (G7.lowP s).data.toList = Mc.lowL s.data.toList := by
 unfold Mc.lowL
 have : bs s.data.toList = s := by
  cases s
  simp [bs]
 rw [this]
theorem begun_any (s : ByteArray) (hs : s.size <= 100000) : Calls Tryz.prog 115 #[.string s] w fun e w' => e = jr (.bool (Mc.begun s.data.toList)) /\ Below w.heap.size w w' := by
 have p1 := fun w => G6.strings_HasPrefix ⟨#[45,45]⟩ s w
 have p2 := fun w => G6.strings_HasPrefix ⟨#[100,111,99,116,121,112,101]⟩ (G7.lowP s) w
 have p3 := fun w => G6.strings_HasPrefix ⟨#[91,67,68,65,84,65,91]⟩ s w
 have kl := fun w => G7.lower_any s w hs
 rw [show Lib.hasPrefix (ByteArray.mk #[45,45]).data.toList s.data.toList = s.data.toList.isPrefixOf Mc.dashW from rfl] at p1
 rw [show Lib.hasPrefix (ByteArray.mk #[100,111,99,116,121,112,101]).data.toList (G7.lowP s).data.toList = (G7.lowP s).data.toList.isPrefixOf Mc.docW from rfl,lowP_list] at p2
 rw [show Lib.hasPrefix (ByteArray.mk #[91,67,68,65,84,65,91]).data.toList s.data.toList = s.data.toList.isPrefixOf Mc.cdW from rfl] at p3
 have hb : Mc.begun s.data.toList = (s.data.toList.isPrefixOf Mc.dashW || (Mc.lowL s.data.toList).isPrefixOf Mc.docW || s.data.toList.isPrefixOf Mc.cdW) := rfl
 rw [hb]
 clear hb
 obtain ⟨LP,hLP⟩ := ex (G7.lowP s)
 rw [hLP] at p2
 simp only [hLP] at kl
 clear hLP
 generalize s.data.toList.isPrefixOf Mc.dashW = b1 at p1 |-
 generalize (Mc.lowL s.data.toList).isPrefixOf Mc.docW = b2 at p2 |-
 generalize s.data.toList.isPrefixOf Mc.cdW = b3 at p3 |-
 have P1 := hid p1
 have P2 := hid p2
 have P3 := hid p3
 have KL := hid kl
 clear p1 p2 p3 kl
 cases b1 with
 | true =>
  go_enter Tryz.func115,Tryz.ntmps115;go_wp2_with fail;refine (P1.out _).mono ?_;rintro e w1 ⟨rfl,hw1⟩;obtain rfl := hw1.symm;clear hw1;go_wp2_with fail;go_ret;exact ⟨by simp,Below.refl _ _⟩
 | false =>
  cases b2 with
  | true =>
   go_enter Tryz.func115,Tryz.ntmps115;go_wp2_with fail;refine (P1.out _).mono ?_;rintro e w1 ⟨rfl,hw1⟩;obtain rfl := hw1.symm;clear hw1;go_wp2_with fail;refine (KL.out _).mono ?_;rintro e w2 ⟨rfl,b2⟩;have B2 := hid b2;clear b2;go_wp2_with fail;refine (P2.out _).mono ?_;rintro e w3 ⟨rfl,hw3⟩;obtain rfl := hw3.symm;clear hw3;go_wp2_with fail;go_ret;exact ⟨by simp,B2.out⟩
  | false =>
   go_enter Tryz.func115,Tryz.ntmps115;go_wp2_with fail;refine (P1.out _).mono ?_;rintro e w1 ⟨rfl,hw1⟩;obtain rfl := hw1.symm;clear hw1;go_wp2_with fail;refine (KL.out _).mono ?_;rintro e w2 ⟨rfl,b2⟩;have B2 := hid b2;clear b2;go_wp2_with fail;refine (P2.out _).mono ?_;rintro e w3 ⟨rfl,hw3⟩;obtain rfl := hw3.symm;clear hw3;go_wp2_with fail;refine (P3.out _).mono ?_;rintro e w4 ⟨rfl,hw4⟩;obtain rfl := hw4.symm;clear hw4;go_wp2_with fail;go_ret;exact ⟨by simp,B2.out⟩
end Go.Proofs.YtjjfalbngcbfaaaGreatDoor
