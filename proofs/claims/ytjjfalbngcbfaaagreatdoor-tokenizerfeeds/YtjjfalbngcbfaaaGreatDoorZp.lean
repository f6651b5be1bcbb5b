import Derived.Test.YtjjfalbngcbfaaaGreatDoorZ0
import Derived.Test.YtjjfalbngcbfaaaGreatDoorZo
import Derived.StillTailTactics
set_option maxHeartbeats 2000000
set_option maxRecDepth 20000
namespace Go.Proofs.YtjjfalbngcbfaaaGreatDoor
open Go.RowKit Go.Maps
variable {Z S : Nat -> Prop} {x B : Nat} {m : Mc} {c : Ch} {w W : World}
theorem blank_as (r : Int) (b : Bool) (w : World) (h : blk r = b) : Calls Tryz.prog 118 #[ji r] w fun e w' => e = jr (.bool b) /\ w' = w := by
 subst h
 exact G7.blank_any r w
theorem letter_any (r : Int) (w : World) : Calls Tryz.prog 77 #[ji r] w fun e w' => e = jr (.bool (ltr r)) /\ w' = w := by
 go_enter Tryz.func77,Tryz.ntmps77
 go_wp2
 all_goals
  go_ret;refine ⟨G7.ret_bool ?_,rfl⟩;unfold ltr
  first | (symm;apply zm;omega) | (rw [Bool.eq_iff_iff];simp;omega)
theorem letter_as (r : Int) (b : Bool) (w : World) (h : ltr r = b) : Calls Tryz.prog 77 #[ji r] w fun e w' => e = jr (.bool b) /\ w' = w := by
 subst h
 exact letter_any r w
theorem enc_len (r : Int) : (enc r).length <= 4 := by
 unfold enc
 rw [<- Lib.runeCells_length]
 exact (Lib.runeCells_le _).2
theorem tot_fault (m : Mc) (c a : Int) : (m.fault c a).tot = m.tot + 1 := by unfold Mc.fault Mc.tot;simp only [zh,zi,zj];omega
theorem tot_hold (m : Mc) (c : Ch) : (m.hold c).tot = m.tot + 1 := by unfold Mc.hold Mc.tot;simp only [zh,zi,zj];omega
theorem tot_release (m : Mc) : m.release.tot = m.tot := by unfold Mc.release Mc.tot;simp only [zh,List.length_map,zj];omega
theorem tot_toData (m : Mc) : m.toData.tot <= m.tot := by unfold Mc.toData Mc.noMade Mc.tot;simp only [zj];omega
theorem tot_begA (m : Mc) (a : Int) : (m.begA a).tot <= m.tot + 1 := (keep_tot m).1
theorem tot_addText (m : Mc) (r : Int) : (m.addText r).tot <= m.tot + 4 := by have := enc_len r;unfold Mc.addText Mc.tot;simp only [zh];omega
theorem tot_addDashes (m : Mc) (l : jl) : (m.addDashes l).tot = m.tot + l.length := by unfold Mc.addDashes Mc.tot;simp only [zh];omega
theorem tot_beg (m : Mc) (k : Int) (en : Nat) : (m.beg k en).tot <= m.tot := by unfold Mc.beg Mc.noMade Mc.tot;simp only [zj];omega
theorem tot_endName (m : Mc) : m.endName.tot <= m.tot + 1 := by
 unfold Mc.endName
 split
 · exact Nat.le_of_eq (tot_fault m _ _)
 exact Nat.le_succ _
theorem tot_tell (m : Mc) (t : Pt) : (m.tell t).tot = m.tot + 1 := by unfold Mc.tell Mc.tot;simp only [zh,zi,zj];omega
theorem tot_tellMade (m : Mc) (z : Int) : (m.tellMade z).tot <= m.tot + 1 := by
 unfold Mc.tellMade
 exact zr (tot_toData _) (Nat.le_of_eq (tot_tell m _))
theorem Walk.ref {V : World} (h : Walk Z S x m B c w W) (hV : W.alloc (.cells #[ji c.r,ji c.a,ji c.z] 37) = V) :
 (∃ u,V.cell? (jd x 6) = some u) /\ V.frozen? (jd x 6) = false /\ x < V.heap.size /\ Walk Z S x { m with ref := [c] } B c w (V.setCell (jd x 6) (.slice (some (jd W.heap.size 0)) 1 1)) := by
 obtain ⟨U,h1,⟨v,T,h2⟩,h3⟩ := h.ex
 have hn : V.heap[W.heap.size]? = some (.cells #[ji c.r,ji c.a,ji c.z] 37 (0,0)) := by rw [<- hV];exact zx _ _
 have b0 : Below W.heap.size W V := by rw [<- hV];exact ze _ _
 have hg : ∀ o,W.grownBy V o := fun o => by rw [<- hV];exact World.grownBy_alloc _ _ _
 obtain ⟨q1,q2,q3,q4⟩ := h2.put (m' := { m with ref := [c] }) (v' := { v with r := .slice (some (jd W.heap.size 0)) 1 1 }) (T' := T) 1 6 _ (rwC (.slice (some (jd W.heap.size 0)) 1 1) [c]) rfl
  ⟨rfl,.inr ⟨W.heap.size,1,_,_,rfl,hn,.inl rfl,zb _,by unfold maxLen;omega,rfl,rfl⟩⟩ (fun g hg => by simp [Value.ownBlock] at hg;exact .inr (by omega)) (hg _) (by simp [Mc.rows]) (by simp [Mc.cells]) rfl rfl rfl h2.told h2.toks
 exact ⟨⟨_,q3⟩,q4,zo h2.lt b0.size,⟨U,h1,⟨_,_,q1⟩,h3.keep q2⟩,h.keep.trans (q2.sub h1)⟩
theorem Walk.txt (h : Walk Z S x m B c w W) : W.cell? (jd x 2) = some (ji m.text) /\ W.cell? (jd x 3) = some (.bool m.cd) /\ W.cell? (jd x 4) = some (.string m.last) := by
 obtain ⟨v,h1,_⟩ := h.mach
 exact ⟨h1 2 _ rfl,h1 3 _ rfl,h1 4 _ rfl⟩
theorem en119 : Enters 119 := enters_of Tryz.func119 (by kernel_rfl) rfl
theorem en148 : Enters 148 := enters_of Tryz.func148 (by kernel_rfl) rfl
theorem en151 : Enters 151 := enters_of Tryz.func151 (by kernel_rfl) rfl
theorem en183 : Enters 183 := enters_of Tryz.func183 (by kernel_rfl) rfl
theorem tagName_1 (h : Mach Z S x m w) (r p q : Int) (hbl : blk r = true) (_hn : m.tot <= 500000000) : Dz Z S x w 81 ⟨r,p,q⟩ (m.tagName ⟨r,p,q⟩) := by
 have HE := hid (show (m.tagName ⟨r,p,q⟩) = ({ m with st := 119 } : Mc) by simp [Mc.tagName,hbl])
 obtain ⟨W0,_,_,hb0,_,_,_,hx0,_,_,_,_,_,K0⟩ := Walk.on h r p q
 clear h
 go_enter Tryz.func81,Tryz.ntmps81
 have K1 := hid (K0.out.st 119)
 have hb1 := hb0
 have hx1 := hx0
 go_wp2_with (go_at_call 118;refine smx (blank_as r true _ hbl) ?_)
 exact ⟨rfl,_,zq rfl,rfl,wke HE K1⟩
theorem tagName_2 (h : Mach Z S x m w) (p q : Int) (_hn : m.tot <= 500000000) : Dz Z S x w 81 ⟨47,p,q⟩ (m.tagName ⟨47,p,q⟩) := by
 have HE := hid (show (m.tagName ⟨47,p,q⟩) = ({ m with st := 120 } : Mc) by simp [Mc.tagName,show blk 47 = false from rfl])
 have hbl : blk 47 = false := rfl
 obtain ⟨W0,_,_,hb0,_,_,_,hx0,_,_,_,_,_,K0⟩ := Walk.on h 47 p q
 clear h
 go_enter Tryz.func81,Tryz.ntmps81
 have K1 := hid (K0.out.st 120)
 have hb1 := hb0
 have hx1 := hx0
 go_wp2_with (go_at_call 118;refine smx (blank_as 47 false _ hbl) ?_)
 exact ⟨rfl,_,zq rfl,rfl,wke HE K1⟩
theorem tagName_3 (h : Mach Z S x m w) (p q : Int) (hn : m.tot <= 500000000) : Dz Z S x w 81 ⟨62,p,q⟩ (m.tagName ⟨62,p,q⟩) := by
 have HE := hid (show (m.tagName ⟨62,p,q⟩) = (m.tellTag ⟨62,p,q⟩) by simp [Mc.tagName,show blk 62 = false from rfl])
 have hbl : blk 62 = false := rfl
 apply won h 62 p q;clear h;intro W0 K0;intros
 go_enter Tryz.func81,Tryz.ntmps81
 go_wp2_with (go_at_call 118;refine smx (blank_as 62 false _ hbl) ?_)
 refine wky K0 (fun U h => tellTag_any h ⟨62,p,q⟩ (by show m.tot <= _;omega)) ?_;intro W1 K1;intros
 go_wp2_with fail
 exact ⟨rfl,_,zq rfl,rfl,wke HE K1⟩
theorem tagName_4 (h : Mach Z S x m w) (r p q : Int) (hbl : blk r = false) (h47 : (r == 47) = false) (h62 : (r == 62) = false) (hn : m.tot <= 500000000) : Dz Z S x w 81 ⟨r,p,q⟩ (m.tagName ⟨r,p,q⟩) := by
 have HE := hid (show (m.tagName ⟨r,p,q⟩) = (m.addName r) by simp at h47 h62;simp [Mc.tagName,hbl,h47,h62])
 apply won h r p q;clear h;intro W0 K0;intros
 go_enter Tryz.func81,Tryz.ntmps81
 go_wp2_with (go_at_call 118;refine smx (blank_as r false _ hbl) ?_)
 go_still_tail 5,(show Tryz.prog.follows .mixedOrders = true by kernel_rfl)
 go_wp2_with fail
 refine wkx (K0.out.drew.call (fun U h => addName_any h r (by show m.tot <= _;omega))) fun W1 K1 _ _ _ _ _ _ _ _ _ => ?_
 go_wp2_with fail
 exact ⟨rfl,_,zq rfl,rfl,wke HE K1⟩
theorem tagName_any (h : Mach Z S x m w) (c : Ch) (hn : m.tot <= 500000000) : Dz Z S x w 81 c (m.tagName c) := by
 obtain ⟨r,p,q⟩ := c
 cases hbl : blk r with
 | true => exact tagName_1 h r p q hbl hn
 | false =>
  by_cases h47 : r = 47
  · subst h47
    exact tagName_2 h p q hn
  by_cases h62 : r = 62
  · subst h62
    exact tagName_3 h p q hn
  exact tagName_4 h r p q hbl (by simpa using h47) (by simpa using h62) hn
theorem bare_1 (h : Mach Z S x m w) (r p q : Int) (hbl : blk r = true) (_hn : m.tot <= 500000000) : Dz Z S x w 183 ⟨r,p,q⟩ (m.bare ⟨r,p,q⟩) := by
 have HE := hid (show (m.bare ⟨r,p,q⟩) = ({ m with st := 119 } : Mc) by simp [Mc.bare,hbl])
 obtain ⟨W0,_,_,hb0,_,_,_,hx0,_,_,_,_,_,K0⟩ := Walk.on h r p q
 clear h
 go_enter Tryz.func183,Tryz.ntmps183
 have K1 := hid (K0.out.st 119)
 have hb1 := hb0
 have hx1 := hx0
 go_wp2_with (go_at_call 118;refine smx (blank_as r true _ hbl) ?_)
 exact ⟨rfl,_,zq rfl,rfl,wke HE K1⟩
theorem bare_2 (h : Mach Z S x m w) (p q : Int) (_hn : m.tot <= 500000000) : Dz Z S x w 183 ⟨38,p,q⟩ (m.bare ⟨38,p,q⟩) := by
 have HE := hid (show (m.bare ⟨38,p,q⟩) = ({ m with ref := [⟨38,p,q⟩] } : Mc) by simp [Mc.bare,show blk 38 = false from rfl])
 have hbl : blk 38 = false := rfl
 apply won h 38 p q;clear h;intro W0 K0;intros
 go_enter Tryz.func183,Tryz.ntmps183
 have hV0 : ∃ V,W0.alloc (.cells #[ji 38,ji p,ji q] 37) = V := ⟨_,rfl⟩
 obtain ⟨V,hV⟩ := hV0
 obtain ⟨⟨u6,r6⟩,g6,hxV,kV⟩ := Walk.ref K0.out hV
 have K1 := hid kV
 clear kV
 go_wp2_with (go_at_call 118;refine smx (blank_as 38 false _ hbl) ?_)
 exact ⟨rfl,_,zq rfl,rfl,wke HE K1⟩
theorem bare_3 (h : Mach Z S x m w) (p q : Int) (hn : m.tot <= 500000000) : Dz Z S x w 183 ⟨62,p,q⟩ (m.bare ⟨62,p,q⟩) := by
 have HE := hid (show (m.bare ⟨62,p,q⟩) = (m.tellTag ⟨62,p,q⟩) by simp [Mc.bare,show blk 62 = false from rfl])
 have hbl : blk 62 = false := rfl
 apply won h 62 p q;clear h;intro W0 K0;intros
 go_enter Tryz.func183,Tryz.ntmps183
 go_wp2_with (go_at_call 118;refine smx (blank_as 62 false _ hbl) ?_)
 refine wky K0 (fun U h => tellTag_any h ⟨62,p,q⟩ (by show m.tot <= _;omega)) ?_;intro W1 K1;intros
 go_wp2_with fail
 exact ⟨rfl,_,zq rfl,rfl,wke HE K1⟩
theorem bare_f (h : Mach Z S x m w) (r p q : Int) (hr : r = 34 \/ r = 39 \/ r = 60 \/ r = 61 \/ r = 96) (hn : m.tot <= 500000000) : Dz Z S x w 183 ⟨r,p,q⟩ (m.bare ⟨r,p,q⟩) := by
 have hbl : blk r = false := by rcases hr with rfl | rfl | rfl | rfl | rfl <;> rfl
 have HE : Hid ((m.bare ⟨r,p,q⟩) = ((m.fault 8 (p)).addValue r)) := by unfold Hid;rcases hr with rfl | rfl | rfl | rfl | rfl <;> simp [Mc.bare,hbl]
 apply won h r p q;clear h;intro W0 K0;intros
 rcases hr with rfl | rfl | rfl | rfl | rfl
 all_goals
  go_enter Tryz.func183,Tryz.ntmps183;go_wp2_with (go_at_call 118;refine smx (blank_as _ false _ hbl) ?_);refine wky K0 (fun U h => fault_any h 8 p (by show m.tot <= _;omega)) ?_;intro W1 K1;intros;go_wp2_with fail;go_still_tail 5,(show Tryz.prog.follows .mixedOrders = true by kernel_rfl);go_wp2_with fail;refine wkx (K1.out.drew.call (fun U h => addValue_any h _ (by show (m.fault 8 (p)).tot <= _;have t0 := tot_fault m 8 (p);omega))) fun W2 K2 _ _ _ _ _ _ _ _ _ => ?_;go_wp2_with fail;exact ⟨rfl,_,zq rfl,rfl,wke HE K2⟩
theorem bare_4 (h : Mach Z S x m w) (r p q : Int) (hbl : blk r = false) (h38 : (r == 38) = false) (h62 : (r == 62) = false) (h34 : (r == 34) = false) (h39 : (r == 39) = false) (h60 : (r == 60) = false) (h61 : (r == 61) = false) (h96 : (r == 96) = false) (hn : m.tot <= 500000000) : Dz Z S x w 183 ⟨r,p,q⟩ (m.bare ⟨r,p,q⟩) := by
 have HE := hid (show (m.bare ⟨r,p,q⟩) = (m.addValue r) by simp at h38 h62 h34 h39 h60 h61 h96;simp [Mc.bare,hbl,h38,h62,h34,h39,h60,h61,h96])
 apply won h r p q;clear h;intro W0 K0;intros
 go_enter Tryz.func183,Tryz.ntmps183
 go_wp2_with (go_at_call 118;refine smx (blank_as r false _ hbl) ?_)
 go_still_tail 5,(show Tryz.prog.follows .mixedOrders = true by kernel_rfl)
 go_wp2_with fail
 refine wkx (K0.out.drew.call (fun U h => addValue_any h r (by show m.tot <= _;omega))) fun W1 K1 _ _ _ _ _ _ _ _ _ => ?_
 go_wp2_with fail
 exact ⟨rfl,_,zq rfl,rfl,wke HE K1⟩
theorem bare_any (h : Mach Z S x m w) (c : Ch) (hn : m.tot <= 500000000) : Dz Z S x w 183 c (m.bare c) := by
 obtain ⟨r,p,q⟩ := c
 cases hbl : blk r with
 | true => exact bare_1 h r p q hbl hn
 | false =>
  by_cases h38 : r = 38
  · subst h38
    exact bare_2 h p q hn
  by_cases h62 : r = 62
  · subst h62
    exact bare_3 h p q hn
  by_cases h34 : r = 34
  · subst h34
    exact bare_f h 34 p q (by decide) hn
  by_cases h39 : r = 39
  · subst h39
    exact bare_f h 39 p q (by decide) hn
  by_cases h60 : r = 60
  · subst h60
    exact bare_f h 60 p q (by decide) hn
  by_cases h61 : r = 61
  · subst h61
    exact bare_f h 61 p q (by decide) hn
  by_cases h96 : r = 96
  · subst h96
    exact bare_f h 96 p q (by decide) hn
  exact bare_4 h r p q hbl (by simpa using h38) (by simpa using h62) (by simpa using h34) (by simpa using h39) (by simpa using h60) (by simpa using h61) (by simpa using h96) hn
theorem beforeValue_1 (h : Mach Z S x m w) (r p q : Int) (hbl : blk r = true) (_hn : m.tot <= 490000000) : Dz Z S x w 170 ⟨r,p,q⟩ (m.beforeValue ⟨r,p,q⟩) := by
 have HE := hid (show (m.beforeValue ⟨r,p,q⟩) = m by simp [Mc.beforeValue,hbl])
 apply won h r p q;clear h;intro W0 K0;intros
 go_enter Tryz.func170,Tryz.ntmps170
 go_wp2_with (go_at_call 118;refine smx (blank_as r true _ hbl) ?_)
 exact ⟨rfl,_,zq rfl,rfl,wke HE K0⟩
theorem beforeValue_2 (h : Mach Z S x m w) (p q : Int) (_hn : m.tot <= 490000000) : Dz Z S x w 170 ⟨34,p,q⟩ (m.beforeValue ⟨34,p,q⟩) := by
 have HE := hid (show (m.beforeValue ⟨34,p,q⟩) = ({ m with st := 181 } : Mc) by simp [Mc.beforeValue,show blk 34 = false from rfl])
 have hbl : blk 34 = false := rfl
 obtain ⟨W0,_,_,hb0,_,_,_,hx0,_,_,_,_,_,K0⟩ := Walk.on h 34 p q
 clear h
 go_enter Tryz.func170,Tryz.ntmps170
 have K1 := hid (K0.out.st 181)
 have hb1 := hb0
 have hx1 := hx0
 go_wp2_with (go_at_call 118;refine smx (blank_as 34 false _ hbl) ?_)
 exact ⟨rfl,_,zq rfl,rfl,wke HE K1⟩
theorem beforeValue_3 (h : Mach Z S x m w) (p q : Int) (_hn : m.tot <= 490000000) : Dz Z S x w 170 ⟨39,p,q⟩ (m.beforeValue ⟨39,p,q⟩) := by
 have HE := hid (show (m.beforeValue ⟨39,p,q⟩) = ({ m with st := 182 } : Mc) by simp [Mc.beforeValue,show blk 39 = false from rfl])
 have hbl : blk 39 = false := rfl
 obtain ⟨W0,_,_,hb0,_,_,_,hx0,_,_,_,_,_,K0⟩ := Walk.on h 39 p q
 clear h
 go_enter Tryz.func170,Tryz.ntmps170
 have K1 := hid (K0.out.st 182)
 have hb1 := hb0
 have hx1 := hx0
 go_wp2_with (go_at_call 118;refine smx (blank_as 39 false _ hbl) ?_)
 exact ⟨rfl,_,zq rfl,rfl,wke HE K1⟩
theorem beforeValue_4 (h : Mach Z S x m w) (p q : Int) (hn : m.tot <= 490000000) : Dz Z S x w 170 ⟨62,p,q⟩ (m.beforeValue ⟨62,p,q⟩) := by
 have HE := hid (show (m.beforeValue ⟨62,p,q⟩) = ((m.fault 10 (p)).tellTag ⟨62,p,q⟩) by simp [Mc.beforeValue,show blk 62 = false from rfl])
 have hbl : blk 62 = false := rfl
 apply won h 62 p q;clear h;intro W0 K0;intros
 go_enter Tryz.func170,Tryz.ntmps170
 go_wp2_with (go_at_call 118;refine smx (blank_as 62 false _ hbl) ?_)
 refine wky K0 (fun U h => fault_any h 10 p (by show m.tot <= _;omega)) ?_;intro W1 K1;intros
 go_wp2_with fail
 refine wky K1 (fun U h => tellTag_any h ⟨62,p,q⟩ (by show (m.fault 10 (p)).tot <= _;have t0 := tot_fault m 10 (p);omega)) ?_;intro W2 K2;intros
 go_wp2_with fail
 exact ⟨rfl,_,zq rfl,rfl,wke HE K2⟩
theorem beforeValue_5 (h : Mach Z S x m w) (r p q : Int) (hbl : blk r = false) (h34 : (r == 34) = false) (h39 : (r == 39) = false) (h62 : (r == 62) = false) (hn : m.tot <= 490000000) : Dz Z S x w 170 ⟨r,p,q⟩ (m.beforeValue ⟨r,p,q⟩) := by
 have HE := hid (show (m.beforeValue ⟨r,p,q⟩) = (({ m with st := 183 } : Mc).bare ⟨r,p,q⟩) by simp at h34 h39 h62;simp [Mc.beforeValue,hbl,h34,h39,h62])
 apply won h r p q;clear h;intro W0 K0;intros
 go_enter Tryz.func170,Tryz.ntmps170
 go_wp2_with (go_at_call 118;refine smx (blank_as r false _ hbl) ?_)
 refine wky K0 (fun U h => again_any 183 en183 h ⟨r,p,q⟩ (fun U W h => bare_any h ⟨r,p,q⟩ (by show m.tot <= _;omega))) ?_;intro W1 K1;intros
 go_wp2_with fail
 exact ⟨rfl,_,zq rfl,rfl,wke HE K1⟩
theorem beforeValue_any (h : Mach Z S x m w) (c : Ch) (hn : m.tot <= 490000000) : Dz Z S x w 170 c (m.beforeValue c) := by
 obtain ⟨r,p,q⟩ := c
 cases hbl : blk r with
 | true => exact beforeValue_1 h r p q hbl hn
 | false =>
  by_cases h34 : r = 34
  · subst h34
    exact beforeValue_2 h p q hn
  by_cases h39 : r = 39
  · subst h39
    exact beforeValue_3 h p q hn
  by_cases h62 : r = 62
  · subst h62
    exact beforeValue_4 h p q hn
  exact beforeValue_5 h r p q hbl (by simpa using h34) (by simpa using h39) (by simpa using h62) hn
theorem afterEnd_1 (h : Mach Z S x m w) (r p q : Int) (hbl : blk r = true) (_hn : m.tot <= 500000000) : Dz Z S x w 148 ⟨r,p,q⟩ (m.afterEnd ⟨r,p,q⟩) := by
 have HE := hid (show (m.afterEnd ⟨r,p,q⟩) = m by simp [Mc.afterEnd,hbl])
 apply won h r p q;clear h;intro W0 K0;intros
 go_enter Tryz.func148,Tryz.ntmps148
 go_wp2_with (go_at_call 118;refine smx (blank_as r true _ hbl) ?_)
 exact ⟨rfl,_,zq rfl,rfl,wke HE K0⟩
theorem afterEnd_2 (h : Mach Z S x m w) (p q : Int) (_hn : m.tot <= 500000000) : Dz Z S x w 148 ⟨47,p,q⟩ (m.afterEnd ⟨47,p,q⟩) := by
 have HE := hid (show (m.afterEnd ⟨47,p,q⟩) = ({ m with st := 120 } : Mc) by simp [Mc.afterEnd,show blk 47 = false from rfl])
 have hbl : blk 47 = false := rfl
 obtain ⟨W0,_,_,hb0,_,_,_,hx0,_,_,_,_,_,K0⟩ := Walk.on h 47 p q
 clear h
 go_enter Tryz.func148,Tryz.ntmps148
 have K1 := hid (K0.out.st 120)
 have hb1 := hb0
 have hx1 := hx0
 go_wp2_with (go_at_call 118;refine smx (blank_as 47 false _ hbl) ?_)
 exact ⟨rfl,_,zq rfl,rfl,wke HE K1⟩
theorem afterEnd_3 (h : Mach Z S x m w) (p q : Int) (hn : m.tot <= 500000000) : Dz Z S x w 148 ⟨62,p,q⟩ (m.afterEnd ⟨62,p,q⟩) := by
 have HE := hid (show (m.afterEnd ⟨62,p,q⟩) = (m.tellTag ⟨62,p,q⟩) by simp [Mc.afterEnd,show blk 62 = false from rfl])
 have hbl : blk 62 = false := rfl
 apply won h 62 p q;clear h;intro W0 K0;intros
 go_enter Tryz.func148,Tryz.ntmps148
 go_wp2_with (go_at_call 118;refine smx (blank_as 62 false _ hbl) ?_)
 refine wky K0 (fun U h => tellTag_any h ⟨62,p,q⟩ (by show m.tot <= _;omega)) ?_;intro W1 K1;intros
 go_wp2_with fail
 exact ⟨rfl,_,zq rfl,rfl,wke HE K1⟩
theorem name_1 (h : Mach Z S x m w) (r p q : Int) (hbl : blk r = true) (hn : m.tot <= 490000000) : Dz Z S x w 151 ⟨r,p,q⟩ (m.name ⟨r,p,q⟩) := by
 have HE := hid (show (m.name ⟨r,p,q⟩) = (({ m.endName with st := 148 } : Mc).afterEnd ⟨r,p,q⟩) by simp [Mc.name,Mc.inName,hbl])
 apply won h r p q;clear h;intro W0 K0;intros
 go_enter Tryz.func151,Tryz.ntmps151
 go_wp2_with (go_at_call 118;refine smx (blank_as r true _ hbl) ?_)
 refine wky K0 (fun U h => endName_any h (by show m.tot <= _;omega)) ?_;intro W1 K1;intros
 go_wp2_with fail
 refine wky K1 (fun U h => again_any 148 en148 h ⟨r,p,q⟩ (fun U W h => afterEnd_1 h r p q hbl (by show m.endName.tot <= _;have t0 := tot_endName m;omega))) ?_;intro W2 K2;intros
 go_wp2_with fail
 exact ⟨rfl,_,zq rfl,rfl,wke HE K2⟩
theorem name_2 (h : Mach Z S x m w) (p q : Int) (hn : m.tot <= 490000000) : Dz Z S x w 151 ⟨47,p,q⟩ (m.name ⟨47,p,q⟩) := by
 have HE := hid (show (m.name ⟨47,p,q⟩) = (({ m.endName with st := 148 } : Mc).afterEnd ⟨47,p,q⟩) by simp [Mc.name,Mc.inName,show blk 47 = false from rfl])
 have hbl : blk 47 = false := rfl
 apply won h 47 p q;clear h;intro W0 K0;intros
 go_enter Tryz.func151,Tryz.ntmps151
 go_wp2_with (go_at_call 118;refine smx (blank_as 47 false _ hbl) ?_)
 refine wky K0 (fun U h => endName_any h (by show m.tot <= _;omega)) ?_;intro W1 K1;intros
 go_wp2_with fail
 refine wky K1 (fun U h => again_any 148 en148 h ⟨47,p,q⟩ (fun U W h => afterEnd_2 h p q (by show m.endName.tot <= _;have t0 := tot_endName m;omega))) ?_;intro W2 K2;intros
 go_wp2_with fail
 exact ⟨rfl,_,zq rfl,rfl,wke HE K2⟩
theorem name_3 (h : Mach Z S x m w) (p q : Int) (hn : m.tot <= 490000000) : Dz Z S x w 151 ⟨62,p,q⟩ (m.name ⟨62,p,q⟩) := by
 have HE := hid (show (m.name ⟨62,p,q⟩) = (({ m.endName with st := 148 } : Mc).afterEnd ⟨62,p,q⟩) by simp [Mc.name,Mc.inName,show blk 62 = false from rfl])
 have hbl : blk 62 = false := rfl
 apply won h 62 p q;clear h;intro W0 K0;intros
 go_enter Tryz.func151,Tryz.ntmps151
 go_wp2_with (go_at_call 118;refine smx (blank_as 62 false _ hbl) ?_)
 refine wky K0 (fun U h => endName_any h (by show m.tot <= _;omega)) ?_;intro W1 K1;intros
 go_wp2_with fail
 refine wky K1 (fun U h => again_any 148 en148 h ⟨62,p,q⟩ (fun U W h => afterEnd_3 h p q (by show m.endName.tot <= _;have t0 := tot_endName m;omega))) ?_;intro W2 K2;intros
 go_wp2_with fail
 exact ⟨rfl,_,zq rfl,rfl,wke HE K2⟩
theorem name_4 (h : Mach Z S x m w) (p q : Int) (hn : m.tot <= 490000000) : Dz Z S x w 151 ⟨61,p,q⟩ (m.name ⟨61,p,q⟩) := by
 have HE := hid (show (m.name ⟨61,p,q⟩) = ({ m.endName with st := 170 } : Mc) by simp [Mc.name,Mc.inName,show blk 61 = false from rfl])
 have hbl : blk 61 = false := rfl
 apply won h 61 p q;clear h;intro W0 K0;intros
 go_enter Tryz.func151,Tryz.ntmps151
 go_wp2_with (go_at_call 118;refine smx (blank_as 61 false _ hbl) ?_)
 refine wkx (K0.out.call (fun U h => endName_any h (by show m.tot <= _;omega))) fun W1 K1 hb1 _ _ _ hx1 _ _ _ _ => ?_
 have K2 := hid (K1.out.st 170)
 have hb2 := hb1
 have hx2 := hx1
 go_wp2_with fail
 exact ⟨rfl,_,zq rfl,rfl,wke HE K2⟩
theorem name_f (h : Mach Z S x m w) (r p q : Int) (hr : r = 34 \/ r = 39 \/ r = 60) (hn : m.tot <= 490000000) : Dz Z S x w 151 ⟨r,p,q⟩ (m.name ⟨r,p,q⟩) := by
 have hbl : blk r = false := by rcases hr with rfl | rfl | rfl <;> rfl
 have HE : Hid ((m.name ⟨r,p,q⟩) = ((m.fault 8 (p)).addAttr r)) := by unfold Hid;rcases hr with rfl | rfl | rfl <;> simp [Mc.name,Mc.inName,hbl]
 apply won h r p q;clear h;intro W0 K0;intros
 rcases hr with rfl | rfl | rfl
 all_goals
  go_enter Tryz.func151,Tryz.ntmps151;go_wp2_with (go_at_call 118;refine smx (blank_as _ false _ hbl) ?_);refine wky K0 (fun U h => fault_any h 8 p (by show m.tot <= _;omega)) ?_;intro W1 K1;intros;go_wp2_with fail;go_still_tail 5,(show Tryz.prog.follows .mixedOrders = true by kernel_rfl);go_wp2_with fail;refine wkx (K1.out.drew.call (fun U h => addAttr_any h _ (by show (m.fault 8 (p)).tot <= _;have t0 := tot_fault m 8 (p);omega))) fun W2 K2 _ _ _ _ _ _ _ _ _ => ?_;go_wp2_with fail;exact ⟨rfl,_,zq rfl,rfl,wke HE K2⟩
theorem name_5 (h : Mach Z S x m w) (r p q : Int) (hbl : blk r = false) (h47 : (r == 47) = false) (h62 : (r == 62) = false) (h61 : (r == 61) = false) (h34 : (r == 34) = false) (h39 : (r == 39) = false) (h60 : (r == 60) = false) (hn : m.tot <= 490000000) : Dz Z S x w 151 ⟨r,p,q⟩ (m.name ⟨r,p,q⟩) := by
 have HE := hid (show (m.name ⟨r,p,q⟩) = (m.addAttr r) by simp at h47 h62 h61 h34 h39 h60;simp [Mc.name,Mc.inName,hbl,h47,h62,h61,h34,h39,h60])
 apply won h r p q;clear h;intro W0 K0;intros
 go_enter Tryz.func151,Tryz.ntmps151
 go_wp2_with (go_at_call 118;refine smx (blank_as r false _ hbl) ?_)
 go_still_tail 5,(show Tryz.prog.follows .mixedOrders = true by kernel_rfl)
 go_wp2_with fail
 refine wkx (K0.out.drew.call (fun U h => addAttr_any h r (by show m.tot <= _;omega))) fun W1 K1 _ _ _ _ _ _ _ _ _ => ?_
 go_wp2_with fail
 exact ⟨rfl,_,zq rfl,rfl,wke HE K1⟩
theorem name_any (h : Mach Z S x m w) (c : Ch) (hn : m.tot <= 490000000) : Dz Z S x w 151 c (m.name c) := by
 obtain ⟨r,p,q⟩ := c
 cases hbl : blk r with
 | true => exact name_1 h r p q hbl hn
 | false =>
  by_cases h47 : r = 47
  · subst h47
    exact name_2 h p q hn
  by_cases h62 : r = 62
  · subst h62
    exact name_3 h p q hn
  by_cases h61 : r = 61
  · subst h61
    exact name_4 h p q hn
  by_cases h34 : r = 34
  · subst h34
    exact name_f h 34 p q (by decide) hn
  by_cases h39 : r = 39
  · subst h39
    exact name_f h 39 p q (by decide) hn
  by_cases h60 : r = 60
  · subst h60
    exact name_f h 60 p q (by decide) hn
  exact name_5 h r p q hbl (by simpa using h47) (by simpa using h62) (by simpa using h61) (by simpa using h34) (by simpa using h39) (by simpa using h60) hn
theorem afterName_1 (h : Mach Z S x m w) (r p q : Int) (hbl : blk r = true) (_hn : m.tot <= 480000000) : Dz Z S x w 148 ⟨r,p,q⟩ (m.afterName ⟨r,p,q⟩) := by
 have HE := hid (show (m.afterName ⟨r,p,q⟩) = m by simp [Mc.afterName,hbl])
 apply won h r p q;clear h;intro W0 K0;intros
 go_enter Tryz.func148,Tryz.ntmps148
 go_wp2_with (go_at_call 118;refine smx (blank_as r true _ hbl) ?_)
 exact ⟨rfl,_,zq rfl,rfl,wke HE K0⟩
theorem afterName_2 (h : Mach Z S x m w) (p q : Int) (_hn : m.tot <= 480000000) : Dz Z S x w 148 ⟨47,p,q⟩ (m.afterName ⟨47,p,q⟩) := by
 have HE := hid (show (m.afterName ⟨47,p,q⟩) = ({ m with st := 120 } : Mc) by simp [Mc.afterName,show blk 47 = false from rfl])
 have hbl : blk 47 = false := rfl
 obtain ⟨W0,_,_,hb0,_,_,_,hx0,_,_,_,_,_,K0⟩ := Walk.on h 47 p q
 clear h
 go_enter Tryz.func148,Tryz.ntmps148
 have K1 := hid (K0.out.st 120)
 have hb1 := hb0
 have hx1 := hx0
 go_wp2_with (go_at_call 118;refine smx (blank_as 47 false _ hbl) ?_)
 exact ⟨rfl,_,zq rfl,rfl,wke HE K1⟩
theorem afterName_3 (h : Mach Z S x m w) (p q : Int) (_hn : m.tot <= 480000000) : Dz Z S x w 148 ⟨61,p,q⟩ (m.afterName ⟨61,p,q⟩) := by
 have HE := hid (show (m.afterName ⟨61,p,q⟩) = ({ m with st := 170 } : Mc) by simp [Mc.afterName,show blk 61 = false from rfl])
 have hbl : blk 61 = false := rfl
 obtain ⟨W0,_,_,hb0,_,_,_,hx0,_,_,_,_,_,K0⟩ := Walk.on h 61 p q
 clear h
 go_enter Tryz.func148,Tryz.ntmps148
 have K1 := hid (K0.out.st 170)
 have hb1 := hb0
 have hx1 := hx0
 go_wp2_with (go_at_call 118;refine smx (blank_as 61 false _ hbl) ?_)
 exact ⟨rfl,_,zq rfl,rfl,wke HE K1⟩
theorem afterName_4 (h : Mach Z S x m w) (p q : Int) (hn : m.tot <= 480000000) : Dz Z S x w 148 ⟨62,p,q⟩ (m.afterName ⟨62,p,q⟩) := by
 have HE := hid (show (m.afterName ⟨62,p,q⟩) = (m.tellTag ⟨62,p,q⟩) by simp [Mc.afterName,show blk 62 = false from rfl])
 have hbl : blk 62 = false := rfl
 apply won h 62 p q;clear h;intro W0 K0;intros
 go_enter Tryz.func148,Tryz.ntmps148
 go_wp2_with (go_at_call 118;refine smx (blank_as 62 false _ hbl) ?_)
 refine wky K0 (fun U h => tellTag_any h ⟨62,p,q⟩ (by show m.tot <= _;omega)) ?_;intro W1 K1;intros
 go_wp2_with fail
 exact ⟨rfl,_,zq rfl,rfl,wke HE K1⟩
theorem afterName_5 (h : Mach Z S x m w) (r p q : Int) (hbl : blk r = false) (h47 : (r == 47) = false) (h61 : (r == 61) = false) (h62 : (r == 62) = false) (hn : m.tot <= 480000000) : Dz Z S x w 148 ⟨r,p,q⟩ (m.afterName ⟨r,p,q⟩) := by
 have HE := hid (show (m.afterName ⟨r,p,q⟩) = (({ (m.begA (p)) with st := 151 } : Mc).name ⟨r,p,q⟩) by simp at h47 h61 h62;simp [Mc.afterName,hbl,h47,h61,h62])
 apply won h r p q;clear h;intro W0 K0;intros
 go_enter Tryz.func148,Tryz.ntmps148
 go_wp2_with (go_at_call 118;refine smx (blank_as r false _ hbl) ?_)
 go_still_tail 5,(show Tryz.prog.follows .mixedOrders = true by kernel_rfl)
 go_wp2_with fail
 refine wkx (K0.out.drew.call (fun U h => begA_any h p (by show m.tot <= _;omega))) fun W1 K1 _ _ _ _ _ _ _ _ _ => ?_
 go_wp2_with fail
 refine wky K1 (fun U h => again_any 151 en151 h ⟨r,p,q⟩ (fun U W h => name_any h ⟨r,p,q⟩ (by show (m.begA (p)).tot <= _;have t0 := tot_begA m (p);omega))) ?_;intro W2 K2;intros
 go_wp2_with fail
 exact ⟨rfl,_,zq rfl,rfl,wke HE K2⟩
theorem afterName_any (h : Mach Z S x m w) (c : Ch) (hn : m.tot <= 480000000) : Dz Z S x w 148 c (m.afterName c) := by
 obtain ⟨r,p,q⟩ := c
 cases hbl : blk r with
 | true => exact afterName_1 h r p q hbl hn
 | false =>
  by_cases h47 : r = 47
  · subst h47
    exact afterName_2 h p q hn
  by_cases h61 : r = 61
  · subst h61
    exact afterName_3 h p q hn
  by_cases h62 : r = 62
  · subst h62
    exact afterName_4 h p q hn
  exact afterName_5 h r p q hbl (by simpa using h47) (by simpa using h61) (by simpa using h62) hn
theorem beforeName_1 (h : Mach Z S x m w) (r p q : Int) (hbl : blk r = true) (_hn : m.tot <= 470000000) : Dz Z S x w 119 ⟨r,p,q⟩ (m.beforeName ⟨r,p,q⟩) := by
 have HE := hid (show (m.beforeName ⟨r,p,q⟩) = m by simp [Mc.beforeName,hbl])
 apply won h r p q;clear h;intro W0 K0;intros
 go_enter Tryz.func119,Tryz.ntmps119
 go_wp2_with (go_at_call 118;refine smx (blank_as r true _ hbl) ?_)
 exact ⟨rfl,_,zq rfl,rfl,wke HE K0⟩
theorem beforeName_s (h : Mach Z S x m w) (r p q : Int) (hr : r = 47 \/ r = 62) (hn : m.tot <= 470000000) : Dz Z S x w 119 ⟨r,p,q⟩ (m.beforeName ⟨r,p,q⟩) := by
 have hbl : blk r = false := by rcases hr with rfl | rfl <;> rfl
 have HE : Hid ((m.beforeName ⟨r,p,q⟩) = (({ m with st := 148 } : Mc).afterName ⟨r,p,q⟩)) := by unfold Hid;rcases hr with rfl | rfl <;> simp [Mc.beforeName,hbl]
 apply won h r p q;clear h;intro W0 K0;intros
 rcases hr with rfl | rfl
 all_goals
  go_enter Tryz.func119,Tryz.ntmps119;go_wp2_with (go_at_call 118;refine smx (blank_as _ false _ hbl) ?_);refine wky K0 (fun U h => again_any 148 en148 h ⟨_,p,q⟩ (fun U W h => afterName_any h ⟨_,p,q⟩ (by show m.tot <= _;omega))) ?_;intro W1 K1;intros;go_wp2_with fail;exact ⟨rfl,_,zq rfl,rfl,wke HE K1⟩
theorem beforeName_3 (h : Mach Z S x m w) (p q : Int) (hn : m.tot <= 470000000) : Dz Z S x w 119 ⟨61,p,q⟩ (m.beforeName ⟨61,p,q⟩) := by
 have HE := hid (show (m.beforeName ⟨61,p,q⟩) = ({ (((m.fault 8 (p)).begA (p)).addAttr 61) with st := 151 } : Mc) by simp [Mc.beforeName,show blk 61 = false from rfl])
 have hbl : blk 61 = false := rfl
 apply won h 61 p q;clear h;intro W0 K0;intros
 go_enter Tryz.func119,Tryz.ntmps119
 go_wp2_with (go_at_call 118;refine smx (blank_as 61 false _ hbl) ?_)
 refine wky K0 (fun U h => fault_any h 8 p (by show m.tot <= _;omega)) ?_;intro W1 K1;intros
 go_wp2_with fail
 go_still_tail 5,(show Tryz.prog.follows .mixedOrders = true by kernel_rfl)
 go_wp2_with fail
 refine wkx (K1.out.drew.call (fun U h => begA_any h p (by show (m.fault 8 (p)).tot <= _;have t0 := tot_fault m 8 (p);omega))) fun W2 K2 _ _ _ _ _ _ _ _ _ => ?_
 go_wp2_with fail
 go_still_tail 5,(show Tryz.prog.follows .mixedOrders = true by kernel_rfl)
 go_wp2_with fail
 refine wkx (K2.out.drew.call (fun U h => addAttr_any h 61 (by show ((m.fault 8 (p)).begA (p)).tot <= _;have t0 := tot_fault m 8 (p);have t1 := tot_begA (m.fault 8 (p)) (p);omega))) fun W3 K3 hb3 _ _ _ hx3 _ _ _ _ => ?_
 have K4 := hid (K3.out.st 151)
 have hb4 := hb3
 have hx4 := hx3
 go_wp2_with fail
 exact ⟨rfl,_,zq rfl,rfl,wke HE K4⟩
theorem beforeName_4 (h : Mach Z S x m w) (r p q : Int) (hbl : blk r = false) (h47 : (r == 47) = false) (h62 : (r == 62) = false) (h61 : (r == 61) = false) (hn : m.tot <= 470000000) : Dz Z S x w 119 ⟨r,p,q⟩ (m.beforeName ⟨r,p,q⟩) := by
 have HE := hid (show (m.beforeName ⟨r,p,q⟩) = (({ (m.begA (p)) with st := 151 } : Mc).name ⟨r,p,q⟩) by simp at h47 h62 h61;simp [Mc.beforeName,hbl,h47,h62,h61])
 apply won h r p q;clear h;intro W0 K0;intros
 go_enter Tryz.func119,Tryz.ntmps119
 go_wp2_with (go_at_call 118;refine smx (blank_as r false _ hbl) ?_)
 go_still_tail 5,(show Tryz.prog.follows .mixedOrders = true by kernel_rfl)
 go_wp2_with fail
 refine wkx (K0.out.drew.call (fun U h => begA_any h p (by show m.tot <= _;omega))) fun W1 K1 _ _ _ _ _ _ _ _ _ => ?_
 go_wp2_with fail
 refine wky K1 (fun U h => again_any 151 en151 h ⟨r,p,q⟩ (fun U W h => name_any h ⟨r,p,q⟩ (by show (m.begA (p)).tot <= _;have t0 := tot_begA m (p);omega))) ?_;intro W2 K2;intros
 go_wp2_with fail
 exact ⟨rfl,_,zq rfl,rfl,wke HE K2⟩
theorem beforeName_any (h : Mach Z S x m w) (c : Ch) (hn : m.tot <= 470000000) : Dz Z S x w 119 c (m.beforeName c) := by
 obtain ⟨r,p,q⟩ := c
 cases hbl : blk r with
 | true => exact beforeName_1 h r p q hbl hn
 | false =>
  by_cases h47 : r = 47
  · subst h47
    exact beforeName_s h 47 p q (by decide) hn
  by_cases h62 : r = 62
  · subst h62
    exact beforeName_s h 62 p q (by decide) hn
  by_cases h61 : r = 61
  · subst h61
    exact beforeName_3 h p q hn
  exact beforeName_4 h r p q hbl (by simpa using h47) (by simpa using h62) (by simpa using h61) hn
theorem afterValue_1 (h : Mach Z S x m w) (r p q : Int) (hbl : blk r = true) (_hn : m.tot <= 460000000) : Dz Z S x w 187 ⟨r,p,q⟩ (m.afterValue ⟨r,p,q⟩) := by
 have HE := hid (show (m.afterValue ⟨r,p,q⟩) = ({ m with st := 119 } : Mc) by simp [Mc.afterValue,hbl])
 obtain ⟨W0,_,_,hb0,_,_,_,hx0,_,_,_,_,_,K0⟩ := Walk.on h r p q
 clear h
 go_enter Tryz.func187,Tryz.ntmps187
 have K1 := hid (K0.out.st 119)
 have hb1 := hb0
 have hx1 := hx0
 go_wp2_with (go_at_call 118;refine smx (blank_as r true _ hbl) ?_)
 exact ⟨rfl,_,zq rfl,rfl,wke HE K1⟩
theorem afterValue_2 (h : Mach Z S x m w) (p q : Int) (_hn : m.tot <= 460000000) : Dz Z S x w 187 ⟨47,p,q⟩ (m.afterValue ⟨47,p,q⟩) := by
 have HE := hid (show (m.afterValue ⟨47,p,q⟩) = ({ m with st := 120 } : Mc) by simp [Mc.afterValue,show blk 47 = false from rfl])
 have hbl : blk 47 = false := rfl
 obtain ⟨W0,_,_,hb0,_,_,_,hx0,_,_,_,_,_,K0⟩ := Walk.on h 47 p q
 clear h
 go_enter Tryz.func187,Tryz.ntmps187
 have K1 := hid (K0.out.st 120)
 have hb1 := hb0
 have hx1 := hx0
 go_wp2_with (go_at_call 118;refine smx (blank_as 47 false _ hbl) ?_)
 exact ⟨rfl,_,zq rfl,rfl,wke HE K1⟩
theorem afterValue_3 (h : Mach Z S x m w) (p q : Int) (hn : m.tot <= 460000000) : Dz Z S x w 187 ⟨62,p,q⟩ (m.afterValue ⟨62,p,q⟩) := by
 have HE := hid (show (m.afterValue ⟨62,p,q⟩) = (m.tellTag ⟨62,p,q⟩) by simp [Mc.afterValue,show blk 62 = false from rfl])
 have hbl : blk 62 = false := rfl
 apply won h 62 p q;clear h;intro W0 K0;intros
 go_enter Tryz.func187,Tryz.ntmps187
 go_wp2_with (go_at_call 118;refine smx (blank_as 62 false _ hbl) ?_)
 refine wky K0 (fun U h => tellTag_any h ⟨62,p,q⟩ (by show m.tot <= _;omega)) ?_;intro W1 K1;intros
 go_wp2_with fail
 exact ⟨rfl,_,zq rfl,rfl,wke HE K1⟩
theorem afterValue_4 (h : Mach Z S x m w) (r p q : Int) (hbl : blk r = false) (h47 : (r == 47) = false) (h62 : (r == 62) = false) (hn : m.tot <= 460000000) : Dz Z S x w 187 ⟨r,p,q⟩ (m.afterValue ⟨r,p,q⟩) := by
 have HE := hid (show (m.afterValue ⟨r,p,q⟩) = (({ (m.fault 11 (p)) with st := 119 } : Mc).beforeName ⟨r,p,q⟩) by simp at h47 h62;simp [Mc.afterValue,hbl,h47,h62])
 apply won h r p q;clear h;intro W0 K0;intros
 go_enter Tryz.func187,Tryz.ntmps187
 go_wp2_with (go_at_call 118;refine smx (blank_as r false _ hbl) ?_)
 refine wky K0 (fun U h => fault_any h 11 p (by show m.tot <= _;omega)) ?_;intro W1 K1;intros
 go_wp2_with fail
 refine wky K1 (fun U h => again_any 119 en119 h ⟨r,p,q⟩ (fun U W h => beforeName_any h ⟨r,p,q⟩ (by show (m.fault 11 (p)).tot <= _;have t0 := tot_fault m 11 (p);omega))) ?_;intro W2 K2;intros
 go_wp2_with fail
 exact ⟨rfl,_,zq rfl,rfl,wke HE K2⟩
theorem afterValue_any (h : Mach Z S x m w) (c : Ch) (hn : m.tot <= 460000000) : Dz Z S x w 187 c (m.afterValue c) := by
 obtain ⟨r,p,q⟩ := c
 cases hbl : blk r with
 | true => exact afterValue_1 h r p q hbl hn
 | false =>
  by_cases h47 : r = 47
  · subst h47
    exact afterValue_2 h p q hn
  by_cases h62 : r = 62
  · subst h62
    exact afterValue_3 h p q hn
  exact afterValue_4 h r p q hbl (by simpa using h47) (by simpa using h62) hn
theorem slash_1 (h : Mach Z S x m w) (p q : Int) (hn : m.tot <= 460000000) : Dz Z S x w 120 ⟨62,p,q⟩ (m.slash ⟨62,p,q⟩) := by
 have HE := hid (show (m.slash ⟨62,p,q⟩) = (({ m with self := true } : Mc).tellTag ⟨62,p,q⟩) by simp [Mc.slash])
 obtain ⟨W0,hW0,k0⟩ := Walk.start h ⟨62,p,q⟩
 have hxw := h.low
 obtain ⟨hb0,d0,d1,d2⟩ := k0.box
 have hx0 := k0.lt
 have hne : w.heap.size ≠ x := by omega
 obtain ⟨s0,s1,s2,s3⟩ := k0.st0
 obtain ⟨vv,hcc,hff⟩ := k0.mach
 have c12 := hcc 12 _ rfl
 have f12 := hff 12
 clear hcc hff
 have K0 := hid k0
 clear h k0
 go_enter Tryz.func120,Tryz.ntmps120
 have K1 := hid (K0.out.self true)
 have hb1 := hb0
 have hx1 := hx0
 go_wp2_with fail
 clear hb1 d0 d1 d2 hx1 s0 s1 s2 s3
 refine wkx (K1.out.call (fun U h => tellTag_any h ⟨62,p,q⟩ (by show m.tot <= _;omega))) fun W2 K2 hb2 d0 d1 d2 hx2 s0 s1 s2 s3 => ?_
 go_wp2_with fail
 exact ⟨rfl,_,zq rfl,rfl,wke HE K2⟩
theorem slash_2 (h : Mach Z S x m w) (r p q : Int) (h62 : (r == 62) = false) (hn : m.tot <= 460000000) : Dz Z S x w 120 ⟨r,p,q⟩ (m.slash ⟨r,p,q⟩) := by
 have HE := hid (show (m.slash ⟨r,p,q⟩) = (({ (m.fault 12 (p)) with st := 119 } : Mc).beforeName ⟨r,p,q⟩) by simp at h62;simp [Mc.slash,h62])
 apply won h r p q;clear h;intro W0 K0;intros
 go_enter Tryz.func120,Tryz.ntmps120
 go_wp2_with fail
 refine wky K0 (fun U h => fault_any h 12 p (by show m.tot <= _;omega)) ?_;intro W1 K1;intros
 go_wp2_with fail
 refine wky K1 (fun U h => again_any 119 en119 h ⟨r,p,q⟩ (fun U W h => beforeName_any h ⟨r,p,q⟩ (by show (m.fault 12 (p)).tot <= _;have t0 := tot_fault m 12 (p);omega))) ?_;intro W2 K2;intros
 go_wp2_with fail
 exact ⟨rfl,_,zq rfl,rfl,wke HE K2⟩
theorem slash_any (h : Mach Z S x m w) (c : Ch) (hn : m.tot <= 460000000) : Dz Z S x w 120 c (m.slash c) := by
 obtain ⟨r,p,q⟩ := c
 by_cases h62 : r = 62
 · subst h62
   exact slash_1 h p q hn
 exact slash_2 h r p q (by simpa using h62) hn
end Go.Proofs.YtjjfalbngcbfaaaGreatDoor
