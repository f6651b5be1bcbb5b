import Derived.Test.YtjjfalbngcbfaaaGreatDoorZ0
import Derived.Test.YtjjfalbngcbfaaaGreatDoorZs
import Derived.Deep.RegionHeld3
set_option maxHeartbeats 4000000
set_option maxRecDepth 20000
namespace Go.Proofs.YtjjfalbngcbfaaaGreatDoor
open Go.RowKit Go.Maps
variable {Z S : Nat -> Prop} {x : Nat} {m : Mc} {w : World}
theorem rawName_t47 (h : Mach Z S x m w) (p q : Int) (hm : decide (Mc.lowL (encs (m.wait.drop 2)) = m.last.data.toList) = true) (hw : 2 <= m.wait.length) (hwl : m.wait.length <= 20000) (hls : m.last.size <= 1000000) (hn : m.tot <= 480000000) : Dz Z S x w 123 ⟨47,p,q⟩ (({ m.beg 3 79 with nm := m.last.data.toList,st := 81 } : Mc).tagName ⟨47,p,q⟩) := by
 have hbl : blk 47 = false := rfl
 have hlt : ltr 47 = false := rfl
 obtain ⟨W0,hW0,k0⟩ := Walk.start h ⟨47,p,q⟩
 have hxw := h.low
 obtain ⟨hb0,d0,d1,d2⟩ := k0.box
 have hx0 := k0.lt
 have K0 := hid k0
 obtain ⟨_,_,c4⟩ := k0.txt
 obtain ⟨U,u1,⟨v,T,h1⟩,u3⟩ := k0.ex
 have hw0 : m.wait ≠ [] := fun e => by rw [e] at hw;simp at hw
 obtain ⟨g,cap,ew,w1,w2,w3,w4,w5⟩ := wait_row h1 hw0
 have c5 := h1.cells 5 v.w rfl
 obtain ⟨n,hnn⟩ := ex (m.wait.length)
 rw [ew,hnn] at c5
 have hrow : ∀ w',Below W0.heap.size W0 w' -> ChRow (some (jd g 6)) (m.wait.drop 2) w' \/ n = 2 := fun w' bw => by
  by_cases h2 : 2 < m.wait.length
  · exact .inl ((w5 2 h2).now.below bw)
  exact .inr (by omega)
 obtain ⟨A,hA⟩ := ex ((if cap = 2 then some ((jd g 0) : Addr) else some (jd g 6)))
 have hrowA : ∀ w',Below W0.heap.size W0 w' -> ChRow A (m.wait.drop 2) w' := fun w' bw => by
  rcases hrow w' bw with h2 | h2
  · by_cases hc : cap = 2
    · intro i c9 hc9
      have h8 := (zg hc9);rw [zk] at h8;omega
    rw [jq hc] at hA;rw [<- hA];exact h2
  intro i c9 hc9;have h8 := (zg hc9);rw [zk] at h8;omega
 have HT : Hid (∀ w',Below W0.heap.size W0 w' -> Calls Tryz.prog 59 #[.slice A (n - 2) (cap - 2)] w' fun e w'' => e = jr (.string (bs (encs (m.wait.drop 2)))) /\ Below w'.heap.size w' w'') := fun w' bw => textOf_any (n - 2) (cap - 2) (hrowA w' bw) (by rw [zk,hnn]) (by omega)
 have hsz : (bs (encs (m.wait.drop 2))).size <= 100000 := by
  rw [bs_size];have := encs_len (m.wait.drop 2);rw [zk] at this;omega
 have HL : Hid (∀ w,Calls Tryz.prog 110 #[.string (bs (encs (m.wait.drop 2)))] w fun e w' => e = jr (.string (G7.lowP (bs (encs (m.wait.drop 2))))) /\ Below w.heap.size w w') := fun w => G7.lower_any _ w hsz
 have hq : ((G7.lowP (bs (encs (m.wait.drop 2)))).toList == m.last.toList) = true := by rw [ByteArray.toList_eq m.last];exact beq_low _ _ _ hm
 obtain ⟨N1,hN1⟩ := ex (bs (encs (m.wait.drop 2)))
 rw [hN1] at hq
 simp only [hN1] at HT HL
 obtain ⟨LP,hLP⟩ := ex (G7.lowP N1)
 rw [hLP] at hq
 simp only [hLP] at HL
 rw [hnn] at w1 hw
 have i1 : (2 : Int) <= (n : Int) := by omega
 have i2 : (n : Int) <= (cap : Int) := by omega
 have HW0 := hid hw0
 clear h1 u1 u3 w3 w4 w5 hrow hrowA ew hnn hN1 hLP hsz hm hw0
 clear h k0
 go_enter Tryz.func123,Tryz.ntmps123
 go_wp2_with (first | (go_at_call 118;refine smx (blank_as 47 false _ hbl) ?_) | (go_at_call 77;refine smx (letter_as 47 false _ hlt) ?_))
 go_cut [14] (fun s wc => s = .bool true /\ Walk Z S x m w.heap.size ⟨47,p,q⟩ w wc)
 case first =>
  first
   | (go_region_with (first
    | (go_at_call 118;refine smx (blank_as 47 false _ hbl) ?_)
    | (go_at_call 59;refine (HT.out _ ((Below.refl _ _).drew)).mono ?_;rintro e w2 ⟨rfl,hb2⟩;have c4b : w2.cell? ⟨x,4,none⟩ = some (.string m.last) := (hb2.cell (p := ⟨x,4,none⟩) hx0).trans c4;have hx2 : x < w2.heap.size := zo hx0 hb2.size;have B2 : Hid (Below W0.heap.size W0 w2) := ((Below.refl _ _).drew).trans hb2;clear hb2)
    | (go_at_call 110;refine (HL.out _).mono ?_;rintro e w3 ⟨rfl,hb3⟩;have c4c : w3.cell? ⟨x,4,none⟩ = some (.string m.last) := (hb3.cell (p := ⟨x,4,none⟩) hx2).trans c4b;have B3 : Hid (Below W0.heap.size W0 w3) := B2.out.trans (hb3.mono B2.out.size);clear hb3)))
   | fail
  all_goals
   go_wp2_with fail;go_meet
   case rel => exact ⟨rfl,K0.out.below B3.out⟩
 obtain ⟨rfl,kc⟩ := hcut
 have KC := hid kc
 obtain ⟨hb1,z0,z1,z2⟩ := kc.box
 have hx1 := kc.lt
 clear kc HT HL hq d0 d1 d2 c5 c4 hb0 hx0 i1 i2
 go_wp2_with fail
 refine (KC.out.call (fun U h => beg_any h 3 79 HW0.out)).mono ?_
 rintro e W1 ⟨rfl,k1⟩
 clear hb1 z0 z1 z2 hx1
 obtain ⟨_,_,y4⟩ := k1.txt
 have y4' : W1.cell? (jd x 4) = some (.string m.last) := y4
 obtain ⟨cp,V,hcv,ho,hbV⟩ := conv_str m.last W1 (by omega)
 have K1 := Walk.name k1 hbV ho
 obtain ⟨hV0,hV1,hV2,K2⟩ := K1
 obtain ⟨u10,hV0⟩ := hV0
 have hx1 := k1.lt
 have KK := hid K2
 obtain ⟨hb2,z0,z1,z2⟩ := (k1.below hbV).box
 have hne : w.heap.size ≠ x := by omega
 have HTO : Hid (({ m.beg 3 79 with nm := m.last.data.toList,st := 81 } : Mc).tot <= 500000000) := by
  have t1 := tot_beg m 3 79;have t2 : m.last.data.toList.length = m.last.size := zw;show _ <= _;unfold Mc.tot at t1 hn |-;simp only [t2];have t3 : (m.beg 3 79).nm.length = 0 := rfl;omega
 clear k1 y4 ho hbV K2
 go_wp2_with fail
 refine (KK.out.call (fun U h => again_any 81 en81 h ⟨47,p,q⟩ (fun U W h => tagName_2 h p q HTO.out))).mono ?_
 rintro e W2 ⟨rfl,k2⟩
 have P2 := hid k2.post
 clear k2
 go_wp2_with fail
 refine bodyPost_end (zq rfl) rfl ?_
 exact ⟨rfl,P2.out⟩
theorem rawName_f47 (h : Mach Z S x m w) (p q : Int) (hm : decide (Mc.lowL (encs (m.wait.drop 2)) = m.last.data.toList) = false) (hw : 2 <= m.wait.length) (hwl : m.wait.length <= 20000) (hn : m.tot <= 480000000) : Dz Z S x w 123 ⟨47,p,q⟩ (m.dataAgain ⟨47,p,q⟩) := by
 have hbl : blk 47 = false := rfl
 have hlt : ltr 47 = false := rfl
 obtain ⟨W0,hW0,k0⟩ := Walk.start h ⟨47,p,q⟩
 have hxw := h.low
 obtain ⟨hb0,d0,d1,d2⟩ := k0.box
 have hx0 := k0.lt
 have K0 := hid k0
 obtain ⟨_,_,c4⟩ := k0.txt
 obtain ⟨U,u1,⟨v,T,h1⟩,u3⟩ := k0.ex
 have hw0 : m.wait ≠ [] := fun e => by rw [e] at hw;simp at hw
 obtain ⟨g,cap,ew,w1,w2,w3,w4,w5⟩ := wait_row h1 hw0
 have c5 := h1.cells 5 v.w rfl
 obtain ⟨n,hnn⟩ := ex (m.wait.length)
 rw [ew,hnn] at c5
 have hrow : ∀ w',Below W0.heap.size W0 w' -> ChRow (some (jd g 6)) (m.wait.drop 2) w' \/ n = 2 := fun w' bw => by
  by_cases h2 : 2 < m.wait.length
  · exact .inl ((w5 2 h2).now.below bw)
  exact .inr (by omega)
 obtain ⟨A,hA⟩ := ex ((if cap = 2 then some ((jd g 0) : Addr) else some (jd g 6)))
 have hrowA : ∀ w',Below W0.heap.size W0 w' -> ChRow A (m.wait.drop 2) w' := fun w' bw => by
  rcases hrow w' bw with h2 | h2
  · by_cases hc : cap = 2
    · intro i c9 hc9
      have h8 := (zg hc9);rw [zk] at h8;omega
    rw [jq hc] at hA;rw [<- hA];exact h2
  intro i c9 hc9;have h8 := (zg hc9);rw [zk] at h8;omega
 have HT : Hid (∀ w',Below W0.heap.size W0 w' -> Calls Tryz.prog 59 #[.slice A (n - 2) (cap - 2)] w' fun e w'' => e = jr (.string (bs (encs (m.wait.drop 2)))) /\ Below w'.heap.size w' w'') := fun w' bw => textOf_any (n - 2) (cap - 2) (hrowA w' bw) (by rw [zk,hnn]) (by omega)
 have hsz : (bs (encs (m.wait.drop 2))).size <= 100000 := by
  rw [bs_size];have := encs_len (m.wait.drop 2);rw [zk] at this;omega
 have HL : Hid (∀ w,Calls Tryz.prog 110 #[.string (bs (encs (m.wait.drop 2)))] w fun e w' => e = jr (.string (G7.lowP (bs (encs (m.wait.drop 2))))) /\ Below w.heap.size w w') := fun w => G7.lower_any _ w hsz
 have hq : ((G7.lowP (bs (encs (m.wait.drop 2)))).toList == m.last.toList) = false := by rw [ByteArray.toList_eq m.last];exact beq_low _ _ _ hm
 obtain ⟨N1,hN1⟩ := ex (bs (encs (m.wait.drop 2)))
 rw [hN1] at hq
 simp only [hN1] at HT HL
 obtain ⟨LP,hLP⟩ := ex (G7.lowP N1)
 rw [hLP] at hq
 simp only [hLP] at HL
 rw [hnn] at w1 hw
 have i1 : (2 : Int) <= (n : Int) := by omega
 have i2 : (n : Int) <= (cap : Int) := by omega
 have HW0 := hid hw0
 clear h1 u1 u3 w3 w4 w5 hrow hrowA ew hnn hN1 hLP hsz hm hw0
 clear h k0
 go_enter Tryz.func123,Tryz.ntmps123
 go_wp2_with (first | (go_at_call 118;refine smx (blank_as 47 false _ hbl) ?_) | (go_at_call 77;refine smx (letter_as 47 false _ hlt) ?_))
 go_cut [14] (fun s wc => s = .bool false /\ Walk Z S x m w.heap.size ⟨47,p,q⟩ w wc)
 case first =>
  first
   | (go_region_with (first
    | (go_at_call 118;refine smx (blank_as 47 false _ hbl) ?_)
    | (go_at_call 59;refine (HT.out _ ((Below.refl _ _).drew)).mono ?_;rintro e w2 ⟨rfl,hb2⟩;have c4b : w2.cell? ⟨x,4,none⟩ = some (.string m.last) := (hb2.cell (p := ⟨x,4,none⟩) hx0).trans c4;have hx2 : x < w2.heap.size := zo hx0 hb2.size;have B2 : Hid (Below W0.heap.size W0 w2) := ((Below.refl _ _).drew).trans hb2;clear hb2)
    | (go_at_call 110;refine (HL.out _).mono ?_;rintro e w3 ⟨rfl,hb3⟩;have c4c : w3.cell? ⟨x,4,none⟩ = some (.string m.last) := (hb3.cell (p := ⟨x,4,none⟩) hx2).trans c4b;have B3 : Hid (Below W0.heap.size W0 w3) := B2.out.trans (hb3.mono B2.out.size);clear hb3)))
   | fail
  all_goals
   go_wp2_with fail;go_meet
   case rel => exact ⟨rfl,K0.out.below B3.out⟩
 obtain ⟨rfl,kc⟩ := hcut
 have KC := hid kc
 obtain ⟨hb1,z0,z1,z2⟩ := kc.box
 have hx1 := kc.lt
 clear kc HT HL hq d0 d1 d2 c5 c4 hb0 hx0 i1 i2
 go_wp2_with fail
 refine (KC.out.call (fun U h => dataAgain_any h ⟨47,p,q⟩ (by omega))).mono ?_
 rintro e W1 ⟨rfl,k1⟩
 have P1 := hid k1.post
 clear k1
 go_wp2_with fail
 refine bodyPost_end (zq rfl) rfl ?_
 exact ⟨rfl,P1.out⟩
end Go.Proofs.YtjjfalbngcbfaaaGreatDoor
