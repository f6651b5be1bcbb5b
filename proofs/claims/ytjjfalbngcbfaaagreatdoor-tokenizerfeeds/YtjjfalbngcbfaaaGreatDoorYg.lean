import Derived.Test.YtjjfalbngcbfaaaGreatDoorZ0
import Derived.Test.YtjjfalbngcbfaaaGreatDoorZe
import Derived.Test.YtjjfalbngcbfaaaGreatDoorYe
import Derived.Deep.DeepCutAuto
import Derived.Test.YtjjfalbngcbfaaaGreatDoorYf
set_option maxHeartbeats 1000000
set_option maxRecDepth 10000
namespace Go.Proofs.YtjjfalbngcbfaaaGreatDoor.G6
open Go.RowKit
variable {s : ByteArray} {L : List Rf} {attr : Bool}
def bs (hex : Bool) : Nat := if hex = true then 16 else 10
def rdig (hex : Bool) (b : Nat) : Int := if dig b < bs hex then (dig b : Int) else -1
theorem rdigit_any (b : Nat) (hex : Bool) (w : World) (hb : b <= 255) : Calls Tryz.prog 133 #[.int .u8 (b : Int),.bool hex] w fun e w' => e = jr (ji (rdig hex b)) /\ w' = w := by
 cases hex
 all_goals
  go_enter Tryz.func133,Tryz.ntmps133;go_wp2
  all_goals
   go_ret;refine ⟨ret_int ?_,rfl⟩;unfold rdig bs dig
   repeat' split
   all_goals first | omega | (simp at *;omega) | simp_all
def hexB (s : ByteArray) : Bool := decide (s.data.toList[2]? = some 120 \/ s.data.toList[2]? = some 88)
def atEnd (s : ByteArray) (k base i a : Nat) : Prop := (digs base (s.data.toList.drop k)).length = i /\ accN base (digs base (s.data.toList.drop k)) = a
theorem numB_of {k base i a : Nat} (h : atEnd s k base i a) : numB k base s.data.toList = if i = 0 then (0,0,[20]) else
 if [59].isPrefixOf (s.data.toList.drop (k + i)) = true then ((chrP (a : Nat)).1,k + i + 1,if (chrP (a : Nat)).2 = 0 then [] else [(chrP (a : Nat)).2])
 else ((chrP (a : Nat)).1,k + i,(if (chrP (a : Nat)).2 = 0 then [] else [(chrP (a : Nat)).2]) ++ [18]) := by
 unfold numB
 rw [h.1,h.2]
theorem semi_at (s : ByteArray) (n : Nat) (h : n < s.size) : [59].isPrefixOf (s.data.toList.drop n) = ((s[n].toNat : Int) == 59) := by
 have h0 : n < s.data.toList.length := by rw [zw];exact h
 rw [List.drop_eq_getElem_cons h0]
 show ((59 : UInt8) == s[n] && true) = _
 rw [Bool.and_true,Bool.eq_iff_iff,beq_iff_eq,beq_iff_eq]
 constructor
 · intro e;rw [<- e];rfl
 intro e;exact UInt8.toNat_inj.1 (by show 59 = s[n].toNat;omega)
theorem semi_end (s : ByteArray) (n : Nat) (h : s.size <= n) : [59].isPrefixOf (s.data.toList.drop n) = false := by
 rw [List.drop_eq_nil_of_le (by rw [zw];exact h)];rfl
theorem rnum_any (s : ByteArray) (w : World) (h2 : 2 <= s.size) (hs : s.size <= 1000000) :
 Calls Tryz.prog 95 #[.string s] w fun e w' => Refd w .i64 (numbP s.data.toList) e w' := by
 have HS : Hid (s.data.toList.length = s.size) := zw
 obtain ⟨hb,hbx⟩ := ex (hexB s)
 have HX : Hid (numbP s.data.toList = if hb = true then numB 3 16 s.data.toList else numB 2 10 s.data.toList) := by
  show _ = _;unfold numbP;rw [<- hbx];unfold hexB;by_cases h : s.data.toList[2]? = some 120 \/ s.data.toList[2]? = some 88
  · rw [jp h,jp (zm h)]
  rw [jq h,jq (by simp only [decide_eq_true_eq];exact h)]
 have HXl : Hid (hb = true -> 3 <= s.size) := fun e => by
  rw [<- hbx] at e;unfold hexB at e;simp only [decide_eq_true_eq] at e;by_cases hl : 3 <= s.size
  · exact hl
  rw [List.getElem?_eq_none (by rw [HS.out];omega)] at e;simp at e
 have HXB := hid hbx
 clear hbx
 go_enter Tryz.func95,Tryz.ntmps95
 go_upto_region 2 with fail
 go_cut [6] (fun sv wc => sv = .bool hb /\ wc = w)
 case first =>
  have hx := HXB.out;unfold hexB at hx;by_cases hlt : 2 < s.size
  · by_cases h120 : (s[2].toNat : Int) = 120
    · have : hb = true := by rw [<- hx];exact zm (.inl ((byte_at s 2 hlt 120).2 h120))
      subst this;clear hx;go_wp2_with fail;go_meet;exact ⟨rfl,rfl⟩
    by_cases h88 : (s[2].toNat : Int) = 88
    · have : hb = true := by rw [<- hx];exact zm (.inr ((byte_at s 2 hlt 88).2 h88))
      subst this;have h120' := beq_false_of_ne h120;clear hx;go_wp2_with fail;go_meet;exact ⟨rfl,rfl⟩
    have : hb = false := by
     rw [<- hx];apply zn;rintro (e | e)
     · exact h120 ((byte_at s 2 hlt 120).1 e)
     exact h88 ((byte_at s 2 hlt 88).1 e)
    subst this;have h120' := beq_false_of_ne h120;have h88' := beq_false_of_ne h88;clear hx;go_wp2_with fail;go_meet;exact ⟨rfl,rfl⟩
  have : hb = false := by
   rw [<- hx];apply zn;rw [List.getElem?_eq_none (by rw [HS.out];omega)];simp
  subst this;clear hx;go_wp2_with fail;go_meet;exact ⟨rfl,rfl⟩
 obtain ⟨rfl,hw'⟩ := hcut
 obtain rfl := hw'.symm
 clear HXB
 cases hb
 · have HN := hid HX.out
   go_wp2_with fail;go_loopw [5,9] (fun av nv wr => ∃ (i : Nat),av = ji (2 + i : Int) /\ 2 + i <= s.size /\ nv = ji (accN 10 ((s.data.toList.drop 2).take i) : Nat) /\ ((s.data.toList.drop 2).take i).all (fun b => decide (dig b.toNat < 10)) = true /\ wr = w) (fun av _ _ => s.size - (intOf av).toNat)
   case atStart => exact ⟨0,rfl,h2,rfl,rfl,rfl⟩
   obtain ⟨i,rfl,hi,rfl,hall,hw'⟩ := hrel;obtain rfl := hw'.symm;have HA := hid hall;have hle := accN_le 10 ((s.data.toList.drop 2).take i);obtain ⟨a,ha⟩ := ex (accN 10 ((s.data.toList.drop 2).take i));rw [ha] at hle |-;have HNa := hid ha;have hli : ((s.data.toList.drop 2).take i).length = i := by
    rw [List.length_take,zk,HS.out];omega
   have HLi := hid hli;clear hall ha hli;by_cases hlt : 2 + i < s.size
   · have hat : (s.data.toList.drop 2)[i]? = some s[2 + i] := by rw [List.getElem?_drop];exact at_i s (2 + i) hlt
     have hdg := fun w => rdigit_any (s[2 + i].toNat) false w (by have := UInt8.toNat_lt s[2 + i];omega);have hdl := dig_le s[2 + i].toNat;by_cases hdb : dig s[2 + i].toNat < 10
     · have hrd : rdig false s[2 + i].toNat = (dig s[2 + i].toNat : Int) := by unfold rdig;rw [jp (show dig s[2 + i].toNat < bs false from hdb)]
       rw [hrd] at hdg;have HSn : Hid ((s.data.toList.drop 2).take (i + 1) = (s.data.toList.drop 2).take i ++ [s[2 + i]]) := by
        show _ = _;have hl2 : i < (s.data.toList.drop 2).length := by rw [zk,HS.out];omega
        rw [<- List.take_append_getElem hl2];congr 2;rw [zy hl2] at hat;exact Option.some.inj hat
       obtain ⟨d,hd⟩ := ex (dig s[2 + i].toNat);rw [hd] at hdg hdl hdb;have HD := hid hd;have hmul : 10 * a <= 16777216 * 16 := by omega
       clear hd hat hrd;go_wp2_with (go_at_call 133;refine smx (hdg _) ?_)
       all_goals
        refine ⟨⟨i + 1,by go_num,by omega,?_,?_,by first | rfl | trivial⟩,by simp [intOf];omega⟩
        · rw [HSn.out,accN_snoc,HNa.out,HD.out]
          congr 1
          first | omega | (split <;> omega)
        rw [HSn.out,List.all_append,HA.out];simp [HD.out,hdb]
     have hrd : rdig false s[2 + i].toNat = -1 := by unfold rdig;rw [jq (show ¬ dig s[2 + i].toNat < bs false from hdb)]
     rw [hrd] at hdg;have hE : atEnd s 2 10 i a := by
      have e := digs_stop HA.out hat hdb;exact ⟨by rw [e];exact HLi.out,by rw [e];exact HNa.out⟩
     have HP : Hid (numB 2 10 s.data.toList = _) := numB_of hE;clear hE hat hrd hdb hdl;by_cases hi0 : i = 0
     · subst hi0
       have hdg2 : ∀ w,Calls Tryz.prog 133 #[.int .u8 ((s[2]).toNat : Int),.bool false] w fun e w' => e = jr (ji (-1)) /\ w' = w := hdg;clear hdg;have HP2 : Hid (numB 2 10 s.data.toList = (0,0,[20])) := by show _ = _;rw [HP.out,jp rfl]
       clear HP;go_wp2_with (go_at_call 133;refine smx (hdg2 _) ?_);go_ret3;rw [HN.out,HP2.out];exact ⟨_,rfl,cds_one _ _ _ (zb _),ze _ _⟩
     rw [jq hi0] at HP;have hne : ((2 : Int) + (i : Int) == 2) = false := beq_false_of_ne (by omega);obtain ⟨rc,hrc⟩ := ex (chrP (a : Nat));have k9 := fun w => rnumber_any (a : Nat) w (by omega);rw [hrc] at k9 HP;obtain ⟨r,c⟩ := rc;simp only at k9 HP;clear hrc;rw [semi_at s (2 + i) hlt] at HP;by_cases h59 : (s[2 + i].toNat : Int) = 59
     · rw [jp (by rw [h59];rfl)] at HP
       rw [h59] at hdg;by_cases hc0 : c = 0
       · have HP2 : Hid (numB 2 10 s.data.toList = (r,2 + i + 1,[])) := by show _ = _;rw [HP.out,jp hc0] <;> rfl
         subst hc0;clear HP;go_wp2_with (go_at_call 133;refine smx (hdg _) ?_);refine (k9 _).mono ?_;rintro e w1 ⟨rfl,b1⟩;have HB1 := hid b1;clear b1;go_wp2_with fail;go_ret3;rw [HN.out,HP2.out];exact ⟨_,rfl,cds_nil _ _,HB1.out⟩
       have HP2 : Hid (numB 2 10 s.data.toList = (r,2 + i + 1,[c])) := by show _ = _;rw [HP.out,jq hc0] <;> rfl
       have hc1 : (c != 0) = true := by rw [bne_iff_ne];exact hc0
       clear HP;go_wp2_with (go_at_call 133;refine smx (hdg _) ?_);refine (k9 _).mono ?_;rintro e w1 ⟨rfl,b1⟩;obtain ⟨v1,w2,e1,C1,b2⟩ := cds_app (cds_nil w1 w.heap.size) c b1.size (by decide);have HB1 := yc C1 (b1.trans b2);clear b1 b2 C1;go_wp2_with (at_builtin;refine list_append_eq rfl _ _ 92 92 rfl _ _ rfl rfl e1 ?_);go_ret3;rw [HN.out,HP2.out];exact ⟨_,rfl,HB1.out⟩
     have h59' := beq_false_of_ne h59;rw [jq (by rw [h59'];simp)] at HP;by_cases hc0 : c = 0
     · have HP2 : Hid (numB 2 10 s.data.toList = (r,2 + i,[18])) := by show _ = _;rw [HP.out,jp hc0] <;> rfl
       subst hc0;clear HP;go_wp2_with (go_at_call 133;refine smx (hdg _) ?_);refine (k9 _).mono ?_;rintro e w1 ⟨rfl,b1⟩;obtain ⟨v1,w2,e1,C1,b2⟩ := cds_app (cds_nil w1 w.heap.size) 18 b1.size (by decide);have HB1 := yc C1 (b1.trans b2);clear b1 b2 C1;go_wp2_with (at_builtin;refine list_append_eq rfl _ _ 92 92 rfl _ _ rfl rfl e1 ?_);go_ret3;rw [HN.out,HP2.out];exact ⟨_,rfl,HB1.out⟩
     have HP2 : Hid (numB 2 10 s.data.toList = (r,2 + i,[c,18])) := by show _ = _;rw [HP.out,jq hc0] <;> rfl
     have hc1 : (c != 0) = true := by rw [bne_iff_ne];exact hc0
     clear HP;go_wp2_with (go_at_call 133;refine smx (hdg _) ?_);refine (k9 _).mono ?_;rintro e w1 ⟨rfl,b1⟩;obtain ⟨v1,w2,e1,C1,b2⟩ := cds_app (cds_nil w1 w.heap.size) c b1.size (by decide);obtain ⟨v2,w3,e2,C2,b3⟩ := cds_app C1 18 (b1.trans b2).size (by simp);have HB1 : Hid (Cds w3 w.heap.size v2 [c,18] /\ Below w.heap.size w w3) := ⟨C2,(b1.trans b2).trans b3⟩;have E2 := hid e2;clear b1 b2 b3 C1 C2 e2;go_upto_region 16 with (at_builtin;refine list_append_eq rfl _ _ 92 92 rfl _ _ rfl rfl e1 ?_)
     have e2 := E2.out;clear e1;go_wp2_with (at_builtin;refine list_append_eq rfl _ _ 92 92 rfl _ _ rfl rfl e2 ?_);go_ret3;rw [HN.out,HP2.out];exact ⟨_,rfl,HB1.out⟩
   have hie : 2 + i = s.size := by omega
   have hE : atEnd s 2 10 i a := by
    have e : digs 10 (s.data.toList.drop 2) = (s.data.toList.drop 2).take i := by
     have h1 := HA.out;rw [List.take_of_length_le (by rw [zk,HS.out];omega)] at h1 |-;exact digs_all h1
    exact ⟨by rw [e];exact HLi.out,by rw [e];exact HNa.out⟩
   have HP : Hid (numB 2 10 s.data.toList = _) := numB_of hE;clear hE;by_cases hi0 : i = 0
   · subst hi0
     have hsz : s.size = 2 := by omega
     have HP2 : Hid (numB 2 10 s.data.toList = (0,0,[20])) := by show _ = _;rw [HP.out,jp rfl]
     clear HP;go_wp2_with fail;go_ret3;rw [HN.out,HP2.out];exact ⟨_,rfl,cds_one _ _ _ (zb _),ze _ _⟩
   rw [jq hi0] at HP;have hne : ((2 : Int) + (i : Int) == 2) = false := beq_false_of_ne (by omega);obtain ⟨rc,hrc⟩ := ex (chrP (a : Nat));have k9 := fun w => rnumber_any (a : Nat) w (by omega);rw [hrc] at k9 HP;obtain ⟨r,c⟩ := rc;simp only at k9 HP;clear hrc;rw [semi_end s (2 + i) (by omega),jq (by simp)] at HP;by_cases hc0 : c = 0
   · have HP2 : Hid (numB 2 10 s.data.toList = (r,2 + i,[18])) := by show _ = _;rw [HP.out,jp hc0] <;> rfl
     subst hc0;clear HP;go_wp2_with fail;refine (k9 _).mono ?_;rintro e w1 ⟨rfl,b1⟩;obtain ⟨v1,w2,e1,C1,b2⟩ := cds_app (cds_nil w1 w.heap.size) 18 b1.size (by decide);have HB1 := yc C1 (b1.trans b2);clear b1 b2 C1;go_wp2_with (at_builtin;refine list_append_eq rfl _ _ 92 92 rfl _ _ rfl rfl e1 ?_);go_ret3;rw [HN.out,HP2.out];exact ⟨_,rfl,HB1.out⟩
   have HP2 : Hid (numB 2 10 s.data.toList = (r,2 + i,[c,18])) := by show _ = _;rw [HP.out,jq hc0] <;> rfl
   have hc1 : (c != 0) = true := by rw [bne_iff_ne];exact hc0
   clear HP;go_wp2_with fail;refine (k9 _).mono ?_;rintro e w1 ⟨rfl,b1⟩;obtain ⟨v1,w2,e1,C1,b2⟩ := cds_app (cds_nil w1 w.heap.size) c b1.size (by decide);obtain ⟨v2,w3,e2,C2,b3⟩ := cds_app C1 18 (b1.trans b2).size (by simp);have HB1 : Hid (Cds w3 w.heap.size v2 [c,18] /\ Below w.heap.size w w3) := ⟨C2,(b1.trans b2).trans b3⟩;have E2 := hid e2;clear b1 b2 b3 C1 C2 e2;go_upto_region 16 with (at_builtin;refine list_append_eq rfl _ _ 92 92 rfl _ _ rfl rfl e1 ?_)
   have e2 := E2.out;clear e1;go_wp2_with (at_builtin;refine list_append_eq rfl _ _ 92 92 rfl _ _ rfl rfl e2 ?_);go_ret3;rw [HN.out,HP2.out];exact ⟨_,rfl,HB1.out⟩
 have HN := hid HX.out
 go_wp2_with fail
 go_loopw [5,9] (fun av nv wr => ∃ (i : Nat),av = ji (3 + i : Int) /\ 3 + i <= s.size /\ nv = ji (accN 16 ((s.data.toList.drop 3).take i) : Nat) /\ ((s.data.toList.drop 3).take i).all (fun b => decide (dig b.toNat < 16)) = true /\ wr = w) (fun av _ _ => s.size - (intOf av).toNat)
 case atStart => exact ⟨0,rfl,HXl.out (by trivial),rfl,rfl,rfl⟩
 obtain ⟨i,rfl,hi,rfl,hall,hw'⟩ := hrel
 obtain rfl := hw'.symm
 have HA := hid hall
 have hle := accN_le 16 ((s.data.toList.drop 3).take i)
 obtain ⟨a,ha⟩ := ex (accN 16 ((s.data.toList.drop 3).take i))
 rw [ha] at hle |-
 have HNa := hid ha
 have hli : ((s.data.toList.drop 3).take i).length = i := by
  rw [List.length_take,zk,HS.out];omega
 have HLi := hid hli
 clear hall ha hli
 by_cases hlt : 3 + i < s.size
 · have hat : (s.data.toList.drop 3)[i]? = some s[3 + i] := by rw [List.getElem?_drop];exact at_i s (3 + i) hlt
   have hdg := fun w => rdigit_any (s[3 + i].toNat) true w (by have := UInt8.toNat_lt s[3 + i];omega);have hdl := dig_le s[3 + i].toNat;by_cases hdb : dig s[3 + i].toNat < 16
   · have hrd : rdig true s[3 + i].toNat = (dig s[3 + i].toNat : Int) := by unfold rdig;rw [jp (show dig s[3 + i].toNat < bs true from hdb)]
     rw [hrd] at hdg;have HSn : Hid ((s.data.toList.drop 3).take (i + 1) = (s.data.toList.drop 3).take i ++ [s[3 + i]]) := by
      show _ = _;have hl2 : i < (s.data.toList.drop 3).length := by rw [zk,HS.out];omega
      rw [<- List.take_append_getElem hl2];congr 2;rw [zy hl2] at hat;exact Option.some.inj hat
     obtain ⟨d,hd⟩ := ex (dig s[3 + i].toNat);rw [hd] at hdg hdl hdb;have HD := hid hd;have hmul : 16 * a <= 16777216 * 16 := by omega
     clear hd hat hrd;go_wp2_with (go_at_call 133;refine smx (hdg _) ?_)
     all_goals
      refine ⟨⟨i + 1,by go_num,by omega,?_,?_,by first | rfl | trivial⟩,by simp [intOf];omega⟩
      · rw [HSn.out,accN_snoc,HNa.out,HD.out]
        congr 1
        first | omega | (split <;> omega)
      rw [HSn.out,List.all_append,HA.out];simp [HD.out,hdb]
   have hrd : rdig true s[3 + i].toNat = -1 := by unfold rdig;rw [jq (show ¬ dig s[3 + i].toNat < bs true from hdb)]
   rw [hrd] at hdg;have hE : atEnd s 3 16 i a := by
    have e := digs_stop HA.out hat hdb;exact ⟨by rw [e];exact HLi.out,by rw [e];exact HNa.out⟩
   have HP : Hid (numB 3 16 s.data.toList = _) := numB_of hE;clear hE hat hrd hdb hdl;by_cases hi0 : i = 0
   · subst hi0
     have hdg2 : ∀ w,Calls Tryz.prog 133 #[.int .u8 ((s[3]).toNat : Int),.bool true] w fun e w' => e = jr (ji (-1)) /\ w' = w := hdg;clear hdg;have HP2 : Hid (numB 3 16 s.data.toList = (0,0,[20])) := by show _ = _;rw [HP.out,jp rfl]
     clear HP;go_wp2_with (go_at_call 133;refine smx (hdg2 _) ?_);go_ret3;rw [HN.out,HP2.out];exact ⟨_,rfl,cds_one _ _ _ (zb _),ze _ _⟩
   rw [jq hi0] at HP;have hne : ((3 : Int) + (i : Int) == 3) = false := beq_false_of_ne (by omega);obtain ⟨rc,hrc⟩ := ex (chrP (a : Nat));have k9 := fun w => rnumber_any (a : Nat) w (by omega);rw [hrc] at k9 HP;obtain ⟨r,c⟩ := rc;simp only at k9 HP;clear hrc;rw [semi_at s (3 + i) hlt] at HP;by_cases h59 : (s[3 + i].toNat : Int) = 59
   · rw [jp (by rw [h59];rfl)] at HP
     rw [h59] at hdg;by_cases hc0 : c = 0
     · have HP2 : Hid (numB 3 16 s.data.toList = (r,3 + i + 1,[])) := by show _ = _;rw [HP.out,jp hc0] <;> rfl
       subst hc0;clear HP;go_wp2_with (go_at_call 133;refine smx (hdg _) ?_);refine (k9 _).mono ?_;rintro e w1 ⟨rfl,b1⟩;have HB1 := hid b1;clear b1;go_wp2_with fail;go_ret3;rw [HN.out,HP2.out];exact ⟨_,rfl,cds_nil _ _,HB1.out⟩
     have HP2 : Hid (numB 3 16 s.data.toList = (r,3 + i + 1,[c])) := by show _ = _;rw [HP.out,jq hc0] <;> rfl
     have hc1 : (c != 0) = true := by rw [bne_iff_ne];exact hc0
     clear HP;go_wp2_with (go_at_call 133;refine smx (hdg _) ?_);refine (k9 _).mono ?_;rintro e w1 ⟨rfl,b1⟩;obtain ⟨v1,w2,e1,C1,b2⟩ := cds_app (cds_nil w1 w.heap.size) c b1.size (by decide);have HB1 := yc C1 (b1.trans b2);clear b1 b2 C1;go_wp2_with (at_builtin;refine list_append_eq rfl _ _ 92 92 rfl _ _ rfl rfl e1 ?_);go_ret3;rw [HN.out,HP2.out];exact ⟨_,rfl,HB1.out⟩
   have h59' := beq_false_of_ne h59;rw [jq (by rw [h59'];simp)] at HP;by_cases hc0 : c = 0
   · have HP2 : Hid (numB 3 16 s.data.toList = (r,3 + i,[18])) := by show _ = _;rw [HP.out,jp hc0] <;> rfl
     subst hc0;clear HP;go_wp2_with (go_at_call 133;refine smx (hdg _) ?_);refine (k9 _).mono ?_;rintro e w1 ⟨rfl,b1⟩;obtain ⟨v1,w2,e1,C1,b2⟩ := cds_app (cds_nil w1 w.heap.size) 18 b1.size (by decide);have HB1 := yc C1 (b1.trans b2);clear b1 b2 C1;go_wp2_with (at_builtin;refine list_append_eq rfl _ _ 92 92 rfl _ _ rfl rfl e1 ?_);go_ret3;rw [HN.out,HP2.out];exact ⟨_,rfl,HB1.out⟩
   have HP2 : Hid (numB 3 16 s.data.toList = (r,3 + i,[c,18])) := by show _ = _;rw [HP.out,jq hc0] <;> rfl
   have hc1 : (c != 0) = true := by rw [bne_iff_ne];exact hc0
   clear HP;go_wp2_with (go_at_call 133;refine smx (hdg _) ?_);refine (k9 _).mono ?_;rintro e w1 ⟨rfl,b1⟩;obtain ⟨v1,w2,e1,C1,b2⟩ := cds_app (cds_nil w1 w.heap.size) c b1.size (by decide);obtain ⟨v2,w3,e2,C2,b3⟩ := cds_app C1 18 (b1.trans b2).size (by simp);have HB1 : Hid (Cds w3 w.heap.size v2 [c,18] /\ Below w.heap.size w w3) := ⟨C2,(b1.trans b2).trans b3⟩;have E2 := hid e2;clear b1 b2 b3 C1 C2 e2;go_upto_region 16 with (at_builtin;refine list_append_eq rfl _ _ 92 92 rfl _ _ rfl rfl e1 ?_)
   have e2 := E2.out;clear e1;go_wp2_with (at_builtin;refine list_append_eq rfl _ _ 92 92 rfl _ _ rfl rfl e2 ?_);go_ret3;rw [HN.out,HP2.out];exact ⟨_,rfl,HB1.out⟩
 have hie : 3 + i = s.size := by omega
 have hE : atEnd s 3 16 i a := by
  have e : digs 16 (s.data.toList.drop 3) = (s.data.toList.drop 3).take i := by
   have h1 := HA.out;rw [List.take_of_length_le (by rw [zk,HS.out];omega)] at h1 |-;exact digs_all h1
  exact ⟨by rw [e];exact HLi.out,by rw [e];exact HNa.out⟩
 have HP : Hid (numB 3 16 s.data.toList = _) := numB_of hE
 clear hE
 by_cases hi0 : i = 0
 · subst hi0
   have hsz : s.size = 3 := by omega
   have HP2 : Hid (numB 3 16 s.data.toList = (0,0,[20])) := by show _ = _;rw [HP.out,jp rfl]
   clear HP;go_wp2_with fail;go_ret3;rw [HN.out,HP2.out];exact ⟨_,rfl,cds_one _ _ _ (zb _),ze _ _⟩
 rw [jq hi0] at HP
 have hne : ((3 : Int) + (i : Int) == 3) = false := beq_false_of_ne (by omega)
 obtain ⟨rc,hrc⟩ := ex (chrP (a : Nat))
 have k9 := fun w => rnumber_any (a : Nat) w (by omega)
 rw [hrc] at k9 HP
 obtain ⟨r,c⟩ := rc
 simp only at k9 HP
 clear hrc
 rw [semi_end s (3 + i) (by omega),jq (by simp)] at HP
 by_cases hc0 : c = 0
 · have HP2 : Hid (numB 3 16 s.data.toList = (r,3 + i,[18])) := by show _ = _;rw [HP.out,jp hc0] <;> rfl
   subst hc0;clear HP;go_wp2_with fail;refine (k9 _).mono ?_;rintro e w1 ⟨rfl,b1⟩;obtain ⟨v1,w2,e1,C1,b2⟩ := cds_app (cds_nil w1 w.heap.size) 18 b1.size (by decide);have HB1 := yc C1 (b1.trans b2);clear b1 b2 C1;go_wp2_with (at_builtin;refine list_append_eq rfl _ _ 92 92 rfl _ _ rfl rfl e1 ?_);go_ret3;rw [HN.out,HP2.out];exact ⟨_,rfl,HB1.out⟩
 have HP2 : Hid (numB 3 16 s.data.toList = (r,3 + i,[c,18])) := by show _ = _;rw [HP.out,jq hc0] <;> rfl
 have hc1 : (c != 0) = true := by rw [bne_iff_ne];exact hc0
 clear HP
 go_wp2_with fail
 refine (k9 _).mono ?_
 rintro e w1 ⟨rfl,b1⟩
 obtain ⟨v1,w2,e1,C1,b2⟩ := cds_app (cds_nil w1 w.heap.size) c b1.size (by decide)
 obtain ⟨v2,w3,e2,C2,b3⟩ := cds_app C1 18 (b1.trans b2).size (by simp)
 have HB1 : Hid (Cds w3 w.heap.size v2 [c,18] /\ Below w.heap.size w w3) := ⟨C2,(b1.trans b2).trans b3⟩
 have E2 := hid e2
 clear b1 b2 b3 C1 C2 e2
 go_upto_region 16 with (at_builtin;refine list_append_eq rfl _ _ 92 92 rfl _ _ rfl rfl e1 ?_)
 have e2 := E2.out
 clear e1
 go_wp2_with (at_builtin;refine list_append_eq rfl _ _ 92 92 rfl _ _ rfl rfl e2 ?_)
 go_ret3
 rw [HN.out,HP2.out]
 exact ⟨_,rfl,HB1.out⟩
theorem drop_at (s : ByteArray) (i : Nat) (h : i < s.size) : s.data.toList.drop i = s[i] :: s.data.toList.drop (i + 1) := by
 have h0 : i < s.data.toList.length := by rw [zw];exact h
 exact List.drop_eq_getElem_cons h0
theorem alnum_any (b : Nat) (w : World) : Calls Tryz.prog 99 #[.int .u8 (b : Int)] w fun e w' => e = jr (.bool (wordyP b)) /\ w' = w := by
 go_enter Tryz.func99,Tryz.ntmps99
 go_wp2
 all_goals
  go_ret;refine ⟨ret_bool ?_,rfl⟩;unfold wordyP
  first | (symm;apply zm;omega) | (symm;apply zn;omega) | (rw [Bool.eq_iff_iff];simp;omega)
theorem ref_amp (h1 : 1 <= s.size) (h0 : (s[0].toNat : Int) = 38) (hno : ¬ ∃ h : 1 < s.size,(s[1].toNat : Int) = 35) : refP L attr s.data.toList = namedP L attr (s.data.toList.drop 1) := by
 have e0 : s[0] = 38 := UInt8.toNat_inj.1 (by show s[0].toNat = 38;omega)
 unfold refP
 rw [jq,jp]
 · rw [list1 s h1,e0];rfl
 by_cases h2 : 2 <= s.size
 · rw [list2 s h2]
   simp only [List.isPrefixOf,Bool.and_eq_true,beq_iff_eq];rintro ⟨_,e,_⟩;exact hno ⟨by omega,by rw [<- e];rfl⟩
 have hl := list1 s h1
 have hd : s.data.toList.drop 1 = [] := List.drop_eq_nil_of_le (by rw [zw];show s.size <= 1;omega)
 rw [hl,hd]
 simp [List.isPrefixOf]
theorem ref_num35 (h2 : 2 <= s.size) (h0 : (s[0].toNat : Int) = 38) (h1 : (s[1].toNat : Int) = 35) : refP L attr s.data.toList = numbP s.data.toList := by
 have e0 : s[0] = 38 := UInt8.toNat_inj.1 (by show s[0].toNat = 38;omega)
 have e1 : s[1] = 35 := UInt8.toNat_inj.1 (by show s[1].toNat = 35;omega)
 unfold refP
 rw [jp]
 rw [list2 s h2,e0,e1];rfl
theorem ref_not (h1 : 1 <= s.size) (h0 : ¬ (s[0].toNat : Int) = 38) : refP L attr s.data.toList = (0,0,[]) := by
 have e0 : ¬ (38 : UInt8) = s[0] := fun e => h0 (by rw [<- e];rfl)
 unfold refP
 rw [list1 s h1,jq (by simp [List.isPrefixOf,e0]),jq (by simp [List.isPrefixOf,e0])]
theorem goesOn_at (s : ByteArray) (n : Nat) : goesOnP ((s.data.toList.drop 1).drop n) = if h : n + 1 < s.size then ((s[n + 1].toNat : Int) == 61 || wordyP s[n + 1].toNat) else false := by
 rw [List.drop_drop,Nat.add_comm 1 n]
 by_cases h : n + 1 < s.size
 · rw [dif_pos h,drop_at s (n + 1) h]
   show (s[n + 1].toNat == 61 || _) = _;congr 1;rw [Bool.eq_iff_iff];simp;omega
 rw [dif_neg h,List.drop_eq_nil_of_le (by rw [zw];show s.size <= n + 1;omega)]
 rfl
theorem named_of {l : jl} {r : Int} {z : Nat} (hbt : best L l l.length = (r,z)) (attr : Bool) : namedP L attr l = if z = 0 then (if begunP L l = true then (0,0,[19]) else (0,0,[])) else if l[z - 1]? = some 59 then (r,1 + z,[]) else if (attr && goesOnP (l.drop z)) = true then (0,0,[]) else (r,1 + z,[18]) := by
 unfold namedP
 rw [hbt]
theorem rone_named (A : Api L) (s : ByteArray) (attr : Bool) (w : World) (h1 : 1 <= s.size) (hs : s.size <= 1000000) (h0 : (s[0].toNat : Int) = 38) (hno : ¬ ∃ h : 1 < s.size,(s[1].toNat : Int) = 35) :
 Calls Tryz.prog 63 #[.string s,.bool attr] w fun e w' => Refd w .i64 (namedP L attr (s.data.toList.drop 1)) e w' := by
 have HA := hid A
 have hlen : s.data.toList.length = s.size := zw
 have hsz : (s.extract 1 s.size).size = s.size - 1 := by simp [ByteArray.size_extract]
 have hd := bytes_drop s 1
 have hse : s.toList.isEmpty = false := by rw [ByteArray.toList_eq,list1 s h1];rfl
 have hse2 : ¬ s.toList = [] := by rw [ByteArray.toList_eq,list1 s h1];simp
 have HD : Hid ((s.extract 1 s.size).data.toList = s.data.toList.drop 1 /\ (s.extract 1 s.size).size = s.size - 1 /\ (s.data.toList.drop 1).length = s.size - 1) := ⟨hd,hsz,by rw [zk,hlen]⟩
 have HL := hid hlen
 clear hlen hsz hd A
 go_enter Tryz.func63,Tryz.ntmps63
 go_upto_region 3 with fail
 go_cut [25] (fun sv wc => sv = .bool false /\ wc = w)
 case first =>
  by_cases hl1 : 1 < s.size
  · have h35 : ((s[1].toNat : Int) == 35) = false := beq_false_of_ne fun e => hno ⟨hl1,e⟩
    clear hno;go_wp2_with fail;go_meet;exact ⟨rfl,rfl⟩
  clear hno;go_wp2_with fail;go_meet;exact ⟨rfl,rfl⟩
 obtain ⟨rfl,hw'⟩ := hcut
 obtain rfl := hw'.symm
 clear hno hse hse2 hw'
 go_wp2_with fail
 refine (HA.out.refs _).mono ?_
 rintro e w1 ⟨rfl,hr1,b1,_⟩
 have hnm := names_any (w := w1) 78 78 hr1 HA.out.len (by decide)
 have HB1 := hid b1
 clear hr1 b1
 go_wp2_with fail
 refine hnm.mono ?_
 rintro e w2 ⟨ao,nn,cp,rfl,hnn,hrow,b2⟩
 have hnl : nn <= 100000 := by
  rw [<- hnn,all_len];have := cnt_le [] L;rw [HA.out.len] at this;omega
 have HB2 := yd (HB1.out.trans (b2.mono HB1.out.size)) hrow hnn
 have hlg := rlong_best nn cp (s.extract 1 s.size) hrow hnn hnl
 rw [HD.out.1,HD.out.2.1,<- HD.out.2.2] at hlg
 have hble := best_le L (s.data.toList.drop 1) (s.data.toList.drop 1).length
 obtain ⟨bt,hbt⟩ := ex (best L (s.data.toList.drop 1) (s.data.toList.drop 1).length)
 rw [hbt] at hlg hble
 obtain ⟨r,z⟩ := bt
 have HP : Hid (namedP L attr (s.data.toList.drop 1) = _) := named_of hbt attr
 simp only at hlg hble
 rw [HD.out.2.2] at hble
 clear hbt hnm hrow hnn b2 HB1
 go_wp2_with fail
 refine hlg.mono ?_
 rintro e w3 ⟨rfl,b3⟩
 have HB3 := yd (HB2.out.1.trans (b3.mono HB2.out.1.size)) (HB2.out.2.1.below b3) HB2.out.2.2
 clear hlg b3 HB2
 by_cases hz : z = 0
 · subst hz
   rw [jp rfl] at HP;have hgs : ∀ k,Calls Tryz.prog 100 #[.slice ao nn cp,.string (s.extract 1 (k + 1))] w3 fun e w' => e = jr (.bool (goes L ((s.data.toList.drop 1).take k))) /\ w' = w3 := fun k => by
    have := rgoes_goes nn cp (s.extract 1 (k + 1)) HB3.out.2.1 HB3.out.2.2 hnl;have e : (s.extract 1 (k + 1)).data.toList = (s.data.toList.drop 1).take k := by
     simp only [ByteArray.data_extract,Array.toList_extract,List.extract_eq_take_drop];rfl
    rw [e] at this;exact this
   go_wp2_with fail;go_loopw [10] (fun kv wr => ∃ (n : Nat),kv = ji ((n : Int) + 1) /\ n + 1 <= s.size /\ begF L (s.data.toList.drop 1) ((s.data.toList.drop 1).length - n) n = begN L (s.data.toList.drop 1) /\ wr = w3) (fun kv _ => s.size - (intOf kv).toNat)
   case atStart => exact ⟨0,rfl,h1,rfl,rfl⟩
   obtain ⟨n,rfl,hn,hbg,hw'⟩ := hrel;obtain rfl := hw'.symm;have HEnd : Hid (begC L (s.data.toList.drop 1) n = false -> begN L (s.data.toList.drop 1) = n) := fun h => by
    have h2 := hbg;rw [begF_stop h] at h2;exact h2.symm
   have HBg := hid hbg;clear hbg hw';by_cases hlt : n + 1 < s.size
   · have hwd := alnum_any s[n + 1].toNat
     have HC : Hid (begC L (s.data.toList.drop 1) n = (wordyP s[n + 1].toNat && goes L ((s.data.toList.drop 1).take (n + 1)))) := by
      show _ = _;unfold begC;rw [List.getElem?_drop,Nat.add_comm 1 n,at_i s (n + 1) hlt]
     obtain ⟨wd,hwd2⟩ := ex (wordyP s[n + 1].toNat);rw [hwd2] at hwd HC;clear hwd2;have hg := hgs (n + 1);obtain ⟨g,hgg⟩ := ex (goes L ((s.data.toList.drop 1).take (n + 1)));rw [hgg] at hg HC;clear hgg hgs;by_cases hwg : (wd && g) = true
     · obtain ⟨rfl,rfl⟩ : wd = true /\ g = true := by simpa using hwg
       clear HP HEnd;go_wp2_with (first | (go_at_call 99;refine smx (hwd _) ?_) | (go_at_call 100;refine hg.mono ?_;rintro e w' ⟨rfl,hw'⟩;obtain rfl := hw'.symm));refine ⟨⟨n + 1,by go_num,by omega,?_,by first | rfl | trivial⟩,by simp [intOf];omega⟩;rw [<- HBg.out];exact (begF_step (by rw [HC.out];rfl)).symm
     have hbc : begC L (s.data.toList.drop 1) n = false := by rw [HC.out];simpa using hwg
     have hsm := semi_at s (n + 1) hlt;have HF : Hid (namedP L attr (s.data.toList.drop 1) = if (decide (1 < (n : Int) + 1) && ((s[n + 1].toNat : Int) == 59)) = true then (0,0,[19]) else (0,0,[])) := by
      show _ = _;rw [HP.out,<- hsm];unfold begunP;rw [HEnd.out hbc,List.drop_drop,Nat.add_comm 1 n];have : decide (0 < n) = decide (1 < (n : Int) + 1) := by rw [Bool.eq_iff_iff];simp;omega
      rw [this]
     clear HP HEnd hsm hbc HBg HC;by_cases hn0 : n = 0
     · subst hn0
       have HF2 : Hid (namedP L attr (s.data.toList.drop 1) = (0,0,[])) := by show _ = _;rw [HF.out];rfl
       clear HF;have hwd' : ∀ w,Calls Tryz.prog 99 #[.int .u8 ((s[1]).toNat : Int)] w fun e w' => e = jr (.bool wd) /\ w' = w := hwd;have hg' : Calls Tryz.prog 100 #[.slice ao nn cp,.string (s.extract 1 2)] w3 fun e w' => e = jr (.bool g) /\ w' = w3 := hg;clear hwd hg;cases wd
       · go_wp2_with (go_at_call 99;refine (hwd' _).mono ?_;rintro e w' ⟨rfl,hw'⟩;obtain rfl := hw'.symm)
         go_ret3
         first | rw [HF2.out] | rw [<- List.drop_one,HF2.out]
         exact ⟨_,rfl,cds_nil _ _,HB3.out.1⟩
       obtain rfl : g = false := by simpa using hwg
       go_wp2_with (first | (go_at_call 99;refine (hwd' _).mono ?_;rintro e w' ⟨rfl,hw'⟩;obtain rfl := hw'.symm) | (go_at_call 100;refine hg'.mono ?_;rintro e w' ⟨rfl,hw'⟩;obtain rfl := hw'.symm));go_ret3
       first | rw [HF2.out] | rw [<- List.drop_one,HF2.out]
       exact ⟨_,rfl,cds_nil _ _,HB3.out.1⟩
     have hn1 : (1 : Int) < (n : Int) + 1 := by omega
     rw [zm hn1,Bool.true_and] at HF;by_cases h59 : (s[n + 1].toNat : Int) = 59
     · have HF2 : Hid (namedP L attr (s.data.toList.drop 1) = (0,0,[19])) := by show _ = _;rw [HF.out,jp (by rw [h59];rfl)]
       clear HF;rw [h59] at hwd;cases wd
       · go_wp2_with (go_at_call 99;refine smx (hwd _) ?_)
         go_ret3
         first | rw [HF2.out] | rw [<- List.drop_one,HF2.out]
         exact ⟨_,rfl,cds_one _ _ _ HB3.out.1.size,HB3.out.1.alloc HB3.out.1.size _⟩
       obtain rfl : g = false := by simpa using hwg
       go_wp2_with (first | (go_at_call 99;refine smx (hwd _) ?_) | (go_at_call 100;refine hg.mono ?_;rintro e w' ⟨rfl,hw'⟩;obtain rfl := hw'.symm));go_ret3
       first | rw [HF2.out] | rw [<- List.drop_one,HF2.out]
       exact ⟨_,rfl,cds_one _ _ _ HB3.out.1.size,HB3.out.1.alloc HB3.out.1.size _⟩
     have h59' := beq_false_of_ne h59;have HF2 : Hid (namedP L attr (s.data.toList.drop 1) = (0,0,[])) := by show _ = _;rw [HF.out,jq (by rw [h59'];simp)]
     clear HF;cases wd
     · go_wp2_with (go_at_call 99;refine smx (hwd _) ?_)
       go_ret3
       first | rw [HF2.out] | rw [<- List.drop_one,HF2.out]
       exact ⟨_,rfl,cds_nil _ _,HB3.out.1⟩
     obtain rfl : g = false := by simpa using hwg
     go_wp2_with (first | (go_at_call 99;refine smx (hwd _) ?_) | (go_at_call 100;refine hg.mono ?_;rintro e w' ⟨rfl,hw'⟩;obtain rfl := hw'.symm));go_ret3
     first | rw [HF2.out] | rw [<- List.drop_one,HF2.out]
     exact ⟨_,rfl,cds_nil _ _,HB3.out.1⟩
   have hbc : begC L (s.data.toList.drop 1) n = false := by
    unfold begC;rw [List.getElem?_eq_none (by rw [HD.out.2.2];omega)]
   have HF2 : Hid (namedP L attr (s.data.toList.drop 1) = (0,0,[])) := by
    show _ = _;rw [HP.out];unfold begunP;rw [HEnd.out hbc,List.drop_drop,semi_end s (1 + n) (by omega),Bool.and_false];rfl
   clear HP HEnd hbc HBg hgs;have hie : n + 1 = s.size := by omega
   by_cases hn0 : n = 0
   · subst hn0
     go_wp2_with fail;go_ret3
     first | rw [HF2.out] | rw [<- List.drop_one,HF2.out]
     exact ⟨_,rfl,cds_nil _ _,HB3.out.1⟩
   have hn1 : (1 : Int) < (n : Int) + 1 := by omega
   go_wp2_with fail;go_ret3
   first | rw [HF2.out] | rw [<- List.drop_one,HF2.out]
   exact ⟨_,rfl,cds_nil _ _,HB3.out.1⟩
 rw [jq hz] at HP
 obtain ⟨y,rfl⟩ : ∃ y,z = y + 1 := ⟨z - 1,by omega⟩
 rw [show y + 1 - 1 = y from rfl] at HP
 have hyl : y + 1 < s.size := by omega
 have hb59 : (s.data.toList.drop 1)[y]? = some 59 ↔ (s[y + 1].toNat : Int) = 59 := by
  rw [List.getElem?_drop,Nat.add_comm 1 y];exact byte_at s (y + 1) hyl 59
 by_cases h59 : (s[y + 1].toNat : Int) = 59
 · have HF2 : Hid (namedP L attr (s.data.toList.drop 1) = (r,y + 1 + 1,[])) := by show _ = _;rw [HP.out,jp (hb59.2 h59),Nat.add_comm 1]
   clear HP hb59;go_wp2_with fail;go_ret3
   first | rw [HF2.out] | rw [<- List.drop_one,HF2.out]
   exact ⟨_,rfl,cds_nil _ _,HB3.out.1⟩
 have h59' := beq_false_of_ne h59
 rw [jq (fun c => h59 (hb59.1 c)),goesOn_at,Nat.add_comm 1] at HP
 clear hb59
 have fin0 : ∀ {P : Prop},P -> P := fun h => h
 cases attr
 · have HF2 : Hid (namedP L false (s.data.toList.drop 1) = (r,y + 1 + 1,[18])) := by show _ = _;rw [HP.out];rfl
   clear HP;go_wp2_with fail;go_ret3
   first | rw [HF2.out] | rw [<- List.drop_one,HF2.out]
   exact ⟨_,rfl,cds_one _ _ _ HB3.out.1.size,HB3.out.1.alloc HB3.out.1.size _⟩
 by_cases hl2 : y + 1 + 1 < s.size
 · rw [dif_pos hl2,Bool.true_and] at HP
   by_cases h61 : (s[y + 1 + 1].toNat : Int) = 61
   · have HF2 : Hid (namedP L true (s.data.toList.drop 1) = (0,0,[])) := by show _ = _;rw [HP.out,h61];rfl
     clear HP;go_wp2_with fail;go_ret3
     first | rw [HF2.out] | rw [<- List.drop_one,HF2.out]
     exact ⟨_,rfl,cds_nil _ _,HB3.out.1⟩
   have h61' := beq_false_of_ne h61;have hwd := alnum_any s[y + 1 + 1].toNat;rw [h61',Bool.false_or] at HP;obtain ⟨wd,hwd2⟩ := ex (wordyP s[y + 1 + 1].toNat);rw [hwd2] at hwd HP;clear hwd2;cases wd
   · have HF2 : Hid (namedP L true (s.data.toList.drop 1) = (r,y + 1 + 1,[18])) := by show _ = _;rw [HP.out];rfl
     clear HP;go_wp2_with (go_at_call 99;refine smx (hwd _) ?_);go_ret3
     first | rw [HF2.out] | rw [<- List.drop_one,HF2.out]
     exact ⟨_,rfl,cds_one _ _ _ HB3.out.1.size,HB3.out.1.alloc HB3.out.1.size _⟩
   have HF2 : Hid (namedP L true (s.data.toList.drop 1) = (0,0,[])) := by show _ = _;rw [HP.out];rfl
   clear HP;go_wp2_with (go_at_call 99;refine smx (hwd _) ?_);go_ret3
   first | rw [HF2.out] | rw [<- List.drop_one,HF2.out]
   exact ⟨_,rfl,cds_nil _ _,HB3.out.1⟩
 rw [dif_neg hl2] at HP
 have HF2 : Hid (namedP L true (s.data.toList.drop 1) = (r,y + 1 + 1,[18])) := by show _ = _;rw [HP.out];rfl
 clear HP
 go_wp2_with fail
 go_ret3
 first | rw [HF2.out] | rw [<- List.drop_one,HF2.out]
 exact ⟨_,rfl,cds_one _ _ _ HB3.out.1.size,HB3.out.1.alloc HB3.out.1.size _⟩
theorem rone_any (A : Api L) (s : ByteArray) (attr : Bool) (w : World) (hs : s.size <= 1000000) :
 Calls Tryz.prog 63 #[.string s,.bool attr] w fun e w' => Refd w .i64 (refP L attr s.data.toList) e w' := by
 by_cases hz : s.size = 0
 · have := empty_of_size s hz
   subst this;go_enter Tryz.func63,Tryz.ntmps63;go_wp2;go_ret3;exact ⟨_,rfl,cds_nil _ _,Below.refl _ _⟩
 have h1 : 1 <= s.size := by omega
 have hse : s.toList.isEmpty = false := by rw [ByteArray.toList_eq,list1 s h1];rfl
 have hse2 : ¬ s.toList = [] := by rw [ByteArray.toList_eq,list1 s h1];simp
 by_cases h0 : (s[0].toNat : Int) = 38
 · by_cases h35 : ∃ h : 1 < s.size,(s[1].toNat : Int) = 35
   · obtain ⟨hl,h35⟩ := h35
     rw [ref_num35 hl h0 h35];have hnd := rnum_any s w hl hs;have HR : Hid (∀ e w',Refd w .i64 (numbP s.data.toList) e w' -> ∃ r n v,e = jr (.tuple #[ji r,ji n,v]) /\ Refd w .i64 (numbP s.data.toList) (jr (.tuple #[ji r,ji n,v])) w') := fun e w' h => by
      obtain ⟨v,rfl,h2⟩ := h;exact ⟨_,_,v,rfl,v,rfl,h2⟩
     go_enter Tryz.func63,Tryz.ntmps63;go_wp2_with (go_at_call 95;refine hnd.mono ?_;intro e w2 hr;obtain ⟨r,n,v,rfl,hr2⟩ := HR.out _ _ hr;clear hr;have HR2 : Hid _ := hr2;clear hr2);go_ret3;exact HR2.out
   rw [ref_amp h1 h0 h35];exact rone_named A s attr w h1 hs h0 h35
 have HR : Hid (refP L attr s.data.toList = (0,0,[])) := ref_not h1 h0
 have h0' : ((s[0].toNat : Int) != 38) = true := by rw [bne_iff_ne];exact h0
 go_enter Tryz.func63,Tryz.ntmps63
 go_wp2
 go_ret3
 rw [HR.out]
 exact ⟨_,rfl,cds_nil _ _,Below.refl _ _⟩
end Go.Proofs.YtjjfalbngcbfaaaGreatDoor.G6
