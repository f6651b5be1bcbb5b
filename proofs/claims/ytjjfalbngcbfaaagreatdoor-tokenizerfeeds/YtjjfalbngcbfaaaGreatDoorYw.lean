import Derived.Test.YtjjfalbngcbfaaaGreatDoorZ0
import Derived.Test.YtjjfalbngcbfaaaGreatDoorYs
import Derived.Test.YtjjfalbngcbfaaaGreatDoorYp
set_option maxHeartbeats 4000000
set_option maxRecDepth 20000
namespace Go.Proofs.YtjjfalbngcbfaaaGreatDoor
open Go.RowKit
theorem isG_yes {r : List Ch} : tst isG r = true ↔ r ≠ [] /\ hd r ≠ 62 := by
 cases r with
 | nil => simp [tst]
 | cons c t =>
  show isG c = true ↔ _;unfold isG;simp [hd]
theorem doc_any : DocAny := by
 intro S x E r sc dn w h c0 F hF hr hpos hB
 have k00 := TW.start h
 obtain ⟨hfew,hsuf,hlow⟩ := k00.facts
 obtain ⟨b,off,qo,hq,hqL,hLc,hL5,hrow⟩ := k00.row1 hF
 rw [hq]
 obtain ⟨R1,hR1⟩ := ex (skipB r)
 obtain ⟨f1,hf1⟩ : ∃ f1 : Bool × Fs,(if hd R1 = 62 then (true,sc.fs ++ [(17,frN E.N R1)]) else (false,sc.fs)) = f1 := ⟨_,rfl⟩
 obtain ⟨Q,hQ⟩ := ex (lows (R1.takeWhile dnC))
 obtain ⟨R9,hR9⟩ := ex (R1.dropWhile dnC)
 obtain ⟨R2,hR2⟩ := ex (skipB R9)
 obtain ⟨f2,hf2⟩ : ∃ f2 : Bool × Fs,(if R2 ≠ [] /\ hd R2 ≠ 62 then (true,f1.2 ++ [(17,frN E.N R2)]) else f1) = f2 := ⟨_,rfl⟩
 obtain ⟨R3,hR3⟩ := ex (R2.dropWhile isG)
 obtain ⟨f3,hf3⟩ : ∃ f3 : Bool × Fs,(if R3 = [] then (true,f2.2 ++ [(17,E.N)]) else f2) = f3 := ⟨_,rfl⟩
 obtain ⟨T,hT⟩ := ex (docR E.N (c0 :: F) sc r)
 have hT2 : (docT (c0 :: F) Q f3.1 R3.tail,sc.fsd f3.2,R3.tail) = T := by
  rw [<- hT];subst hR1 hf1 hQ hR9 hR2 hf2 hR3 hf3;rfl
 rw [hT]
 have s1 : R1 <:+ r := by rw [<- hR1];exact skip_suf _
 have s9 : R9 <:+ R1 := by rw [<- hR9];exact List.dropWhile_suffix _
 have s2 : R2 <:+ R9 := by rw [<- hR2];exact skip_suf _
 have s3 : R3 <:+ R2 := by rw [<- hR3];exact List.dropWhile_suffix _
 obtain ⟨a,ha⟩ := ex (c0.a)
 rw [ha] at hrow
 obtain ⟨z,hz⟩ := ex (endZ E.L R3.tail)
 have hl3 : R3.tail.length <= F.length := zr (List.tail_suffix R3).length_le ((s3.trans (s2.trans (s9.trans (s1.trans hr)))).length_le)
 have hz2 : endZ (c0 :: F) R3.tail = z := by rw [endZ_suf hF (by simp only [zi];omega)];exact hz
 have hlt : R3.tail.length < E.L.length := by have h1 := hF.length_le;simp only [zi] at h1;omega
 have hR15 : R1.length <= 100000 := by have h1 := s1.length_le;have h2 := hsuf.length_le;omega
 have HPO1 : Hid (∀ d ∈ R1,0 <= d.r) := suf_pos s1 hpos
 have HPO2 : Hid (∀ d ∈ R2,0 <= d.r) := suf_pos (s2.trans (s9.trans s1)) hpos
 have HPO3 : Hid (∀ d ∈ R3,0 <= d.r) := suf_pos (s3.trans (s2.trans (s9.trans s1))) hpos
 obtain ⟨b1,F1⟩ := f1
 obtain ⟨b2,F2⟩ := f2
 obtain ⟨b3,F3⟩ := f3
 clear s1 s2 s3 s9
 have HF1 := hid hf1
 have HF2 := hid hf2
 have HF3 := hid hf3
 have l1 : F1.length <= sc.fs.length + 1 := by
  have h0 := hf1;split at h0 <;> (simp only [Prod.mk.injEq] at h0;rw [<- h0.2];simp)
 have l2 : F2.length <= F1.length + 1 := by
  have h0 := hf2;split at h0 <;> (simp only [Prod.mk.injEq] at h0;rw [<- h0.2];simp)
 have HBD : Hid ((sc.fs.length + 8 <= 1000000000 /\ F1.length + 7 <= 1000000000 /\ F2.length + 6 <= 1000000000) /\ R1.length <= 100000) := ⟨⟨hB,by omega,by omega⟩,hR15⟩
 have HT := hid hT2
 have HQ := yc hQ hR9
 have HR3 := yc hR3 hR2
 have HZ := yc hz hlt
 have HZ2 := yc hz2 ha
 obtain ⟨L0,hL0⟩ := ex (E.L.length)
 rw [hL0] at hqL hLc hL5 hrow
 have HRW := hid hrow
 obtain ⟨W0,hW0⟩ := ex (w.alloc (.cells (tkA 5 ⟨#[]⟩ jn false 0 0) 45))
 have HW0 := hid hW0
 have k0 : TY S x E r sc dn w w.heap.size (tkA 5 ⟨#[]⟩ jn false 0 0) 45 W0 := by
  rw [<- hW0];exact TY.new k00 _ 45 (by decide) (by decide)
 have KI := hid k0
 have HSK := hid hR1
 have hx0 := k0.tw.lt
 have hy0 := k0.lt
 have hne : w.heap.size ≠ x := k0.ne
 have hqi : (qo : Int) < (L0 : Int) := by omega
 clear h hF hr hpos hB k00 hfew hsuf hlow hq hrow hL0 ha hz hz2 hlt hl3 hT hT2 hR1 hf1 hf2 hf3 hQ hR9 hR2 hR3 l1 l2 hR15 hW0 k0
 go_enter Tryz.func103,Tryz.ntmps103
 go_wp2_with fail
 rw [HW0.out]
 clear HW0
 go_loopg [9] (r).length (fun g _ wr => ∃ r2 : List Ch,r2.length <= g /\ skipB r2 = R1 /\ TY S x E r2 sc dn w w.heap.size (tkA 5 ⟨#[]⟩ jn false 0 0) 45 wr)
 case atStart => exact ⟨_,zb _,HSK.out,KI.out⟩
 obtain ⟨r2,hgl,hr2,hk⟩ := hrel
 have K0 := hid hk
 have hxr := hk.tw.lt
 have hyr := hk.lt
 clear KI
 by_cases hb : ∃ c t,r2 = c :: t /\ blk c.r = true
 · obtain ⟨⟨er,ea,ez⟩,t2,rfl,hb⟩ := hb
   have HNX : Hid (skipB t2 = R1 /\ t2.length + 1 <= gk) := by
    rw [skipB_cons,jp hb] at hr2;exact ⟨hr2,hgl⟩
   have hb' : blk er = true := hb;clear hk hr2 hb hgl;go_wp2_with fail;refine tyx K0.out.cc fun W1 K1 hx1 hy1 => ?_;go_wp2_with fail;refine rbx er _ ?_;obtain ⟨pq,c1,c2,c3,c4,KN⟩ := K1.out.advx;go_wp2_with fail;go_roundg (gk - 1)
   case measure => have := HNX.out.2;omega
   case rel => exact ⟨t2,by have := HNX.out.2;omega,HNX.out.1,KN.out⟩
 have HRR : Hid (r2 = R1) := by
  show r2 = R1;cases r2 with
  | nil => exact hr2
  | cons c t =>
   rw [skipB_cons,jq fun h => hb ⟨c,t,rfl,h⟩] at hr2;exact hr2
 have hbv : blk (hd r2) = false := by
  cases r2 with
  | nil => decide
  | cons c t =>
   cases hbb : blk c.r with
   | false => exact hbb
   | true => exact absurd ⟨c,t,rfl,hbb⟩ hb
 clear hb hk hr2 hgl
 have HRE := hid HRR.out
 obtain ⟨cv,hcv⟩ := ex (hd r2)
 have HCV := hid hcv
 rw [hcv] at hbv
 clear hcv
 go_wp2_with fail
 refine tyx K0.out.c fun W1 K1 hx1 hy1 => ?_
 rw [HCV.out]
 go_wp2_with fail
 refine rbx cv _ ?_
 have KS : Hid (TY S x E R1 sc dn w w.heap.size (tkA 5 ⟨#[]⟩ jn false 0 0) 45 W1) := by
  show TY _ _ _ _ _ _ _ _ _ _ _;rw [<- HRE.out];exact K1.out
 have HCW : Hid (hd R1 = cv) := by
  show _ = _;rw [<- HRE.out];exact HCV.out
 clear K0 K1 HCV HRR
 go_wp2_with fail
 refine tyx KS.out.c fun W2 K2 hx2 hy2 => ?_
 rw [HCW.out]
 go_upto_if 19 with fail
 go_cut [] (fun wc => TY S x E R1 (sc.fsd F1) dn w w.heap.size (tkA 5 ⟨#[]⟩ jn b1 0 0) 45 wc)
 case first =>
  by_cases h62 : cv = 62
  · have g62 : (cv == 62) = true := by simp [h62]
    have H3 : Hid (b1 = true /\ F1 = sc.fs ++ [(17,frN E.N R1)]) := by
     have h0 := HF1.out;rw [HCW.out,jp h62] at h0;simp only [Prod.mk.injEq] at h0;exact ⟨h0.1.symm,h0.2.symm⟩
    clear h62;go_wp2_with fail;refine tyx K2.out.byteAt fun W3 K3 hx3 hy3 => ?_;obtain ⟨fv,hfv⟩ := ex (frN E.N R1);rw [hfv];rw [hfv] at H3;clear hfv;go_wp2_with fail;refine (K3.out.tfl 17 fv (by have := HBD.out;show sc.fs.length <= _;omega)).mono ?_;rintro e W4 ⟨rfl,k'⟩;have K4 := hid k';have hx4 := k'.tw.lt;have hy4 := k'.lt;obtain ⟨s5,s6⟩ := k'.cell 5 rfl;clear k';go_wp2_with fail;go_meet
    case rel =>
     rw [H3.out.1,H3.out.2];exact K4.out.put 5 (.bool true) rfl
  have g62 : (cv == 62) = false := by simp [h62]
  have H3 : Hid (b1 = false /\ F1 = sc.fs) := by
   have h0 := HF1.out;rw [HCW.out,jq h62] at h0;simp only [Prod.mk.injEq] at h0;exact ⟨h0.1.symm,h0.2.symm⟩
  clear h62;go_wp2_with fail;go_meet
  case rel =>
   rw [H3.out.1,H3.out.2];exact K2.out
 clear KS K2
 have KD := hid hcut
 have hxc := hcut.tw.lt
 have hyc := hcut.lt
 clear hcut
 go_wp2_with fail
 go_loopg [38] R1.length (fun g _ wr => ∃ (q : jl) (r1 : List Ch),r1.length <= g /\ q ++ lows (r1.takeWhile dnC) = Q /\ r1.dropWhile dnC = R9 /\ r1 <:+ R1 /\ q.length + 4 * r1.length <= 4 * R1.length /\ TY S x E r1 (sc.fsd F1) dn w w.heap.size (tkA 5 (bs q) jn b1 0 0) 45 wr)
 case atStart => exact ⟨[],R1,zb _,HQ.out.1,HQ.out.2,List.suffix_refl _,by simp,KD.out⟩
 obtain ⟨q,r1,hgl,hq1,hq2,hq3,hq4,hk⟩ := hrel
 have HNM := yf hq1 hq2 hq3 hq4 hgl
 have HPR : Hid (∀ d ∈ r1,0 <= d.r) := suf_pos hq3 HPO1.out
 clear KD
 have K0 := hid hk
 have hxr := hk.tw.lt
 have hyr := hk.lt
 clear hgl hq1 hq2 hq3 hq4 hk
 go_upto_region 7 with fail
 go_cut [38] (fun s wc => s = .bool (tst dnC r1) /\ TY S x E r1 (sc.fsd F1) dn w w.heap.size (tkA 5 (bs q) jn b1 0 0) 45 wc)
 case first =>
  cases r1 with
  | nil =>
   have HTS : Hid (tst dnC [] = false) := rfl;go_wp2_with fail;refine tyx K0.out.c0 fun W1 K1 hx1 hy1 => ?_;go_wp2_with fail;go_meet
   case rel => exact ⟨by rw [HTS.out],K1.out⟩
  | cons d t1 =>
   obtain ⟨dr,da,dz⟩ := d;have hd0 : 0 <= dr := HPR.out ⟨dr,da,dz⟩ (by simp);have gd0 : decide (dr >= 0) = true := zm (by omega);clear hd0;by_cases h62 : dr = 62
   · have g62 : (dr != 62) = false := by simp [h62]
     have HTS : Hid (tst dnC (⟨dr,da,dz⟩ :: t1) = false) := by
      show dnC _ = _;unfold dnC;simp [h62]
     clear h62;go_wp2_with fail;refine tyx K0.out.cc fun W1 K1 hx1 hy1 => ?_;go_wp2_with fail;refine tyx K1.out.cc fun W2 K2 hx2 hy2 => ?_;go_wp2_with fail;go_meet
     case rel => exact ⟨by rw [HTS.out],K2.out⟩
   have g62 : (dr != 62) = true := by simp [h62]
   by_cases hbk : blk dr = true
   · have HTS : Hid (tst dnC (⟨dr,da,dz⟩ :: t1) = false) := by
      show dnC _ = _;unfold dnC;simp [hbk]
     go_wp2_with fail;refine tyx K0.out.cc fun W1 K1 hx1 hy1 => ?_;go_wp2_with fail;refine tyx K1.out.cc fun W2 K2 hx2 hy2 => ?_;go_wp2_with fail;refine tyx K2.out.cc fun W3 K3 hx3 hy3 => ?_;go_wp2_with fail;refine rbx dr _ ?_;go_wp2_with fail;go_meet
     case rel => exact ⟨by rw [HTS.out],K3.out⟩
   have hbk' : blk dr = false := by simpa using hbk
   have HTS : Hid (tst dnC (⟨dr,da,dz⟩ :: t1) = true) := by
    show dnC _ = _;unfold dnC;simp [h62,hbk']
   go_wp2_with fail;refine tyx K0.out.cc fun W1 K1 hx1 hy1 => ?_;go_wp2_with fail;refine tyx K1.out.cc fun W2 K2 hx2 hy2 => ?_;go_wp2_with fail;refine tyx K2.out.cc fun W3 K3 hx3 hy3 => ?_;go_wp2_with fail;refine rbx dr _ ?_;go_wp2_with fail;go_meet
   case rel => exact ⟨by rw [HTS.out],K3.out⟩
 obtain ⟨hu,k0⟩ := hcut
 clear K0
 have K0 := hid k0
 have hxc := k0.tw.lt
 have hyc := k0.lt
 clear k0
 obtain ⟨nv,hnv⟩ := ex (bs q)
 have hnz : nv.size <= 400005 := by
  have h1 := HNM.out.2.2.2.1;have h2 := HBD.out.2;rw [<- hnv,bs_size];omega
 have HNV := hid hnv
 rw [hnv] at K0
 clear hnv
 cases ht : tst dnC r1 with
 | true =>
  rw [ht] at hu;subst hu;obtain ⟨⟨dr,da,dz⟩,t1,rfl,hdc,e1,e2⟩ := tst_yes ht;have HST : Hid ((q ++ enc (lowr dr)) ++ lows (t1.takeWhile dnC) = Q /\ t1.length + 1 <= gk /\ t1.dropWhile dnC = R9 /\ t1 <:+ R1 /\ (q ++ enc (lowr dr)).length + 4 * t1.length <= 4 * R1.length) := by
   obtain ⟨h1,h2,h3,h4,h5⟩ := HNM.out;rw [e1] at h1;rw [e2] at h2;refine ⟨?_,h5,h2,(zl _ _).trans h3,?_⟩
   · rw [<- h1]
     simp [lows]
   have := enc_len (lowr dr);simp only [zh,zi] at h4 |-;omega
  clear ht hdc e1 e2;obtain ⟨b0,f0⟩ := K0.out.cell 2 rfl;go_upto_region 8 with fail
  go_cut [] (fun wc => TY S x E (⟨dr,da,dz⟩ :: t1) (sc.fsd F1) dn w w.heap.size (tkA 5 (bs (q ++ enc (lowr dr))) jn b1 0 0) 45 wc)
  case first =>
   have hev : (bs (enc (lowr dr))).size <= 4 := by rw [bs_size];exact enc_len _
   obtain ⟨ev,hev2⟩ := ex (bs (enc (lowr dr)));have HEV := hid hev2;rw [hev2] at hev;clear hev2
   go_region_with (first
    | (go_at_call 39;refine ((K0.out.below ((Below.refl _ _).drew)).cc).mono ?_;rintro e wa ⟨rfl,ka⟩;have KA : Hid (TY S x E (⟨dr,da,dz⟩ :: t1) (sc.fsd F1) dn w w.heap.size (tkA 5 nv jn b1 0 0) 45 wa) := ka;obtain ⟨ba,fa⟩ := ka.cell 2 rfl;have hxa := ka.tw.lt;have hya := ka.lt;clear ka)
    | (go_at_call 71;refine (KA.out.lower dr).mono ?_;rintro e wb ⟨rfl,kb⟩;rw [HEV.out];have KB : Hid (TY S x E (⟨dr,da,dz⟩ :: t1) (sc.fsd F1) dn w w.heap.size (tkA 5 nv jn b1 0 0) 45 wb) := kb;obtain ⟨bb,fb⟩ := kb.cell 2 rfl;have hxb := kb.tw.lt;have hyb := kb.lt;clear kb))
   all_goals
    go_wp2_with fail;go_meet
    case rel =>
     rw [show bs (q ++ enc (lowr dr)) = nv ++ ev by rw [<- bs_app,HNV.out,HEV.out]];exact KB.out.put 2 (.string (nv ++ ev)) rfl
  have KC := hid hcut;have hxd := hcut.tw.lt;have hyd := hcut.lt;obtain ⟨a1,a2,a3,a4,_⟩ := hcut.tw.at;obtain ⟨pq,hpq⟩ := ex (pos E (⟨dr,da,dz⟩ :: t1));have KN : Hid (TY S x E t1 (sc.fsd F1) dn w w.heap.size (tkA 5 (bs (q ++ enc (lowr dr))) jn b1 0 0) 45 (wc.setCell (jd x 1) (ji (pq + 1)))) := by
   show TY _ _ _ _ _ _ _ _ _ _ _;rw [<- hpq];exact hcut.adv
  rw [hpq] at a1 a3 a4;clear hcut hpq;go_wp2_with fail;go_roundg (gk - 1)
  case measure => have := HST.out.2.1;omega
  case rel => exact ⟨q ++ enc (lowr dr),t1,by have := HST.out.2.1;omega,HST.out.1,HST.out.2.2.1,HST.out.2.2.2.1,HST.out.2.2.2.2,KN.out⟩
 | false =>
  rw [ht] at hu;subst hu;have HNS : Hid (q = Q /\ r1 = R9) := by
   obtain ⟨h1,h2,_⟩ := HNM.out;obtain ⟨e1,e2⟩ := tst_no ht;rw [e1] at h1;rw [e2] at h2;simp [lows] at h1;exact ⟨h1,h2⟩
  clear ht HNM;have HTT : Hid (T.1 = [(⟨5,0,nv,⟨#[]⟩,[],b3,a,z⟩ : Pt)] /\ T.2 = (sc.fsd F3,R3.tail)) := by
   have h0 := HT.out;rw [<- h0,<- HNS.out.1];unfold docT;rw [HZ2.out.1,HNV.out];show ([(⟨5,0,nv,ByteArray.empty,[],b3,c0.a,z⟩ : Pt)] = _) /\ _;rw [HZ2.out.2];exact ⟨rfl,rfl⟩
  have KB : Hid (TY S x E R9 (sc.fsd F1) dn w w.heap.size (tkA 5 nv jn b1 0 0) 45 wc) := by
   show TY _ _ _ _ _ _ _ _ _ _ _;rw [<- HNS.out.2];exact K0.out
  clear K0;go_wp2_with fail;go_loopg [55] (R9).length (fun g _ wr => ∃ r2 : List Ch,r2.length <= g /\ skipB r2 = R2 /\ TY S x E r2 (sc.fsd F1) dn w w.heap.size (tkA 5 nv jn b1 0 0) 45 wr)
  case atStart => exact ⟨_,zb _,HR3.out.2,KB.out⟩
  obtain ⟨r2,hgl,hr2,hk⟩ := hrel;have K0 := hid hk;have hxr := hk.tw.lt;have hyr := hk.lt;clear KB;by_cases hb : ∃ c t,r2 = c :: t /\ blk c.r = true
  · obtain ⟨⟨er,ea,ez⟩,t2,rfl,hb⟩ := hb
    have HNX : Hid (skipB t2 = R2 /\ t2.length + 1 <= gk) := by
     rw [skipB_cons,jp hb] at hr2;exact ⟨hr2,hgl⟩
    have hb' : blk er = true := hb;clear hk hr2 hb hgl;go_wp2_with fail;refine tyx K0.out.cc fun W1 K1 hx1 hy1 => ?_;go_wp2_with fail;refine rbx er _ ?_;obtain ⟨pq,c1,c2,c3,c4,KN⟩ := K1.out.advx;go_wp2_with fail;go_roundg (gk - 1)
    case measure => have := HNX.out.2;omega
    case rel => exact ⟨t2,by have := HNX.out.2;omega,HNX.out.1,KN.out⟩
  have HRR : Hid (r2 = R2) := by
   show r2 = R2;cases r2 with
   | nil => exact hr2
   | cons c t =>
    rw [skipB_cons,jq fun h => hb ⟨c,t,rfl,h⟩] at hr2;exact hr2
  have hbv : blk (hd r2) = false := by
   cases r2 with
   | nil => decide
   | cons c t =>
    cases hbb : blk c.r with
    | false => exact hbb
    | true => exact absurd ⟨c,t,rfl,hbb⟩ hb
  clear hb hk hr2 hgl;have HRE := hid HRR.out;obtain ⟨cv,hcv⟩ := ex (hd r2);have HCV := hid hcv;rw [hcv] at hbv;clear hcv;go_wp2_with fail;refine tyx K0.out.c fun W1 K1 hx1 hy1 => ?_;rw [HCV.out];go_wp2_with fail;refine rbx cv _ ?_;have KS : Hid (TY S x E R2 (sc.fsd F1) dn w w.heap.size (tkA 5 nv jn b1 0 0) 45 W1) := by
   show TY _ _ _ _ _ _ _ _ _ _ _;rw [<- HRE.out];exact K1.out
  have HCW : Hid (hd R2 = cv) := by
   show _ = _;rw [<- HRE.out];exact HCV.out
  clear K0 K1 HCV HRR;go_upto_region 12 with fail
  go_cut [70] (fun s wc => s = .bool (tst isG R2) /\ TY S x E R2 (sc.fsd F1) dn w w.heap.size (tkA 5 nv jn b1 0 0) 45 wc)
  case first =>
   have HPR := hid HPO2.out;have K0 := hid KS.out;clear KS HPO2 HF2 HR3 HRE HCW;cases R2 with
   | nil =>
    have HTS : Hid (tst isG [] = false) := rfl;go_wp2_with fail;refine tyx K0.out.c0 fun W1 K1 hx1 hy1 => ?_;go_wp2_with fail;go_meet
    case rel => exact ⟨by rw [HTS.out],K1.out⟩
   | cons d t1 =>
    obtain ⟨dr,da,dz⟩ := d;have hd0 : 0 <= dr := HPR.out ⟨dr,da,dz⟩ (by simp);have gd0 : decide (dr >= 0) = true := zm (by omega);clear hd0;by_cases h62 : dr = 62
    · have g62 : (dr != 62) = false := by simp [h62]
      have HTS : Hid (tst isG (⟨dr,da,dz⟩ :: t1) = false) := by
       show isG _ = _;unfold isG;simp [h62]
      clear h62;go_wp2_with fail;refine tyx K0.out.cc fun W1 K1 hx1 hy1 => ?_;go_wp2_with fail;refine tyx K1.out.cc fun W2 K2 hx2 hy2 => ?_;go_wp2_with fail;go_meet
      case rel => exact ⟨by rw [HTS.out],K2.out⟩
    have g62 : (dr != 62) = true := by simp [h62]
    have HTS : Hid (tst isG (⟨dr,da,dz⟩ :: t1) = true) := by
     show isG _ = _;unfold isG;simp [h62]
    clear h62;go_wp2_with fail;refine tyx K0.out.cc fun W1 K1 hx1 hy1 => ?_;go_wp2_with fail;refine tyx K1.out.cc fun W2 K2 hx2 hy2 => ?_;go_wp2_with fail;go_meet
    case rel => exact ⟨by rw [HTS.out],K2.out⟩
  obtain ⟨hu,k0⟩ := hcut;have K0 := hid k0;have hxc := k0.tw.lt;have hyc := k0.lt;clear k0 KS;obtain ⟨tb,htb⟩ := ex (tst isG R2);have HTB := hid htb;rw [htb] at hu;subst hu;clear htb;go_upto_if 70 with fail
  go_cut [] (fun wc => TY S x E R2 (sc.fsd F2) dn w w.heap.size (tkA 5 nv jn b2 0 0) 45 wc)
  case first =>
   cases tb with
   | true =>
    have hy62 := isG_yes.1 HTB.out;have H3 : Hid (b2 = true /\ F2 = F1 ++ [(17,frN E.N R2)]) := by
     have h0 := HF2.out;rw [jp hy62] at h0;simp only [Prod.mk.injEq] at h0;exact ⟨h0.1.symm,h0.2.symm⟩
    clear hy62;go_wp2_with fail;refine tyx K0.out.byteAt fun W1 K1 hx1 hy1 => ?_;obtain ⟨fv,hfv⟩ := ex (frN E.N R2);rw [hfv];rw [hfv] at H3;clear hfv;go_wp2_with fail;refine (K1.out.tfl 17 fv (by have := HBD.out;show F1.length <= _;omega)).mono ?_;rintro e W2 ⟨rfl,k'⟩;have K2 := hid k';have hx2 := k'.tw.lt;have hy2 := k'.lt;obtain ⟨s5,s6⟩ := k'.cell 5 rfl;clear k';go_wp2_with fail;go_meet
    case rel =>
     rw [H3.out.1,H3.out.2];exact K2.out.put 5 (.bool true) rfl
   | false =>
    have hy62 : ¬ (R2 ≠ [] /\ hd R2 ≠ 62) := fun h => by
     have h1 := isG_yes.2 h;rw [HTB.out] at h1;cases h1
    have H3 : Hid (b2 = b1 /\ F2 = F1) := by
     have h0 := HF2.out;rw [jq hy62] at h0;simp only [Prod.mk.injEq] at h0;exact ⟨h0.1.symm,h0.2.symm⟩
    clear hy62;go_wp2_with fail;go_meet
    case rel =>
     rw [H3.out.1,H3.out.2];exact K0.out
  clear K0;have KD := hid hcut;have hxc := hcut.tw.lt;have hyc := hcut.lt;clear hcut;go_wp2_with fail;go_loopg [83] R2.length (fun g _ wr => ∃ r4 : List Ch,r4.length <= g /\ r4.dropWhile isG = R3 /\ r4 <:+ R2 /\ TY S x E r4 (sc.fsd F2) dn w w.heap.size (tkA 5 nv jn b2 0 0) 45 wr)
  case atStart => exact ⟨_,zb _,HR3.out.1,List.suffix_refl _,KD.out⟩
  obtain ⟨r4,hgl,hr4,hs4,hk⟩ := hrel;have H4 := yd hgl hr4 hs4;have HPR : Hid (∀ d ∈ r4,0 <= d.r) := suf_pos hs4 HPO2.out;have K0 := hid hk;have hxr := hk.tw.lt;have hyr := hk.lt;clear KD hgl hr4 hs4 hk;go_upto_region 15 with fail
  go_cut [83] (fun s wc => s = .bool (tst isG r4) /\ TY S x E r4 (sc.fsd F2) dn w w.heap.size (tkA 5 nv jn b2 0 0) 45 wc)
  case first =>
   cases r4 with
   | nil =>
    have HTS : Hid (tst isG [] = false) := rfl;go_wp2_with fail;refine tyx K0.out.c0 fun W1 K1 hx1 hy1 => ?_;go_wp2_with fail;go_meet
    case rel => exact ⟨by rw [HTS.out],K1.out⟩
   | cons d t1 =>
    obtain ⟨dr,da,dz⟩ := d;have hd0 : 0 <= dr := HPR.out ⟨dr,da,dz⟩ (by simp);have gd0 : decide (dr >= 0) = true := zm (by omega);clear hd0;by_cases h62 : dr = 62
    · have g62 : (dr != 62) = false := by simp [h62]
      have HTS : Hid (tst isG (⟨dr,da,dz⟩ :: t1) = false) := by
       show isG _ = _;unfold isG;simp [h62]
      clear h62;go_wp2_with fail;refine tyx K0.out.cc fun W1 K1 hx1 hy1 => ?_;go_wp2_with fail;refine tyx K1.out.cc fun W2 K2 hx2 hy2 => ?_;go_wp2_with fail;go_meet
      case rel => exact ⟨by rw [HTS.out],K2.out⟩
    have g62 : (dr != 62) = true := by simp [h62]
    have HTS : Hid (tst isG (⟨dr,da,dz⟩ :: t1) = true) := by
     show isG _ = _;unfold isG;simp [h62]
    clear h62;go_wp2_with fail;refine tyx K0.out.cc fun W1 K1 hx1 hy1 => ?_;go_wp2_with fail;refine tyx K1.out.cc fun W2 K2 hx2 hy2 => ?_;go_wp2_with fail;go_meet
    case rel => exact ⟨by rw [HTS.out],K2.out⟩
  obtain ⟨hu,k0⟩ := hcut;clear K0;have K0 := hid k0;have hxc := k0.tw.lt;have hyc := k0.lt;clear k0;cases ht : tst isG r4 with
  | true =>
   rw [ht] at hu;subst hu;obtain ⟨⟨dr,da,dz⟩,t1,rfl,_,_,e2⟩ := tst_yes ht;have HST : Hid (t1.length + 1 <= gk /\ t1.dropWhile isG = R3 /\ t1 <:+ R2) := by
    obtain ⟨h1,h2,h3⟩ := H4.out;rw [e2] at h2;exact ⟨h1,h2,(zl _ _).trans h3⟩
   clear ht e2;obtain ⟨pq,c1,c2,c3,c4,KN⟩ := K0.out.advx;go_wp2_with fail;go_roundg (gk - 1)
   case measure => have := HST.out.1;omega
   case rel => exact ⟨t1,by have := HST.out.1;omega,HST.out.2.1,HST.out.2.2,KN.out⟩
  | false =>
   rw [ht] at hu;subst hu;have HRE : Hid (r4 = R3) := by
    have h2 := H4.out.2.1;rw [(tst_no ht).2] at h2;exact h2
   clear ht;obtain ⟨cv,hcv⟩ := ex (hd r4);have HCV := hid hcv;clear hcv;go_wp2_with fail;refine tyx K0.out.c fun W1 K1 hx1 hy1 => ?_;rw [HCV.out];go_upto_if 93 with fail
   go_cut [] (fun wc => TY S x E R3.tail (sc.fsd F3) dn w w.heap.size (tkA 5 nv jn b3 0 0) 45 wc)
   case first =>
    obtain rfl := HRE.out;cases r4 with
    | nil =>
     have hc : cv = -1 := HCV.out.symm;have gp : cv < 0 := by omega
     have gcv : decide (cv < 0) = true := zm gp;have H3 : Hid (b3 = true /\ F3 = F2 ++ [(17,E.N)]) := by
      have h0 := HF3.out;rw [jp rfl] at h0;simp only [Prod.mk.injEq] at h0;exact ⟨h0.1.symm,h0.2.symm⟩
     obtain ⟨_,_,_,_,d2⟩ := K1.out.tw.c3;obtain ⟨N,hN⟩ := ex (E.N);rw [hN] at d2;rw [hN] at H3;clear hN hc;go_wp2_with fail;refine (K1.out.tfl 17 N (by have := HBD.out;show F2.length <= _;omega)).mono ?_;rintro e W2 ⟨rfl,k'⟩;have K2 := hid k';have hx2 := k'.tw.lt;have hy2 := k'.lt;obtain ⟨s5,s6⟩ := k'.cell 5 rfl;clear k';go_wp2_with fail;go_meet
     case rel =>
      rw [H3.out.1,H3.out.2];exact K2.out.put 5 (.bool true) rfl
    | cons d t4 =>
     obtain ⟨dr,da,dz⟩ := d;have hc : dr = cv := HCV.out;have hc0 : 0 <= dr := HPO3.out ⟨dr,da,dz⟩ (by simp);have gp : ¬ cv < 0 := by omega
     have gp2 : 0 <= cv := by omega
     have gcv : decide (cv < 0) = false := zn gp;have H3 : Hid (b3 = b2 /\ F3 = F2) := by
      have h0 := HF3.out;rw [jq (by simp)] at h0;simp only [Prod.mk.injEq] at h0;exact ⟨h0.1.symm,h0.2.symm⟩
     obtain ⟨pq,c1,c2,c3,c4,KN⟩ := K1.out.advx;clear hc hc0;go_wp2_with fail;go_meet
     case rel =>
      rw [H3.out.1,H3.out.2];exact KN.out
   clear K0 K1;have KE := hid hcut;have hxc := hcut.tw.lt;have hyc := hcut.lt;clear hcut;go_upto_region 21 with fail
   go_cut [] (fun wc => TY S x E R3.tail (sc.fsd F3) dn w w.heap.size (tkA 5 nv jn b3 a z) 45 wc)
   case first =>
    obtain ⟨c0a,c1a,c2a⟩ := HRW.out _ _ _ _ _ _ KE.out.tw;obtain ⟨f6,g6⟩ := KE.out.cell 6 rfl;obtain ⟨f7,g7⟩ := KE.out.cell 7 rfl
    go_region_with (first
     | (go_at_call 43;refine ((KE.out.below ((Below.refl _ _).drew)).endz HZ.out.2).mono ?_;rintro e wa ⟨rfl,ka⟩;rw [HZ.out.1];have KA : Hid (TY S x E R3.tail (sc.fsd F3) dn w w.heap.size (tkA 5 nv jn b3 0 0) 45 wa) := ka;obtain ⟨c0b,c1b,c2b⟩ := HRW.out _ _ _ _ _ _ ka.tw;obtain ⟨f6a,g6a⟩ := ka.cell 6 rfl;obtain ⟨f7a,g7a⟩ := ka.cell 7 rfl;have hxa := ka.tw.lt;have hya := ka.lt;clear ka))
    all_goals
     go_wp2_with fail;go_meet
     case rel => exact (KA.out.put 6 (ji a) rfl).put 7 (ji z) rfl
   have HR : Hid (Tokd S x E T dn w (jr (.slice (some (jd wc.heap.size 0)) 1 1)) (wc.alloc (.cells (tkA 5 nv jn b3 a z) 45))) := by
    refine ⟨some (jd wc.heap.size 0),[(⟨5,0,nv,⟨#[]⟩,none,0,0,b3,a,z⟩,[])],1,rfl,HTT.out.1.symm,zb _,TokR.tok (⟨5,0,nv,⟨#[]⟩,none,0,0,b3,a,z⟩,[]) ⟨rfl,G9.AtRow.nil _ _,Nat.zero_le _⟩ hcut.tw.keep.size (fun hne => absurd rfl hne),?_⟩;rw [HTT.out.2];exact hcut.tw.below (ze _ _)
   obtain ⟨e0,_⟩ := hcut.cell 0 rfl;obtain ⟨e1,_⟩ := hcut.cell 1 rfl;obtain ⟨e2,_⟩ := hcut.cell 2 rfl;obtain ⟨e3,_⟩ := hcut.cell 3 rfl;obtain ⟨e4,_⟩ := hcut.cell 4 rfl;obtain ⟨e5,_⟩ := hcut.cell 5 rfl;obtain ⟨e6,_⟩ := hcut.cell 6 rfl;obtain ⟨e7,_⟩ := hcut.cell 7 rfl;have hyl := hcut.lt;clear hcut;go_wp2_with fail;go_ret;exact HR.out
end Go.Proofs.YtjjfalbngcbfaaaGreatDoor
