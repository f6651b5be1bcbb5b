import Derived.Test.YtjjfalbngcbfaaaGreatDoorZ0
import Derived.Test.YtjjfalbngcbfaaaGreatDoorYp
set_option maxHeartbeats 4000000
set_option maxRecDepth 20000
namespace Go.Proofs.YtjjfalbngcbfaaaGreatDoor
open Go.RowKit
variable {v : ByteArray} {S : Nat -> Prop} {x : Nat} {E : Env} {cr ca cz : Int} {t : List Ch} {sc : Sc} {w : World} {dn : Bool}
theorem endOpen_any' (htag : TagAny) {S : Nat -> Prop} {x : Nat} {E : Env} {r : List Ch} {sc : Sc} {dn : Bool} {w : World} (h : Tm S x E r sc dn w) {c0 : Ch} {F : List Ch} (hF : c0 :: F <:+ E.L) (hr : r <:+ F) (hpos : ∀ d ∈ r,0 <= d.r) (hB : sc.fs.length + 8 * r.length + 16 <= 1000000000) : Calls Tryz.prog 67 #[mp x,ji (pos E (c0 :: F))] w (Tokd S x E (endOpenR E.N (c0 :: F) sc r) dn w) := by
 have K0 : Hid (TW S x E r sc dn w w) := TW.start h
 have hxw := h.lt
 obtain ⟨T,hT⟩ := ex (endOpenR E.N (c0 :: F) sc r)
 have HT := hid hT
 rw [hT]
 have HFr := yd hF hr hpos
 have HB := hid hB
 obtain ⟨pF,hpF⟩ := ex (pos E (c0 :: F))
 have HPF := hid hpF
 rw [hpF]
 clear h hF hr hpos hpF hT hB
 have HD : Hid TagAny := @htag
 clear htag
 obtain ⟨cv,hcv⟩ := ex (hd r)
 have HCV := hid hcv
 cases hlt : ltr cv with
 | true =>
  have HTT : Hid (T = tagR E.N (c0 :: F) 3 sc r) := by
   show T = _;rw [<- HT.out];unfold endOpenR;rw [jp (by rw [hcv];exact hlt)]
  clear hcv;go_enter Tryz.func67,Tryz.ntmps67;go_wp2_with fail;refine twx K0.out.c fun W1 K1 hx1 => ?_;rw [HCV.out];go_wp2_with fail;refine ltx cv _ ?_;have kcm := HD.out K1.out.tm HFr.out.1 HFr.out.2.1 HFr.out.2.2 HB.out 3 (.inr rfl);rw [HPF.out] at kcm;go_wp2_with fail;refine tokx kcm K1.out fun ao n9 cap w9 H9 => ?_;clear kcm;go_wp2_with fail;go_ret;rw [HTT.out];exact H9.out
 | false =>
  by_cases h62 : cv = 62
  · cases r with
    | nil => rw [<- hcv] at h62;exact absurd h62 (by decide)
    | cons c t =>
     have g62 : (cv == 62) = true := by simp [h62]
     have HTT : Hid (T = ([],sc.fsd (sc.fs ++ [(6,frN E.N (c :: t))]),t)) := by
      show T = _;rw [<- HT.out];unfold endOpenR;rw [hcv,jq (by rw [hlt];decide),jp h62];rfl
     have HSU : Hid (t <:+ F) := (zl _ _).trans HFr.out.2.1;have HPS : Hid (pos E (c :: t) + 1 = pos E t) := pos_cons.symm;clear hcv h62;go_enter Tryz.func67,Tryz.ntmps67;go_wp2_with fail;refine twx K0.out.c fun W1 K1 hx1 => ?_;rw [HCV.out];go_wp2_with fail;refine ltx cv _ ?_;go_wp2_with fail;refine twx K1.out.byteAt fun W2 K2 hx2 => ?_;obtain ⟨av,hav⟩ := ex (frN E.N (c :: t));have HAV := hid hav;rw [hav];clear hav;go_wp2_with fail;refine twx (K2.out.tfl 6 av (by have := HB.out;omega)) fun W3 K3 hx3 => ?_;obtain ⟨pq,a1,a2,a3,a4,KA⟩ := K3.out.gox (r' := t) (HSU.out.trans ((zl _ _).trans HFr.out.1)) 1 (HPS.out);go_wp2_with fail;go_ret;rw [HTT.out,HAV.out];exact ⟨none,[],0,rfl,rfl,zb _,TokR.nil _ _ _,KA.out⟩
  have g62 : (cv == 62) = false := by simp [h62]
  cases r with
  | nil =>
   have HTT : Hid (T = (toldR (c0 :: F) [],sc.fsd (sc.fs ++ [(6,E.N)]),[])) := by
    show T = _;rw [<- HT.out];unfold endOpenR;rw [hcv,jq (by rw [hlt];decide),jq h62,jp rfl];rfl
   have g0 : decide (cv < 0) = true := zm (by rw [<- hcv];decide);clear hcv h62;go_enter Tryz.func67,Tryz.ntmps67;go_wp2_with fail;refine twx K0.out.c fun W1 K1 hx1 => ?_;rw [HCV.out];go_wp2_with fail;refine ltx cv _ ?_;have c2 : W1.cell? (jd x 2) = some (ji E.N) := by obtain ⟨fv,h1⟩ := K1.out.tm;exact h1.cells 2 _ rfl
   go_wp2_with fail;refine (K1.out.tfl 6 E.N (by have := HB.out;omega)).mono ?_;rintro e W2 ⟨rfl,k'⟩;have K2 := hid k';have hx2 := k'.lt;clear k' c2;have kcm := told_any K2.out.tm (F := c0 :: F) List.nil_suffix HFr.out.1;rw [HPF.out] at kcm;go_wp2_with fail;refine tokx kcm K2.out fun ao n9 cap w9 H9 => ?_;clear kcm;go_wp2_with fail;go_ret;rw [HTT.out];exact H9.out
  | cons c t =>
   have hc0 : 0 <= cv := by rw [<- hcv];exact HFr.out.2.2 c (by simp)
   have g0 : decide (cv < 0) = false := zn (by omega);have HTT : Hid (T = bogusR (c0 :: F) (sc.fsd (sc.fs ++ [(14,frN E.N (c :: t))])) (c :: t)) := by
    show T = _;rw [<- HT.out];unfold endOpenR;rw [hcv,jq (by rw [hlt];decide),jq h62,jq (by simp)];rfl
   clear hcv h62 hc0;go_enter Tryz.func67,Tryz.ntmps67;go_wp2_with fail;refine twx K0.out.c fun W1 K1 hx1 => ?_;rw [HCV.out];go_wp2_with fail;refine ltx cv _ ?_;go_wp2_with fail;refine twx K1.out.byteAt fun W2 K2 hx2 => ?_;obtain ⟨av,hav⟩ := ex (frN E.N (c :: t));have HAV := hid hav;rw [hav];clear hav;go_wp2_with fail;refine twx (K2.out.tfl 14 av (by have := HB.out;omega)) fun W3 K3 hx3 => ?_;have kcm := bogus_any' K3.out.tm HFr.out.1 HFr.out.2.1 HFr.out.2.2;rw [HPF.out] at kcm;go_wp2_with fail;refine tokx kcm K3.out fun ao n9 cap w9 H9 => ?_;clear kcm;go_wp2_with fail;go_ret;rw [HTT.out,HAV.out];exact H9.out
theorem open_any' (hdoc : DocAny) (htag : TagAny) {S : Nat -> Prop} {x : Nat} {E : Env} {c0 : Ch} {r : List Ch} {sc : Sc} {dn : Bool} {w : World} (h : Tm S x E (c0 :: r) sc dn w) (hpos : ∀ d ∈ r,0 <= d.r) (hB : sc.fs.length + 8 * r.length + 16 <= 1000000000) : Calls Tryz.prog 45 #[mp x] w (Tokd S x E (openR E.N E.fo (c0 :: r) sc r) dn w) := by
 have K0 : Hid (TW S x E (c0 :: r) sc dn w w) := TW.start h
 have hxw := h.lt
 obtain ⟨T,hT⟩ := ex (openR E.N E.fo (c0 :: r) sc r)
 have HT := hid hT
 rw [hT]
 have HFr : Hid (c0 :: r <:+ E.L /\ r <:+ r /\ (∀ d ∈ r,0 <= d.r)) := ⟨K0.out.facts.2.1,List.suffix_refl _,hpos⟩
 have HB := hid hB
 have HDD : Hid DocAny := @hdoc
 have HD : Hid TagAny := @htag
 obtain ⟨cv,hcv⟩ := ex (hd r)
 have HCV := hid hcv
 obtain ⟨a1,a2,a3,a4,_⟩ := K0.out.at
 obtain ⟨pF,hpF⟩ := ex (pos E (c0 :: r))
 have HPF := hid hpF
 have KA0 : TW S x E r sc dn w (w.setCell (jd x 1) (ji (pos E (c0 :: r) + 1))) := K0.out.adv
 rw [hpF] at a1 a3 a4 KA0
 obtain ⟨W0,hW0⟩ := ex (w.setCell (jd x 1) (ji (pF + 1)))
 have HW0 := hid hW0
 rw [hW0] at KA0
 clear K0
 have K0 := hid KA0
 have hx0 := KA0.lt
 clear h hpos hpF hT hB hdoc htag KA0 hW0
 have hcase : cv = 33 \/ cv = 47 \/ (cv ≠ 33 /\ cv ≠ 47) := by omega
 rcases hcase with h33 | h47 | hno
 · have g33 : (cv == 33) = true := by simp [h33]
   cases r with
   | nil => rw [<- hcv] at h33;exact absurd h33 (by decide)
   | cons c t =>
    have HTT : Hid (T = markupR E.N E.fo (c0 :: c :: t) sc t) := by
     show T = _;rw [<- HT.out];unfold openR;rw [hcv,jp h33];rfl
    have HSU : Hid (t <:+ c :: t) := zl _ _;have HPS : Hid (pos E (c :: t) + 1 = pos E t) := pos_cons.symm;clear hcv h33;go_enter Tryz.func45,Tryz.ntmps45;go_wp2_with fail;rw [HW0.out];go_wp2_with fail;refine twx K0.out.c fun W1 K1 hx1 => ?_;rw [HCV.out];obtain ⟨pq,a1,a2,a3,a4,KA⟩ := K1.out.gox (r' := t) (HSU.out.trans ((zl _ _).trans HFr.out.1)) 1 (HPS.out);have kcm := markup_any' HDD.out KA.out.tm HFr.out.1 HSU.out (suf_pos (zl _ _) HFr.out.2.2) (by have := HB.out;omega);rw [HPF.out] at kcm;go_wp2_with fail;refine tokx kcm KA.out fun ao n9 cap w9 H9 => ?_;clear kcm;go_wp2_with fail;go_ret;rw [HTT.out];exact H9.out
 · have g33 : (cv == 33) = false := by simp [h47]
   have g47 : (cv == 47) = true := by simp [h47]
   cases r with
   | nil => rw [<- hcv] at h47;exact absurd h47 (by decide)
   | cons c t =>
    have HTT : Hid (T = endOpenR E.N (c0 :: c :: t) sc t) := by
     show T = _;rw [<- HT.out];unfold openR;rw [hcv,jq (by omega),jp h47];rfl
    have HSU : Hid (t <:+ c :: t) := zl _ _;have HPS : Hid (pos E (c :: t) + 1 = pos E t) := pos_cons.symm;clear hcv h47;go_enter Tryz.func45,Tryz.ntmps45;go_wp2_with fail;rw [HW0.out];go_wp2_with fail;refine twx K0.out.c fun W1 K1 hx1 => ?_;rw [HCV.out];obtain ⟨pq,a1,a2,a3,a4,KA⟩ := K1.out.gox (r' := t) (HSU.out.trans ((zl _ _).trans HFr.out.1)) 1 (HPS.out);have kcm := endOpen_any' HD.out KA.out.tm HFr.out.1 HSU.out (suf_pos (zl _ _) HFr.out.2.2) (by have := HB.out;simp only [zi] at this;omega);rw [HPF.out] at kcm;go_wp2_with fail;refine tokx kcm KA.out fun ao n9 cap w9 H9 => ?_;clear kcm;go_wp2_with fail;go_ret;rw [HTT.out];exact H9.out
 have g33 : (cv == 33) = false := by simp;omega
 have g47 : (cv == 47) = false := by simp;omega
 cases hlt : ltr cv with
 | true =>
  have HTT : Hid (T = tagR E.N (c0 :: r) 2 sc r) := by
   show T = _;rw [<- HT.out];unfold openR;rw [hcv,jq (by omega),jq (by omega),jp hlt]
  clear hcv hno;go_enter Tryz.func45,Tryz.ntmps45;go_wp2_with fail;rw [HW0.out];go_wp2_with fail;refine twx K0.out.c fun W1 K1 hx1 => ?_;rw [HCV.out];go_wp2_with fail;refine ltx cv _ ?_;have kcm := HD.out K1.out.tm HFr.out.1 HFr.out.2.1 HFr.out.2.2 HB.out 2 (.inl rfl);rw [HPF.out] at kcm;go_wp2_with fail;refine tokx kcm K1.out fun ao n9 cap w9 H9 => ?_;clear kcm;go_wp2_with fail;go_ret;rw [HTT.out];exact H9.out
 | false =>
  by_cases h63 : cv = 63
  · have g63 : (cv == 63) = true := by simp [h63]
    have HTT : Hid (T = bogusR (c0 :: r) (sc.fsd (sc.fs ++ [(14,frN E.N r)])) r) := by
     show T = _;rw [<- HT.out];unfold openR;rw [hcv,jq (by omega),jq (by omega),jq (by rw [hlt];decide),jp h63];rfl
    clear hcv hno h63;go_enter Tryz.func45,Tryz.ntmps45;go_wp2_with fail;rw [HW0.out];go_wp2_with fail;refine twx K0.out.c fun W1 K1 hx1 => ?_;rw [HCV.out];go_wp2_with fail;refine ltx cv _ ?_;go_wp2_with fail;refine twx K1.out.byteAt fun W2 K2 hx2 => ?_;obtain ⟨av,hav⟩ := ex (frN E.N r);have HAV := hid hav;rw [hav];clear hav;go_wp2_with fail;refine twx (K2.out.tfl 14 av (by have := HB.out;omega)) fun W3 K3 hx3 => ?_;have kcm := bogus_any' K3.out.tm HFr.out.1 HFr.out.2.1 HFr.out.2.2;rw [HPF.out] at kcm;go_wp2_with fail;refine tokx kcm K3.out fun ao n9 cap w9 H9 => ?_;clear kcm;go_wp2_with fail;go_ret;rw [HTT.out,HAV.out];exact H9.out
  have g63 : (cv == 63) = false := by simp [h63]
  have HTT : Hid (T = (toldR (c0 :: r) r,sc.fsd (sc.fs ++ [(5,frN E.N r)]),r)) := by
   show T = _;rw [<- HT.out];unfold openR;rw [hcv,jq (by omega),jq (by omega),jq (by rw [hlt];decide),jq h63];rfl
  clear hcv hno h63;go_enter Tryz.func45,Tryz.ntmps45;go_wp2_with fail;rw [HW0.out];go_wp2_with fail;refine twx K0.out.c fun W1 K1 hx1 => ?_;rw [HCV.out];go_wp2_with fail;refine ltx cv _ ?_;go_wp2_with fail;refine twx K1.out.byteAt fun W2 K2 hx2 => ?_;obtain ⟨av,hav⟩ := ex (frN E.N r);have HAV := hid hav;rw [hav];clear hav;go_wp2_with fail;refine twx (K2.out.tfl 5 av (by have := HB.out;omega)) fun W3 K3 hx3 => ?_;have kcm := told_any K3.out.tm (F := c0 :: r) (zl _ _) HFr.out.1;rw [HPF.out] at kcm;go_wp2_with fail;refine tokx kcm K3.out fun ao n9 cap w9 H9 => ?_;clear kcm;go_wp2_with fail;go_ret;rw [HTT.out,HAV.out];exact H9.out
theorem empty_is (h : v.toList = []) : (v.toList == ([] : jl)) = true /\ v.toList.isEmpty = true := by rw [h];exact ⟨rfl,rfl⟩
theorem empty_is_not (h : v.toList ≠ []) : (v.toList == ([] : jl)) = false /\ v.toList.isEmpty = false := by
 refine ⟨beq_false_of_ne h,?_⟩
 cases e : v.toList with
 | nil => exact absurd e h
 | cons a b => rfl
theorem enc_ne (r : Int) : enc r ≠ [] := by
 by_cases h0 : 0 <= r /\ r < 128
 · rw [enc_low h0.1 h0.2];simp
 exact (enc_all h0).1
theorem lows_nil {l : List Ch} : lows l = [] ↔ l = [] := by
 constructor
 · intro h
   cases l with
   | nil => rfl
   | cons c t =>
    unfold lows at h;rw [List.flatMap_cons,List.append_eq_nil_iff] at h;exact absurd h.1 (enc_ne _)
 rintro rfl
 rfl
theorem raw_any' (htag : TagAny) {S : Nat -> Prop} {x : Nat} {E : Env} {c0 : Ch} {r : List Ch} {sc : Sc} {dn : Bool} {w : World} (h : Tm S x E (c0 :: r) sc dn w) (hpos : ∀ d ∈ r,0 <= d.r) (hB : sc.fs.length + 8 * r.length + 16 <= 1000000000) : Calls Tryz.prog 46 #[mp x] w (Tokd S x E (rawR E.N (c0 :: r) sc r) dn w) := by
 have K0 : Hid (TW S x E (c0 :: r) sc dn w w) := TW.start h
 have hxw := h.lt
 obtain ⟨T,hT⟩ := ex (rawR E.N (c0 :: r) sc r)
 have HT := hid hT
 rw [hT]
 have HFr : Hid (c0 :: r <:+ E.L /\ r <:+ r /\ (∀ d ∈ r,0 <= d.r)) := ⟨K0.out.facts.2.1,List.suffix_refl _,hpos⟩
 have HL5 : Hid (r.length <= 100000) := by have h1 := K0.out.facts;have h2 := h1.2.1.length_le;simp only [zi] at h2;show _ <= _;omega
 have HB := hid hB
 have HD : Hid TagAny := @htag
 obtain ⟨cv,hcv⟩ := ex (hd r)
 have HCV := hid hcv
 obtain ⟨a1,a2,a3,a4,_⟩ := K0.out.at
 obtain ⟨pF,hpF⟩ := ex (pos E (c0 :: r))
 have HPF := hid hpF
 have KA0 : TW S x E r sc dn w (w.setCell (jd x 1) (ji (pos E (c0 :: r) + 1))) := K0.out.adv
 rw [hpF] at a1 a3 a4 KA0
 obtain ⟨W0,hW0⟩ := ex (w.setCell (jd x 1) (ji (pF + 1)))
 have HW0 := hid hW0
 rw [hW0] at KA0
 clear K0
 have K0 := hid KA0
 have hx0 := KA0.lt
 have hpf0 : 0 <= pF := a3
 have hpf1 : pF <= 100000 := a4
 clear h hpos hpF hT hB htag KA0 hW0
 by_cases h47 : cv = 47
 · have g47 : (cv != 47) = false := by simp [h47]
   cases r with
   | nil => rw [<- hcv] at h47;exact absurd h47 (by decide)
   | cons c t =>
    obtain ⟨Q,hQ⟩ := ex (lows (t.takeWhile isL));obtain ⟨R,hR⟩ := ex (t.dropWhile isL);have HTT : Hid ((if Q ≠ [] /\ Q = sc.last.data.toList /\ (blk (hd R) = true \/ hd R = 47 \/ hd R = 62) then tagR E.N (c0 :: c :: t) 3 sc t else (toldR (c0 :: c :: t) R,sc,R)) = T) := by
     show _ = T;rw [<- HT.out];unfold rawR;rw [hcv,jp h47];subst hQ hR;by_cases hh : t.takeWhile isL ≠ [] /\ lows (t.takeWhile isL) = sc.last.data.toList /\ (blk (hd (t.dropWhile isL)) = true \/ hd (t.dropWhile isL) = 47 \/ hd (t.dropWhile isL) = 62)
     · have hh' : lows (t.takeWhile isL) ≠ [] /\ lows (t.takeWhile isL) = sc.last.data.toList /\ (blk (hd (t.dropWhile isL)) = true \/ hd (t.dropWhile isL) = 47 \/ hd (t.dropWhile isL) = 62) := ⟨fun e => hh.1 (lows_nil.1 e),hh.2⟩
       rw [jp hh'];exact (jp hh).symm
     have hh' : ¬ (lows (t.takeWhile isL) ≠ [] /\ lows (t.takeWhile isL) = sc.last.data.toList /\ (blk (hd (t.dropWhile isL)) = true \/ hd (t.dropWhile isL) = 47 \/ hd (t.dropWhile isL) = 62)) := fun h => hh ⟨fun e => h.1 (lows_nil.2 e),h.2⟩;rw [jq hh'];exact (jq hh).symm
    have HQ := yc hQ hR;have HRt : Hid (R <:+ t) := by show _ <:+ _;rw [<- hR];exact List.dropWhile_suffix _
    have HSU : Hid (t <:+ c :: t) := zl _ _;have HPS : Hid (pos E (c :: t) + 1 = pos E t) := pos_cons.symm;have HP2 : Hid (pF + 2 = pos E t) := by
     show _ = _;rw [<- HPF.out];exact pos_drop (n := 2) (r := c0 :: c :: t) (by simp)
    have gm : ltr (-1) = false := by decide
    clear hcv h47 hQ hR;go_enter Tryz.func46,Tryz.ntmps46;go_wp2_with fail;rw [HW0.out];go_wp2_with fail;refine twx K0.out.c fun W1 K1 hx1 => ?_;rw [HCV.out];obtain ⟨pq,a1,a2,a3,a4,KA⟩ := K1.out.gox (r' := t) (HSU.out.trans ((zl _ _).trans HFr.out.1)) 1 (HPS.out);obtain ⟨WQ,hWQ⟩ := ex (W1.setCell (jd x 1) (ji (pq + 1)));have HWQ := hid hWQ;rw [hWQ] at KA;have hxq := KA.out.lt;clear hWQ;go_wp2_with fail;rw [HWQ.out];go_wp2_with fail;go_loopw [4] (fun sv wr => ∃ (q : jl) (r' : List Ch),sv = .string (bs q) /\ q ++ lows (r'.takeWhile isL) = Q /\ r'.dropWhile isL = R /\ r' <:+ t /\ q.length <= 4 * (t.length - r'.length) /\ TW S x E r' sc dn w wr) (fun _ wr => E.L.length - atOf x wr)
    case atStart => exact ⟨[],t,rfl,HQ.out.1,HQ.out.2,List.suffix_refl _,Nat.zero_le _,KA.out⟩
    obtain ⟨q,r',rfl,hq,hR,hsr,hql,hk⟩ := hrel;clear K0 K1 KA;have K0 := hid hk;have hxr := hk.lt;obtain ⟨sv,hsv⟩ := ex (bs q);have hsz : sv.size <= 400000 := by
     rw [<- hsv,bs_size];have := HL5.out;simp only [zi] at this;omega
    have HV := hid hsv;rw [hsv];by_cases hl : ∃ d u,r' = d :: u /\ ltr d.r = true
    · obtain ⟨⟨cr,ca,cz⟩,u,rfl,hl⟩ := hl
      have hl' : ltr cr = true := hl;have HN : Hid ((q ++ enc (lowr cr)) ++ lows (u.takeWhile isL) = Q /\ u.dropWhile isL = R /\ u <:+ t /\ (q ++ enc (lowr cr)).length <= 4 * (t.length - u.length)) := by
       have hg : isL ⟨cr,ca,cz⟩ = true := hl;rw [List.takeWhile_cons,hg] at hq;rw [List.dropWhile_cons,hg] at hR;refine ⟨?_,by simpa using hR,(zl _ _).trans hsr,?_⟩
       · rw [<- hq]
         simp [lows]
       have := enc_len (lowr cr);have h5 := hsr.length_le;simp only [zi,zh] at h5 hql |-;omega
      have HM : Hid (E.L.length - atOf x wr = u.length + 1) := hk.meas;have HSU2 : Hid (u <:+ E.L) := ((zl _ _).trans hsr).trans ((HSU.out.trans (zl _ _)).trans HFr.out.1);clear hk hq hR hsr hql hsv hl;go_wp2_with fail;refine twx K0.out.cc fun W1 K1 hx1 => ?_;go_wp2_with fail;refine ltx cr _ ?_;go_wp2_with fail;refine twx K1.out.cc fun W2 K2 hx2 => ?_;go_wp2_with fail;refine (lower_any' cr _).mono ?_;rintro e W3 ⟨rfl,b4⟩;have K3 := hid (K2.out.below b4);have hx3 := K3.out.lt;obtain ⟨ev,hev⟩ := ex (bs (enc (lowr cr)));have hez : ev.size <= 4 := by rw [<- hev,bs_size];exact enc_len _
      have HEV := hid hev;rw [hev];clear b4 hev;obtain ⟨p3,e1,e2,e3,e4,KB⟩ := K3.out.advx;go_wp2_with fail;go_roundw
      case rel => exact ⟨q ++ enc (lowr cr),u,by rw [<- bs_app,HV.out,HEV.out],HN.out.1,HN.out.2.1,HN.out.2.2.1,HN.out.2.2.2,KB.out⟩
      case measure => rw [KB.out.meas,HM.out];omega
    have HRR : Hid (r' = R /\ q = Q) := by
     cases r' with
     | nil => exact ⟨by simpa using hR,by simpa [lows] using hq⟩
     | cons d u =>
      have hg : isL d = false := by
       cases hh : isL d with
       | false => rfl
       | true => exact absurd ⟨d,u,rfl,hh⟩ hl
      rw [List.takeWhile_cons,hg] at hq;rw [List.dropWhile_cons,hg] at hR;exact ⟨by simpa using hR,by simpa [lows] using hq⟩
    have hlv : ltr (hd r') = false := by
     cases r' with
     | nil => decide
     | cons d u =>
      cases hh : ltr d.r with
      | false => exact hh
      | true => exact absurd ⟨d,u,rfl,hh⟩ hl
    clear hl hk hq hR hsr hql hsv;obtain ⟨dv,hdv⟩ := ex (hd r');have HDV := hid hdv;rw [hdv] at hlv;obtain ⟨lv,hlvv⟩ := ex (sc.last);have HLV := hid hlvv;have hsvq : sv.toList = q := by rw [<- HV.out,ByteArray.toList_eq,bs_list]
    have HCQ : Hid ((if sv.toList ≠ [] /\ sv.toList = lv.toList /\ (blk dv = true \/ dv = 47 \/ dv = 62) then tagR E.N (c0 :: c :: t) 3 sc t else (toldR (c0 :: c :: t) r',sc,r')) = T) := by
     have h0 := HTT.out;rw [<- HRR.out.1,<- HRR.out.2,hdv,hlvv] at h0;show _ = T;rw [hsvq,ByteArray.toList_eq lv];exact h0
    have HR3 : Hid (r' <:+ c0 :: c :: t) := by
     show _ <:+ _;rw [HRR.out.1];exact (HRt.out.trans HSU.out).trans (zl _ _)
    clear hdv hlvv hsvq HTT HQ;by_cases hne : sv.toList = []
    · have n1 := (empty_is hne).1
      have n2 := (empty_is hne).2;have HTE : Hid (T = (toldR (c0 :: c :: t) r',sc,r')) := by
       show T = _;rw [<- HCQ.out,jq (fun h => h.1 hne)]
      clear hne HCQ;go_wp2_with fail;refine twx K0.out.c fun W1 K1 hx1 => ?_;rw [HDV.out];go_wp2_with fail;refine ltx dv _ ?_;go_wp2_with fail;refine twx K1.out.c fun W2 K2 hx2 => ?_;rw [HDV.out];have c4 : W2.cell? (jd x 4) = some (.string lv) := by obtain ⟨fv,h1⟩ := K2.out.tm;rw [<- HLV.out];exact h1.cells 4 _ rfl
      have kcm := told_any K2.out.tm (F := c0 :: c :: t) HR3.out HFr.out.1;rw [HPF.out] at kcm;go_wp2_with fail;refine tokx kcm K2.out fun ao n9 cap w9 H9 => ?_;clear kcm;go_wp2_with fail;go_ret;rw [HTE.out];exact H9.out
    have n1 := (empty_is_not hne).1;have n2 := (empty_is_not hne).2;by_cases heq : sv.toList = lv.toList
    · have n3 : (sv.toList == lv.toList) = true := by rw [heq];exact beq_self_eq_true _
      by_cases hb : blk dv = true
      · have HTE : Hid (T = tagR E.N (c0 :: c :: t) 3 sc t) := by
         show T = _;rw [<- HCQ.out,jp ⟨hne,heq,.inl hb⟩]
        clear hne heq HCQ;go_wp2_with fail;refine twx K0.out.c fun W1 K1 hx1 => ?_;rw [HDV.out];go_wp2_with fail;refine ltx dv _ ?_;go_wp2_with fail;refine twx K1.out.c fun W2 K2 hx2 => ?_;rw [HDV.out];have c4 : W2.cell? (jd x 4) = some (.string lv) := by obtain ⟨fv,h1⟩ := K2.out.tm;rw [<- HLV.out];exact h1.cells 4 _ rfl
        go_wp2_with fail;refine rbx dv _ ?_;obtain ⟨b1,b2,_,_,_⟩ := K2.out.at;have KT : Hid (TW S x E t sc dn w (W2.setCell (jd x 1) (ji (pF + 2)))) := K2.out.go (HSU.out.trans ((zl _ _).trans HFr.out.1)) (pF + 2) HP2.out;have kcm := HD.out KT.out.tm HFr.out.1 HSU.out (suf_pos (zl _ _) HFr.out.2.2) (by have := HB.out;simp only [zi] at this;omega) 3 (.inr rfl);rw [HPF.out] at kcm;go_wp2_with fail;refine tokx kcm KT.out fun ao n9 cap w9 H9 => ?_;clear kcm;go_wp2_with fail;go_ret;rw [HTE.out];exact H9.out
      have hb' : blk dv = false := by simpa using hb
      by_cases h7 : dv = 47
      · have g7 : (dv == 47) = true := by simp [h7]
        have HTE : Hid (T = tagR E.N (c0 :: c :: t) 3 sc t) := by
         show T = _;rw [<- HCQ.out,jp ⟨hne,heq,.inr (.inl h7)⟩]
        clear hne heq HCQ hb h7;go_wp2_with fail;refine twx K0.out.c fun W1 K1 hx1 => ?_;rw [HDV.out];go_wp2_with fail;refine ltx dv _ ?_;go_wp2_with fail;refine twx K1.out.c fun W2 K2 hx2 => ?_;rw [HDV.out];have c4 : W2.cell? (jd x 4) = some (.string lv) := by obtain ⟨fv,h1⟩ := K2.out.tm;rw [<- HLV.out];exact h1.cells 4 _ rfl
        go_wp2_with fail;refine rbx dv _ ?_;obtain ⟨b1,b2,_,_,_⟩ := K2.out.at;have KT : Hid (TW S x E t sc dn w (W2.setCell (jd x 1) (ji (pF + 2)))) := K2.out.go (HSU.out.trans ((zl _ _).trans HFr.out.1)) (pF + 2) HP2.out;have kcm := HD.out KT.out.tm HFr.out.1 HSU.out (suf_pos (zl _ _) HFr.out.2.2) (by have := HB.out;simp only [zi] at this;omega) 3 (.inr rfl);rw [HPF.out] at kcm;go_wp2_with fail;refine tokx kcm KT.out fun ao n9 cap w9 H9 => ?_;clear kcm;go_wp2_with fail;go_ret;rw [HTE.out];exact H9.out
      have g7 : (dv == 47) = false := by simp [h7]
      by_cases h2 : dv = 62
      · have g2 : (dv == 62) = true := by simp [h2]
        have HTE : Hid (T = tagR E.N (c0 :: c :: t) 3 sc t) := by
         show T = _;rw [<- HCQ.out,jp ⟨hne,heq,.inr (.inr h2)⟩]
        clear hne heq HCQ hb h7 h2;go_wp2_with fail;refine twx K0.out.c fun W1 K1 hx1 => ?_;rw [HDV.out];go_wp2_with fail;refine ltx dv _ ?_;go_wp2_with fail;refine twx K1.out.c fun W2 K2 hx2 => ?_;rw [HDV.out];have c4 : W2.cell? (jd x 4) = some (.string lv) := by obtain ⟨fv,h1⟩ := K2.out.tm;rw [<- HLV.out];exact h1.cells 4 _ rfl
        go_wp2_with fail;refine rbx dv _ ?_;obtain ⟨b1,b2,_,_,_⟩ := K2.out.at;have KT : Hid (TW S x E t sc dn w (W2.setCell (jd x 1) (ji (pF + 2)))) := K2.out.go (HSU.out.trans ((zl _ _).trans HFr.out.1)) (pF + 2) HP2.out;have kcm := HD.out KT.out.tm HFr.out.1 HSU.out (suf_pos (zl _ _) HFr.out.2.2) (by have := HB.out;simp only [zi] at this;omega) 3 (.inr rfl);rw [HPF.out] at kcm;go_wp2_with fail;refine tokx kcm KT.out fun ao n9 cap w9 H9 => ?_;clear kcm;go_wp2_with fail;go_ret;rw [HTE.out];exact H9.out
      have g2 : (dv == 62) = false := by simp [h2]
      have HTE : Hid (T = (toldR (c0 :: c :: t) r',sc,r')) := by
       show T = _;rw [<- HCQ.out,jq (fun h => h.2.2.elim hb fun h => h.elim h7 h2)]
      clear hne heq HCQ hb h7 h2;go_wp2_with fail;refine twx K0.out.c fun W1 K1 hx1 => ?_;rw [HDV.out];go_wp2_with fail;refine ltx dv _ ?_;go_wp2_with fail;refine twx K1.out.c fun W2 K2 hx2 => ?_;rw [HDV.out];have c4 : W2.cell? (jd x 4) = some (.string lv) := by obtain ⟨fv,h1⟩ := K2.out.tm;rw [<- HLV.out];exact h1.cells 4 _ rfl
      go_wp2_with fail;refine rbx dv _ ?_;have kcm := told_any K2.out.tm (F := c0 :: c :: t) HR3.out HFr.out.1;rw [HPF.out] at kcm;go_wp2_with fail;refine tokx kcm K2.out fun ao n9 cap w9 H9 => ?_;clear kcm;go_wp2_with fail;go_ret;rw [HTE.out];exact H9.out
    have n3 : (sv.toList == lv.toList) = false := beq_false_of_ne heq;have HTE : Hid (T = (toldR (c0 :: c :: t) r',sc,r')) := by
     show T = _;rw [<- HCQ.out,jq (fun h => heq h.2.1)]
    clear hne heq HCQ;go_wp2_with fail;refine twx K0.out.c fun W1 K1 hx1 => ?_;rw [HDV.out];go_wp2_with fail;refine ltx dv _ ?_;go_wp2_with fail;refine twx K1.out.c fun W2 K2 hx2 => ?_;rw [HDV.out];have c4 : W2.cell? (jd x 4) = some (.string lv) := by obtain ⟨fv,h1⟩ := K2.out.tm;rw [<- HLV.out];exact h1.cells 4 _ rfl
    have kcm := told_any K2.out.tm (F := c0 :: c :: t) HR3.out HFr.out.1;rw [HPF.out] at kcm;go_wp2_with fail;refine tokx kcm K2.out fun ao n9 cap w9 H9 => ?_;clear kcm;go_wp2_with fail;go_ret;rw [HTE.out];exact H9.out
 have g47 : (cv != 47) = true := by simp [h47]
 have HTT : Hid (T = (toldR (c0 :: r) r,sc,r)) := by
  show T = _;rw [<- HT.out];unfold rawR;rw [hcv,jq h47]
 clear hcv h47
 go_enter Tryz.func46,Tryz.ntmps46
 go_wp2_with fail
 rw [HW0.out]
 go_wp2_with fail
 refine twx K0.out.c fun W1 K1 hx1 => ?_
 rw [HCV.out]
 have kcm := told_any K1.out.tm (F := c0 :: r) (zl _ _) HFr.out.1
 rw [HPF.out] at kcm
 go_wp2_with fail
 refine tokx kcm K1.out fun ao n9 cap w9 H9 => ?_
 clear kcm
 go_wp2_with fail
 go_ret
 rw [HTT.out]
 exact H9.out
def CdAny : Prop := ∀ {S : Nat -> Prop} {x : Nat} {E : Env} {c : Ch} {t : List Ch} {sc : Sc} {dn : Bool} {w : World} (_ : Tm S x E (c :: t) sc dn w),Calls Tryz.prog 40 #[mp x] w (Tokd S x E (cdR sc (c :: t)) dn w)
theorem next_any' (hcd : CdAny) (hdoc : DocAny) (htag : TagAny) {S : Nat -> Prop} {x : Nat} {E : Env} {cr ca cz : Int} {t : List Ch} {sc : Sc} {w : World} (h : Tm S x E (⟨cr,ca,cz⟩ :: t) sc false w) (hpos : ∀ d ∈ (⟨cr,ca,cz⟩ : Ch) :: t,0 <= d.r) (hB : sc.fs.length + 8 * t.length + 16 <= 1000000000) (hno : sc.cd = true \/ ¬ (cr = 38 /\ (sc.text = 0 \/ sc.text = 1))) : Calls Tryz.prog 25 #[mp x] w (Tokd S x E (nextR E.N E.fo sc (⟨cr,ca,cz⟩ :: t)) false w) := by
 obtain ⟨dn,hdn⟩ := ex (false)
 rw [hdn] at h |-
 have K0 : Hid (TW S x E (⟨cr,ca,cz⟩ :: t) sc dn w w) := TW.start h
 have hxw := h.lt
 have c8 : w.cell? (jd x 8) = some (.bool false) := by obtain ⟨fv,h1⟩ := h;rw [hdn];exact h1.cells 8 _ rfl
 obtain ⟨T,hT⟩ := ex (nextR E.N E.fo sc (⟨cr,ca,cz⟩ :: t))
 have HT := hid hT
 rw [hT]
 have HFr : Hid (⟨cr,ca,cz⟩ :: t <:+ E.L /\ ∀ d ∈ t,0 <= d.r) := ⟨K0.out.facts.2.1,fun d hd => hpos d (List.mem_cons_of_mem _ hd)⟩
 have HB := hid hB
 have HCD : Hid CdAny := @hcd
 have HDD : Hid DocAny := @hdoc
 have HD : Hid TagAny := @htag
 have hc0 : 0 <= cr := hpos ⟨cr,ca,cz⟩ (by simp)
 have gc0 : decide (cr < 0) = false := zn (by omega)
 obtain ⟨tx,htx⟩ := ex (sc.text)
 have HTX := hid htx
 obtain ⟨pF,hpF⟩ := ex (pos E (⟨cr,ca,cz⟩ :: t))
 have HPF := hid hpF
 clear h hpos hT hB hcd hdoc htag hdn hpF
 go_enter Tryz.func25,Tryz.ntmps25
 go_wp2_with fail
 refine K0.out.cc.mono ?_
 rintro e W1 ⟨rfl,k'⟩
 have K1 := hid k'
 have hx1 := k'.lt
 obtain ⟨a1,a2,a3,a4,_⟩ := k'.at
 rw [HPF.out] at a1 a3 a4
 have c3 : W1.cell? (jd x 3) = some (ji tx) := by obtain ⟨fv,h1⟩ := k'.tm;rw [<- htx];exact h1.cells 3 _ rfl
 have KA : Hid (TW S x E t sc dn w (W1.setCell (jd x 1) (ji (pF + 1)))) := by rw [<- HPF.out];exact k'.adv
 cases hcdv : sc.cd with
 | true =>
  have c7 : W1.cell? (jd x 7) = some (.bool true) := by obtain ⟨fv,h1⟩ := k'.tm;rw [<- hcdv];exact h1.cells 7 _ rfl
  have HTT : Hid (T = cdR sc (⟨cr,ca,cz⟩ :: t)) := by
   show T = _;rw [<- HT.out];unfold nextR;rw [jp hcdv]
  clear k' htx hno hcdv hc0;have kcm := HCD.out K1.out.tm;go_wp2_with fail;refine tokx kcm K1.out fun ao n9 cap w9 H9 => ?_;clear kcm;go_wp2_with fail;go_ret;rw [HTT.out];exact H9.out
 | false =>
  have c7 : W1.cell? (jd x 7) = some (.bool false) := by obtain ⟨fv,h1⟩ := k'.tm;rw [<- hcdv];exact h1.cells 7 _ rfl
  have hn38 : ¬ (cr = 38 /\ (sc.text = 0 \/ sc.text = 1)) := hno.elim (fun h => absurd h (by rw [hcdv];decide)) id;have HT1 : Hid ((if cr = 60 /\ sc.text = 0 then openR E.N E.fo (⟨cr,ca,cz⟩ :: t) sc t else if cr = 60 /\ sc.text ≠ 3 then rawR E.N (⟨cr,ca,cz⟩ :: t) sc t else (toldR (⟨cr,ca,cz⟩ :: t) t,sc,t)) = T) := by
   show _ = T;rw [<- HT.out];unfold nextR;rw [jq (show ¬ sc.cd = true by rw [hcdv];decide),jq (show ¬ (hd (⟨cr,ca,cz⟩ :: t) = 38 /\ (sc.text = 0 \/ sc.text = 1)) from hn38)];rfl
  rw [htx] at hn38;by_cases h60 : cr = 60
  · have g38 : (cr == 38) = false := by simp [h60]
    have g60 : (cr == 60) = true := by simp [h60]
    by_cases ht0 : tx = 0
    · have gt0 : (tx == 0) = true := by simp [ht0]
      have HTT : Hid (T = openR E.N E.fo (⟨cr,ca,cz⟩ :: t) sc t) := by
       show T = _;rw [<- HT1.out,jp ⟨h60,by rw [htx];exact ht0⟩]
      clear k' htx hno hcdv hc0 hn38 h60 ht0;have kcm := open_any' HDD.out HD.out K1.out.tm HFr.out.2 HB.out;go_wp2_with fail;refine tokx kcm K1.out fun ao n9 cap w9 H9 => ?_;clear kcm;go_wp2_with fail;go_ret;rw [HTT.out];exact H9.out
    have gt0 : (tx == 0) = false := by simp [ht0]
    by_cases ht3 : tx = 3
    · have gt3 : (tx != 3) = false := by simp [ht3]
      have HTT : Hid (T = (toldR (⟨cr,ca,cz⟩ :: t) t,sc,t)) := by
       show T = _;rw [<- HT1.out,jq (fun h => ht0 (by rw [<- htx];exact h.2)),jq (fun h => h.2 (by rw [htx];exact ht3))]
      clear k' htx hno hcdv hc0 hn38 h60 ht0 ht3;have kcm := told_any KA.out.tm (F := ⟨cr,ca,cz⟩ :: t) (zl _ _) HFr.out.1;rw [HPF.out] at kcm;go_wp2_with fail;refine tokx kcm KA.out fun ao n9 cap w9 H9 => ?_;clear kcm;go_wp2_with fail;go_ret;rw [HTT.out];exact H9.out
    have gt3 : (tx != 3) = true := by simp [ht3]
    have HTT : Hid (T = rawR E.N (⟨cr,ca,cz⟩ :: t) sc t) := by
     show T = _;rw [<- HT1.out,jq (fun h => ht0 (by rw [<- htx];exact h.2)),jp ⟨h60,fun h => ht3 (by rw [<- htx];exact h)⟩]
    clear k' htx hno hcdv hc0 hn38 h60 ht0 ht3;have kcm := raw_any' HD.out K1.out.tm HFr.out.2 HB.out;go_wp2_with fail;refine tokx kcm K1.out fun ao n9 cap w9 H9 => ?_;clear kcm;go_wp2_with fail;go_ret;rw [HTT.out];exact H9.out
  have g60 : (cr == 60) = false := by simp [h60]
  have HTT : Hid (T = (toldR (⟨cr,ca,cz⟩ :: t) t,sc,t)) := by
   show T = _;rw [<- HT1.out,jq (fun h => h60 h.1),jq (fun h => h60 h.1)]
  by_cases h38 : cr = 38
  · have g38 : (cr == 38) = true := by simp [h38]
    have gt0 : (tx == 0) = false := by simp;exact fun h => hn38 ⟨h38,.inl h⟩
    have gt1 : (tx == 1) = false := by simp;exact fun h => hn38 ⟨h38,.inr h⟩
    clear k' htx hno hcdv hc0 hn38 h60 h38;have kcm := told_any KA.out.tm (F := ⟨cr,ca,cz⟩ :: t) (zl _ _) HFr.out.1;rw [HPF.out] at kcm;go_wp2_with fail;refine tokx kcm KA.out fun ao n9 cap w9 H9 => ?_;clear kcm;go_wp2_with fail;go_ret;rw [HTT.out];exact H9.out
  have g38 : (cr == 38) = false := by simp [h38]
  clear k' htx hno hcdv hc0 hn38 h60 h38;have kcm := told_any KA.out.tm (F := ⟨cr,ca,cz⟩ :: t) (zl _ _) HFr.out.1;rw [HPF.out] at kcm;go_wp2_with fail;refine tokx kcm KA.out fun ao n9 cap w9 H9 => ?_;clear kcm;go_wp2_with fail;go_ret;rw [HTT.out];exact H9.out
theorem next_ref (h : Tm S x E (⟨cr,ca,cz⟩ :: t) sc false w) (hpos : ∀ d ∈ (⟨cr,ca,cz⟩ : Ch) :: t,0 <= d.r) (hB : sc.fs.length + 8 * t.length + 16 <= 1000000000) (hcd : sc.cd = false) (h38 : cr = 38) (htt : sc.text = 0 \/ sc.text = 1) : Calls Tryz.prog 25 #[mp x] w (Tokd S x E (nextR E.N E.fo sc (⟨cr,ca,cz⟩ :: t)) false w) := by
 obtain ⟨dn,hdn⟩ := ex (false)
 rw [hdn] at h |-
 have K0 : Hid (TW S x E (⟨cr,ca,cz⟩ :: t) sc dn w w) := TW.start h
 have hxw := h.lt
 have c8 : w.cell? (jd x 8) = some (.bool false) := by obtain ⟨fv,h1⟩ := h;rw [hdn];exact h1.cells 8 _ rfl
 obtain ⟨T,hT⟩ := ex (nextR E.N E.fo sc (⟨cr,ca,cz⟩ :: t))
 have HT : Hid ((if (refR false (⟨cr,ca,cz⟩ :: t)).2.1 = 0 then (toldR (⟨cr,ca,cz⟩ :: t) t,sc.fsd (sc.fs ++ Mc.refFaults (⟨cr,ca,cz⟩ :: t) (refR false (⟨cr,ca,cz⟩ :: t)).2.1 (refR false (⟨cr,ca,cz⟩ :: t)).2.2),t) else ([chT true ⟨(refR false (⟨cr,ca,cz⟩ :: t)).1,ca,Mc.toAt (⟨cr,ca,cz⟩ :: t) ((refR false (⟨cr,ca,cz⟩ :: t)).2.1 - 1)⟩],sc.fsd (sc.fs ++ Mc.refFaults (⟨cr,ca,cz⟩ :: t) (refR false (⟨cr,ca,cz⟩ :: t)).2.1 (refR false (⟨cr,ca,cz⟩ :: t)).2.2),(⟨cr,ca,cz⟩ :: t : List Ch).drop (refR false (⟨cr,ca,cz⟩ :: t)).2.1)) = T) := by
  show _ = T;rw [<- hT];unfold nextR;rw [jq (show ¬ sc.cd = true by rw [hcd];decide),jp (show hd (⟨cr,ca,cz⟩ :: t) = 38 /\ (sc.text = 0 \/ sc.text = 1) from ⟨h38,htt⟩)];rfl
 rw [hT]
 have HFr : Hid (⟨cr,ca,cz⟩ :: t <:+ E.L /\ ∀ d ∈ (⟨cr,ca,cz⟩ : Ch) :: t,0 <= d.r) := ⟨K0.out.facts.2.1,hpos⟩
 have HB : Hid (sc.fs.length + 3 <= 1000000000) := by show _ <= _;omega
 have hc0 : 0 <= cr := by omega
 have gc0 : decide (cr < 0) = false := zn (by omega)
 have g38 : (cr == 38) = true := by simp [h38]
 obtain ⟨tx,htx⟩ := ex (sc.text)
 have HTX : Hid (sc.text = tx /\ sc.cd = false) := ⟨htx,hcd⟩
 rw [htx] at htt
 obtain ⟨pF,hpF⟩ := ex (pos E (⟨cr,ca,cz⟩ :: t))
 have HPF : Hid (pos E (⟨cr,ca,cz⟩ :: t) = pF) := hpF
 have hnn := refR_nn false (⟨cr,ca,cz⟩ :: t)
 have kr := fun W (hW : TW S x E (⟨cr,ca,cz⟩ :: t) sc dn w W) => hW.tref HFr.out.2 false HB.out
 have hrl := refR_len false (⟨cr,ca,cz⟩ :: t)
 obtain ⟨FF,hFF⟩ := ex (sc.faults (Mc.refFaults (⟨cr,ca,cz⟩ :: t) (refR false (⟨cr,ca,cz⟩ :: t)).2.1 (refR false (⟨cr,ca,cz⟩ :: t)).2.2))
 have HFF : Hid (sc.fsd (sc.fs ++ Mc.refFaults (⟨cr,ca,cz⟩ :: t) (refR false (⟨cr,ca,cz⟩ :: t)).2.1 (refR false (⟨cr,ca,cz⟩ :: t)).2.2) = FF) := hFF
 simp only [hFF] at kr
 clear h hpos hT hB hdn hpF hcd h38 htx hc0
 by_cases hn0 : (refR false (⟨cr,ca,cz⟩ :: t)).2.1 = 0
 · have HTT : Hid (T = (toldR (⟨cr,ca,cz⟩ :: t) t,FF,t)) := by
    show T = _;rw [<- HT.out,jp hn0,HFF.out]
   simp only [jp hn0] at kr;simp only [hn0,List.drop_zero] at kr;clear hn0 hFF hnn hrl;rcases htt with ht | ht
   · have gt0 : (tx == 0) = true := by simp [ht]
     clear ht;go_enter Tryz.func25,Tryz.ntmps25;go_wp2_with fail;refine K0.out.cc.mono ?_;rintro e W1 ⟨rfl,k'⟩;have K1 : Hid (TW S x E (⟨cr,ca,cz⟩ :: t) sc dn w W1) := k';have hx1 := k'.lt;obtain ⟨a1,_,_,_,_⟩ := k'.at;rw [HPF.out] at a1;have c3 : W1.cell? (jd x 3) = some (ji tx) := by obtain ⟨fv,h1⟩ := k'.tm;rw [<- HTX.out.1];exact h1.cells 3 _ rfl
     have c7 : W1.cell? (jd x 7) = some (.bool false) := by obtain ⟨fv,h1⟩ := k'.tm;rw [<- HTX.out.2];exact h1.cells 7 _ rfl
     clear k';go_wp2_with fail;refine K1.out.ba.mono ?_;rintro e W2 ⟨rfl,k'⟩;have K2 : Hid (TW S x E (⟨cr,ca,cz⟩ :: t) sc dn w W2) := k';have hx2 := k'.lt;clear k' a1 c3 c7;go_wp2_with fail;refine (kr _ K2.out).mono ?_;rintro e W3 ⟨rfl,k'⟩;have K3 : Hid (TW S x E (⟨cr,ca,cz⟩ :: t) FF dn w W3) := k';have hx3 := k'.lt;clear k' kr;obtain ⟨a1,a2,a3,a4,_⟩ := K3.out.at;rw [HPF.out] at a1 a3 a4;have KA : Hid (TW S x E t FF dn w (W3.setCell (jd x 1) (ji (pF + 1)))) := by rw [<- HPF.out];exact K3.out.adv
     have kcm := told_any KA.out.tm (F := ⟨cr,ca,cz⟩ :: t) (zl _ _) HFr.out.1;rw [HPF.out] at kcm;go_wp2_with fail;refine tokx kcm KA.out fun ao n9 cap w9 H9 => ?_;clear kcm;go_wp2_with fail;go_ret;rw [HTT.out];exact H9.out
   have gt0 : (tx == 0) = false := by simp [ht]
   have gt1 : (tx == 1) = true := by simp [ht]
   clear ht;go_enter Tryz.func25,Tryz.ntmps25;go_wp2_with fail;refine K0.out.cc.mono ?_;rintro e W1 ⟨rfl,k'⟩;have K1 : Hid (TW S x E (⟨cr,ca,cz⟩ :: t) sc dn w W1) := k';have hx1 := k'.lt;obtain ⟨a1,_,_,_,_⟩ := k'.at;rw [HPF.out] at a1;have c3 : W1.cell? (jd x 3) = some (ji tx) := by obtain ⟨fv,h1⟩ := k'.tm;rw [<- HTX.out.1];exact h1.cells 3 _ rfl
   have c7 : W1.cell? (jd x 7) = some (.bool false) := by obtain ⟨fv,h1⟩ := k'.tm;rw [<- HTX.out.2];exact h1.cells 7 _ rfl
   clear k';go_wp2_with fail;refine K1.out.ba.mono ?_;rintro e W2 ⟨rfl,k'⟩;have K2 : Hid (TW S x E (⟨cr,ca,cz⟩ :: t) sc dn w W2) := k';have hx2 := k'.lt;clear k' a1 c3 c7;go_wp2_with fail;refine (kr _ K2.out).mono ?_;rintro e W3 ⟨rfl,k'⟩;have K3 : Hid (TW S x E (⟨cr,ca,cz⟩ :: t) FF dn w W3) := k';have hx3 := k'.lt;clear k' kr;obtain ⟨a1,a2,a3,a4,_⟩ := K3.out.at;rw [HPF.out] at a1 a3 a4;have KA : Hid (TW S x E t FF dn w (W3.setCell (jd x 1) (ji (pF + 1)))) := by rw [<- HPF.out];exact K3.out.adv
   have kcm := told_any KA.out.tm (F := ⟨cr,ca,cz⟩ :: t) (zl _ _) HFr.out.1;rw [HPF.out] at kcm;go_wp2_with fail;refine tokx kcm KA.out fun ao n9 cap w9 H9 => ?_;clear kcm;go_wp2_with fail;go_ret;rw [HTT.out];exact H9.out
 obtain ⟨rr,hrr⟩ := ex ((⟨cr,ca,cz⟩ :: t : List Ch).drop (refR false (⟨cr,ca,cz⟩ :: t)).2.1)
 obtain ⟨ro,hro⟩ := ex ((refR false (⟨cr,ca,cz⟩ :: t)).1)
 obtain ⟨z,hz⟩ := ex (Mc.toAt (⟨cr,ca,cz⟩ :: t) ((refR false (⟨cr,ca,cz⟩ :: t)).2.1 - 1))
 have HTT : Hid (T = ([chT true ⟨ro,ca,z⟩],FF,rr)) := by
  show T = _;rw [<- HT.out,jq hn0,HFF.out,hrr,hro,hz]
 have HEZ : Hid (rr.length < E.L.length /\ endZ E.L rr = z) := by
  have h1 := HFr.out.1.length_le;refine ⟨?_,?_⟩
  · rw [<- hrr,zk]
    simp only [zi] at h1 |-;omega
  rw [<- hrr,<- hz];exact endZ_drop HFr.out.1 hn0 hrl
 simp only [jq hn0,hrr,hro] at kr
 rw [hro] at hnn
 clear hn0 hFF hrl hrr hro hz
 rcases htt with ht | ht
 · have gt0 : (tx == 0) = true := by simp [ht]
   clear ht;go_enter Tryz.func25,Tryz.ntmps25;go_wp2_with fail;refine K0.out.cc.mono ?_;rintro e W1 ⟨rfl,k'⟩;have K1 : Hid (TW S x E (⟨cr,ca,cz⟩ :: t) sc dn w W1) := k';have hx1 := k'.lt;obtain ⟨a1,_,_,_,_⟩ := k'.at;rw [HPF.out] at a1;have c3 : W1.cell? (jd x 3) = some (ji tx) := by obtain ⟨fv,h1⟩ := k'.tm;rw [<- HTX.out.1];exact h1.cells 3 _ rfl
   have c7 : W1.cell? (jd x 7) = some (.bool false) := by obtain ⟨fv,h1⟩ := k'.tm;rw [<- HTX.out.2];exact h1.cells 7 _ rfl
   clear k';go_wp2_with fail;refine K1.out.ba.mono ?_;rintro e W2 ⟨rfl,k'⟩;have K2 : Hid (TW S x E (⟨cr,ca,cz⟩ :: t) sc dn w W2) := k';have hx2 := k'.lt;clear k' a1 c3 c7;go_wp2_with fail;refine (kr _ K2.out).mono ?_;rintro e W3 ⟨rfl,k'⟩;have K3 : Hid (TW S x E rr FF dn w W3) := k';have hx3 := k'.lt;clear k' kr;go_wp2_with fail;refine twx (K3.out.endz HEZ.out.1) fun W4 K4 hx4 => ?_;rw [HEZ.out.2];have H2 : Hid (Tokd S x E T dn w (jr (.slice (some (jd W4.heap.size 0)) 1 1)) (W4.alloc (.cells #[ji 1,ji ro,js,js,jn,.bool true,ji ca,ji z] 45))) := by
    show Tokd _ _ _ _ _ _ _ _;rw [HTT.out];exact ⟨some (jd W4.heap.size 0),[(⟨1,ro,⟨#[]⟩,⟨#[]⟩,none,0,0,true,ca,z⟩,[])],1,rfl,rfl,zb _,TokR.one (w := w) (⟨1,ro,⟨#[]⟩,⟨#[]⟩,none,0,0,true,ca,z⟩,[]) ⟨rfl,rfl⟩ K4.out.keep.size,K4.out.below (ze _ _)⟩
   go_wp2_with fail;go_ret;exact H2.out
 have gt0 : (tx == 0) = false := by simp [ht]
 have gt1 : (tx == 1) = true := by simp [ht]
 clear ht
 go_enter Tryz.func25,Tryz.ntmps25
 go_wp2_with fail
 refine K0.out.cc.mono ?_
 rintro e W1 ⟨rfl,k'⟩
 have K1 : Hid (TW S x E (⟨cr,ca,cz⟩ :: t) sc dn w W1) := k'
 have hx1 := k'.lt
 obtain ⟨a1,_,_,_,_⟩ := k'.at
 rw [HPF.out] at a1
 have c3 : W1.cell? (jd x 3) = some (ji tx) := by obtain ⟨fv,h1⟩ := k'.tm;rw [<- HTX.out.1];exact h1.cells 3 _ rfl
 have c7 : W1.cell? (jd x 7) = some (.bool false) := by obtain ⟨fv,h1⟩ := k'.tm;rw [<- HTX.out.2];exact h1.cells 7 _ rfl
 clear k'
 go_wp2_with fail
 refine K1.out.ba.mono ?_
 rintro e W2 ⟨rfl,k'⟩
 have K2 : Hid (TW S x E (⟨cr,ca,cz⟩ :: t) sc dn w W2) := k'
 have hx2 := k'.lt
 clear k' a1 c3 c7
 go_wp2_with fail
 refine (kr _ K2.out).mono ?_
 rintro e W3 ⟨rfl,k'⟩
 have K3 : Hid (TW S x E rr FF dn w W3) := k'
 have hx3 := k'.lt
 clear k' kr
 go_wp2_with fail
 refine twx (K3.out.endz HEZ.out.1) fun W4 K4 hx4 => ?_
 rw [HEZ.out.2]
 have H2 : Hid (Tokd S x E T dn w (jr (.slice (some (jd W4.heap.size 0)) 1 1)) (W4.alloc (.cells #[ji 1,ji ro,js,js,jn,.bool true,ji ca,ji z] 45))) := by
  show Tokd _ _ _ _ _ _ _ _;rw [HTT.out];exact ⟨some (jd W4.heap.size 0),[(⟨1,ro,⟨#[]⟩,⟨#[]⟩,none,0,0,true,ca,z⟩,[])],1,rfl,rfl,zb _,TokR.one (w := w) (⟨1,ro,⟨#[]⟩,⟨#[]⟩,none,0,0,true,ca,z⟩,[]) ⟨rfl,rfl⟩ K4.out.keep.size,K4.out.below (ze _ _)⟩
 go_wp2_with fail
 go_ret
 exact H2.out
theorem TW.setdn {r : List Ch} {W : World} (h : TW S x E r sc dn w W) (b : Bool) : TW S x E r sc b w (W.setCell (jd x 8) (.bool b)) := by
 obtain ⟨fv,h1⟩ := h.tm
 obtain ⟨q1,q2⟩ := h1.set (r' := r) (sc' := sc) (dn' := b) 8 (.bool b) (by simp [Env.cells]) h1.suf rfl
 exact ⟨⟨fv,q1⟩,h.keep.trans q2⟩
theorem next_end (h : Tm S x E [] sc false w) : Calls Tryz.prog 25 #[mp x] w (Tokd S x E ([eofP6 E.N],sc,[]) true w) := by
 have K0 : Hid (TW S x E [] sc false w w) := TW.start h
 have hxw := h.lt
 have c8 : w.cell? (jd x 8) = some (.bool false) := by obtain ⟨fv,h1⟩ := h;exact h1.cells 8 _ rfl
 clear h
 go_enter Tryz.func25,Tryz.ntmps25
 go_wp2_with fail
 refine K0.out.c0.mono ?_
 rintro e W1 ⟨rfl,k'⟩
 have K1 := hid k'
 have hx1 := k'.lt
 obtain ⟨d8,d9⟩ : W1.cell? (jd x 8) = some (.bool false) /\ W1.frozen? (jd x 8) = false := by obtain ⟨fv,h1⟩ := k'.tm;exact ⟨h1.cells 8 _ rfl,h1.free 8⟩
 obtain ⟨W2,hW2⟩ := ex (W1.setCell (jd x 8) (.bool true))
 have HW2 := hid hW2
 have K2 : Hid (TW S x E [] sc true w W2) := by rw [<- hW2];exact k'.setdn true
 have hx2 := K2.out.lt
 have c2 : W2.cell? (jd x 2) = some (ji E.N) := by obtain ⟨fv,h1⟩ := K2.out.tm;exact h1.cells 2 _ rfl
 obtain ⟨N,hN⟩ := ex (E.N)
 rw [hN] at c2
 have HN := hid hN
 have hin : Cn (jd x 2) (ji N) (jd x 2) (ji N) W2 W2 := ⟨c2,c2,Below.refl _ _⟩
 clear k' hW2 hN
 go_wp2_with fail
 rw [HW2.out]
 go_wp2_with fail
 go_region_held3 (fun w' => w'.cell? (jd x 2) = some (ji N) /\ w'.cell? (jd x 2) = some (ji N) /\ Below W2.heap.size W2 w')
  (first | assumption | exact cn_keep (by assumption) hx2 hx2 | exact cn_alloc (by assumption) hx2 hx2 | go_keep)
  (fail)
 have H2 : Hid (Tokd S x E ([eofP6 E.N],sc,[]) true w (jr (.slice (some (jd W2.heap.size 0)) 1 1)) (W2.alloc (.cells #[ji 6,ji 0,js,js,jn,.bool false,ji N,ji N] 45)).drew) :=
  ⟨some (jd W2.heap.size 0),[(⟨6,0,⟨#[]⟩,⟨#[]⟩,none,0,0,false,N,N⟩,[])],1,rfl,by rw [HN.out];rfl,zb _,(TokR.one (w := w) (⟨6,0,⟨#[]⟩,⟨#[]⟩,none,0,0,false,N,N⟩,[]) ⟨rfl,rfl⟩ K2.out.keep.size).below ((Below.refl _ _).drew),(K2.out.below (ze _ _)).below ((Below.refl _ _).drew)⟩
 clear hin
 go_wp2_with fail
 go_ret
 exact H2.out
theorem cd_short (h : Tm S x E (⟨cr,ca,cz⟩ :: t) sc dn w) (hl : t.length < 2) : Calls Tryz.prog 40 #[mp x] w (Tokd S x E (toldR (⟨cr,ca,cz⟩ :: t) t,sc,t) dn w) := by
 have K0 : Hid (TW S x E (⟨cr,ca,cz⟩ :: t) sc dn w w) := TW.start h
 have hxw := h.lt
 obtain ⟨a1,a2,a3,a4,a5⟩ := K0.out.at
 obtain ⟨hfew,hsuf,_⟩ := K0.out.facts
 have hrl := hsuf.length_le
 obtain ⟨pF,hpF⟩ := ex (pos E (⟨cr,ca,cz⟩ :: t))
 have HPF := yc hpF hsuf
 have hge : ¬ pF + 2 < (E.L.length : Int) := by
  rw [<- hpF];unfold pos;simp only [zi] at hrl |-;omega
 rw [hpF] at a1 a3 a4
 obtain ⟨L0,hL0⟩ := ex (E.L.length)
 rw [hL0] at a5 hge hfew
 have g1 : decide (pF + 2 < (L0 : Int)) = false := zn hge
 have hwp : IntKind.i64.wrap (pF + 2) = pF + 2 := by rw [IntKind.wrap_i64];omega
 clear h hl hsuf hrl hpF hge hL0
 go_enter Tryz.func40,Tryz.ntmps40
 go_wp2_with fail
 go_quiet (fail)
 have K1 : Hid (TW S x E (⟨cr,ca,cz⟩ :: t) sc dn w (w.drewN nq)) := K0.out.below (G9.below_drewN (Below.refl _ _) nq)
 have KA : Hid (TW S x E t sc dn w ((w.drewN nq).setCell (jd x 1) (ji (pF + 1)))) := by rw [<- HPF.out.1];exact K1.out.adv
 have hws : IntKind.i64.wrap (pF + 1 - 1) = pF := by rw [IntKind.wrap_i64];omega
 have hs2 : pF + 1 - 1 = pF := by omega
 have kcm := told_any KA.out.tm (F := ⟨cr,ca,cz⟩ :: t) (zl _ _) HPF.out.2
 rw [HPF.out.1] at kcm
 go_wp2_with fail
 refine kcm.mono ?_
 rintro e w9 h9
 have H9 : Hid (Tokd S x E (toldR (⟨cr,ca,cz⟩ :: t) t,sc,t) dn w e w9) := Tokd.from KA.out h9
 obtain ⟨ao,T9,cap,rfl,_⟩ := h9
 clear kcm
 go_wp2_with fail
 go_ret
 exact H9.out
end Go.Proofs.YtjjfalbngcbfaaaGreatDoor
