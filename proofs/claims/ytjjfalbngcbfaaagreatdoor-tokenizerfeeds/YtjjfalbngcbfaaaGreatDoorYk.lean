import Derived.Test.YtjjfalbngcbfaaaGreatDoorZ0
import Derived.Test.YtjjfalbngcbfaaaGreatDoorYi
import Derived.Test.YtjjfalbngcbfaaaGreatDoorYc
namespace Go.Proofs.YtjjfalbngcbfaaaGreatDoor
open Go.RowKit
variable {auto fo : Bool} {N : Int} {m : Mc} {c c0 : Ch} {t W r F : List Ch} {sc : Sc}
theorem data_frame (m : Mc) (c : Ch) : m.data c = { ({ m with out := [] } : Mc).data c with out := m.out ++ (({ m with out := [] } : Mc).data c).out } := by
 unfold Mc.data
 by_cases h1 : c.r = 38 /\ (m.text = 0 \/ m.text = 1)
 · simp only [jp h1,zu]
 by_cases h2 : c.r = 60 /\ m.text = 0
 · simp only [jq h1,jp h2,zu,Mc.hold]
 by_cases h3 : c.r = 60 /\ m.text ≠ 3
 · simp only [jq h1,jq h2,jp h3,zu,Mc.hold]
 simp only [jq h1,jq h2,jq h3,Mc.tellChar,Mc.tell,List.nil_append]
theorem cdata_frame (m : Mc) (c : Ch) : m.cdata c = { ({ m with out := [] } : Mc).cdata c with out := m.out ++ (({ m with out := [] } : Mc).cdata c).out } := by
 unfold Mc.cdata
 by_cases h1 : c.r = 93
 · simp only [jp h1,zu,Mc.hold]
 simp only [jq h1,Mc.tellChar,Mc.tell,List.nil_append]
theorem chT_ne (W : List Ch) : ∀ t ∈ W.map (chT false),t.k ≠ 2 := fun t ht => by
 obtain ⟨c,_,rfl⟩ := List.mem_map.1 ht
 simp [chT]
theorem tot_anew {k : Mc} (hr : m.ref = []) (hk : k.ref = []) (h : m.take c = { k.take c with out := W.map (chT false) ++ (k.take c).out }) : tot auto N (c :: t) m = pre (W.map (chT false)) (tot auto N (c :: t) k) := by
 conv => lhs;unfold tot
 conv => rhs;unfold tot
 rw [feed_take hr,feed_take hk,h]
 unfold pre
 dsimp only
 have ha : ∀ k' : Mc,Mc.aut auto (W.map (chT false) ++ (k.take c).out) k' = Mc.aut auto (k.take c).out k' := fun k' => by
  unfold Mc.aut;rw [lastSt_app (chT_ne W)]
 rw [ha,List.append_assoc]
theorem tot_again {st en : Nat} (hcd : sc.cd = false) (hr : m.ref = []) (h : m.take c = (wm fo sc st en W).dataAgain c) : tot auto N (c :: t) m = pre (W.map (chT false)) (tot auto N (c :: t) (clean fo sc)) := by
 refine tot_anew hr rfl ?_
 have e : (wm fo sc st en W).dataAgain c = ({ clean fo sc with out := W.map (chT false) } : Mc).data c := by
  unfold Mc.dataAgain clean;simp only [hcd];rfl
 have e2 : (clean fo sc).take c = (clean fo sc).data c := take27 (by unfold clean;simp [hcd]) c
 rw [h,e,data_frame,e2]
 rfl
theorem cont_told (W : List Ch) (sc : Sc) (r : List Ch) : cont auto fo N (W.map (chT false),sc,r) = pre (W.map (chT false)) (tot auto N r (clean fo sc)) := by
 unfold cont
 dsimp only
 rw [autoSc_none auto (chT_ne W)]
theorem told_app (W r : List Ch) : toldR (W ++ r) r = W.map (chT false) := by
 unfold toldR
 rw [zh,Nat.add_sub_cancel,List.take_left]
theorem told_all (W : List Ch) : toldR W [] = W.map (chT false) := by
 have := told_app W []
 rwa [zu] at this
theorem end_rel (hr : m.ref = []) (ho : (m.endS N).out = W.map (chT false)) (hf : (m.endS N).fs = sc.fs) : tot auto N [] m = pre (W.map (chT false)) (tot auto N [] (clean fo sc)) := by
 rw [tot_end hr,tot_clean,ho,hf]
 rfl
theorem low_ascii {r : Int} (h0 : 0 <= r) (h1 : r < 128) : Mc.lowL (enc r) = enc (lowr r) := by
 have key : ∀ k : Fin 128,Mc.lowL (enc (k.val : Int)) = enc (lowr (k.val : Int)) := by decide +kernel
 have := key ⟨r.toNat,by omega⟩
 simpa [Int.toNat_of_nonneg h0] using this
theorem ltr_ascii {r : Int} (h : ltr r = true) : 0 <= r /\ r < 128 := by
 unfold ltr at h
 have := of_decide_eq_true h
 omega
theorem lows_is {q : List Ch} (h : ∀ c ∈ q,ltr c.r = true) : Mc.lowL (encs q) = lows q := by
 rw [lowL_is]
 unfold encs lows
 induction q with
 | nil => rfl
 | cons c q ih =>
  have hc := ltr_ascii (h c (by simp));rw [List.flatMap_cons,List.flatMap_cons,List.map_append,ih fun d hd => h d (by simp [hd]),<- low_ascii hc.1 hc.2,lowL_is]
theorem ltr_nm (h : ltr c.r = true) : nmC c = true := by
 unfold ltr at h
 have := of_decide_eq_true h
 unfold nmC blk G7.blk
 simp
 omega
theorem raw123 {auto fo : Bool} {N : Int} {sc : Sc} {c0 s : Ch} : ∀ (r p : List Ch),tot auto N r (wm fo sc 123 28 (c0 :: s :: p)) = tot auto N (r.dropWhile isL) (wm fo sc 123 28 (c0 :: s :: (p ++ r.takeWhile isL)))
 | [],p => by simp
 | c :: t,p => by
  cases hc : isL c with
  | false => rw [List.dropWhile_cons,List.takeWhile_cons,hc];simp
  | true =>
   have hl : ltr c.r = true := hc;have ht : (wm fo sc 123 28 (c0 :: s :: p)).take c = wm fo sc 123 28 (c0 :: s :: (p ++ [c])) := by
    show Mc.rawName _ c = _;unfold Mc.rawName;rw [jp hl];rfl
   rw [tot_go rfl ht rfl,raw123 t,List.dropWhile_cons,List.takeWhile_cons,hc];simp
theorem raw_eq (hcd : sc.cd = false) (hpos : ∀ d ∈ r,0 <= d.r) : tot auto N r (wm fo sc 51 28 [c0]) = cont auto fo N (rawR N (c0 :: r) sc r) := by
 unfold rawR
 cases r with
 | nil =>
  rw [jq (by decide),told_all,cont_told];exact end_rel rfl rfl rfl
 | cons s r' =>
  by_cases h47 : s.r = 47
  · rw [jp (show hd (s :: r') = 47 from h47)]
    have ht : (wm fo sc 51 28 [c0]).take s = wm fo sc 84 28 [c0,s] := by
     show Mc.rawOpen _ s = _;unfold Mc.rawOpen;rw [jp h47];rfl
    rw [tot_go rfl ht rfl];dsimp only;rw [List.tail_cons];cases r' with
    | nil =>
     simp only [List.takeWhile_nil,List.dropWhile_nil,ne_eq,not_true_eq_false,false_and,if_false];rw [told_all,cont_told];exact end_rel rfl rfl rfl
    | cons d u =>
     by_cases hl : ltr d.r = true
     · have hq : (d :: u).takeWhile isL ≠ [] := by
        rw [List.takeWhile_cons,show isL d = true from hl];simp
       have h0 : tot auto N (d :: u) (wm fo sc 84 28 [c0,s]) = tot auto N (d :: u) (wm fo sc 123 28 [c0,s]) := by
        refine tot_same rfl rfl ?_;show Mc.rawSlash _ d = Mc.rawName _ d;unfold Mc.rawSlash;rw [jp hl];rfl
       have hall : ∀ c ∈ (d :: u).takeWhile isL,ltr c.r = true := fun c hc => List.all_eq_true.1 (List.all_takeWhile (p := isL) (l := d :: u)) c hc;have hstop := List.head?_dropWhile_not isL (d :: u);have hsplit : (d :: u).takeWhile isL ++ (d :: u).dropWhile isL = d :: u := List.takeWhile_append_dropWhile;rw [h0,raw123,List.nil_append];obtain ⟨q,hqe⟩ := ex ((d :: u).takeWhile isL);obtain ⟨r2,hr2⟩ := ex ((d :: u).dropWhile isL);rw [hqe] at hq hall hsplit |-;rw [hr2] at hstop hsplit |-;have htold : toldR (c0 :: s :: (d :: u)) r2 = (c0 :: s :: q).map (chT false) := by
        rw [<- hsplit];exact told_app (c0 :: s :: q) r2
       have hlow : Mc.lowL (encs q) = lows q := lows_is hall;cases r2 with
       | nil =>
        rw [jq (fun e => by rcases e.2.2 with e | e | e <;> exact absurd e (by decide)),htold,cont_told];exact end_rel rfl rfl rfl
       | cons c t =>
        have hnl : ¬ ltr c.r = true := by
         simp only [List.head?_cons] at hstop;unfold isL at hstop;simpa using hstop
        by_cases hk : (blk c.r = true \/ c.r = 47 \/ c.r = 62) /\ lows q = sc.last.data.toList
        · rw [jp ⟨hq,hk.2,hk.1⟩]
          have ht2 : (wm fo sc 123 28 (c0 :: s :: q)).take c = (tm fo sc 3 c0.a (lows q) 81 sc.fs [] 0 [] [] false).take c := by
           show Mc.rawName _ c = Mc.tagName _ c;unfold Mc.rawName;rw [jq hnl,jp ⟨hk.1,by show Mc.lowL (encs q) = _;rw [hlow];exact hk.2⟩,hk.2];rfl
          rw [tot_same rfl rfl ht2,<- tag_eq (f := c0.a) (F := c0 :: s :: d :: u) (Or.inr rfl) hcd rfl ((zl _ _).trans (zl _ _)) (fun e he => hpos e (by simp at he |-;exact .inr he)),name81 sc.fs (d :: u) [],List.nil_append];have hw : ∀ (q : List Ch),(∀ e ∈ q,ltr e.r = true) -> (q ++ c :: t).takeWhile nmC = q /\ (q ++ c :: t).dropWhile nmC = c :: t := fun q => by
           have hc : nmC c = false := by
            unfold nmC;rcases hk.1 with e | e | e
            · simp [e]
            · simp [e]
            simp [e]
           induction q with
           | nil => intro _;rw [List.nil_append,List.takeWhile_cons,List.dropWhile_cons,hc];exact ⟨rfl,rfl⟩
           | cons e q ih =>
            intro h;obtain ⟨i1,i2⟩ := ih fun x hx => h x (by simp [hx]);rw [List.cons_append,List.takeWhile_cons,List.dropWhile_cons,ltr_nm (h e (by simp))];simp [i1,i2]
          obtain ⟨w1,w2⟩ := hw q hall;rw [hsplit] at w1 w2;rw [w1,w2]
        rw [jq (fun e => hk ⟨e.2.2,e.2.1⟩),htold,cont_told];refine tot_again (st := 123) (en := 28) hcd rfl ?_;show Mc.rawName _ c = _;unfold Mc.rawName;rw [jq hnl,jq (fun e => hk ⟨e.1,by have h2 := e.2;rw [<- hlow];exact h2⟩)]
     have hil : isL d = false := by
      unfold isL;simpa using hl
     rw [List.takeWhile_cons,List.dropWhile_cons,hil];simp only [Bool.false_eq_true,if_false,ne_eq,not_true_eq_false,false_and];have : toldR (c0 :: s :: d :: u) (d :: u) = [c0,s].map (chT false) := told_app [c0,s] (d :: u);rw [this,cont_told];refine tot_again (st := 84) (en := 28) hcd rfl ?_;show Mc.rawSlash _ d = _;unfold Mc.rawSlash;rw [jq hl]
  rw [jq (show ¬ hd (s :: r') = 47 from h47)];have : toldR (c0 :: s :: r') (s :: r') = [c0].map (chT false) := told_app [c0] (s :: r');rw [this,cont_told];refine tot_again (st := 51) (en := 28) hcd rfl ?_;show Mc.rawOpen _ s = _;unfold Mc.rawOpen;rw [jq h47]
def cw (fo : Bool) (sc : Sc) (st : Nat) (W : List Ch) : Mc := wm fo sc st 28 W
theorem cd_plain (hcd : sc.cd = true) {m : Mc} {W : List Ch} {st : Nat} {c : Ch} {t : List Ch} (hr : m.ref = []) (h : m.take c = ({ (cw fo sc st W).release with st := 113 } : Mc).cdata c) : tot auto N (c :: t) m = pre (W.map (chT false)) (tot auto N (c :: t) (clean fo sc)) := by
 refine tot_anew hr rfl ?_
 have e : ({ (cw fo sc st W).release with st := 113 } : Mc).cdata c = ({ clean fo sc with out := W.map (chT false) } : Mc).cdata c := by
  unfold clean;simp only [hcd];rfl
 have e2 : (clean fo sc).take c = (clean fo sc).cdata c := by
  unfold clean;simp only [hcd];rfl
 rw [h,e,cdata_frame,e2]
 rfl
theorem cd_one (hcd : sc.cd = true) {c : Ch} (t : List Ch) (h : c.r = 93) : tot auto N (c :: t) (clean fo sc) = tot auto N t (cw fo sc 145 [c]) := by
 refine tot_go rfl ?_ rfl
 have e2 : (clean fo sc).take c = (clean fo sc).cdata c := by
  unfold clean;simp only [hcd];rfl
 rw [e2]
 unfold Mc.cdata
 rw [jp h]
 rfl
theorem cd_two {d : Ch} (t : List Ch) (h : d.r = 93) : tot auto N (d :: t) (cw fo sc 145 [c]) = tot auto N t (cw fo sc 169 [c,d]) := by
 refine tot_go rfl ?_ rfl
 show Mc.cdataOne _ d = _
 unfold Mc.cdataOne
 rw [jp h]
 rfl
theorem cd_not (hcd : sc.cd = true) {c d : Ch} (t : List Ch) (h : d.r ≠ 93) : tot auto N (d :: t) (cw fo sc 145 [c]) = pre [chT false c] (tot auto N (d :: t) (clean fo sc)) := by
 refine cd_plain (W := [c]) (st := 145) hcd rfl ?_
 show Mc.cdataOne _ d = _
 unfold Mc.cdataOne
 rw [jq h]
theorem cd_eq (hcd : sc.cd = true) (hpos : ∀ d ∈ c :: t,0 <= d.r) : tot auto N (c :: t) (clean fo sc) = cont auto fo N (cdR sc (c :: t)) := by
 have h0 := hpos c (by simp)
 have told : cont auto fo N (toldR (c :: t) (c :: t).tail,sc,(c :: t).tail) = pre [chT false c] (tot auto N t (clean fo sc)) := by
  rw [List.tail_cons,show toldR (c :: t) t = [c].map (chT false) from told_app [c] t,cont_told];rfl
 unfold cdR
 by_cases h1 : c.r = 93
 · rw [cd_one hcd t h1]
   cases t with
   | nil =>
    rw [jq (by rw [isW_yes 93 (by decide) h0 h1];decide),told];exact end_rel (W := [c]) rfl rfl rfl
   | cons d u =>
    have d0 := hpos d (by simp);by_cases h2 : d.r = 93
    · rw [cd_two u h2]
      cases u with
      | nil =>
       rw [jq (by rw [isW_yes 93 (by decide) h0 h1,isW_yes 93 (by decide) d0 h2];decide),told,cd_one hcd [] h2,end_rel (fo := fo) (sc := sc) (m := cw fo sc 145 [d]) (W := [d]) rfl rfl rfl,end_rel (fo := fo) (sc := sc) (m := cw fo sc 169 [c,d]) (W := [c,d]) rfl rfl rfl,pre_pre];rfl
      | cons e v =>
       have e0 := hpos e (by simp);by_cases h3 : e.r = 62
       · rw [jp (by rw [isW_yes 93 (by decide) h0 h1,isW_yes 93 (by decide) d0 h2,isW_yes 62 (by decide) e0 h3];rfl),cont_nil]
         refine tot_go rfl ?_ rfl;show Mc.cdataTwo _ e = _;unfold Mc.cdataTwo;rw [jq (by omega),jp h3];rfl
       rw [jq (by rw [isW_yes 93 (by decide) h0 h1,isW_yes 93 (by decide) d0 h2,isW_no 62 (by decide) e0 h3];decide),told,cd_one hcd (e :: v) h2];by_cases h4 : e.r = 93
       · rw [cd_two v h4]
         have ht : (cw fo sc 169 [c,d]).take e = { cw fo sc 169 [d,e] with out := [chT false c] } := by
          show Mc.cdataTwo _ e = _;unfold Mc.cdataTwo;rw [jp h4];rfl
         rw [tot_say rfl ht (by simp [chT])];rfl
       rw [cd_not hcd v h4,pre_pre];refine cd_plain (W := [c,d]) (st := 169) hcd rfl ?_;show Mc.cdataTwo _ e = _;unfold Mc.cdataTwo;rw [jq h4,jq h3]
    rw [jq (by rw [isW_yes 93 (by decide) h0 h1,isW_no 93 (by decide) d0 h2];decide),told,cd_not hcd u h2]
 rw [jq (by rw [isW_no 93 (by decide) h0 h1];decide),told]
 have ht : (clean fo sc).take c = { clean fo sc with out := [chT false c] } := by
  have e2 : (clean fo sc).take c = (clean fo sc).cdata c := by
   unfold clean;simp only [hcd];rfl
  rw [e2];unfold Mc.cdata;rw [jq h1];rfl
 rw [tot_say rfl ht (by simp [chT])]
 rfl
theorem endOpen_eq {s : Ch} (hcd : sc.cd = false) (hN : endZ (c0 :: s :: r) [] = N) (hF : ∀ d ∈ c0 :: s :: r,0 <= d.r) : tot auto N r (wm fo sc 75 76 [c0,s]) = cont auto fo N (endOpenR N (c0 :: s :: r) sc r) := by
 unfold endOpenR
 cases r with
 | nil =>
  rw [jq (by decide),jq (by decide),jp rfl,told_all,cont_told];exact end_rel rfl rfl rfl
 | cons c t =>
  have hsuf : c :: t <:+ c0 :: s :: c :: t := (zl _ _).trans (zl _ _);by_cases hl : ltr c.r = true
  · rw [jp (show ltr (hd (c :: t)) = true from hl),<- tag_eq (f := c0.a) (Or.inr rfl) hcd rfl hsuf fun d hd => hF d (hsuf.subset hd)]
    refine tot_same rfl rfl ?_;show Mc.endOpen _ c = Mc.tagName _ c;unfold Mc.endOpen;rw [jp hl];rfl
  rw [jq (show ¬ ltr (hd (c :: t)) = true from hl)];by_cases h62 : c.r = 62
  · rw [jp (show hd (c :: t) = 62 from h62),cont_nil]
    refine tot_go rfl ?_ rfl;show Mc.endOpen _ c = _;unfold Mc.endOpen clean;rw [jq hl,jp h62];simp only [hcd];rfl
  rw [jq (show ¬ hd (c :: t) = 62 from h62),jq (by simp)];have hb := bogus_eq (auto := auto) (fo := fo) (N := N) (sc := sc) (f := c0.a) (F := c0 :: s :: c :: t) (sc.fs ++ [(14,c.a)]) hcd rfl hN (c :: t) [] hsuf;rw [List.nil_append] at hb;unfold bogusR;rw [show frN N (c :: t) = c.a from rfl,<- hb];refine tot_same rfl rfl ?_;show Mc.endOpen _ c = Mc.inBogus _ c;unfold Mc.endOpen;rw [jq hl,jq h62];rfl
theorem open_eq (hcd : sc.cd = false) (hN : endZ (c0 :: r) [] = N) (hF : ∀ d ∈ c0 :: r,0 <= d.r) : tot auto N r (wm fo sc 49 50 [c0]) = cont auto fo N (openR N fo (c0 :: r) sc r) := by
 unfold openR
 cases r with
 | nil =>
  rw [jq (by decide),jq (by decide),jq (by decide),jq (by decide),told_all,cont_told];exact end_rel rfl rfl rfl
 | cons c t =>
  have hsuf : c :: t <:+ c0 :: c :: t := zl _ _;by_cases h33 : c.r = 33
  · rw [jp (show hd (c :: t) = 33 from h33),List.tail_cons]
    have ht : (wm fo sc 49 50 [c0]).take c = wm fo sc 73 74 [c0] := by
     show Mc.tagOpen _ c = _;unfold Mc.tagOpen;rw [jp h33];rfl
    rw [tot_go rfl ht rfl];exact markup_eq (c0 := c0) hcd rfl hN hF t [] (by decide +kernel) (by decide +kernel) (by decide +kernel) (by decide +kernel) ((zl _ _).trans hsuf)
  rw [jq (show ¬ hd (c :: t) = 33 from h33)];by_cases h47 : c.r = 47
  · rw [jp (show hd (c :: t) = 47 from h47),List.tail_cons]
    have ht : (wm fo sc 49 50 [c0]).take c = wm fo sc 75 76 [c0,c] := by
     show Mc.tagOpen _ c = _;unfold Mc.tagOpen;rw [jq h33,jp h47];rfl
    rw [tot_go rfl ht rfl];exact endOpen_eq hcd hN hF
  rw [jq (show ¬ hd (c :: t) = 47 from h47)];by_cases hl : ltr c.r = true
  · rw [jp (show ltr (hd (c :: t)) = true from hl),<- tag_eq (f := c0.a) (Or.inl rfl) hcd rfl hsuf fun d hd => hF d (hsuf.subset hd)]
    refine tot_same rfl rfl ?_;show Mc.tagOpen _ c = Mc.tagName _ c;unfold Mc.tagOpen;rw [jq h33,jq h47,jp hl];rfl
  rw [jq (show ¬ ltr (hd (c :: t)) = true from hl)];by_cases h63 : c.r = 63
  · rw [jp (show hd (c :: t) = 63 from h63)]
    have hb := bogus_eq (auto := auto) (fo := fo) (N := N) (sc := sc) (f := c0.a) (F := c0 :: c :: t) (sc.fs ++ [(14,c.a)]) hcd rfl hN (c :: t) [] hsuf;rw [List.nil_append] at hb;unfold bogusR;rw [show frN N (c :: t) = c.a from rfl,<- hb];refine tot_same rfl rfl ?_;show Mc.tagOpen _ c = Mc.inBogus _ c;unfold Mc.tagOpen;rw [jq h33,jq h47,jq hl,jp h63];rfl
  rw [jq (show ¬ hd (c :: t) = 63 from h63),show toldR (c0 :: c :: t) (c :: t) = [c0].map (chT false) from told_app [c0] (c :: t),cont_told];refine tot_again (sc := { sc with fs := sc.fs ++ [(5,c.a)] }) (st := 49) (en := 50) hcd rfl ?_;show Mc.tagOpen _ c = _;unfold Mc.tagOpen;rw [jq h33,jq h47,jq hl,jq h63];rfl
theorem next_eq (hN : endZ (c :: t) [] = N) (hF : ∀ d ∈ c :: t,0 <= d.r) : tot auto N (c :: t) (clean fo sc) = cont auto fo N (nextR N fo sc (c :: t)) := by
 unfold nextR
 by_cases hcd : sc.cd = true
 · rw [jp hcd]
   exact cd_eq hcd hF
 rw [jq hcd]
 have hcd' : sc.cd = false := by simpa using hcd
 have htp : ∀ d ∈ t,0 <= d.r := fun d hd => hF d (by simp [hd])
 have e27 : (clean fo sc).st = 27 := by unfold clean;simp [hcd']
 have htk : (clean fo sc).take c = (clean fo sc).data c := take27 e27 c
 have hhd : hd (c :: t) = c.r := rfl
 rw [hhd]
 by_cases h1 : c.r = 38 /\ (sc.text = 0 \/ sc.text = 1)
 · rw [jp h1]
   have ht : (clean fo sc).take c = { clean fo sc with ref := [c] } := by
    rw [htk];unfold Mc.data;rw [jp (show c.r = 38 /\ ((clean fo sc).text = 0 \/ (clean fo sc).text = 1) from h1)]
   have hS : Reads (clean fo sc) := .inl ⟨e27,rfl,rfl,h1.2⟩;rw [tot_go rfl ht rfl,ref_eq hS rfl rfl h1.1 t [] (.inr ⟨fun c hc => (by cases hc),fun h => absurd rfl h⟩) htp,List.nil_append];unfold refGo;have hk0 : decide ((clean fo sc).kind ≠ 0) = false := rfl;rw [hk0];dsimp only;obtain ⟨o,ho⟩ := ex (refR false (c :: t));rw [ho];unfold refB refK;by_cases h0 : o.2.1 = 0
   · simp only [jp h0]
     rw [List.tail_cons,show toldR (c :: t) t = [c].map (chT false) from told_app [c] t,cont_told];have e : ({ clean fo sc with ref := [],fs := (clean fo sc).fs ++ Mc.refFaults (c :: t) o.2.1 o.2.2 } : Mc).put c false = { clean fo { sc with fs := sc.fs ++ Mc.refFaults (c :: t) o.2.1 o.2.2 } with out := [chT false c] } := by
      show (if (0 : Int) ≠ 0 then _ else _) = _;rw [jq (show ¬ (0 : Int) ≠ 0 by decide)];rfl
     rw [e];rfl
   simp only [jq h0];have e : ({ clean fo sc with ref := [],fs := (clean fo sc).fs ++ Mc.refFaults (c :: t) o.2.1 o.2.2 } : Mc).put ⟨o.1,Mc.frAt (c :: t),Mc.toAt (c :: t) (o.2.1 - 1)⟩ true = { clean fo { sc with fs := sc.fs ++ Mc.refFaults (c :: t) o.2.1 o.2.2 } with out := [chT true ⟨o.1,Mc.frAt (c :: t),Mc.toAt (c :: t) (o.2.1 - 1)⟩] } := by
    show (if (0 : Int) ≠ 0 then _ else _) = _;rw [jq (show ¬ (0 : Int) ≠ 0 by decide)];rfl
   rw [e];unfold cont;dsimp only;rw [autoSc_none auto (by simp [chT])];rfl
 rw [jq h1]
 by_cases h2 : c.r = 60 /\ sc.text = 0
 · rw [jp h2,List.tail_cons]
   have ht : (clean fo sc).take c = wm fo sc 49 50 [c] := by
    rw [htk];unfold Mc.data;rw [jq (show ¬ (c.r = 38 /\ ((clean fo sc).text = 0 \/ (clean fo sc).text = 1)) from h1),jp (show c.r = 60 /\ (clean fo sc).text = 0 from h2)];rfl
   rw [tot_go rfl ht rfl];exact open_eq hcd' hN hF
 rw [jq h2]
 by_cases h3 : c.r = 60 /\ sc.text ≠ 3
 · rw [jp h3,List.tail_cons]
   have ht : (clean fo sc).take c = wm fo sc 51 28 [c] := by
    rw [htk];unfold Mc.data;rw [jq (show ¬ (c.r = 38 /\ ((clean fo sc).text = 0 \/ (clean fo sc).text = 1)) from h1),jq (show ¬ (c.r = 60 /\ (clean fo sc).text = 0) from h2),jp (show c.r = 60 /\ (clean fo sc).text ≠ 3 from h3)];rfl
   rw [tot_go rfl ht rfl];exact raw_eq hcd' htp
 rw [jq h3,List.tail_cons,show toldR (c :: t) t = [c].map (chT false) from told_app [c] t,cont_told]
 have ht : (clean fo sc).take c = { clean fo sc with out := [chT false c] } := by
  rw [htk];unfold Mc.data;rw [jq (show ¬ (c.r = 38 /\ ((clean fo sc).text = 0 \/ (clean fo sc).text = 1)) from h1),jq (show ¬ (c.r = 60 /\ (clean fo sc).text = 0) from h2),jq (show ¬ (c.r = 60 /\ (clean fo sc).text ≠ 3) from h3)];rfl
 rw [tot_say rfl ht (by simp [chT])]
 rfl
theorem value_suf (N : Int) (fs : Fs) (r : List Ch) (hpos : ∀ d ∈ r,0 <= d.r) : (valueR N fs r).2.2 <:+ r :=
 (value_eq (auto := false) (fo := false) (sc := ⟨0,ByteArray.empty,false,[]⟩) (f := 0) (nm := []) (Or.inl rfl) r fs [] 0 [] false hpos).2
theorem attr_suf {A : List At} {fs : Fs} (hb : blk c.r = false) (h47 : c.r ≠ 47) (h62 : c.r ≠ 62) (hpos : ∀ d ∈ t,0 <= d.r) : (attrR N A fs (c :: t)).2.2.2 <:+ t := by
 have hs := aname_suf (t := t) fs hb h47 h62
 unfold attrR
 dsimp only
 obtain ⟨p,hp⟩ := ex (anameR fs (c :: t))
 rw [hp] at hs |-
 cases hp2 : p.2.2 with
 | nil => simp only [if_true];exact List.nil_suffix
 | cons d u =>
  rw [hp2] at hs;simp only [reduceCtorEq,if_false];by_cases h61 : hd (skipB (d :: u)) = 61
  · simp only [jp h61]
    have h2 : (skipB (d :: u)).tail <:+ t := ((List.tail_suffix _).trans (skip_suf _)).trans hs;exact (value_suf N _ _ (suf_pos h2 hpos)).trans h2
  simp only [jq h61];exact hs
theorem tagL_suf {N : Int} : ∀ (n : Nat) (A : List At) (sf : Bool) (fs : Fs) (r : List Ch),(∀ d ∈ r,0 <= d.r) -> (tagL N n A sf fs r).2.2 <:+ r
 | 0,_,_,_,_,_ => List.suffix_refl _
 | n + 1,A,sf,fs,r,hpos => by
  have hsk := skip_suf r;unfold tagL;cases hr : skipB r with
  | nil => exact List.nil_suffix
  | cons c t =>
   rw [hr] at hsk;have hct : t <:+ r := (zl _ _).trans hsk;have htp := suf_pos hct hpos;dsimp only;by_cases h62 : c.r = 62
   · rw [jp h62];exact hct
   rw [jq h62];by_cases h47 : c.r = 47
   · rw [jp h47]
     split
     · exact (tagL_suf n A true fs t htp).trans hct
     split
     · exact (tagL_suf n A sf _ t htp).trans hct
     exact (tagL_suf n A sf fs t htp).trans hct
   rw [jq h47];have ha := attr_suf (N := N) (A := A) (fs := fs) (skipB_hd hr) h47 h62 htp;exact ((tagL_suf n _ sf _ _ (suf_pos ha htp)).trans ha).trans hct
theorem tagE_rest (F : List Ch) (kind : Int) (nm : jl) (sc : Sc) (p : Option (List At × Bool) × Fs × List Ch) : (tagE F kind nm sc p).2.2 = p.2.2 := by
 obtain ⟨o,fs,r⟩ := p
 cases o with
 | none => rfl
 | some a =>
  obtain ⟨A,sf⟩ := a;show (doneR F kind nm sc A sf fs r).2.2 = r;unfold doneR;split <;> rfl
theorem tagR_suf {kind : Int} (hpos : ∀ d ∈ r,0 <= d.r) : (tagR N F kind sc r).2.2 <:+ r := by
 unfold tagR
 rw [tagE_rest]
 have hs : r.dropWhile nmC <:+ r := List.dropWhile_suffix _
 exact (tagL_suf _ _ _ _ _ (suf_pos hs hpos)).trans hs
theorem bogusR_suf (F : List Ch) (sc : Sc) (r : List Ch) : (bogusR F sc r).2.2 <:+ r := (List.tail_suffix _).trans (List.dropWhile_suffix _)
theorem comR_suf {N : Int} {F : List Ch} {sc : Sc} : ∀ (r : List Ch) (s : jl),(comR N F sc s r).2.2 <:+ r
 | [],_ => List.suffix_refl _
 | c :: t,s => by
  unfold comR;split
  · exact List.drop_suffix _ _
  split
  · exact List.drop_suffix _ _
  exact (comR_suf t _).trans (zl _ _)
theorem textR_suf (N : Int) (F : List Ch) (sc : Sc) (r : List Ch) : (textR N F sc r).2.2 <:+ r := by
 unfold textR
 split
 · exact List.tail_suffix _
 split
 · exact List.drop_suffix _ _
 exact comR_suf r []
theorem docR_suf (N : Int) (F : List Ch) (sc : Sc) (r : List Ch) : (docR N F sc r).2.2 <:+ r := by
 unfold docR
 dsimp only
 exact (((((List.tail_suffix _).trans (List.dropWhile_suffix _)).trans (skip_suf _)).trans (List.dropWhile_suffix _)).trans (skip_suf _))
theorem markupR_suf (N : Int) (fo : Bool) (F : List Ch) (sc : Sc) (r : List Ch) : (markupR N fo F sc r).2.2 <:+ r := by
 unfold markupR
 split
 · exact (textR_suf _ _ _ _).trans (List.drop_suffix _ _)
 split
 · exact (docR_suf _ _ _ _).trans (List.drop_suffix _ _)
 split
 · split
   · exact List.drop_suffix _ _
   exact bogusR_suf _ _ _
 exact bogusR_suf _ _ _
theorem endOpenR_suf (hpos : ∀ d ∈ r,0 <= d.r) : (endOpenR N F sc r).2.2 <:+ r := by
 unfold endOpenR
 split
 · exact tagR_suf hpos
 split
 · exact List.tail_suffix _
 split
 · exact List.suffix_refl _
 exact bogusR_suf _ _ _
theorem openR_suf (hpos : ∀ d ∈ r,0 <= d.r) : (openR N fo F sc r).2.2 <:+ r := by
 unfold openR
 split
 · exact (markupR_suf _ _ _ _ _).trans (List.tail_suffix _)
 split
 · exact (endOpenR_suf (suf_pos (List.tail_suffix _) hpos)).trans (List.tail_suffix _)
 split
 · exact tagR_suf hpos
 split
 · exact bogusR_suf _ _ _
 exact List.suffix_refl _
theorem rawR_suf (hpos : ∀ d ∈ r,0 <= d.r) : (rawR N F sc r).2.2 <:+ r := by
 unfold rawR
 split
 · dsimp only
   split
   · exact (tagR_suf (suf_pos (List.tail_suffix _) hpos)).trans (List.tail_suffix _)
   exact (List.dropWhile_suffix _).trans (List.tail_suffix _)
 exact List.suffix_refl _
theorem drop_suf {n : Nat} (h : n ≠ 0) : (c :: t).drop n <:+ t := by
 obtain ⟨k,rfl⟩ : ∃ k,n = k + 1 := ⟨n - 1,by omega⟩
 rw [List.drop_succ_cons]
 exact List.drop_suffix _ _
theorem nextR_suf (hpos : ∀ d ∈ t,0 <= d.r) : (nextR N fo sc (c :: t)).2.2 <:+ t := by
 unfold nextR
 rw [List.tail_cons]
 split
 · unfold cdR
   split
   · exact drop_suf (by decide)
   exact List.suffix_refl _
 split
 · split
   · exact List.suffix_refl _
   next h => exact drop_suf h
 split
 · exact openR_suf hpos
 split
 · exact rawR_suf hpos
 exact List.suffix_refl _
def Ends (N : Int) (r : List Ch) : Prop := (∀ d ∈ r,0 <= d.r) /\ ∀ c,r.getLast? = some c -> c.z = N
theorem Ends.suf (h : Ends N t) (hs : r <:+ t) : Ends N r := by
 refine ⟨suf_pos hs h.1,fun c hc => h.2 c ?_⟩
 obtain ⟨p,rfl⟩ := hs
 rw [List.getLast?_append,hc]
 rfl
theorem Ends.endZ (h : Ends N (c :: t)) : endZ (c :: t) [] = N := by
 unfold Go.Proofs.YtjjfalbngcbfaaaGreatDoor.endZ Mc.toAt
 have e : (c :: t).getLast? = (c :: t)[(c :: t).length - ([] : List Ch).length - 1]? := by
  rw [List.getLast?_eq_getElem?];simp
 rw [<- e]
 cases h2 : (c :: t).getLast? with
 | none => simp at h2
 | some d => exact h.2 d h2
theorem tot_refT {auto fo : Bool} {N : Int} : ∀ (n : Nat) (r : List Ch) (sc : Sc),r.length < n -> Ends N r -> tot auto N r (clean fo sc) = refT auto fo N n sc r
 | 0,r,sc,h,_ => by omega
 | n + 1,[],sc,_,_ => by
  rw [tot_clean];rfl
 | n + 1,c :: t,sc,hl,hE => by
  have hs := nextR_suf (N := N) (fo := fo) (sc := sc) (c := c) (t := t) (fun d hd => hE.1 d (by simp [hd]));rw [next_eq hE.endZ hE.1];unfold refT cont pre;rw [jq (by simp)];rw [tot_refT n _ _ (by have := hs.length_le;simp at hl;omega) (hE.suf (hs.trans (zl _ _)))]
theorem lastSt_is (L : List Pt) : lastSt L = lastStart L := by
 unfold lastSt lastStart
 cases L.getLast? <;> rfl
theorem aut_is (b : Bool) (L : List Pt) (m : Mc) : Mc.aut b L m = Mc.auto b L m := by
 unfold Mc.aut Mc.auto
 rw [lastSt_is]
 cases lastStart L <;> rfl
theorem feeds_tot (auto : Bool) (N : Int) : ∀ (l : List Ch) (X : List Pt) (m : Mc),((l.foldl (fdStep auto) (X,m)).1 ++ ((l.foldl (fdStep auto) (X,m)).2.ended N).1,((l.foldl (fdStep auto) (X,m)).2.ended N).2.fs) = pre X (tot auto N l m)
 | [],X,m => rfl
 | c :: l,X,m => by
  rw [List.foldl_cons];have e : fdStep auto (X,m) c = (X ++ (m.feed c).1,Mc.auto auto (m.feed c).1 (m.feed c).2) := rfl;rw [e,feeds_tot auto N l]
  conv => rhs;unfold tot
  rw [aut_is];unfold pre;simp
def sc0 (text : Int) : Sc := ⟨if text < 0 \/ text > 3 then 0 else text,ByteArray.empty,false,[]⟩
theorem chars_tot (s : jl) : G4.tot (G4.items s) = s.length := by
 obtain ⟨_,r2,_,r4⟩ := G4.run_ok s [] trivial
 rw [List.nil_append] at r2
 rw [r2,G4.tot_append]
 have : G4.tot (G4.fin (G4.run [] s).1) = (G4.run [] s).1.length := by
  unfold G4.fin;split
  · next h => rw [h];rfl
  simp [G4.tot]
 rw [this]
 simpa using r4
theorem chars_ends (s : ByteArray) : Ends s.size (chars s) := by
 have hr : ∀ (l : List (Int × Nat)) (p : Int),(∀ x ∈ l,x.1 = -1 \/ (0 <= x.1 /\ x.1 <= 1000000000)) -> ∀ c ∈ G4.chs p l,0 <= c.r := by
  intro l;induction l with
  | nil => intro p _ c hc;cases hc
  | cons x l ih =>
   intro p h c hc;unfold G4.chs at hc;rcases List.mem_cons.1 hc with rfl | hc
   · have := h x (by simp)
     dsimp only;split <;> omega
   exact ih _ (fun y hy => h y (by simp [hy])) c hc
 have hz : ∀ (l : List (Int × Nat)) (p : Int) (c : Ch),(G4.chs p l).getLast? = some c -> c.z = p + (G4.tot l : Nat) := by
  intro l;induction l with
  | nil => intro p c hc;cases hc
  | cons x l ih =>
   intro p c hc;unfold G4.chs at hc;rw [G4.tot_cons];cases l with
   | nil =>
    simp [G4.chs] at hc;subst hc;simp [G4.tot]
   | cons y l =>
    have hne : G4.chs (p + x.2) (y :: l) ≠ [] := by unfold G4.chs;simp
    rw [List.getLast?_cons,List.getLast?_eq_some_getLast hne] at hc;have := ih (p + x.2) c (by rw [List.getLast?_eq_some_getLast hne];simpa using hc);rw [this];omega
 have fr : ∀ l : List Ch,(∀ c ∈ l,0 <= c.r) -> ∀ c ∈ G4.rfs l,0 <= c.r := by
  intro l;have fx : ∀ c : Ch,0 <= c.r -> 0 <= (G4.fix c).r := fun c h => by
   unfold G4.fix;dsimp only;split
   · decide
   split
   · decide
   exact h
  induction l using G4.rfs.induct with
  | case1 => intro _ c hc;cases hc
  | case2 c => intro h d hd;simp [G4.rfs] at hd;subst hd;exact fx c (h c (by simp))
  | case3 c d l hcd ih =>
   intro h e he;unfold G4.rfs at he;rw [jp hcd] at he;rcases List.mem_cons.1 he with rfl | he
   · simp
   exact ih (fun x hx => h x (by simp [hx])) e he
  | case4 c d l hcd ih =>
   intro h e he;unfold G4.rfs at he;rw [jq hcd] at he;rcases List.mem_cons.1 he with rfl | he
   · exact fx c (h c (by simp))
   exact ih (fun x hx => h x (by simp at hx |-;exact .inr hx)) e he
 have fz : ∀ l : List Ch,∀ c,(G4.rfs l).getLast? = some c -> ∃ d,l.getLast? = some d /\ c.z = d.z := by
  intro l;induction l using G4.rfs.induct with
  | case1 => intro c hc;cases hc
  | case2 c => intro d hd;simp [G4.rfs] at hd;exact ⟨c,rfl,by rw [<- hd];rfl⟩
  | case3 c d l hcd ih =>
   intro e he;unfold G4.rfs at he;rw [jp hcd] at he;cases l with
   | nil =>
    simp [G4.rfs] at he;exact ⟨d,rfl,by rw [<- he]⟩
   | cons x l =>
    have hne : G4.rfs (x :: l) ≠ [] := by
     cases l with
     | nil => simp [G4.rfs]
     | cons y l => unfold G4.rfs;split <;> simp
    rw [List.getLast?_cons,List.getLast?_eq_some_getLast hne] at he;obtain ⟨y,h1,h2⟩ := ih e (by rw [List.getLast?_eq_some_getLast hne];simpa using he);exact ⟨y,by rw [List.getLast?_cons_cons,List.getLast?_cons_cons];exact h1,h2⟩
  | case4 c d l hcd ih =>
   intro e he;unfold G4.rfs at he;rw [jq hcd] at he;have hne : G4.rfs (d :: l) ≠ [] := by
    cases l with
    | nil => simp [G4.rfs]
    | cons y l => unfold G4.rfs;split <;> simp
   rw [List.getLast?_cons,List.getLast?_eq_some_getLast hne] at he;obtain ⟨y,h1,h2⟩ := ih e (by rw [List.getLast?_eq_some_getLast hne];simpa using he);exact ⟨y,by rw [List.getLast?_cons_cons];exact h1,h2⟩
 have hit := G4.items_range s.data.toList.length s.data.toList (zb _)
 refine ⟨fr _ (hr _ 0 hit),fun c hc => ?_⟩
 obtain ⟨d,h1,h2⟩ := fz _ c hc
 have := hz _ 0 d h1
 rw [h2,this,chars_tot,show s.data.toList.length = s.size from zw,Int.zero_add]
theorem all_refT (s : ByteArray) (text : Int) (fo auto : Bool) : allP s text fo auto = refT auto fo s.size ((chars s).length + 1) (sc0 text) (chars s) := by
 rw [<- tot_refT _ _ _ (Nat.lt_succ_self _) (chars_ends s)]
 have := feeds_tot auto (s.size : Int) (chars s) [] (Mc.begin0 text fo)
 rw [pre_nil] at this
 have e : Mc.begin0 text fo = clean fo (sc0 text) := rfl
 rw [<- e,<- this]
 rfl
end Go.Proofs.YtjjfalbngcbfaaaGreatDoor
