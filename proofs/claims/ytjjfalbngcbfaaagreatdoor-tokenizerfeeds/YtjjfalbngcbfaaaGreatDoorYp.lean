import Derived.Test.YtjjfalbngcbfaaaGreatDoorZ0
import Derived.Test.YtjjfalbngcbfaaaGreatDoorYn
import Derived.Test.YtjjfalbngcbfaaaGreatDoorYo
set_option maxHeartbeats 4000000
set_option maxRecDepth 20000
namespace Go.Proofs.YtjjfalbngcbfaaaGreatDoor
open Go.RowKit
variable {S : Nat -> Prop} {x : Nat} {E : Env} {r : List Ch} {sc : Sc} {dn : Bool} {w W : World}
def cutI : Nat -> jl -> jl
 | 0,s => cutR s
 | 1,s => if [45,45].isSuffixOf s = true then s.take (s.length - 2) else if [45].isSuffixOf s = true then s.take (s.length - 1) else s
 | 2,s => if [45].isSuffixOf s = true then s.take (s.length - 1) else s
 | _,s => s
def CutRow (B : Nat) (w : World) : Prop := w.cell? (jd B 0) = some (.string ⟨#[45,45,33]⟩) /\ w.cell? (jd B 1) = some (.string ⟨#[45,45]⟩) /\ w.cell? (jd B 2) = some (.string ⟨#[45]⟩) /\ B < w.heap.size
theorem suf_drop {p s : jl} (h : p.length <= s.length) : (p.isSuffixOf s = true) ↔ s.drop (s.length - p.length) = p := by
 rw [List.isSuffixOf_iff_suffix]
 constructor
 · rintro ⟨u,rfl⟩
   simp
 intro e
 rw [<- e]
 exact List.drop_suffix _ _
theorem bs_tail (s : jl) (m : Nat) : (bs s).extract m (bs s).size = bs (s.drop m) := by
 apply G9.bytes_eq
 rw [G6.bytes_drop,bs_list,bs_list]
theorem bs_front (s : jl) (m : Nat) : (bs s).extract 0 m = bs (s.take m) := by
 apply G9.bytes_eq
 simp [ByteArray.data_extract,bs]
theorem cutI_pos : ∀ (i : Nat) {s : jl},(i = 0 -> [45,45,33].isSuffixOf s = true) -> (i = 1 -> [45,45].isSuffixOf s = true) -> (i = 2 -> [45].isSuffixOf s = true) -> i < 3 -> cutI i s = s.take (s.length - (3 - i))
 | 0,s,h,_,_,_ => by
  show cutR s = _;unfold cutR;rw [jp (h rfl)]
 | 1,s,_,h,_,_ => by
  show ite _ _ _ = _;rw [jp (h rfl)]
 | 2,s,_,_,h,_ => by
  show ite _ _ _ = _;rw [jp (h rfl)]
 | n + 3,_,_,_,_,h => absurd h (by omega)
theorem cutI_neg : ∀ (i : Nat) {s : jl},(i = 0 -> ¬ [45,45,33].isSuffixOf s = true) -> (i = 1 -> ¬ [45,45].isSuffixOf s = true) -> (i = 2 -> ¬ [45].isSuffixOf s = true) -> i < 3 -> cutI i s = cutI (i + 1) s
 | 0,s,h,_,_,_ => by
  show cutR s = _;unfold cutR;rw [jq (h rfl)];rfl
 | 1,s,_,h,_,_ => by
  show ite _ _ _ = _;rw [jq (h rfl)];rfl
 | 2,s,_,_,h,_ => by
  show ite _ _ _ = _;rw [jq (h rfl)];rfl
 | n + 3,_,_,_,_,h => absurd h (by omega)
theorem alloc_cell (w : World) (c : Array Value) (e i : Nat) {v : Value} (h : c[i]? = some v) : (w.alloc (.cells c e)).cell? (jd w.heap.size i) = some v := by
 have h0 : (w.alloc (.cells c e)).heap[w.heap.size]? = some (.cells c e) := by
  show (w.heap.push _)[w.heap.size]? = _;exact Array.getElem?_push_size
 simp only [World.cell?,h0,h]
 rfl
theorem cut_any (s : jl) (w : World) (hs : s.length <= 500000) : Calls Tryz.prog 137 #[.string (bs s)] w fun e w' => e = jr (.string (bs (cutR s))) /\ Below w.heap.size w w' := by
 obtain ⟨C,hC⟩ := ex (cutR s)
 have HC : Hid (cutI 0 s = C) := hC
 rw [hC]
 obtain ⟨sv,hsv⟩ := ex (bs s)
 have HSV : Hid (bs s = sv) := hsv
 have hsz : sv.size <= 500000 := by rw [<- hsv,bs_size];exact hs
 rw [hsv]
 clear hC hsv hs
 go_enter Tryz.func137,Tryz.ntmps137
 go_wp2_with fail
 go_loopw [4] (fun iv wr => ∃ i : Nat,iv = ji i /\ i <= 3 /\ cutI i s = C /\ CutRow w.heap.size wr /\ Below w.heap.size w wr) (fun iv _ => 3 - (intOf iv).toNat)
 case atStart =>
  refine ⟨0,rfl,by omega,HC.out,⟨?_,?_,?_,?_⟩,?_⟩
  · exact alloc_cell _ _ _ _ rfl
  · exact alloc_cell _ _ _ _ rfl
  · exact alloc_cell _ _ _ _ rfl
  · simp
  exact ze _ _
 obtain ⟨i,rfl,hi,hc,⟨c0,c1,c2,hB⟩,b0⟩ := hrel
 have HRow : Hid (∀ n,CutRow w.heap.size (wr.drewN n) /\ Below w.heap.size w (wr.drewN n)) := fun n => ⟨⟨c0,c1,c2,hB⟩,G9.below_drewN b0 n⟩
 have HRow0 : Hid (CutRow w.heap.size wr /\ Below w.heap.size w wr) := ⟨⟨c0,c1,c2,hB⟩,b0⟩
 have h4 : i = 0 \/ i = 1 \/ i = 2 \/ i = 3 := by omega
 clear hi b0
 rcases h4 with rfl | rfl | rfl | rfl
 · clear c1 c2
   by_cases hk : 3 <= s.length
   · obtain ⟨m,hm⟩ : ∃ m,s.length = m + 3 := ⟨s.length - 3,by omega⟩
     have hm2 : sv.size = m + 3 := by rw [<- HSV.out,bs_size];exact hm
     have hwr : IntKind.i64.wrap ((sv.size : Int) - 3) = (m : Int) := by rw [IntKind.wrap_i64];omega
     have gm : decide ((m : Int) >= 0) = true := zm (by omega);have hmz : m <= sv.size := by omega
     have hse : sv.extract m sv.size = bs (s.drop m) := by rw [<- HSV.out,bs_tail]
     have hfe : sv.extract 0 m = bs (s.take m) := by rw [<- HSV.out,bs_front]
     by_cases hsf : [45,45,33].isSuffixOf s = true
     · have HN : Hid (s.take m = C) := by
        show _ = _;rw [<- hc,cutI_pos 0 (fun _ => hsf) (fun h => absurd h (by decide)) (fun h => absurd h (by decide)) (by omega),hm];rfl
       have hdr : s.drop m = [45,45,33] := by
        have := (suf_drop (p := [45,45,33]) (by simpa using hk)).1 hsf;rw [hm] at this;simpa using this
       have hse2 : ((sv.extract m sv.size).toList == [45,45,33]) = true := by rw [hse,hdr,ByteArray.toList_eq,bs_list];rfl
       have HFE : Hid (sv.extract 0 m = bs (s.take m)) := hfe;clear hc hse hfe hdr hsf hk hm hm2;go_wp2_with fail;go_quiet (fail);go_wp2_with fail;go_ret;exact ⟨by rw [<- HN.out,<- HFE.out];rfl,(HRow.out _).2⟩
     have HN : Hid (cutI 1 s = C) := by
      show _ = _;rw [<- hc,cutI_neg 0 (fun _ => hsf) (fun h => absurd h (by decide)) (fun h => absurd h (by decide)) (by omega)]
     have hse2 : ((sv.extract m sv.size).toList == [45,45,33]) = false := by
      rw [hse,ByteArray.toList_eq,bs_list];refine beq_false_of_ne fun e2 => ?_;refine hsf ((suf_drop (p := [45,45,33]) (by simpa using hk)).2 ?_);rw [hm];simpa using e2
     clear hc hse hfe hsf hk hm hm2;go_wp2_with fail;go_quiet (fail);go_wp2_with fail;go_roundw
     case rel => exact ⟨1,by go_num,by omega,HN.out,(HRow.out _).1,(HRow.out _).2⟩
     case measure => simp [intOf]
   have HN : Hid (cutI 1 s = C) := by
    have hsf : ¬ [45,45,33].isSuffixOf s = true := fun h => hk (List.isSuffixOf_iff_suffix.1 h).length_le;show _ = _;rw [<- hc,cutI_neg 0 (fun _ => hsf) (fun h => absurd h (by decide)) (fun h => absurd h (by decide)) (by omega)]
   obtain ⟨nn,hnn⟩ : ∃ nn : Int,(sv.size : Int) - 3 = nn := ⟨_,rfl⟩;have hsl : sv.size < 3 := by rw [<- HSV.out,bs_size];omega
   have hwr : IntKind.i64.wrap ((sv.size : Int) - 3) = nn := by rw [IntKind.wrap_i64];omega
   have gm : decide (nn >= 0) = false := zn (by omega);clear hc hk hnn hsl;go_wp2_with fail;go_quiet (fail);go_wp2_with fail;go_roundw
   case rel => exact ⟨1,by go_num,by omega,HN.out,(HRow.out _).1,(HRow.out _).2⟩
   case measure => simp [intOf]
 · clear c0 c2
   by_cases hk : 2 <= s.length
   · obtain ⟨m,hm⟩ : ∃ m,s.length = m + 2 := ⟨s.length - 2,by omega⟩
     have hm2 : sv.size = m + 2 := by rw [<- HSV.out,bs_size];exact hm
     have hwr : IntKind.i64.wrap ((sv.size : Int) - 2) = (m : Int) := by rw [IntKind.wrap_i64];omega
     have gm : decide ((m : Int) >= 0) = true := zm (by omega);have hmz : m <= sv.size := by omega
     have hse : sv.extract m sv.size = bs (s.drop m) := by rw [<- HSV.out,bs_tail]
     have hfe : sv.extract 0 m = bs (s.take m) := by rw [<- HSV.out,bs_front]
     by_cases hsf : [45,45].isSuffixOf s = true
     · have HN : Hid (s.take m = C) := by
        show _ = _;rw [<- hc,cutI_pos 1 (fun h => absurd h (by decide)) (fun _ => hsf) (fun h => absurd h (by decide)) (by omega),hm];rfl
       have hdr : s.drop m = [45,45] := by
        have := (suf_drop (p := [45,45]) (by simpa using hk)).1 hsf;rw [hm] at this;simpa using this
       have hse2 : ((sv.extract m sv.size).toList == [45,45]) = true := by rw [hse,hdr,ByteArray.toList_eq,bs_list];rfl
       have HFE : Hid (sv.extract 0 m = bs (s.take m)) := hfe;clear hc hse hfe hdr hsf hk hm hm2;go_wp2_with fail;go_quiet (fail);go_wp2_with fail;go_ret;exact ⟨by rw [<- HN.out,<- HFE.out];rfl,(HRow.out _).2⟩
     have HN : Hid (cutI 2 s = C) := by
      show _ = _;rw [<- hc,cutI_neg 1 (fun h => absurd h (by decide)) (fun _ => hsf) (fun h => absurd h (by decide)) (by omega)]
     have hse2 : ((sv.extract m sv.size).toList == [45,45]) = false := by
      rw [hse,ByteArray.toList_eq,bs_list];refine beq_false_of_ne fun e2 => ?_;refine hsf ((suf_drop (p := [45,45]) (by simpa using hk)).2 ?_);rw [hm];simpa using e2
     clear hc hse hfe hsf hk hm hm2;go_wp2_with fail;go_quiet (fail);go_wp2_with fail;go_roundw
     case rel => exact ⟨2,by go_num,by omega,HN.out,(HRow.out _).1,(HRow.out _).2⟩
     case measure => simp [intOf]
   have HN : Hid (cutI 2 s = C) := by
    have hsf : ¬ [45,45].isSuffixOf s = true := fun h => hk (List.isSuffixOf_iff_suffix.1 h).length_le;show _ = _;rw [<- hc,cutI_neg 1 (fun h => absurd h (by decide)) (fun _ => hsf) (fun h => absurd h (by decide)) (by omega)]
   obtain ⟨nn,hnn⟩ : ∃ nn : Int,(sv.size : Int) - 2 = nn := ⟨_,rfl⟩;have hsl : sv.size < 2 := by rw [<- HSV.out,bs_size];omega
   have hwr : IntKind.i64.wrap ((sv.size : Int) - 2) = nn := by rw [IntKind.wrap_i64];omega
   have gm : decide (nn >= 0) = false := zn (by omega);clear hc hk hnn hsl;go_wp2_with fail;go_quiet (fail);go_wp2_with fail;go_roundw
   case rel => exact ⟨2,by go_num,by omega,HN.out,(HRow.out _).1,(HRow.out _).2⟩
   case measure => simp [intOf]
 · clear c0 c1
   by_cases hk : 1 <= s.length
   · obtain ⟨m,hm⟩ : ∃ m,s.length = m + 1 := ⟨s.length - 1,by omega⟩
     have hm2 : sv.size = m + 1 := by rw [<- HSV.out,bs_size];exact hm
     have hwr : IntKind.i64.wrap ((sv.size : Int) - 1) = (m : Int) := by rw [IntKind.wrap_i64];omega
     have gm : decide ((m : Int) >= 0) = true := zm (by omega);have hmz : m <= sv.size := by omega
     have hse : sv.extract m sv.size = bs (s.drop m) := by rw [<- HSV.out,bs_tail]
     have hfe : sv.extract 0 m = bs (s.take m) := by rw [<- HSV.out,bs_front]
     by_cases hsf : [45].isSuffixOf s = true
     · have HN : Hid (s.take m = C) := by
        show _ = _;rw [<- hc,cutI_pos 2 (fun h => absurd h (by decide)) (fun h => absurd h (by decide)) (fun _ => hsf) (by omega),hm];rfl
       have hdr : s.drop m = [45] := by
        have := (suf_drop (p := [45]) (by simpa using hk)).1 hsf;rw [hm] at this;simpa using this
       have hse2 : ((sv.extract m sv.size).toList == [45]) = true := by rw [hse,hdr,ByteArray.toList_eq,bs_list];rfl
       have HFE : Hid (sv.extract 0 m = bs (s.take m)) := hfe;clear hc hse hfe hdr hsf hk hm hm2;go_wp2_with fail;go_quiet (fail);go_wp2_with fail;go_ret;exact ⟨by rw [<- HN.out,<- HFE.out];rfl,(HRow.out _).2⟩
     have HN : Hid (cutI 3 s = C) := by
      show _ = _;rw [<- hc,cutI_neg 2 (fun h => absurd h (by decide)) (fun h => absurd h (by decide)) (fun _ => hsf) (by omega)]
     have hse2 : ((sv.extract m sv.size).toList == [45]) = false := by
      rw [hse,ByteArray.toList_eq,bs_list];refine beq_false_of_ne fun e2 => ?_;refine hsf ((suf_drop (p := [45]) (by simpa using hk)).2 ?_);rw [hm];simpa using e2
     clear hc hse hfe hsf hk hm hm2;go_wp2_with fail;go_quiet (fail);go_wp2_with fail;go_roundw
     case rel => exact ⟨3,by go_num,by omega,HN.out,(HRow.out _).1,(HRow.out _).2⟩
     case measure => simp [intOf]
   have HN : Hid (cutI 3 s = C) := by
    have hsf : ¬ [45].isSuffixOf s = true := fun h => hk (List.isSuffixOf_iff_suffix.1 h).length_le;show _ = _;rw [<- hc,cutI_neg 2 (fun h => absurd h (by decide)) (fun h => absurd h (by decide)) (fun _ => hsf) (by omega)]
   obtain ⟨nn,hnn⟩ : ∃ nn : Int,(sv.size : Int) - 1 = nn := ⟨_,rfl⟩;have hsl : sv.size < 1 := by rw [<- HSV.out,bs_size];omega
   have hwr : IntKind.i64.wrap ((sv.size : Int) - 1) = nn := by rw [IntKind.wrap_i64];omega
   have gm : decide (nn >= 0) = false := zn (by omega);clear hc hk hnn hsl;go_wp2_with fail;go_quiet (fail);go_wp2_with fail;go_roundw
   case rel => exact ⟨3,by go_num,by omega,HN.out,(HRow.out _).1,(HRow.out _).2⟩
   case measure => simp [intOf]
 have HN : Hid (s = C) := hc
 clear c0 c1 c2
 go_wp2_with fail
 go_ret
 exact ⟨by rw [<- HN.out,HSV.out];rfl,HRow0.out.2⟩
theorem TW.isw (h : TW S x E r sc dn w W) (word : jl) (fold : Bool) (hwl : word.length <= 1000) : Calls Tryz.prog 101 #[mp x,.string (bs word),.bool fold] W fun e w' => e = jr (.bool (isW fold word r)) /\ TW S x E r sc dn w w' := by
 refine (is_any h.tm word fold hwl).mono ?_
 rintro e w' ⟨rfl,k'⟩
 exact ⟨rfl,h.trans k'⟩
theorem isw_len {fold : Bool} : ∀ {wd : jl} {r : List Ch},isW fold wd r = true -> wd.length <= r.length
 | [],_,_ => Nat.zero_le _
 | _ :: _,[],h => by simp [isW] at h
 | b :: s,c :: t,h => by
  unfold isW at h;rw [Bool.and_eq_true] at h;have := isw_len h.2;simp only [zi];omega
theorem pos_drop {n : Nat} (h : n <= r.length) : pos E r + n = pos E (r.drop n) := by
 unfold pos
 rw [zk]
 omega
theorem TW.nth (h : TW S x E r sc dn w W) {k : Nat} {c : Ch} (hk : r[k]? = some c) : ∃ (bb off k1 : Nat),IntKind.i64.wrap (pos E r + k) = (k1 : Int) /\ k1 < E.L.length /\ E.L.length <= 100000 /\ E.L.length <= E.cap /\ ∀ (sc' : Sc) (w' W' : World),TW S x E r sc' dn w' W' -> W'.cell? (jd x 0) = some (.slice (some (jd bb off)) E.L.length E.cap) /\ W'.cell? (jd x 1) = some (ji (pos E r)) /\ W'.cell? (jd bb (off + k1 * 3 + 1)) = some (ji c.a) := by
 obtain ⟨fv,h1⟩ := h.tm
 have hrl := h1.suf.length_le
 have hkl := (zg hk)
 have hfew := h1.few
 have hLc : E.L[E.L.length - r.length + k]? = some c := by
  obtain ⟨q,hq⟩ := h1.suf;have : q.length = E.L.length - r.length := by rw [<- hq];simp
  rw [<- this];rw [<- hq,List.getElem?_append_right (by omega),show q.length + k - q.length = k by omega];exact hk
 obtain ⟨bb,off,elo,_⟩ := h1.row.now _ _ hLc
 refine ⟨bb,off,E.L.length - r.length + k,?_,by omega,hfew,h1.cap,fun sc' w' W' h' => ?_⟩
 · rw [IntKind.wrap_i64]
   unfold pos;omega
 obtain ⟨a1,_,_,_,a5⟩ := h'.at
 obtain ⟨fv',h2⟩ := h'.tm
 obtain ⟨bb',off',elo',_,_,q2,_⟩ := h2.row.now _ _ hLc
 rw [elo] at elo' a5
 simp at elo'
 obtain ⟨rfl,rfl⟩ := elo'
 exact ⟨a5,a1,q2⟩
theorem text_any (h : Tm S x E r sc dn w) {c0 : Ch} {F : List Ch} (hF : c0 :: F <:+ E.L) (hr : r <:+ F) (hpos : ∀ d ∈ r,0 <= d.r) (hB : sc.fs.length <= 1000000000) : Calls Tryz.prog 102 #[mp x,ji (pos E (c0 :: F))] w (Tokd S x E (textR E.N (c0 :: F) sc r) dn w) := by
 have K0 : Hid (TW S x E r sc dn w w) := TW.start h
 have hxw := h.lt
 obtain ⟨T,hT⟩ := ex (textR E.N (c0 :: F) sc r)
 have HT := hid hT
 rw [hT]
 have HFr : Hid (c0 :: F <:+ E.L /\ r <:+ F /\ (∀ d ∈ r,0 <= d.r) /\ r.length <= 100000 /\ sc.fs.length <= 1000000000 /\ r <:+ E.L) := ⟨hF,hr,hpos,by have := K0.out.facts;have := this.2.1.length_le;omega,hB,K0.out.facts.2.1⟩
 obtain ⟨pF,hpF⟩ := ex (pos E (c0 :: F))
 have HPF := hid hpF
 rw [hpF]
 have HE0 : Hid (bs [] = ⟨#[]⟩) := rfl
 clear h hF hr hpos hpF hT hB
 cases hw1 : isW false [62] r with
 | true =>
  have HW1 := hid hw1;cases r with
  | nil => simp [isW] at hw1
  | cons c t =>
   obtain ⟨cr,ca,cz⟩ := c;have HTT : Hid (T = (comT (c0 :: F) [] t,sc.fsd (sc.fs ++ [(15,ca)]),t)) := by
    show T = _;rw [<- HT.out];unfold textR;rw [jp hw1];rfl
   have HSU : Hid (t <:+ E.L) := (zl _ _).trans HFr.out.2.2.2.2.2;have HPS : Hid (pos E (⟨cr,ca,cz⟩ :: t) + 1 = pos E t) := pos_cons.symm;clear hw1;go_enter Tryz.func102,Tryz.ntmps102;go_wp2_with fail;refine twx (K0.out.isw [62] false (by decide)) fun W1 K1 hx1 => ?_;rw [HW1.out];go_wp2_with fail;refine twx K1.out.ba fun W2 K2 hx2 => ?_;go_wp2_with fail;refine twx (K2.out.tfl 15 ca HFr.out.2.2.2.2.1) fun W3 K3 hx3 => ?_;obtain ⟨pq,a1,a2,a3,a4,KA⟩ := K3.out.gox (r' := t) (HSU.out) 1 (HPS.out);have kcm := comment_any' KA.out.tm HFr.out.1 (by have h2 := HFr.out.2.1.length_le;simp only [zi] at h2;omega) [];rw [HPF.out,HE0.out] at kcm;go_wp2_with fail;refine tokx kcm KA.out fun ao n9 cap w9 H9 => ?_;clear kcm;go_wp2_with fail;go_ret;rw [HTT.out];exact H9.out
 | false =>
  have HW1 := hid hw1;cases hw2 : isW false [45,62] r with
  | true =>
   have HW2 := hid hw2;have hl2 := isw_len hw2;cases r with
   | nil => simp at hl2
   | cons c t1 => cases t1 with
    | nil => simp at hl2
    | cons d t =>
     obtain ⟨cr,ca,cz⟩ := c;obtain ⟨dr,da,dz⟩ := d;have HTT : Hid (T = (comT (c0 :: F) [] t,sc.fsd (sc.fs ++ [(15,da)]),t)) := by
      show T = _;rw [<- HT.out];unfold textR;rw [jq (by rw [hw1];decide),jp hw2];rfl
     have HSU : Hid (t <:+ E.L) := ((zl _ _).trans (zl _ _)).trans HFr.out.2.2.2.2.2;have HPS : Hid (pos E (⟨cr,ca,cz⟩ :: ⟨dr,da,dz⟩ :: t) + 2 = pos E t) := pos_drop (n := 2) (by simp);clear hw1 hw2 hl2;go_enter Tryz.func102,Tryz.ntmps102;go_wp2_with fail;refine twx (K0.out.isw [62] false (by decide)) fun W1 K1 hx1 => ?_;rw [HW1.out];go_wp2_with fail;refine twx (K1.out.isw [45,62] false (by decide)) fun W2 K2 hx2 => ?_;rw [HW2.out];obtain ⟨bb,off,k1,hwk,hk1,hL5,hLc,hcel⟩ := K2.out.nth (k := 1) (c := ⟨dr,da,dz⟩) rfl;obtain ⟨L0,hL0⟩ := ex (E.L.length);obtain ⟨pk,hpk⟩ := ex (pos E (⟨cr,ca,cz⟩ :: ⟨dr,da,dz⟩ :: t));simp only [hL0,hpk] at hk1 hL5 hLc hcel hwk;have HPK := hid hpk;have HCel := hid hcel;have q0 := hcel _ _ _ K2.out;obtain ⟨_,_,b3,b4,_⟩ := K2.out.at;rw [hpk] at b3 b4;have hk0 := K2.out.below ((Below.refl _ _).drew);have hwe : pk + 1 = (k1 : Int) := by rw [IntKind.wrap_i64] at hwk;omega
     have hki : pk + 1 < (L0 : Int) := by omega
     have h0i : (0 : Int) <= pk + 1 := by omega
     have htn : (pk + 1).toNat = k1 := by omega
     have hng : ¬ pk + 1 < 0 := by omega
     have hwp : IntKind.i64.wrap (pk + 1) = pk + 1 := by rw [IntKind.wrap_i64];omega
     have HFt : Hid (∀ W,TW S x E (⟨cr,ca,cz⟩ :: ⟨dr,da,dz⟩ :: t) sc dn w W -> Calls Tryz.prog 65 #[mp x,ji 15,ji da] W fun e w' => e = jr (.tuple #[]) /\ TW S x E (⟨cr,ca,cz⟩ :: ⟨dr,da,dz⟩ :: t) (sc.fsd (sc.fs ++ [(15,da)])) dn w w') := fun W hW => hW.tfl 15 da HFr.out.2.2.2.2.1;clear hcel hL0 hpk hwk hwe b3 b4;go_wp2_with fail;go_region_held3 (fun w' => w'.cell? (jd x 0) = some (.slice (some (jd bb off)) L0 E.cap) /\ w'.cell? (jd x 1) = some (ji pk) /\ w'.cell? (jd bb (off + k1 * 3 + 1)) = some (ji da))
      (first | assumption | go_keep)
      (first
       | (go_at_call 65;refine (HFt.out _ (by assumption)).mono ?_;rintro e w'' ⟨rfl,hkk2⟩;have hcc2 := HCel.out _ _ _ hkk2))
     have K3 : Hid (TW S x E (⟨cr,ca,cz⟩ :: ⟨dr,da,dz⟩ :: t) (sc.fsd (sc.fs ++ [(15,da)])) dn w w'') := by assumption
     have hx3 := K3.out.lt;clear hkk2 hcc2 hk0 q0;obtain ⟨a1,a2,a3,a4,_⟩ := K3.out.at;have KA0 := K3.out.go (r' := t) (HSU.out) (pos E (⟨cr,ca,cz⟩ :: ⟨dr,da,dz⟩ :: t) + 2) (HPS.out);have hpq := HPK.out;rw [hpq] at a1 a3 a4 KA0;have KA := hid KA0;clear hpq KA0;have kcm := comment_any' KA.out.tm HFr.out.1 (by have h2 := HFr.out.2.1.length_le;simp only [zi] at h2;omega) [];rw [HPF.out,HE0.out] at kcm;go_wp2_with fail;refine tokx kcm KA.out fun ao n9 cap w9 H9 => ?_;clear kcm;go_wp2_with fail;go_ret;rw [HTT.out];exact H9.out
  | false =>
   have HW2 := hid hw2;have HTT : Hid (comR E.N (c0 :: F) sc [] r = T) := by
    show _ = T;rw [<- HT.out];unfold textR;rw [jq (by rw [hw1];decide),jq (by rw [hw2];decide)]
   clear hw1 hw2;go_enter Tryz.func102,Tryz.ntmps102;go_wp2_with fail;refine twx (K0.out.isw [62] false (by decide)) fun W1 K1 hx1 => ?_;rw [HW1.out];go_wp2_with fail;refine twx (K1.out.isw [45,62] false (by decide)) fun W2 K2 hx2 => ?_;rw [HW2.out];go_wp2_with fail;go_loopw [5] (fun sv wr => ∃ (q : jl) (r' : List Ch),sv = .string (bs q) /\ comR E.N (c0 :: F) sc q r' = T /\ r' <:+ r /\ q.length <= 4 * (r.length - r'.length) /\ TW S x E r' sc dn w wr) (fun _ wr => E.L.length - atOf x wr)
   case atStart => exact ⟨[],r,rfl,HTT.out,List.suffix_refl _,Nat.zero_le _,K2.out⟩
   obtain ⟨q,r',rfl,hq,hsr,hql,hk⟩ := hrel;clear K0 K1 K2 HW1 HW2;have K0 := hid hk;have hxr := hk.lt;obtain ⟨sv,hsv⟩ := ex (bs q);have hsz : sv.size <= 400000 := by
    rw [<- hsv,bs_size];have := HFr.out.2.2.2.1;omega
   have HV := hid hsv;have HSR : Hid (r' <:+ r /\ q.length <= 400000) := ⟨hsr,by have := HFr.out.2.2.2.1;omega⟩;rw [hsv];cases r' with
   | nil =>
    have HTE : Hid (T = (comT (c0 :: F) (cutR q) [],sc.fsd (sc.fs ++ [(16,E.N)]),[])) := by
     show T = _;rw [<- hq];rfl
    clear hk hq hsr hql hsv;go_wp2_with fail;refine twx K0.out.c0 fun W1 K1 hx1 => ?_;have c2 : W1.cell? (jd x 2) = some (ji E.N) := by obtain ⟨fv,h1⟩ := K1.out.tm;exact h1.cells 2 _ rfl
    go_wp2_with fail;refine (K1.out.tfl 16 E.N HFr.out.2.2.2.2.1).mono ?_;rintro e W2 ⟨rfl,k'⟩;have K2 := hid k';have hx2 := k'.lt;clear k' c2;have kct := cut_any q W2 (by have := HSR.out.2;omega);rw [HV.out] at kct;go_wp2_with fail;refine kct.mono ?_;rintro e W3 ⟨rfl,b3⟩;have K3 := hid (K2.out.below b3);have hx3 := K3.out.lt;clear b3 kct;obtain ⟨cv,hcv⟩ := ex (bs (cutR q));have HCV := hid hcv;rw [hcv];clear hcv;have kcm := comment_any' K3.out.tm HFr.out.1 (by simp) (cutR q);rw [HPF.out,HCV.out] at kcm;go_wp2_with fail;refine tokx kcm K3.out fun ao n9 cap w9 H9 => ?_;clear kcm;go_wp2_with fail;go_ret;rw [HTE.out];exact H9.out
   | cons c t =>
    obtain ⟨cr,ca,cz⟩ := c;have hc0 : 0 <= cr := HFr.out.2.2.1 ⟨cr,ca,cz⟩ (hsr.subset (by simp));have gc0 : decide (cr >= 0) = true := zm (by omega);have hsE := hsr.trans HFr.out.2.2.2.2.2;unfold comR at hq;cases hw3 : isW false [45,45,62] (⟨cr,ca,cz⟩ :: t) with
    | true =>
     have HW3 := hid hw3;rw [jp hw3] at hq;have hl := isw_len hw3;have HTE := hid hq.symm;have HSU : Hid ((⟨cr,ca,cz⟩ :: t : List Ch).drop 3 <:+ E.L) := (List.drop_suffix _ _).trans hsE;have HPS : Hid (pos E (⟨cr,ca,cz⟩ :: t) + 3 = pos E ((⟨cr,ca,cz⟩ :: t : List Ch).drop 3)) := pos_drop (n := 3) hl;clear hk hq hsr hql hsv hw3 hl hc0 hsE;go_wp2_with fail;refine twx K0.out.cc fun W1 K1 hx1 => ?_;go_wp2_with fail;refine twx (K1.out.isw [45,45,62] false (by decide)) fun W2 K2 hx2 => ?_;rw [HW3.out];obtain ⟨pq,a1,a2,a3,a4,KA⟩ := K2.out.gox (r' := ((⟨cr,ca,cz⟩ :: t : List Ch).drop 3)) (HSU.out) 3 (HPS.out);have kcm := comment_any' KA.out.tm HFr.out.1 (by have h1 := HSR.out.1.length_le;have h2 := HFr.out.2.1.length_le;rw [zk];omega) q;rw [HPF.out,HV.out] at kcm;go_wp2_with fail;refine tokx kcm KA.out fun ao n9 cap w9 H9 => ?_;clear kcm;go_wp2_with fail;go_ret;rw [HTE.out];exact H9.out
    | false =>
     have HW3 := hid hw3;rw [jq (by rw [hw3];decide)] at hq;cases hw4 : isW false [45,45,33,62] (⟨cr,ca,cz⟩ :: t) with
     | true =>
      have HW4 := hid hw4;rw [jp hw4] at hq;have hl := isw_len hw4;simp only [zi,zj] at hl
      match t,hl with
      | t1 :: t2 :: ⟨dr,da,dz⟩ :: t',_ =>
       have HTE := hid hq.symm;have HSU : Hid (t' <:+ E.L) := (List.drop_suffix 4 (⟨cr,ca,cz⟩ :: t1 :: t2 :: ⟨dr,da,dz⟩ :: t' : List Ch)).trans hsE;have HPS : Hid (pos E (⟨cr,ca,cz⟩ :: t1 :: t2 :: ⟨dr,da,dz⟩ :: t') + 4 = pos E t') := pos_drop (n := 4) (by simp);clear hk hq hsr hql hsv hw3 hw4 hl hc0 hsE;go_wp2_with fail;refine twx K0.out.cc fun W1 K1 hx1 => ?_;go_wp2_with fail;refine twx (K1.out.isw [45,45,62] false (by decide)) fun W2 K2 hx2 => ?_;rw [HW3.out];go_wp2_with fail;refine twx (K2.out.isw [45,45,33,62] false (by decide)) fun W3 K3 hx3 => ?_;rw [HW4.out];obtain ⟨bb,off,k1,hwk,hk1,hL5,hLc,hcel⟩ := K3.out.nth (k := 3) (c := ⟨dr,da,dz⟩) rfl;obtain ⟨L0,hL0⟩ := ex (E.L.length);obtain ⟨pk,hpk⟩ := ex (pos E (⟨cr,ca,cz⟩ :: t1 :: t2 :: ⟨dr,da,dz⟩ :: t'));simp only [hL0,hpk] at hk1 hL5 hLc hcel hwk;have HPK := hid hpk;have HCel := hid hcel;have q0 := hcel _ _ _ K3.out;obtain ⟨_,_,b3,b4,_⟩ := K3.out.at;rw [hpk] at b3 b4;have hk0 := K3.out.below ((Below.refl _ _).drew);have hwe : pk + 3 = (k1 : Int) := by rw [IntKind.wrap_i64] at hwk;omega
       have hki : pk + 3 < (L0 : Int) := by omega
       have h0i : (0 : Int) <= pk + 3 := by omega
       have htn : (pk + 3).toNat = k1 := by omega
       have hng : ¬ pk + 3 < 0 := by omega
       have hwp : IntKind.i64.wrap (pk + 3) = pk + 3 := by rw [IntKind.wrap_i64];omega
       have HFt : Hid (∀ W,TW S x E (⟨cr,ca,cz⟩ :: t1 :: t2 :: ⟨dr,da,dz⟩ :: t') sc dn w W -> Calls Tryz.prog 65 #[mp x,ji 15,ji da] W fun e w' => e = jr (.tuple #[]) /\ TW S x E (⟨cr,ca,cz⟩ :: t1 :: t2 :: ⟨dr,da,dz⟩ :: t') (sc.fsd (sc.fs ++ [(15,da)])) dn w w') := fun W hW => hW.tfl 15 da HFr.out.2.2.2.2.1;clear hcel hL0 hpk hwk hwe b3 b4;go_wp2_with fail;go_region_held3 (fun w' => w'.cell? (jd x 0) = some (.slice (some (jd bb off)) L0 E.cap) /\ w'.cell? (jd x 1) = some (ji pk) /\ w'.cell? (jd bb (off + k1 * 3 + 1)) = some (ji da))
        (first | assumption | go_keep)
        (first
         | (go_at_call 65;refine (HFt.out _ (by assumption)).mono ?_;rintro e w'' ⟨rfl,hkk2⟩;have hcc2 := HCel.out _ _ _ hkk2))
       have K4 : Hid (TW S x E (⟨cr,ca,cz⟩ :: t1 :: t2 :: ⟨dr,da,dz⟩ :: t') (sc.fsd (sc.fs ++ [(15,da)])) dn w w'') := by assumption
       have hx4 := K4.out.lt;clear hkk2 hcc2 hk0 q0;obtain ⟨a1,a2,a3,a4,_⟩ := K4.out.at;have KA0 := K4.out.go (r' := t') (HSU.out) (pos E (⟨cr,ca,cz⟩ :: t1 :: t2 :: ⟨dr,da,dz⟩ :: t') + 4) (HPS.out);have hpq := HPK.out;rw [hpq] at a1 a3 a4 KA0;have KA := hid KA0;clear hpq KA0;have kcm := comment_any' KA.out.tm HFr.out.1 (by have h1 := HSR.out.1.length_le;have h2 := HFr.out.2.1.length_le;simp only [zi] at h1;omega) q;rw [HPF.out,HV.out] at kcm;go_wp2_with fail;refine tokx kcm KA.out fun ao n9 cap w9 H9 => ?_;clear kcm;go_wp2_with fail;go_ret;rw [HTE.out];exact H9.out
     | false =>
      have HW4 := hid hw4;rw [jq (by rw [hw4];decide)] at hq;have HN : Hid (comR E.N (c0 :: F) sc (q ++ enc cr) t = T /\ t <:+ r /\ (q ++ enc cr).length <= 4 * (r.length - t.length)) := by
       refine ⟨hq,(zl _ _).trans hsr,?_⟩;have := enc_len cr;have h5 := hsr.length_le;simp only [zi,zh] at h5 hql |-;omega
      have HM : Hid (E.L.length - atOf x wr = t.length + 1) := hk.meas;have HSU : Hid (t <:+ E.L) := (zl _ _).trans hsE;have HPS : Hid (pos E (⟨cr,ca,cz⟩ :: t) + 1 = pos E t) := pos_cons.symm;clear hk hq hsr hql hsv hw3 hw4 hc0 hsE;go_wp2_with fail;refine twx K0.out.cc fun W1 K1 hx1 => ?_;go_wp2_with fail;refine twx (K1.out.isw [45,45,62] false (by decide)) fun W2 K2 hx2 => ?_;rw [HW3.out];go_wp2_with fail;refine twx (K2.out.isw [45,45,33,62] false (by decide)) fun W3 K3 hx3 => ?_;rw [HW4.out];go_wp2_with fail;refine twx K3.out.cc fun W4 K4 hx4 => ?_;go_wp2_with fail;refine (enc_any' cr _).mono ?_;rintro e W5 ⟨rfl,b4⟩;have K5 := hid (K4.out.below b4);have hx5 := K5.out.lt;obtain ⟨ev,hev⟩ := ex (bs (enc cr));have hez : ev.size <= 4 := by rw [<- hev,bs_size];exact enc_len cr
      have HEV := hid hev;rw [hev];clear b4 hev;obtain ⟨pq,a1,a2,a3,a4,KA⟩ := K5.out.gox (r' := t) (HSU.out) 1 (HPS.out);go_wp2_with fail;go_roundw
      case rel => exact ⟨q ++ enc cr,t,by rw [<- bs_app,HV.out,HEV.out],HN.out.1,HN.out.2.1,HN.out.2.2,KA.out⟩
      case measure => rw [KA.out.meas,HM.out];omega
def DocAny : Prop := ∀ {S : Nat -> Prop} {x : Nat} {E : Env} {r : List Ch} {sc : Sc} {dn : Bool} {w : World} (_ : Tm S x E r sc dn w) {c0 : Ch} {F : List Ch} (_ : c0 :: F <:+ E.L) (_ : r <:+ F) (_ : ∀ d ∈ r,0 <= d.r) (_ : sc.fs.length + 8 <= 1000000000),Calls Tryz.prog 103 #[mp x,ji (pos E (c0 :: F))] w (Tokd S x E (docR E.N (c0 :: F) sc r) dn w)
def TagAny : Prop := ∀ {S : Nat -> Prop} {x : Nat} {E : Env} {r : List Ch} {sc : Sc} {dn : Bool} {w : World} (_ : Tm S x E r sc dn w) {c0 : Ch} {F : List Ch} (_ : c0 :: F <:+ E.L) (_ : r <:+ F) (_ : ∀ d ∈ r,0 <= d.r) (_ : sc.fs.length + 8 * r.length + 16 <= 1000000000) (kind : Int) (_ : kind = 2 \/ kind = 3),Calls Tryz.prog 69 #[mp x,ji (pos E (c0 :: F)),ji kind] w (Tokd S x E (tagR E.N (c0 :: F) kind sc r) dn w)
theorem TW.setcd (h : TW S x E r sc dn w W) (b : Bool) : TW S x E r { sc with cd := b } dn w (W.setCell (jd x 7) (.bool b)) := by
 obtain ⟨fv,h1⟩ := h.tm
 obtain ⟨q1,q2⟩ := h1.set (r' := r) (sc' := { sc with cd := b }) (dn' := dn) 7 (.bool b) (by simp [Env.cells]) h1.suf rfl
 exact ⟨⟨fv,q1⟩,h.keep.trans q2⟩
theorem suf_tail {t : List Ch} (h : r <:+ t) (n : Nat) : r.drop n <:+ t := (List.drop_suffix _ _).trans h
theorem markup_any' (hdoc : DocAny) {S : Nat -> Prop} {x : Nat} {E : Env} {r : List Ch} {sc : Sc} {dn : Bool} {w : World} (h : Tm S x E r sc dn w) {c0 : Ch} {F : List Ch} (hF : c0 :: F <:+ E.L) (hr : r <:+ F) (hpos : ∀ d ∈ r,0 <= d.r) (hB : sc.fs.length + 8 <= 1000000000) : Calls Tryz.prog 66 #[mp x,ji (pos E (c0 :: F))] w (Tokd S x E (markupR E.N E.fo (c0 :: F) sc r) dn w) := by
 have K0 : Hid (TW S x E r sc dn w w) := TW.start h
 have hxw := h.lt
 obtain ⟨T,hT⟩ := ex (markupR E.N E.fo (c0 :: F) sc r)
 have HT := hid hT
 rw [hT]
 have HFr := yd hF hr hpos
 have HB := hid hB
 obtain ⟨pF,hpF⟩ := ex (pos E (c0 :: F))
 have HPF := hid hpF
 rw [hpF]
 clear h hF hr hpos hpF hT hB
 have HD : Hid DocAny := @hdoc
 clear hdoc
 cases hw1 : isW false Mc.dashW r with
 | true =>
  have HW1 := hid hw1;have HTT : Hid (T = textR E.N (c0 :: F) sc (r.drop 2)) := by
   show T = _;rw [<- HT.out];unfold markupR;rw [jp hw1]
  have HSU : Hid (r.drop 2 <:+ F) := suf_tail HFr.out.2.1 2;have HPS : Hid (pos E r + 2 = pos E (r.drop 2)) := pos_drop (n := 2) (isw_len hw1);clear hw1;go_enter Tryz.func66,Tryz.ntmps66;go_wp2_with fail;refine twx (K0.out.isw Mc.dashW false (by decide)) fun W1 K1 hx1 => ?_;rw [HW1.out];obtain ⟨pq,a1,a2,a3,a4,KA⟩ := K1.out.gox (r' := (r.drop 2)) (HSU.out.trans ((zl _ _).trans HFr.out.1)) 2 (HPS.out);have kcm := text_any KA.out.tm HFr.out.1 HSU.out (suf_pos (List.drop_suffix _ _) HFr.out.2.2) (by have := HB.out;omega);rw [HPF.out] at kcm;go_wp2_with fail;refine tokx kcm KA.out fun ao n9 cap w9 H9 => ?_;clear kcm;go_wp2_with fail;go_ret;rw [HTT.out];exact H9.out
 | false =>
  have HW1 := hid hw1;cases hw2 : isW true Mc.docW r with
  | true =>
   have HW2 := hid hw2;have HTT : Hid (T = docR E.N (c0 :: F) sc (r.drop 7)) := by
    show T = _;rw [<- HT.out];unfold markupR;rw [jq (by rw [hw1];decide),jp hw2]
   have HSU : Hid (r.drop 7 <:+ F) := suf_tail HFr.out.2.1 7;have HPS : Hid (pos E r + 7 = pos E (r.drop 7)) := pos_drop (n := 7) (isw_len hw2);clear hw1 hw2;go_enter Tryz.func66,Tryz.ntmps66;go_wp2_with fail;refine twx (K0.out.isw Mc.dashW false (by decide)) fun W1 K1 hx1 => ?_;rw [HW1.out];go_wp2_with fail;refine twx (K1.out.isw Mc.docW true (by decide)) fun W2 K2 hx2 => ?_;rw [HW2.out];obtain ⟨pq,a1,a2,a3,a4,KA⟩ := K2.out.gox (r' := (r.drop 7)) (HSU.out.trans ((zl _ _).trans HFr.out.1)) 7 (HPS.out);have kcm := HD.out KA.out.tm HFr.out.1 HSU.out (suf_pos (List.drop_suffix _ _) HFr.out.2.2) HB.out;rw [HPF.out] at kcm;go_wp2_with fail;refine tokx kcm KA.out fun ao n9 cap w9 H9 => ?_;clear kcm;go_wp2_with fail;go_ret;rw [HTT.out];exact H9.out
  | false =>
   have HW2 := hid hw2;cases hw3 : isW false Mc.cdW r with
   | true =>
    have HW3 := hid hw3;cases hfo : E.fo with
    | true =>
     have HTT : Hid (T = ([],{ sc with cd := true },r.drop 7)) := by
      show T = _;rw [<- HT.out];unfold markupR;rw [jq (by rw [hw1];decide),jq (by rw [hw2];decide),jp hw3,jp hfo]
     have HSU : Hid (r.drop 7 <:+ F) := suf_tail HFr.out.2.1 7;have HPS : Hid (pos E r + 7 = pos E (r.drop 7)) := pos_drop (n := 7) (isw_len hw3);have HFO := hid hfo;clear hw1 hw2 hw3 hfo;go_enter Tryz.func66,Tryz.ntmps66;go_wp2_with fail;refine twx (K0.out.isw Mc.dashW false (by decide)) fun W1 K1 hx1 => ?_;rw [HW1.out];go_wp2_with fail;refine twx (K1.out.isw Mc.docW true (by decide)) fun W2 K2 hx2 => ?_;rw [HW2.out];go_wp2_with fail;refine twx (K2.out.isw Mc.cdW false (by decide)) fun W3 K3 hx3 => ?_;rw [HW3.out];have c5 : W3.cell? (jd x 5) = some (.bool true) := by obtain ⟨fv,h1⟩ := K3.out.tm;rw [<- HFO.out];exact h1.cells 5 _ rfl
     obtain ⟨pq,a1,a2,a3,a4,KA⟩ := K3.out.gox (r' := (r.drop 7)) (HSU.out.trans ((zl _ _).trans HFr.out.1)) 7 (HPS.out);have KB := hid (KA.out.setcd true);have f7 : W3.cell? (jd x 7) = some (.bool sc.cd) /\ W3.frozen? (jd x 7) = false := by obtain ⟨fv,h1⟩ := K3.out.tm;exact ⟨h1.cells 7 _ rfl,h1.free 7⟩
     obtain ⟨f7,f7'⟩ := f7;go_wp2_with fail;go_ret;rw [HTT.out];exact ⟨none,[],0,rfl,rfl,zb _,TokR.nil _ _ _,KB.out⟩
    | false =>
     have HTT : Hid (T = bogusR (c0 :: F) (sc.fsd (sc.fs ++ [(21,frN E.N r)])) r) := by
      show T = _;rw [<- HT.out];unfold markupR;rw [jq (by rw [hw1];decide),jq (by rw [hw2];decide),jp hw3,jq (by rw [hfo];decide)];rfl
     have HFO := hid hfo;clear hw1 hw2 hw3 hfo;go_enter Tryz.func66,Tryz.ntmps66;go_wp2_with fail;refine twx (K0.out.isw Mc.dashW false (by decide)) fun W1 K1 hx1 => ?_;rw [HW1.out];go_wp2_with fail;refine twx (K1.out.isw Mc.docW true (by decide)) fun W2 K2 hx2 => ?_;rw [HW2.out];go_wp2_with fail;refine twx (K2.out.isw Mc.cdW false (by decide)) fun W3 K3 hx3 => ?_;rw [HW3.out];have c5 : W3.cell? (jd x 5) = some (.bool false) := by obtain ⟨fv,h1⟩ := K3.out.tm;rw [<- HFO.out];exact h1.cells 5 _ rfl
     go_wp2_with fail;refine twx K3.out.byteAt fun W4 K4 hx4 => ?_;obtain ⟨av,hav⟩ := ex (frN E.N r);have HAV := hid hav;rw [hav];clear hav;go_wp2_with fail;refine twx (K4.out.tfl 21 av (by have := HB.out;omega)) fun W5 K5 hx5 => ?_;have kcm := bogus_any' K5.out.tm HFr.out.1 HFr.out.2.1 HFr.out.2.2;rw [HPF.out] at kcm;go_wp2_with fail;refine tokx kcm K5.out fun ao n9 cap w9 H9 => ?_;clear kcm;go_wp2_with fail;go_ret;rw [HTT.out,HAV.out];exact H9.out
   | false =>
    have HW3 := hid hw3;have HTT : Hid (T = bogusR (c0 :: F) (sc.fsd (sc.fs ++ [(14,frN E.N r)])) r) := by
     show T = _;rw [<- HT.out];unfold markupR;rw [jq (by rw [hw1];decide),jq (by rw [hw2];decide),jq (by rw [hw3];decide)];rfl
    clear hw1 hw2 hw3;go_enter Tryz.func66,Tryz.ntmps66;go_wp2_with fail;refine twx (K0.out.isw Mc.dashW false (by decide)) fun W1 K1 hx1 => ?_;rw [HW1.out];go_wp2_with fail;refine twx (K1.out.isw Mc.docW true (by decide)) fun W2 K2 hx2 => ?_;rw [HW2.out];go_wp2_with fail;refine twx (K2.out.isw Mc.cdW false (by decide)) fun W3 K3 hx3 => ?_;rw [HW3.out];go_wp2_with fail;refine twx K3.out.byteAt fun W4 K4 hx4 => ?_;obtain ⟨av,hav⟩ := ex (frN E.N r);have HAV := hid hav;rw [hav];clear hav;go_wp2_with fail;refine twx (K4.out.tfl 14 av (by have := HB.out;omega)) fun W5 K5 hx5 => ?_;have kcm := bogus_any' K5.out.tm HFr.out.1 HFr.out.2.1 HFr.out.2.2;rw [HPF.out] at kcm;go_wp2_with fail;refine tokx kcm K5.out fun ao n9 cap w9 H9 => ?_;clear kcm;go_wp2_with fail;go_ret;rw [HTT.out,HAV.out];exact H9.out
end Go.Proofs.YtjjfalbngcbfaaaGreatDoor
