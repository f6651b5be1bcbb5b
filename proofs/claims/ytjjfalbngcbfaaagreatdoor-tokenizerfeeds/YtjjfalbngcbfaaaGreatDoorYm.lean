import Derived.Test.YtjjfalbngcbfaaaGreatDoorZ0
import Derived.Test.YtjjfalbngcbfaaaGreatDoorYl
import Derived.Test.YtjjfalbngcbfaaaGreatDoorYi
import Derived.Test.YtjjfalbngcbfaaaGreatDoorYg
set_option maxHeartbeats 4000000
set_option maxRecDepth 20000
namespace Go.Proofs.YtjjfalbngcbfaaaGreatDoor
open Go.RowKit
variable {r t : List Ch} {w W W0 w' w2 : World} {p1 p2 p3 : Addr} {u1 u2 u3 : Value} {S : Nat -> Prop} {x k : Nat} {E : Env} {sc : Sc} {dn : Bool} {cr ca cz : Int} {p : List Pt × Sc × List Ch} {c : Ch}
theorem endZ_suf {L F : List Ch} (hF : F <:+ L) (hl : r.length < F.length) : endZ F r = endZ L r := by
 obtain ⟨p,rfl⟩ := hF
 unfold endZ Mc.toAt
 rw [List.getElem?_append_right (by simp;omega)]
 have : (p ++ F).length - r.length - 1 - p.length = F.length - r.length - 1 := by simp;omega
 rw [this]
theorem TokR.one (t : TL) (ht : t.2 = [] /\ t.1.n = 0) (hw : w.heap.size <= W.heap.size) : TokR w.heap.size (some (jd W.heap.size 0)) [t] (W.alloc (.cells t.1.arr 45)) := by
 refine TokR.of (w := w) (ov := .slice (some (jd W.heap.size 0)) 1 1) (cap := 1) ⟨rfl,.inr ⟨W.heap.size,1,t.1.arr,(0,0),rfl,zx W _,.inl rfl,zb _,by unfold maxLen;decide,rfl,?_⟩⟩ rfl (fun g hg => ?_) (fun u hu => ?_)
 · show List.take (1 * 8) t.1.arr.toList = ([t] : List TL).flatMap tkCells
   simp [tkCells]
 · simp [Value.ownBlock] at hg
   omega
 simp at hu
 subst hu
 exact ht
abbrev Cn (p1 : Addr) (u1 : Value) (p2 : Addr) (u2 : Value) (W0 w' : World) : Prop := w'.cell? p1 = some u1 /\ w'.cell? p2 = some u2 /\ Below W0.heap.size W0 w'
theorem cn_below (h : Cn p1 u1 p2 u2 W0 w') : Below W0.heap.size W0 w' := h.2.2
theorem cn_step (h : Cn p1 u1 p2 u2 W0 w') (b : Below w'.heap.size w' w2) (h1 : p1.block < W0.heap.size) (h2 : p2.block < W0.heap.size) : Cn p1 u1 p2 u2 W0 w2 := by
 have hs := h.2.2.size
 exact ⟨(b.cell (p := p1) (by omega)).trans h.1,(b.cell (p := p2) (by omega)).trans h.2.1,h.2.2.trans (b.mono hs)⟩
theorem cn_keep (h : Cn p1 u1 p2 u2 W0 w') (h1 : p1.block < W0.heap.size) (h2 : p2.block < W0.heap.size) : Cn p1 u1 p2 u2 W0 w'.drew := cn_step h ((Below.refl _ _).drew) h1 h2
theorem cn_alloc {o : Obj} (h : Cn p1 u1 p2 u2 W0 w') (h1 : p1.block < W0.heap.size) (h2 : p2.block < W0.heap.size) : Cn p1 u1 p2 u2 W0 (w'.alloc o) := cn_step h (ze _ _) h1 h2
abbrev Cn3 (p1 : Addr) (u1 : Value) (p2 : Addr) (u2 : Value) (p3 : Addr) (u3 : Value) (W0 w' : World) : Prop := w'.cell? p1 = some u1 /\ w'.cell? p2 = some u2 /\ w'.cell? p3 = some u3 /\ Below W0.heap.size W0 w'
theorem cn3_step (h : Cn3 p1 u1 p2 u2 p3 u3 W0 w') (b : Below w'.heap.size w' w2) (h1 : p1.block < W0.heap.size) (h2 : p2.block < W0.heap.size) (h3 : p3.block < W0.heap.size) : Cn3 p1 u1 p2 u2 p3 u3 W0 w2 := by
 have hs := h.2.2.2.size
 exact ⟨(b.cell (p := p1) (by omega)).trans h.1,(b.cell (p := p2) (by omega)).trans h.2.1,(b.cell (p := p3) (by omega)).trans h.2.2.1,h.2.2.2.trans (b.mono hs)⟩
theorem cn3_keep (h : Cn3 p1 u1 p2 u2 p3 u3 W0 w') (h1 : p1.block < W0.heap.size) (h2 : p2.block < W0.heap.size) (h3 : p3.block < W0.heap.size) : Cn3 p1 u1 p2 u2 p3 u3 W0 w'.drew := cn3_step h ((Below.refl _ _).drew) h1 h2 h3
theorem cn3_drewN (h : Cn3 p1 u1 p2 u2 p3 u3 W0 W0) (h1 : p1.block < W0.heap.size) (h2 : p2.block < W0.heap.size) (h3 : p3.block < W0.heap.size) (m : Nat) : Cn3 p1 u1 p2 u2 p3 u3 W0 (W0.drewN m) := cn3_step h (G9.below_drewN (Below.refl _ _) m) h1 h2 h3
theorem comment_any' (h : Tm S x E r sc dn w) {c0 : Ch} {F : List Ch} (hF : c0 :: F <:+ E.L) (hl : r.length <= F.length) (s : jl) : Calls Tryz.prog 107 #[mp x,ji (pos E (c0 :: F)),.string (bs s)] w (Tokd S x E (comT (c0 :: F) s r,sc,r) dn w) := by
 have HE : Hid (∀ W,Below w.heap.size w W -> Calls Tryz.prog 43 #[mp x] W fun e w' => e = jr (ji (endZ (c0 :: F) r)) /\ Below W.heap.size W w') := fun W b => by
  rw [endZ_suf hF (by simp;omega)];refine (end_any' (h.below b) (by have := hF.length_le;simp at this;omega)).mono ?_;rintro e w' ⟨rfl,m,rfl⟩;exact ⟨rfl,G9.below_drewN (Below.refl _ _) m⟩
 have HS : Hid (TW S x E r sc dn w w) := TW.start h
 obtain ⟨fv,h⟩ := h
 have hxw := h.lt
 have c0' : w.cell? (jd x 0) = some (.slice E.lo E.L.length E.cap) := h.cells 0 _ rfl
 obtain ⟨p,hp⟩ := hF
 have hLc : E.L[p.length]? = some c0 := by rw [<- hp,List.getElem?_append_right (zb _),Nat.sub_self];rfl
 obtain ⟨b,off,elo,hb,_,q1,_⟩ := h.row.now _ _ hLc
 have hpl := (zg hLc)
 have hpos : pos E (c0 :: F) = (p.length : Int) := by unfold pos;rw [<- hp];simp
 rw [hpos]
 have hcap := h.cap
 rw [elo] at c0'
 obtain ⟨n,hn⟩ := ex (E.L.length)
 obtain ⟨q,hq⟩ := ex (p.length)
 rw [hn] at c0' hpl hcap
 rw [hq] at q1 hpl |-
 obtain ⟨z,hz⟩ := ex (endZ (c0 :: F) r)
 obtain ⟨sv,hsv⟩ := ex (bs s)
 obtain ⟨a,ha⟩ := ex (c0.a)
 have HP : Hid (comT (c0 :: F) s r = [ptOf (⟨4,0,⟨#[]⟩,sv,none,0,0,false,a,z⟩,[])]) := by
  show comT (c0 :: F) s r = _;unfold comT;rw [hz,hsv];show [(⟨4,0,ByteArray.empty,sv,[],false,c0.a,z⟩ : Pt)] = _;rw [ha];rfl
 rw [hz] at HE
 rw [ha] at q1
 rw [hsv]
 have hqi : (q : Int) < (n : Int) := by omega
 have hin : Cn (jd x 0) (.slice (some (jd b off)) n E.cap) (jd b (off + q * 3 + 1)) (ji a) w w := ⟨c0',q1,Below.refl _ _⟩
 clear h hp hLc elo hpos hn hq hz hsv ha hl
 go_enter Tryz.func107,Tryz.ntmps107
 go_wp2_with fail
 go_region_held3 (fun w' => w'.cell? (jd x 0) = some (.slice (some (jd b off)) n E.cap) /\ w'.cell? (jd b (off + q * 3 + 1)) = some (ji a) /\ Below w.heap.size w w')
  (first | assumption | exact cn_keep (by assumption) hxw hb | exact cn_alloc (by assumption) hxw hb | go_keep)
  (first
   | (go_at_call 43;refine (HE.out _ (cn_below (by assumption))).mono ?_;rintro e w' ⟨rfl,hbw⟩;have hkk := cn_step (by assumption) hbw hxw hb))
 have H2 : Hid (Tokd S x E (comT (c0 :: F) s r,sc,r) dn w (jr (.slice (some (jd w'.heap.size 0)) 1 1)) (w'.alloc (.cells #[ji 4,ji 0,js,.string sv,jn,.bool false,ji a,ji z] 45))) :=
  ⟨some (jd w'.heap.size 0),[(⟨4,0,⟨#[]⟩,sv,none,0,0,false,a,z⟩,[])],1,rfl,HP.out.symm,zb _,TokR.one (w := w) (⟨4,0,⟨#[]⟩,sv,none,0,0,false,a,z⟩,[]) ⟨rfl,rfl⟩ hkk.2.2.size,(HS.out.below hkk.2.2).below (ze _ _)⟩
 clear hkk hbw HE HP HS hin
 go_wp2_with fail
 go_ret
 exact H2.out
theorem cmp_is {word : jl} {i : Nat} {b : UInt8} (hb : word[i]? = some b) (X : ByteArray) : (!X.toList == ((bs word).extract i (i + 1)).toList) = !decide (X.data.toList = [b]) := by
 have e : ((bs word).extract i (i + 1)).data.toList = [b] := by
  obtain ⟨h,rfl⟩ := List.getElem?_eq_some_iff.1 hb;simp [bs,ByteArray.extract,ByteArray.copySlice];rw [List.drop_eq_getElem_cons h];rfl
 rw [ByteArray.toList_eq,ByteArray.toList_eq,e]
 congr 1
 rw [Bool.eq_iff_iff]
 simp
theorem is_any (h : Tm S x E r sc dn w) (word : jl) (fold : Bool) (hwl : word.length <= 1000) : Calls Tryz.prog 101 #[mp x,.string (bs word),.bool fold] w fun e w' => e = jr (.bool (isW fold word r)) /\ TW S x E r sc dn w w' := by
 have HS : Hid (TW S x E r sc dn w w) := TW.start h
 have hxw := h.lt
 obtain ⟨g,hg⟩ := ex (isW fold word r)
 rw [hg]
 obtain ⟨n,hn⟩ := ex (word.length)
 have hsz : (bs word).size = n := by rw [bs_size];exact hn
 have HG := yc hg hn
 obtain ⟨sv,hsv⟩ := ex (bs word)
 rw [hsv] at hsz |-
 have HV := hid hsv
 rw [hn] at hwl
 clear h hg hn hsv
 go_enter Tryz.func101,Tryz.ntmps101
 go_wp2_with fail
 go_loopw [7,8] (fun iv _ wr => ∃ i : Nat,iv = ji i /\ i <= n /\ isW fold (word.drop i) (r.drop i) = g /\ TW S x E r sc dn w wr) (fun iv _ _ => n - (intOf iv).toNat)
 case atStart => exact ⟨0,rfl,Nat.zero_le _,HG.out.1,HS.out⟩
 obtain ⟨i,rfl,hin,hgi,hk⟩ := hrel
 have hxr := hk.lt
 obtain ⟨c1,f1,hp0,hp1,c0⟩ := hk.at
 have hfew : E.L.length <= 100000 /\ E.L.length <= E.cap /\ r <:+ E.L := by obtain ⟨fv,h1⟩ := hk.tm;exact ⟨h1.few,h1.cap,h1.suf⟩
 obtain ⟨p,hp⟩ : ∃ p : Nat,E.L.length - r.length = p := ⟨_,rfl⟩
 have hrl := hfew.2.2.length_le
 have hpp : pos E r = (p : Int) := by unfold pos;omega
 rw [hpp] at c1
 have HK := hid hk
 by_cases hlt : i < n
 · obtain ⟨b,hb⟩ : ∃ b,word[i]? = some b := ⟨_,zy (by rw [HG.out.2];exact hlt)⟩
   have hwd : word.drop i = b :: word.drop (i + 1) := by
    obtain ⟨h1,rfl⟩ := List.getElem?_eq_some_iff.1 hb;exact List.drop_eq_getElem_cons h1
   rw [hwd] at hgi;have hlt' : decide ((i : Int) < (n : Int)) = true := zm (by omega);cases hr : r.drop i with
   | nil =>
    rw [hr] at hgi;have hg0 : g = false := by rw [<- hgi];rfl
    have hlen : r.length <= i := by
     have := congrArg List.length hr;simp at this;omega
    obtain ⟨L0,hL0⟩ := ex (E.L.length);rw [hL0] at c0 hfew hp hrl;have g1 : decide ((p : Int) + (i : Int) >= (L0 : Int)) = true := zm (by omega);have hpi : p <= 100000 := by omega
    subst hg0;clear hk hgi hwd hb hr hlen hL0 hpp hp0 hp1 hp;go_wp2_with fail;go_quiet (fail);go_wp2_with fail;go_ret;exact ⟨rfl,HK.out.below (G9.below_drewN (Below.refl _ _) _)⟩
   | cons c t =>
    rw [hr] at hgi;have hri : r[i]? = some c := by
     have : (r.drop i)[0]? = some c := by rw [hr];rfl
     rw [List.getElem?_drop] at this;simpa using this
    have hLc : E.L[p + i]? = some c := by
     obtain ⟨q,hq⟩ := hfew.2.2;have : q.length = p := by rw [<- hp,<- hq];simp
     rw [<- hq,List.getElem?_append_right (by omega)];rw [show p + i - q.length = i by omega];exact hri
    obtain ⟨bb,off,elo,hbb,q0⟩ : ∃ bb off,E.lo = some (jd bb off) /\ bb < wr.heap.size /\ wr.cell? (jd bb (off + (p + i) * 3)) = some (ji c.r) := by
     obtain ⟨fv,h1⟩ := hk.tm;obtain ⟨bb,off,e,h2,h3,_⟩ := h1.row.now _ _ hLc;exact ⟨bb,off,e,h2,h3⟩
    have hpl := (zg hLc);rw [elo] at c0;obtain ⟨L0,hL0⟩ := ex (E.L.length);rw [hL0] at c0 hfew hp hrl hpl;have g1 : decide ((p : Int) + (i : Int) >= (L0 : Int)) = false := zn (by omega);have hkl : (p : Int) + (i : Int) < (L0 : Int) := by omega
    obtain ⟨cr,hcr⟩ := ex (c.r);rw [hcr] at q0;have HC := ye hgi hcr hb hr;have hcap := hfew.2.1;have hL5 : L0 <= 100000 := hfew.1;have hpi : p <= 100000 := by omega
    have h0i : (0 : Int) <= (p : Int) + (i : Int) := by omega
    have htn : ((p : Int) + (i : Int)).toNat = p + i := by omega
    have hng : ¬ (p : Int) + (i : Int) < 0 := by omega
    have hwp : IntKind.i64.wrap ((p : Int) + (i : Int)) = (p : Int) + (i : Int) := by rw [IntKind.wrap_i64];omega
    clear hk hgi hwd hb hr hri hLc elo hL0 hpp hp0 hp1 hp hcr hrl hfew;go_wp2_with fail;go_quiet (fail);go_wp2_with fail;have hin := cn3_drewN (p1 := (jd x 0)) (p2 := (jd x 1)) (p3 := (jd bb (off + (p + i) * 3))) (W0 := wr) ⟨c0,c1,q0,Below.refl _ _⟩ hxr hxr hbb nq;go_region_held3 (fun w' => w'.cell? (jd x 0) = some (.slice (some (jd bb off)) L0 E.cap) /\ w'.cell? (jd x 1) = some (ji p) /\ w'.cell? (jd bb (off + (p + i) * 3)) = some (ji cr) /\ Below wr.heap.size wr w')
     (first | assumption | exact cn3_keep (by assumption) hxr hxr hbb | go_keep)
     (first
      | (go_at_call 106;refine (enc_any' cr _).mono ?_;rintro e w' ⟨rfl,hbw⟩;have hkk := cn3_step (by assumption) hbw hxr hxr hbb))
    have K1 := hid (HK.out.below hkk.2.2.2);have hx1 := K1.out.lt;obtain ⟨ev,hev⟩ := ex (bs (enc cr));have HEV := hid hev;rw [hev];clear hkk hbw HK c0 c1 q0 g1 hev hin;cases fold with
    | false =>
     have hcm : (!ev.toList == (sv.extract i (i + 1)).toList) = !decide (gB false c = [b]) := by
      rw [<- HV.out,cmp_is HC.out.2.2.1,<- HEV.out,bs_list,<- HC.out.2.1];rfl
     cases hd : decide (gB false c = [b]) with
     | false =>
      rw [hd] at hcm;have hg0 : g = false := by
       have := HC.out.1;rw [isW_step,hd] at this;exact this.symm
      subst hg0;have hcm : (!ev.toList == (sv.extract i (i + 1)).toList) = true := hcm;go_wp2_with fail;go_ret;exact ⟨rfl,K1.out⟩
     | true =>
      rw [hd] at hcm;have HN : Hid (isW false (word.drop (i + 1)) (r.drop (i + 1)) = g) := by
       have := HC.out.1;rw [isW_step,hd] at this;have e : r.drop (i + 1) = t := by
        have h2 := congrArg (List.drop 1) HC.out.2.2.2;rw [List.drop_drop] at h2;exact h2
       show isW false (word.drop (i + 1)) (r.drop (i + 1)) = g;rw [e];exact this
      have hcm : (!ev.toList == (sv.extract i (i + 1)).toList) = false := hcm;go_wp2_with fail;go_roundw
      case rel => exact ⟨i + 1,by go_num,by omega,HN.out,K1.out⟩
      case measure => simp [intOf];omega
    | true =>
     have hes : ev.size <= 100000 := by
      rw [<- HEV.out,bs_size];have := enc_len cr;omega
     go_wp2_with fail;refine (G7.rlower_any ev _ hes).mono ?_;rintro e w2 ⟨rfl,b2⟩;have K2 := hid (K1.out.below b2);have hx2 := K2.out.lt;obtain ⟨lv,hlv⟩ := ex (G7.lowP ev);rw [hlv];have hcm : (!lv.toList == (sv.extract i (i + 1)).toList) = !decide (gB true c = [b]) := by
      rw [<- HV.out,cmp_is HC.out.2.2.1,<- hlv,<- HEV.out,<- HC.out.2.1];rfl
     clear b2 hlv hes;cases hd : decide (gB true c = [b]) with
     | false =>
      rw [hd] at hcm;have hg0 : g = false := by
       have := HC.out.1;rw [isW_step,hd] at this;exact this.symm
      subst hg0;have hcm : (!lv.toList == (sv.extract i (i + 1)).toList) = true := hcm;go_wp2_with fail;go_ret;exact ⟨rfl,K2.out⟩
     | true =>
      rw [hd] at hcm;have HN : Hid (isW true (word.drop (i + 1)) (r.drop (i + 1)) = g) := by
       have := HC.out.1;rw [isW_step,hd] at this;have e : r.drop (i + 1) = t := by
        have h2 := congrArg (List.drop 1) HC.out.2.2.2;rw [List.drop_drop] at h2;exact h2
       show isW true (word.drop (i + 1)) (r.drop (i + 1)) = g;rw [e];exact this
      have hcm : (!lv.toList == (sv.extract i (i + 1)).toList) = false := hcm;go_wp2_with fail;go_roundw
      case rel => exact ⟨i + 1,by go_num,by omega,HN.out,K2.out⟩
      case measure => simp [intOf];omega
 obtain rfl : i = n := by omega
 have hlt' : decide ((i : Int) < (i : Int)) = false := zn (by omega)
 have hg1 : g = true := by
  rw [<- hgi,List.drop_of_length_le (by rw [HG.out.2];exact zb _)];rfl
 subst hg1
 clear hk hgi hp0 hp1
 go_wp2_with fail
 go_ret
 exact ⟨rfl,HK.out⟩
theorem TW.cc (h : TW S x E (⟨cr,ca,cz⟩ :: t) sc dn w W) : Calls Tryz.prog 39 #[mp x] W fun e w' => e = jr (ji cr) /\ TW S x E (⟨cr,ca,cz⟩ :: t) sc dn w w' := h.c
theorem TW.c0 (h : TW S x E [] sc dn w W) : Calls Tryz.prog 39 #[mp x] W fun e w' => e = jr (ji (-1)) /\ TW S x E [] sc dn w w' := h.c
theorem TW.ba (h : TW S x E (⟨cr,ca,cz⟩ :: t) sc dn w W) : Calls Tryz.prog 41 #[mp x] W fun e w' => e = jr (ji ca) /\ TW S x E (⟨cr,ca,cz⟩ :: t) sc dn w w' := h.byteAt
def atOf (x : Nat) (w : World) : Nat := match w.cell? (jd x 1) with
 | some v => (intOf v).toNat
 | none => 0
theorem TW.meas (h : TW S x E r sc dn w W) : E.L.length - atOf x W = r.length := by
 obtain ⟨c1,_,_,_,_⟩ := h.at
 obtain ⟨fv,h1⟩ := h.tm
 have := h1.suf.length_le
 unfold atOf
 rw [c1]
 show E.L.length - (pos E r).toNat = _
 unfold pos
 omega
theorem TW.facts (h : TW S x E r sc dn w W) : E.L.length <= 100000 /\ r <:+ E.L /\ ∀ k,S k -> k < W.heap.size := by
 obtain ⟨fv,h1⟩ := h.tm
 exact ⟨h1.few,h1.suf,h1.low⟩
theorem bs_app (a b : jl) : bs a ++ bs b = bs (a ++ b) := by
 apply G9.bytes_eq
 simp [bs]
theorem Tokd.from {e : Ending} (k : TW S x E r sc dn w W) (h : Tokd S x E p dn W e w') : Tokd S x E p dn w e w' := by
 obtain ⟨ao,T,cap,h1,h2,h3,h4,h5⟩ := h
 exact ⟨ao,T,cap,h1,h2,h3,h4.mono k.keep.size,k.trans h5⟩
theorem tokx {f : FuncId} {a : Array Value} {Q : Ending -> World -> Prop} (c : Calls Tryz.prog f a W (Tokd S x E p dn W)) (k : TW S x E r sc dn w W) (h : ∀ ao n cap w',Hid (Tokd S x E p dn w (jr (.slice ao n cap)) w') -> Q (jr (.slice ao n cap)) w') : Calls Tryz.prog f a W Q := c.mono fun _ w' q => by
 have q2 := Tokd.from k q
 obtain ⟨ao,T,cap,e,_⟩ := q
 rw [e] at q2 |-
 exact h _ _ _ _ q2
theorem bogus_any' (h : Tm S x E r sc dn w) {c0 : Ch} {F : List Ch} (hF : c0 :: F <:+ E.L) (hr : r <:+ F) (hpos : ∀ d ∈ r,0 <= d.r) : Calls Tryz.prog 70 #[mp x,ji (pos E (c0 :: F)),js] w (Tokd S x E (bogusR (c0 :: F) sc r) dn w) := by
 have HS : Hid (TW S x E r sc dn w w) := TW.start h
 have hxw := h.lt
 obtain ⟨Q,hQ⟩ := ex (encs (r.takeWhile isG))
 obtain ⟨R,hR⟩ := ex (r.dropWhile isG)
 have HQ : Hid (bogusR (c0 :: F) sc r = (comT (c0 :: F) Q R.tail,sc,R.tail) /\ R <:+ r) := ⟨by unfold bogusR;rw [hQ,hR],by rw [<- hR];exact List.dropWhile_suffix _⟩
 have H0 := yc hQ hR
 have HFr : Hid (c0 :: F <:+ E.L /\ r <:+ F /\ (∀ d ∈ r,0 <= d.r) /\ r.length <= 100000) := ⟨hF,hr,hpos,by have := HS.out.facts;have := this.2.1.length_le;omega⟩
 obtain ⟨pF,hpF⟩ := ex (pos E (c0 :: F))
 have HPF := hid hpF
 rw [hpF]
 clear h hQ hR hF hr hpos hpF
 go_enter Tryz.func70,Tryz.ntmps70
 go_wp2_with fail
 go_loopw [2] (fun sv wr => ∃ (q : jl) (r' : List Ch),sv = .string (bs q) /\ q ++ encs (r'.takeWhile isG) = Q /\ r'.dropWhile isG = R /\ r' <:+ r /\ q.length <= 4 * (r.length - r'.length) /\ TW S x E r' sc dn w wr) (fun _ wr => E.L.length - atOf x wr)
 case atStart => exact ⟨[],r,rfl,H0.out.1,H0.out.2,List.suffix_refl _,Nat.zero_le _,HS.out⟩
 obtain ⟨q,r',rfl,hq,hR,hsr,hql,hk⟩ := hrel
 have K0 := hid hk
 have hxr := hk.lt
 obtain ⟨sv,hsv⟩ := ex (bs q)
 have hsz : sv.size <= 400000 := by
  rw [<- hsv,bs_size];have := HFr.out.2.2.2;omega
 have HV := hid hsv
 rw [hsv]
 cases r' with
 | nil =>
  have HE : Hid (q = Q /\ R = []) := by
   simp [encs] at hq;simp at hR;exact ⟨hq,hR⟩
  clear hk hq hR hsr hql hsv;go_wp2_with fail;refine twx K0.out.c0 fun W1 K1 hx1 => ?_;go_wp2_with fail;refine twx K1.out.c0 fun W2 K2 hx2 => ?_;have kcm := comment_any' K2.out.tm HFr.out.1 (by simp) Q;rw [HPF.out,<- HE.out.1,HV.out] at kcm;go_wp2_with fail;refine kcm.mono ?_;rintro e w9 h9;have H9 : Hid (Tokd S x E (bogusR (c0 :: F) sc r) dn w e w9) := by
   rw [HQ.out.1,HE.out.2,<- HE.out.1];exact Tokd.from K2.out h9
  obtain ⟨ao,T,cap,rfl,_⟩ := h9;clear kcm;go_wp2_with fail;go_ret;exact H9.out
 | cons c t =>
  obtain ⟨cr,ca,cz⟩ := c;have hc0 : 0 <= cr := HFr.out.2.2.1 ⟨cr,ca,cz⟩ (hsr.subset (by simp));have g0 : decide (cr >= 0) = true := zm (by omega);by_cases h62 : cr = 62
  · have g1 : (cr != 62) = false := by simp [h62]
    have g2 : (cr == 62) = true := by simp [h62]
    have hg : isG ⟨cr,ca,cz⟩ = false := by unfold isG;simp [h62]
    have HE : Hid (q = Q /\ R = ⟨cr,ca,cz⟩ :: t) := by
     rw [List.takeWhile_cons,hg] at hq;rw [List.dropWhile_cons,hg] at hR;simp [encs] at hq hR;exact ⟨hq,hR.symm⟩
    clear hk hq hR hsr hql hsv hg h62 hc0;go_wp2_with fail;refine twx K0.out.cc fun W1 K1 hx1 => ?_;go_wp2_with fail;refine twx K1.out.cc fun W2 K2 hx2 => ?_;go_wp2_with fail;refine twx K2.out.cc fun W3 K3 hx3 => ?_;obtain ⟨p3,a1,a2,a3,a4,KA⟩ := K3.out.advx;have kcm := comment_any' KA.out.tm HFr.out.1 (by have h1 := HQ.out.2.length_le;have h2 := HFr.out.2.1.length_le;rw [HE.out.2] at h1;simp at h1;omega) Q;rw [HPF.out,<- HE.out.1,HV.out] at kcm;go_wp2_with fail;refine kcm.mono ?_;rintro e w9 h9;have H9 : Hid (Tokd S x E (bogusR (c0 :: F) sc r) dn w e w9) := by
     rw [HQ.out.1,HE.out.2,<- HE.out.1];exact Tokd.from KA.out h9
    obtain ⟨ao,T,cap,rfl,_⟩ := h9;clear kcm;go_wp2_with fail;go_ret;exact H9.out
  have g1 : (cr != 62) = true := by simp [h62]
  have hg : isG ⟨cr,ca,cz⟩ = true := by unfold isG;simp [h62]
  have HN : Hid ((q ++ enc cr) ++ encs (t.takeWhile isG) = Q /\ t.dropWhile isG = R /\ t <:+ r /\ (q ++ enc cr).length <= 4 * (r.length - t.length)) := by
   rw [List.takeWhile_cons,hg] at hq;rw [List.dropWhile_cons,hg] at hR;refine ⟨?_,by simpa using hR,(zl _ _).trans hsr,?_⟩
   · rw [<- hq]
     simp [encs]
   have := enc_len cr;have h5 := hsr.length_le;simp only [zi,zh] at h5 hql |-;omega
  have HM : Hid (E.L.length - atOf x wr = t.length + 1) := hk.meas;clear hk hq hR hsr hql hsv hg h62 hc0;go_wp2_with fail;refine twx K0.out.cc fun W1 K1 hx1 => ?_;go_wp2_with fail;refine twx K1.out.cc fun W2 K2 hx2 => ?_;go_wp2_with fail;refine twx K2.out.cc fun W3 K3 hx3 => ?_;go_wp2_with fail;refine (enc_any' cr _).mono ?_;rintro e W4 ⟨rfl,b4⟩;have K4 := hid (K3.out.below b4);have hx4 := K4.out.lt;obtain ⟨ev,hev⟩ := ex (bs (enc cr));have hez : ev.size <= 4 := by rw [<- hev,bs_size];exact enc_len cr
  have HEV := hid hev;rw [hev];clear b4 hev;obtain ⟨p4,a1,a2,a3,a4,KA⟩ := K4.out.advx;go_wp2_with fail;go_roundw
  case rel => exact ⟨q ++ enc cr,t,by rw [<- bs_app,HV.out,HEV.out],HN.out.1,HN.out.2.1,HN.out.2.2.1,HN.out.2.2.2,KA.out⟩
  case measure => rw [KA.out.meas,HM.out];omega
theorem byte_app {v : Value} {l : jl} {B n : Nat} (ho : OwnQ W false 5 1 v n (Lib.byteCells l)) (hn : l.length = n) (hB : ∀ g,v.ownBlock = some g -> B <= g) (hBW : B <= W.heap.size) (b : UInt8) (bn : Int) (hb : bn = (b.toNat : Int)) (hl : n <= 200000) :
 ∃ ao c W',(Builtin.append_ #[67,67] 67 #[v,.slice (some (jd W.heap.size 0)) 1 1]).run Tryz.prog (W.alloc (.cells #[.int .u8 bn] 5)) = .ok (.slice ao (n + 1) c) W' /\ OwnQ W' false 5 1 (.slice ao (n + 1) c) (n + 1) (Lib.byteCells (l ++ [b])) /\ (∀ g,(Value.slice ao (n + 1) c).ownBlock = some g -> B <= g) /\ (W.alloc (.cells #[.int .u8 bn] 5)).grownBy W' v.ownBlock := by
 have b0 : Below W.heap.size W (W.alloc (.cells #[.int .u8 bn] 5)) := ze _ _
 have hnew : (W.alloc (.cells #[.int .u8 bn] 5)).heap[W.heap.size]? = some (.cells #[.int .u8 bn] 5 (0,0)) := zx W _
 obtain ⟨W0,hW0⟩ := ex (W.alloc (.cells #[.int .u8 bn] 5))
 rw [hW0] at b0 hnew |-
 obtain ⟨v',W',hrun,ho',hg',hat⟩ := row_app Tryz.underlying67 info5 rfl (by decide) (by decide) (own_mv ho fun g hg => b0.block g (own_blk ho hg).1) W.heap.size 0 1 1 [.int .u8 bn] rfl (fun i u hi => by rw [Nat.zero_add];simp [World.cell?,hnew];exact hi) (by simp [Value.oneCell']) (by omega)
 obtain ⟨ao',c',rfl,_,_⟩ := own_form ho'
 refine ⟨ao',c',W',hrun,?_,fun g hg => ?_,hg'⟩
 · have e : Lib.byteCells (l ++ [b]) = Lib.byteCells l ++ [.int .u8 bn] := by simp [Lib.byteCells,hb]
   rw [e];exact ho'
 rcases hat with hat | hat
 · rw [hat] at hg;exact hB g hg
 rw [hg] at hat
 have := Option.some.inj hat
 have := b0.size
 omega
def ahD (r : List Ch) (k : Nat) : jl := if k = 0 then ahead r else ahT (r.drop k)
theorem ahD_nil (h : r.length <= k) : ahD r k = [] := by
 unfold ahD
 split
 · have : r = [] := yb (by omega)
   subst this;rfl
 rw [List.drop_of_length_le h]
 rfl
theorem ahD_high (h : r.drop k = c :: t) (hc : 128 <= c.r) : ahD r k = [128] := by
 unfold ahD
 split
 · next h0 =>
   subst h0;simp only [List.drop_zero] at h;rw [h];unfold ahead;simp only [jp hc]
 rw [h]
 unfold ahT
 rw [jp hc]
theorem ahD_on (h : r.drop k = c :: t) (hc : ¬ 128 <= c.r) (hw : k = 0 \/ wrd c.r = true) : ahD r k = byt c.r :: ahD r (k + 1) := by
 have hd : r.drop (k + 1) = t := by
  have := congrArg (List.drop 1) h;rw [List.drop_drop] at this;exact this
 have e : ahD r (k + 1) = ahT t := by
  unfold ahD;rw [jq (by omega),hd]
 rw [e]
 unfold ahD
 split
 · next h0 =>
   subst h0;simp only [List.drop_zero] at h;rw [h];unfold ahead;simp only [jq hc]
 next h0 =>
 rw [h]
 conv => lhs;unfold ahT
 rw [jq hc,jq (by have := hw.resolve_left h0;simp [this])]
theorem ahD_stop (h : r.drop k = c :: t) (hc : ¬ 128 <= c.r) (hk : k ≠ 0) (hw : wrd c.r = false) : ahD r k = [byt c.r] := by
 unfold ahD
 rw [jq hk,h]
 unfold ahT
 rw [jq hc,jp hw]
theorem ahead_any (h : Tm S x E r sc dn w) (hpos : ∀ d ∈ r,0 <= d.r) : Calls Tryz.prog 64 #[mp x] w fun e w' => e = jr (.string (bs (ahead r))) /\ TW S x E r sc dn w w' := by
 have HS : Hid (TW S x E r sc dn w w) := TW.start h
 have hxw := h.lt
 obtain ⟨a1,_,_,_,a0⟩ := HS.out.at
 obtain ⟨hfew,hsuf,hlow⟩ := HS.out.facts
 have hcap : E.L.length <= E.cap := by obtain ⟨fv,h⟩ := h;exact h.cap
 have hrl := hsuf.length_le
 obtain ⟨p,hp⟩ : ∃ p : Nat,E.L.length - r.length = p := ⟨_,rfl⟩
 have hpp : pos E r = (p : Int) := by unfold pos;omega
 have HP := yg hpp hp hsuf hpos hlow hrl
 rw [hpp] at a1
 obtain ⟨A,hA⟩ := ex (ahead r)
 have HA := hid hA
 rw [hA]
 clear h hA hpp hp hsuf hpos hlow a0 hrl
 go_enter Tryz.func64,Tryz.ntmps64
 go_wp2_with fail
 go_loopw [3,4,5] (fun bv iv _ wr => ∃ (j : Nat) (l : jl),iv = ji j /\ p <= j /\ j <= E.L.length /\ l ++ ahD r (j - p) = A /\ l.length = j - p /\ OwnQ wr false 5 1 bv (j - p) (Lib.byteCells l) /\ (∀ g,bv.ownBlock = some g -> w.heap.size <= g) /\ TW S x E r sc dn w wr) (fun _ iv _ _ => E.L.length - (intOf iv).toNat)
 case atStart => exact ⟨p,[],rfl,zb _,by have := HP.out;omega,by rw [Nat.sub_self];exact HA.out,by simp,by rw [Nat.sub_self];exact ⟨rfl,.inl ⟨rfl,rfl⟩⟩,fun g hg => (by simp [Value.ownBlock] at hg),HS.out⟩
 obtain ⟨j,l,rfl,hpj,hjl,hAl,hll,ho,hB,hk⟩ := hrel
 have K0 := hid hk
 have hxr := hk.lt
 obtain ⟨c1,_,_,_,c0⟩ := hk.at
 rw [HP.out.1] at c1
 obtain ⟨m,hm⟩ := ex (j - p)
 rw [hm] at hAl hll ho
 have hm5 : m <= 100000 := by omega
 have hBW : w.heap.size <= wr.heap.size := hk.keep.size
 obtain ⟨ao,cb,ebv,_,_⟩ := own_form ho
 have HO := yf ho hll hAl hB hm
 by_cases hlt : j < E.L.length
 · obtain ⟨c,hc⟩ : ∃ c,E.L[j]? = some c := ⟨_,zy hlt⟩
   obtain ⟨t,hdr⟩ : ∃ t,r.drop m = c :: t := by
    obtain ⟨q,hq⟩ := HP.out.2.2.1;have hql : q.length = p := by rw [<- HP.out.2.1,<- hq];simp
    rw [<- hq,List.getElem?_append_right (by omega),show j - q.length = m by omega] at hc;obtain ⟨h1,h2⟩ := List.getElem?_eq_some_iff.1 hc;exact ⟨r.drop (m + 1),by rw [List.drop_eq_getElem_cons h1,h2]⟩
   obtain ⟨b,off,elo,hb,q0⟩ : ∃ b off,E.lo = some (jd b off) /\ b < wr.heap.size /\ wr.cell? (jd b (off + j * 3)) = some (ji c.r) := by
    obtain ⟨fv,h1⟩ := hk.tm;obtain ⟨b,off,e,h2,h3,_⟩ := h1.row.now _ _ hc;exact ⟨b,off,e,h2,h3⟩
   rw [elo] at c0
   have hc0 : 0 <= c.r := HP.out.2.2.2.1 c (by have : c ∈ r.drop m := by rw [hdr];simp
                                               exact List.mem_of_mem_drop this)
   obtain ⟨n,hn⟩ : ∃ n : Nat,c.r = (n : Int) := ⟨c.r.toNat,by omega⟩;rw [hn] at q0;obtain ⟨L0,hL0⟩ := ex (E.L.length);have HD := yd hdr hn hL0;rw [hL0] at c0 hlt hcap hfew hjl;have hlt' : decide ((j : Int) < (L0 : Int)) = true := zm (by omega);have hji : (j : Int) < (L0 : Int) := by omega
   rw [ebv] at HO;by_cases hh : 128 <= n
   · obtain ⟨ao',c',W',hrun,ho',hB',hg'⟩ := byte_app HO.out.1 HO.out.2.1 HO.out.2.2.2.1 hBW 128 128 rfl (by omega)
     have H1 : Hid (TW S x E r sc dn w W') := TW.grown (K0.out.below (ze _ _)) hg' (fun g hg => by
      obtain ⟨hgl,cur,z,hgb⟩ := own_blk HO.out.1 hg;refine ⟨fun hS => ?_,cur,5,z,?_,by decide,by decide⟩
      · have h7 := HO.out.2.2.2.1 g hg
        have h8 := HP.out.2.2.2.2.1 g hS;omega
      rw [((Below.refl wr.heap.size wr).alloc (zb _) _).block g hgl];exact hgb)
     have hconv : (convert 67 9 (.slice ao' (m + 1) c')).run Tryz.prog W' = .ok (.string (bs A)) W' := by
      have e : l ++ [128] = A := by rw [<- HO.out.2.2.1,ahD_high HD.out.1 (by rw [HD.out.2.1];omega)]
      rw [<- e];refine conv_own (q := false) ?_;have e2 : (l ++ [128]).length = m + 1 := by simp [HO.out.2.1]
      rw [e2];exact ho'
     have hxW := H1.out.lt;have g1 : decide ((n : Int) >= 128) = true := zm (by omega);subst ebv;clear hk ho hB hAl hll hc hdr elo hc0 hn hL0 ho' hB' hg';go_wp2_with (at_builtin;refine list_append_eq rfl _ _ 67 67 rfl _ _ rfl rfl hrun ?_);go_ret;exact ⟨rfl,H1.out⟩
   obtain ⟨ao',c',W',hrun,ho',hB',hg'⟩ := byte_app HO.out.1 HO.out.2.1 HO.out.2.2.2.1 hBW (byt c.r) (n : Int) (by rw [(wc_byte hc0 (by omega)).2,hn];simp) (by omega)
   have H1 : Hid (OwnQ W' false 5 1 (.slice ao' (m + 1) c') (m + 1) (Lib.byteCells (l ++ [byt c.r])) /\ (∀ g,(Value.slice ao' (m + 1) c').ownBlock = some g -> w.heap.size <= g) /\ TW S x E r sc dn w W') := ⟨ho',hB',TW.grown (K0.out.below (ze _ _)) hg' (fun g hg => by
    obtain ⟨hgl,cur,z,hgb⟩ := own_blk HO.out.1 hg;refine ⟨fun hS => ?_,cur,5,z,?_,by decide,by decide⟩
    · have h7 := HO.out.2.2.2.1 g hg
      have h8 := HP.out.2.2.2.2.1 g hS;omega
    rw [((Below.refl wr.heap.size wr).alloc (zb _) _).block g hgl];exact hgb)⟩
   have hxW := H1.out.2.2.lt;obtain ⟨d1,_,_,_,_⟩ := H1.out.2.2.at;rw [HP.out.1] at d1;have g1 : decide ((n : Int) >= 128) = false := zn (by omega);have hw8 : IntKind.u8.wrap (n : Int) = (n : Int) := by rw [IntKind.wrap_u8];omega
   have k99 := G6.alnum_any n W';have HWR : Hid (wrd c.r = (G6.wordyP n || (c.r == 35))) := by
    show wrd c.r = _;unfold wrd;rw [HD.out.2.1];simp
   subst ebv;clear hk ho hB hAl hll hc hdr elo hc0 hn hL0 ho' hB' hg';by_cases hm0 : m = 0
   · have g2 : decide ((j : Int) > (p : Int)) = false := zn (by have := HO.out.2.2.2.2;omega)
     have HM0 := hid hm0;have hle : ¬ (p : Int) < (j : Int) := by have := HO.out.2.2.2.2;omega
     have hle2 : (j : Int) <= (p : Int) := by omega
     have g4 : decide ((p : Int) < (j : Int)) = false := zn (by omega);clear hm0;have HN : Hid (∃ (j' : Nat) (l' : jl),(j : Int) + 1 = (j' : Int) /\ p <= j' /\ j' <= E.L.length /\ l' ++ ahD r (j' - p) = A /\ l'.length = j' - p /\ OwnQ W' false 5 1 (.slice ao' (m + 1) c') (j' - p) (Lib.byteCells l') /\ (∀ g,(Value.slice ao' (m + 1) c').ownBlock = some g -> w.heap.size <= g) /\ TW S x E r sc dn w W') := by
      have e : j + 1 - p = m + 1 := by have := HO.out.2.2.2.2;omega
      refine ⟨j + 1,l ++ [byt c.r],by omega,by omega,by have := HD.out.2.2;omega,?_,?_,?_,H1.out.2.1,H1.out.2.2⟩
      · rw [e,<- HO.out.2.2.1,ahD_on HD.out.1 (by rw [HD.out.2.1];omega) (.inl HM0.out),List.append_assoc]
        rfl
      · rw [e];simp [HO.out.2.1]
      rw [e];exact H1.out.1
     go_wp2_with (at_builtin;refine list_append_eq rfl _ _ 67 67 rfl _ _ rfl rfl hrun ?_);go_roundw
     case rel =>
      obtain ⟨j',l',e1,e2,e3,e4,e5,e6,e7,e8⟩ := HN.out;exact ⟨j',l',by rw [<- e1],e2,e3,e4,e5,e6,e7,e8⟩
     case measure => simp [intOf];have := HD.out.2.2;omega
   have g2 : decide ((j : Int) > (p : Int)) = true := zm (by have := HO.out.2.2.2.2;omega);go_wp2_with (at_builtin;refine list_append_eq rfl _ _ 67 67 rfl _ _ rfl rfl hrun ?_);refine k99.mono ?_;rintro e w2 ⟨rfl,hw2⟩;obtain rfl := hw2.symm;clear hw2;cases hwo : G6.wordyP n with
   | true =>
    have HN : Hid (∃ (j' : Nat) (l' : jl),(j : Int) + 1 = (j' : Int) /\ p <= j' /\ j' <= E.L.length /\ l' ++ ahD r (j' - p) = A /\ l'.length = j' - p /\ OwnQ W' false 5 1 (.slice ao' (m + 1) c') (j' - p) (Lib.byteCells l') /\ (∀ g,(Value.slice ao' (m + 1) c').ownBlock = some g -> w.heap.size <= g) /\ TW S x E r sc dn w W') := by
     have e : j + 1 - p = m + 1 := by have := HO.out.2.2.2.2;omega
     refine ⟨j + 1,l ++ [byt c.r],by omega,by omega,by have := HD.out.2.2;omega,?_,?_,?_,H1.out.2.1,H1.out.2.2⟩
     · rw [e,<- HO.out.2.2.1,ahD_on HD.out.1 (by rw [HD.out.2.1];omega) (.inr (by rw [HWR.out,hwo];rfl)),List.append_assoc]
       rfl
     · rw [e];simp [HO.out.2.1]
     rw [e];exact H1.out.1
    go_wp2_with fail;go_roundw
    case rel =>
     obtain ⟨j',l',e1,e2,e3,e4,e5,e6,e7,e8⟩ := HN.out;exact ⟨j',l',by rw [<- e1],e2,e3,e4,e5,e6,e7,e8⟩
    case measure => simp [intOf];have := HD.out.2.2;omega
   | false =>
    by_cases h35 : n = 35
    · have g3 : ((n : Int) != 35) = false := by simp [h35]
      have HN : Hid (∃ (j' : Nat) (l' : jl),(j : Int) + 1 = (j' : Int) /\ p <= j' /\ j' <= E.L.length /\ l' ++ ahD r (j' - p) = A /\ l'.length = j' - p /\ OwnQ W' false 5 1 (.slice ao' (m + 1) c') (j' - p) (Lib.byteCells l') /\ (∀ g,(Value.slice ao' (m + 1) c').ownBlock = some g -> w.heap.size <= g) /\ TW S x E r sc dn w W') := by
       have e : j + 1 - p = m + 1 := by have := HO.out.2.2.2.2;omega
       refine ⟨j + 1,l ++ [byt c.r],by omega,by omega,by have := HD.out.2.2;omega,?_,?_,?_,H1.out.2.1,H1.out.2.2⟩
       · rw [e,<- HO.out.2.2.1,ahD_on HD.out.1 (by rw [HD.out.2.1];omega) (.inr (by rw [HWR.out,HD.out.2.1,h35];decide)),List.append_assoc]
         rfl
       · rw [e];simp [HO.out.2.1]
       rw [e];exact H1.out.1
      go_wp2_with fail;go_roundw
      case rel =>
       obtain ⟨j',l',e1,e2,e3,e4,e5,e6,e7,e8⟩ := HN.out;exact ⟨j',l',by rw [<- e1],e2,e3,e4,e5,e6,e7,e8⟩
      case measure => simp [intOf];have := HD.out.2.2;omega
    have g3 : ((n : Int) != 35) = true := by simp;omega
    have hconv : (convert 67 9 (.slice ao' (m + 1) c')).run Tryz.prog W' = .ok (.string (bs A)) W' := by
     have e : l ++ [byt c.r] = A := by rw [<- HO.out.2.2.1,ahD_stop HD.out.1 (by rw [HD.out.2.1];omega) hm0 (by rw [HWR.out,hwo,HD.out.2.1];simp;omega)]
     rw [<- e];refine conv_own (q := false) ?_;have e2 : (l ++ [byt c.r]).length = m + 1 := by simp [HO.out.2.1]
     rw [e2];exact H1.out.1
    go_wp2_with fail;go_ret;exact ⟨rfl,H1.out.2.2⟩
 have hlt' : decide ((j : Int) < (E.L.length : Int)) = false := zn (by omega)
 have hconv : (convert 67 9 u3).run Tryz.prog wr = .ok (.string (bs A)) wr := by
  have e : l = A := by
   rw [<- HO.out.2.2.1,ahD_nil (by have h1 := HP.out;have h2 := HO.out.2.2.2.2;omega)];simp
  rw [<- e];refine conv_own (q := false) ?_;rw [HO.out.2.1];exact HO.out.1
 obtain ⟨L0,hL0⟩ := ex (E.L.length)
 rw [hL0] at c0 hlt' hlt
 have hge : ¬ (j : Int) < (L0 : Int) := by omega
 subst ebv
 clear hk ho hB hAl hll hL0
 go_wp2_with fail
 go_ret
 exact ⟨rfl,K0.out⟩
end Go.Proofs.YtjjfalbngcbfaaaGreatDoor
