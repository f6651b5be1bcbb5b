import Derived.Test.YtjjfalbngcbfaaaGreatDoorZ0
import Derived.Test.YtjjfalbngcbfaaaGreatDoorYq
import Derived.Test.YtjjfalbngcbfaaaGreatDoorYv
import Derived.Test.YtjjfalbngcbfaaaGreatDoorYw
import Derived.Test.YtjjfalbngcbfaaaGreatDoorYk
set_option maxHeartbeats 4000000
set_option maxRecDepth 20000
namespace Go.Proofs.YtjjfalbngcbfaaaGreatDoor
open Go.RowKit
variable {b : UInt8} {c : Ch} {t r : List Ch} {x B m g : Nat} {E : Env} {sc : Sc} {w W : World} {dn auto fo : Bool} {ov : Value} {T : List TL} {N : Int} {L : List Pt} {F : Fs}
theorem enc_is' {r : Int} (hb : b.toNat < 128) : enc r = [b] ↔ r = (b.toNat : Int) := by
 by_cases h0 : 0 <= r
 · exact enc_is h0 hb
 constructor
 · intro h
   have h1 := (enc_all (r := r) (fun h => h0 h.1)).2 b (by rw [h];simp);omega
 intro h
 omega
theorem isW_any {w : jl} (hb : b.toNat < 128) : isW false (b :: w) (c :: t) = (decide (c.r = (b.toNat : Int)) && isW false w t) := by
 rw [isW_step]
 congr 1
 exact decide_eq_decide.2 (show enc c.r = [b] ↔ c.r = (b.toNat : Int) from enc_is' hb)
theorem cd_any : CdAny := by
 intro S x E c t0 sc dn w h
 obtain ⟨cr,ca,cz⟩ := c
 match t0,h with
 | [],h =>
  have e : cdR sc [⟨cr,ca,cz⟩] = (toldR [⟨cr,ca,cz⟩] [],sc,[]) := by
   unfold cdR;rw [jq (fun hw => by have := isw_len hw;simp at this)];rfl
  rw [e];exact cd_short h (by simp)
 | [d],h =>
  have e : cdR sc [⟨cr,ca,cz⟩,d] = (toldR [⟨cr,ca,cz⟩,d] [d],sc,[d]) := by
   unfold cdR;rw [jq (fun hw => by have := isw_len hw;simp at this)];rfl
  rw [e];exact cd_short h (by simp)
 | ⟨dr,da,dz⟩ :: ⟨er,ea,ez⟩ :: t,h =>
  have K0 : Hid (TW S x E (⟨cr,ca,cz⟩ :: ⟨dr,da,dz⟩ :: ⟨er,ea,ez⟩ :: t) sc dn w w) := TW.start h;have hxw := h.lt;obtain ⟨fv,h1⟩ := h;have hsuf := h1.suf;have hfew := h1.few;have hcap := h1.cap;obtain ⟨p,hp⟩ : ∃ p : Nat,E.L.length - (⟨cr,ca,cz⟩ :: ⟨dr,da,dz⟩ :: ⟨er,ea,ez⟩ :: t).length = p := ⟨_,rfl⟩;have hrl := hsuf.length_le;have hpp : pos E (⟨cr,ca,cz⟩ :: ⟨dr,da,dz⟩ :: ⟨er,ea,ez⟩ :: t) = (p : Int) := by unfold pos;simp only [zi] at hrl hp |-;omega
  have hat : ∀ (k : Nat) (c : Ch),(⟨cr,ca,cz⟩ :: ⟨dr,da,dz⟩ :: ⟨er,ea,ez⟩ :: t)[k]? = some c -> E.L[p + k]? = some c := fun k c hk => by
   obtain ⟨q,hq⟩ := hsuf;have e1 : q.length = p := by rw [<- hp,<- hq];simp only [zh,zi];omega
   rw [<- hq,List.getElem?_append_right (by omega),show p + k - q.length = k by omega];exact hk
  obtain ⟨bb,off,elo,hbb,q1,_⟩ := h1.row.now _ _ (hat 1 _ rfl);obtain ⟨bb',off',elo',_,q2,_⟩ := h1.row.now _ _ (hat 2 _ rfl);rw [elo] at elo';simp at elo';obtain ⟨rfl,rfl⟩ := elo';have q1 : w.cell? (jd bb (off + (p + 1) * 3)) = some (ji dr) := q1;have q2 : w.cell? (jd bb (off + (p + 2) * 3)) = some (ji er) := q2;obtain ⟨a1,a2,a3,a4,a5⟩ := K0.out.at;rw [hpp] at a1 a3 a4;rw [elo] at a5;obtain ⟨L0,hL0⟩ := ex (E.L.length);rw [hL0] at a5 hfew hcap hrl hp;have hpl : p + 2 < L0 := by simp only [zi] at hrl hp;omega
  have g1 : decide ((p : Int) + 2 < (L0 : Int)) = true := zm (by omega);have i1 : (p : Int) + 1 < (L0 : Int) := by omega
  have i2 : (p : Int) + 2 < (L0 : Int) := by omega
  have j1 : (0 : Int) <= (p : Int) + 1 := by omega
  have j2 : (0 : Int) <= (p : Int) + 2 := by omega
  have n1 : ((p : Int) + 1).toNat = p + 1 := by omega
  have n2 : ((p : Int) + 2).toNat = p + 2 := by omega
  have m1 : ¬ (p : Int) + 1 < 0 := by omega
  have m2 : ¬ (p : Int) + 2 < 0 := by omega
  have w1 : IntKind.i64.wrap ((p : Int) + 1) = (p : Int) + 1 := by rw [IntKind.wrap_i64];omega
  have w2 : IntKind.i64.wrap ((p : Int) + 2) = (p : Int) + 2 := by rw [IntKind.wrap_i64];omega
  have HC : Hid (∀ n,Calls Tryz.prog 39 #[mp x] (w.drewN n) fun e w' => e = jr (ji cr) /\ ∃ m,w' = w.drewN m) := fun n => by
   refine (c_any (K0.out.below (G9.below_drewN (Below.refl _ _) n)).tm).mono ?_;rintro e w' ⟨rfl,m,rfl⟩;exact ⟨rfl,_,World.drewN_drewN _ _ _⟩
  obtain ⟨v,hv⟩ := ex (isW false [93,93,62] (⟨cr,ca,cz⟩ :: ⟨dr,da,dz⟩ :: ⟨er,ea,ez⟩ :: t));have HV : Hid ((decide (cr = 93) && (decide (dr = 93) && (decide (er = 62) && true))) = v) := by
   show _ = v;rw [<- hv,isW_any (by decide),isW_any (by decide),isW_any (by decide)];rfl
  obtain ⟨T,hT⟩ := ex (cdR sc (⟨cr,ca,cz⟩ :: ⟨dr,da,dz⟩ :: ⟨er,ea,ez⟩ :: t));have HT : Hid ((if v = true then ([],{ sc with cd := false },t) else (toldR (⟨cr,ca,cz⟩ :: ⟨dr,da,dz⟩ :: ⟨er,ea,ez⟩ :: t) (⟨dr,da,dz⟩ :: ⟨er,ea,ez⟩ :: t),sc,⟨dr,da,dz⟩ :: ⟨er,ea,ez⟩ :: t)) = T /\ (⟨cr,ca,cz⟩ :: ⟨dr,da,dz⟩ :: ⟨er,ea,ez⟩ :: t) <:+ E.L /\ pos E (⟨cr,ca,cz⟩ :: ⟨dr,da,dz⟩ :: ⟨er,ea,ez⟩ :: t) = (p : Int)) := by
   refine ⟨?_,hsuf,hpp⟩;rw [<- hT,<- hv];rfl
  rw [hT];clear h1 hsuf hp hrl hpp hat elo hL0 hv hT;go_enter Tryz.func40,Tryz.ntmps40;go_upto_region 1 with fail
  go_cut [48] (fun s wc => ∃ m,s = .bool v /\ wc = w.drewN m)
  case first =>
   by_cases h1 : cr = 93
   · have g93 : (cr == 93) = true := by simp [h1]
     by_cases h2 : dr = 93
     · have e93 : (dr == 93) = true := by simp [h2]
       by_cases h3 : er = 62
       · have e62 : (er == 62) = true := by simp [h3]
         have HV2 : Hid (v = true) := by
          show v = _;rw [<- HV.out];simp [*]
         clear h1 h2 h3;go_quiet (first | (go_at_call 39;exact HC.out _));go_wp2_with fail;go_meet
         case rel => exact ⟨_,by rw [HV2.out],rfl⟩
       have e62 : (er == 62) = false := by simp [h3]
       have HV2 : Hid (v = false) := by
        show v = _;rw [<- HV.out];simp [*]
       clear h1 h2 h3;go_quiet (first | (go_at_call 39;exact HC.out _));go_wp2_with fail;go_meet
       case rel => exact ⟨_,by rw [HV2.out],rfl⟩
     have e93 : (dr == 93) = false := by simp [h2]
     have h3 : True := trivial;have HV2 : Hid (v = false) := by
      show v = _;rw [<- HV.out];simp [*]
     clear h1 h2 h3;go_quiet (first | (go_at_call 39;exact HC.out _));go_wp2_with fail;go_meet
     case rel => exact ⟨_,by rw [HV2.out],rfl⟩
   have g93 : (cr == 93) = false := by simp [h1]
   have h2 : True := trivial;have h3 : True := trivial;have HV2 : Hid (v = false) := by
    show v = _;rw [<- HV.out];simp [*]
   clear h1 h2 h3;go_quiet (first | (go_at_call 39;exact HC.out _));go_wp2_with fail;go_meet
   case rel => exact ⟨_,by rw [HV2.out],rfl⟩
  obtain ⟨m,hu,hw⟩ := hcut;obtain rfl := hw.symm;have b1 : Below w.heap.size w (w.drewN m) := G9.below_drewN (Below.refl _ _) m;have K1 := hid (K0.out.below b1);obtain ⟨W1,hW1⟩ := ex (w.drewN m);rw [hW1] at K1;rw [hW1];clear hW1 a1 a2 a5 q1 q2 HC hw b1;obtain ⟨a1,a2,b3,b4,_⟩ := K1.out.at;rw [HT.out.2.2] at a1;have hx1 := K1.out.lt;cases v with
  | true =>
   subst hu;have HTT : Hid (([],{ sc with cd := false },t) = T) := by
    have h0 := HT.out.1;rw [jp rfl] at h0;exact h0
   obtain ⟨fv,k1⟩ := K1.out.tm;have f7 := k1.cells 7 _ rfl;have f8 := k1.free 7;have KA : Hid (TW S x E t { sc with cd := false } dn w ((W1.setCell (jd x 1) (ji ((p : Int) + 3))).setCell (jd x 7) (.bool false))) := (K1.out.go (((zl _ _).trans ((zl _ _).trans (zl _ _))).trans HT.out.2.1) ((p : Int) + 3) (by have := HT.out.2.2;unfold pos at this |-;simp only [zi] at this;omega)).setcd false;clear k1 b3 b4;go_wp2_with fail;go_ret;rw [<- HTT.out];exact ⟨none,[],0,rfl,rfl,zb _,TokR.nil _ _ _,KA.out⟩
  | false =>
   subst hu;have HTT : Hid ((toldR (⟨cr,ca,cz⟩ :: ⟨dr,da,dz⟩ :: ⟨er,ea,ez⟩ :: t) (⟨dr,da,dz⟩ :: ⟨er,ea,ez⟩ :: t),sc,⟨dr,da,dz⟩ :: ⟨er,ea,ez⟩ :: t) = T) := by
    have h0 := HT.out.1;rw [jq (by decide)] at h0;exact h0
   have KA : Hid (TW S x E (⟨dr,da,dz⟩ :: ⟨er,ea,ez⟩ :: t) sc dn w (W1.setCell (jd x 1) (ji ((p : Int) + 1)))) := by rw [<- HT.out.2.2];exact K1.out.adv
   have hws : IntKind.i64.wrap ((p : Int) + 1 - 1) = (p : Int) := by rw [IntKind.wrap_i64];omega
   have hs2 : (p : Int) + 1 - 1 = (p : Int) := by omega
   have kcm := told_any KA.out.tm (F := (⟨cr,ca,cz⟩ :: ⟨dr,da,dz⟩ :: ⟨er,ea,ez⟩ :: t)) (zl _ _) HT.out.2.1;rw [HT.out.2.2] at kcm;clear b3 b4;go_wp2_with fail;refine tokx kcm KA.out fun ao n9 cap w9 H9 => ?_;clear kcm;go_wp2_with fail;go_ret;rw [<- HTT.out];exact H9.out
def Few (a k : Nat) (p : List Pt × Sc × List Ch) : Prop := p.1.length <= a /\ p.2.1.fs.length + 8 * p.2.2.length <= k
theorem Few.mono {a k a' k' : Nat} {p : List Pt × Sc × List Ch} (h : Few a k p) (ha : a <= a') (hk : k <= k') : Few a' k' p := ⟨zr h.1 ha,zr h.2 hk⟩
theorem toldR_len (F r : List Ch) : (toldR F r).length <= F.length := by
 unfold toldR
 rw [List.length_map,List.length_take]
 omega
theorem bogus_few (F : List Ch) (sc : Sc) (r : List Ch) : Few 1 (sc.fs.length + 8 * r.length) (bogusR F sc r) := by
 have := (bogusR_suf F sc r).length_le
 exact ⟨zb _,by show sc.fs.length + _ <= _;omega⟩
theorem comR_few {N : Int} {F : List Ch} {sc : Sc} : ∀ (r : List Ch) (s : jl),Few 1 (sc.fs.length + 8 * r.length + 1) (comR N F sc s r)
 | [],s => ⟨zb _,by simp [comR]⟩
 | c :: t,s => by
  unfold comR;split
  · refine ⟨zb _,?_⟩
    simp only [zk,zi];omega
  split
  · refine ⟨zb _,?_⟩
    simp only [zk,zi,zh,zj];omega
  refine (comR_few t _).mono (zb _) ?_;simp only [zi];omega
theorem text_few (N : Int) (F : List Ch) (sc : Sc) (r : List Ch) : Few 1 (sc.fs.length + 8 * r.length + 1) (textR N F sc r) := by
 unfold textR
 split
 · refine ⟨zb _,?_⟩
   simp only [List.length_tail,zi,zh,zj];omega
 split
 · refine ⟨zb _,?_⟩
   simp only [zk,zi,zh,zj];omega
 exact comR_few r []
theorem doc_few (N : Int) (F : List Ch) (sc : Sc) (r : List Ch) : Few 1 (sc.fs.length + 8 * r.length + 3) (docR N F sc r) := by
 have h1 := (docR_suf N F sc r).length_le
 have h2 : (docR N F sc r).2.1.fs.length <= sc.fs.length + 3 := by
  unfold docR;dsimp only;split <;> split <;> split <;> simp
 exact ⟨zb _,by omega⟩
theorem markup_few (N : Int) (fo : Bool) (F : List Ch) (sc : Sc) (r : List Ch) : Few 1 (sc.fs.length + 8 * r.length + 3) (markupR N fo F sc r) := by
 unfold markupR
 split
 · refine (text_few N F sc (r.drop 2)).mono (zb _) ?_
   rw [zk];omega
 split
 · refine (doc_few N F sc (r.drop 7)).mono (zb _) ?_
   rw [zk];omega
 split
 · split
   · refine ⟨Nat.zero_le _,?_⟩
     simp only [zk];omega
   refine (bogus_few F _ r).mono (zb _) ?_;simp only [zh,zi,zj];omega
 refine (bogus_few F _ r).mono (zb _) ?_
 simp only [zh,zi,zj]
 omega
theorem skip_hd : ∀ {r : List Ch} {c : Ch} {t : List Ch},skipB r = c :: t -> blk c.r = false
 | [],c,t,h => by cases h
 | d :: u,c,t,h => by
  rw [skipB_cons] at h;split at h
  · exact skip_hd h
  next hb =>
  simp only [List.cons.injEq] at h;rw [<- h.1];simpa using hb
theorem tagL_few {N : Int} : ∀ (n : Nat) (A : List At) (sf : Bool) (fs : Fs) (r : List Ch),Once A -> (tagL N n A sf fs r).2.1.length + 8 * (tagL N n A sf fs r).2.2.length <= fs.length + 8 * r.length + 1
 | 0,A,sf,fs,r,_ => by unfold tagL;dsimp only;omega
 | n + 1,A,sf,fs,r,hO => by
  have hl := skip_len r;cases hr : skipB r with
  | nil =>
   rw [tagL_nil hr];simp
  | cons c t =>
   rw [hr] at hl;simp only [zi] at hl;by_cases h62 : c.r = 62
   · rw [tagL_gt hr h62]
     dsimp only;omega
   by_cases h47 : c.r = 47
   · rw [tagL_sl hr h47]
     split
     · have := tagL_few (N := N) n A true fs t hO
       omega
     split
     · have := tagL_few (N := N) n A sf (fs ++ [(12,frN N t)]) t hO
       rw [zh] at this;simp only [zi,zj] at this;omega
     have := tagL_few (N := N) n A sf fs t hO;omega
   rw [tagL_at hr h62 h47];have h1 := tagL_few (N := N) n (addA A (attrR N A fs (c :: t))) sf (attrR N A fs (c :: t)).2.2.1 (attrR N A fs (c :: t)).2.2.2 (once_addA hO N fs _);have h2 := attrR_few (N := N) hO (fs := fs) (t := t) (skip_hd hr) h47 h62;simp only [zi] at h2;omega
theorem tag_few (N : Int) (F : List Ch) (kind : Int) (sc : Sc) (r : List Ch) : Few 1 (sc.fs.length + 8 * r.length + 2) (tagR N F kind sc r) := by
 unfold tagR
 have h1 := tagL_few (N := N) ((r.dropWhile nmC).length + 1) [] false sc.fs (r.dropWhile nmC) Once.nil
 have h2 : (r.dropWhile nmC).length <= r.length := (List.dropWhile_suffix _).length_le
 obtain ⟨p,hp⟩ := ex (tagL N ((r.dropWhile nmC).length + 1) [] false sc.fs (r.dropWhile nmC))
 rw [hp] at h1 |-
 obtain ⟨o,fs,r'⟩ := p
 dsimp only at h1
 cases o with
 | none => exact ⟨Nat.zero_le _,by show fs.length + 8 * r'.length <= _;omega⟩
 | some q =>
  obtain ⟨A,sf⟩ := q;show Few _ _ (doneR F kind _ sc A sf fs r');unfold doneR;split
  · exact ⟨zb _,by show fs.length + 8 * r'.length <= _;omega⟩
  refine ⟨zb _,?_⟩;dsimp only;split
  · rw [zh]
    simp only [zi,zj];omega
  omega
theorem endOpen_few (N : Int) (F : List Ch) (sc : Sc) (r : List Ch) : Few (F.length + 1) (sc.fs.length + 8 * r.length + 2) (endOpenR N F sc r) := by
 unfold endOpenR
 split
 · exact (tag_few N F 3 sc r).mono (by omega) (zb _)
 split
 · refine ⟨Nat.zero_le _,?_⟩
   simp only [List.length_tail,zi,zh,zj];omega
 split
 · refine ⟨zr (toldR_len _ _) (Nat.le_succ _),?_⟩
   simp only [zi,zh,zj];omega
 refine (bogus_few F _ r).mono (by omega) ?_
 simp only [zh,zi,zj]
 omega
theorem open_few (N : Int) (fo : Bool) (F : List Ch) (sc : Sc) (r : List Ch) : Few (F.length + 1) (sc.fs.length + 8 * r.length + 3) (openR N fo F sc r) := by
 unfold openR
 split
 · refine (markup_few N fo F sc r.tail).mono (by omega) ?_
   rw [List.length_tail];omega
 split
 · refine (endOpen_few N F sc r.tail).mono (zb _) ?_
   rw [List.length_tail];omega
 split
 · exact (tag_few N F 2 sc r).mono (by omega) (by omega)
 split
 · refine (bogus_few F _ r).mono (by omega) ?_
   simp only [zh,zi,zj];omega
 refine ⟨zr (toldR_len _ _) (Nat.le_succ _),?_⟩
 simp only [zi,zh,zj]
 omega
theorem raw_few (N : Int) (F : List Ch) (sc : Sc) (r : List Ch) : Few (F.length + 1) (sc.fs.length + 8 * r.length + 2) (rawR N F sc r) := by
 unfold rawR
 split
 · dsimp only
   split
   · refine (tag_few N F 3 sc r.tail).mono (by omega) ?_
     rw [List.length_tail];omega
   refine ⟨zr (toldR_len _ _) (Nat.le_succ _),?_⟩;have h1 : (r.tail.dropWhile isL).length <= r.tail.length := (List.dropWhile_suffix _).length_le;rw [List.length_tail] at h1;dsimp only;omega
 exact ⟨zr (toldR_len _ _) (Nat.le_succ _),by dsimp only;omega⟩
theorem next_few (N : Int) (fo : Bool) (sc : Sc) (c : Ch) (t : List Ch) : Few (t.length + 2) (sc.fs.length + 8 * t.length + 8) (nextR N fo sc (c :: t)) := by
 have ht := toldR_len (c :: t) t
 simp only [zi] at ht
 unfold nextR
 split
 · unfold cdR
   split
   · refine ⟨Nat.zero_le _,?_⟩
     simp only [zk,zi];omega
   exact ⟨zr ht (by omega),by show sc.fs.length + 8 * t.length <= _;omega⟩
 split
 · have h1 := refP_codes G6.refs false (ahead (c :: t))
   have h2 : (refR false (c :: t)).2.2.length <= 3 := h1;split
   · refine ⟨zr ht (by omega),?_⟩
     dsimp only;rw [zh,refFaults_len,List.tail_cons];omega
   refine ⟨by show 1 <= _;omega,?_⟩;dsimp only;rw [zh,refFaults_len,zk,zi];omega
 split
 · exact (open_few N fo (c :: t) sc t).mono (by simp) (by omega)
 split
 · exact (raw_few N (c :: t) sc t).mono (by simp) (by omega)
 exact ⟨zr ht (by omega),by show sc.fs.length + 8 * t.length <= _;omega⟩
theorem next_all {S : Nat -> Prop} (h : Tm S x E (c :: t) sc false w) (hpos : ∀ d ∈ c :: t,0 <= d.r) (hB : sc.fs.length + 8 * t.length + 16 <= 1000000000) : Calls Tryz.prog 25 #[mp x] w (Tokd S x E (nextR E.N E.fo sc (c :: t)) false w) := by
 obtain ⟨cr,ca,cz⟩ := c
 by_cases hno : sc.cd = true \/ ¬ (cr = 38 /\ (sc.text = 0 \/ sc.text = 1))
 · exact next_any' cd_any doc_any tag_any h hpos hB hno
 have h1 : sc.cd = false := by
  cases e : sc.cd with
  | false => rfl
  | true => exact absurd (.inl e) hno
 have h2 : cr = 38 /\ (sc.text = 0 \/ sc.text = 1) := Classical.byContradiction fun h => hno (.inr h)
 exact next_ref h hpos hB h1 h2.1 h2.2
theorem tks_mv {w' : World} {T : Tk} {L : List At} (H : TkS NoZ w T L) (hk : ∀ (d : Nat) (cur : Array Value) (z : Nat × Nat),w.heap[d]? = some (.cells cur 49 z) -> w'.heap[d]? = w.heap[d]?) : TkS NoZ w' T L := by
 obtain ⟨⟨h1,h2,h3⟩,h4⟩ := H
 by_cases hL : L = []
 · subst hL
   exact ⟨⟨h1,G9.AtRow.nil _ _,h3⟩,fun e => absurd rfl e⟩
 obtain ⟨d,cur,z,e1,e2,e3⟩ := h4 hL
 have e := hk d cur z e2
 refine ⟨⟨h1,fun i x hx => ?_,h3⟩,fun _ => ⟨d,cur,z,e1,e.trans e2,e3⟩⟩
 obtain ⟨b',off,r1,r2,r3,r4⟩ := h2 i x hx
 rw [e1] at r1
 cases r1
 refine ⟨d,0,e1,?_,?_,?_⟩
 · have := e.trans e2
   exact (zf this)
 · rw [<- r3];simp [World.cell?,e]
 rw [<- r4];simp [World.cell?,e]
structure WS (B x : Nat) (E : Env) (r : List Ch) (sc : Sc) (dn : Bool) (w : World) (ov : Value) (T : List TL) (W : World) : Prop where
 tw : TW (fun k => k < B) x E r sc dn w W
 own : Rw.own W (rwT ov T)
 out : ∀ g,ov.ownBlock = some g -> B <= g
 toks : ∀ t ∈ T,TkS NoZ W t.1 t.2
theorem WS.low (h : WS B x E r sc dn w ov T W) : B <= W.heap.size := by
 apply Classical.byContradiction
 intro hlt
 exact Nat.lt_irrefl _ (h.tw.facts.2.2 W.heap.size (by omega))
theorem WS.next (h : WS B x E r sc dn w ov T W) {p : List Pt × Sc × List Ch} {dn' : Bool} (hc : ∀ S' : Nat -> Prop,Tm S' x E r sc dn W -> Calls Tryz.prog 25 #[mp x] W (Tokd S' x E p dn' W)) :
 Calls Tryz.prog 25 #[mp x] W fun e w' => ∃ ao T' cap,e = jr (.slice ao T'.length cap) /\ T'.map ptOf = p.1 /\ T'.length <= cap /\ WS B x E p.2.2 p.2.1 dn' w ov T w' /\ TokR W.heap.size ao T' w' /\ ∀ g,ov.ownBlock = some g -> g < W.heap.size := by
 have hl : ∀ k : Nat,(∃ (cur : Array Value) (e : TypeId) (z : Nat × Nat),W.heap[k]? = some (.cells cur e z) /\ e ≠ 61 /\ e ≠ 58) -> k < W.heap.size := fun k hk => by
  obtain ⟨cur,e,z,h1,_⟩ := hk;exact (zf h1)
 have hm := h.tw.more (fun k => ∃ (cur : Array Value) (e : TypeId) (z : Nat × Nat),W.heap[k]? = some (.cells cur e z) /\ e ≠ 61 /\ e ≠ 58) hl (fun k hk => hk)
 refine (hc _ hm.tm).mono ?_
 rintro e w' ⟨ao,T',cap,h1,h2,h3,h4,h5⟩
 have hb : ∀ k : Nat,(∃ (cur : Array Value) (e : TypeId) (z : Nat × Nat),W.heap[k]? = some (.cells cur e z) /\ e ≠ 61 /\ e ≠ 58) -> w'.heap[k]? = W.heap[k]? := fun k hk => h5.keep.block k (.inr hk) (hl k hk)
 refine ⟨ao,T',cap,h1,h2,h3,⟨h.tw.less h5 fun _ => .inl,own_mv h.own fun g hg => ?_,h.out,fun t ht => tks_mv (h.toks t ht) fun d cur z hd => hb d ⟨cur,49,z,hd,by decide,by decide⟩⟩,h4,fun g hg => (own_blk h.own hg).1⟩
 obtain ⟨_,cur,z,hgb⟩ := own_blk h.own hg
 exact hb g ⟨cur,45,z,hgb,by decide,by decide⟩
theorem WS.app (h : WS B x E r sc dn w ov T W) {W0 : Nat} {ao : Option Addr} {T' : List TL} (ht : TokR W0 ao T' W) (hg0 : ∀ g,ov.ownBlock = some g -> g < W0) (hn : T.length + T'.length <= 1000000000000) (c : Nat) :
 ∃ ov' W',(Builtin.append_ #[24,24] 24 #[ov,.slice ao T'.length c]).run Tryz.prog W = .ok ov' W' /\ WS B x E r sc dn w ov' (T ++ T') W' /\ G9.TkRow W' ao T' := by
 have hk : ∀ t ∈ T',TkS NoZ W t.1 t.2 := fun t htm => by
  obtain ⟨i,hi⟩ := List.mem_iff_getElem?.1 htm;refine ⟨(ht.row i t hi).2,fun hL => ?_⟩;obtain ⟨g,cur,z,h1,_,h3⟩ := ht.ab t htm hL;exact ⟨g,cur,z,h1,h3,id⟩
 obtain ⟨ov',W',hrun,q1,q2,q3,_⟩ := out_app h.own ao c (Z := NoZ) ⟨ht.row,hk⟩ hn
 have hb : ∀ k : Nat,k < W.heap.size -> ov.ownBlock ≠ some k -> W'.heap[k]? = W.heap[k]? := fun k hk hne => q2.block k hk fun e => hne e.symm
 have hb49 : ∀ (d : Nat) (cur : Array Value) (z : Nat × Nat),W.heap[d]? = some (.cells cur 49 z) -> W'.heap[d]? = W.heap[d]? := fun d cur z hd => hb d (zf hd) fun e => by
  obtain ⟨_,cur',z',h2⟩ := own_blk h.own e;rw [hd] at h2;simp at h2
 refine ⟨ov',W',hrun,⟨h.tw.grown q2 fun g hg => ?_,q1,fun g hg => ?_,fun t htm => ?_⟩,fun i t hi => ?_⟩
 · obtain ⟨_,cur,z,hgb⟩ := own_blk h.own hg
   exact ⟨fun hlt => by have := h.out g hg;have hlt : g < B := hlt;omega,cur,45,z,hgb,by decide,by decide⟩
 · rcases q3 with e | e
   · rw [e] at hg
     exact h.out g hg
   rw [hg] at e;have e := Option.some.inj e;have := h.low;omega
 · rcases List.mem_append.1 htm with htm | htm
   · exact tks_mv (h.toks t htm) hb49
   exact tks_mv (hk t htm) hb49
 obtain ⟨⟨b,off,e1,hbl,hc⟩,_⟩ := ht.row i t hi
 refine ⟨⟨b,off,e1,zo hbl q2.size,fun j u hj => ?_⟩,(tks_mv (hk t (List.mem_of_getElem? hi)) hb49).1⟩
 rw [<- hc j u hj]
 have hne : T' ≠ [] := fun e => by rw [e] at hi;simp at hi
 obtain ⟨g',cur,z,e2,hg',_⟩ := ht.rb hne
 rw [e1] at e2
 cases e2
 have := hb b hbl fun e => by have := hg0 b e;omega
 simp [World.cell?,this]
theorem WS.settext (h : WS B x E r sc dn w ov T W) (b : Int) : WS B x E r { sc with text := b } dn w ov T (W.setCell (jd x 3) (ji b)) := by
 obtain ⟨fv,h1⟩ := h.tw.tm
 have hne : ∀ (k : Nat) (cur : Array Value) (e : TypeId) (z : Nat × Nat),W.heap[k]? = some (.cells cur e z) -> e ≠ 61 -> (W.setCell (jd x 3) (ji b)).heap[k]? = W.heap[k]? := fun k cur e z hk he => Below.heap_setCell _ _ _ _ fun e2 => by
  have e2 : k = x := e2;subst e2;rw [h1.blk] at hk;simp at hk;exact he hk.2.1.symm
 refine ⟨h.tw.settext b,own_mv h.own fun g hg => ?_,h.out,fun t ht => tks_mv (h.toks t ht) fun d cur z hd => hne d cur 49 z hd (by decide)⟩
 obtain ⟨_,cur,z,hgb⟩ := own_blk h.own hg
 exact hne g cur 45 z hgb (by decide)
theorem WS.below {W' : World} (h : WS B x E r sc dn w ov T W) (b : Below W.heap.size W W') : WS B x E r sc dn w ov T W' := ⟨h.tw.below b,own_mv h.own fun g hg => b.block g (own_blk h.own hg).1,h.out,fun t ht => (h.toks t ht).below b⟩
theorem autoSc_fs (auto : Bool) (L : List Pt) (sc : Sc) : (autoSc auto L sc).fs = sc.fs := by
 unfold autoSc
 split
 · split <;> rfl
 rfl
def WR (auto fo : Bool) (N : Int) (L : List Pt) (F : Fs) (m g : Nat) (T : List TL) (sc : Sc) (r : List Ch) (dn : Bool) : Prop :=
 (dn = false /\ r.length < g /\ T.map ptOf ++ (refT auto fo N g sc r).1 = L /\ (refT auto fo N g sc r).2 = F /\ sc.fs.length + 8 * r.length <= 8 * m /\ T.length + 200000 * r.length <= 200000 * m) \/ (dn = true /\ T.map ptOf = L /\ sc.fs = F /\ T.length <= 200000 * m + 1)
theorem WR.last (h : WR auto fo N L F m (g + 1) T sc [] false) {T' : List TL} (hT : T'.map ptOf = [eofP6 N]) : WR auto fo N L F m g (T ++ T') (autoSc auto [eofP6 N] sc) [] true := by
 rcases h with ⟨_,h1,h2,h3,h4,h5⟩ | ⟨h,_⟩
 · have e1 : refT auto fo N (g + 1) sc [] = ([eofP6 N],sc.fs) := by unfold refT;rw [jp rfl]
   rw [e1] at h2 h3;have l1 : T'.length = 1 := by have := congrArg List.length hT;simpa using this
   refine .inr ⟨rfl,?_,?_,?_⟩
   · rw [List.map_append,hT]
     exact h2
   · rw [autoSc_fs]
     exact h3
   rw [zh,l1];simp only [zj] at h5;omega
 cases h
theorem WR.step (h : WR auto fo N L F m (g + 1) T sc (c :: t) false) (_ : m <= 100000) (hpos : ∀ d ∈ t,0 <= d.r) {T' : List TL} (hT : T'.map ptOf = (nextR N fo sc (c :: t)).1) (hl : T'.length <= 200000) : WR auto fo N L F m g (T ++ T') (autoSc auto (nextR N fo sc (c :: t)).1 (nextR N fo sc (c :: t)).2.1) (nextR N fo sc (c :: t)).2.2 false := by
 rcases h with ⟨_,h1,h2,h3,h4,h5⟩ | ⟨h,_⟩
 · have hs := (nextR_suf (N := N) (fo := fo) (sc := sc) (c := c) (t := t) hpos).length_le
   have hf := (next_few N fo sc c t).2;have e1 : refT auto fo N (g + 1) sc (c :: t) = ((nextR N fo sc (c :: t)).1 ++ (refT auto fo N g (autoSc auto (nextR N fo sc (c :: t)).1 (nextR N fo sc (c :: t)).2.1) (nextR N fo sc (c :: t)).2.2).1,(refT auto fo N g (autoSc auto (nextR N fo sc (c :: t)).1 (nextR N fo sc (c :: t)).2.1) (nextR N fo sc (c :: t)).2.2).2) := by
    conv => lhs;unfold refT
    rw [jq (by simp)]
   rw [e1] at h2 h3;simp only [zi] at h1 h4 h5;refine .inl ⟨rfl,by omega,?_,h3,?_,?_⟩
   · rw [List.map_append,hT,List.append_assoc]
     exact h2
   · rw [autoSc_fs]
     omega
   rw [zh];omega
 cases h
theorem WR.few (h : WR auto fo N L F m g T sc r false) : r.length < g /\ sc.fs.length + 8 * r.length <= 8 * m /\ T.length <= 200000 * m := by
 rcases h with ⟨_,h1,h2,h3,h4,h5⟩ | ⟨h,_⟩
 · exact ⟨h1,h4,by omega⟩
 cases h
theorem WR.done (h : WR auto fo N L F m g T sc r true) : T.map ptOf = L /\ sc.fs = F /\ T.length <= 200000 * m + 1 := by
 rcases h with ⟨h,_⟩ | ⟨_,h⟩
 · cases h
 exact h
theorem WR.go (h : WR auto E.fo E.N L F m (g + 1) T sc r false) (hm : m <= 100000) (hpos : ∀ d ∈ r,0 <= d.r) :
 ∃ (p : List Pt × Sc × List Ch) (dn' : Bool),(∀ (x : Nat) (W : World) (S' : Nat -> Prop),Tm S' x E r sc false W -> Calls Tryz.prog 25 #[mp x] W (Tokd S' x E p dn' W)) /\ p.1.length <= 200000 /\ ∀ T' : List TL,T'.map ptOf = p.1 -> WR auto E.fo E.N L F m g (T ++ T') (autoSc auto p.1 p.2.1) p.2.2 dn' := by
 obtain ⟨f1,f2,f3⟩ := h.few
 cases r with
 | nil => exact ⟨([eofP6 E.N],sc,[]),true,fun x W S' hk => next_end hk,by show 1 <= _;decide,fun T' hT => h.last hT⟩
 | cons c t =>
  simp only [zi] at f1 f2;have hl := (next_few E.N E.fo sc c t).1;refine ⟨nextR E.N E.fo sc (c :: t),false,fun x W S' hk => next_all hk hpos (by omega),by omega,fun T' hT => h.step hm (fun d hd => hpos d (List.mem_cons_of_mem _ hd)) hT ?_⟩;have := congrArg List.length hT;rw [List.length_map] at this;omega
theorem want_any (s : ByteArray) (text : Int) (fo auto : Bool) (w : World) (hs : s.size < 20000) :
 Calls Tryz.prog 11 #[.string s,ji text,.bool fo,.bool auto] w (Alled (refT auto fo s.size ((chars s).length + 1) (sc0 text) (chars s)).1 (refT auto fo s.size ((chars s).length + 1) (sc0 text) (chars s)).2 w) := by
 have HLn : Hid ((chars s).length < 20000) := by
  have := outc_le s.data.toList;rw [show s.data.toList.length = s.size from zw] at this;show (G4.outc s.data.toList).length < 20000;omega
 have k15 := fun w => G4.rchs_any s w (by omega)
 obtain ⟨L,hL⟩ := ex ((refT auto fo s.size ((chars s).length + 1) (sc0 text) (chars s)).1)
 obtain ⟨F,hF⟩ := ex ((refT auto fo s.size ((chars s).length + 1) (sc0 text) (chars s)).2)
 rw [hL,hF]
 have HLF : Hid ((refT auto fo s.size ((chars s).length + 1) (sc0 text) (chars s)).1 = L /\ (refT auto fo s.size ((chars s).length + 1) (sc0 text) (chars s)).2 = F) := ⟨hL,hF⟩
 clear hL hF
 go_enter Tryz.func11,Tryz.ntmps11
 go_wp2_with fail
 refine (k15 _).mono ?_
 rintro e w1 ⟨ca,cn,cc,fa,fn',fc',rfl,hc4,_,b4⟩
 have hrow : cn = (chars s).length /\ (chars s).length <= cc /\ ChRow ca (chars s) w1 /\ ∀ (i : Nat) (c : Ch),(chars s)[i]? = some c -> ∃ b,ca = some (jd b 0) /\ b < w1.heap.size := by
  obtain ⟨ao,cap,e1,hcp,hr,hz,_⟩ := rowC (OwnQ.of hc4 : Rw.own w1 (rwC _ (chars s)));simp only [Value.slice.injEq] at e1;obtain ⟨rfl,rfl,rfl⟩ := e1;refine ⟨rfl,hcp,hr,fun i c hi => ?_⟩;obtain ⟨b,off,e2,hb,_⟩ := hr i c hi;have := (hz b off e2).1;subst this;exact ⟨b,e2,hb⟩
 obtain ⟨rfl,hcp,hch,hcb⟩ := hrow
 obtain ⟨tx,htx⟩ := ex ((sc0 text).text)
 obtain ⟨E,hE⟩ : ∃ E : Env,(⟨ca,cc,chars s,s.size,fo⟩ : Env) = E := ⟨_,rfl⟩
 obtain ⟨m,hm⟩ := ex ((chars s).length)
 obtain ⟨N,hN⟩ := ex (s.size)
 obtain ⟨W2,hW2⟩ := ex (w1.alloc (.cells #[.slice ca m cc,ji 0,ji N,ji tx,js,.bool fo,jn,.bool false,.bool false] 61))
 have bW : Below w1.heap.size w1 W2 := by rw [<- hW2];exact ze _ _
 have hblk : W2.heap[w1.heap.size]? = some (.cells #[.slice ca m cc,ji 0,ji N,ji tx,js,.bool fo,jn,.bool false,.bool false] 61 (0,0)) := by rw [<- hW2];exact zx _ _
 have hEf : E.fo = fo /\ E.N = (N : Int) /\ E.L = chars s := by subst hE;rw [<- hN];exact ⟨rfl,rfl,rfl⟩
 have hws : WS w1.heap.size w1.heap.size E (chars s) (sc0 text) false W2 jn [] W2 := by
  subst hE;refine ⟨⟨⟨jn,fun k hk => zo hk bW.size,fun h => Nat.lt_irrefl _ h,List.suffix_refl _,by show (chars s).length <= _;have := HLn.out;omega,hcp,fun w' kk => ?_,?_,⟨rfl,.inl ⟨rfl,rfl⟩⟩,fun g hg => by simp [Value.ownBlock] at hg⟩,Keep.refl _ _⟩,⟨rfl,.inl ⟨rfl,rfl⟩⟩,fun g hg => by simp [Value.ownBlock] at hg,fun t ht => by cases ht⟩
  · intro i c hi
    obtain ⟨b,off,e1,hb,q0,q1,q2⟩ := hch i c hi;have hbk : w'.heap[b]? = w1.heap[b]? := (kk.block b hb (zo hb bW.size)).trans (bW.block b hb);refine ⟨b,off,e1,zo hb (zr bW.size kk.size),?_,?_,?_⟩
    · rw [<- q0];simp [World.cell?,hbk]
    · rw [<- q1];simp [World.cell?,hbk]
    rw [<- q2];simp [World.cell?,hbk]
  rw [hblk];have e3 : pos (⟨ca,cc,chars s,s.size,fo⟩ : Env) (chars s) = 0 := by unfold pos;simp
  unfold Env.cells;rw [e3];dsimp only;rw [hm,hN,htx];rfl
 have HW : Hid (WS w1.heap.size w1.heap.size E (chars s) (sc0 text) false W2 jn [] W2 /\ Below w.heap.size w w1 /\ Below w1.heap.size w1 W2) := ⟨hws,b4,bW⟩
 have HEf : Hid (E.fo = fo /\ E.N = (N : Int) /\ E.L = chars s /\ (∀ d ∈ chars s,0 <= d.r) /\ m <= 100000) := ⟨hEf.1,hEf.2.1,hEf.2.2,(chars_ends s).1,by have := HLn.out;omega⟩
 have HW2 : Hid (w1.alloc (.cells #[.slice ca m cc,ji 0,ji N,ji tx,js,.bool fo,jn,.bool false,.bool false] 61) = W2) := hW2
 have HWR : Hid (WR auto fo N L F m (m + 1) [] (sc0 text) (chars s) false) := by
  have h0 := HLF.out;rw [hm,hN] at h0;refine .inl ⟨rfl,by omega,h0.1,h0.2,?_,?_⟩
  · show 0 + _ <= _
    omega
  show 0 + _ <= _;omega
 have HTX : Hid ((if text < 0 \/ text > 3 then 0 else text) = tx) := htx
 have hx2 : w1.heap.size < W2.heap.size := (zf hblk)
 have hNb : N < 20000 := by omega
 have hsz : s.size = N := hN
 have HM : Hid ((chars s).length = m) := hm
 rw [hm]
 clear k15 hc4 b4 hcp hch hcb htx hE hm hN hW2 bW hblk hEf hws HLF
 go_upto_region 2 with fail
 go_cut [25] (fun sv wc => sv = .bool (decide (text < 0 \/ text > 3)) /\ w1 = wc)
 case first =>
  by_cases h1 : text < 0
  · have g1 : decide (text < 0) = true := zm h1
    have hd : Hid (decide (text < 0 \/ text > 3) = true) := zm (.inl h1);go_wp2_with fail;go_meet
    case rel => exact ⟨by rw [hd.out],rfl⟩
  have g1 : decide (text < 0) = false := zn h1;by_cases h2 : text > 3
  · have g2 : decide (text > 3) = true := zm h2
    have hd : Hid (decide (text < 0 \/ text > 3) = true) := zm (.inr h2);go_wp2_with fail;go_meet
    case rel => exact ⟨by rw [hd.out],rfl⟩
  have g2 : decide (text > 3) = false := zn h2;have hd : Hid (decide (text < 0 \/ text > 3) = false) := zn (by omega);go_wp2_with fail;go_meet
  case rel => exact ⟨by rw [hd.out],rfl⟩
 obtain ⟨hu,rfl⟩ := hcut
 obtain ⟨tb,htb⟩ := ex (decide (text < 0 \/ text > 3))
 have HTB : Hid (decide (text < 0 \/ text > 3) = tb) := htb
 rw [htb] at hu
 subst hu
 clear htb
 go_upto_if 25 with fail
 go_cut [1] (fun sv wc => sv = ji tx /\ w1 = wc)
 case first =>
  cases tb with
  | true =>
   have hx := hid (show tx = 0 by rw [<- HTX.out,jp (of_decide_eq_true HTB.out)]);go_wp2_with fail;go_meet
   case rel => exact ⟨by rw [hx.out],rfl⟩
  | false =>
   have hx := hid (show text = tx by rw [<- HTX.out,jq (of_decide_eq_false HTB.out)]);go_wp2_with fail;go_meet
   case rel => exact ⟨by rw [hx.out],rfl⟩
 obtain ⟨hu,rfl⟩ := hcut
 subst hu
 go_wp2_with fail
 rw [HW2.out]
 go_loopg [13,14] (m + 1) (fun g ov _ wr => ∃ (T : List TL) (sc : Sc) (r : List Ch) (dn : Bool),WR auto fo N L F m g T sc r dn /\ WS w1.heap.size w1.heap.size E r sc dn W2 ov T wr)
 case atStart => exact ⟨[],_,_,_,HWR.out,HW.out.1⟩
 obtain ⟨T,sc,r,dn,hwr,hk⟩ := hrel
 have KW : Hid (WR auto fo N L F m gk T sc r dn /\ WS w1.heap.size w1.heap.size E r sc dn W2 u13 T wr) := ⟨hwr,hk⟩
 have hxr := hk.tw.lt
 have c8 : wr.cell? (jd w1.heap.size 8) = some (.bool dn) := by obtain ⟨fv,h1⟩ := hk.tw.tm;exact h1.cells 8 _ rfl
 cases dn with
 | true =>
  obtain ⟨hT,hsc,hTl⟩ := hwr.done;obtain ⟨fv,h1⟩ := hk.tw.tm;have c6 : wr.cell? (jd w1.heap.size 6) = some fv := h1.cells 6 _ rfl;obtain ⟨oo,oc,eov,_,_⟩ := own_form hk.own;simp only at eov;obtain ⟨fo',fc,efv,_,_⟩ := own_form h1.fo;simp only at efv;have HA : Hid (∀ nq,Alled L F w (jr (.tuple #[u13,fv])) (wr.drewN nq)) := fun nq => by
   have bn := G9.below_drewN (Below.refl wr.heap.size wr) nq;have hk' := hk.below bn;have kk : Keep (fun k => k < w1.heap.size) W2 (wr.drewN nq) := hk'.tw.keep;have bb : Below w.heap.size w (wr.drewN nq) := HW.out.2.1.trans ((HW.out.2.2.trans ((kk.below (fun _ h => h) HW.out.2.2.size))).mono HW.out.2.1.size);refine ⟨oo,T,oc,fo',fc,by rw [eov,efv,hsc],hT,by have := HEf.out.2.2.2.2;omega,⟨by rw [<- eov];exact hk'.own,fun g hg => ?_,hk'.toks⟩,?_,bb⟩
   · rw [<- eov] at hg
     have h2 := hk.out g hg;have h3 := HW.out.2.1.size;omega
   have hfo : OwnQ wr false 58 2 fv sc.fs.length (sc.fs.flatMap gcells) := h1.fo;have hfo2 : OwnQ (wr.drewN nq) false 58 2 fv sc.fs.length (sc.fs.flatMap gcells) := own_mv hfo fun g hg => bn.block g (own_blk hfo hg).1;rw [hsc] at hfo2;rw [hsc] at efv;rw [<- efv];refine ⟨hfo2.1,?_⟩;rcases hfo2.row.2 with e2 | ⟨g,cap,cur,e2,_,rest⟩
   · exact .inl e2
   refine .inr ⟨g,cap,cur,e2,?_,rest⟩;have h3 : ¬ g < w1.heap.size := h1.fout g (by rw [e2];rfl);have h4 := HW.out.2.1.size;omega
  clear hwr hk hT hsc hTl h1 eov efv KW HW;go_wp2_with fail;go_quiet (fail);go_wp2_with fail;go_ret2;exact HA.out _
 | false =>
  obtain ⟨f1,f2,f3⟩ := hwr.few;obtain ⟨g0,rfl⟩ : ∃ g0,gk = g0 + 1 := ⟨gk - 1,by omega⟩;have hwr2 : WR auto E.fo E.N L F m (g0 + 1) T sc r false := by rw [HEf.out.1,HEf.out.2.1];exact hwr
  obtain ⟨p,dn',hcon,hpl,hnew⟩ := hwr2.go HEf.out.2.2.2.2 (suf_pos (by have := hk.tw.facts.2.1;rw [HEf.out.2.2.1] at this;exact this) HEf.out.2.2.2.1);rw [HEf.out.1,HEf.out.2.1] at hnew;have HC : Hid ((∀ (x : Nat) (W : World) (S' : Nat -> Prop),Tm S' x E r sc false W -> Calls Tryz.prog 25 #[mp x] W (Tokd S' x E p dn' W)) /\ p.1.length <= 200000 /\ (∀ T' : List TL,T'.map ptOf = p.1 -> WR auto fo N L F m g0 (T ++ T') (autoSc auto p.1 p.2.1) p.2.2 dn') /\ T.length <= 200000 * m) := ⟨hcon,hpl,hnew,f3⟩;clear hwr hwr2 hk f1 f2 f3 hcon hpl hnew;go_wp2_with fail;refine (KW.out.2.next (HC.out.1 w1.heap.size wr)).mono ?_;rintro e W3 ⟨ao,T',cp,rfl,hT',hcp,hs3,htk,hg0⟩;have hl' : T'.length <= 200000 := by
   have := HC.out.2.1;rw [<- hT',List.length_map] at this;exact this
  obtain ⟨ov',W4,hrun,hs4,hrow2⟩ := hs3.app htk hg0 (by have h1 := HC.out.2.2.2;have h2 := HEf.out.2.2.2.2;omega) cp;have HT2 : Hid (T'.map ptOf = p.1 /\ T'.length <= 200000) := ⟨hT',hl'⟩;have HS4 : Hid (WS w1.heap.size w1.heap.size E p.2.2 p.2.1 dn' W2 ov' (T ++ T') W4) := hs4;have hx4 := hs4.tw.lt;obtain ⟨nT,hnT⟩ := ex (T'.length);rw [hnT] at hrun hcp |-;clear hs3 htk hT' hl' hs4 KW hg0 c8 hxr;cases auto with
  | false =>
   clear hrow2 hnT;go_wp2_with (at_builtin;refine list_append_eq rfl _ _ 24 24 rfl _ _ rfl rfl hrun ?_);go_roundg g0
   case measure => exact Nat.lt_succ_self _
   case rel => exact ⟨T ++ T',p.2.1,p.2.2,dn',HC.out.2.2.1 T' HT2.out.1,HS4.out⟩
  | true =>
   cases hTl : T'.getLast? with
   | none =>
    have hT0 : T' = [] := by simpa using hTl
    obtain rfl : nT = 0 := by rw [<- hnT,hT0];rfl
    have HX : Hid (autoSc true p.1 p.2.1 = p.2.1) := by
     show autoSc _ _ _ = _;rw [<- HT2.out.1,hT0];rfl
    clear hrow2 hnT hTl hT0;go_wp2_with (at_builtin;refine list_append_eq rfl _ _ 24 24 rfl _ _ rfl rfl hrun ?_);go_roundg g0
    case measure => exact Nat.lt_succ_self _
    case rel => exact ⟨T ++ T',p.2.1,p.2.2,dn',by have h0 := HC.out.2.2.1 T' HT2.out.1;rw [HX.out] at h0;exact h0,HS4.out⟩
   | some t =>
    obtain ⟨j,hj⟩ : ∃ j,nT = j + 1 := by
     cases nT with
     | zero => rw [yb hnT] at hTl;simp at hTl
     | succ j => exact ⟨j,rfl⟩
    subst hj;have htj : T'[j]? = some t := by rw [List.getLast?_eq_getElem?,hnT] at hTl;exact hTl
    obtain ⟨b2,off2,rfl,hb2,tc,_⟩ := hrow2.at htj;have t0 := tc.c0;have t2 := tc.c2;obtain ⟨kd,hkd⟩ := ex (t.1.k);obtain ⟨nm,hnm⟩ := ex (t.1.nm);rw [hkd] at t0;rw [hnm] at t2;have hsz2 : j < 200000 := by have := HT2.out.2;omega
    have HX : Hid (autoSc true p.1 p.2.1 = if kd = 2 then { p.2.1 with text := G7.textK nm } else p.2.1) := by
     show autoSc _ _ _ = _;have e1 : lastSt p.1 = if kd = 2 then some nm else none := by
      rw [<- HT2.out.1];unfold lastSt;rw [List.getLast?_map,hTl,<- hkd,<- hnm];rfl
     unfold autoSc;rw [jp rfl,e1];by_cases hk2 : kd = 2
     · rw [jp hk2,jp hk2]
     rw [jq hk2,jq hk2]
    clear hrow2 hTl htj tc hkd hnm hnT;cases h2 : (kd == 2) with
    | false =>
     have HX2 : Hid (autoSc true p.1 p.2.1 = p.2.1) := by
      have h0 := HX.out;rw [jq (by simpa using h2)] at h0;exact h0
     go_wp2_with (at_builtin;refine list_append_eq rfl _ _ 24 24 rfl _ _ rfl rfl hrun ?_);go_roundg g0
     case measure => exact Nat.lt_succ_self _
     case rel => exact ⟨T ++ T',p.2.1,p.2.2,dn',by have h0 := HC.out.2.2.1 T' HT2.out.1;rw [HX2.out] at h0;exact h0,HS4.out⟩
    | true =>
     have HX2 : Hid (autoSc true p.1 p.2.1 = { p.2.1 with text := G7.textK nm }) := by
      have h0 := HX.out;rw [jp (by simpa using h2)] at h0;exact h0
     have k26 := G7.rtext_any nm;obtain ⟨d3,d4,_,_,_⟩ := HS4.out.tw.c3;obtain ⟨tk,htk⟩ := ex (G7.textK nm);rw [htk] at HX2;simp only [htk] at k26;have HS5 : Hid (WS w1.heap.size w1.heap.size E p.2.2 { p.2.1 with text := tk } dn' W2 ov' (T ++ T') (W4.setCell (jd w1.heap.size 3) (ji tk))) := HS4.out.settext tk;clear htk;go_wp2_with (at_builtin;refine list_append_eq rfl _ _ 24 24 rfl _ _ rfl rfl hrun ?_);refine (k26 _).mono ?_;rintro e W5 ⟨rfl,hW5⟩;obtain rfl := hW5.symm;clear hW5 k26;go_wp2_with fail;go_roundg g0
     case measure => exact Nat.lt_succ_self _
     case rel => exact ⟨T ++ T',_,p.2.2,dn',by have h0 := HC.out.2.2.1 T' HT2.out.1;rw [HX2.out] at h0;exact h0,HS5.out⟩
end Go.Proofs.YtjjfalbngcbfaaaGreatDoor
