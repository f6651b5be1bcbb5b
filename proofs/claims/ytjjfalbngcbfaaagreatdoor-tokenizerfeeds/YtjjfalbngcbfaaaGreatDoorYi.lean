import Derived.Test.YtjjfalbngcbfaaaGreatDoorZ0
import Derived.Test.YtjjfalbngcbfaaaGreatDoorYh
namespace Go.Proofs.YtjjfalbngcbfaaaGreatDoor
open Go.RowKit
variable {auto fo sf : Bool} {N kind f : Int} {sc : Sc} {nm p s : jl} {m0 : Mc} {c d d1 d2 : Ch} {t F r q : List Ch} {st : Nat} {fs : Fs} {A : List At} {b : UInt8}
def tm (fo : Bool) (sc : Sc) (kind f : Int) (nm : jl) (st : Nat) (fs : Fs) (A : List At) (a : Int) (an av : jl) (cnt : Bool) : Mc :=
 ⟨st,79,sc.text,fo,sc.last,[],[],kind,f,nm,[],false,A,a,an,av,cnt,[],fs⟩
def eff (A : List At) (an av : jl) (cnt : Bool) : List At := A ++ (if cnt then [⟨bs an,bs av⟩] else [])
theorem tellTag_st (m : Mc) (s : Nat) (c : Ch) : ({ m with st := s } : Mc).tellTag c = m.tellTag c := by
 by_cases h : m.kind = 2
 · simp [Mc.tellTag,Mc.keep,h,Mc.tell,Mc.toData,Mc.noMade,Mc.tagPt]
 have hk : ∀ q : Nat,¬ ({ m with st := q } : Mc).keep.kind = 2 := fun _ => h
 by_cases h2 : m.keep.attrs ≠ [] \/ m.keep.self = true
 · have h3 : ({ m with st := s } : Mc).keep.attrs ≠ [] \/ ({ m with st := s } : Mc).keep.self = true := h2
   unfold Mc.tellTag;simp only [jq (hk s),jq (show ¬ m.keep.kind = 2 from h),jp h2,jp h3];rfl
 have h3 : ¬ (({ m with st := s } : Mc).keep.attrs ≠ [] \/ ({ m with st := s } : Mc).keep.self = true) := h2
 unfold Mc.tellTag
 simp only [jq (hk s),jq (show ¬ m.keep.kind = 2 from h),jq h2,jq h3]
 rfl
theorem tot_nil (st : Nat) (fs : Fs) (A : List At) (a : Int) (an av : jl) (cnt : Bool) : tot auto N [] (tm fo sc kind f nm st fs A a an av cnt) = ([eofP6 N],fs ++ [(7,N)]) := by
 rw [tot_end rfl]
 rfl
theorem textK_in (nm : ByteArray) : 0 <= G7.textK nm /\ G7.textK nm <= 3 := by
 unfold G7.textK
 split
 · decide
 split
 · decide
 split <;> decide
theorem tot_tag {a : Int} {an av : jl} {cnt : Bool} (hr : m0.ref = []) (h : m0.take c = ({ tm fo sc kind f nm st fs A a an av cnt with self := sf } : Mc).tellTag c) (hk : kind = 2 \/ kind = 3) (hcd : sc.cd = false) (hf : f = Mc.frAt F) (hz : c.z = endZ F t) :
 tot auto N (c :: t) m0 = cont auto fo N (doneR F kind nm sc (eff A an av cnt) sf fs t) := by
 have hkeep : ({ tm fo sc kind f nm st fs A a an av cnt with self := sf } : Mc).keep = { tm fo sc kind f nm st fs (eff A an av cnt) 0 [] [] false with self := sf } := rfl
 rcases hk with rfl | rfl
 · have h2 : ({ tm fo sc 2 f nm st fs A a an av cnt with self := sf } : Mc).tellTag c = ⟨27,28,0,fo,bs nm,[],[],0,0,[],[],false,[],0,[],[],false,[⟨2,0,bs nm,ByteArray.empty,eff A an av cnt,sf,f,c.z⟩],fs⟩ := rfl
   rw [h2] at h
   conv => lhs;unfold tot
   rw [feed_take hr,h];unfold doneR;rw [jp rfl,<- hf,<- hz];unfold cont pre;dsimp only;have e : Mc.aut auto [⟨2,0,bs nm,ByteArray.empty,eff A an av cnt,sf,f,c.z⟩] ⟨27,28,0,fo,bs nm,[],[],0,0,[],[],false,[],0,[],[],false,[],fs⟩ = clean fo (autoSc auto [⟨2,0,bs nm,ByteArray.empty,eff A an av cnt,sf,f,c.z⟩] { sc with text := 0,last := bs nm,fs := fs }) := by
    unfold Mc.aut autoSc;cases auto
    · simp [clean,hcd]
    have := textK_in (bs nm);have hl : lastSt [(⟨2,0,bs nm,ByteArray.empty,eff A an av cnt,sf,f,c.z⟩ : Pt)] = some (bs nm) := rfl;rw [hl];simp only [if_true];unfold Mc.set clean;rw [jq (by omega)];simp [hcd]
   rw [e]
 by_cases h3 : eff A an av cnt ≠ [] \/ sf = true
 · have h2 : ({ tm fo sc 3 f nm st fs A a an av cnt with self := sf } : Mc).tellTag c = ⟨27,28,0,fo,sc.last,[],[],0,0,[],[],false,[],0,[],[],false,[⟨3,0,bs nm,ByteArray.empty,[],false,f,c.z⟩],fs ++ [(13,f)]⟩ := by
    unfold Mc.tellTag;rw [hkeep];simp only [tm,show ¬ (3 : Int) = 2 by decide,if_false,h3,if_true];rfl
   rw [h2] at h;rw [tot_say hr h (by simp)];unfold doneR;rw [jq (by decide),jp h3,<- hf,<- hz];unfold cont;dsimp only;rw [autoSc_none auto (by simp)];simp [clean,hcd]
 have h2 : ({ tm fo sc 3 f nm st fs A a an av cnt with self := sf } : Mc).tellTag c = ⟨27,28,0,fo,sc.last,[],[],0,0,[],[],false,[],0,[],[],false,[⟨3,0,bs nm,ByteArray.empty,[],false,f,c.z⟩],fs⟩ := by
  unfold Mc.tellTag;rw [hkeep];simp only [tm,show ¬ (3 : Int) = 2 by decide,if_false,h3];rfl
 rw [h2] at h
 rw [tot_say hr h (by simp)]
 unfold doneR
 rw [jq (by decide),jq h3,<- hf,<- hz]
 unfold cont
 dsimp only
 rw [autoSc_none auto (by simp)]
 simp [clean,hcd]
theorem head81 (t : List Ch) (fs : Fs) (A : List At) (a : Int) (an av : jl) (cnt : Bool) (h : blk c.r = true \/ c.r = 47 \/ c.r = 62) : tot auto N (c :: t) (tm fo sc kind f nm 81 fs A a an av cnt) = tot auto N (c :: t) (tm fo sc kind f nm 119 fs A a an av cnt) := by
 refine tot_same rfl rfl ?_
 show Mc.tagName _ c = Mc.beforeName _ c
 unfold Mc.tagName Mc.beforeName
 by_cases hb : blk c.r = true
 · rw [jp hb,jp hb];rfl
 rw [jq hb,jq hb]
 rcases h with h | h | h
 · exact absurd h hb
 · rw [jp h,jp (.inl h)]
   unfold Mc.afterName;rw [jq hb,jp h];rfl
 rw [jq (by omega),jp h,jp (.inr h)]
 unfold Mc.afterName
 rw [jq hb,jq (by omega),jq (by omega),jp h]
 exact tellTag_st (tm fo sc kind f nm 119 fs A a an av cnt) 81 c |>.trans (tellTag_st (tm fo sc kind f nm 119 fs A a an av cnt) 148 c).symm
theorem head183 (t : List Ch) (fs : Fs) (A : List At) (a : Int) (an av : jl) (cnt : Bool) (h : blk c.r = true \/ c.r = 62) : tot auto N (c :: t) (tm fo sc kind f nm 183 fs A a an av cnt) = tot auto N (c :: t) (tm fo sc kind f nm 119 fs A a an av cnt) := by
 refine tot_same rfl rfl ?_
 show Mc.bare _ c = Mc.beforeName _ c
 unfold Mc.bare Mc.beforeName
 by_cases hb : blk c.r = true
 · rw [jp hb,jp hb];rfl
 rw [jq hb,jq hb]
 rcases h with h | h
 · exact absurd h hb
 rw [jq (by omega),jp h,jp (.inr h)]
 unfold Mc.afterName
 rw [jq hb,jq (by omega),jq (by omega),jp h]
 exact tellTag_st (tm fo sc kind f nm 119 fs A a an av cnt) 183 c |>.trans (tellTag_st (tm fo sc kind f nm 119 fs A a an av cnt) 148 c).symm
theorem head187 (r : List Ch) (fs : Fs) (A : List At) (a : Int) (an av : jl) (cnt : Bool) : tot auto N r (tm fo sc kind f nm 187 fs A a an av cnt) = tot auto N r (tm fo sc kind f nm 119 (between fs r) A a an av cnt) := by
 cases r with
 | nil => rw [tot_nil,tot_nil];rfl
 | cons c t =>
  refine tot_same rfl rfl ?_;show Mc.afterValue _ c = Mc.beforeName _ c;unfold Mc.afterValue between;by_cases hb : blk c.r = true
  · rw [jp hb]
    simp only [hb,true_or,if_true];unfold Mc.beforeName;rw [jp hb];rfl
  rw [jq hb];by_cases h : c.r = 47
  · rw [jp h]
    simp only [h,true_or,or_true,if_true];unfold Mc.beforeName Mc.afterName;rw [jq hb,jp (.inl h),jq hb,jp h];rfl
  rw [jq h];by_cases h2 : c.r = 62
  · rw [jp h2]
    simp only [h2,or_true,if_true];unfold Mc.beforeName Mc.afterName;rw [jq hb,jp (.inr h2),jq hb,jq h,jq (by omega),jp h2];exact tellTag_st (tm fo sc kind f nm 119 fs A a an av cnt) 187 c |>.trans (tellTag_st (tm fo sc kind f nm 119 fs A a an av cnt) 148 c).symm
  rw [jq h2];have hn : ¬ (blk c.r = true \/ c.r = 47 \/ c.r = 62) := fun e => by
   rcases e with e | e | e
   · exact hb e
   · exact h e
   exact h2 e
  simp only [jq hn];rfl
theorem head120 (t : List Ch) (fs : Fs) (A : List At) (a : Int) (an av : jl) (cnt : Bool) (h : c.r ≠ 62) : tot auto N (c :: t) (tm fo sc kind f nm 120 fs A a an av cnt) = tot auto N (c :: t) (tm fo sc kind f nm 119 (fs ++ [(12,c.a)]) A a an av cnt) := by
 refine tot_same rfl rfl ?_
 show Mc.slash _ c = Mc.beforeName _ c
 unfold Mc.slash
 rw [jq h]
 rfl
theorem name81 {auto fo : Bool} {N : Int} {sc : Sc} {kind f : Int} (fs : Fs) : ∀ (r : List Ch) (nm : jl),tot auto N r (tm fo sc kind f nm 81 fs [] 0 [] [] false) = tot auto N (r.dropWhile nmC) (tm fo sc kind f (nm ++ lows (r.takeWhile nmC)) 81 fs [] 0 [] [] false)
 | [],nm => by simp [lows]
 | c :: t,nm => by
  cases hc : nmC c with
  | false => rw [List.dropWhile_cons,List.takeWhile_cons,hc];simp [lows]
  | true =>
   have h : ¬ blk c.r = true /\ ¬ c.r = 47 /\ ¬ c.r = 62 := by
    unfold nmC at hc;simpa [and_assoc] using hc
   have ht : (tm fo sc kind f nm 81 fs [] 0 [] [] false).take c = tm fo sc kind f (nm ++ enc (lowr c.r)) 81 fs [] 0 [] [] false := by
    show Mc.tagName _ c = _;unfold Mc.tagName;rw [jq h.1,jq h.2.1,jq h.2.2];rfl
   rw [tot_go rfl ht rfl,name81 fs t,List.dropWhile_cons,List.takeWhile_cons,hc];simp [lows]
theorem skip119 {auto fo : Bool} {N : Int} {sc : Sc} {kind f : Int} {nm : jl} (fs : Fs) (A : List At) (a : Int) (an av : jl) (cnt : Bool) : ∀ r : List Ch,tot auto N r (tm fo sc kind f nm 119 fs A a an av cnt) = tot auto N (skipB r) (tm fo sc kind f nm 119 fs A a an av cnt)
 | [] => rfl
 | c :: t => by
  unfold skipB;cases hc : isB c with
  | false => rw [List.dropWhile_cons,hc];simp
  | true =>
   have hb : blk c.r = true := hc;have ht : (tm fo sc kind f nm 119 fs A a an av cnt).take c = tm fo sc kind f nm 119 fs A a an av cnt := by
    show Mc.beforeName _ c = _;unfold Mc.beforeName;rw [jp hb]
   rw [tot_go rfl ht rfl,skip119 fs A a an av cnt t,List.dropWhile_cons,hc];rfl
theorem skip170 {auto fo : Bool} {N : Int} {sc : Sc} {kind f : Int} {nm : jl} (fs : Fs) (A : List At) (a : Int) (an av : jl) (cnt : Bool) : ∀ r : List Ch,tot auto N r (tm fo sc kind f nm 170 fs A a an av cnt) = tot auto N (skipB r) (tm fo sc kind f nm 170 fs A a an av cnt)
 | [] => rfl
 | c :: t => by
  unfold skipB;cases hc : isB c with
  | false => rw [List.dropWhile_cons,hc];simp
  | true =>
   have hb : blk c.r = true := hc;have ht : (tm fo sc kind f nm 170 fs A a an av cnt).take c = tm fo sc kind f nm 170 fs A a an av cnt := by
    show Mc.beforeValue _ c = _;unfold Mc.beforeValue;rw [jp hb]
   rw [tot_go rfl ht rfl,skip170 fs A a an av cnt t,List.dropWhile_cons,hc];rfl
theorem skip148 {auto fo : Bool} {N : Int} {sc : Sc} {kind f : Int} {nm : jl} (fs : Fs) (A : List At) (a : Int) (an av : jl) (cnt : Bool) : ∀ r : List Ch,tot auto N r (tm fo sc kind f nm 148 fs A a an av cnt) = tot auto N (skipB r) (tm fo sc kind f nm 148 fs A a an av cnt)
 | [] => rfl
 | c :: t => by
  unfold skipB;cases hc : isB c with
  | false => rw [List.dropWhile_cons,hc];simp
  | true =>
   have hb : blk c.r = true := hc;have ht : (tm fo sc kind f nm 148 fs A a an av cnt).take c = tm fo sc kind f nm 148 fs A a an av cnt := by
    show Mc.afterName _ c = _;unfold Mc.afterName;rw [jp hb]
   rw [tot_go rfl ht rfl,skip148 fs A a an av cnt t,List.dropWhile_cons,hc];rfl
theorem skipB_hd (h : skipB r = c :: t) : blk c.r = false := by
 unfold skipB at h
 have := List.head?_dropWhile_not isB r
 rw [h] at this
 simpa [isB] using this
theorem head148 (r : List Ch) (fs : Fs) (A : List At) (a : Int) (an av : jl) (cnt : Bool) (h : hd (skipB r) ≠ 61) : tot auto N r (tm fo sc kind f nm 148 fs A a an av cnt) = tot auto N r (tm fo sc kind f nm 119 fs A a an av cnt) := by
 rw [skip148,skip119]
 cases hr : skipB r with
 | nil => rw [tot_nil,tot_nil]
 | cons c t =>
  rw [hr] at h;have hb : ¬ blk c.r = true := by rw [skipB_hd hr];decide
  have h61 : ¬ c.r = 61 := h;refine tot_same rfl rfl ?_;show Mc.afterName _ c = Mc.beforeName _ c;unfold Mc.beforeName;rw [jq hb];by_cases h2 : c.r = 47 \/ c.r = 62
  · rw [jp h2];rfl
  rw [jq h2,jq h61];unfold Mc.afterName;rw [jq hb,jq (fun e => h2 (.inl e)),jq h61,jq (fun e => h2 (.inr e))];rfl
theorem eq148 (fs : Fs) (A : List At) (a : Int) (an av : jl) (cnt : Bool) (h : hd (skipB r) = 61) : tot auto N r (tm fo sc kind f nm 148 fs A a an av cnt) = tot auto N (skipB r).tail (tm fo sc kind f nm 170 fs A a an av cnt) := by
 rw [skip148]
 cases hr : skipB r with
 | nil => rw [hr] at h;exact absurd h (by decide)
 | cons c t =>
  rw [hr] at h;have h61 : c.r = 61 := h;refine tot_go rfl ?_ rfl;show Mc.afterName _ c = _;unfold Mc.afterName;rw [jq (by rw [h61];decide),jq (by omega),jp h61];rfl
theorem amp_eq (hst : st = 181 \/ st = 182 \/ st = 183) (hk : kind = 2 \/ kind = 3) {c : Ch} {t : List Ch} (h38 : c.r = 38) (hpos : ∀ d ∈ t,0 <= d.r) (fs : Fs) (A : List At) (a : Int) (an av : jl) (cnt : Bool) :
 tot auto N (c :: t) (tm fo sc kind f nm st fs A a an av cnt) = tot auto N (pieceR (c :: t) fs).2.2 (tm fo sc kind f nm st (pieceR (c :: t) fs).2.1 A a an (av ++ (pieceR (c :: t) fs).1) cnt) := by
 have ht : (tm fo sc kind f nm st fs A a an av cnt).take c = { tm fo sc kind f nm st fs A a an av cnt with ref := [c] } := by
  rcases hst with rfl | rfl | rfl
  · show Mc.quoted _ c 34 = _
    unfold Mc.quoted;rw [jq (by omega),jp h38]
  · show Mc.quoted _ c 39 = _
    unfold Mc.quoted;rw [jq (by omega),jp h38]
  show Mc.bare _ c = _;unfold Mc.bare;rw [jq (by rw [h38];decide),jp h38]
 have hk0 : kind ≠ 0 := by omega
 have hS : Reads (tm fo sc kind f nm st fs A a an av cnt) := .inr ⟨hst,rfl,hk0⟩
 rw [tot_go rfl ht rfl,ref_eq hS rfl rfl h38 t [] (.inr ⟨fun c hc => (by cases hc),fun h => absurd rfl h⟩) hpos,List.nil_append]
 unfold refGo
 have hd1 : decide ((tm fo sc kind f nm st fs A a an av cnt).kind ≠ 0) = true := zm hk0
 rw [hd1]
 dsimp only
 unfold pieceR
 simp only [jp h38]
 obtain ⟨o,ho⟩ := ex (refR true (c :: t))
 rw [ho]
 unfold refB refK
 by_cases h0 : o.2.1 = 0
 · simp only [jp h0]
   have e : ({ tm fo sc kind f nm st fs A a an av cnt with ref := [],fs := (tm fo sc kind f nm st fs A a an av cnt).fs ++ Mc.refFaults (c :: t) o.2.1 o.2.2 } : Mc).put c false = tm fo sc kind f nm st (fs ++ Mc.refFaults (c :: t) o.2.1 o.2.2) A a an (av ++ enc c.r) cnt := by
    show (if kind ≠ 0 then _ else _) = _;rw [jp hk0];rfl
   rw [e];rfl
 simp only [jq h0]
 have e : ({ tm fo sc kind f nm st fs A a an av cnt with ref := [],fs := (tm fo sc kind f nm st fs A a an av cnt).fs ++ Mc.refFaults (c :: t) o.2.1 o.2.2 } : Mc).put ⟨o.1,Mc.frAt (c :: t),Mc.toAt (c :: t) (o.2.1 - 1)⟩ true = tm fo sc kind f nm st (fs ++ Mc.refFaults (c :: t) o.2.1 o.2.2) A a an (av ++ enc o.1) cnt := by
  show (if kind ≠ 0 then _ else _) = _;rw [jp hk0];rfl
 rw [e]
 rfl
theorem piece_suf (fs : Fs) : (pieceR (c :: t) fs).2.2 <:+ t := by
 unfold pieceR
 dsimp only
 by_cases h38 : c.r = 38
 · rw [jp h38]
   by_cases h0 : (refR true (c :: t)).2.1 = 0
   · rw [jp h0]
     exact List.suffix_refl _
   rw [jq h0];obtain ⟨k,hk⟩ : ∃ k,(refR true (c :: t)).2.1 = k + 1 := ⟨(refR true (c :: t)).2.1 - 1,by omega⟩;rw [hk,List.drop_succ_cons];exact List.drop_suffix _ _
 rw [jq h38]
 exact List.suffix_refl _
theorem suf_pos (h : r <:+ t) (hp : ∀ d ∈ t,0 <= d.r) : ∀ d ∈ r,0 <= d.r := fun d hd => hp d (h.subset hd)
theorem quo_eq {auto fo : Bool} {N : Int} {sc : Sc} {kind f : Int} {nm : jl} {st : Nat} {q : Int} (hst : (st = 181 /\ q = 34) \/ (st = 182 /\ q = 39)) (hk : kind = 2 \/ kind = 3) (A : List At) (a : Int) (an : jl) (cnt : Bool) : ∀ (n : Nat) (r : List Ch) (av : jl) (fs : Fs),r.length <= n -> (∀ d ∈ r,0 <= d.r) ->
 tot auto N r (tm fo sc kind f nm st fs A a an av cnt) = tot auto N (quoR q n av fs r).2.2 (tm fo sc kind f nm st (quoR q n av fs r).2.1 A a an (quoR q n av fs r).1 cnt) /\ ((quoR q n av fs r).2.2 = [] \/ hd (quoR q n av fs r).2.2 = q) /\ (quoR q n av fs r).2.2 <:+ r
 | 0,r,av,fs,hl,_ => by
  have : r = [] := yb (by omega);subst this;exact ⟨rfl,.inl rfl,List.suffix_refl _⟩
 | n + 1,r,av,fs,hl,hpos => by
  unfold quoR;by_cases h : r = [] \/ hd r = q
  · rw [jp h]
    exact ⟨rfl,h,List.suffix_refl _⟩
  rw [jq h];cases r with
  | nil => exact absurd (.inl rfl) h
  | cons c t =>
   have hq : ¬ c.r = q := fun e => h (.inr e);have hs := piece_suf (c := c) (t := t) fs;have htp : ∀ d ∈ t,0 <= d.r := fun d hd => hpos d (by simp [hd]);have step : tot auto N (c :: t) (tm fo sc kind f nm st fs A a an av cnt) = tot auto N (pieceR (c :: t) fs).2.2 (tm fo sc kind f nm st (pieceR (c :: t) fs).2.1 A a an (av ++ (pieceR (c :: t) fs).1) cnt) := by
    by_cases h38 : c.r = 38
    · exact amp_eq (by omega) hk h38 htp fs A a an av cnt
    have ht : (tm fo sc kind f nm st fs A a an av cnt).take c = tm fo sc kind f nm st fs A a an (av ++ enc c.r) cnt := by
     rcases hst with ⟨rfl,rfl⟩ | ⟨rfl,rfl⟩
     · show Mc.quoted _ c 34 = _
       unfold Mc.quoted;rw [jq hq,jq h38];rfl
     show Mc.quoted _ c 39 = _;unfold Mc.quoted;rw [jq hq,jq h38];rfl
    rw [tot_go rfl ht rfl];unfold pieceR;simp only [jq h38]
   obtain ⟨i1,i2,i3⟩ := quo_eq (auto := auto) (fo := fo) (N := N) (sc := sc) (f := f) (nm := nm) hst hk A a an cnt n (pieceR (c :: t) fs).2.2 (av ++ (pieceR (c :: t) fs).1) (pieceR (c :: t) fs).2.1 (by have := hs.length_le;simp at hl;omega) (suf_pos hs htp);exact ⟨step.trans i1,i2,i3.trans (hs.trans (zl _ _))⟩
theorem bare_eq {auto fo : Bool} {N : Int} {sc : Sc} {kind f : Int} {nm : jl} (hk : kind = 2 \/ kind = 3) (A : List At) (a : Int) (an : jl) (cnt : Bool) : ∀ (n : Nat) (r : List Ch) (av : jl) (fs : Fs),r.length <= n -> (∀ d ∈ r,0 <= d.r) ->
 tot auto N r (tm fo sc kind f nm 183 fs A a an av cnt) = tot auto N (bareR n av fs r).2.2 (tm fo sc kind f nm 119 (bareR n av fs r).2.1 A a an (bareR n av fs r).1 cnt) /\ (bareR n av fs r).2.2 <:+ r
 | 0,r,av,fs,hl,_ => by
  have : r = [] := yb (by omega);subst this;refine ⟨?_,List.suffix_refl _⟩;rw [tot_nil];show _ = tot auto N [] _;rw [tot_nil];rfl
 | n + 1,r,av,fs,hl,hpos => by
  unfold bareR;by_cases h : r = [] \/ blk (hd r) = true \/ hd r = 62
  · rw [jp h]
    refine ⟨?_,List.suffix_refl _⟩;cases r with
    | nil => rw [tot_nil,tot_nil]
    | cons c t => exact head183 t fs A a an av cnt (h.resolve_left (by simp))
  rw [jq h];cases r with
  | nil => exact absurd (.inl rfl) h
  | cons c t =>
   have hb : ¬ blk c.r = true := fun e => h (.inr (.inl e));have h62 : ¬ c.r = 62 := fun e => h (.inr (.inr e));have hs := piece_suf (c := c) (t := t) (oddF (c :: t) fs);have htp : ∀ d ∈ t,0 <= d.r := fun d hd => hpos d (by simp [hd]);have step : tot auto N (c :: t) (tm fo sc kind f nm 183 fs A a an av cnt) = tot auto N (pieceR (c :: t) (oddF (c :: t) fs)).2.2 (tm fo sc kind f nm 183 (pieceR (c :: t) (oddF (c :: t) fs)).2.1 A a an (av ++ (pieceR (c :: t) (oddF (c :: t) fs)).1) cnt) := by
    by_cases h38 : c.r = 38
    · have : oddF (c :: t) fs = fs := by unfold oddF odd5;simp [h38]
      rw [this];exact amp_eq (.inr (.inr rfl)) hk h38 htp fs A a an av cnt
    have ht : (tm fo sc kind f nm 183 fs A a an av cnt).take c = tm fo sc kind f nm 183 (oddF (c :: t) fs) A a an (av ++ enc c.r) cnt := by
     show Mc.bare _ c = _;unfold Mc.bare oddF;rw [jq hb,jq h38,jq h62];by_cases h5 : c.r = 34 \/ c.r = 39 \/ c.r = 60 \/ c.r = 61 \/ c.r = 96
     · have h5' : odd5 c.r = true := by unfold odd5;simp;omega
       rw [jp h5];simp only [h5',if_true];rfl
     have h5' : odd5 c.r = false := by unfold odd5;simp;omega
     rw [jq h5];simp only [h5',Bool.false_eq_true,if_false];rfl
    rw [tot_go rfl ht rfl];unfold pieceR;simp only [jq h38]
   obtain ⟨i1,i2⟩ := bare_eq (auto := auto) (fo := fo) (N := N) (sc := sc) (f := f) (nm := nm) hk A a an cnt n (pieceR (c :: t) (oddF (c :: t) fs)).2.2 (av ++ (pieceR (c :: t) (oddF (c :: t) fs)).1) (pieceR (c :: t) (oddF (c :: t) fs)).2.1 (by have := hs.length_le;simp at hl;omega) (suf_pos hs htp);exact ⟨step.trans i1,i2.trans (hs.trans (zl _ _))⟩
theorem skip_suf (r : List Ch) : skipB r <:+ r := List.dropWhile_suffix _
theorem value_eq (hk : kind = 2 \/ kind = 3) (r : List Ch) (fs : Fs) (A : List At) (a : Int) (an : jl) (cnt : Bool) (hpos : ∀ d ∈ r,0 <= d.r) :
 tot auto N r (tm fo sc kind f nm 170 fs A a an [] cnt) = tot auto N (valueR N fs r).2.2 (tm fo sc kind f nm 119 (valueR N fs r).2.1 A a an (valueR N fs r).1 cnt) /\ (valueR N fs r).2.2 <:+ r := by
 have hsk := skip_suf r
 have hpos1 := suf_pos hsk hpos
 rw [skip170]
 unfold valueR
 obtain ⟨r1,hr1⟩ := ex (skipB r)
 rw [hr1] at hsk hpos1 |-
 have quo : ∀ (st : Nat) (q : Int),((st = 181 /\ q = 34) \/ (st = 182 /\ q = 39)) -> hd r1 = q -> (tot auto N r1 (tm fo sc kind f nm 170 fs A a an [] cnt) = tot auto N (if (quoR q r1.length [] fs r1.tail).2.2 = [] then quoR q r1.length [] fs r1.tail else ((quoR q r1.length [] fs r1.tail).1,between (quoR q r1.length [] fs r1.tail).2.1 (quoR q r1.length [] fs r1.tail).2.2.tail,(quoR q r1.length [] fs r1.tail).2.2.tail)).2.2 (tm fo sc kind f nm 119 (if (quoR q r1.length [] fs r1.tail).2.2 = [] then quoR q r1.length [] fs r1.tail else ((quoR q r1.length [] fs r1.tail).1,between (quoR q r1.length [] fs r1.tail).2.1 (quoR q r1.length [] fs r1.tail).2.2.tail,(quoR q r1.length [] fs r1.tail).2.2.tail)).2.1 A a an (if (quoR q r1.length [] fs r1.tail).2.2 = [] then quoR q r1.length [] fs r1.tail else ((quoR q r1.length [] fs r1.tail).1,between (quoR q r1.length [] fs r1.tail).2.1 (quoR q r1.length [] fs r1.tail).2.2.tail,(quoR q r1.length [] fs r1.tail).2.2.tail)).1 cnt)) /\ (if (quoR q r1.length [] fs r1.tail).2.2 = [] then quoR q r1.length [] fs r1.tail else ((quoR q r1.length [] fs r1.tail).1,between (quoR q r1.length [] fs r1.tail).2.1 (quoR q r1.length [] fs r1.tail).2.2.tail,(quoR q r1.length [] fs r1.tail).2.2.tail)).2.2 <:+ r1 := fun st q hst hq => by
  cases r1 with
  | nil => exfalso;have : (-1 : Int) = q := hq;omega
  | cons c t =>
   have hcq : c.r = q := hq;have ht : (tm fo sc kind f nm 170 fs A a an [] cnt).take c = tm fo sc kind f nm st fs A a an [] cnt := by
    show Mc.beforeValue _ c = _;unfold Mc.beforeValue;rcases hst with ⟨rfl,rfl⟩ | ⟨rfl,rfl⟩
    · rw [jq (by rw [hcq];decide),jp hcq];rfl
    rw [jq (by rw [hcq];decide),jq (by omega),jp hcq];rfl
   obtain ⟨i1,i2,i3⟩ := quo_eq (auto := auto) (fo := fo) (N := N) (sc := sc) (f := f) (nm := nm) hst hk A a an cnt (c :: t).length t [] fs (by simp) (fun d hd => hpos1 d (by simp [hd]));rw [tot_go rfl ht rfl,i1,List.tail_cons];obtain ⟨p,hp⟩ := ex (quoR q (c :: t).length [] fs t);rw [hp] at i2 i3 |-;by_cases h0 : p.2.2 = []
   · simp only [jp h0]
     refine ⟨?_,i3.trans (zl _ _)⟩;rw [h0,tot_nil,tot_nil]
   simp only [jq h0];cases hp2 : p.2.2 with
   | nil => exact absurd hp2 h0
   | cons d u =>
    rw [hp2] at i2 i3;have hdq : d.r = q := i2.resolve_left (by simp);have ht2 : (tm fo sc kind f nm st p.2.1 A a an p.1 cnt).take d = tm fo sc kind f nm 187 p.2.1 A a an p.1 cnt := by
     rcases hst with ⟨rfl,rfl⟩ | ⟨rfl,rfl⟩
     · show Mc.quoted _ d 34 = _
       unfold Mc.quoted;rw [jp hdq];rfl
     show Mc.quoted _ d 39 = _;unfold Mc.quoted;rw [jp hdq];rfl
    rw [tot_go rfl ht2 rfl,head187,List.tail_cons];exact ⟨rfl,((zl _ _).trans i3).trans (zl _ _)⟩
 by_cases h34 : hd r1 = 34 \/ hd r1 = 39
 · rw [jp h34]
   rcases h34 with h | h
   · obtain ⟨j1,j2⟩ := quo 181 34 (.inl ⟨rfl,rfl⟩) h
     rw [h];exact ⟨j1,j2.trans hsk⟩
   obtain ⟨j1,j2⟩ := quo 182 39 (.inr ⟨rfl,rfl⟩) h;rw [h];exact ⟨j1,j2.trans hsk⟩
 rw [jq h34]
 by_cases h62 : hd r1 = 62
 · rw [jp h62]
   refine ⟨?_,hsk⟩;cases r1 with
   | nil => exact absurd h62 (by decide)
   | cons c t =>
    have h : c.r = 62 := h62;refine tot_same rfl rfl ?_;show Mc.beforeValue _ c = Mc.beforeName _ c;unfold Mc.beforeValue Mc.beforeName Mc.afterName;rw [jq (by rw [h];decide),jq (by omega),jq (by omega),jp h,jq (by rw [h];decide),jp (.inr h),jq (by rw [h];decide),jq (by omega),jq (by omega),jp h];exact tellTag_st (tm fo sc kind f nm 119 (fs ++ [(10,c.a)]) A a an [] cnt) 170 c |>.trans (tellTag_st (tm fo sc kind f nm 119 (fs ++ [(10,c.a)]) A a an [] cnt) 148 c).symm
 rw [jq h62]
 obtain ⟨i1,i2⟩ := bare_eq (auto := auto) (fo := fo) (N := N) (sc := sc) (f := f) (nm := nm) hk A a an cnt r1.length r1 [] fs (zb _) hpos1
 rw [<- i1]
 refine ⟨?_,i2.trans hsk⟩
 cases r1 with
 | nil => rw [tot_nil,tot_nil]
 | cons c t =>
  have hb : ¬ blk c.r = true := by rw [skipB_hd hr1];decide
  have g1 : ¬ c.r = 34 := fun e => h34 (.inl e);have g2 : ¬ c.r = 39 := fun e => h34 (.inr e);have g3 : ¬ c.r = 62 := h62;refine tot_same rfl rfl ?_;show Mc.beforeValue _ c = Mc.bare _ c;unfold Mc.beforeValue;rw [jq hb,jq g1,jq g2,jq g3];rfl
def Uniq (A : List At) : Prop := (A.map fun a => a.nm).Nodup
theorem dups_is (h : Uniq A) (nm : jl) (at' : Int) : dups A nm at' = if dup A nm = true then [(9,at')] else [] := by
 unfold Uniq at h
 unfold dups dup
 induction A with
 | nil => rfl
 | cons a A ih =>
  simp only [List.map_cons,List.nodup_cons] at h;have ih := ih h.2;rw [List.filter_cons,List.any_cons];by_cases e : a.nm = nm
  · have hn : A.filter (fun a => decide (a.nm = nm)) = [] := List.filter_eq_nil_iff.2 fun b hb => by
     have : b.nm ≠ nm := fun e2 => h.1 (by rw [e,<- e2];exact List.mem_map_of_mem hb);simpa using this
    simp [e,hn]
  simp only [e,decide_false,Bool.false_eq_true,if_false,Bool.false_or];exact ih
theorem uniq_add (h : Uniq A) (p : (jl × jl) × Bool × Fs × List Ch) (hp : p.2.1 = true -> dup A p.1.1 = false) : Uniq (addA A p) := by
 unfold addA
 split
 · next hk =>
   unfold Uniq at h |-;have hd := hp hk;unfold dup at hd;rw [List.map_append,List.map_cons,List.map_nil];have hb : (⟨bs p.1.1,bs p.1.2⟩ : At).nm = p.1.1 := bs_list _;rw [hb];refine List.nodup_append.2 ⟨h,by simp,fun a ha b hb => ?_⟩;simp at hb;subst hb;intro e;subst e;obtain ⟨x,hx,e⟩ := List.mem_map.1 ha;have := List.any_eq_false.1 hd x hx;exact this (by simpa using e)
 exact h
theorem enc61 : enc (lowr 61) = [61] := by decide +kernel
theorem name151 {auto fo : Bool} {N : Int} {sc : Sc} {kind f : Int} {nm : jl} (E : List At) (a : Int) : ∀ (r : List Ch) (fs : Fs) (an : jl),tot auto N r (tm fo sc kind f nm 151 fs E a an [] false) = tot auto N (r.dropWhile anC) (tm fo sc kind f nm 151 (fs ++ odds (r.takeWhile anC)) E a (an ++ lows (r.takeWhile anC)) [] false)
 | [],fs,an => by simp [lows,odds]
 | c :: t,fs,an => by
  cases hc : anC c with
  | false => rw [List.dropWhile_cons,List.takeWhile_cons,hc];simp [lows,odds]
  | true =>
   have h : ¬ blk c.r = true /\ ¬ c.r = 47 /\ ¬ c.r = 62 /\ ¬ c.r = 61 := by
    unfold anC at hc;simpa [and_assoc] using hc
   have ht : (tm fo sc kind f nm 151 fs E a an [] false).take c = tm fo sc kind f nm 151 (fs ++ odds [c]) E a (an ++ enc (lowr c.r)) [] false := by
    show Mc.name _ c = _;unfold Mc.name Mc.inName;rw [jq (by simp [h.1,h.2.1,h.2.2.1]),jq h.2.2.2];by_cases h3 : c.r = 34 \/ c.r = 39 \/ c.r = 60
    · have h3' : odd c.r = true := by unfold odd;simp;omega
      rw [jp h3];have : odds [c] = [(8,c.a)] := by simp [odds,h3']
      rw [this];rfl
    have h3' : odd c.r = false := by unfold odd;simp;omega
    rw [jq h3];have : odds [c] = [] := by simp [odds,h3']
    rw [this,zu];rfl
   rw [tot_go rfl ht rfl,name151 E a t,List.dropWhile_cons,List.takeWhile_cons,hc];have e : odds (c :: t.takeWhile anC) = odds [c] ++ odds (t.takeWhile anC) := by
    unfold odds;rw [<- List.map_append,<- List.filter_append];rfl
   simp only [if_true];rw [e];simp [lows]
theorem aname_eq (fs : Fs) (A : List At) (a : Int) (an av : jl) (cnt : Bool) (hb : blk c.r = false) (h47 : c.r ≠ 47) (h62 : c.r ≠ 62) :
 tot auto N (c :: t) (tm fo sc kind f nm 119 fs A a an av cnt) = tot auto N (anameR fs (c :: t)).2.2 (tm fo sc kind f nm 151 (anameR fs (c :: t)).2.1 (eff A an av cnt) c.a (anameR fs (c :: t)).1 [] false) := by
 unfold anameR
 dsimp only
 by_cases h61 : c.r = 61
 · rw [jp h61]
   have ht : (tm fo sc kind f nm 119 fs A a an av cnt).take c = tm fo sc kind f nm 151 (fs ++ [(8,c.a)]) (eff A an av cnt) c.a [61] [] false := by
    show Mc.beforeName _ c = _;unfold Mc.beforeName;rw [jq (by simp [hb]),jq (by omega),jp h61];have e : enc (lowr c.r) = [61] := by rw [h61];exact enc61
    show ({ ((((tm fo sc kind f nm 119 fs A a an av cnt).fault 8 c.a).begA c.a).addAttr c.r) with st := 151 } : Mc) = _;unfold Mc.addAttr;rw [e];rfl
   rw [tot_go rfl ht rfl,name151]
 rw [jq h61]
 have ht : (tm fo sc kind f nm 119 fs A a an av cnt).take c = (tm fo sc kind f nm 151 fs (eff A an av cnt) c.a [] [] false).take c := by
  show Mc.beforeName _ c = Mc.name _ c;unfold Mc.beforeName;rw [jq (by simp [hb]),jq (by omega),jq h61];rfl
 rw [tot_same rfl rfl ht,name151,List.nil_append]
theorem aname_suf (fs : Fs) (hb : blk c.r = false) (h47 : c.r ≠ 47) (h62 : c.r ≠ 62) : (anameR fs (c :: t)).2.2 <:+ t := by
 unfold anameR
 dsimp only
 by_cases h61 : c.r = 61
 · rw [jp h61]
   exact List.dropWhile_suffix _
 rw [jq h61]
 have hc : anC c = true := by unfold anC;simp [hb,h47,h62,h61]
 show List.dropWhile anC (c :: t) <:+ t
 rw [List.dropWhile_cons,hc]
 exact List.dropWhile_suffix _
theorem aname_stop (fs : Fs) {d : Ch} {u : List Ch} (h : (anameR fs r).2.2 = d :: u) : blk d.r = true \/ d.r = 47 \/ d.r = 62 \/ d.r = 61 := by
 have key : ∀ l : List Ch,l.dropWhile anC = d :: u -> blk d.r = true \/ d.r = 47 \/ d.r = 62 \/ d.r = 61 := fun l hl => by
  have := List.head?_dropWhile_not anC l;rw [hl] at this;simp only [List.head?_cons] at this;unfold anC at this;simp at this;by_cases h1 : blk d.r = true
  · exact .inl h1
  have h2 : blk d.r = false := by simpa using h1
  by_cases h3 : d.r = 47
  · exact .inr (.inl h3)
  by_cases h4 : d.r = 62
  · exact .inr (.inr (.inl h4))
  exact .inr (.inr (.inr (this h2 h3 h4)))
 unfold anameR at h
 cases r with
 | nil => cases h
 | cons c t =>
  dsimp only at h;split at h
  · exact key _ h
  exact key _ h
theorem end151 {u : List Ch} (fs : Fs) (E : List At) (a : Int) (an : jl) (hE : Uniq E) (h : blk d.r = true \/ d.r = 47 \/ d.r = 62 \/ d.r = 61) : tot auto N (d :: u) (tm fo sc kind f nm 151 fs E a an [] false) = tot auto N (d :: u) (tm fo sc kind f nm 148 (fs ++ dups E an a) E a an [] (!dup E an)) := by
 refine tot_same rfl rfl ?_
 show Mc.name _ d = Mc.afterName _ d
 have hen : ({ (tm fo sc kind f nm 151 fs E a an [] false).endName with st := 148 } : Mc) = tm fo sc kind f nm 148 (fs ++ dups E an a) E a an [] (!dup E an) := by
  rw [dups_is hE];unfold Mc.endName;have hh : (tm fo sc kind f nm 151 fs E a an [] false).has = dup E an := rfl;rw [hh];cases dup E an with
  | true => rfl
  | false => simp [tm]
 unfold Mc.name Mc.inName
 by_cases h3 : blk d.r = true \/ d.r = 47 \/ d.r = 62
 · rw [jp h3,hen]
   unfold Mc.afterEnd Mc.afterName;by_cases hb : blk d.r = true
   · rw [jp hb,jp hb]
   rw [jq hb,jq hb];by_cases h47 : d.r = 47
   · rw [jp h47,jp h47]
   have h62 : d.r = 62 := by
    rcases h3 with e | e | e
    · exact absurd e hb
    · exact absurd e h47
    exact e
   have h61 : ¬ d.r = 61 := by omega
   rw [jq h47,jq h47,jq h61,jq h61,jp h62,jp h62]
 have h61 : d.r = 61 := by
  rcases h with e | e | e | e
  · exact absurd (.inl e) h3
  · exact absurd (.inr (.inl e)) h3
  · exact absurd (.inr (.inr e)) h3
  exact e
 rw [jq h3,jp h61]
 unfold Mc.afterName
 rw [jq (fun e => h3 (.inl e)),jq (by omega),jp h61,<- hen]
theorem attr_eq (hk : kind = 2 \/ kind = 3) {c : Ch} {t : List Ch} (fs : Fs) (A : List At) (a : Int) (an av : jl) (cnt : Bool) (hE : Uniq (eff A an av cnt)) (hb : blk c.r = false) (h47 : c.r ≠ 47) (h62 : c.r ≠ 62) (hpos : ∀ d ∈ t,0 <= d.r) :
 (∃ A' a' an' av' cnt',eff A' an' av' cnt' = addA (eff A an av cnt) (attrR N (eff A an av cnt) fs (c :: t)) /\ tot auto N (c :: t) (tm fo sc kind f nm 119 fs A a an av cnt) = tot auto N (attrR N (eff A an av cnt) fs (c :: t)).2.2.2 (tm fo sc kind f nm 119 (attrR N (eff A an av cnt) fs (c :: t)).2.2.1 A' a' an' av' cnt')) /\ (attrR N (eff A an av cnt) fs (c :: t)).2.2.2 <:+ t /\ Uniq (addA (eff A an av cnt) (attrR N (eff A an av cnt) fs (c :: t))) := by
 have hs := aname_suf (t := t) fs hb h47 h62
 have hst : ∀ d u,(anameR fs (c :: t)).2.2 = d :: u -> blk d.r = true \/ d.r = 47 \/ d.r = 62 \/ d.r = 61 := fun d u h => aname_stop fs h
 rw [aname_eq fs A a an av cnt hb h47 h62]
 obtain ⟨E,hEe⟩ := ex (eff A an av cnt)
 rw [hEe] at hE |-
 obtain ⟨p,hp⟩ := ex (anameR fs (c :: t))
 rw [hp] at hs hst |-
 have hat : frN N (c :: t) = c.a := rfl
 have hun : Uniq (addA E (attrR N E fs (c :: t))) := uniq_add hE _ fun h => by
  unfold attrR at h |-;dsimp only at h |-;rw [hp] at h |-;split at h
  · cases h
  next h0 =>
  rw [jq h0];split at h
  · next h1 => rw [jp h1];simpa using h
  next h1 => rw [jq h1];simpa using h
 refine ⟨?_,?_,hun⟩
 · unfold attrR
   dsimp only;rw [hp,hat];cases hp2 : p.2.2 with
   | nil =>
    simp only [if_true];refine ⟨E,c.a,p.1,[],false,?_,?_⟩
    · simp [eff,addA]
    rw [tot_nil,tot_nil]
   | cons d u =>
    rw [hp2] at hs;simp only [reduceCtorEq,if_false];rw [end151 p.2.1 E c.a p.1 hE (hst d u hp2)];by_cases h61 : hd (skipB (d :: u)) = 61
    · simp only [jp h61]
      obtain ⟨i1,i2⟩ := value_eq (auto := auto) (fo := fo) (N := N) (sc := sc) (f := f) (nm := nm) hk (skipB (d :: u)).tail (p.2.1 ++ dups E p.1 c.a) E c.a p.1 (!dup E p.1) (suf_pos (((List.tail_suffix _).trans (skip_suf _)).trans hs) hpos);rw [eq148 _ _ _ _ _ _ h61,i1];refine ⟨E,c.a,p.1,_,!dup E p.1,?_,rfl⟩;unfold eff addA;cases dup E p.1 <;> simp
    simp only [jq h61];rw [head148 _ _ _ _ _ _ _ h61];refine ⟨E,c.a,p.1,[],!dup E p.1,?_,rfl⟩;unfold eff addA;cases dup E p.1 <;> simp
 unfold attrR
 dsimp only
 rw [hp]
 cases hp2 : p.2.2 with
 | nil => simp only [if_true];exact List.nil_suffix
 | cons d u =>
  rw [hp2] at hs;simp only [reduceCtorEq,if_false];by_cases h61 : hd (skipB (d :: u)) = 61
  · simp only [jp h61]
    exact (value_eq (auto := auto) (fo := fo) (N := N) (sc := sc) (f := f) (nm := nm) hk (skipB (d :: u)).tail (p.2.1 ++ dups E p.1 c.a) E c.a p.1 (!dup E p.1) (suf_pos (((List.tail_suffix _).trans (skip_suf _)).trans hs) hpos)).2.trans (((List.tail_suffix _).trans (skip_suf _)).trans hs)
  simp only [jq h61];exact hs
theorem endZ_at (h : c :: t <:+ F) : c.z = endZ F t := by
 obtain ⟨p,rfl⟩ := h
 unfold endZ Mc.toAt
 have : (p ++ c :: t).length - t.length - 1 = p.length := by simp;omega
 rw [this,List.getElem?_append_right (zb _),Nat.sub_self]
 rfl
theorem tag_loop {auto fo : Bool} {N : Int} {sc : Sc} {kind f : Int} {nm : jl} {F : List Ch} (hk : kind = 2 \/ kind = 3) (hcd : sc.cd = false) (hf : f = Mc.frAt F) : ∀ (n : Nat) (r : List Ch) (fs : Fs) (A : List At) (a : Int) (an av : jl) (cnt : Bool),r.length < n -> r <:+ F -> Uniq (eff A an av cnt) -> (∀ d ∈ r,0 <= d.r) ->
 tot auto N r (tm fo sc kind f nm 119 fs A a an av cnt) = cont auto fo N (tagE F kind nm sc (tagL N n (eff A an av cnt) false fs r))
 | 0,r,_,_,_,_,_,_,hl,_,_,_ => by omega
 | n + 1,r,fs,A,a,an,av,cnt,hl,hsuf,hE,hpos => by
  have hsk := skip_suf r;rw [skip119];unfold tagL;cases hr : skipB r with
  | nil =>
   dsimp only;rw [tot_nil];unfold tagE;rw [cont_nil,tot_clean]
  | cons c t =>
   rw [hr] at hsk;have hbf := skipB_hd hr;have hb : ¬ blk c.r = true := by rw [hbf];decide
   have hctF : c :: t <:+ F := hsk.trans hsuf;have htl : t.length < n := by have := hsk.length_le;simp at this;omega
   have htF : t <:+ F := (zl _ _).trans hctF;have htp : ∀ d ∈ t,0 <= d.r := suf_pos ((zl _ _).trans hsk) hpos;dsimp only;by_cases h62 : c.r = 62
   · rw [jp h62]
     unfold tagE;dsimp only;refine tot_tag (st := 148) (a := a) rfl ?_ hk hcd hf (endZ_at hctF);show Mc.beforeName _ c = _;unfold Mc.beforeName Mc.afterName;rw [jq hb,jp (.inr h62),jq hb,jq (by omega),jq (by omega),jp h62];rfl
   rw [jq h62];by_cases h47 : c.r = 47
   · rw [jp h47]
     have ht : (tm fo sc kind f nm 119 fs A a an av cnt).take c = tm fo sc kind f nm 120 fs A a an av cnt := by
      show Mc.beforeName _ c = _;unfold Mc.beforeName Mc.afterName;rw [jq hb,jp (.inl h47),jq hb,jp h47];rfl
     rw [tot_go rfl ht rfl];cases t with
     | nil =>
      rw [jq (by decide),jq (by simp),tot_nil,<- tag_loop hk hcd hf n [] fs A a an av cnt htl htF hE htp,tot_nil]
     | cons d u =>
      by_cases hd62 : d.r = 62
      · rw [jp (show hd (d :: u) = 62 from hd62)]
        obtain ⟨k,rfl⟩ : ∃ k,n = k + 1 := ⟨n - 1,by omega⟩;unfold tagL;have hsd : skipB (d :: u) = d :: u := by
         unfold skipB;rw [List.dropWhile_cons,show isB d = false by unfold isB;rw [hd62];decide];rfl
        rw [hsd];dsimp only;rw [jp hd62];unfold tagE;dsimp only;refine tot_tag (st := 120) (a := a) rfl ?_ hk hcd hf (endZ_at htF);show Mc.slash _ d = _;unfold Mc.slash;rw [jp hd62]
      rw [jq (show ¬ hd (d :: u) = 62 from hd62),jp (by simp),head120 _ _ _ _ _ _ _ hd62];exact tag_loop hk hcd hf n (d :: u) (fs ++ [(12,d.a)]) A a an av cnt htl htF hE htp
   rw [jq h47];obtain ⟨⟨A',a',an',av',cnt',e1,e2⟩,hs,hu⟩ := attr_eq (auto := auto) (fo := fo) (N := N) (sc := sc) (f := f) (nm := nm) hk fs A a an av cnt hE hbf h47 h62 htp;rw [e2,<- e1];rw [<- e1] at hu;exact tag_loop hk hcd hf n _ _ A' a' an' av' cnt' (by have := hs.length_le;omega) (hs.trans htF) hu (suf_pos hs htp)
theorem tag_eq (hk : kind = 2 \/ kind = 3) (hcd : sc.cd = false) (hf : f = Mc.frAt F) (hsuf : r <:+ F) (hpos : ∀ d ∈ r,0 <= d.r) : tot auto N r (tm fo sc kind f [] 81 sc.fs [] 0 [] [] false) = cont auto fo N (tagR N F kind sc r) := by
 rw [name81,List.nil_append]
 unfold tagR
 have hs : r.dropWhile nmC <:+ r := List.dropWhile_suffix _
 have h0 : tot auto N (r.dropWhile nmC) (tm fo sc kind f (lows (r.takeWhile nmC)) 81 sc.fs [] 0 [] [] false) = tot auto N (r.dropWhile nmC) (tm fo sc kind f (lows (r.takeWhile nmC)) 119 sc.fs [] 0 [] [] false) := by
  cases hr : r.dropWhile nmC with
  | nil => rw [tot_nil,tot_nil]
  | cons c t =>
   refine head81 t _ _ _ _ _ _ ?_;have := List.head?_dropWhile_not nmC r;rw [hr] at this;simp only [List.head?_cons] at this;unfold nmC at this;simp at this;by_cases h1 : blk c.r = true
   · exact .inl h1
   by_cases h2 : c.r = 47
   · exact .inr (.inl h2)
   exact .inr (.inr (this (by simpa using h1) h2))
 rw [h0]
 exact tag_loop hk hcd hf _ _ sc.fs [] 0 [] [] false (Nat.lt_succ_self _) (hs.trans hsuf) (by simp [Uniq,eff]) (suf_pos hs hpos)
theorem enc_all {r : Int} (h : ¬ (0 <= r /\ r < 128)) : enc r ≠ [] /\ ∀ b ∈ enc r,128 <= b.toNat := by
 have hc : 128 <= G9.chr r /\ G9.chr r <= 1114111 /\ (G9.chr r < 55296 \/ 57343 < G9.chr r) := by
  unfold G9.chr;split
  · next hm =>
    unfold G9.mayB at hm;simp at hm;omega
  omega
 unfold enc Lib.encodeRune
 generalize G9.chr r = q at hc
 have key : ∀ x : Int,128 <= x -> x < 256 -> 128 <= (x.toNat.toUInt8).toNat := fun x h1 h2 => by
  have : x.toNat % 256 = x.toNat := Nat.mod_eq_of_lt (by omega);simp only [Nat.toUInt8,UInt8.toNat_ofNat'];omega
 have all : ∀ l : List Int,l ≠ [] -> (∀ x ∈ l,128 <= x /\ x < 256) -> l.map (fun x => x.toNat.toUInt8) ≠ [] /\ ∀ b ∈ l.map (fun x => x.toNat.toUInt8),128 <= b.toNat := fun l h0 h => ⟨by simpa using h0,fun b hb => by
  obtain ⟨x,hx,rfl⟩ := List.mem_map.1 hb
  exact key x (h x hx).1 (h x hx).2⟩
 by_cases h2 : q <= 2047
 · rw [Lib.encodeRuneZ_two hc.1 h2]
   exact all _ (by simp) fun x hx => by simp at hx;rcases hx with rfl | rfl <;> omega
 by_cases h3 : q <= 65535
 · rw [Lib.encodeRuneZ_three (by omega)]
   exact all _ (by simp) fun x hx => by simp at hx;rcases hx with rfl | rfl | rfl <;> omega
 rw [Lib.encodeRuneZ_four (by omega) hc.2.1]
 exact all _ (by simp) fun x hx => by simp at hx;rcases hx with rfl | rfl | rfl | rfl <;> omega
theorem enc_is {r : Int} (h0 : 0 <= r) (hb : b.toNat < 128) : enc r = [b] ↔ r = (b.toNat : Int) := by
 constructor
 · intro h
   by_cases hr : r < 128
   · rw [enc_low h0 hr] at h
     have h := (List.cons.inj h).1;have e := (wc_byte (c := ⟨r,0,0⟩) h0 hr).2;unfold byt at e;simp only at e;rw [h] at e;omega
   obtain ⟨_,h2⟩ := enc_all (r := r) (by omega);have := h2 b (by rw [h];simp);omega
 intro h
 rw [enc_low h0 (by omega),h]
 simp
def cm (fo : Bool) (sc : Sc) (f : Int) (st en : Nat) (tx : jl) (fs : Fs) : Mc := ⟨st,en,sc.text,fo,sc.last,[],[],4,f,[],tx,false,[],0,[],[],false,[],fs⟩
theorem tot_made {en : Nat} {tx : jl} (hr : m0.ref = []) (h : m0.take c = (cm fo sc f st en tx fs).tellMade c.z) (hcd : sc.cd = false) (hf : f = Mc.frAt F) (hz : c :: t <:+ F) :
 tot auto N (c :: t) m0 = cont auto fo N (comT F tx t,{ sc with fs := fs },t) := by
 rw [tot_say hr h (by simp [cm,Mc.tellMade,Mc.tell,Mc.toData,Mc.noMade,Mc.madePt])]
 unfold cont comT
 dsimp only
 rw [autoSc_none auto (by simp),<- hf,<- endZ_at hz]
 unfold clean
 simp only [hcd]
 rfl
theorem made_end (tx : jl) (fs : Fs) (hf : f = Mc.frAt F) (hN : endZ F [] = N) : (([⟨4,0,bs [],bs tx,[],false,f,N⟩] : List Pt) ++ [eofP6 N],fs) = cont auto fo N (comT F tx [],{ sc with fs := fs },[]) := by
 unfold cont comT
 dsimp only
 rw [autoSc_none auto (by simp),tot_clean,hN,<- hf]
 rfl
theorem bogus_eq {auto fo : Bool} {N : Int} {sc : Sc} {f : Int} {F : List Ch} (fs : Fs) (hcd : sc.cd = false) (hf : f = Mc.frAt F) (hN : endZ F [] = N) : ∀ (r : List Ch) (tx : jl),r <:+ F ->
 tot auto N r (cm fo sc f 147 146 tx fs) = cont auto fo N (comT F (tx ++ encs (r.takeWhile isG)) (r.dropWhile isG).tail,{ sc with fs := fs },(r.dropWhile isG).tail)
 | [],tx,_ => by
  rw [tot_end rfl];have := made_end (auto := auto) (fo := fo) (sc := sc) tx fs hf hN;simp only [List.takeWhile_nil,List.dropWhile_nil,List.tail_nil];have e : encs [] = [] := rfl;rw [e,zu,<- this];rfl
 | c :: t,tx,hs => by
  by_cases h62 : c.r = 62
  · have hg : isG c = false := by unfold isG;simp [h62]
    rw [List.dropWhile_cons,List.takeWhile_cons,hg];simp only [Bool.false_eq_true,if_false,List.tail_cons];have e : encs [] = [] := rfl;rw [e,zu];refine tot_made (st := 147) (en := 146) rfl ?_ hcd hf hs;show Mc.inBogus _ c = _;unfold Mc.inBogus;rw [jp h62]
  have hg : isG c = true := by unfold isG;simp [h62]
  have ht : (cm fo sc f 147 146 tx fs).take c = cm fo sc f 147 146 (tx ++ enc c.r) fs := by
   show Mc.inBogus _ c = _;unfold Mc.inBogus;rw [jq h62];rfl
  rw [tot_go rfl ht rfl,bogus_eq fs hcd hf hN t _ ((zl _ _).trans hs),List.dropWhile_cons,List.takeWhile_cons,hg];simp [encs]
def NoDash (s : jl) : Prop := s.getLast? ≠ some 45
def CutOk (s : jl) : Prop := NoDash s /\ ¬ [45,45,33] <:+ s
theorem suf_last (h : p ++ [b] <:+ s) : s.getLast? = some b := by
 obtain ⟨q,rfl⟩ := h
 rw [<- List.append_assoc]
 simp
theorem isSuf_iff : p.isSuffixOf s = true ↔ p <:+ s := List.isSuffixOf_iff_suffix
theorem cut_ok (h : CutOk s) : cutR s = s := by
 unfold cutR
 rw [jq (fun e => h.2 (isSuf_iff.1 e)),jq (show ¬ [45,45].isSuffixOf s = true from fun e => h.1 (suf_last (p := [45]) (isSuf_iff.1 e))),jq (show ¬ [45].isSuffixOf s = true from fun e => h.1 (suf_last (p := []) (isSuf_iff.1 e)))]
theorem cut_1 (h : NoDash s) : cutR (s ++ [45]) = s := by
 unfold cutR
 have h1 : ¬ [45,45,33].isSuffixOf (s ++ [45]) = true := fun e => by
  have := suf_last (p := [45,45]) (isSuf_iff.1 e);simp at this
 have h2 : ¬ [45,45].isSuffixOf (s ++ [45]) = true := fun e => by
  obtain ⟨q,hq⟩ := isSuf_iff.1 e;have : (q ++ [45]) ++ [45] = s ++ [45] := by simpa using hq
  have := List.append_cancel_right this;exact h (by rw [<- this];simp)
 have h3 : [45].isSuffixOf (s ++ [45]) = true := isSuf_iff.2 (List.suffix_append _ _)
 rw [jq h1,jq h2,jp h3]
 simp
theorem cut_2 (s : jl) : cutR (s ++ [45,45]) = s := by
 unfold cutR
 have h1 : ¬ [45,45,33].isSuffixOf (s ++ [45,45]) = true := fun e => by
  have := suf_last (p := [45,45]) (isSuf_iff.1 e);simp at this
 have h2 : [45,45].isSuffixOf (s ++ [45,45]) = true := isSuf_iff.2 (List.suffix_append _ _)
 rw [jq h1,jp h2]
 simp
theorem cut_3 (s : jl) : cutR (s ++ [45,45,33]) = s := by
 unfold cutR
 have h1 : [45,45,33].isSuffixOf (s ++ [45,45,33]) = true := isSuf_iff.2 (List.suffix_append _ _)
 rw [jp h1]
 simp
theorem last_enc {r : Int} (h0 : 0 <= r) (hb : b.toNat < 128) (h : (s ++ enc r).getLast? = some b) : r = (b.toNat : Int) := by
 have hne : enc r ≠ [] := by
  by_cases hr : r < 128
  · rw [enc_low h0 hr];simp
  exact (enc_all (r := r) (by omega)).1
 have h2 : (enc r).getLast? = some b := by
  rw [List.getLast?_append] at h;cases e : (enc r).getLast? with
  | none => exact absurd (List.getLast?_eq_none_iff.1 e) hne
  | some x => rw [e] at h;simpa using h
 by_cases hr : r < 128
 · rw [enc_low h0 hr] at h2
   have h2 : (r.toNat.toUInt8) = b := by simpa using h2
   have e := (wc_byte (c := ⟨r,0,0⟩) h0 hr).2;unfold byt at e;simp only at e;rw [h2] at e;omega
 have := (enc_all (r := r) (by omega)).2 b (List.mem_of_getLast? h2)
 omega
theorem cutOk_add {r : Int} (h0 : 0 <= r) (h : r ≠ 45) (hs : r = 33 -> ¬ [45,45] <:+ s) : CutOk (s ++ enc r) := by
 refine ⟨fun e => h (last_enc h0 (by decide) e),fun e => ?_⟩
 have h33 : r = 33 := last_enc h0 (by decide) (suf_last (p := [45,45]) e)
 refine hs h33 ?_
 have he : enc r = [33] := (enc_is h0 (by decide)).2 h33
 rw [he] at e
 obtain ⟨q,hq⟩ := e
 have : (q ++ [45,45]) ++ [33] = s ++ [33] := by simpa using hq
 exact ⟨q,List.append_cancel_right this⟩
theorem isW_cons {w : jl} (hb : b.toNat < 128) (h0 : 0 <= c.r) : isW false (b :: w) (c :: t) = (decide (c.r = (b.toNat : Int)) && isW false w t) := by
 show (decide ((if false = true then _ else enc c.r) = [b]) && _) = _
 simp only [Bool.false_eq_true,if_false,enc_is h0 hb]
theorem isW_no (b : UInt8) {w : jl} {c : Ch} {t : List Ch} (hb : b.toNat < 128) (h0 : 0 <= c.r) (h : c.r ≠ (b.toNat : Int)) : isW false (b :: w) (c :: t) = false := by
 rw [isW_cons hb h0,zn h,Bool.false_and]
theorem isW_yes (b : UInt8) {w : jl} {c : Ch} {t : List Ch} (hb : b.toNat < 128) (h0 : 0 <= c.r) (h : c.r = (b.toNat : Int)) : isW false (b :: w) (c :: t) = isW false w t := by
 rw [isW_cons hb h0,zm h,Bool.true_and]
theorem comR_else (h1 : isW false [45,45,62] (c :: t) = false) (h2 : isW false [45,45,33,62] (c :: t) = false) : comR N F sc s (c :: t) = comR N F sc (s ++ enc c.r) t := by
 conv => lhs;unfold comR
 rw [h1,h2]
 simp
theorem comR_plain (h0 : 0 <= c.r) (h : c.r ≠ 45) : comR N F sc s (c :: t) = comR N F sc (s ++ enc c.r) t :=
 comR_else (isW_no 45 (by decide) h0 h) (isW_no 45 (by decide) h0 h)
theorem comR_one (hd : d.r = 45) (h0 : 0 <= c.r) (h : c.r ≠ 45) : comR N F sc s (d :: c :: t) = comR N F sc (s ++ [45]) (c :: t) := by
 have e : enc d.r = [45] := (enc_is (by omega) (by decide)).2 hd
 rw [comR_else (by rw [isW_yes 45 (by decide) (by omega) hd];exact isW_no 45 (by decide) h0 h) (by rw [isW_yes 45 (by decide) (by omega) hd];exact isW_no 45 (by decide) h0 h),e]
theorem comR_end1 (hd : d.r = 45) : comR N F sc s [d] = comR N F sc (s ++ [45]) [] := by
 have e : enc d.r = [45] := (enc_is (by omega) (by decide)).2 hd
 rw [comR_else (by rw [isW_yes 45 (by decide) (by omega) hd];rfl) (by rw [isW_yes 45 (by decide) (by omega) hd];rfl),e]
theorem comR_two (h1 : d1.r = 45) (h2 : d2.r = 45) (h : ∀ c t,r = c :: t -> 0 <= c.r /\ c.r ≠ 62 /\ c.r ≠ 33) : comR N F sc s (d1 :: d2 :: r) = comR N F sc (s ++ [45]) (d2 :: r) := by
 have e : enc d1.r = [45] := (enc_is (by omega) (by decide)).2 h1
 cases r with
 | nil => rw [comR_else (by rw [isW_yes 45 (by decide) (by omega) h1,isW_yes 45 (by decide) (by omega) h2];rfl) (by rw [isW_yes 45 (by decide) (by omega) h1,isW_yes 45 (by decide) (by omega) h2];rfl),e]
 | cons c t =>
  obtain ⟨g0,g1,g2⟩ := h c t rfl;rw [comR_else (by rw [isW_yes 45 (by decide) (by omega) h1,isW_yes 45 (by decide) (by omega) h2];exact isW_no 62 (by decide) g0 g1) (by rw [isW_yes 45 (by decide) (by omega) h1,isW_yes 45 (by decide) (by omega) h2];exact isW_no 33 (by decide) g0 g2),e]
theorem comR_three {e : Ch} (h1 : d1.r = 45) (h2 : d2.r = 45) (h3 : e.r = 33) (h : ∀ c t,r = c :: t -> 0 <= c.r /\ c.r ≠ 62) : comR N F sc s (d1 :: d2 :: e :: r) = comR N F sc (s ++ [45,45,33]) r := by
 have e1 : enc d1.r = [45] := (enc_is (by omega) (by decide)).2 h1
 have e3 : enc e.r = [33] := (enc_is (by omega) (by decide)).2 h3
 have w1 : isW false [45,45,62] (d1 :: d2 :: e :: r) = false := by
  rw [isW_yes 45 (by decide) (by omega) h1,isW_yes 45 (by decide) (by omega) h2];exact isW_no 62 (by decide) (by omega) (by rw [h3];decide)
 have w2 : isW false [45,45,33,62] (d1 :: d2 :: e :: r) = false := by
  rw [isW_yes 45 (by decide) (by omega) h1,isW_yes 45 (by decide) (by omega) h2,isW_yes 33 (by decide) (by omega) h3];cases r with
  | nil => rfl
  | cons c t => exact isW_no 62 (by decide) (h c t rfl).1 (h c t rfl).2
 rw [comR_else w1 w2,e1,comR_one h2 (by omega) (by omega),comR_plain (by omega) (by omega),e3]
 simp
theorem com_eq {auto fo : Bool} {N : Int} {sc : Sc} {f : Int} {F : List Ch} (hcd : sc.cd = false) (hf : f = Mc.frAt F) (hN : endZ F [] = N) (hF : ∀ d ∈ F,0 <= d.r) : ∀ (r : List Ch) (s : jl),
 (r <:+ F -> CutOk s -> tot auto N r (cm fo sc f 142 108 s sc.fs) = cont auto fo N (comR N F sc s r)) /\
 (∀ d : Ch,d.r = 45 -> d :: r <:+ F -> NoDash s -> tot auto N r (cm fo sc f 166 108 s sc.fs) = cont auto fo N (comR N F sc s (d :: r))) /\
 (∀ d1 d2 : Ch,d1.r = 45 -> d2.r = 45 -> d1 :: d2 :: r <:+ F -> tot auto N r (cm fo sc f 164 108 s sc.fs) = cont auto fo N (comR N F sc s (d1 :: d2 :: r))) /\
 (∀ d1 d2 e : Ch,d1.r = 45 -> d2.r = 45 -> e.r = 33 -> d1 :: d2 :: e :: r <:+ F -> tot auto N r (cm fo sc f 178 108 s sc.fs) = cont auto fo N (comR N F sc s (d1 :: d2 :: e :: r)))
 | [],s => by
  have fin : ∀ (st : Nat) (u : jl),cutR u = s -> tot auto N [] (cm fo sc f st 108 s sc.fs) = cont auto fo N (comR N F sc u []) := fun st u hu => by
   rw [tot_end rfl];have := made_end (auto := auto) (fo := fo) (sc := sc) (cutR u) (sc.fs ++ [(16,N)]) hf hN;rw [hu] at this;show _ = cont auto fo N (comT F (cutR u) [],_,[]);rw [hu,<- this];rfl
  refine ⟨fun _ h => fin 142 s (cut_ok h),fun d hd _ h => ?_,fun d1 d2 h1 h2 _ => ?_,fun d1 d2 e h1 h2 h3 _ => ?_⟩
  · rw [comR_end1 hd]
    exact fin 166 _ (cut_1 h)
  · rw [comR_two h1 h2 (fun c t e => by cases e),comR_end1 h2,List.append_assoc]
    exact fin 164 _ (cut_2 s)
  rw [comR_three h1 h2 h3 (fun c t e => by cases e)];exact fin 178 _ (cut_3 s)
 | c :: t,s => by
  have ih := com_eq (auto := auto) (fo := fo) hcd hf hN hF t;have pos : ∀ l : List Ch,l ++ c :: t <:+ F -> 0 <= c.r := fun l hl => hF c (hl.subset (by simp))
  -- a character that is taken as it is
  have plain : ∀ (u : jl),c :: t <:+ F -> c.r ≠ 45 -> CutOk (u ++ enc c.r) -> tot auto N (c :: t) (cm fo sc f 142 108 u sc.fs) = cont auto fo N (comR N F sc u (c :: t)) := fun u hs h45 hok => by
   have h0 := pos [] hs;have ht : (cm fo sc f 142 108 u sc.fs).take c = cm fo sc f 142 108 (u ++ enc c.r) sc.fs := by
    show Mc.comment _ c = _;unfold Mc.comment;rw [jq h45];rfl
   rw [tot_go rfl ht rfl,comR_plain h0 h45];exact (ih (u ++ enc c.r)).1 ((zl _ _).trans hs) hok
  refine ⟨fun hs hok => ?_,fun d hd hs hnd => ?_,fun d1 d2 h1 h2 hs => ?_,fun d1 d2 e h1 h2 h3 hs => ?_⟩
  · by_cases h45 : c.r = 45
    · have ht : (cm fo sc f 142 108 s sc.fs).take c = cm fo sc f 166 108 s sc.fs := by
       show Mc.comment _ c = _;unfold Mc.comment;rw [jp h45];rfl
      rw [tot_go rfl ht rfl];exact (ih s).2.1 c h45 hs hok.1
    exact plain s hs h45 (cutOk_add (pos [] hs) h45 fun _ h => hok.1 (suf_last (p := [45]) h))
  · have hs1 : c :: t <:+ F := (zl _ _).trans hs
    have h0 := pos [] hs1;by_cases h45 : c.r = 45
    · have ht : (cm fo sc f 166 108 s sc.fs).take c = cm fo sc f 164 108 s sc.fs := by
       show Mc.comDash _ c = _;unfold Mc.comDash;rw [jp h45];rfl
      rw [tot_go rfl ht rfl];exact (ih s).2.2.1 d c hd h45 hs
    have ht : (cm fo sc f 166 108 s sc.fs).take c = (cm fo sc f 142 108 (s ++ [45]) sc.fs).take c := by
     show Mc.comDash _ c = Mc.comment _ c;unfold Mc.comDash;rw [jq h45];rfl
    rw [tot_same rfl rfl ht,comR_one hd h0 h45];refine plain _ hs1 h45 (cutOk_add h0 h45 fun _ h => ?_);obtain ⟨q,hq⟩ := h;have : (q ++ [45]) ++ [45] = s ++ [45] := by simpa using hq
    have := List.append_cancel_right this;exact hnd (by rw [<- this];simp)
  · have hs1 : c :: t <:+ F := ((zl _ _).trans (zl _ _)).trans hs
    have h0 := pos [] hs1;by_cases h62 : c.r = 62
    · have hw : isW false [45,45,62] (d1 :: d2 :: c :: t) = true := by
       rw [isW_yes 45 (by decide) (by omega) h1,isW_yes 45 (by decide) (by omega) h2,isW_yes 62 (by decide) h0 h62];rfl
      have he : comR N F sc s (d1 :: d2 :: c :: t) = (comT F s t,sc,t) := by
       unfold comR;rw [jp hw];rfl
      rw [he];refine tot_made (st := 164) (en := 108) rfl ?_ hcd hf hs1;show Mc.comEnd _ c = _;unfold Mc.comEnd;rw [jp h62]
    by_cases h33 : c.r = 33
    · have ht : (cm fo sc f 164 108 s sc.fs).take c = cm fo sc f 178 108 s sc.fs := by
       show Mc.comEnd _ c = _;unfold Mc.comEnd;rw [jq h62,jp h33];rfl
      rw [tot_go rfl ht rfl];exact (ih s).2.2.2 d1 d2 c h1 h2 h33 hs
    rw [comR_two h1 h2 (fun c' t' e => by cases e;exact ⟨h0,h62,h33⟩)];by_cases h45 : c.r = 45
    · have ht : (cm fo sc f 164 108 s sc.fs).take c = cm fo sc f 164 108 (s ++ [45]) sc.fs := by
       show Mc.comEnd _ c = _;unfold Mc.comEnd;rw [jq h62,jq h33,jp h45];rfl
      rw [tot_go rfl ht rfl];exact (ih (s ++ [45])).2.2.1 d2 c h2 h45 ((zl _ _).trans hs)
    have ht : (cm fo sc f 164 108 s sc.fs).take c = (cm fo sc f 142 108 (s ++ [45,45]) sc.fs).take c := by
     show Mc.comEnd _ c = Mc.comment _ c;unfold Mc.comEnd;rw [jq h62,jq h33,jq h45];rfl
    rw [tot_same rfl rfl ht,comR_one h2 h0 h45,List.append_assoc];exact plain _ hs1 h45 (cutOk_add h0 h45 fun h => absurd h h33)
  have hs1 : c :: t <:+ F := (((zl _ _).trans (zl _ _)).trans (zl _ _)).trans hs;have h0 := pos [] hs1;by_cases h62 : c.r = 62
  · have w1 : isW false [45,45,62] (d1 :: d2 :: e :: c :: t) = false := by
     rw [isW_yes 45 (by decide) (by omega) h1,isW_yes 45 (by decide) (by omega) h2];exact isW_no 62 (by decide) (by omega) (by rw [h3];decide)
    have w2 : isW false [45,45,33,62] (d1 :: d2 :: e :: c :: t) = true := by
     rw [isW_yes 45 (by decide) (by omega) h1,isW_yes 45 (by decide) (by omega) h2,isW_yes 33 (by decide) (by omega) h3,isW_yes 62 (by decide) h0 h62];rfl
    have he : comR N F sc s (d1 :: d2 :: e :: c :: t) = (comT F s t,{ sc with fs := sc.fs ++ [(15,c.a)] },t) := by
     unfold comR;rw [jq (by rw [w1];decide),jp w2];rfl
    rw [he];refine tot_made (st := 178) (en := 108) rfl ?_ hcd hf hs1;show Mc.comBang _ c = _;unfold Mc.comBang;rw [jq (by omega),jp h62];rfl
  rw [comR_three h1 h2 h3 (fun c' t' e => by cases e;exact ⟨h0,h62⟩)];by_cases h45 : c.r = 45
  · have ht : (cm fo sc f 178 108 s sc.fs).take c = cm fo sc f 166 108 (s ++ [45,45,33]) sc.fs := by
     show Mc.comBang _ c = _;unfold Mc.comBang;rw [jp h45];rfl
    rw [tot_go rfl ht rfl];exact (ih _).2.1 c h45 hs1 (by unfold NoDash;simp)
  have ht : (cm fo sc f 178 108 s sc.fs).take c = (cm fo sc f 142 108 (s ++ [45,45,33]) sc.fs).take c := by
   show Mc.comBang _ c = Mc.comment _ c;unfold Mc.comBang;rw [jq h45,jq h62];rfl
  rw [tot_same rfl rfl ht];refine plain _ hs1 h45 (cutOk_add h0 h45 fun _ h => ?_);have := suf_last (p := [45]) h;simp at this
theorem text_eq (hcd : sc.cd = false) (hf : f = Mc.frAt F) (hN : endZ F [] = N) (hF : ∀ d ∈ F,0 <= d.r) (hs : r <:+ F) : tot auto N r (cm fo sc f 109 108 [] sc.fs) = cont auto fo N (textR N F sc r) := by
 have ce := com_eq (auto := auto) (fo := fo) (N := N) (sc := sc) (F := F) hcd hf hN hF
 have ok0 : CutOk [] := ⟨by unfold NoDash;simp,by simp⟩
 unfold textR
 cases r with
 | nil =>
  rw [jq (by decide),jq (by decide)];rw [<- (ce [] []).1 hs ok0,tot_end rfl,tot_end rfl];rfl
 | cons c t =>
  have h0 := hF c (hs.subset (by simp));by_cases h62 : c.r = 62
  · rw [jp (by rw [isW_yes 62 (by decide) h0 h62];rfl)]
    refine tot_made (st := 109) (en := 108) rfl ?_ hcd hf hs;show Mc.comStart _ c = _;unfold Mc.comStart;rw [jq (by omega),jp h62];rfl
  rw [jq (by rw [isW_no 62 (by decide) h0 h62];decide)];by_cases h45 : c.r = 45
  · have ht : (cm fo sc f 109 108 [] sc.fs).take c = cm fo sc f 140 108 [] sc.fs := by
     show Mc.comStart _ c = _;unfold Mc.comStart;rw [jp h45];rfl
    rw [tot_go rfl ht rfl];cases t with
    | nil =>
     rw [jq (by rw [isW_yes 45 (by decide) h0 h45];decide),<- (ce [] []).2.1 c h45 hs ok0.1,tot_end rfl,tot_end rfl];rfl
    | cons d u =>
     have hs1 : d :: u <:+ F := (zl _ _).trans hs;have d0 := hF d (hs1.subset (by simp));by_cases hd62 : d.r = 62
     · rw [jp (by rw [isW_yes 45 (by decide) h0 h45,isW_yes 62 (by decide) d0 hd62];rfl)]
       refine tot_made (st := 140) (en := 108) rfl ?_ hcd hf hs1;show Mc.comStartDash _ d = _;unfold Mc.comStartDash;rw [jq (by omega),jp hd62];rfl
     rw [jq (by rw [isW_yes 45 (by decide) h0 h45,isW_no 62 (by decide) d0 hd62];decide),<- (ce (d :: u) []).2.1 c h45 hs ok0.1];refine tot_same rfl rfl ?_;show Mc.comStartDash _ d = Mc.comDash _ d;unfold Mc.comStartDash Mc.comDash;by_cases hd45 : d.r = 45
     · rw [jp hd45,jp hd45];rfl
     rw [jq hd45,jq hd45,jq hd62];rfl
  rw [jq (by rw [isW_no 45 (by decide) h0 h45];decide),<- (ce (c :: t) []).1 hs ok0];refine tot_same rfl rfl ?_;show Mc.comStart _ c = Mc.comment _ c;unfold Mc.comStart;rw [jq h45,jq h62];rfl
def dm (fo : Bool) (sc : Sc) (f : Int) (st : Nat) (nm : jl) (sf : Bool) (fs : Fs) : Mc := ⟨st,111,sc.text,fo,sc.last,[],[],5,f,nm,[],sf,[],0,[],[],false,[],fs⟩
theorem tot_doc (hr : m0.ref = []) (h : m0.take c = (dm fo sc f st nm sf fs).tellMade c.z) (hcd : sc.cd = false) (hf : f = Mc.frAt F) (hz : c :: t <:+ F) :
 tot auto N (c :: t) m0 = cont auto fo N (docT F nm sf t,{ sc with fs := fs },t) := by
 rw [tot_say hr h (by simp [dm,Mc.tellMade,Mc.tell,Mc.toData,Mc.noMade,Mc.madePt])]
 unfold cont docT
 dsimp only
 rw [autoSc_none auto (by simp),<- hf,<- endZ_at hz]
 unfold clean
 simp only [hcd]
 rfl
theorem doc_end (st : Nat) (nm : jl) (sf : Bool) (fs : Fs) (hf : f = Mc.frAt F) (hN : endZ F [] = N) : tot auto N [] (dm fo sc f st nm sf fs) = cont auto fo N (docT F nm true [],{ sc with fs := fs ++ [(17,N)] },[]) := by
 rw [tot_end rfl]
 unfold cont docT
 dsimp only
 rw [autoSc_none auto (by simp),tot_clean,hN,<- hf]
 rfl
def docD (N : Int) (F : List Ch) (sc : Sc) (nm : jl) (f1 : Bool × Fs) (r2 : List Ch) : List Pt × Sc × List Ch :=
 let f2 : Bool × Fs := if r2 ≠ [] /\ hd r2 ≠ 62 then (true,f1.2 ++ [(17,frN N r2)]) else f1
 let r3 := r2.dropWhile isG
 let f3 : Bool × Fs := if r3 = [] then (true,f2.2 ++ [(17,N)]) else f2
 (docT F nm f3.1 r3.tail,{ sc with fs := f3.2 },r3.tail)
theorem docR_is (N : Int) (F : List Ch) (sc : Sc) (r : List Ch) : docR N F sc r = docD N F sc (lows ((skipB r).takeWhile dnC)) (if hd (skipB r) = 62 then (true,sc.fs ++ [(17,frN N (skipB r))]) else (false,sc.fs)) (skipB ((skipB r).dropWhile dnC)) := rfl
theorem bog180 {auto fo : Bool} {N : Int} {sc : Sc} {f : Int} {F : List Ch} (nm : jl) (fs : Fs) (hcd : sc.cd = false) (hf : f = Mc.frAt F) (hN : endZ F [] = N) : ∀ r : List Ch,r <:+ F ->
 tot auto N r (dm fo sc f 180 nm true fs) = cont auto fo N (docT F nm true (r.dropWhile isG).tail,{ sc with fs := if r.dropWhile isG = [] then fs ++ [(17,N)] else fs },(r.dropWhile isG).tail)
 | [],_ => by
  rw [doc_end 180 nm true fs hf hN];rfl
 | c :: t,hs => by
  by_cases h62 : c.r = 62
  · have hg : isG c = false := by unfold isG;simp [h62]
    rw [List.dropWhile_cons,hg];simp only [Bool.false_eq_true,if_false,List.tail_cons,reduceCtorEq];refine tot_doc (st := 180) rfl ?_ hcd hf hs;show Mc.bogusDoc _ c = _;unfold Mc.bogusDoc;rw [jp h62]
  have hg : isG c = true := by unfold isG;simp [h62]
  have ht : (dm fo sc f 180 nm true fs).take c = dm fo sc f 180 nm true fs := by
   show Mc.bogusDoc _ c = _;unfold Mc.bogusDoc;rw [jq h62]
  rw [tot_go rfl ht rfl,bog180 nm fs hcd hf hN t ((zl _ _).trans hs),List.dropWhile_cons,hg];rfl
theorem skip168 {auto fo : Bool} {N : Int} {sc : Sc} {f : Int} (nm : jl) (sf : Bool) (fs : Fs) : ∀ r : List Ch,tot auto N r (dm fo sc f 168 nm sf fs) = tot auto N (skipB r) (dm fo sc f 168 nm sf fs)
 | [] => rfl
 | c :: t => by
  unfold skipB;cases hc : isB c with
  | false => rw [List.dropWhile_cons,hc];simp
  | true =>
   have hb : blk c.r = true := hc;have ht : (dm fo sc f 168 nm sf fs).take c = dm fo sc f 168 nm sf fs := by
    show Mc.afterDoc _ c = _;unfold Mc.afterDoc;rw [jp hb]
   rw [tot_go rfl ht rfl,skip168 nm sf fs t,List.dropWhile_cons,hc];rfl
theorem skip112 {auto fo : Bool} {N : Int} {sc : Sc} {f : Int} (nm : jl) (sf : Bool) (fs : Fs) : ∀ r : List Ch,tot auto N r (dm fo sc f 112 nm sf fs) = tot auto N (skipB r) (dm fo sc f 112 nm sf fs)
 | [] => rfl
 | c :: t => by
  unfold skipB;cases hc : isB c with
  | false => rw [List.dropWhile_cons,hc];simp
  | true =>
   have hb : blk c.r = true := hc;have ht : (dm fo sc f 112 nm sf fs).take c = dm fo sc f 112 nm sf fs := by
    show Mc.beforeDoc _ c = _;unfold Mc.beforeDoc;rw [jp hb]
   rw [tot_go rfl ht rfl,skip112 nm sf fs t,List.dropWhile_cons,hc];rfl
theorem after168 (nm : jl) (fs : Fs) (hcd : sc.cd = false) (hf : f = Mc.frAt F) (hN : endZ F [] = N) (r : List Ch) (hs : r <:+ F) :
 tot auto N r (dm fo sc f 168 nm false fs) = cont auto fo N (docD N F sc nm (false,fs) (skipB r)) := by
 have hsk := (skip_suf r).trans hs
 rw [skip168]
 unfold docD
 cases hr : skipB r with
 | nil =>
  rw [doc_end 168 nm false fs hf hN];rfl
 | cons c t =>
  rw [hr] at hsk;have hb : ¬ blk c.r = true := by rw [skipB_hd hr];decide
  by_cases h62 : c.r = 62
  · have hg : isG c = false := by unfold isG;simp [h62]
    have hn : ¬ (c :: t ≠ [] /\ hd (c :: t) ≠ 62) := fun e => e.2 h62;dsimp only;rw [jq hn,List.dropWhile_cons,hg];simp only [Bool.false_eq_true,if_false,List.tail_cons,reduceCtorEq];refine tot_doc (st := 168) rfl ?_ hcd hf hsk;show Mc.afterDoc _ c = _;unfold Mc.afterDoc;rw [jq hb,jp h62]
  have hg : isG c = true := by unfold isG;simp [h62]
  have hy : c :: t ≠ [] /\ hd (c :: t) ≠ 62 := ⟨by simp,h62⟩;have ht : (dm fo sc f 168 nm false fs).take c = dm fo sc f 180 nm true (fs ++ [(17,c.a)]) := by
   show Mc.afterDoc _ c = _;unfold Mc.afterDoc;rw [jq hb,jq h62];rfl
  rw [tot_go rfl ht rfl,bog180 nm _ hcd hf hN t ((zl _ _).trans hsk)];dsimp only;rw [jp hy,List.dropWhile_cons,hg];simp only [if_true];cases t.dropWhile isG with
  | nil => rfl
  | cons d u => rfl
theorem name144 {auto fo : Bool} {N : Int} {sc : Sc} {f : Int} (fs : Fs) : ∀ (r : List Ch) (nm : jl),tot auto N r (dm fo sc f 144 nm false fs) = tot auto N (r.dropWhile dnC) (dm fo sc f 144 (nm ++ lows (r.takeWhile dnC)) false fs)
 | [],nm => by simp [lows]
 | c :: t,nm => by
  cases hc : dnC c with
  | false => rw [List.dropWhile_cons,List.takeWhile_cons,hc];simp [lows]
  | true =>
   have h : ¬ blk c.r = true /\ ¬ c.r = 62 := by
    unfold dnC at hc;simpa [and_assoc] using hc
   have ht : (dm fo sc f 144 nm false fs).take c = dm fo sc f 144 (nm ++ enc (lowr c.r)) false fs := by
    show Mc.docName _ c = _;unfold Mc.docName;rw [jq h.1,jq h.2];rfl
   rw [tot_go rfl ht rfl,name144 fs t,List.dropWhile_cons,List.takeWhile_cons,hc];simp [lows]
theorem doc_eq (hcd : sc.cd = false) (hf : f = Mc.frAt F) (hN : endZ F [] = N) (hs : r <:+ F) : tot auto N r (dm fo sc f 112 [] false sc.fs) = cont auto fo N (docR N F sc r) := by
 have hsk := (skip_suf r).trans hs
 rw [skip112,docR_is]
 cases hr : skipB r with
 | nil =>
  rw [doc_end 112 [] false sc.fs hf hN];rfl
 | cons c t =>
  rw [hr] at hsk;have hb : ¬ blk c.r = true := by rw [skipB_hd hr];decide
  by_cases h62 : c.r = 62
  · have hdn : dnC c = false := by unfold dnC;simp [h62]
    have hg : isG c = false := by unfold isG;simp [h62]
    have hB : isB c = false := skipB_hd hr;have hn : ¬ (c :: t ≠ [] /\ hd (c :: t) ≠ 62) := fun e => e.2 h62;rw [jp (show hd (c :: t) = 62 from h62),List.takeWhile_cons,List.dropWhile_cons,hdn];simp only [Bool.false_eq_true,if_false];unfold skipB;rw [List.dropWhile_cons,hB];simp only [Bool.false_eq_true,if_false];unfold docD;dsimp only;rw [jq hn,List.dropWhile_cons,hg];simp only [Bool.false_eq_true,if_false,List.tail_cons,reduceCtorEq];refine tot_doc (st := 112) rfl ?_ hcd hf hsk;show Mc.beforeDoc _ c = _;unfold Mc.beforeDoc;rw [jq hb,jp h62];rfl
  rw [jq (show ¬ hd (c :: t) = 62 from h62)];have h0 : tot auto N (c :: t) (dm fo sc f 112 [] false sc.fs) = tot auto N (c :: t) (dm fo sc f 144 [] false sc.fs) := by
   refine tot_same rfl rfl ?_;show Mc.beforeDoc _ c = Mc.docName _ c;unfold Mc.beforeDoc;rw [jq hb,jq h62];rfl
  have hs2 : (c :: t).dropWhile dnC <:+ F := (List.dropWhile_suffix _).trans hsk;rw [h0,name144,List.nil_append,<- after168 _ sc.fs hcd hf hN _ hs2];have hst := List.head?_dropWhile_not dnC (c :: t);cases hr2 : (c :: t).dropWhile dnC with
  | nil => rw [doc_end 144 _ false sc.fs hf hN,doc_end 168 _ false sc.fs hf hN]
  | cons d u =>
   rw [hr2] at hst;simp only [List.head?_cons] at hst;unfold dnC at hst;simp at hst;refine tot_same rfl rfl ?_;show Mc.docName _ d = Mc.afterDoc _ d;unfold Mc.docName Mc.afterDoc;by_cases hd1 : blk d.r = true
   · rw [jp hd1,jp hd1]
     rfl
   have hd2 : d.r = 62 := hst (by simpa using hd1);rw [jq hd1,jq hd1,jp hd2,jp hd2];rfl
def gB (fold : Bool) (c : Ch) : jl := if fold = true then Mc.lowL (enc c.r) else enc c.r
def gBs (fold : Bool) (q : List Ch) : jl := q.flatMap (gB fold)
theorem lowL_is (l : jl) : Mc.lowL l = l.map G7.low := by simp [Mc.lowL,G7.lowP,bs]
theorem low_nat (b : UInt8) : (b.toNat < 128 ↔ (G7.low b).toNat < 128) /\ ((G7.low b) = 62 ↔ b = 62) := by
 have : ∀ k : Fin 256,((UInt8.ofNat k).toNat < 128 ↔ (G7.low (UInt8.ofNat k)).toNat < 128) /\ ((G7.low (UInt8.ofNat k)) = 62 ↔ UInt8.ofNat k = 62) := by decide +kernel
 have h := this ⟨b.toNat,b.toNat_lt⟩
 simpa using h
theorem gB_is (fold : Bool) {c : Ch} (h0 : 0 <= c.r) : (∃ b,gB fold c = [b] /\ b.toNat < 128) \/ (gB fold c ≠ [] /\ ∀ b ∈ gB fold c,128 <= b.toNat) := by
 unfold gB
 by_cases hr : c.r < 128
 · obtain ⟨e,e2⟩ := wc_byte h0 hr
   have hb : (byt c.r).toNat < 128 := by rw [e2];omega
   left;rw [e];cases fold
   · exact ⟨_,rfl,hb⟩
   simp only [if_true,lowL_is,List.map_cons,List.map_nil];exact ⟨_,rfl,(low_nat _).1.1 hb⟩
 obtain ⟨e1,e2⟩ := enc_all (r := c.r) (by omega)
 right
 cases fold
 · exact ⟨e1,e2⟩
 simp only [if_true,lowL_is]
 refine ⟨by simpa using e1,fun b hb => ?_⟩
 obtain ⟨x,hx,rfl⟩ := List.mem_map.1 hb
 have := e2 x hx
 have := (low_nat x).1
 omega
theorem gBs_true (q : List Ch) : gBs true q = Mc.lowL (encs q) := by
 rw [lowL_is]
 unfold gBs encs
 induction q with
 | nil => rfl
 | cons c q ih =>
  rw [List.flatMap_cons,List.flatMap_cons,List.map_append,ih];unfold gB;simp only [if_true,lowL_is]
theorem isW_step (fold : Bool) (b : UInt8) (w : jl) (c : Ch) (t : List Ch) : isW fold (b :: w) (c :: t) = (decide (gB fold c = [b]) && isW fold w t) := rfl
def isP (fold : Bool) : jl -> List Ch -> Bool
 | _,[] => true
 | [],_ :: _ => false
 | b :: w,c :: q => decide (gB fold c = [b]) && isP fold w q
theorem isW_app (fold : Bool) : ∀ (q : List Ch) (w : jl) (t : List Ch),isW fold w (q ++ t) = true -> isW fold w q = true \/ isP fold w q = true
 | [],w,t,_ => .inr (by cases w <;> rfl)
 | c :: q,[],t,_ => .inl rfl
 | c :: q,b :: w,t,h => by
  rw [List.cons_append,isW_step,Bool.and_eq_true] at h;rcases isW_app fold q w t h.2 with h2 | h2
  · exact .inl (by rw [isW_step,h.1,h2];rfl)
  exact .inr (by unfold isP;rw [h.1,h2];rfl)
theorem isW_more (fold : Bool) : ∀ (q : List Ch) (w : jl) (t : List Ch),isW fold w q = true -> isW fold w (q ++ t) = true
 | q,[],t,_ => by cases q <;> cases t <;> rfl
 | [],b :: w,t,h => by cases h
 | c :: q,b :: w,t,h => by
  rw [isW_step,Bool.and_eq_true] at h;rw [List.cons_append,isW_step,h.1,isW_more fold q w t h.2];rfl
theorem isP_len (fold : Bool) : ∀ (q : List Ch) (w : jl),isP fold w q = true -> q.length <= w.length
 | [],w,_ => Nat.zero_le _
 | c :: q,[],h => by cases h
 | c :: q,b :: w,h => by
  unfold isP at h;rw [Bool.and_eq_true] at h;have := isP_len fold q w h.2;simp only [zi];omega
theorem isP_W (fold : Bool) : ∀ (q : List Ch) (w : jl),isP fold w q = true -> w.length <= q.length -> isW fold w q = true
 | [],[],_,_ => rfl
 | [],b :: w,_,h => by simp at h
 | c :: q,[],h,_ => by cases h
 | c :: q,b :: w,h,hl => by
  unfold isP at h;rw [Bool.and_eq_true] at h;rw [isW_step,h.1,isP_W fold q w h.2 (by simpa using hl)];rfl
theorem isW_len (fold : Bool) : ∀ (q : List Ch) (w : jl),isW fold w q = true -> w.length <= q.length
 | _,[],_ => Nat.zero_le _
 | [],b :: w,h => by cases h
 | c :: q,b :: w,h => by
  rw [isW_step,Bool.and_eq_true] at h;have := isW_len fold q w h.2;simp only [zi];omega
theorem isP_pre (fold : Bool) : ∀ (q : List Ch) (w : jl),isP fold w q = true -> (gBs fold q).isPrefixOf w = true
 | [],w,_ => by cases w <;> rfl
 | c :: q,[],h => by cases h
 | c :: q,b :: w,h => by
  unfold isP at h;rw [Bool.and_eq_true] at h;have e : gB fold c = [b] := of_decide_eq_true h.1;have := isP_pre fold q w h.2;unfold gBs at this |-;rw [List.flatMap_cons,e];simpa [List.isPrefixOf] using this
theorem isW_is (fold : Bool) : ∀ (q : List Ch) (w : jl),isW fold w q = true -> q.length = w.length -> gBs fold q = w
 | [],[],_,_ => rfl
 | [],b :: w,_,h => by simp at h
 | c :: q,[],_,h => by simp at h
 | c :: q,b :: w,h,hl => by
  rw [isW_step,Bool.and_eq_true] at h;have e : gB fold c = [b] := of_decide_eq_true h.1;have := isW_is fold q w h.2 (by simpa using hl);unfold gBs at this |-;rw [List.flatMap_cons,e,this];rfl
theorem isW_of (fold : Bool) : ∀ (q : List Ch) (w : jl),(∀ c ∈ q,0 <= c.r) -> (∀ b ∈ w,b.toNat < 128) -> gBs fold q = w -> isW fold w q = true /\ q.length = w.length
 | [],w,_,_,h => by subst h;exact ⟨rfl,rfl⟩
 | c :: q,w,hq,hw,h => by
  have hg : gBs fold (c :: q) = gB fold c ++ gBs fold q := by unfold gBs;rw [List.flatMap_cons]
  rw [hg] at h;rcases gB_is fold (hq c (by simp)) with ⟨b,e,_⟩ | ⟨e,e2⟩
  · rw [e] at h
    subst h;obtain ⟨i1,i2⟩ := isW_of fold q (gBs fold q) (fun d hd => hq d (by simp [hd])) (fun b hb => hw b (by simp [hb])) rfl;rw [List.singleton_append,isW_step,e,zm rfl,i1];exact ⟨rfl,by simp [i2]⟩
  exfalso;cases hx : gB fold c with
  | nil => exact e hx
  | cons x y =>
   have h1 := e2 x (by rw [hx];simp);have h2 := hw x (by rw [<- h,hx];simp);omega
theorem isW_snoc (fold : Bool) {q : List Ch} {w : jl} {c : Ch} (h : isW fold w q = false) (h2 : isW fold w (q ++ [c]) = true) : gBs fold (q ++ [c]) = w := by
 refine isW_is fold _ _ h2 ?_
 have l2 := isW_len fold _ _ h2
 rcases isW_app fold q w [c] h2 with h3 | h3
 · rw [h] at h3;cases h3
 have l3 := isP_len fold _ _ h3
 apply Nat.le_antisymm
 · apply Classical.byContradiction
   intro hl;have := isP_W fold q w h3 (by simp at hl;omega);rw [h] at this;cases this
 exact l2
theorem no62 (h : Mc.begun (encs q) = true) : ∀ c ∈ q,c.r ≠ 62 := fun c hc e => by
 have hm : (62 : UInt8) ∈ encs q := List.mem_flatMap.2 ⟨c,hc,by rw [e];decide +kernel⟩
 unfold Mc.begun at h
 simp only [Bool.or_eq_true,List.isPrefixOf_iff_prefix] at h
 rcases h with (h | h) | h
 · exact absurd (h.subset hm) (by decide)
 · have : (62 : UInt8) ∈ Mc.lowL (encs q) := by
    rw [lowL_is];exact List.mem_map.2 ⟨62,hm,by decide⟩
   exact absurd (h.subset this) (by decide)
 exact absurd (h.subset hm) (by decide)
theorem bogR_fold (fo : Bool) (sc : Sc) (f : Int) (fs : Fs) : ∀ (q : List Ch) (tx : jl),(∀ c ∈ q,c.r ≠ 62) -> q.foldl Mc.inBogus (cm fo sc f 147 146 tx fs) = cm fo sc f 147 146 (tx ++ encs q) fs
 | [],tx,_ => by simp [encs]
 | c :: q,tx,h => by
  have ht : Mc.inBogus (cm fo sc f 147 146 tx fs) c = cm fo sc f 147 146 (tx ++ enc c.r) fs := by
   unfold Mc.inBogus;rw [jq (h c (by simp))];rfl
  rw [List.foldl_cons,ht,bogR_fold fo sc f fs q _ fun d hd => h d (by simp [hd])];simp [encs]
theorem take_all (h : ∀ c ∈ q,c.r ≠ 62) (t : List Ch) : (q ++ t).takeWhile isG = q ++ t.takeWhile isG /\ (q ++ t).dropWhile isG = t.dropWhile isG := by
 induction q with
 | nil => exact ⟨rfl,rfl⟩
 | cons c q ih =>
  have hg : isG c = true := by unfold isG;simp [h c (by simp)]
  obtain ⟨i1,i2⟩ := ih fun d hd => h d (by simp [hd]);rw [List.cons_append,List.takeWhile_cons,List.dropWhile_cons,hg];simp only [if_true,i1,i2];exact ⟨rfl,trivial⟩
def wm (fo : Bool) (sc : Sc) (st en : Nat) (wait : List Ch) : Mc := ⟨st,en,sc.text,fo,sc.last,wait,[],0,0,[],[],false,[],0,[],[],false,[],sc.fs⟩
theorem markup_eq {auto fo : Bool} {N : Int} {sc : Sc} {F : List Ch} {c0 : Ch} (hcd : sc.cd = false) (hf : Mc.frAt F = c0.a) (hN : endZ F [] = N) (hF : ∀ d ∈ F,0 <= d.r) : ∀ (t q : List Ch),Mc.begun (encs q) = true -> isW false Mc.dashW q = false -> isW true Mc.docW q = false -> isW false Mc.cdW q = false -> q ++ t <:+ F ->
 tot auto N t (wm fo sc 73 74 (c0 :: q)) = cont auto fo N (markupR N fo F sc (q ++ t))
 | [],q,hb,w1,w2,w3,hs => by
  rw [zu] at hs |-;have h62 := no62 hb;unfold markupR;rw [jq (by rw [w1];decide),jq (by rw [w2];decide),jq (by rw [w3];decide)];unfold bogusR;obtain ⟨e1,e2⟩ := take_all h62 [];rw [zu] at e1 e2;rw [e1,e2];simp only [List.takeWhile_nil,List.dropWhile_nil,zu,List.tail_nil];rw [tot_end rfl];have hm := made_end (auto := auto) (fo := fo) (sc := sc) (F := F) (f := c0.a) (N := N) (encs q) (sc.fs ++ [(14,frN N q)]) hf.symm hN;rw [<- hm];have hbog : ((wm fo sc 73 74 (c0 :: q)).endS N) = ((q.foldl Mc.inBogus (cm fo sc c0.a 147 146 [] (sc.fs ++ [(14,frN N q)]))).tellMade N) := by
   show Mc.endMarkup _ N = _;unfold Mc.endMarkup Mc.bogus;cases q with
   | nil => rfl
   | cons d u => rfl
  rw [hbog,bogR_fold fo sc c0.a _ q [] h62,List.nil_append];rfl
 | c :: t,q,hb,w1,w2,w3,hs => by
  have h62 := no62 hb
  have hpos : ∀ d ∈ q ++ [c],0 <= d.r := fun d hd => hF d (hs.subset (by
   rcases List.mem_append.1 hd with h | h
   · exact List.mem_append_left _ h
   simp at h;subst h;simp))
  have hq' : q ++ c :: t = (q ++ [c]) ++ t := by simp
  have hfr : frN N (q ++ c :: t) = frN N (q ++ [c]) := by cases q <;> rfl
  have hct : c :: t <:+ F := (List.suffix_append _ _).trans hs;have htF : t <:+ F := (zl _ _).trans hct;have hw1 : ((wm fo sc 73 74 (c0 :: q)).hold c).w1 = frN N (q ++ [c]) := by cases q <;> rfl
  have hmk : (wm fo sc 73 74 (c0 :: q)).take c = (wm fo sc 73 74 (c0 :: q)).markup c := rfl;have hwt : ((wm fo sc 73 74 (c0 :: q)).hold c).wait.tail = q ++ [c] := rfl
  -- a comment that is none
  have bog : ∀ code : Int,tot auto N (c :: t) (cm fo sc c0.a 147 146 (encs q) (sc.fs ++ [(code,frN N (q ++ [c]))])) = cont auto fo N (bogusR F { sc with fs := sc.fs ++ [(code,frN N (q ++ c :: t))] } (q ++ c :: t)) := fun code => by
   rw [bogus_eq (sc := sc) _ hcd hf.symm hN (c :: t) (encs q) hct];unfold bogusR;obtain ⟨e1,e2⟩ := take_all h62 (c :: t);rw [e1,e2,hfr];have e : encs (q ++ (c :: t).takeWhile isG) = encs q ++ encs ((c :: t).takeWhile isG) := by simp [encs]
   rw [e]
  have bogT : ∀ code : Int,(((wm fo sc 73 74 (c0 :: q)).hold c).fault code ((wm fo sc 73 74 (c0 :: q)).hold c).w1).bogus (((wm fo sc 73 74 (c0 :: q)).hold c).wait.tail) = (cm fo sc c0.a 147 146 (encs q) (sc.fs ++ [(code,frN N (q ++ [c]))])).take c := fun code => by
   rw [hw1];show (q ++ [c]).foldl Mc.inBogus (cm fo sc c0.a 147 146 [] (sc.fs ++ [(code,frN N (q ++ [c]))])) = _;rw [List.foldl_append,bogR_fold fo sc c0.a _ q [] h62,List.nil_append];rfl
  by_cases k1 : encs (q ++ [c]) = Mc.dashW
  · obtain ⟨i1,i2⟩ := isW_of false (q ++ [c]) Mc.dashW hpos (by decide) k1
    have hx : isW false Mc.dashW (q ++ c :: t) = true := by rw [hq'];exact isW_more _ _ _ _ i1
    unfold markupR;rw [jp hx,hq',List.drop_append_of_le_length (by rw [i2];decide),List.drop_of_length_le (by rw [i2];decide),List.nil_append];have ht : (wm fo sc 73 74 (c0 :: q)).take c = cm fo sc c0.a 109 108 [] sc.fs := by
     rw [hmk];unfold Mc.markup;dsimp only;rw [hwt,jp k1];rfl
    rw [tot_go rfl ht rfl];exact text_eq hcd hf.symm hN hF htF
  have n1 : isW false Mc.dashW (q ++ [c]) = false := by
   cases e : isW false Mc.dashW (q ++ [c]) with
   | false => rfl
   | true => exact absurd (isW_snoc false w1 e) k1
  by_cases k2 : Mc.lowL (encs (q ++ [c])) = Mc.docW
  · rw [<- gBs_true] at k2
    obtain ⟨i1,i2⟩ := isW_of true (q ++ [c]) Mc.docW hpos (by decide) k2;have hx : isW true Mc.docW (q ++ c :: t) = true := by rw [hq'];exact isW_more _ _ _ _ i1
    have hd : isW false Mc.dashW (q ++ c :: t) = false := by
     cases e : isW false Mc.dashW (q ++ c :: t) with
     | false => rfl
     | true =>
      rw [hq'] at e;rcases isW_app false _ _ _ e with e | e
      · rw [n1] at e;cases e
      have := isP_len _ _ _ e;rw [i2] at this;exact absurd this (by decide)
    unfold markupR;rw [jq (by rw [hd];decide),jp hx,hq',List.drop_append_of_le_length (by rw [i2];decide),List.drop_of_length_le (by rw [i2];decide),List.nil_append];rw [gBs_true] at k2;have ht : (wm fo sc 73 74 (c0 :: q)).take c = dm fo sc c0.a 112 [] false sc.fs := by
     rw [hmk];unfold Mc.markup;dsimp only;rw [hwt,jq k1,jp k2];rfl
    rw [tot_go rfl ht rfl];exact doc_eq hcd hf.symm hN htF
  have n2 : isW true Mc.docW (q ++ [c]) = false := by
   cases e : isW true Mc.docW (q ++ [c]) with
   | false => rfl
   | true => exact absurd ((gBs_true _).symm.trans (isW_snoc true w2 e)) k2
  by_cases k3 : encs (q ++ [c]) = Mc.cdW
  · obtain ⟨i1,i2⟩ := isW_of false (q ++ [c]) Mc.cdW hpos (by decide) k3
    have hx : isW false Mc.cdW (q ++ c :: t) = true := by rw [hq'];exact isW_more _ _ _ _ i1
    have hd : isW false Mc.dashW (q ++ c :: t) = false := by
     cases e : isW false Mc.dashW (q ++ c :: t) with
     | false => rfl
     | true =>
      rw [hq'] at e;rcases isW_app false _ _ _ e with e | e
      · rw [n1] at e;cases e
      have := isP_len _ _ _ e;rw [i2] at this;exact absurd this (by decide)
    have hd2 : isW true Mc.docW (q ++ c :: t) = false := by
     cases e : isW true Mc.docW (q ++ c :: t) with
     | false => rfl
     | true =>
      rw [hq'] at e;rcases isW_app true _ _ _ e with e | e
      · rw [n2] at e;cases e
      have := isP_W true _ _ e (by rw [i2];decide);rw [n2] at this;cases this
    unfold markupR;rw [jq (by rw [hd];decide),jq (by rw [hd2];decide),jp hx];cases fo with
    | true =>
     rw [jp rfl,hq',List.drop_append_of_le_length (by rw [i2];decide),List.drop_of_length_le (by rw [i2];decide),List.nil_append,cont_nil];refine tot_go rfl ?_ rfl;rw [hmk];unfold Mc.markup;dsimp only;rw [hwt,jq k1,jq k2,jp ⟨k3,rfl⟩];rfl
    | false =>
     rw [jq (by decide),<- bog 21];refine tot_same rfl rfl ?_;rw [hmk]
     conv => lhs;unfold Mc.markup
     dsimp only;rw [hwt,jq k1,jq k2,jq (fun e => by cases e.2),jp k3];exact bogT 21
  have n3 : isW false Mc.cdW (q ++ [c]) = false := by
   cases e : isW false Mc.cdW (q ++ [c]) with
   | false => rfl
   | true => exact absurd (isW_snoc false w3 e) k3
  cases k4 : Mc.begun (encs (q ++ [c])) with
  | false =>
   have hno : ∀ (fold : Bool) (w : jl),isW fold w (q ++ [c]) = false -> (gBs fold (q ++ [c])).isPrefixOf w = false -> isW fold w (q ++ c :: t) = false := fun fold w h1 h2 => by
    cases e : isW fold w (q ++ c :: t) with
    | false => rfl
    | true =>
     rw [hq'] at e;rcases isW_app fold _ _ _ e with e | e
     · rw [h1] at e;cases e
     rw [isP_pre fold _ _ e] at h2;cases h2
   have k5 := k4;unfold Mc.begun at k5;simp only [Bool.or_eq_false_iff] at k5;unfold markupR;rw [jq (by rw [hno false _ n1 k5.1.1];decide),jq (by rw [hno true _ n2 (by rw [gBs_true];exact k5.1.2)];decide),jq (by rw [hno false _ n3 k5.2];decide),<- bog 14];refine tot_same rfl rfl ?_;rw [hmk]
   conv => lhs;unfold Mc.markup
   dsimp only;rw [hwt,jq k1,jq k2,jq (fun e => k3 e.1),jq k3,jp k4];exact bogT 14
  | true =>
   have ht : (wm fo sc 73 74 (c0 :: q)).take c = wm fo sc 73 74 (c0 :: (q ++ [c])) := by
    rw [hmk];unfold Mc.markup;dsimp only
    rw [hwt,jq k1,jq k2,jq (fun e => k3 e.1),jq k3,jq (by
     show ¬ Mc.begun (encs (q ++ [c])) = false;rw [k4]
     decide)]
    rfl
   rw [tot_go rfl ht rfl,hq'];rw [hq'] at hs;exact markup_eq hcd hf hN hF t (q ++ [c]) k4 n1 n2 n3 hs
end Go.Proofs.YtjjfalbngcbfaaaGreatDoor
