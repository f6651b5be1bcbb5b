import Derived.Test.YtjjfalbngcbfaaaGreatDoorZ0
import Derived.Test.YtjjfalbngcbfaaaGreatDoorYo
import Derived.Test.YtjjfalbngcbfaaaGreatDoorYi
set_option maxHeartbeats 4000000
set_option maxRecDepth 20000
namespace Go.Proofs.YtjjfalbngcbfaaaGreatDoor
open Go.RowKit
variable {S : Nat -> Prop} {x y ty : Nat} {E : Env} {r r' t : List Ch} {sc sc' : Sc} {dn dn' : Bool} {w W : World} {cur : Array Value} {cr ca cz : Int} {A : List At} {p : Ch -> Bool}
theorem TW.lift (h : TW S x E r sc dn w W) (P : Nat -> Prop) (hP : ∀ k,P k -> ∃ cur e z,W.heap[k]? = some (.cells cur e z) /\ e ≠ 61 /\ e ≠ 58) {F : Nat} {args : Array Value} {Q : Ending -> Prop}
 (hc : ∀ S',(∀ k,S k -> S' k) -> (∀ k,P k -> S' k) -> Tm S' x E r sc dn W -> Calls Tryz.prog F args W fun e w' => Q e /\ TW S' x E r' sc' dn' W w') : Calls Tryz.prog F args W fun e w' => Q e /\ TW S x E r' sc' dn' w w' /\ ∀ k,P k -> w'.heap[k]? = W.heap[k]? := by
 have hl : ∀ k,P k -> k < W.heap.size := fun k hk => by
  obtain ⟨cur,e,z,h1,_⟩ := hP k hk;exact (zf h1)
 have hm := h.more P hl hP
 refine (hc _ (fun _ => .inl) (fun _ => .inr) hm.tm).mono ?_
 rintro e w' ⟨hq,k'⟩
 exact ⟨hq,h.less k' fun _ => .inl,fun k hk => k'.keep.block k (.inr hk) (hl k hk)⟩
structure TY (S : Nat -> Prop) (x : Nat) (E : Env) (r : List Ch) (sc : Sc) (dn : Bool) (w : World) (y : Nat) (cur : Array Value) (ty : Nat) (W : World) : Prop where
 tw : TW S x E r sc dn w W
 blk : W.heap[y]? = some (.cells cur ty (0,0))
 ns : ¬ S y
 ty1 : ty ≠ 61
 ty2 : ty ≠ 58
theorem TY.lt (h : TY S x E r sc dn w y cur ty W) : y < W.heap.size := (zf h.blk)
theorem TY.ne (h : TY S x E r sc dn w y cur ty W) : y ≠ x := fun e => by
 obtain ⟨fv,h1⟩ := h.tw.tm
 have h2 := h.blk
 rw [e,h1.blk] at h2
 simp at h2
 exact h.ty1 h2.2.symm
theorem TY.lift (h : TY S x E r sc dn w y cur ty W) {F : Nat} {args : Array Value} {Q : Ending -> Prop}
 (hc : ∀ S',(∀ k,S k -> S' k) -> Tm S' x E r sc dn W -> Calls Tryz.prog F args W fun e w' => Q e /\ TW S' x E r' sc' dn' W w') : Calls Tryz.prog F args W fun e w' => Q e /\ TY S x E r' sc' dn' w y cur ty w' := by
 refine (h.tw.lift (fun k => k = y) (fun k hk => ⟨cur,ty,(0,0),by rw [hk];exact h.blk,h.ty1,h.ty2⟩) (fun S' h1 _ => hc S' h1)).mono ?_
 rintro e w' ⟨hq,k',hb⟩
 exact ⟨hq,k',(hb y rfl).trans h.blk,h.ns,h.ty1,h.ty2⟩
theorem TY.below {W' : World} (h : TY S x E r sc dn w y cur ty W) (b : Below W.heap.size W W') : TY S x E r sc dn w y cur ty W' := ⟨h.tw.below b,(b.block y h.lt).trans h.blk,h.ns,h.ty1,h.ty2⟩
theorem TY.cell (h : TY S x E r sc dn w y cur ty W) (i : Nat) {u : Value} (hu : cur[i]? = some u) : W.cell? (jd y i) = some u /\ W.frozen? (jd y i) = false := by
 constructor
 · simp only [World.cell?,h.blk]
   exact hu
 simp [World.frozen?,h.blk]
theorem TY.put (h : TY S x E r sc dn w y cur ty W) (i : Nat) (u : Value) {cur' : Array Value} (hc : cur.set! i u = cur') : TY S x E r sc dn w y cur' ty (W.setCell (jd y i) u) := by
 have hk : Keep S W (W.setCell (jd y i) u) := (Keep.refl S W).setCell (p := (jd y i)) h.ns u
 have hne : ∀ g,g ≠ y -> (W.setCell (jd y i) u).heap[g]? = W.heap[g]? := fun g hg => Below.heap_setCell _ _ _ _ hg
 obtain ⟨fv,h1⟩ := h.tw.tm
 refine ⟨⟨⟨fv,fun k hS => zo (h1.low k hS) hk.size,h1.hx,h1.suf,h1.few,h1.cap,h1.row.keep hk,(hne x (fun e => h.ne e.symm)).trans h1.blk,?_,h1.fout⟩,h.tw.keep.trans hk⟩,?_,h.ns,h.ty1,h.ty2⟩
 · refine own_mv h1.fo fun g hg => hne g fun e => ?_
   subst e;obtain ⟨_,cur',z,hg2⟩ := own_blk h1.fo hg;rw [h.blk] at hg2;simp at hg2;exact h.ty2 hg2.2.1
 rw [<- hc]
 simp [World.setCell,Array.getElem?_modify,h.blk]
theorem TY.hop (h : TY S x E r sc dn w y cur ty W) {i : Nat} {u : Value} (k : TW S x E r' sc' dn' w (W.setCell (jd x i) u)) : TY S x E r' sc' dn' w y cur ty (W.setCell (jd x i) u) :=
 ⟨k,(Below.heap_setCell _ _ _ _ h.ne).trans h.blk,h.ns,h.ty1,h.ty2⟩
theorem TY.c (h : TY S x E r sc dn w y cur ty W) : Calls Tryz.prog 39 #[mp x] W fun e w' => e = jr (ji (hd r)) /\ TY S x E r sc dn w y cur ty w' := h.lift fun _ _ k => (TW.start k).c
theorem TY.cc (h : TY S x E (⟨cr,ca,cz⟩ :: t) sc dn w y cur ty W) : Calls Tryz.prog 39 #[mp x] W fun e w' => e = jr (ji cr) /\ TY S x E (⟨cr,ca,cz⟩ :: t) sc dn w y cur ty w' := h.c
theorem TY.c0 (h : TY S x E [] sc dn w y cur ty W) : Calls Tryz.prog 39 #[mp x] W fun e w' => e = jr (ji (-1)) /\ TY S x E [] sc dn w y cur ty w' := h.c
theorem TY.byteAt (h : TY S x E r sc dn w y cur ty W) : Calls Tryz.prog 41 #[mp x] W fun e w' => e = jr (ji (frN E.N r)) /\ TY S x E r sc dn w y cur ty w' := h.lift fun _ _ k => (TW.start k).byteAt
theorem TY.ba (h : TY S x E (⟨cr,ca,cz⟩ :: t) sc dn w y cur ty W) : Calls Tryz.prog 41 #[mp x] W fun e w' => e = jr (ji ca) /\ TY S x E (⟨cr,ca,cz⟩ :: t) sc dn w y cur ty w' := h.byteAt
theorem TY.tfl (h : TY S x E r sc dn w y cur ty W) (code at' : Int) (hn : sc.fs.length <= 1000000000) : Calls Tryz.prog 65 #[mp x,ji code,ji at'] W fun e w' => e = jr (.tuple #[]) /\ TY S x E r (sc.fsd (sc.fs ++ [(code,at')])) dn w y cur ty w' := h.lift fun _ _ k => (TW.start k).tfl code at' hn
theorem TY.endz (h : TY S x E r sc dn w y cur ty W) (hl : r.length < E.L.length) : Calls Tryz.prog 43 #[mp x] W fun e w' => e = jr (ji (endZ E.L r)) /\ TY S x E r sc dn w y cur ty w' := h.lift fun _ _ k => (TW.start k).endz hl
theorem TY.lower (h : TY S x E r sc dn w y cur ty W) (c : Int) : Calls Tryz.prog 71 #[ji c] W fun e w' => e = jr (.string (bs (enc (lowr c)))) /\ TY S x E r sc dn w y cur ty w' := by
 refine (lower_any' c W).mono ?_
 rintro e w' ⟨rfl,b⟩
 exact ⟨rfl,h.below b⟩
theorem TY.adv {c : Ch} (h : TY S x E (c :: t) sc dn w y cur ty W) : TY S x E t sc dn w y cur ty (W.setCell (jd x 1) (ji (pos E (c :: t) + 1))) := h.hop h.tw.adv
theorem TY.new (h : TW S x E r sc dn w W) (cur : Array Value) (ty : Nat) (h1 : ty ≠ 61) (h2 : ty ≠ 58) : TY S x E r sc dn w W.heap.size cur ty (W.alloc (.cells cur ty)) :=
 ⟨h.below (ze _ _),zx W _,fun hS => Nat.lt_irrefl _ (h.facts.2.2 _ hS),h1,h2⟩
theorem tyx {f : FuncId} {a : Array Value} {v : Ending} {Q : Ending -> World -> Prop} (c : Calls Tryz.prog f a W fun e w' => e = v /\ TY S x E r sc dn w y cur ty w') (h : ∀ w',Hid (TY S x E r sc dn w y cur ty w') -> x < w'.heap.size -> y < w'.heap.size -> Q v w') : Calls Tryz.prog f a W Q := c.mono fun _ w' k => by
 rw [k.1]
 exact h w' k.2 k.2.tw.lt k.2.lt
theorem TY.advx {c : Ch} (h : TY S x E (c :: t) sc dn w y cur ty W) : ∃ p : Int,W.cell? (jd x 1) = some (ji p) /\ W.frozen? (jd x 1) = false /\ 0 <= p /\ p <= 100000 /\ Hid (TY S x E t sc dn w y cur ty (W.setCell (jd x 1) (ji (p + 1)))) := by
 obtain ⟨a,b,c,d,_⟩ := h.tw.at
 exact ⟨_,a,b,c,d,h.adv⟩
theorem quoR_few (q : Int) : ∀ (n : Nat) (s : jl) (fs : Fs) (r : List Ch),(quoR q n s fs r).2.1.length + 8 * (quoR q n s fs r).2.2.length <= fs.length + 8 * r.length
 | 0,s,fs,r => zb _
 | n + 1,s,fs,r => by
  unfold quoR;split
  · exact zb _
  next h =>
  cases r with
  | nil => exact absurd (.inl rfl) h
  | cons c t =>
   have h1 := quoR_few q n (s ++ (pieceR (c :: t) fs).1) (pieceR (c :: t) fs).2.1 (pieceR (c :: t) fs).2.2;have h2 := piece_few (c :: t) fs;have h3 := (piece_suf (c := c) (t := t) fs).length_le;simp only [zi];omega
theorem bareR_few : ∀ (n : Nat) (s : jl) (fs : Fs) (r : List Ch),(bareR n s fs r).2.1.length + 8 * (bareR n s fs r).2.2.length <= fs.length + 8 * r.length
 | 0,s,fs,r => zb _
 | n + 1,s,fs,r => by
  unfold bareR;split
  · exact zb _
  next h =>
  cases r with
  | nil => exact absurd (.inl rfl) h
  | cons c t =>
   have h1 := bareR_few n (s ++ (pieceR (c :: t) (oddF (c :: t) fs)).1) (pieceR (c :: t) (oddF (c :: t) fs)).2.1 (pieceR (c :: t) (oddF (c :: t) fs)).2.2;have h2 := piece_few (c :: t) (oddF (c :: t) fs);have h3 := (piece_suf (c := c) (t := t) (oddF (c :: t) fs)).length_le;have h4 := oddF_few (c :: t) fs;simp only [zi];omega
theorem between_few (fs : Fs) (r : List Ch) : (between fs r).length <= fs.length + 1 := by
 unfold between
 split
 · omega
 split
 · omega
 simp
theorem quoE_few (p : jl × Fs × List Ch) {k : Nat} (h : p.2.1.length + 8 * p.2.2.length <= k) : (if p.2.2 = [] then p else (p.1,between p.2.1 p.2.2.tail,p.2.2.tail)).2.1.length + 8 * (if p.2.2 = [] then p else (p.1,between p.2.1 p.2.2.tail,p.2.2.tail)).2.2.length <= k := by
 by_cases hne : p.2.2 = []
 · rw [jp hne]
   exact h
 rw [jq hne]
 have h2 := between_few p.2.1 p.2.2.tail
 have h3 : p.2.2.tail.length + 1 = p.2.2.length := by
  cases hx : p.2.2 with
  | nil => exact absurd hx hne
  | cons a b => rfl
 dsimp only
 omega
theorem skip_len (r : List Ch) : (skipB r).length <= r.length := (skip_suf r).length_le
theorem valueR_few (N : Int) (fs : Fs) (r : List Ch) : (valueR N fs r).2.1.length + 8 * (valueR N fs r).2.2.length <= fs.length + 8 * r.length + 1 := by
 have hs := skip_len r
 unfold valueR
 split
 · next hq =>
   cases hr : skipB r with
   | nil =>
    rw [hr] at hq;exact absurd hq (by decide)
   | cons c t =>
    rw [hr] at hs;simp only [zi] at hs;have h1 := quoR_few (hd (c :: t)) (c :: t).length [] fs (c :: t).tail;have h2 : (c :: t).tail.length = t.length := rfl;refine zr (quoE_few _ h1) ?_;omega
 split
 · simp only [zh,zi,zj]
   omega
 have := bareR_few (skipB r).length [] fs (skipB r)
 omega
theorem odds_len (l : List Ch) : (odds l).length <= l.length := by
 unfold odds
 rw [List.length_map]
 exact List.length_filter_le _ _
theorem tw_len (p : Ch -> Bool) (l : List Ch) : (l.takeWhile p).length + (l.dropWhile p).length = l.length := by
 rw [<- zh,List.takeWhile_append_dropWhile]
theorem aname_few (fs : Fs) (r : List Ch) : (anameR fs r).2.1.length + (anameR fs r).2.2.length <= fs.length + r.length := by
 unfold anameR
 split
 · simp
 next c t =>
 split
 · have h1 := odds_len (t.takeWhile anC)
   have h2 := tw_len anC t;simp only [zh,zi,zj];omega
 have h1 := odds_len ((c :: t).takeWhile anC)
 have h2 := tw_len anC (c :: t)
 simp only [zh]
 omega
def Once (A : List At) : Prop := ∀ nm : jl,(A.filter fun a => decide (a.nm = nm)).length <= 1
theorem Once.nil : Once [] := fun _ => Nat.zero_le _
theorem dups_few (h : Once A) (nm : jl) (a : Int) : (dups A nm a).length <= 1 := by
 unfold dups
 rw [List.length_map]
 exact h nm
theorem attrR_few {N : Int} (hA : Once A) {fs : Fs} {c : Ch} {t : List Ch} (hb : blk c.r = false) (h47 : c.r ≠ 47) (h62 : c.r ≠ 62) : (attrR N A fs (c :: t)).2.2.1.length + 8 * (attrR N A fs (c :: t)).2.2.2.length <= fs.length + 8 * (c :: t).length := by
 have h1 := aname_few fs (c :: t)
 have h2 := (aname_suf (c := c) (t := t) fs hb h47 h62).length_le
 have h3 := dups_few hA (anameR fs (c :: t)).1 (frN N (c :: t))
 have h4 := skip_len (anameR fs (c :: t)).2.2
 simp only [zi] at h1 |-
 unfold attrR
 dsimp only
 split
 · dsimp only
   simp only [zj];omega
 split
 · next hq =>
   have h5 := valueR_few N ((anameR fs (c :: t)).2.1 ++ dups A (anameR fs (c :: t)).1 (frN N (c :: t))) (skipB (anameR fs (c :: t)).2.2).tail;have h6 : (skipB (anameR fs (c :: t)).2.2).tail.length + 1 = (skipB (anameR fs (c :: t)).2.2).length := by
    cases hx : skipB (anameR fs (c :: t)).2.2 with
    | nil => rw [hx] at hq;exact absurd hq (by decide)
    | cons a b => rfl
   rw [zh] at h5;dsimp only;omega
 dsimp only
 rw [zh]
 omega
theorem dup_none {nm : jl} (h : dup A nm = false) : (A.filter fun a => decide (a.nm = nm)) = [] := by
 unfold dup at h
 rw [List.any_eq_false] at h
 rw [List.filter_eq_nil_iff]
 exact h
theorem dup_cons (a : At) (A : List At) (nm : jl) : dup (A ++ [a]) nm = (dup A nm || decide (a.nm = nm)) := by
 unfold dup
 rw [List.any_append]
 simp
theorem dups_app (A B : List At) (nm : jl) (a : Int) : dups (A ++ B) nm a = dups A nm a ++ dups B nm a := by
 unfold dups
 rw [List.filter_append,List.map_append]
theorem once_add (h : Once A) {nm vl : jl} (hd : dup A nm = false) : Once (A ++ [⟨bs nm,bs vl⟩]) := fun k => by
 rw [List.filter_append,zh]
 by_cases e : nm = k
 · subst e
   rw [dup_none hd];have := List.length_filter_le (fun a : At => decide (a.nm = nm)) [⟨bs nm,bs vl⟩];simp only [zi,zj] at this |-;omega
 have := h k
 rw [List.filter_cons_of_neg]
 · simpa using this
 simp only [decide_eq_true_eq]
 show ¬ (bs nm).data.toList = k
 rw [bs_list]
 exact e
theorem attrR_keep (N : Int) (A : List At) (fs : Fs) (r : List Ch) (h : (attrR N A fs r).2.1 = true) : dup A (attrR N A fs r).1.1 = false := by
 unfold attrR at h |-
 dsimp only at h |-
 split at h
 · cases h
 next h1 =>
 rw [jq h1]
 split at h
 · next h2 =>
   rw [jp h2];simpa using h
 next h2 =>
 rw [jq h2]
 simpa using h
theorem once_addA (h : Once A) (N : Int) (fs : Fs) (r : List Ch) : Once (addA A (attrR N A fs r)) := by
 unfold addA
 split
 · next hk => exact once_add h (attrR_keep N A fs r hk)
 exact h
theorem addA_len (A : List At) (p : (jl × jl) × Bool × Fs × List Ch) : (addA A p).length <= A.length + 1 := by
 unfold addA
 split
 · simp
 omega
def tst (p : Ch -> Bool) (r : List Ch) : Bool := match r with
 | [] => false
 | c :: _ => p c
theorem tst_no (h : tst p r = false) : r.takeWhile p = [] /\ r.dropWhile p = r := by
 cases r with
 | nil => exact ⟨rfl,rfl⟩
 | cons c t =>
  have h : p c = false := h;rw [List.takeWhile_cons,List.dropWhile_cons,h];exact ⟨rfl,rfl⟩
theorem tst_yes (h : tst p r = true) : ∃ c t,r = c :: t /\ p c = true /\ r.takeWhile p = c :: t.takeWhile p /\ r.dropWhile p = t.dropWhile p := by
 cases r with
 | nil => cases h
 | cons c t =>
  have h : p c = true := h;refine ⟨c,t,rfl,h,?_,?_⟩
  · rw [List.takeWhile_cons,h];rfl
  rw [List.dropWhile_cons,h];rfl
theorem TW.row1 (h : TW S x E r sc dn w W) {c0 : Ch} {F : List Ch} (hF : c0 :: F <:+ E.L) : ∃ b off q : Nat,pos E (c0 :: F) = (q : Int) /\ q < E.L.length /\ E.L.length <= E.cap /\ E.L.length <= 100000 /\ ∀ (S' : Nat -> Prop) (r' : List Ch) (sc' : Sc) (dn' : Bool) (w' W' : World),TW S' x E r' sc' dn' w' W' -> W'.cell? (jd x 0) = some (.slice (some (jd b off)) E.L.length E.cap) /\ W'.cell? (jd b (off + q * 3 + 1)) = some (ji c0.a) /\ b < W'.heap.size := by
 obtain ⟨fv,h1⟩ := h.tm
 obtain ⟨p,hp⟩ := hF
 have hLc : E.L[p.length]? = some c0 := by rw [<- hp,List.getElem?_append_right (zb _),Nat.sub_self];rfl
 obtain ⟨b,off,elo,_⟩ := h1.row.now _ _ hLc
 refine ⟨b,off,p.length,by unfold pos;rw [<- hp];simp,(zg hLc),h1.cap,h1.few,fun S' r' sc' dn' w' W' h' => ?_⟩
 obtain ⟨_,_,_,_,a5⟩ := h'.at
 obtain ⟨fv',h2⟩ := h'.tm
 obtain ⟨b',off',elo',hb',_,q1,_⟩ := h2.row.now _ _ hLc
 rw [elo] at elo' a5
 simp at elo'
 obtain ⟨rfl,rfl⟩ := elo'
 exact ⟨a5,q1,hb'⟩
theorem TokR.tok {B : Nat} (t : TL) (hok : G9.TkOk W t.1 t.2) (hb : B <= W.heap.size) (ha : t.2 ≠ [] -> ∃ g cur z,t.1.ao = some (jd g 0) /\ B <= g /\ W.heap[g]? = some (.cells cur 49 z)) : TokR B (some (jd W.heap.size 0)) [t] (W.alloc (.cells t.1.arr 45)) := by
 have bl : Below W.heap.size W (W.alloc (.cells t.1.arr 45)) := ze _ _
 have hn : (W.alloc (.cells t.1.arr 45)).heap[W.heap.size]? = some (.cells t.1.arr 45 (0,0)) := zx _ _
 refine ⟨fun i u hu => ?_,fun _ => ⟨_,_,_,rfl,hb,hn⟩,fun u hu hL => ?_⟩
 · cases i with
   | zero =>
    simp only [List.getElem?_cons_zero,Option.some.injEq] at hu;subst hu;refine ⟨⟨W.heap.size,0,rfl,(zf hn),fun j u hj => ?_⟩,hok.below bl⟩;rw [show 0 + 0 * 8 + j = j by omega];simp only [World.cell?,hn];exact hj
   | succ i => simp at hu
 simp at hu
 subst hu
 obtain ⟨g,cur,z,h1,h2,h3⟩ := ha hL
 exact ⟨g,cur,z,h1,h2,(bl.block g (zf h3)).trans h3⟩
def TokB (B : Nat) (S : Nat -> Prop) (x : Nat) (E : Env) (p : List Pt × Sc × List Ch) (dn : Bool) (w : World) (e : Ending) (w' : World) : Prop :=
 ∃ ao T cap,e = jr (.slice ao T.length cap) /\ T.map ptOf = p.1 /\ T.length <= cap /\ TokR B ao T w' /\ TW S x E p.2.2 p.2.1 dn w w'
theorem TW.settext (h : TW S x E r sc dn w W) (b : Int) : TW S x E r { sc with text := b } dn w (W.setCell (jd x 3) (ji b)) := by
 obtain ⟨fv,h1⟩ := h.tm
 obtain ⟨q1,q2⟩ := h1.set (r' := r) (sc' := { sc with text := b }) (dn' := dn) 3 (ji b) (by simp [Env.cells]) h1.suf rfl
 exact ⟨⟨fv,q1⟩,h.keep.trans q2⟩
theorem TW.setlast (h : TW S x E r sc dn w W) (b : ByteArray) : TW S x E r { sc with last := b } dn w (W.setCell (jd x 4) (.string b)) := by
 obtain ⟨fv,h1⟩ := h.tm
 obtain ⟨q1,q2⟩ := h1.set (r' := r) (sc' := { sc with last := b }) (dn' := dn) 4 (.string b) (by simp [Env.cells]) h1.suf rfl
 exact ⟨⟨fv,q1⟩,h.keep.trans q2⟩
theorem TW.c3 (h : TW S x E r sc dn w W) : W.cell? (jd x 3) = some (ji sc.text) /\ W.frozen? (jd x 3) = false /\ W.cell? (jd x 4) = some (.string sc.last) /\ W.frozen? (jd x 4) = false /\ W.cell? (jd x 2) = some (ji E.N) := by
 obtain ⟨fv,h1⟩ := h.tm
 exact ⟨h1.cells 3 _ rfl,h1.free 3,h1.cells 4 _ rfl,h1.free 4,h1.cells 2 _ rfl⟩
abbrev tkA (kind : Int) (nm : ByteArray) (av : Value) (sf : Bool) (f t : Int) : Array Value := #[ji kind,ji 0,.string nm,js,av,.bool sf,ji f,ji t]
theorem done_any (h : Tm S x E r sc dn w) {c0 : Ch} {F : List Ch} (hF : c0 :: F <:+ E.L) (hl : r.length <= F.length) {kind : Int} (hk : kind = 2 \/ kind = 3) (nm : jl) {ao : Option Addr} {n cap : Nat} {A : List At} (sf : Bool) (hA : Stays S w fun w => G9.AtRow w ao A) (hn : A.length = n) (hn2 : n <= 100000) {B : Nat} (hB : B <= w.heap.size) (hAb : A ≠ [] -> ∃ g cur z,ao = some (jd g 0) /\ B <= g /\ S g /\ w.heap[g]? = some (.cells cur 49 z)) (hf : sc.fs.length <= 1000000000) :
 Calls Tryz.prog 104 #[mp x,ji (pos E (c0 :: F)),.agg (tkA kind (bs nm) (.slice ao n cap) sf 0 0)] w (TokB B S x E (doneR (c0 :: F) kind nm sc A sf sc.fs r) dn w) := by
 have k00 := TW.start h
 obtain ⟨b,off,q,hq,hqL,hLc,hL5,hrow⟩ := k00.row1 hF
 rw [hq]
 obtain ⟨L0,hL0⟩ := ex (E.L.length)
 rw [hL0] at hqL hLc hL5 hrow
 obtain ⟨a,ha⟩ := ex (c0.a)
 rw [ha] at hrow
 obtain ⟨z,hz⟩ := ex (endZ E.L r)
 have hz2 : endZ (c0 :: F) r = z := by rw [endZ_suf hF (by simp;omega)];exact hz
 have hlt : r.length < E.L.length := by have := hF.length_le;simp at this;omega
 have HZ := yc hz hlt
 have HRW := hid hrow
 obtain ⟨P,hP⟩ := ex (doneR (c0 :: F) kind nm sc A sf sc.fs r)
 rw [hP]
 obtain ⟨nv,hnv⟩ := ex (bs nm)
 rw [hnv]
 have HP : Hid ((if kind = 2 then ([(⟨2,0,nv,ByteArray.empty,A,sf,a,z⟩ : Pt)],{ sc with text := 0,last := nv },r) else ([(⟨kind,0,nv,ByteArray.empty,[],false,a,z⟩ : Pt)],{ sc with text := 0,fs := if A ≠ [] \/ sf = true then sc.fs ++ [(13,a)] else sc.fs },r)) = P) := by
  show _ = P;rw [<- hP];unfold doneR;rw [hz2,hnv];show _ = if kind = 2 then ([(⟨2,0,nv,ByteArray.empty,A,sf,c0.a,z⟩ : Pt)],{ sc with text := 0,last := nv,fs := sc.fs },r) else ([(⟨kind,0,nv,ByteArray.empty,[],false,c0.a,z⟩ : Pt)],{ sc with text := 0,fs := if A ≠ [] \/ sf = true then sc.fs ++ [(13,c0.a)] else sc.fs },r);rw [ha]
 have HA := yf hA hn hB hAb hf
 obtain ⟨W0,hW0⟩ := ex (w.alloc (.cells (tkA kind nv (.slice ao n cap) sf 0 0) 45))
 have HW0 := hid hW0
 have k0 : TY S x E r sc dn w w.heap.size (tkA kind nv (.slice ao n cap) sf 0 0) 45 W0 := by
  rw [<- hW0];exact TY.new k00 _ 45 (by decide) (by decide)
 have K0 := hid k0
 have hx0 := k0.tw.lt
 have hy0 := k0.lt
 have hne : w.heap.size ≠ x := k0.ne
 have hqi : (q : Int) < (L0 : Int) := by omega
 clear h hF hl hA hn hB hAb hf k00 hq hrow hL0 ha hz hz2 hlt hP hnv hW0 k0
 go_enter Tryz.func104,Tryz.ntmps104
 go_upto_region 1 with fail
 rw [HW0.out]
 go_cut [] (fun wc => TY S x E r sc dn w w.heap.size (tkA kind nv (.slice ao n cap) sf a z) 45 wc)
 case first =>
  obtain ⟨c0a,c1a,c2a⟩ := HRW.out _ _ _ _ _ _ K0.out.tw;obtain ⟨f6,g6⟩ := K0.out.cell 6 rfl;obtain ⟨f7,g7⟩ := K0.out.cell 7 rfl
  go_region_with (first
   | (go_at_call 43;refine ((K0.out.below ((Below.refl _ _).drew)).endz HZ.out.2).mono ?_;rintro e wa ⟨rfl,ka⟩;rw [HZ.out.1];have KA : Hid (TY S x E r sc dn w w.heap.size (tkA kind nv (.slice ao n cap) sf 0 0) 45 wa) := ka;obtain ⟨c0b,c1b,c2b⟩ := HRW.out _ _ _ _ _ _ ka.tw;obtain ⟨f6a,g6a⟩ := ka.cell 6 rfl;obtain ⟨f7a,g7a⟩ := ka.cell 7 rfl;have hxa := ka.tw.lt;have hya := ka.lt;clear ka))
  all_goals
   go_wp2_with fail;go_meet
   case rel => exact (KA.out.put 6 (ji a) rfl).put 7 (ji z) rfl
 have K1 := hid hcut
 have hxc := hcut.tw.lt
 have hyc := hcut.lt
 obtain ⟨d3,d4,_,_,_⟩ := hcut.tw.c3
 obtain ⟨W2,hW2⟩ := ex (wc.setCell (jd x 3) (ji 0))
 have HW2 := hid hW2
 have k2 : TY S x E r { sc with text := 0 } dn w w.heap.size (tkA kind nv (.slice ao n cap) sf a z) 45 W2 := by
  rw [<- hW2];exact hcut.hop (hcut.tw.settext 0)
 have K2 := hid k2
 clear hW2 hcut K0 K1 hx0 hy0
 go_upto_region 3 with fail
 rw [HW2.out]
 clear d3 d4 hxc hyc HW2
 have hx2 := k2.tw.lt
 have hy2 := k2.lt
 obtain ⟨e0,_⟩ := k2.cell 0 rfl
 obtain ⟨e2,_⟩ := k2.cell 2 rfl
 rcases hk with rfl | rfl
 · obtain ⟨_,_,d5,d6,_⟩ := k2.tw.c3
   obtain ⟨W3,hW3⟩ := ex (W2.setCell (jd x 4) (.string nv));have HW3 := hid hW3;have k3 : TY S x E r { sc with text := 0,last := nv } dn w w.heap.size (tkA 2 nv (.slice ao n cap) sf a z) 45 W3 := by
    rw [<- hW3];exact k2.hop (k2.tw.setlast nv)
   have HR : Hid (TokB B S x E P dn w (jr (.slice (some (jd W3.heap.size 0)) 1 1)) (W3.alloc (.cells (tkA 2 nv (.slice ao n cap) sf a z) 45))) := by
    have hP := HP.out;rw [jp rfl] at hP;refine ⟨some (jd W3.heap.size 0),[(⟨2,0,nv,⟨#[]⟩,ao,n,cap,sf,a,z⟩,A)],1,rfl,by rw [<- hP];rfl,zb _,TokR.tok (⟨2,0,nv,⟨#[]⟩,ao,n,cap,sf,a,z⟩,A) ⟨HA.out.2.1,(HA.out.1.keep k3.tw.keep).now,by show n <= _;omega⟩ (zr HA.out.2.2.1 k3.tw.keep.size) (fun hne => ?_),?_⟩
    · obtain ⟨g,cur,z',h1,h2,h3,h4⟩ := HA.out.2.2.2.1 hne
      exact ⟨g,cur,z',h1,h2,(k3.tw.keep.block g h3 (zf h4)).trans h4⟩
    rw [<- hP];exact k3.tw.below (ze _ _)
   clear hW3 k2;go_upto_region 5 with fail
   rw [HW3.out];clear d5 d6 e0 e2 HW3;obtain ⟨e0,_⟩ := k3.cell 0 rfl;obtain ⟨e1,_⟩ := k3.cell 1 rfl;obtain ⟨e2,_⟩ := k3.cell 2 rfl;obtain ⟨e3,_⟩ := k3.cell 3 rfl;obtain ⟨e4,_⟩ := k3.cell 4 rfl;obtain ⟨e5,_⟩ := k3.cell 5 rfl;obtain ⟨e6,_⟩ := k3.cell 6 rfl;obtain ⟨e7,_⟩ := k3.cell 7 rfl;have hy3 := k3.lt;clear k3;go_wp2_with fail;go_ret;exact HR.out
 obtain ⟨e4,_⟩ := k2.cell 4 rfl
 obtain ⟨e5,_⟩ := k2.cell 5 rfl
 obtain ⟨e6,_⟩ := k2.cell 6 rfl
 obtain ⟨e7,_⟩ := k2.cell 7 rfl
 have HFIN : Hid (∀ (fs : Fs) (W : World),P = ([(⟨3,0,nv,ByteArray.empty,[],false,a,z⟩ : Pt)],{ sc with text := 0,fs := fs },r) -> TY S x E r { sc with text := 0,fs := fs } dn w w.heap.size (tkA 3 nv (.slice ao n cap) sf a z) 45 W -> TokB B S x E P dn w (jr (.slice (some (jd W.heap.size 0)) 1 1)) (W.alloc (.cells (tkA 3 nv jn false a z) 45))) := fun fs W hP k => by
  refine ⟨some (jd W.heap.size 0),[(⟨3,0,nv,⟨#[]⟩,none,0,0,false,a,z⟩,[])],1,rfl,by rw [hP];rfl,zb _,TokR.tok (⟨3,0,nv,⟨#[]⟩,none,0,0,false,a,z⟩,[]) ⟨rfl,G9.AtRow.nil _ _,Nat.zero_le _⟩ (zr HA.out.2.2.1 k.tw.keep.size) (fun hne => absurd rfl hne),?_⟩;rw [hP];exact k.tw.below (ze _ _)
 have HP3 : Hid (([(⟨3,0,nv,ByteArray.empty,[],false,a,z⟩ : Pt)],{ sc with text := 0,fs := if A ≠ [] \/ sf = true then sc.fs ++ [(13,a)] else sc.fs },r) = P) := by
  have hP := HP.out;rw [jq (by decide)] at hP;exact hP
 clear k2 HW0 HP
 by_cases hn0 : n = 0
 · have hA0 : A = [] := yb (by rw [HA.out.2.1];exact hn0)
   subst hn0;cases sf with
   | true =>
    have HPT : Hid (P = ([(⟨3,0,nv,ByteArray.empty,[],false,a,z⟩ : Pt)],{ sc with text := 0,fs := sc.fs ++ [(13,a)] },r)) := by
     have hP := HP3.out;rw [jp (.inr rfl)] at hP;exact hP.symm
    clear hA0;go_wp2_with fail;refine (K2.out.tfl 13 a HA.out.2.2.2.2).mono ?_;rintro e W3 ⟨rfl,k3⟩;have HR' : Hid (TokB B S x E P dn w (jr (.slice (some (jd W3.heap.size 0)) 1 1)) (W3.alloc (.cells (tkA 3 nv jn false a z) 45))) := HFIN.out (sc.fs ++ [(13,a)]) W3 HPT.out k3;clear e0 e2 e4 e5 e6 e7;obtain ⟨e0,_⟩ := k3.cell 0 rfl;obtain ⟨e2,_⟩ := k3.cell 2 rfl;obtain ⟨e6,_⟩ := k3.cell 6 rfl;obtain ⟨e7,_⟩ := k3.cell 7 rfl;have hy3 := k3.lt;clear k3;go_wp2_with fail;go_ret;exact HR'.out
   | false =>
    have HPT : Hid (P = ([(⟨3,0,nv,ByteArray.empty,[],false,a,z⟩ : Pt)],{ sc with text := 0,fs := sc.fs },r)) := by
     have hP := HP3.out;rw [jq (by simp [hA0])] at hP;exact hP.symm
    clear hA0;have HR := HFIN.out sc.fs W2 HPT.out K2.out;have HR' : Hid (TokB B S x E P dn w (jr (.slice (some (jd W2.heap.size 0)) 1 1)) (W2.alloc (.cells (tkA 3 nv jn false a z) 45))) := HR;clear HR;go_wp2_with fail;go_ret;exact HR'.out
 have hgt : decide ((n : Int) > 0) = true := zm (by omega)
 have HPT : Hid (P = ([(⟨3,0,nv,ByteArray.empty,[],false,a,z⟩ : Pt)],{ sc with text := 0,fs := sc.fs ++ [(13,a)] },r)) := by
  have hP := HP3.out;rw [jp (.inl fun e => hn0 (by rw [<- HA.out.2.1,e];rfl))] at hP;exact hP.symm
 go_wp2_with fail
 refine (K2.out.tfl 13 a HA.out.2.2.2.2).mono ?_
 rintro e W3 ⟨rfl,k3⟩
 have HR' : Hid (TokB B S x E P dn w (jr (.slice (some (jd W3.heap.size 0)) 1 1)) (W3.alloc (.cells (tkA 3 nv jn false a z) 45))) := HFIN.out (sc.fs ++ [(13,a)]) W3 HPT.out k3
 clear e0 e2 e4 e5 e6 e7
 obtain ⟨e0,_⟩ := k3.cell 0 rfl
 obtain ⟨e2,_⟩ := k3.cell 2 rfl
 obtain ⟨e6,_⟩ := k3.cell 6 rfl
 obtain ⟨e7,_⟩ := k3.cell 7 rfl
 have hy3 := k3.lt
 clear k3
 go_wp2_with fail
 go_ret
 exact HR'.out
end Go.Proofs.YtjjfalbngcbfaaaGreatDoor
