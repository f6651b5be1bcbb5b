import Derived.Test.YtjjfalbngcbfaaaGreatDoorZ0
import Derived.Test.YtjjfalbngcbfaaaGreatDoorZx
namespace Go.Proofs.YtjjfalbngcbfaaaGreatDoor
open Go.RowKit
variable {X : List Pt} {m m' : Mc} {c d c0 : Ch} {auto : Bool} {N : Int} {l : List G6.Rf} {P r r1 r2 : jl} {x x1 x2 : UInt8} {n base k : Nat} {q a b : List Ch}
abbrev Fs := List (Int × Int)
structure Sc where
 text : Int
 last : ByteArray
 cd : Bool
 fs : Fs
def hd (r : List Ch) : Int := match r with | [] => -1 | c :: _ => c.r
def frN (N : Int) (r : List Ch) : Int := match r with | [] => N | c :: _ => c.a
def endZ (F r : List Ch) : Int := Mc.toAt F (F.length - r.length - 1)
def toldR (F r : List Ch) : List Pt := (F.take (F.length - r.length)).map (chT false)
def lows (l : List Ch) : jl := l.flatMap fun c => enc (lowr c.r)
def byt (r : Int) : UInt8 := r.toNat.toUInt8
def wrd (r : Int) : Bool := G6.wordyP r.toNat || r == 35
def ahT : List Ch -> jl
 | [] => []
 | c :: t => if 128 <= c.r then [128] else if wrd c.r = false then [byt c.r] else byt c.r :: ahT t
def ahead (r : List Ch) : jl := match r with
 | [] => []
 | c :: t => if 128 <= c.r then [128] else byt c.r :: ahT t
def refR (attr : Bool) (r : List Ch) : Int × Nat × List Int := G6.refP G6.refs attr (ahead r)
def pieceR (r : List Ch) (fs : Fs) : jl × Fs × List Ch :=
 match r with
 | [] => ([],fs,[])
 | c :: t =>
  if c.r = 38 then
   (if (refR true r).2.1 = 0 then (enc c.r,fs ++ Mc.refFaults r (refR true r).2.1 (refR true r).2.2,t)
    else (enc (refR true r).1,fs ++ Mc.refFaults r (refR true r).2.1 (refR true r).2.2,r.drop (refR true r).2.1))
  else (enc c.r,fs,t)
def quoR (q : Int) : Nat -> jl -> Fs -> List Ch -> jl × Fs × List Ch
 | 0,s,fs,r => (s,fs,r)
 | n + 1,s,fs,r => if r = [] \/ hd r = q then (s,fs,r) else quoR q n (s ++ (pieceR r fs).1) (pieceR r fs).2.1 (pieceR r fs).2.2
def odd (r : Int) : Bool := r == 34 || r == 39 || r == 60
def odd5 (r : Int) : Bool := r == 34 || r == 39 || r == 60 || r == 61 || r == 96
def oddF (r : List Ch) (fs : Fs) : Fs := match r with | [] => fs | c :: _ => if odd5 c.r = true then fs ++ [(8,c.a)] else fs
def bareR : Nat -> jl -> Fs -> List Ch -> jl × Fs × List Ch
 | 0,s,fs,r => (s,fs,r)
 | n + 1,s,fs,r => if r = [] \/ blk (hd r) = true \/ hd r = 62 then (s,fs,r) else bareR n (s ++ (pieceR r (oddF r fs)).1) (pieceR r (oddF r fs)).2.1 (pieceR r (oddF r fs)).2.2
def isB (c : Ch) : Bool := blk c.r
def skipB (r : List Ch) : List Ch := r.dropWhile isB
def between (fs : Fs) (r : List Ch) : Fs := match r with
 | [] => fs
 | c :: _ => if blk c.r = true \/ c.r = 47 \/ c.r = 62 then fs else fs ++ [(11,c.a)]
def valueR (N : Int) (fs : Fs) (r : List Ch) : jl × Fs × List Ch :=
 if hd (skipB r) = 34 \/ hd (skipB r) = 39 then
  (let p := quoR (hd (skipB r)) (skipB r).length [] fs (skipB r).tail
   if p.2.2 = [] then p else (p.1,between p.2.1 p.2.2.tail,p.2.2.tail))
 else if hd (skipB r) = 62 then ([],fs ++ [(10,frN N (skipB r))],skipB r)
 else bareR (skipB r).length [] fs (skipB r)
def nmC (c : Ch) : Bool := !(blk c.r || c.r == 47 || c.r == 62)
def anC (c : Ch) : Bool := !(blk c.r || c.r == 47 || c.r == 62 || c.r == 61)
def odds (l : List Ch) : Fs := (l.filter fun c => odd c.r).map fun c => (8,c.a)
def anameR (fs : Fs) (r : List Ch) : jl × Fs × List Ch := match r with
 | [] => ([],fs,[])
 | c :: t => if c.r = 61 then ([61] ++ lows (t.takeWhile anC),fs ++ [(8,c.a)] ++ odds (t.takeWhile anC),t.dropWhile anC)
  else (lows (r.takeWhile anC),fs ++ odds (r.takeWhile anC),r.dropWhile anC)
def dups (A : List At) (nm : jl) (at' : Int) : Fs := (A.filter fun a => decide (a.nm = nm)).map fun _ => (9,at')
def dup (A : List At) (nm : jl) : Bool := A.any fun a => decide (a.nm = nm)
def attrR (N : Int) (A : List At) (fs : Fs) (r : List Ch) : (jl × jl) × Bool × Fs × List Ch :=
 let p := anameR fs r
 if p.2.2 = [] then ((p.1,[]),false,p.2.1,[]) else
 if hd (skipB p.2.2) = 61 then
  (let v := valueR N (p.2.1 ++ dups A p.1 (frN N r)) (skipB p.2.2).tail
   ((p.1,v.1),!dup A p.1,v.2.1,v.2.2))
 else ((p.1,[]),!dup A p.1,p.2.1 ++ dups A p.1 (frN N r),p.2.2)
def addA (A : List At) (p : (jl × jl) × Bool × Fs × List Ch) : List At := if p.2.1 = true then A ++ [⟨bs p.1.1,bs p.1.2⟩] else A
def tagL (N : Int) : Nat -> List At -> Bool -> Fs -> List Ch -> Option (List At × Bool) × Fs × List Ch
 | 0,_,_,fs,r => (none,fs,r)
 | n + 1,A,sf,fs,r => match skipB r with
  | [] => (none,fs ++ [(7,N)],[])
  | c :: t =>
   if c.r = 62 then (some (A,sf),fs,t)
   else if c.r = 47 then
    (if hd t = 62 then tagL N n A true fs t
     else if t ≠ [] then tagL N n A sf (fs ++ [(12,frN N t)]) t else tagL N n A sf fs t)
   else tagL N n (addA A (attrR N A fs (c :: t))) sf (attrR N A fs (c :: t)).2.2.1 (attrR N A fs (c :: t)).2.2.2
def doneR (F : List Ch) (kind : Int) (nm : jl) (sc : Sc) (A : List At) (sf : Bool) (fs : Fs) (t : List Ch) : List Pt × Sc × List Ch :=
 if kind = 2 then ([⟨2,0,bs nm,ByteArray.empty,A,sf,Mc.frAt F,endZ F t⟩],{ sc with text := 0,last := bs nm,fs := fs },t)
 else ([⟨kind,0,bs nm,ByteArray.empty,[],false,Mc.frAt F,endZ F t⟩],{ sc with text := 0,fs := if A ≠ [] \/ sf = true then fs ++ [(13,Mc.frAt F)] else fs },t)
def tagE (F : List Ch) (kind : Int) (nm : jl) (sc : Sc) (p : Option (List At × Bool) × Fs × List Ch) : List Pt × Sc × List Ch := match p with
 | (none,fs,r) => ([],{ sc with fs := fs },r)
 | (some (A,sf),fs,r) => doneR F kind nm sc A sf fs r
def tagR (N : Int) (F : List Ch) (kind : Int) (sc : Sc) (r : List Ch) : List Pt × Sc × List Ch :=
 tagE F kind (lows (r.takeWhile nmC)) sc (tagL N ((r.dropWhile nmC).length + 1) [] false sc.fs (r.dropWhile nmC))
def comT (F : List Ch) (s : jl) (r : List Ch) : List Pt := [⟨4,0,ByteArray.empty,bs s,[],false,Mc.frAt F,endZ F r⟩]
def isG (c : Ch) : Bool := c.r != 62
def bogusR (F : List Ch) (sc : Sc) (r : List Ch) : List Pt × Sc × List Ch :=
 (comT F (encs (r.takeWhile isG)) (r.dropWhile isG).tail,sc,(r.dropWhile isG).tail)
def isW (fold : Bool) : jl -> List Ch -> Bool
 | [],_ => true
 | _ :: _,[] => false
 | b :: s,c :: t => decide ((if fold = true then Mc.lowL (enc c.r) else enc c.r) = [b]) && isW fold s t
def cutR (s : jl) : jl :=
 if [45,45,33].isSuffixOf s = true then s.take (s.length - 3) else if [45,45].isSuffixOf s = true then s.take (s.length - 2) else if [45].isSuffixOf s = true then s.take (s.length - 1) else s
def nthA (r : List Ch) (k : Nat) : Int := match r[k]? with | some c => c.a | none => 0
def comR (N : Int) (F : List Ch) (sc : Sc) : jl -> List Ch -> List Pt × Sc × List Ch
 | s,[] => (comT F (cutR s) [],{ sc with fs := sc.fs ++ [(16,N)] },[])
 | s,c :: t =>
  if isW false [45,45,62] (c :: t) = true then (comT F s ((c :: t).drop 3),sc,(c :: t).drop 3)
  else if isW false [45,45,33,62] (c :: t) = true then (comT F s ((c :: t).drop 4),{ sc with fs := sc.fs ++ [(15,nthA (c :: t) 3)] },(c :: t).drop 4)
  else comR N F sc (s ++ enc c.r) t
def textR (N : Int) (F : List Ch) (sc : Sc) (r : List Ch) : List Pt × Sc × List Ch :=
 if isW false [62] r = true then (comT F [] r.tail,{ sc with fs := sc.fs ++ [(15,frN N r)] },r.tail)
 else if isW false [45,62] r = true then (comT F [] (r.drop 2),{ sc with fs := sc.fs ++ [(15,nthA r 1)] },r.drop 2)
 else comR N F sc [] r
def docT (F : List Ch) (nm : jl) (sf : Bool) (r : List Ch) : List Pt := [⟨5,0,bs nm,ByteArray.empty,[],sf,Mc.frAt F,endZ F r⟩]
def dnC (c : Ch) : Bool := !(blk c.r || c.r == 62)
def docR (N : Int) (F : List Ch) (sc : Sc) (r : List Ch) : List Pt × Sc × List Ch :=
 let r1 := skipB r
 let f1 : Bool × Fs := if hd r1 = 62 then (true,sc.fs ++ [(17,frN N r1)]) else (false,sc.fs)
 let nm := lows (r1.takeWhile dnC)
 let r2 := skipB (r1.dropWhile dnC)
 let f2 : Bool × Fs := if r2 ≠ [] /\ hd r2 ≠ 62 then (true,f1.2 ++ [(17,frN N r2)]) else f1
 let r3 := r2.dropWhile isG
 let f3 : Bool × Fs := if r3 = [] then (true,f2.2 ++ [(17,N)]) else f2
 (docT F nm f3.1 r3.tail,{ sc with fs := f3.2 },r3.tail)
def markupR (N : Int) (fo : Bool) (F : List Ch) (sc : Sc) (r : List Ch) : List Pt × Sc × List Ch :=
 if isW false Mc.dashW r = true then textR N F sc (r.drop 2)
 else if isW true Mc.docW r = true then docR N F sc (r.drop 7)
 else if isW false Mc.cdW r = true then (if fo = true then ([],{ sc with cd := true },r.drop 7) else bogusR F { sc with fs := sc.fs ++ [(21,frN N r)] } r)
 else bogusR F { sc with fs := sc.fs ++ [(14,frN N r)] } r
def endOpenR (N : Int) (F : List Ch) (sc : Sc) (r : List Ch) : List Pt × Sc × List Ch :=
 if ltr (hd r) = true then tagR N F 3 sc r
 else if hd r = 62 then ([],{ sc with fs := sc.fs ++ [(6,frN N r)] },r.tail)
 else if r = [] then (toldR F r,{ sc with fs := sc.fs ++ [(6,N)] },r)
 else bogusR F { sc with fs := sc.fs ++ [(14,frN N r)] } r
def openR (N : Int) (fo : Bool) (F : List Ch) (sc : Sc) (r : List Ch) : List Pt × Sc × List Ch :=
 if hd r = 33 then markupR N fo F sc r.tail
 else if hd r = 47 then endOpenR N F sc r.tail
 else if ltr (hd r) = true then tagR N F 2 sc r
 else if hd r = 63 then bogusR F { sc with fs := sc.fs ++ [(14,frN N r)] } r
 else (toldR F r,{ sc with fs := sc.fs ++ [(5,frN N r)] },r)
def isL (c : Ch) : Bool := ltr c.r
def rawR (N : Int) (F : List Ch) (sc : Sc) (r : List Ch) : List Pt × Sc × List Ch :=
 if hd r = 47 then
  (let q := r.tail.takeWhile isL
   let r2 := r.tail.dropWhile isL
   if q ≠ [] /\ lows q = sc.last.data.toList /\ (blk (hd r2) = true \/ hd r2 = 47 \/ hd r2 = 62) then tagR N F 3 sc r.tail
   else (toldR F r2,sc,r2))
 else (toldR F r,sc,r)
def cdR (sc : Sc) (r : List Ch) : List Pt × Sc × List Ch :=
 if isW false [93,93,62] r = true then ([],{ sc with cd := false },r.drop 3)
 else (toldR r r.tail,sc,r.tail)
def nextR (N : Int) (fo : Bool) (sc : Sc) (r : List Ch) : List Pt × Sc × List Ch :=
 if sc.cd = true then cdR sc r
 else if hd r = 38 /\ (sc.text = 0 \/ sc.text = 1) then
  (if (refR false r).2.1 = 0 then (toldR r r.tail,{ sc with fs := sc.fs ++ Mc.refFaults r (refR false r).2.1 (refR false r).2.2 },r.tail)
   else ([chT true ⟨(refR false r).1,Mc.frAt r,Mc.toAt r ((refR false r).2.1 - 1)⟩],{ sc with fs := sc.fs ++ Mc.refFaults r (refR false r).2.1 (refR false r).2.2 },r.drop (refR false r).2.1))
 else if hd r = 60 /\ sc.text = 0 then openR N fo r sc r.tail
 else if hd r = 60 /\ sc.text ≠ 3 then rawR N r sc r.tail
 else (toldR r r.tail,sc,r.tail)
def lastSt (L : List Pt) : Option ByteArray := match L.getLast? with
 | some t => if t.k = 2 then some t.nm else none
 | none => none
def autoSc (auto : Bool) (L : List Pt) (sc : Sc) : Sc := if auto = true then (match lastSt L with | some nm => { sc with text := G7.textK nm } | none => sc) else sc
def eofP6 (N : Int) : Pt := ⟨6,0,ByteArray.empty,ByteArray.empty,[],false,N,N⟩
def refT (auto fo : Bool) (N : Int) : Nat -> Sc -> List Ch -> List Pt × Fs
 | 0,sc,_ => ([],sc.fs)
 | n + 1,sc,r => if r = [] then ([eofP6 N],sc.fs) else
  ((nextR N fo sc r).1 ++ (refT auto fo N n (autoSc auto (nextR N fo sc r).1 (nextR N fo sc r).2.1) (nextR N fo sc r).2.2).1,
   (refT auto fo N n (autoSc auto (nextR N fo sc r).1 (nextR N fo sc r).2.1) (nextR N fo sc r).2.2).2)
def Mc.aut (b : Bool) (L : List Pt) (m : Mc) : Mc := if b = true then (match lastSt L with | some nm => m.set (G7.textK nm) | none => m) else m
def tot (auto : Bool) (N : Int) : List Ch -> Mc -> List Pt × Fs
 | [],m => ((m.ended N).1,(m.ended N).2.fs)
 | c :: l,m => ((m.feed c).1 ++ (tot auto N l (Mc.aut auto (m.feed c).1 (m.feed c).2)).1,(tot auto N l (Mc.aut auto (m.feed c).1 (m.feed c).2)).2)
def pre (X : List Pt) (p : List Pt × Fs) : List Pt × Fs := (X ++ p.1,p.2)
theorem pre_nil (p : List Pt × Fs) : pre [] p = p := rfl
theorem pre_pre (X Y : List Pt) (p : List Pt × Fs) : pre X (pre Y p) = pre (X ++ Y) p := by simp [pre]
def clean (fo : Bool) (sc : Sc) : Mc := ⟨if sc.cd = true then 113 else 27,28,sc.text,fo,sc.last,[],[],0,0,[],[],false,[],0,[],[],false,[],sc.fs⟩
def cont (auto fo : Bool) (N : Int) (p : List Pt × Sc × List Ch) : List Pt × Fs := pre p.1 (tot auto N p.2.2 (clean fo (autoSc auto p.1 p.2.1)))
theorem cont_nil (auto fo : Bool) (N : Int) (sc : Sc) (r : List Ch) : cont auto fo N ([],sc,r) = tot auto N r (clean fo sc) := by
 unfold cont autoSc lastSt
 simp [pre]
theorem lastSt_none (h : ∀ t ∈ X,t.k ≠ 2) : lastSt X = none := by
 unfold lastSt
 split
 · next t ht => rw [jq (h t (List.mem_of_getLast? ht))]
 rfl
theorem lastSt_app {O : List Pt} (h : ∀ t ∈ X,t.k ≠ 2) : lastSt (X ++ O) = lastSt O := by
 cases O with
 | nil => rw [zu,lastSt_none h];rfl
 | cons a O =>
  unfold lastSt;rw [List.getLast?_append];cases h2 : (a :: O).getLast? with
  | none => simp at h2
  | some b => rfl
theorem aut_none (b : Bool) (h : ∀ t ∈ X,t.k ≠ 2) (m : Mc) : Mc.aut b X m = m := by
 unfold Mc.aut
 rw [lastSt_none h]
 simp
theorem autoSc_none (b : Bool) (h : ∀ t ∈ X,t.k ≠ 2) (sc : Sc) : autoSc b X sc = sc := by
 unfold autoSc
 rw [lastSt_none h]
 simp
theorem feed_take (hr : m.ref = []) : m.feed c = ((m.take c).out,{ m.take c with out := [] }) := by
 unfold Mc.feed Mc.step
 rw [jq (by simpa using hr)]
theorem tot_go {l : List Ch} (hr : m.ref = []) (h : m.take c = m') (ho : m'.out = []) : tot auto N (c :: l) m = tot auto N l m' := by
 conv => lhs;unfold tot
 rw [feed_take hr,h,ho,aut_none auto (by simp)]
 obtain ⟨⟩ := m'
 simp only at ho
 subst ho
 rfl
theorem tot_say {l : List Ch} (hr : m.ref = []) (h : m.take c = m') (ho : ∀ t ∈ m'.out,t.k ≠ 2) : tot auto N (c :: l) m = pre m'.out (tot auto N l { m' with out := [] }) := by
 conv => lhs;unfold tot
 rw [feed_take hr,h,aut_none auto ho]
 rfl
theorem tot_same {k : Mc} {l : List Ch} (hr : m.ref = []) (hk : k.ref = []) (h : m.take c = k.take c) : tot auto N (c :: l) m = tot auto N (c :: l) k := by
 unfold tot
 rw [feed_take hr,feed_take hk,h]
theorem tot_end (hr : m.ref = []) : tot auto N [] m = ((m.endS N).out ++ [eofP6 N],(m.endS N).fs) := by
 unfold tot Mc.ended
 simp only [hr,ne_eq,not_true_eq_false,if_false]
 rfl
theorem tot_clean (auto fo : Bool) (N : Int) (sc : Sc) : tot auto N [] (clean fo sc) = ([eofP6 N],sc.fs) := by
 rw [tot_end rfl]
 rfl
def Like (x y : UInt8) : Prop := x = y \/ (128 <= x.toNat /\ 128 <= y.toNat)
theorem best_take (l : List G6.Rf) (P y : jl) : ∀ k,k <= P.length -> G6.best l (P ++ y) k = G6.best l P k
 | 0,_ => rfl
 | k + 1,h => by
  unfold G6.best;rw [List.take_append_of_le_length h,best_take l P y k (by omega)]
theorem best_cut (h : G6.pre l (P ++ [x]) = false) : G6.best l (P ++ x :: r) (P ++ x :: r).length = G6.best l P P.length := by
 have ht : (P ++ x :: r).take (P.length + 1) = P ++ [x] := by
  rw [List.take_append,List.take_of_length_le (by omega)];simp
 rw [G6.best_stop (k := P.length) (by rw [ht];exact h) _ (by simp),best_take l P _ _ (zb _)]
theorem begC_low {y : jl} (h : n < P.length) : G6.begC l (P ++ y) n = G6.begC l P n := by
 unfold G6.begC
 rw [List.getElem?_append_left h,List.take_append_of_le_length (by omega)]
theorem begC_at (h : G6.pre l (P ++ [x]) = false) : G6.begC l (P ++ x :: r) P.length = false := by
 have ht : (P ++ x :: r).take (P.length + 1) = P ++ [x] := by
  rw [List.take_append,List.take_of_length_le (by omega)];simp
 unfold G6.begC
 rw [List.getElem?_append_right (zb _),Nat.sub_self]
 simp only [List.getElem?_cons_zero]
 rw [ht,G6.goes_pre,h,Bool.and_false]
theorem begF_cut {l : List G6.Rf} {P r : jl} {x : UInt8} (h : G6.pre l (P ++ [x]) = false) : ∀ (f n : Nat),n <= P.length -> P.length - n < f -> G6.begF l (P ++ x :: r) f n = G6.begF l P (P.length - n) n
 | 0,n,_,hf => by omega
 | f + 1,n,hn,hf => by
  unfold G6.begF;by_cases e : n = P.length
  · subst e
    rw [begC_at h,Nat.sub_self];simp
  obtain ⟨k,hk⟩ : ∃ k,P.length - n = k + 1 := ⟨P.length - n - 1,by omega⟩;rw [hk,begC_low (by omega)];simp only;split
  · rw [begF_cut h f (n + 1) (by omega) (by omega),show P.length - (n + 1) = k by omega]
  rfl
theorem begF_le (l : List G6.Rf) (P : jl) : ∀ (f n : Nat),G6.begF l P f n <= n + f
 | 0,n => zb _
 | f + 1,n => by
  unfold G6.begF;split
  · have := begF_le l P f (n + 1);omega
  omega
theorem drop_like (h : Like x1 x2) {B : Nat} (hB : B <= P.length) : ∃ a1 t1 a2 t2,(P ++ x1 :: r1).drop B = a1 :: t1 /\ (P ++ x2 :: r2).drop B = a2 :: t2 /\ Like a1 a2 := by
 by_cases e : B = P.length
 · subst e
   exact ⟨x1,r1,x2,r2,by simp,by simp,h⟩
 rw [List.drop_append_of_le_length hB,List.drop_append_of_le_length hB]
 cases hd : P.drop B with
 | nil => have := congrArg List.length hd;simp at this;omega
 | cons a t => exact ⟨a,_,a,_,rfl,rfl,.inl rfl⟩
theorem semi_like (h : Like x1 x2) (t1 t2 : jl) : [59].isPrefixOf (x1 :: t1) = [59].isPrefixOf (x2 :: t2) := by
 rcases h with rfl | ⟨h1,h2⟩
 · simp [List.isPrefixOf]
 have e1 : ((59 : UInt8) == x1) = false := by
  apply beq_false_of_ne;intro e;subst e;exact absurd h1 (by decide)
 have e2 : ((59 : UInt8) == x2) = false := by
  apply beq_false_of_ne;intro e;subst e;exact absurd h2 (by decide)
 simp [List.isPrefixOf,e1,e2]
theorem goesOn_like (h : Like x1 x2) (t1 t2 : jl) : G6.goesOnP (x1 :: t1) = G6.goesOnP (x2 :: t2) := by
 rcases h with rfl | ⟨h1,h2⟩
 · rfl
 unfold G6.goesOnP G6.wordyP
 have e1 : (x1.toNat == 61) = false := by simp;omega
 have e2 : (x2.toNat == 61) = false := by simp;omega
 simp only [e1,e2,Bool.false_or]
 rw [zn (by omega),zn (by omega)]
theorem begun_like (h : Like x1 x2) (p1 : G6.pre l (P ++ [x1]) = false) (p2 : G6.pre l (P ++ [x2]) = false) : G6.begunP l (P ++ x1 :: r1) = G6.begunP l (P ++ x2 :: r2) := by
 unfold G6.begunP G6.begN
 rw [begF_cut p1 _ 0 (Nat.zero_le _) (by simp),begF_cut p2 _ 0 (Nat.zero_le _) (by simp)]
 have hB : G6.begF l P (P.length - 0) 0 <= P.length := by have := begF_le l P (P.length - 0) 0;omega
 obtain ⟨a1,t1,a2,t2,e1,e2,h2⟩ := drop_like (r1 := r1) (r2 := r2) h hB
 rw [e1,e2,semi_like h2]
theorem named_like (attr : Bool) (h : Like x1 x2) (p1 : G6.pre l (P ++ [x1]) = false) (p2 : G6.pre l (P ++ [x2]) = false) : G6.namedP l attr (P ++ x1 :: r1) = G6.namedP l attr (P ++ x2 :: r2) := by
 unfold G6.namedP
 rw [best_cut p1,best_cut p2,begun_like (r1 := r1) (r2 := r2) h p1 p2]
 have hz := G6.best_le l P P.length
 obtain ⟨a1,t1,a2,t2,e1,e2,h2⟩ := drop_like (r1 := r1) (r2 := r2) h hz
 rw [e1,e2,goesOn_like h2]
 by_cases h0 : (G6.best l P P.length).2 = 0
 · rw [jp h0,jp h0]
 rw [jq h0,jq h0,List.getElem?_append_left (by omega),List.getElem?_append_left (by omega)]
theorem digs_cut (hP : ∀ b ∈ P,G6.dig b.toNat < base) (hx : ¬ G6.dig x.toNat < base) : G6.digs base (P ++ x :: r) = P := by
 unfold G6.digs
 induction P with
 | nil => rw [List.nil_append,List.takeWhile_cons,jq (by simpa using hx)]
 | cons a P ih =>
  rw [List.cons_append,List.takeWhile_cons,jp (by simpa using hP a (by simp)),ih fun b hb => hP b (by simp [hb])]
theorem num_like {A : jl} (h : Like x1 x2) (hA : A.length = k) (hP : ∀ b ∈ P,G6.dig b.toNat < base) (h1 : ¬ G6.dig x1.toNat < base) (h2 : ¬ G6.dig x2.toNat < base) : G6.numB k base (A ++ (P ++ x1 :: r1)) = G6.numB k base (A ++ (P ++ x2 :: r2)) := by
 have d : ∀ y : jl,(A ++ y).drop k = y := fun y => by rw [<- hA];simp
 have d2 : ∀ y : jl,(A ++ (P ++ y)).drop (k + P.length) = y := fun y => by
  rw [<- List.append_assoc,<- hA,<- zh];simp
 unfold G6.numB
 rw [d,d,digs_cut hP h1,digs_cut hP h2,d2,d2,semi_like h]
def wcC (c : Ch) : Prop := 0 <= c.r /\ c.r < 128 /\ wrd c.r = true
theorem wc_byte (h0 : 0 <= c.r) (h1 : c.r < 128) : enc c.r = [byt c.r] /\ (byt c.r).toNat = c.r.toNat := by
 refine ⟨enc_low h0 h1,?_⟩
 have : c.r.toNat < 256 := by omega
 unfold byt
 simp [Nat.toUInt8,UInt8.toNat_ofNat',Nat.mod_eq_of_lt this]
def byts (q : List Ch) : jl := q.map fun c => byt c.r
theorem encs_byts : ∀ {q : List Ch},(∀ c ∈ q,wcC c) -> encs q = byts q
 | [],_ => rfl
 | c :: q,h => by
  have h1 := h c (by simp);have h2 := encs_byts (q := q) fun d hd => h d (by simp [hd]);unfold encs at h2 |-;rw [List.flatMap_cons,h2,(wc_byte h1.1 h1.2.1).1];rfl
theorem ahT_byts : ∀ {q : List Ch} (t : List Ch),(∀ c ∈ q,wcC c) -> ahT (q ++ t) = byts q ++ ahT t
 | [],_,_ => rfl
 | c :: q,t,h => by
  have h1 := h c (by simp);have h2 := ahT_byts (q := q) t fun d hd => h d (by simp [hd]);rw [List.cons_append]
  conv => lhs;unfold ahT
  rw [jq (by have := h1.2.1;omega),jq (by simp [h1.2.2]),h2];rfl
theorem last_like (t : List Ch) (h0 : 0 <= d.r) : ∃ x1 r1 x2 r2,enc d.r = x1 :: r1 /\ ahT (d :: t) = x2 :: r2 /\ Like x1 x2 /\ (d.r < 128 -> x1 = byt d.r /\ x2 = byt d.r) /\ (128 <= d.r -> 128 <= x1.toNat /\ 128 <= x2.toNat) /\ (d.r = 59 -> r1 = [] /\ r2 = []) := by
 by_cases h : d.r < 128
 · have e := (wc_byte h0 h).1
   unfold ahT;rw [jq (by omega)];split
   · exact ⟨_,_,_,_,e,rfl,.inl rfl,fun _ => ⟨rfl,rfl⟩,fun h => by omega,fun _ => ⟨rfl,rfl⟩⟩
   next hw =>
   refine ⟨_,_,_,_,e,rfl,.inl rfl,fun _ => ⟨rfl,rfl⟩,fun h => by omega,fun h59 => ?_⟩;exfalso;apply hw;rw [h59];decide
 obtain ⟨b,u,e,hb⟩ := enc_high (r := d.r) (by omega)
 unfold ahT
 rw [jp (by omega)]
 exact ⟨b,u,128,[],e,rfl,.inr ⟨hb,by decide⟩,fun h => by omega,fun _ => ⟨hb,by decide⟩,fun h => by omega⟩
def NumOk (t : List Ch) : Prop := (∀ c ∈ t,48 <= c.r /\ c.r <= 57) \/ ∃ f u,t = f :: u /\ (f.r = 120 \/ f.r = 88) /\ ∀ c ∈ u,(48 <= c.r /\ c.r <= 57) \/ (97 <= c.r /\ c.r <= 102) \/ (65 <= c.r /\ c.r <= 70)
def NotSure (q : List Ch) : Prop := (∃ b t,q = b :: t /\ b.r = 35 /\ NumOk t) \/ ((∀ c ∈ q,wcC c /\ c.r ≠ 35) /\ (q ≠ [] -> G6.pre G6.refs (encs q) = true))
theorem wrd_num {r : Int} (h : (48 <= r /\ r <= 57) \/ (97 <= r /\ r <= 122) \/ (65 <= r /\ r <= 90)) : wrd r = true := by
 unfold wrd G6.wordyP
 simp
 omega
theorem notSure_wc (h : NotSure q) : ∀ c ∈ q,wcC c := by
 rcases h with ⟨b,t,rfl,hb,ht⟩ | ⟨h,_⟩
 · intro c hc
   rcases List.mem_cons.1 hc with rfl | hc
   · exact ⟨by omega,by omega,by rw [hb];decide⟩
   rcases ht with ht | ⟨f,u,rfl,hf,hu⟩
   · have := ht c hc
     exact ⟨by omega,by omega,wrd_num (by omega)⟩
   rcases List.mem_cons.1 hc with rfl | hc
   · exact ⟨by omega,by omega,wrd_num (by omega)⟩
   have := hu c hc;exact ⟨by omega,by omega,wrd_num (by omega)⟩
 exact fun c hc => (h c hc).1
theorem names_word : ∀ x ∈ G6.refs,∀ b ∈ x.nm,b = 59 \/ G6.wordyP b.toNat = true := by decide +kernel
theorem pre_word {p : jl} (h : G6.pre G6.refs p = true) : ∀ b ∈ p,b = 59 \/ G6.wordyP b.toNat = true := fun b hb => by
 unfold G6.pre at h
 obtain ⟨x,hx,h2⟩ := List.any_eq_true.1 h
 simp only [Bool.and_eq_true,List.isPrefixOf_iff_prefix] at h2
 exact names_word x hx b (h2.2.subset hb)
theorem lastR_snoc (l : List Ch) (d : Ch) : Mc.lastR (l ++ [d]) = d.r := by simp [Mc.lastR]
theorem encs_snoc (q : List Ch) (d : Ch) : encs (q ++ [d]) = encs q ++ enc d.r := by simp [encs]
theorem pre_high (h : 128 <= x.toNat) : G6.pre G6.refs (P ++ [x]) = false := by
 cases e : G6.pre G6.refs (P ++ [x]) with
 | false => rfl
 | true => have := (pre_ok e x (by simp)).1;omega
theorem sure_num (t : List Ch) (d : Ch) (ht : NumOk t) (h : Mc.sureNum (t ++ [d]) = false) : NumOk (t ++ [d]) := by
 have hl := lastR_snoc t d
 cases t with
 | nil =>
  rcases sureNum_ok d [] d.r hl h with h1 | h1 | h1 | ⟨_,h1⟩
  · exact .inl fun c hc => by simp at hc;subst hc;exact h1
  · exfalso
    unfold Mc.sureNum at h;rw [List.nil_append] at hl h;simp only [hl] at h;rw [jq (by omega),jp (by omega)] at h;cases h
  · exfalso
    unfold Mc.sureNum at h;rw [List.nil_append] at hl h;simp only [hl] at h;by_cases hx : d.r = 120 \/ d.r = 88
    · omega
    rw [jq (by omega),jp hx] at h;cases h
  exact .inr ⟨d,[],rfl,h1,fun c hc => by cases hc⟩
 | cons f u =>
  rcases ht with ht | ⟨f',u',e,hf,hu⟩
  · have hf := ht f (by simp)
    have hd : 48 <= d.r /\ d.r <= 57 := by
     unfold Mc.sureNum at h;simp only [List.cons_append] at hl h;simp only [hl] at h;by_cases h1 : 48 <= d.r /\ d.r <= 57
     · exact h1
     rw [jq h1,jp (by omega)] at h;cases h
    exact .inl fun c hc => by
     rcases List.mem_append.1 hc with hc | hc
     · exact ht c hc
     simp at hc;subst hc;exact hd
  cases e
  rcases sureNum_ok f (u ++ [d]) d.r hl h with h1 | h1 | h1 | ⟨h1,_⟩
  · exact .inr ⟨f,u ++ [d],rfl,hf,fun c hc => by
     rcases List.mem_append.1 hc with hc | hc
     · exact hu c hc
     simp at hc;subst hc;exact .inl h1⟩
  · exact .inr ⟨f,u ++ [d],rfl,hf,fun c hc => by
     rcases List.mem_append.1 hc with hc | hc
     · exact hu c hc
     simp at hc;subst hc;exact .inr (.inl h1)⟩
  · exact .inr ⟨f,u ++ [d],rfl,hf,fun c hc => by
     rcases List.mem_append.1 hc with hc | hc
     · exact hu c hc
     simp at hc;subst hc;exact .inr (.inr h1)⟩
  simp at h1
theorem notSure_more (h : NotSure q) (hs : Mc.sure (c0 :: (q ++ [d])) = false) (h0 : 0 <= d.r) : NotSure (q ++ [d]) := by
 have name : ∀ p : List Ch,(∀ c ∈ p,wcC c /\ c.r ≠ 35) -> d.r ≠ 35 -> d.r ≠ 59 -> G6.goes G6.refs (encs (p ++ [d])) = true -> NotSure (p ++ [d]) := fun p hp h35 h59 hg => by
  rw [G6.goes_pre] at hg;refine .inr ⟨fun c hc => ?_,fun _ => hg⟩;rcases List.mem_append.1 hc with hc | hc
  · exact hp c hc
  simp at hc;subst hc;have hok : RcOk c := rc_of fun b hb => pre_ok hg b (by rw [encs_snoc];simp [hb]);obtain ⟨e1,e2⟩ := wc_byte hok.1 hok.2.1;have hw := pre_word hg (byt c.r) (by rw [encs_snoc,e1];simp);rw [e2] at hw;refine ⟨⟨hok.1,hok.2.1,?_⟩,h35⟩;rcases hw with hw | hw
  · exfalso
    have := congrArg UInt8.toNat hw;rw [e2] at this;have : c.r.toNat = 59 := this;omega
  unfold wrd;rw [hw,Bool.true_or]
 cases q with
 | nil =>
  rw [List.nil_append] at hs;unfold Mc.sure at hs;simp only at hs;split at hs
  · next e => exact .inl ⟨d,[],rfl,e,.inl fun c hc => by cases hc⟩
  next e =>
  split at hs
  · cases hs
  next e2 =>
  have hl : Mc.lastR [c0,d] = d.r := rfl;rw [hl] at e2;exact name [] (fun c hc => by cases hc) e e2 (by simpa using hs)
 | cons b t =>
  rw [List.cons_append] at hs;unfold Mc.sure at hs;simp only at hs;rcases h with ⟨b',t',e,hb,ht⟩ | ⟨h,_⟩
  · cases e
    rw [jp hb] at hs;exact .inl ⟨b,t ++ [d],rfl,hb,sure_num t d ht hs⟩
  have hb := (h b (by simp)).2;rw [jq hb] at hs;split at hs
  · cases hs
  next e2 =>
  have hl : Mc.lastR (c0 :: b :: (t ++ [d])) = d.r := lastR_snoc (c0 :: b :: t) d;rw [hl] at e2;have hg : G6.goes G6.refs (encs (b :: t ++ [d])) = true := by simpa using hs
  refine name (b :: t) h (fun e35 => ?_) e2 hg;rw [G6.goes_pre] at hg;have hw := pre_word hg (byt d.r) (by rw [encs_snoc,(wc_byte h0 (by omega)).1];simp);rw [e35] at hw
  revert hw
  decide
theorem ahead_cons (h0 : c0.r = 38) (q : List Ch) : ahead (c0 :: q) = 38 :: ahT q := by
 unfold ahead
 simp only
 rw [jq (by omega),h0]
 rfl
theorem encs_cons (h0 : c0.r = 38) (q : List Ch) : encs (c0 :: q) = 38 :: encs q := by
 unfold encs
 rw [List.flatMap_cons,h0]
 rfl
theorem ahead_end (h0 : c0.r = 38) (h : NotSure q) : ahead (c0 :: q) = encs (c0 :: q) := by
 rw [ahead_cons h0,encs_cons h0,encs_byts (notSure_wc h),<- zu q,ahT_byts [] (fun c hc => notSure_wc h c (by simpa using hc))]
 simp [ahT]
theorem dig_byte (h0 : 0 <= c.r) (h1 : c.r < 128) (base : Nat) : G6.dig (byt c.r).toNat < base ↔ G6.dig c.r.toNat < base := by rw [(wc_byte h0 h1).2]
theorem dig_high (h : 128 <= x.toNat) {base : Nat} (hb : base <= 16) : ¬ G6.dig x.toNat < base := by
 unfold G6.dig
 rw [jq (by omega),jq (by omega),jq (by omega)]
 omega
theorem dig_no (hb : base = 10 /\ ¬ (48 <= n /\ n <= 57) \/ base = 16 /\ ¬ (48 <= n /\ n <= 57) /\ ¬ (97 <= n /\ n <= 102) /\ ¬ (65 <= n /\ n <= 70)) : ¬ G6.dig n < base := by
 unfold G6.dig
 rcases hb with ⟨rfl,h⟩ | ⟨rfl,h1,h2,h3⟩
 · rw [jq h]
   split
   · omega
   split <;> omega
 rw [jq h1,jq h2,jq h3]
 omega
theorem dig_yes : ((48 <= n /\ n <= 57) -> G6.dig n < 10) /\ ((48 <= n /\ n <= 57) \/ (97 <= n /\ n <= 102) \/ (65 <= n /\ n <= 70) -> G6.dig n < 16) := by
 unfold G6.dig
 refine ⟨fun h => by rw [jp h];omega,fun h => ?_⟩
 split
 · omega
 split
 · omega
 split <;> omega
theorem mem_byts {b : UInt8} (h : b ∈ byts q) : ∃ c ∈ q,b = byt c.r := by
 unfold byts at h
 obtain ⟨c,h1,h2⟩ := List.mem_map.1 h
 exact ⟨c,h1,h2.symm⟩
theorem ref_sure (h0 : c0.r = 38) (h : NotSure q) (hd0 : 0 <= d.r) (hs : Mc.sure (c0 :: (q ++ [d])) = true) (attr : Bool) (t : List Ch) : G6.refP G6.refs attr (ahead (c0 :: (q ++ d :: t))) = G6.refP G6.refs attr (encs (c0 :: (q ++ [d]))) := by
 have hwc := notSure_wc h
 obtain ⟨x1,r1,x2,r2,e1,e2,hl,hlow,hhigh,h59⟩ := last_like (d := d) t hd0
 rw [ahead_cons h0,encs_cons h0,ahT_byts _ hwc,e2,encs_snoc,encs_byts hwc,e1]
 have name : ∀ P : jl,(∀ y,P ++ x1 :: r1 ≠ 35 :: y) -> (∀ y,P ++ x2 :: r2 ≠ 35 :: y) -> ((d.r = 59) \/ (G6.pre G6.refs (P ++ [x1]) = false /\ G6.pre G6.refs (P ++ [x2]) = false)) -> G6.refP G6.refs attr (38 :: (P ++ x2 :: r2)) = G6.refP G6.refs attr (38 :: (P ++ x1 :: r1)) := fun P n1 n2 hp => by
  have no : ∀ l : jl,(∀ y,l ≠ 35 :: y) -> [38,35].isPrefixOf (38 :: l) = false := fun l hn => by
   cases l with
   | nil => rfl
   | cons a l =>
    have : ((35 : UInt8) == a) = false := beq_false_of_ne fun e => hn l (by rw [e]);simp [List.isPrefixOf,this]
  have yes : ∀ l : jl,[38].isPrefixOf (38 :: l) = true := fun l => by simp [List.isPrefixOf]
  unfold G6.refP;rw [no _ n1,no _ n2,yes,yes];simp only [Bool.false_eq_true,if_false,if_true,List.drop_succ_cons,List.drop_zero];rcases hp with hp | ⟨p1,p2⟩
  · obtain ⟨rfl,rfl⟩ := h59 hp
    obtain ⟨rfl,rfl⟩ := hlow (by omega);rfl
  exact (named_like attr hl p1 p2).symm
 have goesx : ∀ p : List Ch,(∀ c ∈ p,wcC c) -> G6.goes G6.refs (encs (p ++ [d])) = false -> G6.pre G6.refs (byts p ++ [x1]) = false /\ G6.pre G6.refs (byts p ++ [x2]) = false := fun p hp hg => by
  by_cases hd : d.r < 128
  · obtain ⟨rfl,rfl⟩ := hlow hd
    rw [G6.goes_pre,encs_snoc,encs_byts hp,(wc_byte hd0 hd).1] at hg;exact ⟨hg,hg⟩
  exact ⟨pre_high (hhigh (by omega)).1,pre_high (hhigh (by omega)).2⟩
 have b35 : ∀ {c : Ch},0 <= c.r -> c.r < 128 -> c.r ≠ 35 -> byt c.r ≠ 35 := fun hc0 hc1 hc e => by
  have := congrArg UInt8.toNat e;rw [(wc_byte hc0 hc1).2] at this;have : _ = 35 := this;omega
 cases q with
 | nil =>
  rw [List.nil_append] at hs;unfold Mc.sure at hs;simp only at hs;split at hs
  · exact absurd hs (by decide)
  next h35 =>
  have n35 : x1 ≠ 35 /\ x2 ≠ 35 := by
   by_cases hd : d.r < 128
   · obtain ⟨rfl,rfl⟩ := hlow hd
     exact ⟨b35 hd0 hd h35,b35 hd0 hd h35⟩
   have := hhigh (by omega);exact ⟨fun e => by rw [e] at this;exact absurd this.1 (by decide),fun e => by rw [e] at this;exact absurd this.2 (by decide)⟩
  refine name [] (fun y e => n35.1 (by simpa using (List.cons.inj e).1)) (fun y e => n35.2 (by simpa using (List.cons.inj e).1)) ?_;split at hs
  · next e => exact .inl e
  exact .inr (goesx [] (fun c hc => by cases hc) (by simpa using hs))
 | cons b u =>
  rw [List.cons_append] at hs;unfold Mc.sure at hs;simp only at hs;rcases h with ⟨b',u',e,hb,hu⟩ | ⟨h,_⟩
  · cases e
    rw [jp hb] at hs;have hyes : ∀ l : jl,[38,35].isPrefixOf (38 :: 35 :: l) = true := fun l => by simp [List.isPrefixOf]
    have hbb : byts (b :: u) = 35 :: byts u := by show byt b.r :: _ = _;rw [hb];rfl
    rw [hbb,List.cons_append,List.cons_append];unfold G6.refP;rw [hyes,hyes];simp only [if_true];have hsn : Mc.lastR (u ++ [d]) = d.r := lastR_snoc u d;unfold Mc.sureNum at hs;have nodig : ∀ base,(base = 10 /\ ¬ (48 <= d.r /\ d.r <= 57) \/ base = 16 /\ ¬ (48 <= d.r /\ d.r <= 57) /\ ¬ (97 <= d.r /\ d.r <= 102) /\ ¬ (65 <= d.r /\ d.r <= 70)) -> ¬ G6.dig x1.toNat < base /\ ¬ G6.dig x2.toNat < base := fun base hbase => by
     by_cases hd : d.r < 128
     · obtain ⟨rfl,rfl⟩ := hlow hd
       rw [dig_byte hd0 hd];exact ⟨dig_no (by omega),dig_no (by omega)⟩
     exact ⟨dig_high (hhigh (by omega)).1 (by omega),dig_high (hhigh (by omega)).2 (by omega)⟩
    have nox : ∀ (x : UInt8),(x = byt d.r /\ d.r < 128 \/ 128 <= x.toNat) -> ¬ (d.r = 120 \/ d.r = 88) -> ¬ (x = 120 \/ x = 88) := fun x hx hn e => by
     rcases hx with ⟨rfl,hd⟩ | hx
     · have e2 := (wc_byte hd0 hd).2
       rcases e with e | e
       · rw [e] at e2;have : 120 = d.r.toNat := e2;omega
       rw [e] at e2;have : 88 = d.r.toNat := e2;omega
     rcases e with e | e <;> rw [e] at hx <;> exact absurd hx (by decide)
    have xs1 : x1 = byt d.r /\ d.r < 128 \/ 128 <= x1.toNat := by
     by_cases hd : d.r < 128
     · exact .inl ⟨(hlow hd).1,hd⟩
     exact .inr (hhigh (by omega)).1
    have xs2 : x2 = byt d.r /\ d.r < 128 \/ 128 <= x2.toNat := by
     by_cases hd : d.r < 128
     · exact .inl ⟨(hlow hd).2,hd⟩
     exact .inr (hhigh (by omega)).2
    cases u with
    | nil =>
     simp only [List.nil_append] at hsn hs;simp only [hsn] at hs;by_cases h1 : 48 <= d.r /\ d.r <= 57
     · rw [jp h1] at hs;cases hs
     rw [jq h1] at hs;by_cases hx : d.r = 120 \/ d.r = 88
     · rw [jq (not_not_intro hx)] at hs
       simp at hs
     have hn := nodig 10 (.inl ⟨rfl,h1⟩);have k1 := nox x1 xs1 hx;have k2 := nox x2 xs2 hx;unfold G6.numbP;rw [jq (by simpa [byts] using k2),jq (by simpa [byts] using k1)];exact num_like (A := [38,35]) (P := []) (by rcases hl with hl | hl;exact .inl hl.symm;exact .inr ⟨hl.2,hl.1⟩) rfl (fun b hb => by cases hb) hn.2 hn.1
    | cons f v =>
     simp only [List.cons_append] at hsn hs;simp only [hsn] at hs;by_cases h1 : 48 <= d.r /\ d.r <= 57
     · rw [jp h1] at hs;cases hs
     rw [jq h1] at hs;rcases hu with hu | ⟨f',v',e,hf,hv⟩
     · have hf := hu f (by simp)
       have hn := nodig 10 (.inl ⟨rfl,h1⟩);have hfb : ¬ (byt f.r = 120 \/ byt f.r = 88) := fun e => by
        have e2 := (wc_byte (c := f) (by omega) (by omega)).2;rcases e with e | e
        · rw [e] at e2;have : 120 = f.r.toNat := e2;omega
        rw [e] at e2;have : 88 = f.r.toNat := e2;omega
       unfold G6.numbP;rw [jq (by simpa [byts] using hfb),jq (by simpa [byts] using hfb)];refine num_like (A := [38,35]) (P := byts (f :: v)) (by rcases hl with hl | hl;exact .inl hl.symm;exact .inr ⟨hl.2,hl.1⟩) rfl (fun b hb => ?_) hn.2 hn.1;obtain ⟨c,hc,rfl⟩ := mem_byts hb;have := hu c hc;rw [dig_byte (by omega) (by omega)];exact dig_yes.1 (by omega)
     cases e
     rw [jq (not_not_intro hf)] at hs;have h2 : ¬ ((97 <= d.r /\ d.r <= 102) \/ (65 <= d.r /\ d.r <= 70)) := by
      simp at hs;omega
     have hn := nodig 16 (.inr ⟨rfl,h1,fun h => h2 (.inl h),fun h => h2 (.inr h)⟩);have hfb : byt f.r = 120 \/ byt f.r = 88 := by
      rcases hf with e | e
      · rw [e];exact .inl rfl
      rw [e];exact .inr rfl
     unfold G6.numbP;rw [jp (by simpa [byts] using hfb),jp (by simpa [byts] using hfb)];refine num_like (A := [38,35,byt f.r]) (P := byts v) (by rcases hl with hl | hl;exact .inl hl.symm;exact .inr ⟨hl.2,hl.1⟩) rfl (fun b hb => ?_) hn.2 hn.1;obtain ⟨c,hc,rfl⟩ := mem_byts hb;have := hv c hc;rw [dig_byte (by omega) (by omega)];exact dig_yes.2 (by omega)
  have hb := (h b (by simp));rw [jq hb.2] at hs;have hb35 := b35 hb.1.1 hb.1.2.1 hb.2;refine name (byts (b :: u)) (fun y e => hb35 ?_) (fun y e => hb35 ?_) ?_
  · exact (List.cons.inj e).1
  · exact (List.cons.inj e).1
  split at hs
  · next e =>
    have hl : Mc.lastR (c0 :: b :: (u ++ [d])) = d.r := lastR_snoc (c0 :: b :: u) d;rw [hl] at e;exact .inl e
  exact .inr (goesx (b :: u) hwc (by simpa using hs))
def Reads (m : Mc) : Prop := (m.st = 27 /\ m.en = 28 /\ m.kind = 0 /\ (m.text = 0 \/ m.text = 1)) \/ ((m.st = 181 \/ m.st = 182 \/ m.st = 183) /\ m.en = 79 /\ m.kind ≠ 0)
theorem wc_facts (h : wcC d) : d.r ≠ 34 /\ d.r ≠ 38 /\ d.r ≠ 39 /\ d.r ≠ 60 /\ d.r ≠ 61 /\ d.r ≠ 62 /\ d.r ≠ 96 /\ blk d.r = false := by
 obtain ⟨h0,h1,h2⟩ := h
 unfold wrd G6.wordyP at h2
 simp at h2
 refine ⟨by omega,by omega,by omega,by omega,by omega,by omega,by omega,?_⟩
 unfold blk G7.blk
 simp
 omega
theorem take_plain (h : Reads m) (hd : wcC d) : m.take d = m.put d false := by
 obtain ⟨h1,h2,h3,h4,h5,h6,h7,h8⟩ := wc_facts hd
 unfold Mc.put
 rcases h with ⟨hs,_,hk,_⟩ | ⟨hs,_,hk⟩
 · rw [jq (by simpa using hk)]
   unfold Mc.take;simp only [hs];unfold Mc.data;rw [jq (fun e => h2 e.1),jq (fun e => h4 e.1),jq (fun e => h4 e.1)];rfl
 rw [jp hk]
 unfold Mc.take
 rcases hs with hs | hs | hs <;> simp only [hs]
 · unfold Mc.quoted;rw [jq h1,jq h2]
 · unfold Mc.quoted;rw [jq h3,jq h2]
 unfold Mc.bare
 rw [jq (by simp [h8]),jq h2,jq h6,jq (by omega)]
theorem put_facts (m : Mc) (d : Ch) (b : Bool) : (m.put d b).st = m.st /\ (m.put d b).en = m.en /\ (m.put d b).kind = m.kind /\ (m.put d b).text = m.text /\ (m.put d b).ref = m.ref /\ ((∀ t ∈ m.out,t.k ≠ 2) -> ∀ t ∈ (m.put d b).out,t.k ≠ 2) := by
 unfold Mc.put
 split
 · exact ⟨rfl,rfl,rfl,rfl,rfl,fun h => h⟩
 refine ⟨rfl,rfl,rfl,rfl,rfl,fun h t ht => ?_⟩
 rcases List.mem_append.1 ht with ht | ht
 · exact h t ht
 simp at ht;subst ht;simp [chT]
theorem put_reads (h : Reads m) (d : Ch) (b : Bool) : Reads (m.put d b) := by
 obtain ⟨h1,h2,h3,h4,_⟩ := put_facts m d b
 unfold Reads
 rw [h1,h2,h3,h4]
 exact h
theorem put_frame (m : Mc) (d : Ch) (b : Bool) : m.put d b = { ({ m with out := [] } : Mc).put d b with out := m.out ++ (({ m with out := [] } : Mc).put d b).out } := by
 unfold Mc.put
 by_cases h : m.kind ≠ 0
 · rw [jp h,jp h]
   simp [Mc.addValue]
 rw [jq h,jq h]
 simp [Mc.tell]
theorem put_drop (m : Mc) (d : Ch) (b : Bool) : ({ m.put d b with out := [] } : Mc) = { ({ m with out := [] } : Mc).put d b with out := [] } := by rw [put_frame m d b]
theorem fold_facts : ∀ (q : List Ch) (b : Mc),Reads b -> b.ref = [] -> (∀ d ∈ q,wcC d) -> (∀ t ∈ b.out,t.k ≠ 2) -> Reads (q.foldl Mc.take b) /\ (q.foldl Mc.take b).ref = [] /\ ∀ t ∈ (q.foldl Mc.take b).out,t.k ≠ 2
 | [],_,h,hr,_,ho => ⟨h,hr,ho⟩
 | d :: q,b,h,hr,hq,ho => by
  rw [List.foldl_cons,take_plain h (hq d (by simp))];obtain ⟨_,_,_,_,h5,h6⟩ := put_facts b d false;exact fold_facts q _ (put_reads h d false) (h5.trans hr) (fun e he => hq e (by simp [he])) (h6 ho)
theorem reads_out (h : Reads m) (o : List Pt) : Reads { m with out := o } := h
theorem tot_fold {auto : Bool} {N : Int} (t : List Ch) : ∀ (q : List Ch) (b : Mc),Reads b -> b.ref = [] -> (∀ d ∈ q,wcC d) -> (∀ t ∈ b.out,t.k ≠ 2) -> pre b.out (tot auto N (q ++ t) { b with out := [] }) = pre (q.foldl Mc.take b).out (tot auto N t { q.foldl Mc.take b with out := [] })
 | [],_,_,_,_,_ => rfl
 | d :: q,b,h,hr,hq,ho => by
  have hd := hq d (by simp);obtain ⟨_,_,_,_,h5,h6⟩ := put_facts b d false;obtain ⟨_,_,_,_,g5,g6⟩ := put_facts ({ b with out := [] } : Mc) d false;have hp : (∀ t ∈ (({ b with out := [] } : Mc).put d false).out,t.k ≠ 2) := g6 (fun t ht => by cases ht);rw [List.foldl_cons,take_plain h hd,List.cons_append,tot_say (m := { b with out := [] }) hr (take_plain (reads_out h []) hd) hp,pre_pre,<- tot_fold t q (b.put d false) (put_reads h d false) (h5.trans hr) (fun e he => hq e (by simp [he])) (h6 ho)];have e : (b.put d false).out = b.out ++ (({ b with out := [] } : Mc).put d false).out := congrArg Mc.out (put_frame b d false);rw [e,put_drop b d false]
theorem tag_frame (m : Mc) (c : Ch) : m.tellTag c = { ({ m with out := [] } : Mc).tellTag c with out := m.out ++ (({ m with out := [] } : Mc).tellTag c).out } := by
 by_cases h : m.kind = 2
 · simp [Mc.tellTag,Mc.keep,h,Mc.tell,Mc.toData,Mc.noMade,Mc.tagPt]
 by_cases h2 : m.keep.attrs ≠ [] \/ m.keep.self = true
 · have h3 : ({ m with out := [] } : Mc).keep.attrs ≠ [] \/ ({ m with out := [] } : Mc).keep.self = true := h2
   unfold Mc.tellTag;simp only [show m.keep.kind = m.kind from rfl,show ({ m with out := [] } : Mc).keep.kind = m.kind from rfl,jq h,jp h2,jp h3];rfl
 have h3 : ¬ (({ m with out := [] } : Mc).keep.attrs ≠ [] \/ ({ m with out := [] } : Mc).keep.self = true) := h2
 unfold Mc.tellTag
 simp only [show m.keep.kind = m.kind from rfl,show ({ m with out := [] } : Mc).keep.kind = m.kind from rfl,jq h,jq h2,jq h3]
 rfl
theorem take27 (h : m.st = 27) (c : Ch) : m.take c = m.data c := by unfold Mc.take;simp only [h]
theorem take181 (h : m.st = 181) (c : Ch) : m.take c = m.quoted c 34 := by unfold Mc.take;simp only [h]
theorem take182 (h : m.st = 182) (c : Ch) : m.take c = m.quoted c 39 := by unfold Mc.take;simp only [h]
theorem take183 (h : m.st = 183) (c : Ch) : m.take c = m.bare c := by unfold Mc.take;simp only [h]
theorem out_frame (h : Reads m) (c : Ch) : m.take c = { ({ m with out := [] } : Mc).take c with out := m.out ++ (({ m with out := [] } : Mc).take c).out } := by
 rcases h with ⟨hs,_,_,_⟩ | ⟨hs,_,_⟩
 · rw [take27 hs,take27 (m := { m with out := [] }) hs]
   unfold Mc.data;by_cases h1 : c.r = 38 /\ (m.text = 0 \/ m.text = 1)
   · simp only [jp h1,zu]
   by_cases h2 : c.r = 60 /\ m.text = 0
   · simp only [jq h1,jp h2,zu,Mc.hold]
   by_cases h3 : c.r = 60 /\ m.text ≠ 3
   · simp only [jq h1,jq h2,jp h3,zu,Mc.hold]
   simp only [jq h1,jq h2,jq h3,Mc.tellChar,Mc.tell,List.nil_append]
 have quo : ∀ sign,m.quoted c sign = { ({ m with out := [] } : Mc).quoted c sign with out := m.out ++ (({ m with out := [] } : Mc).quoted c sign).out } := fun sign => by
  unfold Mc.quoted;split
  · simp
  split
  · simp
  simp [Mc.addValue]
 rcases hs with hs | hs | hs
 · rw [take181 hs,take181 (m := { m with out := [] }) hs]
   exact quo 34
 · rw [take182 hs,take182 (m := { m with out := [] }) hs]
   exact quo 39
 rw [take183 hs,take183 (m := { m with out := [] }) hs]
 unfold Mc.bare
 by_cases h1 : blk c.r = true
 · simp only [jp h1,zu]
 by_cases h2 : c.r = 38
 · simp only [jq h1,jp h2,zu]
 by_cases h3 : c.r = 62
 · simp only [jq h1,jq h2,jp h3]
   exact tag_frame m c
 by_cases h4 : c.r = 34 \/ c.r = 39 \/ c.r = 60 \/ c.r = 61 \/ c.r = 96
 · simp only [jq h1,jq h2,jq h3,jp h4,Mc.addValue,Mc.fault,zu]
 simp only [jq h1,jq h2,jq h3,jq h4,Mc.addValue,zu]
theorem end_frame (h : Reads m) (N : Int) : (m.endS N).out = m.out ++ (({ m with out := [] } : Mc).endS N).out /\ (m.endS N).fs = (({ m with out := [] } : Mc).endS N).fs := by
 unfold Mc.endS
 rcases h with ⟨_,he,_⟩ | ⟨_,he,_⟩ <;> simp only [he]
 · simp [Mc.release]
 simp [Mc.fault]
def refB (m : Mc) (l : List Ch) (o : Int × Nat × List Int) : Mc :=
 let a : Mc := { m with ref := [],fs := m.fs ++ Mc.refFaults l o.2.1 o.2.2 }
 if o.2.1 = 0 then (match l with | [] => a | c :: _ => a.put c false) else a.put ⟨o.1,Mc.frAt l,Mc.toAt l (o.2.1 - 1)⟩ true
def refK (o : Int × Nat × List Int) : Nat := if o.2.1 = 0 then 1 else o.2.1
theorem resolve_is (m : Mc) : m.resolve = (m.ref.drop (refK m.oneR)).foldl Mc.take (refB m m.ref m.oneR) := rfl
theorem refB_facts (h : Reads m) (ho : m.out = []) (l : List Ch) (o : Int × Nat × List Int) : Reads (refB m l o) /\ (refB m l o).ref = [] /\ ∀ t ∈ (refB m l o).out,t.k ≠ 2 := by
 have h0 : ∀ t ∈ ({ m with ref := [],fs := m.fs ++ Mc.refFaults l o.2.1 o.2.2 } : Mc).out,t.k ≠ 2 := fun t ht => by
  have : t ∈ m.out := ht;rw [ho] at this;cases this
 have hr : Reads ({ m with ref := [],fs := m.fs ++ Mc.refFaults l o.2.1 o.2.2 } : Mc) := h
 have key : ∀ c b,Reads (({ m with ref := [],fs := m.fs ++ Mc.refFaults l o.2.1 o.2.2 } : Mc).put c b) /\ (({ m with ref := [],fs := m.fs ++ Mc.refFaults l o.2.1 o.2.2 } : Mc).put c b).ref = [] /\ ∀ t ∈ (({ m with ref := [],fs := m.fs ++ Mc.refFaults l o.2.1 o.2.2 } : Mc).put c b).out,t.k ≠ 2 := fun c b => by
  obtain ⟨_,_,_,_,h5,h6⟩ := put_facts ({ m with ref := [],fs := m.fs ++ Mc.refFaults l o.2.1 o.2.2 } : Mc) c b;exact ⟨put_reads hr c b,h5,h6 h0⟩
 unfold refB
 dsimp only
 split
 · split
   · exact ⟨hr,rfl,h0⟩
   exact key _ _
 exact key _ _
def refGo (auto : Bool) (N : Int) (m : Mc) (l : List Ch) : List Pt × Fs :=
 let o := refR (decide (m.kind ≠ 0)) l
 pre (refB m l o).out (tot auto N (l.drop (refK o)) { refB m l o with out := [] })
theorem toAt_pre (h : k < a.length) : Mc.toAt (a ++ b) k = Mc.toAt a k := by
 unfold Mc.toAt
 rw [List.getElem?_append_left h]
theorem refFaults_pre (hn : n <= a.length) (ha : a ≠ []) (codes : List Int) : Mc.refFaults (a ++ b) n codes = Mc.refFaults a n codes := by
 unfold Mc.refFaults
 have hl : 0 < a.length := List.length_pos_iff.2 ha
 have h1 : Mc.toAt (a ++ b) (n - 1) = Mc.toAt a (n - 1) := toAt_pre (by omega)
 have h2 : Mc.frAt (a ++ b) = Mc.frAt a := by
  cases a with
  | nil => exact absurd rfl ha
  | cons c a => rfl
 rw [h1,h2]
theorem refB_pre {o : Int × Nat × List Int} (hn : o.2.1 <= a.length) (ha : a ≠ []) : refB m (a ++ b) o = refB m a o := by
 have hl : 0 < a.length := List.length_pos_iff.2 ha
 have h1 : Mc.toAt (a ++ b) (o.2.1 - 1) = Mc.toAt a (o.2.1 - 1) := toAt_pre (by omega)
 have h2 : Mc.frAt (a ++ b) = Mc.frAt a := by
  cases a with
  | nil => exact absurd rfl ha
  | cons c a => rfl
 unfold refB
 rw [refFaults_pre hn ha,h1,h2]
 cases a with
 | nil => exact absurd rfl ha
 | cons c a => rfl
theorem notSure_ok (h0 : c0.r = 38) (h : NotSure q) : RefOk (c0 :: q) := ⟨c0,q,rfl,h0,fun d hd => by
 have := notSure_wc h d hd
 exact ⟨this.1,this.2.1,(wc_facts this).2.1⟩⟩
theorem ref_eq {auto : Bool} {N : Int} {m : Mc} (hS : Reads m) (hr : m.ref = []) (ho : m.out = []) {c0 : Ch} (h0 : c0.r = 38) : ∀ (t q : List Ch),NotSure q -> (∀ d ∈ t,0 <= d.r) -> tot auto N t { m with ref := c0 :: q } = refGo auto N m (c0 :: (q ++ t))
 | [],q,hq,_ => by
  have he := ahead_end h0 hq;rw [zu];unfold refGo refR;rw [he];have hone : ({ m with ref := c0 :: q } : Mc).oneR = G6.refP G6.refs (decide (m.kind ≠ 0)) (encs (c0 :: q)) := rfl;rw [<- hone];obtain ⟨o,hoo⟩ := ex (({ m with ref := c0 :: q } : Mc).oneR);have hres := resolve_is ({ m with ref := c0 :: q } : Mc);rw [hoo] at hres |-;obtain ⟨f1,f2,f3⟩ := refB_facts hS ho (c0 :: q) o;have hB : refB ({ m with ref := c0 :: q } : Mc) (c0 :: q) o = refB m (c0 :: q) o := rfl;rw [hB] at hres;have hw : ∀ d ∈ (c0 :: q).drop (refK o),wcC d := fun d hd => by
   obtain ⟨j,hj⟩ : ∃ j,refK o = j + 1 := by
    unfold refK;split
    · exact ⟨0,rfl⟩
    exact ⟨o.2.1 - 1,by omega⟩
   rw [hj,List.drop_succ_cons] at hd;exact notSure_wc hq d (List.mem_of_mem_drop hd)
  have hf := tot_fold (auto := auto) (N := N) [] ((c0 :: q).drop (refK o)) (refB m (c0 :: q) o) f1 f2 hw f3;rw [zu] at hf;dsimp only;rw [hf];obtain ⟨g1,g2,_⟩ := fold_facts ((c0 :: q).drop (refK o)) (refB m (c0 :: q) o) f1 f2 hw f3;rw [tot_end (m := { ((c0 :: q).drop (refK o)).foldl Mc.take (refB m (c0 :: q) o) with out := [] }) g2];have hL : tot auto N [] ({ m with ref := c0 :: q } : Mc) = ((({ m with ref := c0 :: q } : Mc).resolve.endS N).out ++ [eofP6 N],(({ m with ref := c0 :: q } : Mc).resolve.endS N).fs) := by
   unfold tot Mc.ended;simp only [ne_eq,reduceCtorEq,not_false_eq_true,if_true];rfl
  have hres' : ({ m with ref := c0 :: q } : Mc).resolve = ((c0 :: q).drop (refK o)).foldl Mc.take (refB m (c0 :: q) o) := hres;rw [hL,hres',(end_frame g1 N).1,(end_frame g1 N).2];simp [pre]
 | d :: t,q,hq,ht => by
  have hd0 := ht d (by simp);have hne : ({ m with ref := c0 :: q } : Mc).ref ≠ [] := by simp
  have hstep : ({ m with ref := c0 :: q } : Mc).step d = if Mc.sure (c0 :: (q ++ [d])) = true then ({ m with ref := c0 :: (q ++ [d]) } : Mc).resolve else ({ m with ref := c0 :: (q ++ [d]) } : Mc) := by
   unfold Mc.step;rw [jp hne];rfl
  cases hs : Mc.sure (c0 :: (q ++ [d])) with
  | false =>
   have hf : ({ m with ref := c0 :: q } : Mc).feed d = ([],{ m with ref := c0 :: (q ++ [d]) }) := by
    unfold Mc.feed;rw [hstep,hs];simp [ho]
   conv => lhs;unfold tot
   rw [hf,aut_none auto (by simp)];have ih := ref_eq (auto := auto) (N := N) hS hr ho h0 t (q ++ [d]) (notSure_more hq hs hd0) (fun e he => ht e (by simp [he]));rw [List.append_assoc,List.singleton_append] at ih;rw [<- ih];simp
  | true =>
   have hone : ({ m with ref := c0 :: (q ++ [d]) } : Mc).oneR = refR (decide (m.kind ≠ 0)) (c0 :: (q ++ d :: t)) := (ref_sure h0 hq hd0 hs (decide (m.kind ≠ 0)) t).symm;unfold refGo;dsimp only;rw [<- hone];obtain ⟨o,hoo⟩ := ex (({ m with ref := c0 :: (q ++ [d]) } : Mc).oneR);have hres := resolve_is ({ m with ref := c0 :: (q ++ [d]) } : Mc);have hlen : ({ m with ref := c0 :: (q ++ [d]) } : Mc).oneR.2.1 <= (c0 :: (q ++ [d])).length := oneR_len (m := { m with ref := c0 :: (q ++ [d]) }) (.inr ⟨c0 :: q,d,rfl,notSure_ok h0 hq⟩);rw [hoo] at hres hlen |-;have hres' : ({ m with ref := c0 :: (q ++ [d]) } : Mc).resolve = ((c0 :: (q ++ [d])).drop (refK o)).foldl Mc.take (refB m (c0 :: (q ++ [d])) o) := hres;have hsplit : c0 :: (q ++ d :: t) = (c0 :: (q ++ [d])) ++ t := by simp
   rw [hsplit,refB_pre hlen (by simp)];obtain ⟨f1,f2,f3⟩ := refB_facts hS ho (c0 :: (q ++ [d])) o;obtain ⟨b,hb⟩ := ex (refB m (c0 :: (q ++ [d])) o);rw [hb] at hres' f1 f2 f3 |-;obtain ⟨j,hj⟩ : ∃ j,refK o = j + 1 := by
    unfold refK;split
    · exact ⟨0,rfl⟩
    exact ⟨o.2.1 - 1,by omega⟩
   have hjl : j <= (q ++ [d]).length := by
    have : refK o <= (c0 :: (q ++ [d])).length := by
     unfold refK;split
     · simp
     exact hlen
    rw [hj] at this;simpa using this
   rw [hj,List.drop_succ_cons] at hres';rw [hj,List.cons_append,List.drop_succ_cons,List.drop_append_of_le_length hjl];have hf : ({ m with ref := c0 :: q } : Mc).feed d = ((((q ++ [d]).drop j).foldl Mc.take b).out,{ ((q ++ [d]).drop j).foldl Mc.take b with out := [] }) := by
    unfold Mc.feed;rw [hstep,hs,jp rfl,hres']
   conv => lhs;unfold tot
   rw [hf];simp only [zh,zi,zj,Nat.zero_add] at hjl;by_cases hjq : j <= q.length
   · rw [List.drop_append_of_le_length hjq]
     have hw : ∀ e ∈ q.drop j,wcC e := fun e he => notSure_wc hq e (List.mem_of_mem_drop he);rw [List.append_assoc,List.singleton_append,tot_fold (d :: t) (q.drop j) b f1 f2 hw f3];obtain ⟨g1,g2,g3⟩ := fold_facts (q.drop j) b f1 f2 hw f3;rw [List.foldl_append];obtain ⟨B,hB⟩ := ex ((q.drop j).foldl Mc.take b);rw [hB] at g1 g2 g3 |-;simp only [List.foldl_cons,List.foldl_nil]
     conv => rhs;unfold tot
     rw [feed_take (m := { B with out := [] }) g2,out_frame g1 d];unfold pre;dsimp only;have ha : ∀ k : Mc,Mc.aut auto (B.out ++ (({ B with out := [] } : Mc).take d).out) k = Mc.aut auto (({ B with out := [] } : Mc).take d).out k := fun k => by
      unfold Mc.aut;rw [lastSt_app g3]
     rw [ha,List.append_assoc]
   have : (q ++ [d]).drop j = [] := List.drop_of_length_le (by simp;omega);rw [this,List.foldl_nil,List.nil_append,aut_none auto f3];rfl
end Go.Proofs.YtjjfalbngcbfaaaGreatDoor
