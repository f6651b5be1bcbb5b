import Derived.Test.YtjjfalbngcbfaaaGreatDoorZ0
import Derived.Test.YtjjfalbngcbfaaaGreatDoorProg
import Derived.WalkKit
import Derived.WalkSpells
import Derived.WalkLawsBesides
import Derived.Deep.RegionLaw
import Derived.Deep.RegionWith
import Derived.Deep.QuietTactic
import Derived.BigQuiet
import Derived.BigRegion
import Derived.WalkMore
import Derived.WalkArith
import Derived.Maps.AppendAt
import Derived.Laws.StructEq
import Derived.OwnWalk
import Derived.Deep.Upon
import Derived.Deep.LoopGhost
import Derived.Deep.DeepCutAuto
import Derived.Maps.OwnSet
import Derived.Below
import Derived.Deep.RegionHeld3
import Derived.Lib.RuneBytes
import Derived.Laws.EntriesVeiled
import Derived.Laws.BytesArg
import Derived.Shelf.Abstract
set_option maxHeartbeats 2000000
set_option maxRecDepth 20000
namespace Go.Proofs.YtjjfalbngcbfaaaGreatDoor.G9
open Go.RowKit
abbrev Path := jl
structure At where
 n : ByteArray
 v : ByteArray
theorem bytes_eq {a b : ByteArray} (h : a.data.toList = b.data.toList) : a = b := by
 obtain ⟨⟨x⟩⟩ := a
 obtain ⟨⟨y⟩⟩ := b
 have : x = y := h
 rw [this]
theorem beq_bytes (a b : ByteArray) : (a.toList == b.toList) = decide (a.data.toList = b.data.toList) := by
 rw [ByteArray.toList_eq,ByteArray.toList_eq]
 rw [Bool.eq_iff_iff];simp
abbrev At.nm (x : At) : Path := x.n.data.toList
abbrev At.vl (x : At) : Path := x.v.data.toList
theorem At.ext' {x y : At} (h1 : x.nm = y.nm) (h2 : x.vl = y.vl) : x = y := by
 obtain ⟨a,b⟩ := x
 obtain ⟨c,d⟩ := y
 have e1 : a = c := bytes_eq h1
 have e2 : b = d := bytes_eq h2
 rw [e1,e2]
def At.eqb (x y : At) : Bool := decide (x.nm = y.nm) && decide (x.vl = y.vl)
theorem At.eqb_iff {x y : At} : At.eqb x y = true ↔ x = y := by
 unfold At.eqb
 rw [Bool.and_eq_true,decide_eq_true_iff,decide_eq_true_iff]
 exact ⟨fun h => At.ext' h.1 h.2,fun h => by rw [h];exact ⟨rfl,rfl⟩⟩
def At.cells (x : At) : List Value := [.string x.n,.string x.v]
theorem eq49 (a b c d : ByteArray) (w : World) : (binOp .eql 49 (.agg #[.string a,.string b]) (.agg #[.string c,.string d])).run Tryz.prog w = .ok (.bool (At.eqb ⟨a,b⟩ ⟨c,d⟩)) w := by
 have u9 := Tryz.underlying9
 have a9 := Tryz.isAgg9
 have z9 := Tryz.sizeOf9
 have hS : Tryz.prog.underlying 49 = some (.struct (Tryz.prog.fieldsOf 49)) := by kernel_rfl
 have hp : Tryz.prog.stoodInHeld 49 = false := by kernel_rfl
 rw [run_eql_struct,show (10000 : Nat) = 9999 + 1 from rfl,run_equalIn_agg w 9999 49 _ _ hS hp]
 simp only [Program.fieldsOf,Tryz.underlying49]
 go_simp
 simp only [At.eqb,At.nm,At.vl]
 by_cases h1 : a.data.toList = c.data.toList <;> by_cases h2 : b.data.toList = d.data.toList <;> simp [h1,h2,ByteArray.toList_eq]
theorem ne49 (a b c d : ByteArray) (w : World) : (binOp .neq 49 (.agg #[.string a,.string b]) (.agg #[.string c,.string d])).run Tryz.prog w = .ok (.bool (!At.eqb ⟨a,b⟩ ⟨c,d⟩)) w := by
 have h := eq49 a b c d w
 rw [run_eql_struct] at h
 rw [run_neq_struct]
 revert h
 generalize (Op.equalIn 10000 49 (.agg #[.string a,.string b]) (.agg #[.string c,.string d])).run Tryz.prog w = r
 intro h
 cases r with
 | ok x w' => simp [Result.andThen] at h |-;obtain ⟨h1,h2⟩ := h;exact ⟨h1,h2⟩
 | halt x w' => simp [Result.andThen] at h
def AtRow (w : World) (lo : Option Addr) (l : List At) : Prop :=
 ∀ i x,l[i]? = some x -> ∃ b off,lo = some (jd b off) /\ b < w.heap.size /\ w.cell? (jd b (off + i * 2)) = some (.string x.n) /\ w.cell? (jd b (off + i * 2 + 1)) = some (.string x.v)
theorem AtRow.below {w w' : World} {lo : Option Addr} {l : List At} (h : AtRow w lo l) (b : Below w.heap.size w w') : AtRow w' lo l := fun i x hx => by
 obtain ⟨k,off,h1,h2,h3,h4⟩ := h i x hx
 exact ⟨k,off,h1,zo h2 b.size,(b.cell (p := (jd k (off + i * 2))) h2).trans h3,(b.cell (p := (jd k (off + i * 2 + 1))) h2).trans h4⟩
theorem AtRow.nil (w : World) (lo : Option Addr) : AtRow w lo [] := fun i x hx => by simp at hx
abbrev RowIs (w : World) (B : Nat) (v : Value) (L : List At) : Prop := w.ownsRow B 49 2 v L.length (L.flatMap At.cells)
theorem below_drewN {B : Nat} {w w' : World} (h : Below B w w') (n : Nat) : Below B w (w'.drewN n) := ⟨h.os,h.tape,h.output,h.size,h.block⟩
theorem at_at (l : List At) (i : Nat) (x : At) (h : l[i]? = some x) : (l.flatMap At.cells)[i * 2]? = some (.string x.n) /\ (l.flatMap At.cells)[i * 2 + 1]? = some (.string x.v) := by
 induction l generalizing i with
 | nil => simp at h
 | cons y l ih =>
  rw [List.flatMap_cons];cases i with
  | zero => simp at h;subst h;exact ⟨rfl,rfl⟩
  | succ i =>
   have := ih i (by simpa using h);rw [show (i + 1) * 2 = i * 2 + 1 + 1 by omega,show i * 2 + 1 + 1 + 1 = (i * 2 + 1) + 1 + 1 by omega];simp only [At.cells,List.cons_append,List.nil_append,List.getElem?_cons_succ];exact this
theorem row_at {w : World} {B : Nat} {v : Value} {L : List At} (h : RowIs w B v L) : ∃ ao cap,v = .slice ao L.length cap /\ AtRow w ao L /\ L.length <= cap /\ cap <= maxLen := by
 rcases h.2 with ⟨rfl,h0⟩ | ⟨g,cap,cur,rfl,hB,hg,h1,h2,h3,h4⟩
 · have : L = [] := yb h0
   subst this;exact ⟨none,0,rfl,AtRow.nil _ _,zb _,by unfold maxLen;omega⟩
 refine ⟨_,cap,rfl,fun i x hx => ?_,h1,h2⟩
 have hil := (zg hx)
 obtain ⟨q1,q2⟩ := at_at L i x hx
 rw [<- h4,List.getElem?_take_of_lt (by omega),Array.getElem?_toList] at q1 q2
 refine ⟨g,0,rfl,(zf hg),?_,?_⟩
 · simp [World.cell?,hg,q1]
 simp [World.cell?,hg,q2]
structure Tk where
 k : Int
 r : Int
 nm : ByteArray
 tx : ByteArray
 ao : Option Addr
 n : Nat
 cap : Nat
 s : Bool
 f : Int
 t : Int
variable {A B L : List At} {i R : Nat} {x y : At} {a b : ByteArray} {w w' : World} {T : Tk} {lo ao bo : Option Addr}
abbrev Tk.arr (T : Tk) : Array Value := #[ji T.k,ji T.r,.string T.nm,.string T.tx,.slice T.ao T.n T.cap,.bool T.s,ji T.f,ji T.t]
abbrev Tk.val (T : Tk) : Value := .agg T.arr
def eqL : List At -> List At -> Bool
 | [],[] => true
 | x :: A,y :: B => At.eqb x y && eqL A B
 | _,_ => false
theorem eqL_iff : ∀ {A B : List At},eqL A B = true ↔ A = B
 | [],[] => by simp [eqL]
 | [],y :: B => by simp [eqL]
 | x :: A,[] => by simp [eqL]
 | x :: A,y :: B => by
  unfold eqL;rw [Bool.and_eq_true,At.eqb_iff,eqL_iff,List.cons.injEq]
theorem eqL_len (h : A.length ≠ B.length) : eqL A B = false := by
 cases e : eqL A B with
 | false => rfl
 | true => exact absurd (congrArg List.length (eqL_iff.1 e)) h
theorem drop_at {α : Type} {L : List α} {x : α} (h : L[i]? = some x) : L.drop i = x :: L.drop (i + 1) := by
 obtain ⟨h1,rfl⟩ := List.getElem?_eq_some_iff.1 h
 exact List.drop_eq_getElem_cons h1
theorem eqL_drop (hx : A[i]? = some x) (hy : B[i]? = some y) : eqL (A.drop i) (B.drop i) = (At.eqb x y && eqL (A.drop (i + 1)) (B.drop (i + 1))) := by
 rw [drop_at hx,drop_at hy]
 rfl
theorem beq_yes (h : a.data.toList = b.data.toList) : (a.toList == b.toList) = true := by rw [beq_bytes];exact zm h
theorem beq_no (h : ¬ a.data.toList = b.data.toList) : (a.toList == b.toList) = false := by rw [beq_bytes];exact zn h
theorem eq43 (a b c d : Int) (w : World) : (binOp .eql 43 (.agg #[ji a,ji b]) (.agg #[ji c,ji d])).run Tryz.prog w = .ok (.bool (decide (a = c) && decide (b = d))) w := by
 have u3 := Tryz.underlying3
 have a3 := Tryz.isAgg3
 have z3 := Tryz.sizeOf3
 have hS : Tryz.prog.underlying 43 = some (.struct (Tryz.prog.fieldsOf 43)) := by kernel_rfl
 have hp : Tryz.prog.stoodInHeld 43 = false := by kernel_rfl
 rw [run_eql_struct,show (10000 : Nat) = 9999 + 1 from rfl,run_equalIn_agg w 9999 43 _ _ hS hp]
 simp only [Program.fieldsOf,Tryz.underlying43]
 go_simp
 by_cases h1 : a = c <;> by_cases h2 : b = d <;> simp [h1,h2]
structure TkOk (w : World) (T : Tk) (L : List At) : Prop where
 len : L.length = T.n
 row : AtRow w T.ao L
 small : T.n <= 9223372036854775807
theorem TkOk.below (h : TkOk w T L) (b : Below w.heap.size w w') : TkOk w' T L := ⟨h.len,h.row.below b,h.small⟩
def Tk.eqb (T U : Tk) (A B : List At) : Bool :=
 decide (T.k = U.k) && decide (T.r = U.r) && decide (T.nm.data.toList = U.nm.data.toList) && decide (T.tx.data.toList = U.tx.data.toList) && decide (T.s = U.s) && (decide (T.f = U.f) && decide (T.t = U.t)) && eqL A B
def TkRow (w : World) (lo : Option Addr) (l : List (Tk × List At)) : Prop :=
 ∀ i x,l[i]? = some x -> (∃ b off,lo = some (jd b off) /\ b < w.heap.size /\ (∀ j u,x.1.arr[j]? = some u -> w.cell? (jd b (off + i * 8 + j)) = some u)) /\ TkOk w x.1 x.2
theorem TkRow.below {l : List (Tk × List At)} (h : TkRow w lo l) (b : Below w.heap.size w w') : TkRow w' lo l := fun i x hx => by
 obtain ⟨⟨k,off,h1,h2,h3⟩,ok⟩ := h i x hx
 exact ⟨⟨k,off,h1,zo h2 b.size,fun j u hj => (b.cell (p := (jd k (off + i * 8 + j))) h2).trans (h3 j u hj)⟩,ok.below b⟩
theorem requal_any (n m ca cb : Nat) (ha : AtRow w ao A) (hb : AtRow w bo B) (hn : A.length = n) (hm : B.length = m) (hn2 : n <= 9223372036854775807) (hm2 : m <= 9223372036854775807) :
 Calls Tryz.prog 37 #[.slice ao n ca,.slice bo m cb] w fun e w' => e = jr (.bool (eqL A B)) /\ Below w.heap.size w w' := by
 by_cases hnm : n = m
 · subst hnm
   obtain ⟨g,hg0⟩ := ex (eqL A B);rw [hg0];have HA := yf ha hb hn hm hg0;clear ha hb hn hm hg0;go_enter Tryz.func37,Tryz.ntmps37;go_wp2_with fail;go_loopg [5] n (fun g2 iv wr => ∃ (i q : Nat),iv = ji i /\ i + g2 = n /\ eqL (A.drop i) (B.drop i) = g /\ wr = w.drewN q)
   case atStart => exact ⟨0,0,rfl,by omega,HA.out.2.2.2.2,rfl⟩
   obtain ⟨i,q,rfl,hig,hgi,rfl⟩ := hrel;have HG := hid hgi;clear hgi;cases gk with
   | zero =>
    obtain rfl : i = n := by omega
    have hg0 : decide ((i : Int) < (i : Int)) = false := zn (by omega);go_wp2_with fail;have e : g = true := by
     have h := HG.out;rw [List.drop_of_length_le (by rw [HA.out.2.2.1];exact zb _),List.drop_of_length_le (by rw [HA.out.2.2.2.1];exact zb _)] at h;exact h.symm
    subst e;go_ret;exact ⟨rfl,below_drewN (Below.refl _ _) _⟩
   | succ k =>
    have hin : i < n := by omega
    obtain ⟨x,hx⟩ : ∃ x,A[i]? = some x := ⟨_,zy (by rw [HA.out.2.2.1];exact hin)⟩;obtain ⟨y,hy⟩ : ∃ y,B[i]? = some y := ⟨_,zy (by rw [HA.out.2.2.2.1];exact hin)⟩;obtain ⟨b1,o1,rfl,h1,c1,c2⟩ := HA.out.1 i x hx;obtain ⟨b2,o2,rfl,h2,c3,c4⟩ := HA.out.2.1 i y hy;have HD : Hid (eqL (A.drop i) (B.drop i) = (At.eqb x y && eqL (A.drop (i + 1)) (B.drop (i + 1)))) := eqL_drop hx hy;clear hx hy;obtain ⟨nm1,vl1⟩ := x;obtain ⟨nm2,vl2⟩ := y;simp only at c1 c2 c3 c4;have hne := ne49 nm1 vl1 nm2 vl2;obtain ⟨r,hr⟩ := ex (At.eqb ⟨nm1,vl1⟩ ⟨nm2,vl2⟩);rw [hr] at HD;simp only [hr] at hne;clear hr;cases r with
    | false =>
     have e : g = false := by
      rw [<- HG.out,HD.out];rfl
     subst e;simp only [Bool.not_false] at hne;go_wp2_with fail;go_quiet (fail);go_wp2_with fail;go_ret;exact ⟨rfl,below_drewN (below_drewN (Below.refl _ _) _) _⟩
    | true =>
     have HN : Hid (eqL (A.drop (i + 1)) (B.drop (i + 1)) = g) := by
      have h := HD.out;rw [Bool.true_and] at h;exact h.symm.trans HG.out
     simp only [Bool.not_true] at hne;go_wp2_with fail;go_quiet (fail);go_wp2_with fail;go_roundg k
     case measure => omega
     case rel => exact ⟨i + 1,_,by go_num,by omega,HN.out,rfl⟩
 rw [eqL_len (by rw [hn,hm];exact hnm)]
 have hne : ((n : Int) == (m : Int)) = false := by simp;omega
 clear ha hb hn hm
 go_enter Tryz.func37,Tryz.ntmps37
 go_wp2_with fail
 go_ret
 exact ⟨rfl,Below.refl _ _⟩
theorem rsame_any {U : Tk} (hT : TkOk w T A) (hU : TkOk w U B) :
 Calls Tryz.prog 20 #[T.val,U.val] w fun e w' => e = jr (.bool (Tk.eqb T U A B)) /\ Below w.heap.size w w' := by
 obtain ⟨g,hg⟩ := ex (Tk.eqb T U A B)
 rw [hg]
 unfold Tk.eqb at hg
 obtain ⟨k,r,nm,tx,ao,n,cap,s,f,t⟩ := T
 obtain ⟨k',r',nm',tx',ao',n',cap',s',f',t'⟩ := U
 simp only [Tk.val,Tk.arr] at hg |-
 have HT := yc hT hU
 have hnn : n <= 9223372036854775807 := hT.small
 have hnn' : n' <= 9223372036854775807 := hU.small
 have bel : Below w.heap.size w ((w.alloc (.cells #[ji k,ji r,.string nm,.string tx,.slice ao n cap,.bool s,ji f,ji t] 45)).alloc (.cells #[ji k',ji r',.string nm',.string tx',.slice ao' n' cap',.bool s',ji f',ji t'] 45)) := (ze _ _).alloc (by simp) _
 have HB := hid bel
 clear hT hU bel
 by_cases hk : k = k'
 rotate_left 1
 · have e : g = false := by rw [<- hg];simp [hk]
   subst e;clear hg;have hk' : (k == k') = false := beq_false_of_ne hk;clear hk;go_enter Tryz.func20,Tryz.ntmps20;go_wp2_with fail;go_ret;exact ⟨rfl,HB.out⟩
 subst hk
 by_cases hr : r = r'
 rotate_left 1
 · have e : g = false := by rw [<- hg];simp [hr]
   subst e;clear hg;have hr' : (r == r') = false := beq_false_of_ne hr;clear hr;go_enter Tryz.func20,Tryz.ntmps20;go_wp2_with fail;go_ret;exact ⟨rfl,HB.out⟩
 subst hr
 by_cases hm : nm.data.toList = nm'.data.toList
 rotate_left 1
 · have e : g = false := by rw [<- hg];simp [hm]
   subst e;clear hg;have hm' := beq_no hm;clear hm;go_enter Tryz.func20,Tryz.ntmps20;go_wp2_with fail;go_ret;exact ⟨rfl,HB.out⟩
 have hm' := beq_yes hm
 by_cases hx : tx.data.toList = tx'.data.toList
 rotate_left 1
 · have e : g = false := by rw [<- hg];simp [hx]
   subst e;clear hg;have hx' := beq_no hx;clear hx hm;go_enter Tryz.func20,Tryz.ntmps20;go_wp2_with fail;go_ret;exact ⟨rfl,HB.out⟩
 have hx' := beq_yes hx
 by_cases hs : s = s'
 rotate_left 1
 · have e : g = false := by rw [<- hg];simp [hs]
   subst e;clear hg;clear hx hm;have hs' : (s == s') = false := beq_false_of_ne hs;clear hs;go_enter Tryz.func20,Tryz.ntmps20;go_wp2_with fail;go_ret;exact ⟨rfl,HB.out⟩
 subst hs
 have hsp := eq43 f t f' t'
 obtain ⟨b,hb⟩ := ex ((decide (f = f') && decide (t = t')))
 rw [hb] at hg
 simp only [hb] at hsp
 clear hb
 cases b with
 | false =>
  have e : g = false := by rw [<- hg];simp
  subst e;clear hg hx hm;go_enter Tryz.func20,Tryz.ntmps20;go_wp2_with fail;go_ret;exact ⟨rfl,HB.out⟩
 | true =>
  have hgg : eqL A B = g := by rw [<- hg];simp [hm,hx]
  clear hg hx hm;have kk := requal_any n n' cap cap' (HT.out.1.row.below HB.out) (HT.out.2.row.below HB.out) HT.out.1.len HT.out.2.len hnn hnn';rw [hgg] at kk;clear hgg;go_enter Tryz.func20,Tryz.ntmps20;go_wp2_with fail;refine kk.mono ?_;rintro e w1 ⟨rfl,b1⟩;have HB1 := hid (HB.out.trans (b1.mono HB.out.size));clear kk b1;go_wp2_with fail;go_ret;exact ⟨rfl,HB1.out⟩
abbrev TL := Tk × List At
def lsP : List TL -> List TL -> Bool
 | [],[] => true
 | x :: A,y :: B => Tk.eqb x.1 y.1 x.2 y.2 && lsP A B
 | _,_ => false
theorem lsP_len : ∀ {A B : List TL},A.length ≠ B.length -> lsP A B = false
 | [],[],h => absurd rfl h
 | [],_ :: _,_ => rfl
 | _ :: _,[],_ => rfl
 | x :: A,y :: B,h => by
  unfold lsP;rw [lsP_len (by simpa using h),Bool.and_false]
theorem lsP_drop {A B : List TL} {x y : TL} (hx : A[i]? = some x) (hy : B[i]? = some y) : lsP (A.drop i) (B.drop i) = (Tk.eqb x.1 y.1 x.2 y.2 && lsP (A.drop (i + 1)) (B.drop (i + 1))) := by
 rw [drop_at hx,drop_at hy]
 rfl
structure TkCells (w : World) (b o : Nat) (T : Tk) : Prop where
 c0 : w.cell? (jd b o) = some (ji T.k)
 c1 : w.cell? (jd b (o + 1)) = some (ji T.r)
 c2 : w.cell? (jd b (o + 2)) = some (.string T.nm)
 c3 : w.cell? (jd b (o + 3)) = some (.string T.tx)
 c4 : w.cell? (jd b (o + 4)) = some (.slice T.ao T.n T.cap)
 c5 : w.cell? (jd b (o + 5)) = some (.bool T.s)
 c6 : w.cell? (jd b (o + 6)) = some (ji T.f)
 c7 : w.cell? (jd b (o + 7)) = some (ji T.t)
theorem TkCells.of {b o : Nat} (h : ∀ j u,T.arr[j]? = some u -> w.cell? (jd b (o + j)) = some u) : TkCells w b o T :=
 ⟨h 0 _ rfl,h 1 _ rfl,h 2 _ rfl,h 3 _ rfl,h 4 _ rfl,h 5 _ rfl,h 6 _ rfl,h 7 _ rfl⟩
theorem TkRow.at {l : List TL} (h : TkRow w lo l) {i : Nat} {x : TL} (hx : l[i]? = some x) : ∃ b off,lo = some (jd b off) /\ b < w.heap.size /\ TkCells w b (off + i * 8) x.1 /\ TkOk w x.1 x.2 := by
 obtain ⟨⟨b,off,h1,h2,h3⟩,ok⟩ := h i x hx
 exact ⟨b,off,h1,h2,TkCells.of h3,ok⟩
theorem TkRow.nil (w : World) (lo : Option Addr) : TkRow w lo [] := fun i x hx => by simp at hx
theorem rlist_any {A B : List TL} (n m ca cb : Nat) (ha : TkRow w ao A) (hb : TkRow w bo B) (hn : A.length = n) (hm : B.length = m) (hn2 : n <= 9223372036854775807) (hm2 : m <= 9223372036854775807) :
 Calls Tryz.prog 12 #[.slice ao n ca,.slice bo m cb] w fun e w' => e = jr (.bool (lsP A B)) /\ Below w.heap.size w w' := by
 by_cases hnm : n = m
 · subst hnm
   obtain ⟨g,hg0⟩ := ex (lsP A B);rw [hg0];have HA := yf ha hb hn hm hg0;clear ha hb hn hm hg0;go_enter Tryz.func12,Tryz.ntmps12;go_wp2_with fail;go_loopg [5] n (fun g2 iv wr => ∃ (i : Nat),iv = ji i /\ i + g2 = n /\ lsP (A.drop i) (B.drop i) = g /\ Below w.heap.size w wr)
   case atStart => exact ⟨0,rfl,by omega,HA.out.2.2.2.2,Below.refl _ _⟩
   obtain ⟨i,rfl,hig,hgi,hbe⟩ := hrel;have HG := yc hgi hbe;clear hgi hbe;cases gk with
   | zero =>
    obtain rfl : i = n := by omega
    have hg0 : decide ((i : Int) < (i : Int)) = false := zn (by omega);go_wp2_with fail;have e : g = true := by
     have h := HG.out.1;rw [List.drop_of_length_le (by rw [HA.out.2.2.1];exact zb _),List.drop_of_length_le (by rw [HA.out.2.2.2.1];exact zb _)] at h;exact h.symm
    subst e;go_ret;exact ⟨rfl,HG.out.2⟩
   | succ k =>
    have hin : i < n := by omega
    obtain ⟨x,hx⟩ : ∃ x,A[i]? = some x := ⟨_,zy (by rw [HA.out.2.2.1];exact hin)⟩;obtain ⟨y,hy⟩ : ∃ y,B[i]? = some y := ⟨_,zy (by rw [HA.out.2.2.2.1];exact hin)⟩;obtain ⟨b1,o1,rfl,h1,⟨c0,c1,c2,c3,c4,c5,c6,c7⟩,ok1⟩ := (HA.out.1.below HG.out.2).at hx;obtain ⟨b2,o2,rfl,h2,⟨d0,d1,d2,d3,d4,d5,d6,d7⟩,ok2⟩ := (HA.out.2.1.below HG.out.2).at hy;have HD : Hid (lsP (A.drop i) (B.drop i) = (Tk.eqb x.1 y.1 x.2 y.2 && lsP (A.drop (i + 1)) (B.drop (i + 1)))) := lsP_drop hx hy;clear hx hy;obtain ⟨X,LX⟩ := x;obtain ⟨Y,LY⟩ := y;simp only at c0 c1 c2 c3 c4 c5 c6 c7 d0 d1 d2 d3 d4 d5 d6 d7 ok1 ok2 HD;obtain ⟨r,hr⟩ := ex (Tk.eqb X Y LX LY);have HR := hid hr;rw [hr] at HD;have HO := yc ok1 ok2;clear ok1 ok2 hr;have kk : ∀ q,Calls Tryz.prog 20 #[X.val,Y.val] (wr.drewN q) fun e w' => e = jr (.bool r) /\ Below w.heap.size w w' := fun q => by
     have hb : Below wr.heap.size wr (wr.drewN q) := below_drewN (Below.refl _ _) q;have k0 := rsame_any (HO.out.1.below hb) (HO.out.2.below hb);rw [HR.out] at k0;refine k0.mono ?_;rintro e w1 ⟨rfl,b1⟩;exact ⟨rfl,(HG.out.2.trans (hb.mono HG.out.2.size)).trans (b1.mono HG.out.2.size)⟩
    simp only [Tk.val,Tk.arr] at kk;go_wp2_with fail;go_region_with (go_at_call 20;refine (kk _).mono ?_;rintro e w1 ⟨rfl,b1⟩)
    all_goals
     have H1 := hid b1;clear b1 kk;cases r with
     | false =>
      have e : g = false := by rw [<- HG.out.1,HD.out];rfl
      subst e;go_wp2_with fail;go_ret;exact ⟨rfl,H1.out⟩
     | true =>
      have HN : Hid (lsP (A.drop (i + 1)) (B.drop (i + 1)) = g) := by
       have h := HD.out;rw [Bool.true_and] at h;exact h.symm.trans HG.out.1
      go_wp2_with fail;go_roundg k
      case measure => omega
      case rel => exact ⟨i + 1,by go_num,by omega,HN.out,H1.out⟩
 rw [lsP_len (by rw [hn,hm];exact hnm)]
 have hne : ((n : Int) == (m : Int)) = false := by simp;omega
 clear ha hb hn hm
 go_enter Tryz.func12,Tryz.ntmps12
 go_wp2_with fail
 go_ret
 exact ⟨rfl,Below.refl _ _⟩
theorem wraps_i64 (n : Int) (h₀ : 0 <= n) (h₁ : n < 2 ^ 63) : IntKind.i64.wrap n = n := by rw [IntKind.wrap_i64];omega
theorem ret_i32 {a b : Int} (h : a = b) : Ending.returned (.int .i32 a) = jr (.int .i32 b) := by rw [h]
theorem ret_bool {a b : Bool} (h : a = b) : Ending.returned (.bool a) = jr (.bool b) := by rw [h]
def mayB (r : Int) : Bool := decide (0 <= r /\ r <= 1114111 /\ (r < 55296 \/ 57343 < r))
theorem may_any (r : Int) (w : World) : Calls Tryz.prog 139 #[ji r] w fun e w' => e = jr (.bool (mayB r)) /\ w' = w := by
 go_enter Tryz.func139,Tryz.ntmps139
 go_wp2
 all_goals
  go_ret;refine ⟨ret_bool (Bool.eq_iff_iff.2 ?_),rfl⟩;unfold mayB;simp only [decide_eq_true_eq,Bool.false_eq_true,false_iff]
  first | omega | (simp only [true_iff];omega) | (simp only [Bool.or_eq_true,decide_eq_true_eq];omega)
def chr (r : Int) : Int := if mayB r = true then r else 65533
theorem may_iff (r : Int) : mayB r = true ↔ 0 <= r /\ r <= 1114111 /\ (r < 55296 \/ 57343 < r) := by unfold mayB;exact decide_eq_true_iff
theorem conv_at (W : World) (g : Nat) (xs : List Int) (n : Nat) (hl : xs.length = n) (hb : W.heap[g]? = some (.cells (xs.map (Value.int .u8)).toArray 5 (0,0))) : (convert 67 9 (.slice (some (jd g 0)) n n)).run Tryz.prog W = .ok (.string (strOfNums xs)) W := by
 refine run_convert_bytes_arg _ 67 5 Tryz.underlying67 Tryz.underlying5 g 0 n n xs hl (fun i hi => ?_) 9 Tryz.underlying9
 have hi' : i < xs.length := by omega
 simp [World.cell?,hb,zy hi']
theorem conv_new (w : World) (xs : List Int) (n : Nat) (cs : Array Value) (hl : xs.length = n) (hcs : (xs.map (Value.int .u8)).toArray = cs) (S : ByteArray) (hS : strOfNums xs = S) : (convert 67 9 (.slice (some (jd w.heap.size 0)) n n)).run Tryz.prog (w.alloc (.cells cs 5)) = .ok (.string S) (w.alloc (.cells cs 5)) := by
 subst hcs;subst hS
 exact conv_at _ _ xs n hl (zx _ _)
theorem i64_or192 (y : Int) (h₀ : 0 <= y) (h₁ : y < 64) : bits .or .i64 192 y = 192 + y := bits_join .i64 63 (by decide) wraps_i64 6 192 y (by decide) (by decide) (by decide) h₀ (by omega) (by omega)
theorem i64_or224 (y : Int) (h₀ : 0 <= y) (h₁ : y < 32) : bits .or .i64 224 y = 224 + y := bits_join .i64 63 (by decide) wraps_i64 5 224 y (by decide) (by decide) (by decide) h₀ (by omega) (by omega)
theorem i64_or240 (y : Int) (h₀ : 0 <= y) (h₁ : y < 16) : bits .or .i64 240 y = 240 + y := bits_join .i64 63 (by decide) wraps_i64 4 240 y (by decide) (by decide) (by decide) h₀ (by omega) (by omega)
theorem i64_or128 (y : Int) (h₀ : 0 <= y) (h₁ : y < 128) : bits .or .i64 128 y = 128 + y := bits_join .i64 63 (by decide) wraps_i64 7 128 y (by decide) (by decide) (by decide) h₀ (by omega) (by omega)
theorem i64_and63 (x : Int) (h₀ : 0 <= x) (h₁ : x < 2000000) : bits .and .i64 x 63 = x % 64 := bits_mask .i64 63 (by decide) wraps_i64 6 (by decide) x h₀ (by omega)
theorem may_as (r : Int) (v : Bool) (w : World) (h : mayB r = v) : Calls Tryz.prog 139 #[ji r] w fun e w' => e = jr (.bool v) /\ w' = w := by subst h;exact may_any r w
theorem val_enc (r : Int) (h : Utf8.valid r = true) (c : Nat) (hc : r = (c : Int)) : Utf8.encode r = if c < 0x80 then ⟨#[UInt8.ofNat c]⟩ else if c < 0x800 then ⟨#[UInt8.ofNat (0xC0 + c / 64),UInt8.ofNat (0x80 + c % 64)]⟩
 else if c < 0x10000 then ⟨#[UInt8.ofNat (0xE0 + c / 4096),UInt8.ofNat (0x80 + c / 64 % 64),UInt8.ofNat (0x80 + c % 64)]⟩ else ⟨#[UInt8.ofNat (0xF0 + c / 262144),UInt8.ofNat (0x80 + c / 4096 % 64),UInt8.ofNat (0x80 + c / 64 % 64),UInt8.ofNat (0x80 + c % 64)]⟩ := by
 subst hc
 unfold Utf8.encode
 simp only [h,if_true,Int.toNat_natCast]
theorem renc_ok (r : Int) (w : World) (h0 : 0 <= r) (h1 : r <= 1114111) (h2 : r < 55296 \/ 57343 < r) :
 Calls Tryz.prog 106 #[ji r] w fun e w' => e = jr (.string (Utf8.encode r)) /\ Below w.heap.size w w' := by
 have hm : mayB r = true := (may_iff r).2 ⟨h0,h1,h2⟩
 have hv : Utf8.valid r = true := by unfold Utf8.valid;simp;omega
 obtain ⟨c,hc⟩ := Int.eq_ofNat_of_zero_le h0
 have he := val_enc r hv c hc
 have HE := hid he
 clear he hv h2
 by_cases c1 : r < 128
 · have hconv := conv_new w [r] 1 #[.int .u8 r] rfl rfl (Utf8.encode r) (by rw [HE.out,jp (by omega),hc];rfl)
   clear hc HE;go_enter Tryz.func106,Tryz.ntmps106;go_wp2_with (go_at_call 139;refine (may_as _ true _ hm).mono ?_;rintro e w' ⟨rfl,rfl⟩);go_ret;exact ⟨rfl,ze _ _⟩
 by_cases c2 : r < 2048
 · have b1 := i64_or192 (r / 64) (by omega) (by omega)
   have b2 := i64_and63 r (by omega) (by omega);have b3 := i64_or128 (r % 64) (by omega) (by omega);have b4 : (192 + r / 64) % 256 = 192 + r / 64 := by omega
   have b5 : (128 + r % 64) % 256 = 128 + r % 64 := by omega
   have hconv := conv_new w [192 + r / 64,128 + r % 64] 2 #[.int .u8 (192 + r / 64),.int .u8 (128 + r % 64)] rfl rfl (Utf8.encode r) (by rw [HE.out,jq (by omega),jp (by omega),hc];rfl);clear hc HE;go_enter Tryz.func106,Tryz.ntmps106;go_wp2_with (go_at_call 139;refine (may_as _ true _ hm).mono ?_;rintro e w' ⟨rfl,rfl⟩);go_ret;exact ⟨rfl,ze _ _⟩
 by_cases c3 : r < 65536
 · have b1 := i64_or224 (r / 4096) (by omega) (by omega)
   have b2 := i64_and63 r (by omega) (by omega);have b3 := i64_or128 (r % 64) (by omega) (by omega);have b4 : (224 + r / 4096) % 256 = 224 + r / 4096 := by omega
   have b5 : (128 + r % 64) % 256 = 128 + r % 64 := by omega
   have b6 := i64_and63 (r / 64) (by omega) (by omega);have b7 := i64_or128 (r / 64 % 64) (by omega) (by omega);have b8 : (128 + r / 64 % 64) % 256 = 128 + r / 64 % 64 := by omega
   have hconv := conv_new w [224 + r / 4096,128 + r / 64 % 64,128 + r % 64] 3 #[.int .u8 (224 + r / 4096),.int .u8 (128 + r / 64 % 64),.int .u8 (128 + r % 64)] rfl rfl (Utf8.encode r) (by rw [HE.out,jq (by omega),jq (by omega),jp (by omega),hc];rfl);clear hc HE;go_enter Tryz.func106,Tryz.ntmps106;go_wp2_with (go_at_call 139;refine (may_as _ true _ hm).mono ?_;rintro e w' ⟨rfl,rfl⟩);go_ret;exact ⟨rfl,ze _ _⟩
 have b1 := i64_or240 (r / 262144) (by omega) (by omega)
 have b2 := i64_and63 r (by omega) (by omega)
 have b3 := i64_or128 (r % 64) (by omega) (by omega)
 have b4 : (240 + r / 262144) % 256 = 240 + r / 262144 := by omega
 have b5 : (128 + r % 64) % 256 = 128 + r % 64 := by omega
 have b6 := i64_and63 (r / 64) (by omega) (by omega)
 have b7 := i64_or128 (r / 64 % 64) (by omega) (by omega)
 have b8 : (128 + r / 64 % 64) % 256 = 128 + r / 64 % 64 := by omega
 have b9 := i64_and63 (r / 4096) (by omega) (by omega)
 have b10 := i64_or128 (r / 4096 % 64) (by omega) (by omega)
 have b11 : (128 + r / 4096 % 64) % 256 = 128 + r / 4096 % 64 := by omega
 have hconv := conv_new w [240 + r / 262144,128 + r / 4096 % 64,128 + r / 64 % 64,128 + r % 64] 4 #[.int .u8 (240 + r / 262144),.int .u8 (128 + r / 4096 % 64),.int .u8 (128 + r / 64 % 64),.int .u8 (128 + r % 64)] rfl rfl (Utf8.encode r) (by rw [HE.out,jq (by omega),jq (by omega),jq (by omega),hc];rfl)
 clear hc HE
 go_enter Tryz.func106,Tryz.ntmps106
 go_wp2_with (go_at_call 139;refine (may_as _ true _ hm).mono ?_;rintro e w' ⟨rfl,rfl⟩)
 go_ret
 exact ⟨rfl,ze _ _⟩
theorem renc_no (r : Int) (w : World) (hm : mayB r = false) :
 Calls Tryz.prog 106 #[ji r] w fun e w' => e = jr (.string (Utf8.encode 65533)) /\ Below w.heap.size w w' := by
 have b1 : bits .or .i64 224 15 = 239 := by decide +kernel
 have b2 : bits .and .i64 65533 63 = 61 := by decide +kernel
 have b3 : bits .or .i64 128 61 = 189 := by decide +kernel
 have b4 : bits .and .i64 1023 63 = 63 := by decide +kernel
 have b5 : bits .or .i64 128 63 = 191 := by decide +kernel
 have hconv := conv_new w [239,191,189] 3 #[.int .u8 239,.int .u8 191,.int .u8 189] rfl rfl (Utf8.encode 65533) (by decide +kernel)
 go_enter Tryz.func106,Tryz.ntmps106
 go_wp2_with (go_at_call 139;refine (may_as _ false _ hm).mono ?_;rintro e w' ⟨rfl,rfl⟩)
 go_ret
 exact ⟨rfl,ze _ _⟩
theorem renc_any (r : Int) (w : World) : Calls Tryz.prog 106 #[ji r] w fun e w' => e = jr (.string (Utf8.encode (chr r))) /\ Below w.heap.size w w' := by
 unfold chr
 by_cases h : mayB r = true
 · rw [jp h]
   obtain ⟨h0,h1,h2⟩ := (may_iff r).1 h;exact renc_ok r w h0 h1 h2
 rw [jq h]
 exact renc_no r w (by simpa using h)
theorem char_any (r : Int) (w : World) : Calls Tryz.prog 91 #[ji r] w fun e w' => e = jr (.int .i32 (chr r)) /\ w' = w := by
 by_cases h : 0 <= r /\ r <= 1114111 /\ (r < 55296 \/ 57343 < r)
 · have hc : Hid (chr r = r) := by show chr r = r;unfold chr;rw [jp ((may_iff r).2 h)]
   obtain ⟨h0,h1,h2⟩ := h;rcases h2 with h2 | h2
   · go_enter Tryz.func91,Tryz.ntmps91
     go_wp2;go_ret;exact ⟨ret_i32 hc.out.symm,rfl⟩
   go_enter Tryz.func91,Tryz.ntmps91;go_wp2;go_ret;exact ⟨ret_i32 hc.out.symm,rfl⟩
 have hc : Hid (chr r = 65533) := by show chr r = 65533;unfold chr;rw [jq (fun c => h ((may_iff r).1 c))]
 have h3 : r < 0 \/ 1114111 < r \/ (55296 <= r /\ r <= 57343) := by omega
 clear h
 rcases h3 with h3 | h3 | ⟨h3,h4⟩
 all_goals
  go_enter Tryz.func91,Tryz.ntmps91;go_wp2;go_ret;exact ⟨ret_i32 hc.out.symm,rfl⟩
def getP (L : List At) (k : Path) : Option At := L.find? fun x => decide (x.nm = k)
def Fits (w0 : World) (g c : Nat) (p : At -> Bool) (L : List At) : Prop :=
 ∀ W,Below w0.heap.size w0 W -> ∀ nm vl : ByteArray,At.mk nm vl ∈ L -> Calls Tryz.prog g #[.agg #[.string nm,.string vl],.pointer (some (jd c 0))] W fun e w' => e = jr (.bool (p ⟨nm,vl⟩)) /\ Below W.heap.size W w'
def gv : Option At -> ByteArray
 | some x => x.v
 | none => ⟨#[]⟩
def gn : Option At -> ByteArray
 | some x => x.n
 | none => ⟨#[]⟩
theorem load49 (h1 : w.cell? (jd R 0) = some (.string a)) (h2 : w.cell? (jd R 1) = some (.string b)) : (loadVar 49 (jd R 0)).run Tryz.prog w = .ok (.agg #[.string a,.string b]) w := by
 have a24 := Tryz.isAgg49
 have z24 := Tryz.sizeOf49
 go_simp
theorem results_first {tmps : Array Value} {r : Bool} (hp : tmps.getD 4 undef = .pointer (some (jd R 0))) (hr : tmps.getD 5 undef = .bool r)
 (h1 : w.cell? (jd R 0) = some (.string a)) (h2 : w.cell? (jd R 1) = some (.string b)) : (results Tryz.f188 tmps).run Tryz.prog w = .ok (.tuple #[.agg #[.string a,.string b],.bool r]) w := by
 have hp' : tmps[4]?.getD undef = .pointer (some (jd R 0)) := by simpa using hp
 have hr' : tmps[5]?.getD undef = .bool r := by simpa using hr
 simp [results,hp',hr',asAddr,load49 h1 h2]
theorem two_set {wr : World} {x y : Value} (a b : Value) (h0 : wr.cell? (jd R 0) = some x) (h1 : wr.cell? (jd R 1) = some y) :
 ((wr.setCell (jd R 0) a).setCell (jd R 1) b).cell? (jd R 0) = some a /\ ((wr.setCell (jd R 0) a).setCell (jd R 1) b).cell? (jd R 1) = some b := by
 constructor
 · rw [World.cell?_setCell_other _ _ _ _ (by simp)]
   exact World.cell?_setCell_same _ _ _ h0
 exact World.cell?_setCell_same _ _ _ ((World.cell?_setCell_other _ _ _ _ (by simp)).trans h1)
theorem find_drop {p : At -> Bool} (h : L[i]? = some x) : (L.drop i).find? p = if p x = true then some x else (L.drop (i + 1)).find? p := by
 rw [drop_at h,List.find?_cons]
 cases p x <;> simp
theorem first_any (n cap g c : Nat) (p : At -> Bool) (eg : ∀ args w,(callFunc g args).run Tryz.prog w = .ok (.enter g args) w) (hf : Fits w g c p L) (ha : AtRow w ao L) (hn : L.length = n) (hn2 : n <= 100000) :
 Calls Tryz.prog 188 #[.slice ao n cap,.func (.func g) #[] #[.pointer (some (jd c 0))]] w fun e w' => e = jr (.tuple #[.agg #[.string (gn (L.find? p)),.string (gv (L.find? p))],.bool (L.find? p).isSome]) /\ Below w.heap.size w w' := by
 obtain ⟨r,hr0⟩ := ex (L.find? p)
 rw [hr0]
 have HA := ye ha hn hr0 hf
 clear ha hn hr0 hf
 go_enter Tryz.func188,Tryz.ntmps188
 go_wp2_with fail
 obtain ⟨W,hW⟩ := ex (w.alloc (.cells #[js,js] 49))
 have hbW : Below w.heap.size w W := by rw [<- hW];exact ze _ _
 have hnew : W.heap[w.heap.size]? = some (.cells #[js,js] 49 (0,0)) := by rw [<- hW];exact zx _ _
 have HW := yc hbW hnew
 rw [hW]
 clear hW hnew hbW
 go_loopg [11] n (fun g2 iv wr => ∃ i : Nat,iv = ji i /\ i + g2 = n /\ (L.drop i).find? p = r /\ Below W.heap.size W wr)
 case atStart => exact ⟨0,rfl,by omega,HA.out.2.2.1,Below.refl _ _⟩
 obtain ⟨i,rfl,hig,hgi,hbe⟩ := hrel
 have HG := yc hgi hbe
 have hRl : w.heap.size < W.heap.size := (zf HW.out.2)
 have hRr : wr.heap[w.heap.size]? = some (.cells #[js,js] 49 (0,0)) := (hbe.block _ hRl).trans HW.out.2
 have HB := hid (HW.out.1.trans (hbe.mono HW.out.1.size))
 have q0 : wr.cell? (jd w.heap.size 0) = some js := by simp [World.cell?,hRr]
 have q1 : wr.cell? (jd w.heap.size 1) = some js := by simp [World.cell?,hRr]
 have f0 : wr.frozen? (jd w.heap.size 0) = false := by simp [World.frozen?,hRr]
 have f1 : wr.frozen? (jd w.heap.size 1) = false := by simp [World.frozen?,hRr]
 have hRw : w.heap.size < wr.heap.size := (zf hRr)
 clear hgi hbe hRr hRl
 cases gk with
 | zero =>
  obtain rfl : i = n := by omega
  have hg0 : decide ((i : Int) < (i : Int)) = false := zn (by omega);go_wp2_with fail;have e : r = none := by
   have h := HG.out.1;rw [List.drop_of_length_le (by rw [HA.out.2.1];exact zb _)] at h;exact h.symm
  subst e;obtain ⟨z0,z1⟩ := two_set js js q0 q1;have hb2 : Below w.heap.size w ((wr.setCell (jd w.heap.size 0) js).setCell (jd w.heap.size 1) js) := (HB.out.setCell (zb _) _).setCell (zb _) _;have hbl : w.heap.size < ((wr.setCell (jd w.heap.size 0) js).setCell (jd w.heap.size 1) js).heap.size := by simpa using hRw
  generalize (wr.setCell (jd w.heap.size 0) js).setCell (jd w.heap.size 1) js = X at z0 z1 hb2 hbl |-;have ba : Below X.heap.size X (X.alloc (.cells #[js,js] 49)) := ze _ _;exact bodyPost_ret (results_first rfl rfl ((ba.cell (p := (jd w.heap.size 0)) hbl).trans z0) ((ba.cell (p := (jd w.heap.size 1)) hbl).trans z1)) rfl ⟨rfl,hb2.trans (ba.mono (ya hbl))⟩
 | succ k =>
  have hin : i < n := by omega
  obtain ⟨x,hx⟩ : ∃ x,L[i]? = some x := ⟨_,zy (by rw [HA.out.2.1];exact hin)⟩;obtain ⟨b1,o1,rfl,h1,c1,c2⟩ := (HA.out.1.below HB.out) i x hx;have HD : Hid ((L.drop i).find? p = if p x = true then some x else (L.drop (i + 1)).find? p) := find_drop hx;have hmem := List.mem_of_getElem? hx;clear hx;obtain ⟨nm,vl⟩ := x;simp only at c1 c2;obtain ⟨V,hV⟩ := ex (wr.alloc (.cells #[.string nm,.string vl] 49));have bV : Below wr.heap.size wr V := by rw [<- hV];exact ze _ _
  have hVn : V.heap[wr.heap.size]? = some (.cells #[.string nm,.string vl] 49 (0,0)) := by rw [<- hV];exact zx _ _
  have hVl : wr.heap.size < V.heap.size := (zf hVn);have d0 : V.cell? (jd wr.heap.size 0) = some (.string nm) := by simp [World.cell?,hVn]
  have d1 : V.cell? (jd wr.heap.size 1) = some (.string vl) := by simp [World.cell?,hVn]
  go_wp2_with fail;refine (HA.out.2.2.2 V (HB.out.trans (bV.mono HB.out.size)) nm vl hmem).mono ?_;rintro e w1 ⟨rfl,q⟩;clear hV hVn c1 c2 h1;have d0' := (q.cell (p := (jd wr.heap.size 0)) hVl).trans d0;have d1' := (q.cell (p := (jd wr.heap.size 1)) hVl).trans d1;have bw : Below wr.heap.size wr w1 := bV.trans (q.mono (ya hVl));have q0' := (bw.cell (p := (jd w.heap.size 0)) hRw).trans q0;have q1' := (bw.cell (p := (jd w.heap.size 1)) hRw).trans q1;have f0' := (bw.frozen (p := (jd w.heap.size 0)) hRw).trans f0;have f1' := (bw.frozen (p := (jd w.heap.size 1)) hRw).trans f1;have hne : w.heap.size ≠ wr.heap.size := Nat.ne_of_lt hRw;have HB1 := yc (HB.out.trans (bw.mono HB.out.size)) (HG.out.2.trans (bw.mono HG.out.2.size));have hw1 : w.heap.size < w1.heap.size := zo hRw bw.size;clear bw q bV d0 d1 q0 q1 f0 f1 hVl;obtain ⟨pr,hpr⟩ := ex (p ⟨nm,vl⟩);have HP := hid hpr;rw [hpr];clear hpr;cases pr with
  | true =>
   go_wp2_with fail;have e : r = some ⟨nm,vl⟩ := by
    rw [<- HG.out.1,HD.out,jp HP.out]
   subst e;obtain ⟨z0,z1⟩ := two_set (.string nm) (.string vl) q0' q1';exact bodyPost_ret (results_first rfl rfl z0 z1) rfl ⟨rfl,(HB1.out.1.setCell (zb _) _).setCell (zb _) _⟩
  | false =>
   have HN : Hid ((L.drop (i + 1)).find? p = r) := by
    have h := HD.out;rw [jq (by rw [HP.out];exact fun h => by cases h)] at h;exact h.symm.trans HG.out.1
   go_wp2_with fail;go_roundg k
   case measure => omega
   case rel => exact ⟨i + 1,by go_num,by omega,HN.out,HB1.out.2⟩
theorem enters34 : ∀ args w,(callFunc 190 args).run Tryz.prog w = .ok (.enter 190 args) w := enters_of Tryz.func190 (by kernel_rfl) rfl
theorem named_one (W : World) (c : Nat) (s nm vl : ByteArray) (hc : c < W.heap.size) (h0 : W.cell? (jd c 0) = some (.string s)) :
 Calls Tryz.prog 190 #[.agg #[.string nm,.string vl],.pointer (some (jd c 0))] W fun e w' => e = jr (.bool (decide (nm.data.toList = s.data.toList))) /\ Below W.heap.size W w' := by
 have hb : Below W.heap.size W (W.alloc (.cells #[.string nm,.string vl] 49)) := ze _ _
 have HB := hid hb
 rw [<- beq_bytes]
 clear hb
 go_enter Tryz.func190,Tryz.ntmps190
 go_wp2_with fail
 go_ret
 exact ⟨rfl,HB.out⟩
theorem named_any (w : World) (s : ByteArray) : Calls Tryz.prog 189 #[.string s] w fun e w' => ∃ c,e = jr (.func (.func 190) #[] #[.pointer (some (jd c 0))]) /\ c < w'.heap.size /\ w'.cell? (jd c 0) = some (.string s) /\ Below w.heap.size w w' := by
 obtain ⟨V,hV⟩ := ex (w.alloc (.cells #[.string s] 9))
 have hVn : V.heap[w.heap.size]? = some (.cells #[.string s] 9 (0,0)) := by rw [<- hV];exact zx _ _
 have HV : Hid (w.heap.size < V.heap.size /\ V.cell? (jd w.heap.size 0) = some (.string s) /\ Below w.heap.size w V) := ⟨(zf hVn),by simp [World.cell?,hVn],by rw [<- hV];exact ze _ _⟩
 clear hVn
 go_enter Tryz.func189,Tryz.ntmps189
 go_wp2_with fail
 go_ret
 exact ⟨w.heap.size,rfl,HV.out⟩
theorem fits_named {c : Nat} {s : ByteArray} (hc : c < w.heap.size) (h0 : w.cell? (jd c 0) = some (.string s)) : Fits w 190 c (fun x => decide (x.nm = s.data.toList)) L := fun W hb nm vl _ =>
 named_one W c s nm vl (zo hc hb.size) ((hb.cell (p := (jd c 0)) hc).trans h0)
theorem get_any (n cap : Nat) (s : ByteArray) (ha : AtRow w ao L) (hn : L.length = n) (hn2 : n <= 100000) :
 Calls Tryz.prog 186 #[.slice ao n cap,.string s] w fun e w' => e = jr (.tuple #[.string (gv (getP L s.data.toList)),.bool (getP L s.data.toList).isSome]) /\ Below w.heap.size w w' := by
 obtain ⟨r,hr⟩ := ex (getP L s.data.toList)
 rw [hr]
 have HA := yd ha hn hr
 clear ha hn hr
 go_enter Tryz.func186,Tryz.ntmps186
 go_wp2_with fail
 refine (named_any w s).mono ?_
 rintro e w1 ⟨c,rfl,h1,h2,h3⟩
 have hf := first_any n cap 190 c _ enters34 (fits_named h1 h2) (HA.out.1.below h3) HA.out.2.1 hn2
 change Calls Tryz.prog 188 #[.slice ao n cap,.func (.func 190) #[] #[.pointer (some (jd c 0))]] w1 (fun e w' => e = jr (.tuple #[.agg #[.string (gn (getP L s.data.toList)),.string (gv (getP L s.data.toList))],.bool (getP L s.data.toList).isSome]) /\ Below w1.heap.size w1 w') at hf
 have H1 := hid h3
 clear h1 h2 h3
 rw [HA.out.2.2] at hf
 go_wp2_with fail
 refine hf.mono ?_
 rintro e w2 ⟨rfl,q⟩
 clear hf
 have H2 : Hid (Below w.heap.size w (w2.alloc (.cells #[.string (gn r),.string (gv r)] 49))) := by
  have b := H1.out.trans (q.mono H1.out.size);exact b.alloc b.size _
 clear q
 go_wp2_with fail
 go_ret2
 exact ⟨rfl,H2.out⟩
end Go.Proofs.YtjjfalbngcbfaaaGreatDoor.G9
