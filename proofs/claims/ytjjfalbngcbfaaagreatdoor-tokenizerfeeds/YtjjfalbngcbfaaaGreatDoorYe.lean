import Derived.Test.YtjjfalbngcbfaaaGreatDoorZ0
import Derived.Test.YtjjfalbngcbfaaaGreatDoorZc
import Derived.Test.YtjjfalbngcbfaaaGreatDoorZf
import Derived.Deep.DeepCutAuto
import Derived.Test.YtjjfalbngcbfaaaGreatDoorZa
import Derived.Test.YtjjfalbngcbfaaaGreatDoorZe
import Derived.Deep.Upon
set_option maxHeartbeats 2000000
set_option maxRecDepth 1000000
namespace Go.Proofs.YtjjfalbngcbfaaaGreatDoor.G6
open Go.RowKit
variable {P : Program} {o : Oper} {a : Act} {w w' W : World} {v : Value} {K : Act -> World -> Prop} {Q : Exit -> Act -> World -> Prop} {p : Path} {l A L : List Rf} {x : Rf} {B e s n k : Nat} {xs : List Value} {ao bo : Option Addr}
theorem oper_run' (h : (execOp a.eval o).run P w = .ok (.value v) w') (hk : K (a.put o.dst v) w') : Oper.wp P o a w K Q := by
 unfold Oper.wp
 rw [h]
 exact hk
theorem may_as (r : Int) (v : Bool) (w : World) (h : mayB r = v) : Calls Tryz.prog 139 #[ji r] w fun e w' => e = jr (.bool v) /\ w' = w := by subst h;exact may_any r w
theorem rbad_any (r : Int) (w : World) (h₀ : 0 <= r) (h₁ : r <= 1114111) : Calls Tryz.prog 30 #[ji r] w fun e w' => ∃ c : Int,e = jr (ji c) /\ (c != 0) = badB r /\ w' = w := by
 refine (G4.rbad_any r w h₀ (by omega)).mono ?_
 rintro e w' ⟨rfl,rfl⟩
 refine ⟨_,rfl,?_,rfl⟩
 rw [Bool.eq_iff_iff]
 unfold G4.badN badB
 rw [bne_iff_ne,decide_eq_true_iff]
 repeat' split
 all_goals omega
theorem rnumber_any (n : Int) (w : World) (hn : -9223372036854775808 <= n /\ n <= 9223372036854775807) :
 Calls Tryz.prog 134 #[ji n] w fun e w' => e = jr (.tuple #[ji (chrP n).1,ji (chrP n).2]) /\ Below w.heap.size w w' := by
 by_cases h1 : n <= 0
 · have HP : Hid (chrP n = (65533,20)) := by show chrP n = _;unfold chrP;rw [jp (Or.inl h1)]
   go_enter Tryz.func134,Tryz.ntmps134;go_wp2;go_ret2;rw [HP.out];exact ⟨rfl,Below.refl _ _⟩
 by_cases h2 : n > 1114111 \/ (55296 <= n /\ n <= 57343)
 · have HP : Hid (chrP n = (65533,20)) := by show chrP n = _;unfold chrP;rw [jp (Or.inr h2)]
   have hm : mayB n = false := by unfold mayB;apply zn;omega
   clear h2;go_enter Tryz.func134,Tryz.ntmps134;go_wp2_with (go_at_call 139;refine (may_as _ false _ hm).mono ?_;rintro e w' ⟨rfl,rfl⟩);go_ret2;rw [HP.out];exact ⟨rfl,Below.refl _ _⟩
 have hn0 : ¬ (n <= 0 \/ n > 1114111 \/ (55296 <= n /\ n <= 57343)) := by omega
 have hm : mayB n = true := by unfold mayB;apply zm;omega
 by_cases h4 : 128 <= n /\ n <= 159
 · have HP : Hid (chrP n = (tabL.getD (n - 128).toNat 0,20)) := by show chrP n = _;unfold chrP;rw [jq hn0,jp h4]
   obtain ⟨i,hi⟩ : ∃ i : Nat,n = i + 128 := ⟨(n - 128).toNat,by omega⟩;subst hi;rw [show ((i : Int) + 128 - 128).toNat = i by omega] at HP;have hc : (w.alloc (.cells (tabL.map (Value.int .i64)).toArray 3)).cell? (jd w.heap.size i) = some (ji (tabL.getD i 0)) := by
    have hi32 : i < 32 := by omega
    have e := zx w (.cells (tabL.map (Value.int .i64)).toArray 3);have hl : i < tabL.length := hi32;obtain ⟨W,hW⟩ : ∃ W,W = w.alloc (.cells (tabL.map (Value.int .i64)).toArray 3) := ⟨_,rfl⟩;rw [<- hW] at e |-;clear hW;obtain ⟨L,hL⟩ : ∃ L,L = tabL := ⟨_,rfl⟩;rw [<- hL] at e hl |-;simp [World.cell?,e,zy hl]
   have HB : Hid (Below w.heap.size w (w.alloc (.cells (tabL.map (Value.int .i64)).toArray 3))) := ze _ _;obtain ⟨z,hz⟩ := ex (tabL.getD i 0);rw [hz] at hc HP;have HC := hid hc;clear hz h2 hn0 hc;go_enter Tryz.func134,Tryz.ntmps134;go_upto_region 4 with (go_at_call 139;refine (may_as _ true _ hm).mono ?_;rintro e w' ⟨rfl,rfl⟩)
   go_step;refine wpList_plain rfl fun K hK => ?_;refine oper_run' (v := .slice (some (jd w'.heap.size 0)) 32 32) (w' := w'.alloc (.cells (tabL.map (Value.int .i64)).toArray 3)) (by kernel_rfl) (hK _ _ ?_);clear hK K;generalize w'.alloc (.cells (tabL.map (Value.int .i64)).toArray 3) = W at HC HB;have hc := HC.out;go_wp2;go_ret2;rw [HP.out];exact ⟨rfl,HB.out⟩
 obtain ⟨b,hb⟩ := ex (badB n)
 have HP : Hid (chrP n = (n,if b || (n == 13) then 20 else 0)) := by
  show chrP n = _;unfold chrP;rw [jq hn0,jq h4];have : (ctl n = true \/ nonch n = true) ↔ (b || (n == 13)) = true := by
   rw [<- hb];simp only [ctl,nonch,badB,decide_eq_true_eq,Bool.or_eq_true,beq_iff_eq];omega
  by_cases hh : (b || (n == 13)) = true
  · rw [jp (this.2 hh),jp hh]
  rw [jq (fun c => hh (this.1 c)),jq hh]
 have h5 : (0 < n /\ n < 128) \/ (159 < n /\ n <= 1114111) := by omega
 have k2 := fun w => rbad_any n w (by omega) (by omega)
 rw [hb] at k2
 clear hb h2 hn0 h4
 rcases h5 with ⟨h5,h6⟩ | ⟨h5,h6⟩
 all_goals
  cases b
  all_goals
   go_enter Tryz.func134,Tryz.ntmps134;go_wp2_with (first | (go_at_call 139;refine (may_as _ true _ hm).mono ?_;rintro e w' ⟨rfl,rfl⟩) | (go_at_call 30;refine (k2 _).mono ?_;rintro e w' ⟨c,rfl,hc,rfl⟩))
   all_goals
    go_ret2;rw [HP.out];refine ⟨?_,Below.refl _ _⟩
    simp_all
def ownAt (V : Path -> Option Int) (p : Path) : List Rf := match V p with
 | some r => [⟨⟨p.toArray⟩,r⟩]
 | none => []
def allBytes : jl := (List.range 256).map UInt8.ofNat
def kids (E : Path -> Bool) (p : Path) : jl := allBytes.filter fun x => E (p ++ [x])
def listP (V : Path -> Option Int) (E : Path -> Bool) : Nat -> Path -> List Rf
 | 0,p => ownAt V p
 | n + 1,p => ownAt V p ++ (kids E p).flatMap fun x => listP V E n (p ++ [x])
theorem allBytes_mem (x : UInt8) : x ∈ allBytes := by
 unfold allBytes
 rw [List.mem_map]
 exact ⟨x.toNat,List.mem_range.2 (UInt8.toNat_lt x),by simp⟩
theorem allBytes_rise : allBytes.Pairwise (fun x y => x.toNat < y.toNat) := by decide +kernel
theorem kids_rise (E : Path -> Bool) (p : Path) : (kids E p).Pairwise (fun x y => x.toNat < y.toNat) := allBytes_rise.filter _
def allP (l : List Rf) : List Rf := listP (val l) (fun q => q.isEmpty || pre l q) 8 []
def ltP : Path -> Path -> Bool
 | [],[] => false
 | [],_ :: _ => true
 | _ :: _,[] => false
 | x :: a,y :: b => decide (x.toNat < y.toNat) || (x == y && ltP a b)
theorem ltP_irrefl : ∀ a,ltP a a = false
 | [] => rfl
 | x :: a => by simp [ltP,ltP_irrefl a]
theorem ltP_asymm : ∀ {a b},ltP a b = true -> ltP b a = false
 | [],[],h => by cases h
 | [],_ :: _,_ => rfl
 | _ :: _,[],h => by cases h
 | x :: a,y :: b,h => by
  simp only [ltP,Bool.or_eq_true,decide_eq_true_eq,Bool.and_eq_true,beq_iff_eq] at h;simp only [ltP,Bool.or_eq_false_iff,decide_eq_false_iff_not,Bool.and_eq_false_iff];rcases h with h | ⟨rfl,h⟩
  · exact ⟨by omega,.inl (by simp;intro e;subst e;omega)⟩
  exact ⟨by omega,.inr (ltP_asymm h)⟩
theorem ltP_total : ∀ {a b},a ≠ b -> ltP a b = true \/ ltP b a = true
 | [],[],h => absurd rfl h
 | [],_ :: _,_ => .inl rfl
 | _ :: _,[],_ => .inr rfl
 | x :: a,y :: b,h => by
  simp only [ltP,Bool.or_eq_true,decide_eq_true_eq,Bool.and_eq_true,beq_iff_eq];by_cases e : x = y
  · subst e
    rcases ltP_total (a := a) (b := b) (fun e => h (by rw [e])) with h | h
    · exact .inl (.inr ⟨rfl,h⟩)
    exact .inr (.inr ⟨rfl,h⟩)
  have : x.toNat ≠ y.toNat := fun e2 => e (UInt8.toNat_inj.1 e2);rcases Nat.lt_or_gt_of_ne this with h | h
  · exact .inl (.inl h)
  exact .inr (.inl h)
theorem ltP_trans : ∀ {a b c},ltP a b = true -> ltP b c = true -> ltP a c = true
 | [],[],_,h,_ => by cases h
 | [],_ :: _,[],_,h => by cases h
 | [],_ :: _,_ :: _,_,_ => rfl
 | _ :: _,[],_,h,_ => by cases h
 | _ :: _,_ :: _,[],_,h => by cases h
 | x :: a,y :: b,z :: c,h1,h2 => by
  simp only [ltP,Bool.or_eq_true,decide_eq_true_eq,Bool.and_eq_true,beq_iff_eq] at *;rcases h1 with h1 | ⟨rfl,h1⟩
  · rcases h2 with h2 | ⟨rfl,h2⟩
    · exact .inl (by omega)
    exact .inl h1
  rcases h2 with h2 | ⟨rfl,h2⟩
  · exact .inl h2
  exact .inr ⟨rfl,ltP_trans h1 h2⟩
theorem ltP_pre : ∀ (p : Path) {a b},ltP (p ++ a) (p ++ b) = ltP a b
 | [],_,_ => rfl
 | x :: p,a,b => by simp [ltP,ltP_pre p]
def Sorted (A : List Rf) : Prop := A.Pairwise fun r s => ltP r.nm s.nm = true
theorem sorted_eq : ∀ {A B : List Rf},Sorted A -> Sorted B -> (∀ r,r ∈ A ↔ r ∈ B) -> A = B
 | [],[],_,_,_ => rfl
 | [],y :: b,_,_,h => absurd ((h y).2 (by simp)) (by simp)
 | x :: a,[],_,_,h => absurd ((h x).1 (by simp)) (by simp)
 | x :: a,y :: b,ha,hb,h => by
  unfold Sorted at ha hb;rw [List.pairwise_cons] at ha hb;have hxy : x = y := by
   have h1 : x ∈ y :: b := (h x).1 (by simp);have h2 : y ∈ x :: a := (h y).2 (by simp);rcases List.mem_cons.1 h1 with e | h1
   · exact e
   rcases List.mem_cons.1 h2 with e | h2
   · exact e.symm
   have h3 := hb.1 x h1;have h4 := ha.1 y h2;rw [ltP_asymm h3] at h4;cases h4
  subst hxy;congr 1;refine sorted_eq ha.2 hb.2 fun z => ?_;have := h z;simp only [List.mem_cons] at this;constructor
  · intro hz
    rcases this.1 (.inr hz) with e | e
    · subst e;have := ha.1 z hz;rw [ltP_irrefl] at this;cases this
    exact e
  intro hz;rcases this.2 (.inr hz) with e | e
  · subst e;have := hb.1 z hz;rw [ltP_irrefl] at this;cases this
  exact e
theorem rf_eta (p : Path) (r : Int) (x : Rf) : (x = ⟨⟨p.toArray⟩,r⟩) ↔ (x.nm = p /\ x.r = r) := by
 obtain ⟨⟨⟨d⟩⟩,q⟩ := x
 constructor
 · intro h
   injection h with h1 h2
   injection h1 with h1
   injection h1 with h1
   exact ⟨h1,h2⟩
 rintro ⟨h1,h2⟩
 subst h2
 have : d = p := h1
 subst this
 rfl
theorem mem_own {V : Path -> Option Int} {r : Rf} : r ∈ ownAt V p ↔ r.nm = p /\ V p = some r.r := by
 unfold ownAt
 cases h : V p with
 | none => simp
 | some v =>
  simp only [List.mem_singleton,rf_eta,Option.some.injEq];constructor
  · rintro ⟨h1,h2⟩;exact ⟨h1,h2.symm⟩
  rintro ⟨h1,h2⟩;exact ⟨h1,h2.symm⟩
theorem mem_listP {V : Path -> Option Int} {E : Path -> Bool} (hE : ∀ a b v,V (a ++ b) = some v -> E a = true) : ∀ (n : Nat) (p : Path) (r : Rf),r ∈ listP V E n p ↔ ∃ q,q.length <= n /\ r.nm = p ++ q /\ V (p ++ q) = some r.r
 | 0,p,r => by
  rw [listP,mem_own];constructor
  · rintro ⟨h1,h2⟩;exact ⟨[],by simp,by simpa using h1,by simpa using h2⟩
  rintro ⟨q,h0,h1,h2⟩;obtain rfl : q = [] := yb (by omega);rw [zu] at h1 h2;exact ⟨h1,h2⟩
 | n + 1,p,r => by
  rw [listP,List.mem_append,mem_own,List.mem_flatMap];constructor
  · rintro (⟨h1,h2⟩ | ⟨x,hx,hr⟩)
    · exact ⟨[],by simp,by simpa using h1,by simpa using h2⟩
    obtain ⟨q,h0,h1,h2⟩ := (mem_listP hE n (p ++ [x]) r).1 hr;exact ⟨x :: q,by simp;omega,by simpa using h1,by simpa using h2⟩
  rintro ⟨q,h0,h1,h2⟩;cases q with
  | nil => left;rw [zu] at h1 h2;exact ⟨h1,h2⟩
  | cons x q =>
   right;have h3 : V ((p ++ [x]) ++ q) = some r.r := by simpa using h2
   refine ⟨x,?_,(mem_listP hE n (p ++ [x]) r).2 ⟨q,by simp at h0;omega,by simpa using h1,h3⟩⟩;unfold kids;rw [List.mem_filter];exact ⟨allBytes_mem x,hE _ _ _ h3⟩
theorem sorted_listP {V : Path -> Option Int} {E : Path -> Bool} (hE : ∀ a b v,V (a ++ b) = some v -> E a = true) : ∀ (n : Nat) (p : Path),Sorted (listP V E n p)
 | 0,p => by
  unfold Sorted;rw [listP];unfold ownAt;split <;> simp
 | n + 1,p => by
  unfold Sorted;rw [listP,List.pairwise_append];refine ⟨?_,?_,?_⟩
  · unfold ownAt
    split <;> simp
  · rw [List.pairwise_flatMap]
    refine ⟨fun x _ => sorted_listP hE n (p ++ [x]),(kids_rise E p).imp fun {x y} hxy r hr s hs => ?_⟩;obtain ⟨q,_,h1,_⟩ := (mem_listP hE n (p ++ [x]) r).1 hr;obtain ⟨q',_,h2,_⟩ := (mem_listP hE n (p ++ [y]) s).1 hs;rw [h1,h2,List.append_assoc,List.append_assoc,ltP_pre];simp [ltP,hxy]
  intro r hr s hs;obtain ⟨h1,_⟩ := mem_own.1 hr;obtain ⟨x,_,hs⟩ := List.mem_flatMap.1 hs;obtain ⟨q,_,h2,_⟩ := (mem_listP hE n (p ++ [x]) s).1 hs;have := ltP_pre p (a := []) (b := [x] ++ q);rw [zu] at this;rw [h1,h2,List.append_assoc,this];rfl
theorem val_ok {v : Int} (h : val l p = some v) : ∃ x ∈ l,x.ok = true /\ x.nm = p /\ x.r = v := by
 induction l with
 | nil => cases h
 | cons x l ih =>
  simp only [val] at h;split at h
  · rename_i hx
    cases h
    exact ⟨x,by simp,hx.1,hx.2,rfl⟩
  obtain ⟨y,h1,h2⟩ := ih h;exact ⟨y,by simp [h1],h2⟩
theorem val_len {v : Int} (h : val l p = some v) : 0 < p.length /\ p.length <= 8 := by
 obtain ⟨x,_,hok,rfl,_⟩ := val_ok h
 have hl : x.nm.length = x.n.size := zw
 unfold Rf.ok at hok
 simp at hok
 omega
theorem val_some (hx : x ∈ l) (hok : x.ok = true) : ∃ v,val l x.nm = some v := by
 induction l with
 | nil => cases hx
 | cons y l ih =>
  simp only [val];split
  · exact ⟨_,rfl⟩
  rename_i hne;rcases List.mem_cons.1 hx with e | h
  · subst e;exact absurd ⟨hok,rfl⟩ hne
  exact ih h
theorem pre_val : pre l p = true ↔ ∃ q v,val l (p ++ q) = some v := by
 constructor
 · intro h
   simp only [pre,List.any_eq_true,Bool.and_eq_true,List.isPrefixOf_iff_prefix] at h;obtain ⟨x,hx,hok,q,hq⟩ := h;obtain ⟨v,hv⟩ := val_some hx hok;exact ⟨q,v,by rw [hq];exact hv⟩
 rintro ⟨q,v,h⟩
 have := val_pre h
 exact pre_mono this
theorem allP_mem (r : Rf) : r ∈ allP l ↔ val l r.nm = some r.r := by
 unfold allP
 rw [mem_listP (fun a b v h => by rw [pre_val.2 ⟨b,v,h⟩];simp)]
 constructor
 · rintro ⟨q,_,h1,h2⟩
   rw [List.nil_append] at h1 h2;rw [h1];exact h2
 intro h
 exact ⟨r.nm,(val_len h).2,by simp,by simpa using h⟩
theorem allP_sorted (l : List Rf) : Sorted (allP l) := sorted_listP (fun a b v h => by rw [pre_val.2 ⟨b,v,h⟩];simp) 8 []
def keptF : List Rf -> List Rf -> List Rf
 | _,[] => []
 | seen,x :: l => (if x.ok = true /\ val seen x.nm = none then [x] else []) ++ keptF (seen ++ [x]) l
theorem kept_len (seen l : List Rf) : (keptF seen l).length = cnt seen l := by
 induction l generalizing seen with
 | nil => rfl
 | cons x l ih =>
  simp only [keptF,cnt,zh,ih];split <;> simp
theorem kept_mem (seen l : List Rf) (x : Rf) : x ∈ keptF seen l ↔ val seen x.nm = none /\ val (seen ++ l) x.nm = some x.r /\ x ∈ keptF seen l := by
 constructor
 · intro h
   refine ⟨?_,?_,h⟩
   · induction l generalizing seen with
     | nil => cases h
     | cons y l ih =>
      simp only [keptF,List.mem_append] at h;rcases h with h | h
      · split at h
        · rename_i hy;simp at h;subst h;exact hy.2
        cases h
      have := ih _ h;rw [val_append] at this;cases hv : val seen x.nm with
      | none => rfl
      | some v => rw [hv] at this;cases this
   induction l generalizing seen with
   | nil => cases h
   | cons y l ih =>
    simp only [keptF,List.mem_append] at h;rcases h with h | h
    · split at h
      · rename_i hy;simp at h;subst h
        rw [val_append,hy.2];simp [val,hy.1]
      cases h
    have := ih _ h
    rwa [List.append_assoc] at this
 exact fun h => h.2.2
theorem kept_has (seen l : List Rf) (p : Path) (v : Int) (h0 : val seen p = none) (h1 : val (seen ++ l) p = some v) : (⟨⟨p.toArray⟩,v⟩ : Rf) ∈ keptF seen l := by
 induction l generalizing seen with
 | nil => rw [zu,h0] at h1;cases h1
 | cons y l ih =>
  simp only [keptF,List.mem_append];by_cases hy : y.ok = true /\ y.nm = p
  · left
    have hv : val (seen ++ y :: l) p = some y.r := by
     rw [val_append,h0];simp [val,hy.1,hy.2]
    rw [hv] at h1;cases h1;rw [jp ⟨hy.1,by rw [hy.2];exact h0⟩,List.mem_singleton];exact ((rf_eta p y.r y).2 ⟨hy.2,rfl⟩).symm
  right;refine ih (seen ++ [y]) ?_ (by rw [List.append_assoc];exact h1);rw [val_append,h0];simp only [val];rw [jq hy];rfl
theorem kept_nodup (seen l : List Rf) : (keptF seen l).Pairwise fun x y => x.nm ≠ y.nm := by
 induction l generalizing seen with
 | nil => exact List.Pairwise.nil
 | cons y l ih =>
  simp only [keptF];rw [List.pairwise_append];refine ⟨by split <;> simp,ih _,?_⟩;intro a ha b hb e;split at ha
  · rename_i hy
    simp at ha;subst ha;have := ((kept_mem _ _ b).1 hb).1;rw [<- e,val_append,hy.2] at this;simp [val,hy.1] at this
  cases ha
theorem kept_iff (l : List Rf) (x : Rf) : x ∈ keptF [] l ↔ val l x.nm = some x.r := by
 constructor
 · intro h;exact ((kept_mem [] l x).1 h).2.1
 intro h
 have := kept_has [] l x.nm x.r rfl h
 rwa [<- (rf_eta x.nm x.r x).2 ⟨rfl,rfl⟩] at this
theorem all_len (l : List Rf) : (allP l).length = cnt [] l := by
 rw [<- kept_len]
 refine List.Perm.length_eq ((List.perm_ext_iff_of_nodup ?_ ?_).2 fun r => ?_)
 · exact (allP_sorted l).imp fun {a b} h e => by subst e;rw [ltP_irrefl] at h;cases h
 · exact (kept_nodup [] l).imp fun {a b} h e => h (by rw [e])
 rw [allP_mem,kept_iff]
theorem pre_same (h : val A = val l) : pre A = pre l := by
 funext p
 rw [Bool.eq_iff_iff,pre_val,pre_val,h]
theorem all_same (h : val A = val l) : allP A = allP l := by
 unfold allP
 rw [h,pre_same h]
structure LFr (v l : Value) (w w' : World) : Prop where
 os : w'.os = w.os
 tape : w'.tape = w.tape
 output : w'.output = w.output
 size : w.heap.size <= w'.heap.size
 block : ∀ d,d < w.heap.size -> some d ≠ v.ownBlock -> some d ≠ l.ownBlock -> w'.heap[d]? = w.heap[d]?
theorem own_blk (h : w.ownsRow B e s v n xs) {g : Nat} (hg : v.ownBlock = some g) : B <= g /\ g < w.heap.size /\ ∃ cur,w.heap[g]? = some (.cells cur e (0,0)) := by
 rcases h.2 with ⟨rfl,_⟩ | ⟨g',cap,cur,rfl,hB,hgb,_⟩
 · simp [Value.ownBlock] at hg
 simp [Value.ownBlock] at hg;subst hg
 exact ⟨hB,(zf hgb),cur,hgb⟩
theorem own_mv (h : w.ownsRow B e s v n xs) (k : ∀ g,v.ownBlock = some g -> w'.heap[g]? = w.heap[g]?) : w'.ownsRow B e s v n xs := by
 refine ⟨h.1,?_⟩
 rcases h.2 with hn | ⟨g,cap,cur,rfl,hb,hg,rest⟩
 · exact .inl hn
 exact .inr ⟨g,cap,cur,rfl,hb,(k g rfl).trans hg,rest⟩
theorem LFr.refl (v l : Value) (w : World) : LFr v l w w := ⟨rfl,rfl,rfl,zb _,fun _ _ _ _ => rfl⟩
theorem step_append_eq {ops : Array Oper} {E : Prop}
 (hg : o.guard = none) (d x : Operand) (dT sT : TypeId) (hop : o.op = Op.call { callee := Callee.builtin Builtin.append,args := #[d,x],argTypes := #[dT,sT] })
 (v u : Value) (hd : a.eval d = v) (hx : a.eval x = u) {v' : Value} {w' : World} (hr : (Builtin.append_ #[dT,sT] o.type #[v,u]).run P w = .ok v' w') (hK : K (a.put o.dst v') w') :
 if Region.wanted o (yielded ops a.tmps) = true then Oper.wp P o a w K Q else E := by
 have hw : Region.wanted o (yielded ops a.tmps) = true := by simp [Region.wanted,hg]
 rw [jp hw]
 unfold Oper.wp
 simp [execOp,hop,resolve,invoke,builtin,hd,hx,hr,Result.andThen]
 exact hK
theorem row_ref4 (h : RowIs w B v L) : ∃ ao cap,v = .slice ao L.length cap /\ RefRow w ao L /\ L.length <= cap /\ cap <= maxLen := by
 rcases h.2 with ⟨rfl,h0⟩ | ⟨g,cap,cur,rfl,hB,hg,h1,h2,h3,h4⟩
 · have : L = [] := yb h0
   subst this;exact ⟨none,0,rfl,fun i x hx => by simp at hx,zb _,by unfold maxLen;omega⟩
 refine ⟨_,cap,rfl,fun i x hx => ?_,h1,h2⟩
 have hil := (zg hx)
 obtain ⟨q1,q2⟩ := rf_at L i x hx
 rw [<- h4,List.getElem?_take_of_lt (by omega),Array.getElem?_toList] at q1 q2
 refine ⟨g,0,rfl,(zf hg),?_,?_⟩
 · simp [World.cell?,hg,q1]
 simp [World.cell?,hg,q2]
theorem bytes_eq {a b : ByteArray} (h : a.data.toList = b.data.toList) : a = b := by
 obtain ⟨⟨x⟩⟩ := a
 obtain ⟨⟨y⟩⟩ := b
 have : x = y := h
 rw [this]
theorem extract_toList (s : ByteArray) (k : Nat) : (s.extract 0 k).data.toList = s.data.toList.take k := by
 rw [ByteArray.data_extract,Array.toList_extract]
 simp
theorem begins_eq (s t : ByteArray) : ((s.extract 0 t.size).toList == t.toList) = t.data.toList.isPrefixOf s.data.toList := by
 rw [ByteArray.toList_eq,ByteArray.toList_eq,Bool.eq_iff_iff,List.isPrefixOf_iff_prefix,beq_iff_eq]
 have hl : t.data.toList.length = t.size := zw
 constructor
 · intro e
   rw [<- e,extract_toList];exact List.take_prefix _ _
 intro hp
 rw [extract_toList,<- hl]
 exact (List.prefix_iff_eq_take.1 hp).symm
theorem begins_no {s t : ByteArray} (h : ¬ t.size <= s.size) : t.data.toList.isPrefixOf s.data.toList = false := by
 cases hp : t.data.toList.isPrefixOf s.data.toList with
 | false => rfl
 | true =>
  exfalso;have := (List.isPrefixOf_iff_prefix.1 hp).length_le;rw [zw,zw] at this;exact h this
theorem begins_any (s t : ByteArray) (w : World) : Calls Tryz.prog 135 #[.string s,.string t] w fun e w' => e = jr (.bool (t.data.toList.isPrefixOf s.data.toList)) /\ w' = w := by
 by_cases h : t.size <= s.size
 · have hb := begins_eq s t
   have hg : decide ((t.size : Int) <= (s.size : Int)) = true := zm (by omega);rw [<- hb];clear hb;go_enter Tryz.func135,Tryz.ntmps135;go_wp2_with fail;go_ret;exact ⟨rfl,rfl⟩
 have hg : decide ((t.size : Int) <= (s.size : Int)) = false := zn (by omega)
 rw [begins_no h]
 go_enter Tryz.func135,Tryz.ntmps135
 go_wp2_with fail
 go_ret
 exact ⟨rfl,rfl⟩
theorem rgoes_any (n cap : Nat) (s : ByteArray) (ha : RefRow w ao A) (hn : A.length = n) (hn2 : n <= 100000) :
 Calls Tryz.prog 100 #[.slice ao n cap,.string s] w fun e w' => e = jr (.bool (A.any fun r => s.data.toList.isPrefixOf r.nm)) /\ w' = w := by
 have HA := yc ha hn
 obtain ⟨g,hg0⟩ := ex ((A.any fun r => s.data.toList.isPrefixOf r.nm))
 rw [hg0]
 have HG := hid hg0
 clear ha hn hg0
 go_enter Tryz.func100,Tryz.ntmps100
 go_wp2_with fail
 go_loop [5] (fun iv => ∃ i : Nat,iv = ji i /\ i <= n /\ (A.take i).any (fun r => s.data.toList.isPrefixOf r.nm) = false) (fun iv => n - (intOf iv).toNat)
 case atStart => exact ⟨0,rfl,Nat.zero_le _,by simp⟩
 obtain ⟨i,rfl,hi,hno⟩ := hrel
 have HNO := hid hno
 clear hno
 by_cases hin : i < n
 · have hil : i < A.length := by rw [HA.out.2];exact hin
   obtain ⟨x,hx⟩ : ∃ x,A[i]? = some x := ⟨_,zy hil⟩;obtain ⟨b1,o1,rfl,h1,c1,c2⟩ := HA.out.1 i x hx;have htk : A.take (i + 1) = A.take i ++ [x] := by
    rw [<- List.take_append_getElem hil];congr 2;have := zy hil;rw [hx] at this;exact (Option.some.inj this).symm
   have hbg := begins_any x.n s w;obtain ⟨nm,r⟩ := x;simp only at c1 c2 hbg;cases hp : s.data.toList.isPrefixOf nm.data.toList with
   | true =>
    rw [hp] at hbg;have HF : Hid ((A.any fun r => s.data.toList.isPrefixOf r.nm) = true) := List.any_eq_true.2 ⟨⟨nm,r⟩,List.mem_of_getElem? hx,hp⟩;clear hx htk hil hp;go_wp2_with fail;refine hbg.mono ?_;rintro e w1 ⟨rfl,rfl⟩;go_wp2_with fail;go_ret;rw [show g = true from HG.out.symm.trans HF.out];exact ⟨rfl,rfl⟩
   | false =>
    rw [hp] at hbg;have HF : Hid ((A.take (i + 1)).any (fun r => s.data.toList.isPrefixOf r.nm) = false) := by
     show _ = _;rw [htk,List.any_append,HNO.out];simpa using hp
    clear hx htk hil hp;go_wp2_with fail;refine hbg.mono ?_;rintro e w1 ⟨rfl,rfl⟩;go_wp2_with fail;exact ⟨⟨i + 1,by go_num,by omega,HF.out⟩,by simp [intOf];omega⟩
 have hg : decide ((i : Int) < (n : Int)) = false := zn (by omega)
 have HF : Hid ((A.any fun r => s.data.toList.isPrefixOf r.nm) = false) := by
  have := HNO.out;rw [List.take_of_length_le (by rw [HA.out.2];omega)] at this;exact this
 go_wp2_with fail
 go_ret
 rw [show g = false from HG.out.symm.trans HF.out]
 exact ⟨rfl,rfl⟩
def lgStep (s : Path) (acc : Int × Nat) (x : Rf) : Int × Nat := if decide (acc.2 < x.n.size) && x.nm.isPrefixOf s then (x.r,x.n.size) else acc
def lg (A : List Rf) (s : Path) : Int × Nat := A.foldl (lgStep s) (0,0)
theorem rlong_any (n cap : Nat) (s : ByteArray) (ha : RefRow w ao A) (hn : A.length = n) (hn2 : n <= 100000) (hz : ∀ x ∈ A,x.n.size <= 8) :
 Calls Tryz.prog 98 #[.slice ao n cap,.string s] w fun e w' => e = jr (.tuple #[ji (lg A s.data.toList).1,ji ((lg A s.data.toList).2 : Nat)]) /\ Below w.heap.size w w' := by
 have HA := yd ha hn hz
 clear ha hn hz
 go_enter Tryz.func98,Tryz.ntmps98
 go_wp2_with fail
 go_loopw [6,7,8] (fun rv zv iv wr => ∃ (i q : Nat),iv = ji i /\ i <= n /\ rv = ji (lg (A.take i) s.data.toList).1 /\ zv = ji ((lg (A.take i) s.data.toList).2 : Nat) /\ wr = w.drewN q) (fun _ _ iv _ => n - (intOf iv).toNat)
 case atStart => exact ⟨0,0,rfl,Nat.zero_le _,rfl,rfl,rfl⟩
 obtain ⟨i,q,rfl,hi,rfl,rfl,rfl⟩ := hrel
 obtain ⟨ar,hr⟩ := ex ((lg (A.take i) s.data.toList).1)
 obtain ⟨ak,hk⟩ := ex ((lg (A.take i) s.data.toList).2)
 rw [hr,hk]
 have HL : Hid (lg (A.take i) s.data.toList = (ar,ak)) := by show _ = _;rw [<- hr,<- hk]
 clear hr hk
 by_cases hin : i < n
 · have hil : i < A.length := by rw [HA.out.2.1];exact hin
   obtain ⟨x,hx⟩ : ∃ x,A[i]? = some x := ⟨_,zy hil⟩;obtain ⟨b1,o1,rfl,h1,c1,c2⟩ := HA.out.1 i x hx;have hx8 := HA.out.2.2 x (List.mem_of_getElem? hx);have hst : lg (A.take (i + 1)) s.data.toList = lgStep s.data.toList (ar,ak) x := by
    have htk : A.take (i + 1) = A.take i ++ [x] := by
     rw [<- List.take_append_getElem hil];congr 2;have := zy hil;rw [hx] at this;exact (Option.some.inj this).symm
    rw [htk,lg,List.foldl_append,<- lg,HL.out];rfl
   have hbg := begins_any s x.n;obtain ⟨nm,r⟩ := x;simp only at c1 c2 hbg hx8;obtain ⟨z,hz⟩ := ex (nm.size);cases hp : nm.data.toList.isPrefixOf s.data.toList with
   | true =>
    by_cases hlt : ak < nm.size
    · have hg : decide ((ak : Int) < (nm.size : Int)) = true := zm (by omega)
      have HF : Hid (lg (A.take (i + 1)) s.data.toList = (r,nm.size)) := by show _ = _;rw [hst,lgStep,jp (by show (decide (ak < nm.size) && nm.data.toList.isPrefixOf s.data.toList) = true;rw [hp];simp [hlt])]
      rw [hp] at hbg;clear hx hil hp hst hz;go_wp2_with fail;refine (hbg _).mono ?_;rintro e w1 ⟨rfl,rfl⟩;go_wp2_with fail;go_quiet (fail);go_wp2_with fail;exact ⟨⟨i + 1,_,by go_num,by omega,by rw [HF.out],by rw [HF.out],rfl⟩,by simp [intOf];omega⟩
    have hg : decide ((ak : Int) < (nm.size : Int)) = false := zn (by omega);have HF : Hid (lg (A.take (i + 1)) s.data.toList = (ar,ak)) := by show _ = _;rw [hst,lgStep,jq (by simp [hlt])]
    clear hx hil hp hst hz hbg;go_wp2_with fail;exact ⟨⟨i + 1,_,by go_num,by omega,by rw [HF.out],by rw [HF.out],rfl⟩,by simp [intOf];omega⟩
   | false =>
    have HF : Hid (lg (A.take (i + 1)) s.data.toList = (ar,ak)) := by
     show _ = _;rw [hst,lgStep,jq];show ¬ (decide (ak < nm.size) && nm.data.toList.isPrefixOf s.data.toList) = true;rw [hp];simp
    rw [hp] at hbg;by_cases hlt : ak < nm.size
    · have hg : decide ((ak : Int) < (nm.size : Int)) = true := zm (by omega)
      clear hx hil hp hst hz;go_wp2_with fail;refine (hbg _).mono ?_;rintro e w1 ⟨rfl,rfl⟩;go_wp2_with fail;exact ⟨⟨i + 1,_,by go_num,by omega,by rw [HF.out],by rw [HF.out],rfl⟩,by simp [intOf];omega⟩
    have hg : decide ((ak : Int) < (nm.size : Int)) = false := zn (by omega);clear hx hil hp hst hz hbg;go_wp2_with fail;exact ⟨⟨i + 1,_,by go_num,by omega,by rw [HF.out],by rw [HF.out],rfl⟩,by simp [intOf];omega⟩
 have hg : decide ((i : Int) < (n : Int)) = false := zn (by omega)
 have HF : Hid (lg A s.data.toList = (ar,ak)) := by
  have := HL.out;rw [List.take_of_length_le (by rw [HA.out.2.1];omega)] at this;exact this
 go_wp2_with fail
 go_ret2
 rw [HF.out]
 exact ⟨rfl,below_drewN (Below.refl _ _) _⟩
theorem less_eq : ∀ a b : jl,Op.bytesLess a b = ltP a b
 | [],[] => rfl
 | [],_ :: _ => rfl
 | _ :: _,[] => rfl
 | x :: a,y :: b => by
  rw [Op.bytesLess,ltP,less_eq a b];rfl
theorem lg_fold (s : Path) : ∀ (A : List Rf) (acc : Int × Nat),acc.2 <= (A.foldl (lgStep s) acc).2 /\ (∀ x ∈ A,x.nm <+: s -> x.n.size <= (A.foldl (lgStep s) acc).2) /\
 (A.foldl (lgStep s) acc = acc \/ ∃ x ∈ A,x.nm <+: s /\ A.foldl (lgStep s) acc = (x.r,x.n.size) /\ acc.2 < x.n.size)
 | [],acc => ⟨zb _,by simp,.inl rfl⟩
 | y :: A,acc => by
  rw [List.foldl_cons];obtain ⟨h1,h2,h3⟩ := lg_fold s A (lgStep s acc y);by_cases hy : acc.2 < y.n.size /\ y.nm <+: s
  · have e : lgStep s acc y = (y.r,y.n.size) := by
     unfold lgStep;rw [jp];rw [Bool.and_eq_true];exact ⟨zm hy.1,List.isPrefixOf_iff_prefix.2 hy.2⟩
    rw [e] at h1 h2 h3 |-;simp only at h1 h3;refine ⟨by omega,fun x hx hp => ?_,.inr ?_⟩
    · rcases List.mem_cons.1 hx with rfl | hx
      · exact h1
      exact h2 x hx hp
    rcases h3 with h3 | ⟨x,hx,hp,hr,hz⟩
    · exact ⟨y,by simp,hy.2,h3,hy.1⟩
    exact ⟨x,by simp [hx],hp,hr,by omega⟩
  have e : lgStep s acc y = acc := by
   unfold lgStep;rw [jq];rw [Bool.and_eq_true];exact fun h => hy ⟨of_decide_eq_true h.1,List.isPrefixOf_iff_prefix.1 h.2⟩
  rw [e] at h1 h2 h3 |-;refine ⟨h1,fun x hx hp => ?_,?_⟩
  · rcases List.mem_cons.1 hx with rfl | hx
    · have : ¬ acc.2 < x.n.size := fun h => hy ⟨h,hp⟩
      omega
    exact h2 x hx hp
  rcases h3 with h3 | ⟨x,hx,hp,hr,hz⟩
  · exact .inl h3
  exact .inr ⟨x,by simp [hx],hp,hr,hz⟩
theorem best_is (l : List Rf) (s : Path) : ∀ n,(∀ j v,0 < j -> j <= n -> val l (s.take j) = some v -> j <= (best l s n).2) /\
 (best l s n = (0,0) \/ ∃ r k,best l s n = (r,k) /\ 0 < k /\ k <= n /\ val l (s.take k) = some r)
 | 0 => ⟨fun j v h1 h2 => by omega,.inl rfl⟩
 | n + 1 => by
  obtain ⟨h1,h2⟩ := best_is l s n;cases hv : val l (s.take (n + 1)) with
  | some r =>
   have e : best l s (n + 1) = (r,n + 1) := by rw [best,hv]
   rw [e];exact ⟨fun j v _ hj _ => hj,.inr ⟨r,n + 1,rfl,by omega,zb _,hv⟩⟩
  | none =>
   have e : best l s (n + 1) = best l s n := by rw [best,hv]
   rw [e];refine ⟨fun j v h0 hj hjv => ?_,?_⟩
   · by_cases hjn : j = n + 1
     · rw [hjn,hv] at hjv;cases hjv
     exact h1 j v h0 (by omega) hjv
   rcases h2 with h2 | ⟨r,k,h3,h4,h5,h6⟩
   · exact .inl h2
   exact .inr ⟨r,k,h3,h4,by omega,h6⟩
theorem pre_take {x s : Path} (h : x <+: s) {n : Nat} (hn : x.length = n) : x = s.take n := by
 have := List.prefix_iff_eq_take.1 h
 rw [hn] at this
 exact this
theorem lg_best (l : List Rf) (s : Path) : lg (allP l) s = best l s s.length := by
 obtain ⟨_,a2,a3⟩ := lg_fold s (allP l) (0,0)
 obtain ⟨b2,b3⟩ := best_is l s s.length
 unfold lg
 have hsz : ∀ x : Rf,x.nm.length = x.n.size := fun x => zw
 obtain ⟨p,hp⟩ := ex ((allP l).foldl (lgStep s) (0,0))
 obtain ⟨q,hq⟩ := ex (best l s s.length)
 rw [hp] at a2 a3 |-
 rw [hq] at b2 b3 |-
 -- each of the two is no longer than the other
 have h1 : p.2 <= q.2 := by
  rcases a3 with a3 | ⟨x,hx,hpx,hr,hz⟩
  · rw [a3];exact Nat.zero_le _
  rw [hr];have hv := (allP_mem x).1 hx;rw [pre_take hpx (hsz x)] at hv;have := hpx.length_le;rw [hsz] at this;exact b2 _ _ hz this hv
 have h2 : q.2 <= p.2 := by
  rcases b3 with b3 | ⟨r,k,h3,h4,h5,h6⟩
  · rw [b3];exact Nat.zero_le _
  rw [h3];have hm : (⟨⟨(s.take k).toArray⟩,r⟩ : Rf) ∈ allP l := (allP_mem _).2 h6;have := a2 _ hm (List.take_prefix _ _);have hs : (⟨⟨(s.take k).toArray⟩,r⟩ : Rf).n.size = k := by
   show (s.take k).toArray.size = k;rw [List.size_toArray,List.length_take];omega
  rw [hs] at this;exact this
 rcases a3 with a3 | ⟨x,hx,hpx,hr,hz⟩
 · rcases b3 with b3 | ⟨r,k,h3,h4,h5,h6⟩
   · rw [a3,b3]
   rw [a3,h3] at h2;simp only at h2;omega
 rcases b3 with b3 | ⟨r,k,h3,h4,h5,h6⟩
 · rw [hr,b3] at h1;simp only at h1 hz;omega
 have hv := (allP_mem x).1 hx
 rw [pre_take hpx (hsz x)] at hv
 rw [hr,h3] at h1 h2
 simp only at h1 h2
 have hk : x.n.size = k := by omega
 rw [hk,h6] at hv
 rw [hr,h3,hk,Option.some.inj hv]
theorem any_goes (l : List Rf) (s : Path) : ((allP l).any fun r => s.isPrefixOf r.nm) = goes l s := by
 rw [Bool.eq_iff_iff,List.any_eq_true]
 constructor
 · rintro ⟨x,hx,hp⟩
   obtain ⟨t,ht⟩ := List.isPrefixOf_iff_prefix.1 hp;have hpre : pre l s = true := pre_val.2 ⟨t,x.r,by rw [ht];exact (allP_mem x).1 hx⟩;unfold goes;rw [hpre,Bool.and_true];apply zm;by_cases h0 : cnt [] l = 0
   · rw [cnt_pos h0 s] at hpre;cases hpre
   omega
 intro h
 unfold goes at h
 rw [Bool.and_eq_true] at h
 obtain ⟨q,v,hv⟩ := pre_val.1 h.2
 refine ⟨⟨⟨(s ++ q).toArray⟩,v⟩,(allP_mem _).2 hv,List.isPrefixOf_iff_prefix.2 (List.prefix_append s q)⟩
theorem val_single (x : Rf) (p : Path) : val [x] p = if x.ok = true /\ x.nm = p then some x.r else none := rfl
theorem ins_skip (h : x.ok = false) : allP (l ++ [x]) = allP l := by
 apply all_same
 funext p
 rw [val_append,val_single,jq (by rw [h];simp)]
 cases val l p <;> rfl
theorem ins_same {y : Rf} (hy : y ∈ allP l) (e : y.nm = x.nm) : allP (l ++ [x]) = allP l := by
 have hv := (allP_mem y).1 hy
 apply all_same
 funext p
 rw [val_append,val_single]
 by_cases hp : x.nm = p
 · rw [<- hp,<- e,hv];rfl
 rw [jq fun h => hp h.2]
 cases val l p <;> rfl
theorem ins_new (hok : x.ok = true) (h1 : ∀ j y,j < k -> (allP l)[j]? = some y -> ltP y.nm x.nm = true)
 (h2 : ∀ y,(allP l)[k]? = some y -> ltP y.nm x.nm = false /\ y.nm ≠ x.nm) : allP (l ++ [x]) = (allP l).take k ++ [x] ++ (allP l).drop k := by
 have hs := allP_sorted l
 have lo : ∀ y ∈ (allP l).take k,ltP y.nm x.nm = true := fun y hy => by
  obtain ⟨j,hj⟩ := List.getElem?_of_mem hy;have hjk : j < k := by
   have := (zg hj);rw [List.length_take] at this;omega
  rw [List.getElem?_take_of_lt hjk] at hj;exact h1 j y hjk hj
 have hi : ∀ y ∈ (allP l).drop k,ltP x.nm y.nm = true := fun y hy => by
  have hd : Sorted ((allP l).drop k) := hs.drop;cases hc : (allP l).drop k with
  | nil => rw [hc] at hy;simp at hy
  | cons z T =>
   have hz : (allP l)[k]? = some z := by
    have : ((allP l).drop k)[0]? = some z := by rw [hc];rfl
    rw [List.getElem?_drop] at this;simpa using this
   obtain ⟨g1,g2⟩ := h2 z hz;have g3 : ltP x.nm z.nm = true := by
    rcases ltP_total g2 with g | g
    · rw [g] at g1;cases g1
    exact g
   rw [hc] at hd hy;rcases List.mem_cons.1 hy with rfl | hy
   · exact g3
   exact ltP_trans g3 ((List.pairwise_cons.1 hd).1 y hy)
 have hmem : ∀ y,y ∈ (allP l).take k ++ [x] ++ (allP l).drop k ↔ y ∈ allP l \/ y = x := fun y => by
  have : y ∈ allP l ↔ y ∈ (allP l).take k \/ y ∈ (allP l).drop k := by
   conv => lhs;rw [<- List.take_append_drop k (allP l)]
   exact List.mem_append
  rw [this,List.mem_append,List.mem_append,List.mem_singleton];constructor
  · rintro ((h | h) | h)
    · exact .inl (.inl h)
    · exact .inr h
    exact .inl (.inr h)
  rintro ((h | h) | h)
  · exact .inl (.inl h)
  · exact .inr h
  exact .inl (.inr h)
 have hfree : ∀ y ∈ allP l,y.nm ≠ x.nm := fun y hy e => by
  rw [<- List.take_append_drop k (allP l)] at hy;rcases List.mem_append.1 hy with h | h
  · have := lo y h;rw [e,ltP_irrefl] at this;cases this
  have := hi y h;rw [e,ltP_irrefl] at this;cases this
 apply sorted_eq (allP_sorted _)
 · show List.Pairwise _ _
   rw [List.pairwise_append,List.pairwise_append];refine ⟨⟨hs.take,by simp,fun a ha b hb => ?_⟩,hs.drop,fun a ha b hb => ?_⟩
   · rw [List.mem_singleton] at hb;subst hb;exact lo a ha
   rcases List.mem_append.1 ha with h | h
   · exact ltP_trans (lo a h) (hi b hb)
   rw [List.mem_singleton] at h;subst h;exact hi b hb
 intro r
 rw [hmem,allP_mem,allP_mem,val_append,val_single]
 by_cases hr : x.nm = r.nm
 · rw [jp ⟨hok,hr⟩]
   have hn : val l r.nm = none := by
    cases hv : val l r.nm with
    | none => rfl
    | some v =>
     have hm : (⟨r.n,v⟩ : Rf) ∈ allP l := (allP_mem _).2 hv;exact absurd (show (⟨r.n,v⟩ : Rf).nm = x.nm from hr.symm) (hfree ⟨r.n,v⟩ hm)
   rw [hn];constructor
   · intro h
     right;obtain ⟨rn,rr⟩ := r;obtain ⟨xn,xr⟩ := x;have e1 : xn = rn := bytes_eq hr;have e2 : xr = rr := by simpa using h
     rw [e1,e2]
   rintro (h | rfl)
   · cases h
   rfl
 rw [jq fun h => hr h.2]
 constructor
 · intro h
   left;cases hv : val l r.nm with
   | none => rw [hv] at h;cases h
   | some v => rw [hv] at h;exact h
 rintro (h | rfl)
 · rw [h];rfl
 exact absurd rfl hr
theorem cells_at : ∀ (M : List Rf) (j : Nat) (u : Value),(M.flatMap Rf.cells)[j]? = some u -> ∃ i x,M[i]? = some x /\ ((j = i * 2 /\ u = .string x.n) \/ (j = i * 2 + 1 /\ u = ji x.r))
 | [],j,u,h => by simp at h
 | x :: M,0,u,h => ⟨0,x,rfl,.inl ⟨rfl,by simpa [Rf.cells] using h.symm⟩⟩
 | x :: M,1,u,h => ⟨0,x,rfl,.inr ⟨rfl,by simpa [Rf.cells] using h.symm⟩⟩
 | x :: M,j + 2,u,h => by
  have h' : (M.flatMap Rf.cells)[j]? = some u := by simpa [Rf.cells] using h
  obtain ⟨i,y,h1,h2⟩ := cells_at M j u h';refine ⟨i + 1,y,by simpa using h1,?_⟩;rcases h2 with ⟨h2,h3⟩ | ⟨h2,h3⟩
  · exact .inl ⟨by omega,h3⟩
  exact .inr ⟨by omega,h3⟩
theorem cells_one : ∀ (M : List Rf) (u : Value),u ∈ M.flatMap Rf.cells -> u.oneCell' = true := fun M u h => by
 rw [List.mem_flatMap] at h
 obtain ⟨x,_,h⟩ := h
 simp only [Rf.cells,List.mem_cons,List.not_mem_nil,or_false] at h
 rcases h with rfl | rfl <;> rfl
theorem cells_len (M : List Rf) : (M.flatMap Rf.cells).length = M.length * 2 := by
 induction M with
 | nil => rfl
 | cons x M ih => rw [List.flatMap_cons,zh,ih,zi];simp [Rf.cells];omega
theorem row_more {l : Value} {M : List Rf} (h : RowIs w B l L) (ao : Option Addr) (c : Nat) (hM : RefRow w ao M) (hB : B <= w.heap.size) (hL : L.length <= 1000) (hM2 : M.length <= 1000) :
 ∃ l' w',(Builtin.append_ #[121,121] 121 #[l,.slice ao M.length c]).run Tryz.prog w = .ok l' w' /\ RowIs w' B l' (L ++ M) /\ LFr jn l w w' := by
 obtain ⟨i0,hi,hz0,hz1,hz2⟩ := info_parts info136
 by_cases h0 : M = []
 · subst h0
   obtain ⟨bo,cap,rfl,_,hc,_⟩ := row_ref4 h;have hs : Src Tryz.prog i0.size 121 (.slice ao 0 c) 0 [] w := by
    cases ao with
    | none => exact Src.ofNil w Tryz.underlying121 c
    | some a => exact Src.ofSlice w Tryz.underlying121 a 0 c [] (by simp) (by simp) (by simp)
   exact ⟨_,_,run_append_nothing (P := Tryz.prog) w 121 121 121 136 i0 Tryz.underlying121 hi bo L.length cap hc _ hs,by rw [zu];exact h,LFr.refl _ _ _⟩
 obtain ⟨x,hx⟩ : ∃ x,M[0]? = some x := by
  cases M with
  | nil => exact absurd rfl h0
  | cons x M => exact ⟨x,rfl⟩
 obtain ⟨b,off,rfl,_⟩ := hM 0 x hx
 obtain ⟨l',w',hr,ho,hg,_,_⟩ := run_append_own_at (P := Tryz.prog) w B 121 121 136 i0 _ 2 24 Tryz.underlying121 hi hz0 hz1 hz2 rfl (by decide) l L.length _ h (jd b off) M.length c (M.flatMap Rf.cells) (cells_len M)
  (fun j u hj => by
   rw [Addr.add_lit];obtain ⟨i,y,h1,h2⟩ := cells_at M j u hj;obtain ⟨b',off',e,_,c1,c2⟩ := hM i y h1;simp only [Option.some.injEq,Addr.mk.injEq,and_true] at e;obtain ⟨rfl,rfl⟩ := e;rcases h2 with ⟨rfl,rfl⟩ | ⟨rfl,rfl⟩
   · exact c1
   rw [<- Nat.add_assoc];exact c2) (cells_one M) (by unfold maxLen;omega) (by omega) hB
 refine ⟨l',w',hr,?_,?_⟩
 · show w'.ownsRow B 136 2 l' (L ++ M).length ((L ++ M).flatMap Rf.cells)
   rw [zh,List.flatMap_append];exact ho
 exact ⟨hg.os,hg.tape,hg.output,hg.size,fun d hd _ hne => hg.block d hd hne⟩
theorem ref_take (h : RefRow w ao A) (k : Nat) : RefRow w ao (A.take k) := fun i x hx => by
 have hil : i < k := by
  have := (zg hx);rw [List.length_take] at this;omega
 rw [List.getElem?_take_of_lt hil] at hx
 exact h i x hx
theorem ref_drop (h : RefRow w ao A) (k cap : Nat) (hc : A.length <= cap) : RefRow w (if cap = k then ao else ao.map (·.add (k * 2))) (A.drop k) := fun i x hx => by
 have hil := (zg hx)
 rw [zk] at hil
 rw [List.getElem?_drop] at hx
 obtain ⟨b,off,rfl,h1,h2,h3⟩ := h _ x hx
 rw [jq (by omega)]
 refine ⟨b,off + k * 2,by simp [Addr.add_lit],h1,?_,?_⟩
 · rw [show off + k * 2 + i * 2 = off + (k + i) * 2 by omega];exact h2
 rw [show off + k * 2 + i * 2 = off + (k + i) * 2 by omega];exact h3
theorem ref_one (w : World) (x : Rf) : RefRow (w.alloc (.cells #[.string x.n,ji x.r] 136)) (some (jd w.heap.size 0)) [x] := fun i y hy => by
 have hi : i = 0 := by
  have := (zg hy);simp at this;exact this
 subst hi
 simp at hy
 subst hy
 have hnew := zx w (.cells #[.string x.n,ji x.r] 136)
 obtain ⟨W,hW⟩ := ex (w.alloc (.cells #[.string x.n,ji x.r] 136))
 rw [hW] at hnew |-
 exact ⟨_,_,rfl,(zf hnew),by simp [World.cell?,hnew],by simp [World.cell?,hnew]⟩
theorem lfr_below {l : Value} (h : LFr jn l w w') (ho : w.ownsRow B 136 2 l n xs) (hB : B <= w.heap.size) : Below B w w' :=
 ⟨h.os,h.tape,h.output,h.size,fun d hd => h.block d (by omega) (by simp [Value.ownBlock]) (fun e => by have := (own_blk ho e.symm).1;omega)⟩
def Put1 (W : World) (A : List Rf) (v : Value) (w : World) : Prop := ∃ bo n c,v = .slice bo n c /\ A.length = n /\ RefRow w bo A /\ n <= c /\ c <= maxLen /\ Below W.heap.size W w
theorem put_a (cap c2 : Nat) (x : Rf) (hk : k <= A.length) (hn : A.length <= 400) (h1 : RefRow W ao (A.take k)) (h2 : RefRow W bo (A.drop k)) (hnk : A.length - k = n) :
 ∃ v1 w1 v2 w2 v3 w3,(Builtin.append_ #[121,121] 121 #[jn,.slice ao k cap]).run Tryz.prog W.drew = .ok v1 w1 /\
  (Builtin.append_ #[121,121] 121 #[v1,.slice (some (jd w1.heap.size 0)) 1 1]).run Tryz.prog (w1.alloc (.cells #[.string x.n,ji x.r] 136)) = .ok v2 w2 /\
  (Builtin.append_ #[121,121] 121 #[v2,.slice bo n c2]).run Tryz.prog w2 = .ok v3 w3 /\ Put1 W (A.take k ++ [x] ++ A.drop k) v3 w3 /\ Below W.heap.size W w1 := by
 subst hnk
 have hlk : (A.take k).length = k := by rw [List.length_take];omega
 have hdk : (A.drop k).length = A.length - k := zk
 have bW : Below W.heap.size W W.drew := (Below.refl _ _).drew
 obtain ⟨v1,w1,e1,r1,f1⟩ := row_more (w := W.drew) (B := W.heap.size) (L := []) (World.ownsRow_nil _ _ _ _) ao cap (h1.below bW) (zb _) (by simp) (by omega)
 rw [hlk] at e1
 rw [List.nil_append] at r1
 have b1 : Below W.heap.size W w1 := bW.trans (lfr_below f1 (World.ownsRow_nil _ _ _ _) (zb _))
 obtain ⟨w1',hw1'⟩ : ∃ w1',w1' = w1.alloc (.cells #[.string x.n,ji x.r] 136) := ⟨_,rfl⟩
 have b1' : Below w1.heap.size w1 w1' := by rw [hw1'];exact ze _ _
 have o1 := ref_one w1 x
 rw [<- hw1'] at o1
 have r1' : RowIs w1' W.heap.size v1 (A.take k) := own_mv r1 fun g hg => b1'.block g (own_blk r1 hg).2.1
 have bb1 : Below W.heap.size W w1' := b1.trans (b1'.mono b1.size)
 obtain ⟨v2,w2,e2,r2,f2⟩ := row_more r1' _ 1 o1 bb1.size (by omega) (by simp)
 have b2 : Below W.heap.size W w2 := bb1.trans (lfr_below f2 r1' bb1.size)
 obtain ⟨v3,w3,e3,r3,f3⟩ := row_more r2 _ c2 (h2.below b2) b2.size (by simp;omega) (by omega)
 have b3 : Below W.heap.size W w3 := b2.trans (lfr_below f3 r2 b2.size)
 rw [hdk] at e3
 rw [hw1'] at e2
 obtain ⟨co,c3,rfl,g1,g2,g3⟩ := row_ref4 r3
 exact ⟨v1,w1,v2,w2,_,w3,e1,e2,e3,⟨co,_,c3,rfl,rfl,g1,g2,g3,b3⟩,b1⟩
theorem put_b (cap c2 : Nat) (x : Rf) (hk : k <= A.length) (hn : A.length <= 400) (h1 : RefRow W ao (A.take k)) (h2 : RefRow W bo (A.drop k)) (hnk : A.length - k = n) :
 ∃ v1 w1 v2 w2 v3 w3,(Builtin.append_ #[121,121] 121 #[jn,.slice ao k cap]).run Tryz.prog (W.alloc (.cells #[.string x.n,ji x.r] 136)).drew = .ok v1 w1 /\
  (Builtin.append_ #[121,121] 121 #[v1,.slice (some (jd W.heap.size 0)) 1 1]).run Tryz.prog w1 = .ok v2 w2 /\
  (Builtin.append_ #[121,121] 121 #[v2,.slice bo n c2]).run Tryz.prog w2 = .ok v3 w3 /\ Put1 W (A.take k ++ [x] ++ A.drop k) v3 w3 := by
 subst hnk
 have hlk : (A.take k).length = k := by rw [List.length_take];omega
 have hdk : (A.drop k).length = A.length - k := zk
 obtain ⟨V,hV⟩ : ∃ V,V = (W.alloc (.cells #[.string x.n,ji x.r] 136)).drew := ⟨_,rfl⟩
 have bV : Below W.heap.size W V := by rw [hV];exact (ze _ _).drew
 have hVs : V.heap.size = W.heap.size + 1 := by rw [hV];simp [World.drew]
 have o1 : RefRow V (some (jd W.heap.size 0)) [x] := by rw [hV];exact (ref_one W x).below (Below.refl _ _).drew
 rw [<- hV]
 obtain ⟨v1,w1,e1,r1,f1⟩ := row_more (w := V) (B := V.heap.size) (L := []) (World.ownsRow_nil _ _ _ _) ao cap (h1.below bV) (zb _) (by simp) (by omega)
 rw [hlk] at e1
 rw [List.nil_append] at r1
 have b1 : Below V.heap.size V w1 := lfr_below f1 (World.ownsRow_nil _ _ _ _) (zb _)
 obtain ⟨v2,w2,e2,r2,f2⟩ := row_more r1 _ 1 (o1.below b1) b1.size (by omega) (by simp)
 have b2 : Below V.heap.size V w2 := b1.trans (lfr_below f2 r1 b1.size)
 have b2' : Below W.heap.size W w2 := bV.trans (b2.mono (by omega))
 obtain ⟨v3,w3,e3,r3,f3⟩ := row_more r2 _ c2 (h2.below b2') b2.size (by simp;omega) (by omega)
 have b3 : Below V.heap.size V w3 := b2.trans (lfr_below f3 r2 b2.size)
 rw [hdk] at e3
 obtain ⟨co,c3,rfl,g1,g2,g3⟩ := row_ref4 r3
 exact ⟨v1,w1,v2,w2,_,w3,e1,e2,e3,co,_,c3,rfl,rfl,g1,g2,g3,bV.trans (b3.mono (by omega))⟩
end Go.Proofs.YtjjfalbngcbfaaaGreatDoor.G6
