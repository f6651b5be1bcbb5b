import Derived.Test.YtjjfalbngcbfaaaGreatDoorZ0
import Derived.Test.YtjjfalbngcbfaaaGreatDoorYh
import Derived.Test.YtjjfalbngcbfaaaGreatDoorZq
import Derived.BigQuiet
import Derived.Deep.QuietTactic
import Derived.Deep.RegionHeld3
import Derived.WalkKit
import Derived.WalkSpells
import Derived.WalkLawsBesides
import Derived.Deep.RegionLaw
import Derived.BigRegion
import Derived.WalkMore
import Derived.Maps.OwnSet
import Derived.WalkArith
import Derived.Shelf.Strings.Builder1
import Derived.Shelf.Small.Strs
import Derived.Shelf.Strings.BuilderF
import Derived.Shelf.Strings.BuilderK
import Derived.Shelf.Strings.BuilderRune
import Derived.Shelf.Strings.Prefix
import Derived.Laws.AppendOwn
import Derived.Maps.AppendAt
import Derived.Deep.DeepCutAuto
import Derived.ScopeJumps
import Derived.Deep.RegionWith
import Derived.Laws.StructEq
import Derived.OwnWalk
import Derived.Deep.Upon
import Derived.Deep.LoopGhost
import Derived.Below
import Derived.Lib.RuneBytes
import Derived.Laws.EntriesVeiled
import Derived.Laws.BytesArg
import Derived.Shelf.Abstract
import Derived.Laws.IdiomStrings
import Derived.StringKeys
import Derived.Lib.AppendStr
import Derived.StillTailTactics
import Derived.BigCall
import Derived.Lib.LaidTab
import Derived.LaidMore
import Derived.Stop.Joined
import Derived.SevenTiedAt
set_option maxHeartbeats 4000000
set_option maxRecDepth 20000
namespace Go.Proofs.YtjjfalbngcbfaaaGreatDoor
open Go.RowKit
structure Env where
 lo : Option Addr
 cap : Nat
 L : List Ch
 N : Int
 fo : Bool
variable {S : Nat -> Prop} {x B : Nat} {E : Env} {r r' t : List Ch} {sc sc' : Sc} {dn dn' : Bool} {fv : Value} {w w' W W' : World} {ao : Option Addr} {T : List TL}
def pos (E : Env) (r : List Ch) : Int := (E.L.length : Int) - r.length
def Env.cells (E : Env) (p : Int) (sc : Sc) (fv : Value) (dn : Bool) : Array Value :=
 #[.slice E.lo E.L.length E.cap,ji p,ji E.N,ji sc.text,.string sc.last,.bool E.fo,fv,.bool sc.cd,.bool dn]
structure TmV (S : Nat -> Prop) (x : Nat) (E : Env) (r : List Ch) (sc : Sc) (dn : Bool) (fv : Value) (w : World) : Prop where
 low : ∀ k,S k -> k < w.heap.size
 hx : ¬ S x
 suf : r <:+ E.L
 few : E.L.length <= 100000
 cap : E.L.length <= E.cap
 row : Stays S w (ChRow E.lo E.L)
 blk : w.heap[x]? = some (.cells (E.cells (pos E r) sc fv dn) 61 (0,0))
 fo : Rw.own w (rwF fv sc.fs)
 fout : ∀ g,fv.ownBlock = some g -> ¬ S g
def Tm (S : Nat -> Prop) (x : Nat) (E : Env) (r : List Ch) (sc : Sc) (dn : Bool) (w : World) : Prop := ∃ fv,TmV S x E r sc dn fv w
theorem TmV.lt (h : TmV S x E r sc dn fv w) : x < w.heap.size := (zf h.blk)
theorem Tm.lt (h : Tm S x E r sc dn w) : x < w.heap.size := by
 obtain ⟨fv,h⟩ := h
 exact h.lt
theorem TmV.below (h : TmV S x E r sc dn fv w) (b : Below w.heap.size w w') : TmV S x E r sc dn fv w' :=
 ⟨fun k hk => zo (h.low k hk) b.size,h.hx,h.suf,h.few,h.cap,h.row.keep (Keep.old b),(b.block x h.lt).trans h.blk,own_mv h.fo fun g hg => b.block g (own_blk h.fo hg).1,h.fout⟩
theorem Tm.below (h : Tm S x E r sc dn w) (b : Below w.heap.size w w') : Tm S x E r sc dn w' := by
 obtain ⟨fv,h⟩ := h
 exact ⟨fv,h.below b⟩
theorem TmV.cells (h : TmV S x E r sc dn fv w) (i : Nat) (u : Value) (hu : (E.cells (pos E r) sc fv dn)[i]? = some u) : w.cell? (jd x i) = some u := by
 simp only [World.cell?,h.blk]
 exact hu
theorem TmV.free (h : TmV S x E r sc dn fv w) (i : Nat) : w.frozen? (jd x i) = false := by
 simp [World.frozen?,h.blk]
theorem TmV.set (h : TmV S x E r sc dn fv w) (i : Nat) (u : Value) (hc : (E.cells (pos E r) sc fv dn).set! i u = E.cells (pos E r') sc' fv dn') (hs : r' <:+ E.L) (hf : sc'.fs = sc.fs) :
 TmV S x E r' sc' dn' fv (w.setCell (jd x i) u) /\ Keep S w (w.setCell (jd x i) u) := by
 have hk : Keep S w (w.setCell (jd x i) u) := (Keep.refl S w).setCell (p := (jd x i)) h.hx u
 have hne : ∀ g,g ≠ x -> (w.setCell (jd x i) u).heap[g]? = w.heap[g]? := fun g hg => Below.heap_setCell _ _ _ _ hg
 refine ⟨⟨fun k hS => zo (h.low k hS) hk.size,h.hx,hs,h.few,h.cap,h.row.keep hk,?_,?_,h.fout⟩,hk⟩
 · rw [<- hc]
   simp [World.setCell,Array.getElem?_modify,h.blk]
 rw [hf]
 refine own_mv h.fo fun g hg => hne g fun e => ?_
 subst e
 obtain ⟨_,cur,z,hg2⟩ := own_blk h.fo hg
 rw [h.blk] at hg2
 simp at hg2
structure TW (S : Nat -> Prop) (x : Nat) (E : Env) (r : List Ch) (sc : Sc) (dn : Bool) (w W : World) : Prop where
 tm : Tm S x E r sc dn W
 keep : Keep S w W
theorem TW.lt (h : TW S x E r sc dn w W) : x < W.heap.size := h.tm.lt
theorem TW.start (h : Tm S x E r sc dn w) : TW S x E r sc dn w w := ⟨h,Keep.refl _ _⟩
theorem TW.trans (h : TW S x E r sc dn w W) (k : TW S x E r' sc' dn' W W') : TW S x E r' sc' dn' w W' := ⟨k.tm,h.keep.trans k.keep⟩
theorem TW.below (h : TW S x E r sc dn w W) (b : Below W.heap.size W W') : TW S x E r sc dn w W' := ⟨h.tm.below b,h.keep.trans (Keep.old b)⟩
theorem TW.at (h : TW S x E r sc dn w W) : W.cell? (jd x 1) = some (ji (pos E r)) /\ W.frozen? (jd x 1) = false /\ 0 <= pos E r /\ pos E r <= 100000 /\ W.cell? (jd x 0) = some (.slice E.lo E.L.length E.cap) := by
 obtain ⟨fv,h⟩ := h.tm
 have := h.suf.length_le
 have := h.few
 exact ⟨h.cells 1 _ rfl,h.free 1,by unfold pos;omega,by unfold pos;omega,h.cells 0 _ rfl⟩
theorem pos_cons {c : Ch} : pos E t = pos E (c :: t) + 1 := by
 unfold pos
 simp only [zi]
 omega
theorem TW.adv {c : Ch} (h : TW S x E (c :: t) sc dn w W) : TW S x E t sc dn w (W.setCell (jd x 1) (ji (pos E (c :: t) + 1))) := by
 obtain ⟨fv,h1⟩ := h.tm
 obtain ⟨q1,q2⟩ := h1.set (r' := t) (sc' := sc) (dn' := dn) 1 (ji (pos E (c :: t) + 1)) (by rw [pos_cons (c := c) (t := t)];simp [Env.cells]) ((zl _ _).trans h1.suf) rfl
 exact ⟨⟨fv,q1⟩,h.keep.trans q2⟩
theorem TW.go (h : TW S x E r sc dn w W) (hs : r' <:+ E.L) (p : Int) (hp : p = pos E r') : TW S x E r' sc dn w (W.setCell (jd x 1) (ji p)) := by
 obtain ⟨fv,h1⟩ := h.tm
 obtain ⟨q1,q2⟩ := h1.set (r' := r') (sc' := sc) (dn' := dn) 1 (ji p) (by rw [hp];simp [Env.cells]) hs rfl
 exact ⟨⟨fv,q1⟩,h.keep.trans q2⟩
theorem TmV.char {c : Ch} (h : TmV S x E (c :: t) sc dn fv w) : ∃ b off p : Nat,E.lo = some (jd b off) /\ pos E (c :: t) = (p : Int) /\ p < E.L.length /\ b < w.heap.size /\ w.cell? (jd b (off + p * 3)) = some (ji c.r) /\ w.cell? (jd b (off + p * 3 + 1)) = some (ji c.a) /\ w.cell? (jd b (off + p * 3 + 2)) = some (ji c.z) := by
 obtain ⟨p,hp⟩ := h.suf
 have hl : E.L[p.length]? = some c := by rw [<- hp,List.getElem?_append_right (zb _),Nat.sub_self];rfl
 obtain ⟨b,off,e,hb,q0,q1,q2⟩ := h.row.now _ _ hl
 refine ⟨b,off,p.length,e,?_,(zg hl),hb,q0,q1,q2⟩
 unfold pos
 rw [<- hp]
 simp
theorem c_any (h : Tm S x E r sc dn w) : Calls Tryz.prog 39 #[mp x] w fun e w' => e = jr (ji (hd r)) /\ ∃ m,w' = w.drewN m := by
 obtain ⟨fv,h⟩ := h
 have hxw := h.lt
 have c0 : w.cell? (jd x 0) = some (.slice E.lo E.L.length E.cap) := h.cells 0 _ rfl
 have c1 : w.cell? (jd x 1) = some (ji (pos E r)) := h.cells 1 _ rfl
 cases r with
 | nil =>
  have hp : pos E [] = (E.L.length : Int) := by unfold pos;simp
  rw [hp] at c1;obtain ⟨n,hn⟩ := ex (E.L.length);rw [hn] at c0 c1;have g1 : decide ((n : Int) >= (n : Int)) = true := zm (by omega);clear h hp hn;go_enter Tryz.func39,Tryz.ntmps39;go_wp2_with fail;go_quiet (fail);go_wp2_with fail;go_ret;exact ⟨rfl,_,rfl⟩
 | cons c t =>
  obtain ⟨b,off,p,elo,hp,hpl,hb,q0,_,_⟩ := h.char;rw [hp] at c1;rw [elo] at c0;have hcap := h.cap;obtain ⟨n,hn⟩ := ex (E.L.length);rw [hn] at c0 hpl hcap;obtain ⟨cr,hcr⟩ := ex (c.r);have e : hd (c :: t) = cr := hcr;rw [e];rw [hcr] at q0;have g1 : decide ((p : Int) >= (n : Int)) = false := zn (by omega);have hpi : (p : Int) < (n : Int) := by omega
  clear h hp hn elo hcr e;go_enter Tryz.func39,Tryz.ntmps39;go_wp2_with fail;go_quiet (fail);go_wp2_with fail;go_quiet (fail);go_wp2_with fail;go_ret;exact ⟨rfl,_,World.drewN_drewN _ _ _⟩
theorem TW.c (h : TW S x E r sc dn w W) : Calls Tryz.prog 39 #[mp x] W fun e w' => e = jr (ji (hd r)) /\ TW S x E r sc dn w w' := by
 refine (c_any h.tm).mono ?_
 rintro e w' ⟨rfl,m,rfl⟩
 exact ⟨rfl,h.below (G9.below_drewN (Below.refl _ _) m)⟩
theorem twx {f : FuncId} {a : Array Value} {v : Ending} {Q : Ending -> World -> Prop} (c : Calls Tryz.prog f a W fun e w' => e = v /\ TW S x E r sc dn w w') (h : ∀ w',Hid (TW S x E r sc dn w w') -> x < w'.heap.size -> Q v w') : Calls Tryz.prog f a W Q := c.mono fun _ w' k => by
 rw [k.1]
 exact h w' k.2 k.2.lt
theorem TW.advx {c : Ch} (h : TW S x E (c :: t) sc dn w W) : ∃ p : Int,W.cell? (jd x 1) = some (ji p) /\ W.frozen? (jd x 1) = false /\ 0 <= p /\ p <= 100000 /\ Hid (TW S x E t sc dn w (W.setCell (jd x 1) (ji (p + 1)))) := by
 obtain ⟨a,b,c,d,_⟩ := h.at
 exact ⟨_,a,b,c,d,h.adv⟩
theorem TW.gox (h : TW S x E r sc dn w W) (hs : r' <:+ E.L) (n : Int) (hp : pos E r + n = pos E r') : ∃ p : Int,W.cell? (jd x 1) = some (ji p) /\ W.frozen? (jd x 1) = false /\ 0 <= p /\ p <= 100000 /\ Hid (TW S x E r' sc dn w (W.setCell (jd x 1) (ji (p + n)))) := by
 obtain ⟨a,b,c,d,_⟩ := h.at
 exact ⟨_,a,b,c,d,h.go hs _ hp⟩
theorem rbx (r : Int) (w : World) {Q : Ending -> World -> Prop} (h : Q (jr (.bool (blk r))) w) : Calls Tryz.prog 72 #[ji r] w Q := smx (G7.rblank_any r w) h
theorem letter_any' (r : Int) (w : World) : Calls Tryz.prog 68 #[ji r] w fun e w' => e = jr (.bool (ltr r)) /\ w' = w := by
 go_enter Tryz.func68,Tryz.ntmps68
 go_wp2
 all_goals
  go_ret;refine ⟨G7.ret_bool ?_,rfl⟩;unfold ltr
  first | (symm;apply zm;omega) | (rw [Bool.eq_iff_iff];simp;omega)
theorem utf_enc (r : Int) : Utf8.encode (G9.chr r) = bs (enc r) := by
 have hv : Utf8.valid (G9.chr r) = true /\ 0 <= G9.chr r /\ G9.chr r <= 1114111 /\ (G9.chr r < 55296 \/ 57343 < G9.chr r) := by
  unfold G9.chr;split
  · next h =>
    unfold G9.mayB at h;simp at h;refine ⟨?_,by omega,by omega,by omega⟩;unfold Utf8.valid;simp;omega
  exact ⟨by decide,by decide,by decide,by decide⟩
 obtain ⟨h1,h2,h3,h4⟩ := hv
 unfold enc bs Lib.encodeRune
 generalize G9.chr r = q at h1 h2 h3 h4
 obtain ⟨c,rfl⟩ : ∃ c : Nat,q = (c : Int) := ⟨q.toNat,by omega⟩
 rw [G9.val_enc _ h1 c rfl]
 by_cases k1 : c < 128
 · rw [jp k1,Lib.encodeRuneZ_one (by omega) (by omega)]
   rfl
 rw [jq k1]
 by_cases k2 : c < 2048
 · rw [jp k2,Lib.encodeRuneZ_two (by omega) (by omega)]
   simp only [List.map_cons,List.map_nil];rw [show ((192 : Int) + (c : Int) / 64).toNat = 192 + c / 64 by omega,show ((128 : Int) + (c : Int) % 64).toNat = 128 + c % 64 by omega]
 rw [jq k2]
 by_cases k3 : c < 65536
 · rw [jp k3,Lib.encodeRuneZ_three (by omega)]
   simp only [List.map_cons,List.map_nil];rw [show ((224 : Int) + (c : Int) / 4096).toNat = 224 + c / 4096 by omega,show ((128 : Int) + (c : Int) / 64 % 64).toNat = 128 + c / 64 % 64 by omega,show ((128 : Int) + (c : Int) % 64).toNat = 128 + c % 64 by omega]
 rw [jq k3,Lib.encodeRuneZ_four (by omega) (by omega)]
 simp only [List.map_cons,List.map_nil]
 rw [show ((240 : Int) + (c : Int) / 262144).toNat = 240 + c / 262144 by omega,show ((128 : Int) + (c : Int) / 4096 % 64).toNat = 128 + c / 4096 % 64 by omega,show ((128 : Int) + (c : Int) / 64 % 64).toNat = 128 + c / 64 % 64 by omega,show ((128 : Int) + (c : Int) % 64).toNat = 128 + c % 64 by omega]
theorem enc_any' (r : Int) (w : World) : Calls Tryz.prog 106 #[ji r] w fun e w' => e = jr (.string (bs (enc r))) /\ Below w.heap.size w w' := by
 rw [<- utf_enc]
 exact G9.renc_any r w
theorem lower_any' (r : Int) (w : World) : Calls Tryz.prog 71 #[ji r] w fun e w' => e = jr (.string (bs (enc (lowr r)))) /\ Below w.heap.size w w' := by
 obtain ⟨q,hq⟩ := ex (lowr r)
 have k := fun w => enc_any' q w
 rw [hq]
 unfold lowr at hq
 go_enter Tryz.func71,Tryz.ntmps71
 by_cases h : 65 <= r /\ r <= 90
 · rw [jp h] at hq
   subst hq;obtain ⟨h1,h2⟩ := h;go_wp2_with fail;refine (k _).mono ?_;rintro e w1 ⟨rfl,b1⟩;have B1 := hid b1;clear b1;go_wp2_with fail;go_ret;exact ⟨rfl,B1.out⟩
 rw [jq h] at hq
 subst hq
 by_cases h1 : 65 <= r
 · have h2 : ¬ r <= 90 := by omega
   clear h;go_wp2_with fail;refine (k _).mono ?_;rintro e w1 ⟨rfl,b1⟩;have B1 := hid b1;clear b1;go_wp2_with fail;go_ret;exact ⟨rfl,B1.out⟩
 clear h
 go_wp2_with fail
 refine (k _).mono ?_
 rintro e w1 ⟨rfl,b1⟩
 have B1 := hid b1
 clear b1
 go_wp2_with fail
 go_ret
 exact ⟨rfl,B1.out⟩
theorem byteAt_any (h : Tm S x E r sc dn w) : Calls Tryz.prog 41 #[mp x] w fun e w' => e = jr (ji (frN E.N r)) /\ ∃ m,w' = w.drewN m := by
 obtain ⟨fv,h⟩ := h
 have hxw := h.lt
 have c0 : w.cell? (jd x 0) = some (.slice E.lo E.L.length E.cap) := h.cells 0 _ rfl
 have c1 : w.cell? (jd x 1) = some (ji (pos E r)) := h.cells 1 _ rfl
 have c2 : w.cell? (jd x 2) = some (ji E.N) := h.cells 2 _ rfl
 cases r with
 | nil =>
  have hp : pos E [] = (E.L.length : Int) := by unfold pos;simp
  rw [hp] at c1;obtain ⟨n,hn⟩ := ex (E.L.length);rw [hn] at c0 c1;have g1 : decide ((n : Int) >= (n : Int)) = true := zm (by omega);clear h hp hn;go_enter Tryz.func41,Tryz.ntmps41;go_wp2_with fail;go_quiet (fail);go_wp2_with fail;go_ret;exact ⟨rfl,_,rfl⟩
 | cons c t =>
  obtain ⟨b,off,p,elo,hp,hpl,hb,_,q0,_⟩ := h.char;rw [hp] at c1;rw [elo] at c0;have hcap := h.cap;obtain ⟨n,hn⟩ := ex (E.L.length);rw [hn] at c0 hpl hcap;obtain ⟨cr,hcr⟩ := ex (c.a);have e : frN E.N (c :: t) = cr := hcr;rw [e];rw [hcr] at q0;have g1 : decide ((p : Int) >= (n : Int)) = false := zn (by omega);have hpi : (p : Int) < (n : Int) := by omega
  clear h hp hn elo hcr e;go_enter Tryz.func41,Tryz.ntmps41;go_wp2_with fail;go_quiet (fail);go_wp2_with fail;go_quiet (fail);go_wp2_with fail;go_ret;exact ⟨rfl,_,World.drewN_drewN _ _ _⟩
theorem TW.byteAt (h : TW S x E r sc dn w W) : Calls Tryz.prog 41 #[mp x] W fun e w' => e = jr (ji (frN E.N r)) /\ TW S x E r sc dn w w' := by
 refine (byteAt_any h.tm).mono ?_
 rintro e w' ⟨rfl,m,rfl⟩
 exact ⟨rfl,h.below (G9.below_drewN (Below.refl _ _) m)⟩
theorem TmV.prev (h : TmV S x E r sc dn fv w) (hl : r.length < E.L.length) : ∃ b off p : Nat,E.lo = some (jd b off) /\ pos E r = (p : Int) + 1 /\ p < E.L.length /\ b < w.heap.size /\ w.cell? (jd b (off + p * 3 + 2)) = some (ji (endZ E.L r)) := by
 obtain ⟨c,hc⟩ : ∃ c,E.L[E.L.length - r.length - 1]? = some c := ⟨_,zy (by omega)⟩
 obtain ⟨b,off,e,hb,_,_,q2⟩ := h.row.now _ _ hc
 refine ⟨b,off,E.L.length - r.length - 1,e,?_,(zg hc),hb,?_⟩
 · unfold pos
   omega
 rw [q2]
 unfold endZ Mc.toAt
 rw [hc]
theorem end_any' (h : Tm S x E r sc dn w) (hl : r.length < E.L.length) : Calls Tryz.prog 43 #[mp x] w fun e w' => e = jr (ji (endZ E.L r)) /\ ∃ m,w' = w.drewN m := by
 obtain ⟨fv,h⟩ := h
 have hxw := h.lt
 have c0 : w.cell? (jd x 0) = some (.slice E.lo E.L.length E.cap) := h.cells 0 _ rfl
 have c1 : w.cell? (jd x 1) = some (ji (pos E r)) := h.cells 1 _ rfl
 have c2 : w.cell? (jd x 2) = some (ji E.N) := h.cells 2 _ rfl
 obtain ⟨b,off,p,elo,hp,hpl,hb,q0⟩ := h.prev hl
 rw [hp] at c1
 rw [elo] at c0
 have hcap := h.cap
 have hfew := h.few
 obtain ⟨n,hn⟩ := ex (E.L.length)
 rw [hn] at c0 hpl hcap hfew
 obtain ⟨cr,hcr⟩ := ex (endZ E.L r)
 rw [hcr] at q0 |-
 have g1 : decide ((p : Int) + 1 > (n : Int)) = false := zn (by omega)
 have g2 : ((p : Int) + 1 == 0) = false := by simp;omega
 have hpi : (p : Int) < (n : Int) := by omega
 clear h hp hn elo hcr hl
 go_enter Tryz.func43,Tryz.ntmps43
 go_wp2_with fail
 go_quiet (fail)
 go_wp2_with fail
 go_quiet (fail)
 go_wp2_with fail
 go_ret
 exact ⟨rfl,_,World.drewN_drewN _ _ _⟩
theorem TW.endz (h : TW S x E r sc dn w W) (hl : r.length < E.L.length) : Calls Tryz.prog 43 #[mp x] W fun e w' => e = jr (ji (endZ E.L r)) /\ TW S x E r sc dn w w' := by
 refine (end_any' h.tm hl).mono ?_
 rintro e w' ⟨rfl,m,rfl⟩
 exact ⟨rfl,h.below (G9.below_drewN (Below.refl _ _) m)⟩
def Sc.fault (sc : Sc) (code at' : Int) : Sc := { sc with fs := sc.fs ++ [(code,at')] }
theorem tfault_any (h : Tm S x E r sc dn w) (code at' : Int) (hn : sc.fs.length <= 1000000000) : Calls Tryz.prog 65 #[mp x,ji code,ji at'] w fun e w' => e = jr (.tuple #[]) /\ TW S x E r (sc.fault code at') dn w w' := by
 obtain ⟨fv,h⟩ := h
 have hxw := h.lt
 have c6 : w.cell? (jd x 6) = some fv := h.cells 6 _ rfl
 have b0 : Below w.heap.size w (w.alloc (.cells (gcells (code,at')).toArray 58)) := ze _ _
 have hnew : (w.alloc (.cells (gcells (code,at')).toArray 58)).heap[w.heap.size]? = some (.cells (gcells (code,at')).toArray 58 (0,0)) := zx w (.cells (gcells (code,at')).toArray 58)
 obtain ⟨W0,hW0⟩ := ex (w.alloc (.cells (gcells (code,at')).toArray 58))
 rw [hW0] at b0 hnew
 have h0 := h.below b0
 obtain ⟨v',W',hrun,ho,hg,hat⟩ := row_app Tryz.underlying25 info58 rfl (by decide) (by decide) h0.fo w.heap.size 0 1 1 (gcells (code,at')) rfl (fun j u hj => by rw [Nat.zero_add];simp [World.cell?,hnew];exact hj) (by simp [gcells,G4.gcells,Value.oneCell']) (by show sc.fs.length + 1 <= _;omega)
 obtain ⟨ao',c',rfl,_,_⟩ := own_form ho
 have hfx : ∀ g,fv.ownBlock = some g -> g ≠ x := fun g hg e => by
  subst e;obtain ⟨_,cur,z,hg2⟩ := own_blk h.fo hg;rw [h.blk] at hg2;simp at hg2
 have hWx : W'.heap[x]? = some (.cells (E.cells (pos E r) sc fv dn) 61 (0,0)) := (hg.block x h0.lt (fun e => hfx x e.symm rfl)).trans h0.blk
 have hk0 : Keep S w W' := (Keep.old b0).trans (Keep.grown hg h.fout)
 have hk : Keep S w (W'.setCell (jd x 6) (.slice ao' (sc.fs.length + 1) c')) := hk0.setCell (p := (jd x 6)) h.hx _
 have HP : Hid (TW S x E r (sc.fault code at') dn w (W'.setCell (jd x 6) (.slice ao' (sc.fs.length + 1) c'))) := by
  refine ⟨⟨.slice ao' (sc.fs.length + 1) c',fun k hS => zo (h.low k hS) hk.size,h.hx,h.suf,h.few,h.cap,h.row.keep hk,?_,?_,fun g hg2 hS => ?_⟩,hk⟩
  · simp [World.setCell,Array.getElem?_modify,hWx,Env.cells,Sc.fault]
  · have e1 : (sc.fault code at').fs.length = sc.fs.length + 1 := by simp [Sc.fault]
    have e2 : (sc.fault code at').fs.flatMap gcells = sc.fs.flatMap gcells ++ gcells (code,at') := by simp [Sc.fault]
    show OwnQ _ false 58 2 _ (sc.fault code at').fs.length ((sc.fault code at').fs.flatMap gcells);rw [e1,e2];refine own_mv ho fun g hg2 => Below.heap_setCell _ _ _ _ fun e => ?_;have e : g = x := e;subst e;rcases hat with hat | hat
    · rw [hat] at hg2
      exact hfx g hg2 rfl
    rw [hg2] at hat;have hat := Option.some.inj hat;have := b0.size;omega
  rcases hat with hat | hat
  · rw [hat] at hg2
    exact h.fout g hg2 hS
  rw [hg2] at hat;have hat := Option.some.inj hat;have := h.low g hS;have := b0.size;omega
 have q3 : W'.cell? (jd x 6) = some fv := by simp [World.cell?,hWx];rfl
 have q4 : W'.frozen? (jd x 6) = false := by simp [World.frozen?,hWx]
 obtain ⟨k,hk2⟩ := ex (sc.fs.length)
 obtain ⟨ao,ca,e5,_,_⟩ := own_form h.fo
 simp only at e5
 have hxW : x < W'.heap.size := (zf hWx)
 rw [e5,hk2] at c6 q3 hrun
 rw [<- hW0] at hrun
 clear h h0 ho hg hat hWx hk0 hk e5 hk2 hfx b0 hnew hW0
 go_enter Tryz.func65,Tryz.ntmps65
 go_wp2_with (at_builtin;refine list_append_eq rfl _ _ 25 25 rfl _ _ rfl rfl hrun ?_)
 refine bodyPost_end (zq rfl) rfl ?_
 exact ⟨rfl,HP.out⟩
theorem ltx (r : Int) (w : World) {Q : Ending -> World -> Prop} (h : Q (jr (.bool (ltr r))) w) : Calls Tryz.prog 68 #[ji r] w Q := smx (letter_any' r w) h
structure TokR (B : Nat) (ao : Option Addr) (T : List TL) (w : World) : Prop where
 row : G9.TkRow w ao T
 rb : T ≠ [] -> ∃ g cur z,ao = some (jd g 0) /\ B <= g /\ w.heap[g]? = some (.cells cur 45 z)
 ab : ∀ t ∈ T,t.2 ≠ [] -> ∃ g cur z,t.1.ao = some (jd g 0) /\ B <= g /\ w.heap[g]? = some (.cells cur 49 z)
theorem TokR.nil (B : Nat) (w : World) (ao : Option Addr) : TokR B ao [] w := ⟨G9.TkRow.nil _ _,fun h => absurd rfl h,fun t ht => by cases ht⟩
theorem TokR.mono {B' : Nat} (h : TokR B ao T w) (hB : B' <= B) : TokR B' ao T w := by
 refine ⟨h.row,fun hT => ?_,fun t ht hL => ?_⟩
 · obtain ⟨g,cur,z,h1,h2,h3⟩ := h.rb hT
   exact ⟨g,cur,z,h1,zr hB h2,h3⟩
 obtain ⟨g,cur,z,h1,h2,h3⟩ := h.ab t ht hL
 exact ⟨g,cur,z,h1,zr hB h2,h3⟩
theorem TokR.below (h : TokR B ao T w) (b : Below w.heap.size w w') : TokR B ao T w' := by
 refine ⟨h.row.below b,fun hT => ?_,fun t ht hL => ?_⟩
 · obtain ⟨g,cur,z,h1,h2,h3⟩ := h.rb hT
   exact ⟨g,cur,z,h1,h2,(b.block g (zf h3)).trans h3⟩
 obtain ⟨g,cur,z,h1,h2,h3⟩ := h.ab t ht hL
 exact ⟨g,cur,z,h1,h2,(b.block g (zf h3)).trans h3⟩
def Tokd (S : Nat -> Prop) (x : Nat) (E : Env) (p : List Pt × Sc × List Ch) (dn : Bool) (w : World) (e : Ending) (w' : World) : Prop :=
 ∃ ao T cap,e = jr (.slice ao T.length cap) /\ T.map ptOf = p.1 /\ T.length <= cap /\ TokR w.heap.size ao T w' /\ TW S x E p.2.2 p.2.1 dn w w'
theorem TW.grown {o : Option Nat} (h : TW S x E r sc dn w W) (hg : W.grownBy W' o) (ho : ∀ g,o = some g -> ¬ S g /\ ∃ cur e z,W.heap[g]? = some (.cells cur e z) /\ e ≠ 61 /\ e ≠ 58) : TW S x E r sc dn w W' := by
 obtain ⟨fv,h1⟩ := h.tm
 have hk : Keep S W W' := Keep.grown hg fun g e => (ho g e).1
 have hx : o ≠ some x := fun e => by
  obtain ⟨_,cur,e2,z,h2,h3,_⟩ := ho x e;rw [h1.blk] at h2;simp at h2;exact h3 h2.2.1.symm
 have hf : ∀ g,fv.ownBlock = some g -> o ≠ some g := fun g hg e => by
  obtain ⟨_,cur,e2,z,h2,_,h4⟩ := ho g e;obtain ⟨_,cur',z',h5⟩ := own_blk h1.fo hg;rw [h5] at h2;simp at h2;exact h4 h2.2.1.symm
 exact ⟨⟨fv,fun k hS => zo (h1.low k hS) hk.size,h1.hx,h1.suf,h1.few,h1.cap,h1.row.keep hk,(hg.block x h1.lt (fun e => hx e.symm)).trans h1.blk,own_mv h1.fo fun g hg2 => hg.block g (own_blk h1.fo hg2).1 (fun e => hf g hg2 e.symm),h1.fout⟩,h.keep.trans hk⟩
def chTk (c : Ch) : TL := (⟨1,c.r,ByteArray.empty,ByteArray.empty,none,0,0,false,c.a,c.z⟩,[])
theorem chTk_pt (l : List Ch) : (l.map chTk).map ptOf = l.map (chT false) := by
 rw [List.map_map]
 rfl
theorem TokR.of {ov : Value} {cap : Nat} (h : Rw.own W (rwT ov T)) (e : ov = .slice ao T.length cap) (hB : ∀ g,ov.ownBlock = some g -> w.heap.size <= g) (hT : ∀ t ∈ T,t.2 = [] /\ t.1.n = 0) : TokR w.heap.size ao T W := by
 rcases h.2 with ⟨e1,h0⟩ | ⟨g,cap',cur,z,e1,hg,_,_,_,_,h4⟩
 · have : T = [] := yb h0
   subst this;exact TokR.nil _ _ _
 simp only at e1
 have e2 := e1
 rw [e] at e1
 simp only [Value.slice.injEq] at e1
 obtain ⟨rfl,_,_⟩ := e1
 have hgB := hB g (by rw [e2];rfl)
 have hk : ∀ t ∈ T,TkS NoZ W t.1 t.2 := fun t ht => by
  have := hT t ht;refine ⟨⟨by rw [this.1,this.2];rfl,by rw [this.1];exact G9.AtRow.nil _ _,by rw [this.2];decide⟩,fun hL => absurd this.1 hL⟩
 exact ⟨(own_row hg h4 hk).1,fun _ => ⟨g,cur,z,rfl,hgB,hg⟩,fun t ht hL => absurd (hT t ht).1 hL⟩
theorem chTk_plain (l : List Ch) : ∀ t ∈ l.map chTk,t.2 = [] /\ t.1.n = 0 := fun t ht => by
 obtain ⟨c,_,rfl⟩ := List.mem_map.1 ht
 exact ⟨rfl,rfl⟩
theorem told_any (h : Tm S x E r sc dn w) {F : List Ch} (hrF : r <:+ F) (hF : F <:+ E.L) : Calls Tryz.prog 44 #[mp x,ji (pos E F)] w (Tokd S x E (toldR F r,sc,r) dn w) := by
 have hlow : ∀ k,S k -> k < w.heap.size := by obtain ⟨fv,h⟩ := h;exact h.low
 have hfew : E.L.length <= 100000 := by obtain ⟨fv,h⟩ := h;exact h.few
 have hcap : E.L.length <= E.cap := by obtain ⟨fv,h⟩ := h;exact h.cap
 have HS : Hid (TW S x E r sc dn w w) := TW.start h
 have hlF := hF.length_le
 have hlr := hrF.length_le
 obtain ⟨q,hq⟩ : ∃ q : Nat,E.L.length - F.length = q := ⟨_,rfl⟩
 obtain ⟨n,hn⟩ : ∃ n : Nat,F.length - r.length = n := ⟨_,rfl⟩
 have hpF : pos E F = (q : Int) := by unfold pos;omega
 obtain ⟨M,hM⟩ := ex (q + n)
 have hpr : pos E r = (M : Int) := by unfold pos;omega
 have HP := yc hpr hM
 have HF : Hid (toldR F r = (F.take n).map (chT false) /\ n <= F.length /\ ∀ j,j < n -> E.L[q + j]? = F[j]?) := by
  refine ⟨by unfold toldR;rw [hn],by omega,fun j hj => ?_⟩;obtain ⟨p,hp⟩ := hF;have : p.length = q := by rw [<- hq,<- hp];simp
  rw [<- hp,List.getElem?_append_right (by omega)];congr 1;omega
 have hqn : M <= E.L.length := by omega
 rw [hpF]
 have hxw := h.lt
 have HL := hid hlow
 clear h hlF hlr hq hn hpF hpr hrF hF hlow hM
 go_enter Tryz.func44,Tryz.ntmps44
 go_wp2_with fail
 go_loopw [5,6] (fun ov iv wr => ∃ k : Nat,iv = ji k /\ q <= k /\ k <= M /\ Rw.own wr (rwT ov ((F.take (k - q)).map chTk)) /\ (∀ g,ov.ownBlock = some g -> w.heap.size <= g) /\ TW S x E r sc dn w wr) (fun _ iv _ => M - (intOf iv).toNat)
 case atStart => exact ⟨q,rfl,zb _,by have := HP.out.2;omega,by rw [Nat.sub_self];exact ⟨rfl,.inl ⟨rfl,rfl⟩⟩,fun g hg => (by simp [Value.ownBlock] at hg),HS.out⟩
 obtain ⟨i,rfl,hqi0,hjn,ho,hB,hk⟩ := hrel
 obtain ⟨j,hj⟩ := ex (i - q)
 rw [hj] at ho
 obtain ⟨c1,f1,_,_,c0⟩ := hk.at
 rw [HP.out.1] at c1
 have hxr := hk.lt
 have hMq := HP.out.2
 by_cases hlt : i < M
 · obtain ⟨c,hc⟩ : ∃ c,F[j]? = some c := ⟨_,zy (by have := HF.out.2.1;omega)⟩
   have hLc : E.L[i]? = some c := by
    have := HF.out.2.2 j (by omega);rw [show q + j = i by omega] at this;exact this.trans hc
   obtain ⟨b,off,elo,hb,g0,g1,g2⟩ : ∃ b off,E.lo = some (jd b off) /\ b < wr.heap.size /\ wr.cell? (jd b (off + i * 3)) = some (ji c.r) /\ wr.cell? (jd b (off + i * 3 + 1)) = some (ji c.a) /\ wr.cell? (jd b (off + i * 3 + 2)) = some (ji c.z) := by
    obtain ⟨fv,h1⟩ := hk.tm;exact h1.row.now _ _ hLc
   rw [elo] at c0;obtain ⟨L0,hL0⟩ := ex (E.L.length);rw [hL0] at c0 hcap hfew hqn;obtain ⟨cr,hcr⟩ := ex (c.r);obtain ⟨ca,hca⟩ := ex (c.a);obtain ⟨cz,hcz⟩ := ex (c.z);have htk : (F.take (j + 1)).map chTk = (F.take j).map chTk ++ [chTk ⟨cr,ca,cz⟩] := by
    obtain ⟨hl,rfl⟩ := List.getElem?_eq_some_iff.1 hc;rw [<- List.take_append_getElem hl,List.map_append,<- hcr,<- hca,<- hcz];rfl
   rw [hcr] at g0;rw [hca] at g1;rw [hcz] at g2;have b0 : Below wr.heap.size wr ((wr.alloc (.cells (tkCells (chTk ⟨cr,ca,cz⟩)).toArray 45)).drew) := (ze _ _).drew;have hnew : ((wr.alloc (.cells (tkCells (chTk ⟨cr,ca,cz⟩)).toArray 45)).drew).heap[wr.heap.size]? = some (.cells (tkCells (chTk ⟨cr,ca,cz⟩)).toArray 45 (0,0)) := zx wr _;obtain ⟨W0,hW0⟩ := ex ((wr.alloc (.cells (tkCells (chTk ⟨cr,ca,cz⟩)).toArray 45)).drew);rw [hW0] at b0 hnew;have hlen : ((F.take j).map chTk).length = j := by rw [List.length_map,List.length_take];have := HF.out.2.1;omega
   have ho2 : OwnQ wr false 45 8 u5 j (((F.take j).map chTk).flatMap tkCells) := by
    have ho3 : OwnQ wr false 45 8 u5 ((F.take j).map chTk).length (((F.take j).map chTk).flatMap tkCells) := ho;rw [hlen] at ho3;exact ho3
   obtain ⟨v',W',hrun,ho',hg',hat⟩ := row_app Tryz.underlying24 info45 rfl (by decide) (by decide) (own_mv ho2 fun g hg => b0.block g (own_blk ho2 hg).1) wr.heap.size 0 1 1 (tkCells (chTk ⟨cr,ca,cz⟩)) rfl (fun i u hi => by rw [Nat.zero_add];simp [World.cell?,hnew];exact hi) (tk_one _) (by omega);obtain ⟨ao',c',rfl,hc'1,hc'2⟩ := own_form ho';have hj1 : i + 1 - q = j + 1 := by omega
   have H2 : Hid (Rw.own W' (rwT (.slice ao' (j + 1) c') ((F.take (i + 1 - q)).map chTk)) /\ (∀ g,(Value.slice ao' (j + 1) c').ownBlock = some g -> w.heap.size <= g) /\ TW S x E r sc dn w W') := by
    refine ⟨?_,fun g hg => ?_,?_⟩
    · rw [hj1,htk]
      show OwnQ W' false 45 8 _ (((F.take j).map chTk) ++ [chTk ⟨cr,ca,cz⟩]).length ((((F.take j).map chTk) ++ [chTk ⟨cr,ca,cz⟩]).flatMap tkCells);rw [zh,List.flatMap_append,hlen];simpa using ho'
    · rcases hat with hat | hat
      · rw [hat] at hg;exact hB g hg
      rw [hg] at hat;have := Option.some.inj hat;have := b0.size;have := hk.keep.size;omega
    refine (hk.below b0).grown hg' fun g hg => ?_;obtain ⟨_,cur,z,hgb⟩ := own_blk ho2 hg;refine ⟨fun hS => ?_,cur,45,z,?_,by decide,by decide⟩
    · have := hB g hg
      have := HL.out g hS;omega
    rw [b0.block g (own_blk ho2 hg).1];exact hgb
   have hin' : W'.cell? (jd x 0) = some (.slice (some (jd b off)) L0 E.cap) /\ W'.cell? (jd b (off + i * 3)) = some (ji cr) /\ W'.cell? (jd b (off + i * 3 + 1)) = some (ji ca) /\ W'.cell? (jd b (off + i * 3 + 2)) = some (ji cz) := by
    obtain ⟨_,_,_,_,d0⟩ := H2.out.2.2.at;obtain ⟨fv,h1⟩ := H2.out.2.2.tm;obtain ⟨b',off',e',_,p0,p1,p2⟩ := h1.row.now _ _ hLc;rw [elo] at e' d0;cases e';rw [hL0] at d0;rw [hcr] at p0;rw [hca] at p1;rw [hcz] at p2;exact ⟨d0,p0,p1,p2⟩
   rw [<- hW0] at hrun;obtain ⟨ao,ca',eov,_,_⟩ := own_form ho2;subst eov;have hlt' : decide ((i : Int) < (M : Int)) = true := zm (by omega);have hqi : (i : Int) < (L0 : Int) := by omega
   clear hk hc hLc elo hL0 hcr hca hcz htk b0 hnew hW0 ho' hg' hat ho hB hc'1 hc'2 ho2 hlen hj1 hj hMq;have hqj : i < L0 := by omega
   have hqc : i < 100000 := by omega
   have hcapi : (L0 : Int) <= (E.cap : Int) := by omega
   go_wp2_with fail;go_region_held3 (fun w' => w'.cell? (jd x 0) = some (.slice (some (jd b off)) L0 E.cap) /\ w'.cell? (jd b (off + i * 3)) = some (ji cr) /\ w'.cell? (jd b (off + i * 3 + 1)) = some (ji ca) /\ w'.cell? (jd b (off + i * 3 + 2)) = some (ji cz))
    (first | assumption | go_keep)
    (first
     | (refine step_append_eq rfl _ _ 24 24 rfl _ _ (by simp [Act.eval]) (by simp [Act.eval]) hrun ?_))
   go_wp2_with fail;go_roundw
   case rel => exact ⟨i + 1,by go_num,by omega,by omega,H2.out⟩
   case measure => simp [intOf];omega
 obtain rfl : i = M := by omega
 obtain rfl : j = n := by omega
 have hlt' : decide ((i : Int) < (i : Int)) = false := zn (by omega)
 obtain ⟨ao,ca',eov,hc1,_⟩ := own_form ho
 simp only at eov hc1
 have H3 : Hid (Tokd S x E (toldR F r,sc,r) dn w (jr u5) wr) := ⟨ao,(F.take j).map chTk,ca',by rw [eov],by rw [chTk_pt];exact HF.out.1.symm,hc1,TokR.of ho eov hB (chTk_plain _),hk⟩
 clear hk ho hB eov hc1 hj hMq
 go_wp2_with fail
 go_ret
 exact H3.out
end Go.Proofs.YtjjfalbngcbfaaaGreatDoor
