import Derived.Test.YtjjfalbngcbfaaaGreatDoorZ0
import Derived.Test.YtjjfalbngcbfaaaGreatDoorZq
import Derived.BigQuiet
import Derived.Deep.RegionHeld3
set_option maxHeartbeats 4000000
set_option maxRecDepth 20000
namespace Go.Proofs.YtjjfalbngcbfaaaGreatDoor
open Go.RowKit
variable {Z S : Nat -> Prop} {x : Nat} {m : Mc} {w w' W0 : World} {lo : Option Addr} {f : Ch} {L : List Ch} {rv pv : Value}
theorem refers_any (h : Mach Z S x m w) : Calls Tryz.prog 34 #[mp x] w fun e w' => e = jr (.bool (decide (m.ref ≠ []))) /\ w' = w := by
 obtain ⟨v,T,h⟩ := h
 have hxw := h.lt
 have c6 := h.cells 6 v.r rfl
 obtain ⟨ao,ca,e6,_,_⟩ := own_form (h.bag.own 1 _ rfl)
 simp only at e6
 obtain ⟨k,hk⟩ := ex (m.ref.length)
 rw [e6,hk] at c6
 have hd : decide (m.ref ≠ []) = decide (((k : Nat) : Int) > 0) := by
  cases hr : m.ref with
  | nil => rw [hr] at hk;subst hk;rfl
  | cons a l => rw [hr] at hk;subst hk;simp
 rw [hd]
 clear h e6 hk hd
 go_enter Tryz.func34,Tryz.ntmps34
 go_wp2_with fail
 go_ret
 exact ⟨rfl,rfl⟩
theorem Walk.kind8 {B : Nat} {c : Ch} {W : World} (h : Walk Z S x m B c w W) : W.cell? (jd x 8) = some (ji m.kind) := by
 obtain ⟨v,h1,_⟩ := h.mach
 exact h1 8 _ rfl
theorem put_1 (h : Mach Z S x m w) (r p q : Int) (b : Bool) (hk : (m.kind == 0) = false) (hn : m.tot <= 500000000) : Calls Tryz.prog 61 #[mp x,cv ⟨r,p,q⟩,.bool b] w (Did Z S x (m.put ⟨r,p,q⟩ b) w) := by
 have HE : Hid (m.put ⟨r,p,q⟩ b = m.addValue r) := by
  unfold Hid;simp at hk;simp [Mc.put,hk]
 obtain ⟨W0,hW0,k0⟩ := Walk.start h ⟨r,p,q⟩
 have hxw := h.low
 obtain ⟨hb0,d0,d1,d2⟩ := k0.box
 have hx0 := k0.lt
 have hne : w.heap.size ≠ x := by omega
 have s8 := k0.kind8
 obtain ⟨kd,hkd⟩ := ex (m.kind)
 rw [hkd] at s8 hk
 have K0 := hid k0
 clear h k0 hkd
 go_enter Tryz.func61,Tryz.ntmps61
 go_wp2_with fail
 go_still_tail 5,(show Tryz.prog.follows .mixedOrders = true by kernel_rfl)
 go_wp2_with fail
 refine (K0.out.drew.call (fun U h => addValue_any h r (by show m.tot <= _;omega))).mono ?_
 rintro e W1 ⟨rfl,k1⟩
 have K1 := hid k1
 clear k1
 go_wp2_with fail
 exact ⟨rfl,_,zq rfl,rfl,wke HE K1⟩
theorem put_2 (h : Mach Z S x m w) (r p q : Int) (b : Bool) (hk : m.kind = 0) (hn : m.tot <= 500000000) : Calls Tryz.prog 61 #[mp x,cv ⟨r,p,q⟩,.bool b] w (Did Z S x (m.put ⟨r,p,q⟩ b) w) := by
 have HE := hid (show m.put ⟨r,p,q⟩ b = m.tell (ptOf (⟨1,r,ByteArray.empty,ByteArray.empty,none,0,0,b,p,q⟩,[])) by simp [Mc.put,hk,chT,ptOf])
 obtain ⟨W0,hW0,k0⟩ := Walk.start h ⟨r,p,q⟩
 have hxw := h.low
 obtain ⟨hb0,d0,d1,d2⟩ := k0.box
 have hx0 := k0.lt
 have hne : w.heap.size ≠ x := by omega
 have s8 := k0.kind8
 rw [hk] at s8
 have K0 := hid k0
 clear h k0 hk
 go_enter Tryz.func61,Tryz.ntmps61
 go_wp2_with fail
 refine (K0.out.call (fun U h => tell_any h (⟨1,r,ByteArray.empty,ByteArray.empty,none,0,0,b,p,q⟩,[]) (by show m.tot <= _;omega) (ok_none _ _ _ _ _ _ _))).mono ?_
 rintro e W1 ⟨rfl,k1⟩
 have K1 := hid k1
 clear k1
 go_wp2_with fail
 exact ⟨rfl,_,zq rfl,rfl,wke HE K1⟩
theorem put_any (h : Mach Z S x m w) (c : Ch) (b : Bool) (hn : m.tot <= 500000000) : Calls Tryz.prog 61 #[mp x,cv c,.bool b] w (Did Z S x (m.put c b) w) := by
 by_cases hk : m.kind = 0
 · exact put_2 h c.r c.a c.z b hk hn
 exact put_1 h c.r c.a c.z b (by simp [hk]) hn
theorem lastR_at (l : List Ch) (f : Ch) (n : Nat) (h : (f :: l).length = n + 1) : ∃ c,(f :: l)[n]? = some c /\ c.r = Mc.lastR (f :: l) := by
 have hl : (f :: l)[n]? = (f :: l).getLast? := by
  rw [List.getLast?_eq_getElem?,h];rfl
 cases hc : (f :: l).getLast? with
 | none => rw [List.getLast?_eq_none_iff] at hc;cases hc
 | some c => exact ⟨c,by rw [hl,hc],by unfold Mc.lastR;rw [hc]⟩
theorem sureNumber_1 (n cap : Nat) (ha : ChRow lo (f :: L) w) (hn : (f :: L).length = n + 1) (hn2 : n <= 2000000000000) (h120 : (f.r == 120) = true) :
 Calls Tryz.prog 131 #[.slice lo (n + 1) cap] w fun e w' => e = jr (.bool (Mc.sureNum (f :: L))) /\ Below w.heap.size w w' := by
 obtain ⟨b,off,rfl,hb,c0,_,_⟩ := ha 0 f rfl
 obtain ⟨c,hc,hr⟩ := lastR_at L f n hn
 obtain ⟨b',off',he,hb',c1,_,_⟩ := ha n c hc
 cases he
 have hlen : 1 < (f :: L).length ↔ 0 < n := by omega
 obtain ⟨r,hr2⟩ := ex (c.r)
 obtain ⟨fr,hfr⟩ := ex (f.r)
 rw [hr2] at c1 hr
 rw [hfr] at c0 h120
 simp only [Nat.zero_mul,Nat.add_zero] at c0
 have HE : Hid (Mc.sureNum (f :: L) = (if 48 <= r /\ r <= 57 then false else if ¬ (fr = 120 \/ fr = 88) then true else decide (0 < n) && !decide ((97 <= r /\ r <= 102) \/ (65 <= r /\ r <= 70)))) := by
  show Mc.sureNum (f :: L) = _;unfold Mc.sureNum;simp only [<- hr,hfr,hlen]
 rw [HE.out]
 obtain ⟨v,hv⟩ : ∃ v,v = (if 48 <= r /\ r <= 57 then false else if ¬ (fr = 120 \/ fr = 88) then true else decide (0 < n) && !decide ((97 <= r /\ r <= 102) \/ (65 <= r /\ r <= 70))) := ⟨_,rfl⟩
 rw [<- hv]
 have HV := hid hv
 clear HE ha hn hc hr hr2 hfr hlen hv
 go_enter Tryz.func131,Tryz.ntmps131
 go_wp2_with fail
 go_quiet (fail)
 go_wp2_with fail
 all_goals
  go_ret;refine ⟨congrArg (fun z => Ending.returned (.bool z)) ?_,G9.below_drewN (Below.refl _ _) _⟩;have hv := HV.out;rw [hv];simp only [beq_iff_eq] at h120;subst h120;rw [Bool.eq_iff_iff];simp
  try omega
theorem sureNumber_2 (n cap : Nat) (ha : ChRow lo (f :: L) w) (hn : (f :: L).length = n + 1) (hn2 : n <= 2000000000000) (h120 : (f.r == 120) = false) (h88 : (f.r == 88) = true) :
 Calls Tryz.prog 131 #[.slice lo (n + 1) cap] w fun e w' => e = jr (.bool (Mc.sureNum (f :: L))) /\ Below w.heap.size w w' := by
 obtain ⟨b,off,rfl,hb,c0,_,_⟩ := ha 0 f rfl
 obtain ⟨c,hc,hr⟩ := lastR_at L f n hn
 obtain ⟨b',off',he,hb',c1,_,_⟩ := ha n c hc
 cases he
 have hlen : 1 < (f :: L).length ↔ 0 < n := by omega
 obtain ⟨r,hr2⟩ := ex (c.r)
 obtain ⟨fr,hfr⟩ := ex (f.r)
 rw [hr2] at c1 hr
 rw [hfr] at c0 h120 h88
 simp only [Nat.zero_mul,Nat.add_zero] at c0
 have HE : Hid (Mc.sureNum (f :: L) = (if 48 <= r /\ r <= 57 then false else if ¬ (fr = 120 \/ fr = 88) then true else decide (0 < n) && !decide ((97 <= r /\ r <= 102) \/ (65 <= r /\ r <= 70)))) := by
  show Mc.sureNum (f :: L) = _;unfold Mc.sureNum;simp only [<- hr,hfr,hlen]
 rw [HE.out]
 obtain ⟨v,hv⟩ : ∃ v,v = (if 48 <= r /\ r <= 57 then false else if ¬ (fr = 120 \/ fr = 88) then true else decide (0 < n) && !decide ((97 <= r /\ r <= 102) \/ (65 <= r /\ r <= 70))) := ⟨_,rfl⟩
 rw [<- hv]
 have HV := hid hv
 clear HE ha hn hc hr hr2 hfr hlen hv
 go_enter Tryz.func131,Tryz.ntmps131
 go_wp2_with fail
 go_quiet (fail)
 go_wp2_with fail
 all_goals
  go_ret;refine ⟨congrArg (fun z => Ending.returned (.bool z)) ?_,G9.below_drewN (Below.refl _ _) _⟩;have hv := HV.out;rw [hv];simp only [beq_iff_eq] at h88;subst h88;rw [Bool.eq_iff_iff];simp
  try omega
theorem sureNumber_3 (n cap : Nat) (ha : ChRow lo (f :: L) w) (hn : (f :: L).length = n + 1) (hn2 : n <= 2000000000000) (h120 : (f.r == 120) = false) (h88 : (f.r == 88) = false) :
 Calls Tryz.prog 131 #[.slice lo (n + 1) cap] w fun e w' => e = jr (.bool (Mc.sureNum (f :: L))) /\ Below w.heap.size w w' := by
 obtain ⟨b,off,rfl,hb,c0,_,_⟩ := ha 0 f rfl
 obtain ⟨c,hc,hr⟩ := lastR_at L f n hn
 obtain ⟨b',off',he,hb',c1,_,_⟩ := ha n c hc
 cases he
 have hlen : 1 < (f :: L).length ↔ 0 < n := by omega
 obtain ⟨r,hr2⟩ := ex (c.r)
 obtain ⟨fr,hfr⟩ := ex (f.r)
 rw [hr2] at c1 hr
 rw [hfr] at c0 h120 h88
 simp only [Nat.zero_mul,Nat.add_zero] at c0
 have HE : Hid (Mc.sureNum (f :: L) = (if 48 <= r /\ r <= 57 then false else if ¬ (fr = 120 \/ fr = 88) then true else decide (0 < n) && !decide ((97 <= r /\ r <= 102) \/ (65 <= r /\ r <= 70)))) := by
  show Mc.sureNum (f :: L) = _;unfold Mc.sureNum;simp only [<- hr,hfr,hlen]
 rw [HE.out]
 obtain ⟨v,hv⟩ : ∃ v,v = (if 48 <= r /\ r <= 57 then false else if ¬ (fr = 120 \/ fr = 88) then true else decide (0 < n) && !decide ((97 <= r /\ r <= 102) \/ (65 <= r /\ r <= 70))) := ⟨_,rfl⟩
 rw [<- hv]
 have HV := hid hv
 clear HE ha hn hc hr hr2 hfr hlen hv
 go_enter Tryz.func131,Tryz.ntmps131
 go_wp2_with fail
 go_quiet (fail)
 go_wp2_with fail
 all_goals
  go_ret;refine ⟨congrArg (fun z => Ending.returned (.bool z)) ?_,G9.below_drewN (Below.refl _ _) _⟩;have hv := HV.out;rw [hv];have h3 : fr ≠ 120 := by simpa using h120
  have h4 : fr ≠ 88 := by simpa using h88
  rw [Bool.eq_iff_iff];simp [h3,h4]
  try omega
theorem sureNumber_0 (lo : Option Addr) (cap : Nat) : Calls Tryz.prog 131 #[.slice lo 0 cap] w fun e w' => e = jr (.bool false) /\ Below w.heap.size w w' := by
 go_enter Tryz.func131,Tryz.ntmps131
 go_wp2_with fail
 go_ret
 exact ⟨rfl,Below.refl _ _⟩
theorem sureNumber_any (n cap : Nat) (ha : ChRow lo L w) (hn : L.length = n) (hn2 : n <= 2000000000000) :
 Calls Tryz.prog 131 #[.slice lo n cap] w fun e w' => e = jr (.bool (Mc.sureNum L)) /\ Below w.heap.size w w' := by
 cases L with
 | nil => subst hn;exact sureNumber_0 lo cap
 | cons f L =>
  cases n with
  | zero => simp at hn
  | succ n =>
   cases h1 : (f.r == 120) with
   | true => exact sureNumber_1 n cap ha hn (by omega) h1
   | false =>
    cases h2 : (f.r == 88) with
    | true => exact sureNumber_2 n cap ha hn (by omega) h1 h2
    | false => exact sureNumber_3 n cap ha hn (by omega) h1 h2
def Says (Z : Nat -> Prop) (S : Nat -> Prop) (x : Nat) (m : Mc) (w : World) (b : Bool) (e : Ending) (w' : World) : Prop := e = jr (.bool b) /\ Post Z S x m w w'
theorem says_low (h : Mach Z S x m w) (b : Below w.heap.size w w') (v : Bool) : Says Z S x m w v (jr (.bool v)) w' := ⟨rfl,Post.of (h.below b) (Keep.old b)⟩
theorem sure_1 (h : Mach Z S x m w) (a d : Ch) (t : List Ch) (hl : m.ref = a :: d :: t) (hn : m.tot <= 500000000) (h35 : (d.r == 35) = true) : Calls Tryz.prog 94 #[mp x] w (Says Z S x m w (Mc.sureNum t)) := by
 have HM := hid h
 obtain ⟨v,T,h⟩ := h
 have hxw := h.lt
 have c6 := h.cells 6 v.r rfl
 obtain ⟨ao,ca,e6,hca,hrow,hz,hmx⟩ := rowC (h.bag.own 1 _ rfl)
 have hk : m.ref.length = t.length + 2 := by rw [hl];rfl
 have hkb : t.length <= 500000000 := by unfold Mc.tot at hn;omega
 obtain ⟨k,hk2⟩ := ex (t.length)
 rw [e6,hk,hk2] at c6
 rw [hk,hk2] at hca
 rw [hk2] at hkb
 obtain ⟨b,off,rfl,hb,d0,_,_⟩ := hrow 1 d (by rw [hl];rfl)
 obtain ⟨rfl,_⟩ := hz b off rfl
 have hdr := hrow.drop 2 ca (by omega)
 rw [hl] at hdr
 simp only [List.drop_succ_cons,List.drop_zero] at hdr
 have HS : Hid (∀ c2,Calls Tryz.prog 131 #[.slice (if ca = 2 then some (jd b 0) else (some ((jd b 0) : Addr)).map (·.add (2 * 3))) k c2] w fun e w' => e = jr (.bool (Mc.sureNum t)) /\ Below w.heap.size w w') := fun c2 => sureNumber_any k c2 hdr hk2 (by omega)
 obtain ⟨r,hr⟩ := ex (d.r)
 rw [hr] at d0 h35
 have d0' : w.cell? (jd b 3) = some (ji r) := d0
 clear d0 hz h hrow hdr hl hk hk2 hn e6 hr
 go_enter Tryz.func94,Tryz.ntmps94
 go_wp2_with fail
 all_goals
  have HS2 := HS.out;simp only [h,if_true,if_false,Option.map_some,Addr.add,Nat.reduceMul,Nat.zero_add] at HS2;refine (HS2 _).mono ?_;rintro e w1 ⟨rfl,b1⟩;have B1 : Hid (Says Z S x m w (Mc.sureNum t) (jr (.bool (Mc.sureNum t))) w1) := says_low HM.out b1 _;clear b1 HS2;go_wp2_with fail;go_ret;exact B1.out
theorem sure_2 (h : Mach Z S x m w) (a d : Ch) (t : List Ch) (hl : m.ref = a :: d :: t) (hn : m.tot <= 500000000) (h35 : (d.r == 35) = false) (h59 : (Mc.lastR m.ref == 59) = true) : Calls Tryz.prog 94 #[mp x] w (Says Z S x m w true) := by
 have HM := hid h
 obtain ⟨v,T,h⟩ := h
 have hxw := h.lt
 have c6 := h.cells 6 v.r rfl
 obtain ⟨ao,ca,e6,hca,hrow,hz,hmx⟩ := rowC (h.bag.own 1 _ rfl)
 have hk : m.ref.length = t.length + 2 := by rw [hl];rfl
 have hkb : t.length <= 500000000 := by unfold Mc.tot at hn;omega
 obtain ⟨k,hk2⟩ := ex (t.length)
 rw [e6,hk,hk2] at c6
 rw [hk,hk2] at hca
 rw [hk2] at hkb
 obtain ⟨b,off,rfl,hb,d0,_,_⟩ := hrow 1 d (by rw [hl];rfl)
 obtain ⟨rfl,_⟩ := hz b off rfl
 obtain ⟨c,hc,hcr⟩ := lastR_at (d :: t) a (k + 1) (by simp [hk2])
 rw [<- hl] at hc hcr
 obtain ⟨b',off',he,_,d1,_,_⟩ := hrow (k + 1) c hc
 cases he
 rw [hcr] at d1
 obtain ⟨z,hzr⟩ := ex (Mc.lastR m.ref)
 rw [hzr] at d1 h59
 obtain ⟨r,hr⟩ := ex (d.r)
 rw [hr] at d0 h35
 have d0' : w.cell? (jd b 3) = some (ji r) := d0
 have d1' : w.cell? ⟨b,(k + 1) * 3,none⟩ = some (ji z) := by rw [Nat.zero_add] at d1;exact d1
 clear d0 d1 hz h hrow hl hk hk2 hn e6 hr hzr hcr hc
 go_enter Tryz.func94,Tryz.ntmps94
 go_wp2_with fail
 go_quiet (fail)
 go_wp2_with fail
 go_ret
 exact says_low HM.out (G9.below_drewN (Below.refl _ _) _) _
abbrev Sn (x : Nat) (rv pv : Value) (W0 w' : World) : Prop := w'.cell? (jd x 6) = some rv /\ w'.cell? (jd x 7) = some pv /\ Below W0.heap.size W0 w'
theorem sn_below (h : Sn x rv pv W0 w') : Below W0.heap.size W0 w' := h.2.2
theorem sn_step {w2 : World} (h : Sn x rv pv W0 w') (b : Below w'.heap.size w' w2) (hx : x < W0.heap.size) (c6 : W0.cell? (jd x 6) = some rv) (c7 : W0.cell? (jd x 7) = some pv) : Sn x rv pv W0 w2 := by
 have hb : Below W0.heap.size W0 w2 := h.2.2.trans (b.mono h.2.2.size)
 exact ⟨(hb.cell (p := (jd x 6)) hx).trans c6,(hb.cell (p := (jd x 7)) hx).trans c7,hb⟩
theorem sn_keep (h : Sn x rv pv W0 w') (hx : x < W0.heap.size) (c6 : W0.cell? (jd x 6) = some rv) (c7 : W0.cell? (jd x 7) = some pv) : Sn x rv pv W0 w'.drew := sn_step h ((Below.refl _ _).drew) hx c6 c7
theorem sure_3 {v : Vs} {T : List TL} (h : MachV Z S x m v T w) (a d : Ch) (t : List Ch) (hl : m.ref = a :: d :: t) (hn : m.tot <= 500000000) (h35 : (d.r == 35) = false) (h59 : (Mc.lastR m.ref == 59) = false) (g : Nat) (hg : v.p = .pointer (some (jd g 0))) (hgt : Stays S w fun w => G6.TrieIs w 0 g G6.refs) : Calls Tryz.prog 94 #[mp x] w (Says Z S x m w (!G6.goes G6.refs (encs (d :: t)))) := by
 have HM : Hid (Mach Z S x m w) := ⟨v,T,h⟩
 have hxw := h.lt
 have c6 := h.cells 6 v.r rfl
 have c7 := h.cells 7 v.p rfl
 rw [hg] at c7
 obtain ⟨ao,ca,e6,hca,hrow,hz,hmx⟩ := rowC (h.bag.own 1 _ rfl)
 have hk : m.ref.length = t.length + 2 := by rw [hl];rfl
 have hkb : t.length <= 500000000 := by unfold Mc.tot at hn;omega
 obtain ⟨k,hk2⟩ := ex (t.length)
 rw [e6,hk,hk2] at c6
 rw [hk,hk2] at hca
 rw [hk2] at hkb
 obtain ⟨b,off,rfl,hb,d0,_,_⟩ := hrow 1 d (by rw [hl];rfl)
 obtain ⟨rfl,_⟩ := hz b off rfl
 obtain ⟨c,hc,hcr⟩ := lastR_at (d :: t) a (k + 1) (by simp [hk2])
 rw [<- hl] at hc hcr
 obtain ⟨b',off',he,_,d1,_,_⟩ := hrow (k + 1) c hc
 cases he
 rw [hcr] at d1
 obtain ⟨z,hzr⟩ := ex (Mc.lastR m.ref)
 rw [hzr] at d1 h59
 obtain ⟨r,hr⟩ := ex (d.r)
 rw [hr] at d0 h35
 have d0' : w.cell? (jd b 3) = some (ji r) := d0
 have d1' : w.cell? ⟨b,(k + 1) * 3,none⟩ = some (ji z) := by rw [Nat.zero_add] at d1;exact d1
 have hc1 : ¬ ca = 1 := by omega
 have hdr := hrow.drop 1 ca (by omega)
 rw [hl,jq hc1] at hdr
 have hdr2 : ChRow (some (jd b 3)) (d :: t) w := hdr
 have HT : Hid (∀ w' c2,Below w.heap.size w w' -> Calls Tryz.prog 59 #[.slice (some (jd b 3)) (k + 1) c2] w' fun e w'' => e = jr (.string (bs (encs (d :: t)))) /\ Below w'.heap.size w' w'') := fun w' c2 bw => textOf_any (k + 1) c2 (hdr2.below bw) (by simp [hk2]) (by omega)
 have HG : Hid (∀ w',Below w.heap.size w w' -> Calls Tryz.prog 132 #[.pointer (some (jd g 0)),.string (bs (encs (d :: t)))] w' fun e w'' => e = jr (.bool (G6.goes G6.refs (encs (d :: t)))) /\ Below w'.heap.size w' w'') := fun w' bw => by
  have hs : (bs (encs (d :: t))).size <= 9223372036854775807 := by
   rw [bs_size];have := encs_len (d :: t);simp only [zi,hk2] at this;omega
  have := G6.goes_any (hgt w' (Keep.old bw)) (bs (encs (d :: t))) hs
  rwa [bs_list] at this
 clear d0 d1 hz h hrow hl hk hk2 hn e6 hr hzr hcr hc hdr hdr2 hg hgt
 go_enter Tryz.func94,Tryz.ntmps94
 go_wp2_with fail
 go_quiet (fail)
 go_wp2_with fail
 obtain ⟨n,hn⟩ := ex (k + 2)
 have e1 : k + 1 = n - 1 := by omega
 have i1 : (1 : Int) <= (n : Int) := by omega
 have i2 : (n : Int) <= (ca : Int) := by omega
 rw [hn] at c6
 rw [e1] at HT
 clear hn e1 hca hkb
 have hin : Sn x (.slice (some (jd b 0)) n ca) (.pointer (some (jd g 0))) w (w.drewN nq) := ⟨by simpa using c6,by simpa using c7,G9.below_drewN (Below.refl _ _) _⟩
 go_region_held3 (fun w' => w'.cell? (jd x 6) = some (.slice (some (jd b 0)) n ca) /\ w'.cell? (jd x 7) = some (.pointer (some (jd g 0))) /\ Below w.heap.size w w')
  (first | assumption | exact sn_keep (by assumption) hxw c6 c7 | go_keep)
  (first
   | (go_at_call 59;refine (HT.out _ _ (sn_below (by assumption))).mono ?_;rintro e w' ⟨rfl,hbw⟩;have hkk := sn_step (by assumption) hbw hxw c6 c7)
   | (go_at_call 132;refine (HG.out _ (sn_below (by assumption))).mono ?_;rintro e w' ⟨rfl,hbw⟩;have hkk := sn_step (by assumption) hbw hxw c6 c7))
 all_goals
  go_wp2_with fail;go_ret;exact says_low HM.out (sn_below (by assumption)) _
end Go.Proofs.YtjjfalbngcbfaaaGreatDoor
