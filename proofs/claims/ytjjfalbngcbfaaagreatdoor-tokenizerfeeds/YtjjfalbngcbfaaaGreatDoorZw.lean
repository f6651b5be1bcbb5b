import Derived.Test.YtjjfalbngcbfaaaGreatDoorZ0
import Derived.Test.YtjjfalbngcbfaaaGreatDoorZv
set_option maxHeartbeats 4000000
set_option maxRecDepth 20000
namespace Go.Proofs.YtjjfalbngcbfaaaGreatDoor
open Go.RowKit
variable {Z S : Nat -> Prop} {x : Nat} {m : Mc} {w : World}
theorem sure_4 {v : Vs} {T : List TL} (h : MachV Z S x m v T w) (a d : Ch) (t : List Ch) (hl : m.ref = a :: d :: t) (hn : m.tot <= 500000000) (h35 : (d.r == 35) = false) (h59 : (Mc.lastR m.ref == 59) = false) (hg : v.p = .pointer none) : Calls Tryz.prog 94 #[mp x] w (Says Z S x m w (!G6.goes G6.refs (encs (d :: t)))) := by
 have HM := hid h
 have hxw := h.lt
 have c6 := h.cells 6 v.r rfl
 have c7 := h.cells 7 v.p rfl
 have f7 := h.free 7
 rw [hg] at c7
 obtain ⟨ao,ca,e6,hca,hrow,hz,hmx⟩ := rowC (h.bag.own 1 _ rfl)
 have hk : m.ref.length = t.length + 2 := by rw [hl];rfl
 have hkb : t.length <= 500000000 := by unfold Mc.tot at hn;omega
 obtain ⟨k,hk2⟩ := ex (t.length)
 rw [e6,hk,hk2] at c6
 rw [hk,hk2] at hca
 rw [hk2] at hkb
 obtain ⟨b,off,rfl,hb,d0,_,_⟩ := hrow 1 d (by rw [hl];rfl)
 obtain ⟨rfl,_⟩ := hz b off rfl
 obtain ⟨c,hc,hcr⟩ := lastR_at (d :: t) a (k + 1) (by simp [hk2])
 rw [<- hl] at hc hcr
 obtain ⟨b',off',he,_,d1,_,_⟩ := hrow (k + 1) c hc
 cases he
 rw [hcr] at d1
 obtain ⟨z,hzr⟩ := ex (Mc.lastR m.ref)
 rw [hzr] at d1 h59
 obtain ⟨r,hr⟩ := ex (d.r)
 rw [hr] at d0 h35
 have d0' : w.cell? (jd b 3) = some (ji r) := d0
 have d1' : w.cell? ⟨b,(k + 1) * 3,none⟩ = some (ji z) := by rw [Nat.zero_add] at d1;exact d1
 have hc1 : ¬ ca = 1 := by omega
 have hdr := hrow.drop 1 ca (by omega)
 rw [hl,jq hc1] at hdr
 have hdr2 : ChRow (some (jd b 3)) (d :: t) w := hdr
 have HC : Hid (t.length = k /\ m.ref = a :: d :: t /\ v.r = .slice (some (jd b 0)) (k + 2) ca) := ⟨hk2,hl,by rw [e6,hk,hk2]⟩
 clear d0 d1 hz h hrow hl hk hk2 hn e6 hr hzr hcr hc hdr hdr2 hg
 go_enter Tryz.func94,Tryz.ntmps94
 go_wp2_with fail
 go_quiet (fail)
 have hbq : Below w.heap.size w (w.drewN nq) := G9.below_drewN (Below.refl _ _) _
 have c6q : (w.drewN nq).cell? (jd x 6) = some (.slice (some (jd b 0)) (k + 2) ca) := by simpa using c6
 have c7q : (w.drewN nq).cell? (jd x 7) = some (.pointer none) := by simpa using c7
 generalize hQ : w.drewN nq = Q at *
 go_wp2_with fail
 refine (refs_any _).mono ?_
 rintro e w1 ⟨rfl,hr1,b1,_⟩
 have b01 : Below w.heap.size w w1 := hbq.trans (b1.mono hbq.size)
 have HR := hid hr1
 clear hr1 b1
 go_wp2_with fail
 refine (G6.new_any 78 78 HR.out G6.refs_len (by decide)).mono ?_
 rintro e w2 ⟨g,rfl,ht,b2⟩
 have b02 : Below w.heap.size w w2 := b01.trans (b2.mono b01.size)
 have hx2 : x < w2.heap.size := zo hxw b02.size
 have c6b : w2.cell? (jd x 6) = some (.slice (some (jd b 0)) (k + 2) ca) := (b02.cell (p := (jd x 6)) hxw).trans c6
 have c7b : w2.cell? (jd x 7) = some (.pointer none) := (b02.cell (p := (jd x 7)) hxw).trans c7
 have f7b : w2.frozen? (jd x 7) = false := (World.frozen?_of_block (a := (jd x 7)) (b02.block x hxw)).trans f7
 have hm := (HM.out.below b01).made b2 ht
 have HP : Hid (MachV Z (Since S w1 w2) x m { v with p := .pointer (some (jd g 0)) } T (w2.setCell (jd x 7) (.pointer (some (jd g 0)))) /\ Keep S w (w2.setCell (jd x 7) (.pointer (some (jd g 0))))) := ⟨hm.1,(Keep.old b01).trans hm.2⟩
 have c6c := hm.1.cells 6 v.r rfl
 have c7c := hm.1.cells 7 (.pointer (some (jd g 0))) rfl
 have hx3 := hm.1.lt
 rw [HC.out.2.2] at c6c
 clear hm ht b2 b01 hbq hQ c6q c7q HR f7
 go_wp2_with fail
 generalize hW : w2.setCell (jd x 7) (.pointer (some (jd g 0))) = W at *
 have HT : Hid (∀ w' c2,Below W.heap.size W w' -> Calls Tryz.prog 59 #[.slice (some (jd b 3)) (k + 1) c2] w' fun e w'' => e = jr (.string (bs (encs (d :: t)))) /\ Below w'.heap.size w' w'') := fun w' c2 bw => by
  obtain ⟨ao',ca',e6',_,hrow',_,_⟩ := rowC (HP.out.1.bag.own 1 _ rfl);have e7 : Value.slice ao' m.ref.length ca' = .slice (some (jd b 0)) (k + 2) ca := e6'.symm.trans HC.out.2.2;injection e7 with q1 q2 q3
  subst q1;have hdr := hrow'.drop 1 ca (by omega);rw [HC.out.2.1,jq hc1] at hdr;have hdr2 : ChRow (some (jd b 3)) (d :: t) W := hdr;exact textOf_any (k + 1) c2 (hdr2.below bw) (by simp [HC.out.1]) (by omega)
 have HG : Hid (∀ w',Below W.heap.size W w' -> Calls Tryz.prog 132 #[.pointer (some (jd g 0)),.string (bs (encs (d :: t)))] w' fun e w'' => e = jr (.bool (G6.goes G6.refs (encs (d :: t)))) /\ Below w'.heap.size w' w'') := fun w' bw => by
  have hs : (bs (encs (d :: t))).size <= 9223372036854775807 := by
   rw [bs_size];have := encs_len (d :: t);simp only [zi,HC.out.1] at this;omega
  rcases HP.out.1.trie with h0 | ⟨g',h0,h1⟩
  · cases h0
  cases h0
  have := G6.goes_any (h1 w' (Keep.old bw)) (bs (encs (d :: t))) hs
  rwa [bs_list] at this
 obtain ⟨n,hn⟩ := ex (k + 2)
 have e1 : k + 1 = n - 1 := by omega
 have i1 : (1 : Int) <= (n : Int) := by omega
 have i2 : (n : Int) <= (ca : Int) := by omega
 rw [hn] at c6c
 rw [e1] at HT
 clear hn e1 hca hkb hW c6 c7 c6b c7b f7b d0' d1' b02 hx2
 have hin : Sn x (.slice (some (jd b 0)) n ca) (.pointer (some (jd g 0))) W W := ⟨c6c,c7c,Below.refl _ _⟩
 go_region_held3 (fun w' => w'.cell? (jd x 6) = some (.slice (some (jd b 0)) n ca) /\ w'.cell? (jd x 7) = some (.pointer (some (jd g 0))) /\ Below W.heap.size W w')
  (first | assumption | exact sn_keep (by assumption) hx3 c6c c7c | go_keep)
  (first
   | (go_at_call 59;refine (HT.out _ _ (sn_below (by assumption))).mono ?_;rintro e w' ⟨rfl,hbw⟩;have hkk := sn_step (by assumption) hbw hx3 c6c c7c)
   | (go_at_call 132;refine (HG.out _ (sn_below (by assumption))).mono ?_;rintro e w' ⟨rfl,hbw⟩;have hkk := sn_step (by assumption) hbw hx3 c6c c7c))
 all_goals
  go_wp2_with fail;go_ret;refine ⟨rfl,?_⟩;exact Post.go (fun _ h => h) HP.out.2 ⟨_,fun _ => .inl,⟨_,_,HP.out.1.below (sn_below (by assumption))⟩,Keep.old (sn_below (by assumption))⟩
theorem sure_any (h : Mach Z S x m w) (h2 : 2 <= m.ref.length) (hn : m.tot <= 500000000) : Calls Tryz.prog 94 #[mp x] w (Says Z S x m w (Mc.sure m.ref)) := by
 match hl : m.ref with
 | [] => rw [hl] at h2;simp at h2
 | [_] => rw [hl] at h2;simp at h2
 | a :: d :: t =>
  cases h35 : (d.r == 35) with
  | true =>
   have e : Mc.sure (a :: d :: t) = Mc.sureNum t := by unfold Mc.sure;dsimp only;rw [jp (by simpa using h35)]
   rw [e];exact sure_1 h a d t hl hn h35
  | false =>
   cases h59 : (Mc.lastR m.ref == 59) with
   | true =>
    have e : Mc.sure (a :: d :: t) = true := by unfold Mc.sure;dsimp only;rw [jq (by simpa using h35),jp (by rw [hl] at h59;simpa using h59)]
    rw [e];exact sure_2 h a d t hl hn h35 h59
   | false =>
    have e : Mc.sure (a :: d :: t) = !G6.goes G6.refs (encs (d :: t)) := by unfold Mc.sure;dsimp only;rw [jq (by simpa using h35),jq (by rw [hl] at h59;simpa using h59)]
    rw [e];obtain ⟨v,T,h⟩ := h;rcases h.trie with h0 | ⟨g,h0,h1⟩
    · exact sure_4 h a d t hl hn h35 h59 h0
    exact sure_3 h a d t hl hn h35 h59 g h0 h1
end Go.Proofs.YtjjfalbngcbfaaaGreatDoor
