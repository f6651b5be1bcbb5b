/- All faults of a reader, by their bytes: byPlace. -/
import Derived.Test.YtdiealijjhfhjaaGreatDoorYo
import Derived.Test.YtdiealijjhfhjaaGreatDoorYm
import Derived.Test.YtdiealijjhfhjaaGreatDoorYi
namespace Go.Proofs.YtdiealijjhfhjaaGreatDoor
open Go.RowKit
theorem app_f {W : World} {B C : Nat} {fv : Value} {fs F : List (Int × Int)} {fa : Option Addr} {fc : Nat} (h : W.ownsRow B 57 2 fv fs.length (fs.flatMap gcells)) (hB : B ≤ W.heap.size) (hF : W.ownsRow C 57 2 (.slice fa F.length fc) F.length (F.flatMap gcells)) (hn : fs.length + F.length ≤ 1000000000000) :
    ∃ fv' W', (Builtin.append_ #[24, 24] 24 #[fv, .slice fa F.length fc]).run Tryz.prog W = .ok fv' W' ∧ W'.ownsRow B 57 2 fv' (fs ++ F).length ((fs ++ F).flatMap gcells) ∧ W.grownBy W' fv.ownBlock ∧ (fv'.ownBlock = fv.ownBlock ∨ fv'.ownBlock = some W.heap.size) := by
  obtain ⟨i0, hi, hz0, hz1, hz2⟩ := info_parts info58
  have hown : OwnQ W false 57 2 fv fs.length (fs.flatMap gcells) := OwnQ.of h
  have key : ∃ fv' W', (Builtin.append_ #[24, 24] 24 #[fv, .slice fa F.length fc]).run Tryz.prog W = .ok fv' W' ∧ OwnQ W' false 57 2 fv' (fs.length + F.length) (fs.flatMap gcells ++ F.flatMap gcells) ∧ W.grownBy W' fv.ownBlock ∧ (fv'.ownBlock = fv.ownBlock ∨ fv'.ownBlock = some W.heap.size) := by
    rcases hF.2 with ⟨e, h0⟩ | ⟨g, cap, cur, e, _, hg, q1, q2, q3, q4⟩
    · obtain ⟨bo, cap, ee, hc, _⟩ := own_form hown
      simp only [Value.slice.injEq] at e
      obtain ⟨rfl, h00, rfl⟩ := e
      have hF0 : F = [] := List.length_eq_zero_iff.1 h0
      subst hF0
      have hs : Src Tryz.prog i0.size 24 (.slice none 0 0) 0 [] W := Src.ofNil W Tryz.underlying24 0
      have hrun := run_append_nothing (P := Tryz.prog) W 24 24 24 57 i0 Tryz.underlying24 hi bo fs.length cap hc _ hs
      rw [← ee] at hrun
      exact ⟨fv, W, hrun, by simpa using hown, ⟨rfl, rfl, rfl, Nat.le_refl _, fun _ _ _ => rfl⟩, .inl rfl⟩
    · simp only [Value.slice.injEq] at e
      obtain ⟨rfl, _, rfl⟩ := e
      have hlen : (F.flatMap gcells).length = F.length * 2 := hF.1
      exact row_app Tryz.underlying24 info58 rfl (by decide) (by decide) hown g 0 F.length fc (F.flatMap gcells) hlen (fun j u' hj => by
        have hjl := (List.getElem?_eq_some_iff.1 hj).1
        rw [← q4, List.getElem?_take_of_lt (by omega), Array.getElem?_toList] at hj
        rw [Nat.zero_add]
        simp [World.cell?, hg, hj]) (fl_one F) (by omega)
  obtain ⟨fv', W', hrun, q1, q2, q3⟩ := key
  refine ⟨fv', W', hrun, ?_, q2, q3⟩
  rw [List.length_append, List.flatMap_append]
  have h0 := q1.row
  refine ⟨h0.1, ?_⟩
  rcases h0.2 with hn' | ⟨g, cap, cur, e, _, hg, rest⟩
  · exact .inl hn'
  · refine .inr ⟨g, cap, cur, e, ?_, hg, rest⟩
    rcases q3 with e' | e'
    · rw [e] at e'
      exact (frow_blk h (g := g) (by rw [← e']; simp [Value.ownBlock])).2.1
    · rw [e] at e'
      simp [Value.ownBlock] at e'
      omega
theorem step_call1 {P : Program} {ops : Array Oper} {o : Oper} {a : Act} {w : World} {K : Act → World → Prop} {Q : Exit → Act → World → Prop} {E : Prop} (f : FuncId) (x : Operand) (ts : Array TypeId)
    (hg : o.guard = none) (hop : o.op = Op.call { callee := Callee.value (.func f), args := #[x], argTypes := ts }) (henter : ∀ args w, (callFunc f args).run P w = .ok (.enter f args) w)
    (u : Value) (hx : a.eval x = u) {R : Ending → World → Prop} (hc : Calls P f #[u] w R) (hK : ∀ e w', R e w' → ∃ r, e = .returned r ∧ K (a.put o.dst r) w') :
    if Region.wanted o (yielded ops a.tmps) = true then Oper.wp P o a w K Q else E := by
  have hw : Region.wanted o (yielded ops a.tmps) = true := by simp [Region.wanted, hg]
  rw [if_pos hw]
  unfold Oper.wp
  have he : a.eval (.func f) = .func (.func f) #[] #[] := rfl
  have hrun : (execOp a.eval o).run P w = .ok (.enter f #[u]) w := by
    simp [execOp, hop, resolve, Deferred.ofValue, he, hx, invoke, henter]
  rw [hrun]
  refine Calls.mono (show Calls P f _ w R from hc) ?_
  intro e w' h
  obtain ⟨r, rfl, hk⟩ := hK e w' h
  exact hk
theorem enters54 : ∀ args w, (callFunc 54 args).run Tryz.prog w = .ok (.enter 54 args) w := enters_of Tryz.func54 (by kernel_rfl) rfl
def ByP (B : Nat) (O : Nat → Prop) (F : List (Int × Int)) (W : World) (e : Ending) (W' : World) : Prop := ∃ lv L', e = .returned lv ∧ Stb F L' ∧ W'.ownsRow B 57 2 lv L'.length (L'.flatMap gcells) ∧ Keep (fun k => ¬ O k) W W'
set_option maxHeartbeats 1000000 in
set_option maxRecDepth 20000 in
theorem byPlace_any {B r x xs d : Nat} {m : Mc} {v : Vs} {tn : Bool} {p : Int} {u : List UInt8} {wt : Ch} {fv : Value} {fs : List (Int × Int)} {W : World} (h : Rd B r x xs d m v tn p u wt fv fs W) (hm : m.tot ≤ 1000000000) (hn : fs.length + m.fs.length ≤ 1000000) :
    Calls Tryz.prog 37 #[.pointer (some ⟨r, 0, none⟩)] W (ByP B (Own r x xs d m v fv) (fs ++ m.fs) W) := by
  have hrW := h.lt
  have c3 : W.cell? ⟨r, 3, none⟩ = some fv := by simp [World.cell?, h.blk]
  have c1 : W.cell? ⟨r, 1, none⟩ = some (.pointer (some ⟨x, 0, none⟩)) := by simp [World.cell?, h.blk]
  obtain ⟨fo, fcp, efv, _, _⟩ := G4.own_form h.frow
  subst efv
  have HC : Hid (∀ w', Below W.heap.size W w' → Calls Tryz.prog 54 #[mp x] w' fun e w1 => ∃ ao nf c fv' W2, e = .returned (.slice ao nf c) ∧ w1.cell? ⟨r, 3, none⟩ = some (.slice fo fs.length fcp) ∧ w1.cell? ⟨r, 1, none⟩ = some (.pointer (some ⟨x, 0, none⟩)) ∧ r < w1.heap.size ∧ (Builtin.append_ #[24, 24] 24 #[.slice fo fs.length fcp, .slice ao nf c]).run Tryz.prog w1 = .ok fv' W2 ∧ W2.ownsRow B 57 2 fv' (fs ++ m.fs).length ((fs ++ m.fs).flatMap gcells) ∧ Keep (fun k => ¬ Own r x xs d m v (.slice fo fs.length fcp) k) W W2 ∧ (fv'.ownBlock = (Value.slice fo fs.length fcp).ownBlock ∨ ∀ g, fv'.ownBlock = some g → W.heap.size ≤ g)) := fun w' hb => by
    have hR := h.below hb
    refine (faults_any ⟨v, [], hR.mach⟩ hm).mono ?_
    rintro e w1 ⟨ao, c, rfl, k1, k2⟩
    have hR1 := hR.below k2
    have hsz : W.heap.size ≤ w1.heap.size := Nat.le_trans hb.size k2.size
    obtain ⟨fv', W2, q1, q2, q3, q4⟩ := app_f hR1.frow (Nat.le_trans h.hB.2.1 (Nat.le_of_lt (Nat.lt_of_lt_of_le h.lt hsz))) k1 (by omega)
    refine ⟨ao, _, c, fv', W2, rfl, by simp [World.cell?, hR1.blk], by simp [World.cell?, hR1.blk], hR1.lt, q1, q2, ?_, ?_⟩
    · have kk : Keep (fun k => ¬ Own r x xs d m v (.slice fo fs.length fcp) k) W w1 := (Keep.old hb).trans (Keep.old k2)
      exact kk.trans ⟨q3.os, q3.tape, q3.output, q3.size, fun k h1 h2 => q3.block k h2 fun e => h1 (.inr (.inr (.inr (.inr e.symm))))⟩
    · rcases q4 with e | e
      · exact .inl e
      · refine .inr fun g hg => ?_
        rw [e] at hg
        cases hg
        exact hsz
  have HO : Hid (∀ g, (Value.slice fo fs.length fcp).ownBlock = some g → Own r x xs d m v (.slice fo fs.length fcp) g) := fun g hg => .inr (.inr (.inr (.inr hg)))
  have HN : Hid ((fs ++ m.fs).length ≤ 1000000) := by show _ ≤ _; rw [List.length_append]; exact hn
  clear h hm hn
  go_enter Tryz.func37, Tryz.ntmps37
  go_upto_region 1 with fail
  go_cut [3] (fun lv wc => wc.ownsRow B 57 2 lv (fs ++ m.fs).length ((fs ++ m.fs).flatMap gcells) ∧ Keep (fun k => ¬ Own r x xs d m v (.slice fo fs.length fcp) k) W wc ∧ (lv.ownBlock = (Value.slice fo fs.length fcp).ownBlock ∨ ∀ g, lv.ownBlock = some g → W.heap.size ≤ g))
  case first =>
    go_region_law (first
      | (refine step_append_eq rfl _ _ 24 24 rfl _ _ (by simp [Act.eval]) (by simp [Act.eval]) hrun ?_)
      | (refine step_call1 54 _ _ rfl rfl enters54 _ (by simp [Act.eval]) (HC.out _ ((Below.refl _ _).drew)) ?_; rintro e w1 ⟨ao, nf, c, fv', W2, rfl, d3, d1, hr1, hrun, hres⟩; have HRES : Hid _ := hres; clear hres; refine ⟨_, rfl, ?_⟩))
    all_goals
      go_wp2_with fail
      go_meet
      exact HRES.out
  case rest =>
    obtain ⟨r1, r2, r3⟩ := hcut
    obtain ⟨lo, lc, elv, _, _⟩ := G4.own_form r1
    have HS := sort_row r1 HN.out
    subst elv
    have HR : Hid (Keep (fun k => ¬ Own r x xs d m v (.slice fo fs.length fcp) k) W wc ∧ ((Value.slice lo (fs ++ m.fs).length lc).ownBlock = (Value.slice fo fs.length fcp).ownBlock ∨ ∀ g, (Value.slice lo (fs ++ m.fs).length lc).ownBlock = some g → W.heap.size ≤ g)) := ⟨r2, r3⟩
    clear r1 r2 r3 HC
    obtain ⟨ln, hln⟩ : ∃ ln, (fs ++ m.fs).length = ln := ⟨_, rfl⟩
    have HLN : Hid ((fs ++ m.fs).length = ln) := hln
    rw [hln] at HS HR
    rw [hln]
    clear hln
    go_wp2_with fail
    refine HS.mono ?_
    rintro e W3 ⟨rfl, ⟨L', s1, s2⟩, s3⟩
    have HZ : Hid (ByP B (Own r x xs d m v (.slice fo fs.length fcp)) (fs ++ m.fs) W (.returned (.slice lo ln lc)) W3) := by
      have hl : L'.length = ln := (stb_len s1).trans HLN.out
      refine ⟨_, L', rfl, s1, s2, ⟨s3.os.trans HR.out.1.os, s3.tape.trans HR.out.1.tape, s3.output.trans HR.out.1.output, Nat.le_trans HR.out.1.size s3.size, fun k h1 h2 => ?_⟩⟩
      rw [s3.block k (fun e => ?_) (Nat.lt_of_lt_of_le h2 HR.out.1.size), HR.out.1.block k h1 h2]
      rcases HR.out.2 with e' | e'
      · exact h1 (HO.out k (e'.symm.trans e))
      · have := e' k e
        omega
    clear s1 s2 s3
    go_wp2_with fail
    go_ret
    exact HZ.out
end Go.Proofs.YtdiealijjhfhjaaGreatDoor
namespace Go.Proofs.YtdiealijjhfhjaaGreatDoor
open Go.RowKit
theorem items_le (s : List UInt8) : (G4.items s).length ≤ s.length := by
  have key : ∀ (k : Nat) (s : List UInt8), (G4.itemsF k s).length ≤ k := by
    intro k
    induction k with
    | zero => intro s; exact Nat.le_refl _
    | succ k ih =>
      intro s
      cases s with
      | nil => simp [G4.itemsF]
      | cons a t => simp only [G4.itemsF, List.length_cons]; have := ih ((a :: t).drop (G4.one (a :: t)).2.1); omega
  exact key s.length s
theorem rfs_le : ∀ (l : List Ch), (G4.rfs l).length ≤ l.length
  | [] => Nat.le_refl _
  | [c] => Nat.le_refl _
  | c :: d :: l => by
    unfold G4.rfs
    split
    · have := rfs_le l
      simp only [List.length_cons]
      omega
    · have := rfs_le (d :: l)
      simp only [List.length_cons] at this ⊢
      omega
theorem outc_le (s : List UInt8) : (G4.outc s).length ≤ s.length := by
  have h1 := rfs_le (G4.chs 0 (G4.items s))
  rw [G4.chs_length] at h1
  have h2 := items_le s
  unfold G4.outc
  omega
abbrev chars (s : ByteArray) : List Ch := G4.outc s.data.toList
structure Toks (B : Nat) (ov : Value) (T : List TL) (w : World) : Prop where
  own : Rw.own w (rwT ov T)
  high : ∀ g, ov.ownBlock = some g → B ≤ g
  toks : ∀ t ∈ T, TkS NoZ w t.1 t.2
theorem TkS.below {Z : Nat → Prop} {w w' : World} {T : Tk} {L : List At} (h : TkS Z w T L) (b : Below w.heap.size w w') : TkS Z w' T L := by
  refine ⟨h.1.below b, fun hL => ?_⟩
  obtain ⟨d, cur, z, e1, e2, e3⟩ := h.2 hL
  exact ⟨d, cur, z, e1, (b.block d (Array.getElem?_eq_some_iff.1 e2).1).trans e2, e3⟩
theorem Toks.below {B : Nat} {ov : Value} {T : List TL} {w w' : World} (h : Toks B ov T w) (b : Below w.heap.size w w') : Toks B ov T w' :=
  ⟨own_mv h.own fun g hg => b.block g (own_blk h.own hg).1, h.high, fun t ht => (h.toks t ht).below b⟩
theorem Toks.at {B : Nat} {oo : Option Addr} {n oc : Nat} {T : List TL} {w : World} (h : Toks B (.slice oo n oc) T w) (hn : T.length = n) {i : Nat} {t : TL} (ht : T[i]? = some t) : ∃ g, oo = some ⟨g, 0, none⟩ ∧ g < w.heap.size ∧ G9.TkCells w g (i * 8) t.1 ∧ TkS NoZ w t.1 t.2 := by
  subst hn
  rcases h.own.2 with ⟨e, h0⟩ | ⟨g, cap, cur, z, e, hg, _, _, _, _, h4⟩
  · have : T = [] := List.eq_nil_of_length_eq_zero h0
    rw [this] at ht
    simp at ht
  · simp only [Value.slice.injEq] at e
    obtain ⟨rfl, _, _⟩ := e
    have hr := own_row hg h4 h.toks
    obtain ⟨b, off, e2, hb, hc, _⟩ := hr.1.at ht
    cases e2
    rw [Nat.zero_add] at hc
    exact ⟨g, rfl, hb, hc, h.toks t (List.mem_of_getElem? ht)⟩
theorem FaultsC.below {B : Nat} {v : Value} {F : List (Int × Int)} {w w' : World} (h : G4.FaultsC B v F w) (b : Below w.heap.size w w') : G4.FaultsC B v F w' :=
  G4.own_keep h fun g _ _ _ hg => (b.block g (Array.getElem?_eq_some_iff.1 hg).1).trans hg
def itm (a : List UInt8) : List (Int × Nat) := (G4.run [] a).2
def wai (a : List UInt8) : List UInt8 := (G4.run [] a).1
def pla (a : List UInt8) : Int := (G4.tot (itm a) : Nat)
def lin (a : List UInt8) : Ch := (G4.tsL G4.Ch0 (G4.chs 0 (itm a))).1
def tld (a : List UInt8) : List Ch := (G4.tsL G4.Ch0 (G4.chs 0 (itm a))).2
def flt (a : List UInt8) : List (Int × Int) := G4.fcs 0 (itm a)
theorem itm_app (a t : List UInt8) : itm (a ++ t) = itm a ++ (G4.run (wai a) t).2 := by unfold itm wai; rw [G4.run_append]
theorem wai_app (a t : List UInt8) : wai (a ++ t) = (G4.run (wai a) t).1 := by unfold wai; rw [G4.run_append]
theorem pla_app (a t : List UInt8) : pla (a ++ t) = pla a + (G4.tot (G4.run (wai a) t).2 : Nat) := by unfold pla; rw [itm_app, G4.tot_append]; omega
theorem ts_app (a t : List UInt8) : lin (a ++ t) = (G4.tsL (lin a) (G4.chs (pla a) (G4.run (wai a) t).2)).1 ∧ tld (a ++ t) = tld a ++ (G4.tsL (lin a) (G4.chs (pla a) (G4.run (wai a) t).2)).2 := by
  unfold lin tld pla
  rw [itm_app, G4.chs_append, G4.tsL_append, Int.zero_add]
  exact ⟨rfl, rfl⟩
theorem flt_app (a t : List UInt8) : flt (a ++ t) = flt a ++ G4.fcs (pla a) (G4.run (wai a) t).2 := by
  unfold flt pla
  rw [itm_app, G4.fcs_append, Int.zero_add]
theorem wai_pend (a : List UInt8) : G4.pend (wai a) := (G4.run_ok a [] (by simp [G4.pend])).1
theorem itm_all (a : List UInt8) : G4.items a = itm a ++ G4.fin (wai a) := (G4.run_ok a [] (by simp [G4.pend])).2.1
theorem tld_all (a : List UInt8) : tld a ++ ((G4.tsL (lin a) (G4.chs (pla a) (G4.fin (wai a)))).2 ++ G4.rel (G4.tsL (lin a) (G4.chs (pla a) (G4.fin (wai a)))).1) = G4.outc a := by
  have h := (G4.tsL_rfs (G4.chs 0 (G4.items a)) G4.Ch0 (G4.chs_wide _ _ (G4.items_pos a))).2 (by decide)
  rw [itm_all, G4.chs_append, G4.tsL_append, Int.zero_add] at h
  unfold G4.outc
  rw [itm_all, G4.chs_append, Int.zero_add, ← h, List.append_assoc]
  rfl
theorem flt_all (a : List UInt8) : flt a ++ G4.fcs (pla a) (G4.fin (wai a)) = G4.fcs 0 (G4.items a) := by
  unfold flt pla
  rw [itm_all, G4.fcs_append, Int.zero_add]
theorem itm_le (a : List UInt8) : (itm a).length ≤ a.length := by
  have h := items_le a
  rw [itm_all, List.length_append] at h
  omega
theorem tld_le (a : List UInt8) : (tld a).length ≤ 2 * a.length := by
  have h := G4.tsL_len (G4.chs 0 (itm a)) G4.Ch0
  rw [G4.chs_length] at h
  have := itm_le a
  unfold tld
  omega
theorem flt_le (a : List UInt8) : (flt a).length ≤ a.length := by
  have h := G4.fcs_length (itm a) 0
  have := itm_le a
  unfold flt
  omega
theorem pla_le (a : List UInt8) : 0 ≤ pla a ∧ pla a ≤ a.length := by
  have h := (G4.run_ok a [] (by simp [G4.pend])).2.2.2
  unfold pla itm
  simp at h
  omega
theorem feeds_app (b : Bool) (l k : List Ch) (m : Mc) : Mc.feeds b (l ++ k) m = ((Mc.feeds b l m).1 ++ (Mc.feeds b k (Mc.feeds b l m).2).1, (Mc.feeds b k (Mc.feeds b l m).2).2) := by
  have key : ∀ (k : List Ch) (p : List Pt × Mc), k.foldl (fdStep b) p = (p.1 ++ (k.foldl (fdStep b) ([], p.2)).1, (k.foldl (fdStep b) ([], p.2)).2) := by
    intro k
    induction k with
    | nil => intro p; simp
    | cons c k ih =>
      intro p
      rw [List.foldl_cons, ih, List.foldl_cons, ih (fdStep b ([], p.2) c)]
      simp [fdStep, List.append_assoc]
  unfold Mc.feeds
  rw [List.foldl_append, key]
theorem Gat.toks {O : Nat → Prop} {B : Nat} {ov : Value} {T : List TL} {W : World} (h : Gat O B ov T W) : Toks B ov T W := ⟨h.own, fun g hg => (h.blk g hg).2, h.tks⟩
end Go.Proofs.YtdiealijjhfhjaaGreatDoor
namespace Go.Proofs.YtdiealijjhfhjaaGreatDoor
open Go.RowKit
theorem feeds_len (b : Bool) : ∀ (l : List Ch) (n : Nat) (p : List Pt × Mc), Good n p.2 → n + l.length ≤ 20000 → (l.foldl (fdStep b) p).1.length ≤ p.1.length + l.length * 300000
  | [], _, p, _, _ => by simp
  | c :: l, n, p, h, hn => by
    rw [List.length_cons] at hn ⊢
    have h1 := feeds_len b l (n + 1) (fdStep b p c) (auto_good b (p.2.feed c).1 (feed_good h c)) (by omega)
    have h2 := feed_len h c (by omega)
    rw [List.foldl_cons]
    simp only [fdStep, List.length_append] at h1 ⊢
    omega
theorem ended_len {n : Nat} {m : Mc} (h : Good n m) (hn : n ≤ 20000) (at' : Int) : (m.ended at').1.length ≤ 300000 := by
  have key : ∀ r : Mc, Good n r → ((r.endS at').out ++ [(⟨6, 0, ByteArray.empty, ByteArray.empty, [], false, at', at'⟩ : Pt)]).length ≤ 300000 := fun r hr => by
    have h1 := (gr_endS r at').2.1
    have := hr.w.mu
    have : (r.endS at').out.length ≤ (r.endS at').mu := by unfold Mc.mu; omega
    rw [List.length_append, List.length_singleton]
    omega
  unfold Mc.ended
  dsimp only
  split
  · next hr => exact key _ (resolve_good h.w (.inl (h.ref.resolve_left hr)))
  · exact key _ h
theorem one_byte (s : ByteArray) (i : Nat) (h : i < s.size) : s.data.toList.take (i + 1) = s.data.toList.take i ++ (s.extract i (i + 1)).data.toList := by
  have h1 : i < s.data.toList.length := by rw [Array.length_toList]; exact h
  rw [List.take_succ_eq_append_getElem h1]
  congr 1
  rw [ByteArray.data_extract, Array.toList_extract, List.extract_eq_take_drop, List.drop_eq_getElem_cons h1, show i + 1 - i = 1 by omega]
  rfl
theorem feedsA_len (tn : Bool) (a : List UInt8) {n0 : Nat} {m : Mc} (h : Good n0 m) (hn0 : n0 ≤ 6000) (ha : a.length ≤ 6000) : (Mc.feeds tn (tld a) m).1.length ≤ 6000000000 := by
  have h2 := tld_le a
  have h1 := feeds_len tn (tld a) n0 ([], m) h (by omega)
  have h5 : (Mc.feeds tn (tld a) m).1.length ≤ 0 + (tld a).length * 300000 := h1
  omega
def Alls (B : Nat) (O : Nat → Prop) (L : List Pt) (F : List (Int × Int)) (W : World) (e : Ending) (W' : World) : Prop :=
  ∃ ov T lv L', e = .returned (.tuple #[ov, lv]) ∧ T.map ptOf = L ∧ T.length ≤ 100000000000 ∧ Toks W.heap.size ov T W' ∧ Stb F L' ∧ W'.ownsRow B 57 2 lv L'.length (L'.flatMap gcells) ∧ Keep (fun k => ¬ O k) W W'
abbrev RdA (B r x xs d : Nat) (m0 : Mc) (v : Vs) (tn : Bool) (a : List UInt8) (fv : Value) (W : World) : Prop := Rd B r x xs d (Mc.feeds tn (tld a) m0).2 v tn (pla a) (wai a) (lin a) fv (flt a) W
section
variable {B r x xs d : Nat} {m : Mc} {v : Vs} {tn : Bool} {fv : Value} {W : World}
theorem feedA_any (HT : TakeC tn) {a : List UInt8} (h : RdA B r x xs d m v tn a fv W) {n0 : Nat} (hg : Good n0 m) (t : ByteArray) (hn0 : n0 ≤ 6000) (ha : a.length + t.size ≤ 6000) :
    Calls Tryz.prog 25 #[.pointer (some ⟨r, 0, none⟩), .string t] W fun e W' => ∃ v' fv' ov T, e = .returned ov ∧ T.map ptOf = (Mc.feeds tn (G4.tsL (lin a) (G4.chs (pla a) (G4.run (wai a) t.data.toList).2)).2 (Mc.feeds tn (tld a) m).2).1 ∧ RdA B r x xs d m v' tn (a ++ t.data.toList) fv' W' ∧ Fr (Own r x xs d (Mc.feeds tn (tld a) m).2 v fv) (Own r x xs d (Mc.feeds tn (tld (a ++ t.data.toList)) m).2 v' fv') W W' ∧ Gat (Own r x xs d (Mc.feeds tn (tld (a ++ t.data.toList)) m).2 v' fv') W.heap.size ov T W' := by
  have hts : t.data.toList.length = t.size := Array.length_toList
  have e1 := ts_app a t.data.toList
  have e2 := flt_app a t.data.toList
  have l1 := tld_le (a ++ t.data.toList)
  have l2 := flt_le (a ++ t.data.toList)
  have l3 := tld_le a
  rw [List.length_append, hts] at l1 l2
  rw [e1.2, List.length_append] at l1
  rw [e2, List.length_append] at l2
  have hp := pla_le a
  refine (rfeed_any HT h (feeds_good tn hg (tld a)) t (wai_pend a) hp.1 (by omega) (by omega) (by omega) (by omega)).mono ?_
  rintro e W' ⟨v', fv', ov, T, rfl, k1, k2, k3, k4⟩
  have e3 : (Mc.feeds tn (tld (a ++ t.data.toList)) m).2 = (Mc.feeds tn (G4.tsL (lin a) (G4.chs (pla a) (G4.run (wai a) t.data.toList).2)).2 (Mc.feeds tn (tld a) m).2).2 := by rw [e1.2, feeds_app]
  refine ⟨v', fv', ov, T, rfl, k1, ?_, ?_, ?_⟩
  · show Rd _ _ _ _ _ _ _ _ _ _ _ _ _ _
    rw [e3, pla_app, wai_app, e1.1, e2]
    exact k2
  · rw [e3]; exact k3
  · rw [e3]; exact k4
set_option maxHeartbeats 4000000 in
set_option maxRecDepth 20000 in
theorem alls_any (HT : TakeC tn) (h : RdA B r x xs d m v tn [] fv W) {n0 : Nat} (hg : Good n0 m) (hn0 : n0 ≤ 6000) (s : ByteArray) (hs : s.size ≤ 5000) :
    Calls Tryz.prog 22 #[.pointer (some ⟨r, 0, none⟩), .string s] W (Alls B (Own r x xs d m v fv) ((Mc.feeds tn (chars s) m).1 ++ ((Mc.feeds tn (chars s) m).2.ended s.size).1) (G4.fcs 0 (G4.items s.data.toList) ++ ((Mc.feeds tn (chars s) m).2.ended s.size).2.fs) W) := by
  have HR : Hid (RdA B r x xs d m v tn [] fv W ∧ Good n0 m ∧ TakeC tn ∧ 2 ≤ W.heap.size) := ⟨h, hg, HT, by have := h.lt; have := h.hB; omega⟩
  have hrW := h.lt
  clear h hg HT
  go_enter Tryz.func22, Tryz.ntmps22
  go_wp2_with fail
  go_loopw [6, 10] (fun ov iv wr => ∃ (i : Nat) (T : List TL) (v' : Vs) (fv' : Value), iv = .int .i64 i ∧ i ≤ s.size ∧ T.map ptOf = (Mc.feeds tn (tld (s.data.toList.take i)) m).1 ∧ RdA B r x xs d m v' tn (s.data.toList.take i) fv' wr ∧ Fr (Own r x xs d m v fv) (Own r x xs d (Mc.feeds tn (tld (s.data.toList.take i)) m).2 v' fv') W wr ∧ Gat (Own r x xs d (Mc.feeds tn (tld (s.data.toList.take i)) m).2 v' fv') W.heap.size ov T wr) (fun _ iv _ => s.size - (intOf iv).toNat)
  case atStart => exact ⟨0, [], v, fv, rfl, Nat.zero_le _, rfl, HR.out.1, Fr.refl _ _, Gat.nil _ _ _⟩
  case round =>
    obtain ⟨i, T, v', fv', rfl, hin, hT, hr, hf, ht⟩ := hrel
    have hxr := hr.lt
    have hal : (s.data.toList.take i).length ≤ 5000 := by rw [List.length_take, Array.length_toList]; have h3 : s.data.size = s.size := rfl; omega
    have hTl : T.length ≤ 6000000000 := by
      have h4 : T.length = (Mc.feeds tn (tld (s.data.toList.take i)) m).1.length := by rw [← hT, List.length_map]
      rw [h4]
      exact feedsA_len tn _ HR.out.2.1 hn0 (by omega)
    have HAL : Hid ((s.data.toList.take i).length ≤ 5000) := hal
    clear hal
    have HA : Hid (T.map ptOf = (Mc.feeds tn (tld (s.data.toList.take i)) m).1 ∧ RdA B r x xs d m v' tn (s.data.toList.take i) fv' wr ∧ Fr (Own r x xs d m v fv) (Own r x xs d (Mc.feeds tn (tld (s.data.toList.take i)) m).2 v' fv') W wr ∧ Gat (Own r x xs d (Mc.feeds tn (tld (s.data.toList.take i)) m).2 v' fv') W.heap.size u6 T wr ∧ T.length ≤ 6000000000) := ⟨hT, hr, hf, ht, hTl⟩
    by_cases hlt : i < s.size
    · have hlt' : decide ((i : Int) < (s.size : Int)) = true := decide_eq_true (by omega)
      obtain ⟨t, het⟩ : ∃ t, s.extract i (i + 1) = t := ⟨_, rfl⟩
      have HTT : Hid (s.data.toList.take (i + 1) = s.data.toList.take i ++ t.data.toList ∧ t.size ≤ 1) := ⟨by rw [← het]; exact one_byte s i hlt, by rw [← het, ByteArray.size_extract]; omega⟩
      clear hT hr hf ht hTl
      go_wp2_with fail
      refine (feedA_any HR.out.2.2.1 HA.out.2.1 HR.out.2.1 t hn0 (by have := HAL.out; have := HTT.out.2; omega)).mono ?_
      rintro e w1 ⟨v2, fv2, ov2, T2, rfl, k1, k2, k3, k4⟩
      rw [← HTT.out.1] at k2 k3 k4
      obtain ⟨ao2, c2, eov, _, _⟩ := k4.form
      subst eov
      have hT2 : T2.length ≤ 6000000000 := by
        have h5 := (ts_app (s.data.toList.take i) t.data.toList).2
        rw [← HTT.out.1] at h5
        have h4 : T2.length ≤ (Mc.feeds tn (tld (s.data.toList.take (i + 1))) m).1.length := by
          rw [h5, feeds_app, List.length_append, ← k1, List.length_map]; omega
        have h6 := feedsA_len tn (s.data.toList.take (i + 1)) HR.out.2.1 hn0 (by
          rw [HTT.out.1, List.length_append]
          have a1 := HAL.out
          have a2 : t.data.toList.length = t.size := Array.length_toList
          have a3 := HTT.out.2
          omega)
        omega
      obtain ⟨ov', W2, hrun, k5, k6, k7⟩ := k2.app (HA.out.2.2.2.1.fr k3) k4.tol c2 ⟨HR.out.2.2.2, Nat.le_trans HA.out.2.2.1.keep.size k3.keep.size⟩ (by have := HA.out.2.2.2.2; omega)
      have HF : Hid ((T ++ T2).map ptOf = (Mc.feeds tn (tld (s.data.toList.take (i + 1))) m).1 ∧ RdA B r x xs d m v2 tn (s.data.toList.take (i + 1)) fv2 W2 ∧ Fr (Own r x xs d m v fv) (Own r x xs d (Mc.feeds tn (tld (s.data.toList.take (i + 1))) m).2 v2 fv2) W W2 ∧ Gat (Own r x xs d (Mc.feeds tn (tld (s.data.toList.take (i + 1))) m).2 v2 fv2) W.heap.size ov' (T ++ T2) W2) := by
        refine ⟨?_, k6, (HA.out.2.2.1.trans k3).grown k7 fun k hk => (HA.out.2.2.2.1.blk k hk).2, k5⟩
        have h5 := (ts_app (s.data.toList.take i) t.data.toList).2
        rw [← HTT.out.1] at h5
        rw [h5, feeds_app, List.map_append, HA.out.1, k1]
      obtain ⟨n2, hn2⟩ : ∃ n2, T2.length = n2 := ⟨_, rfl⟩
      rw [hn2] at hrun ⊢
      clear k1 k2 k3 k4 k5 k6 k7 hT2 hn2
      go_wp2_with (at_builtin; refine list_append_eq rfl _ _ 23 23 rfl _ _ rfl rfl hrun ?_)
      go_roundw
      case rel => exact ⟨i + 1, T ++ T2, v2, fv2, by go_num, by omega, HF.out⟩
      case measure => simp [intOf]; omega
    · have hlt' : decide ((i : Int) < (s.size : Int)) = false := decide_eq_false (by omega)
      have ei : s.data.toList.take i = s.data.toList := List.take_of_length_le (by rw [Array.length_toList]; have h3 : s.data.size = s.size := rfl; omega)
      rw [ei] at HA
      obtain ⟨S, hS⟩ : ∃ S, s.data.toList = S := ⟨_, rfl⟩
      have HS : Hid (s.data.toList = S ∧ S.length ≤ 5000) := ⟨hS, by rw [← hS, Array.length_toList]; exact hs⟩
      rw [hS] at HA
      have c0 : wr.cell? ⟨r, 0, none⟩ = some (.pointer (some ⟨xs, 0, none⟩)) := by simp [World.cell?, hr.blk]
      clear hT hr hf ht hTl hS ei HAL
      go_wp2_with fail
      refine (G4.send_any HA.out.2.1.strm).mono ?_
      rintro e w1 ⟨ca, cn, cc, fa, fn', fc, rfl, k1, k2, k3, k4⟩
      have hL := tld_all S
      have hF := flt_all S
      obtain ⟨L, eL⟩ : ∃ L, (G4.tsL (lin S) (G4.chs (pla S) (G4.fin (wai S)))).2 ++ G4.rel (G4.tsL (lin S) (G4.chs (pla S) (G4.fin (wai S)))).1 = L := ⟨_, rfl⟩
      obtain ⟨F, eF⟩ : ∃ F, G4.fcs (pla S) (G4.fin (wai S)) = F := ⟨_, rfl⟩
      rw [eL] at hL k2
      rw [eF] at hF k3
      have hcnt : n0 + (tld S).length + L.length ≤ 11000 := by
        have h1 := outc_le S
        rw [← hL, List.length_append] at h1
        have := HS.out.2
        omega
      have hcf : (flt S).length + F.length ≤ 5000 := by
        have h1 : (G4.fcs 0 (G4.items S)).length ≤ S.length := Nat.le_trans (G4.fcs_length _ _) (items_le S)
        rw [← hF, List.length_append] at h1
        have := HS.out.2
        omega
      have KT := HA.out.2.1.took HR.out.2.2.1 k1 k4 (feeds_good tn HR.out.2.1 (tld S)) k2 (by omega) k3 (by omega)
      have HP : Hid (tld S ++ L = G4.outc S ∧ flt S ++ F = G4.fcs 0 (G4.items S) ∧ n0 + (tld S).length + L.length ≤ 11000 ∧ (flt S).length + F.length ≤ 5000) := ⟨hL, hF, hcnt, hcf⟩
      clear k1 k2 k3 k4 eL eF hL hF hcnt hcf c0
      generalize pla S + ((wai S).length : Nat) = p2 at KT
      generalize G4.off (G4.tsL (lin S) (G4.chs (pla S) (G4.fin (wai S)))).1 = w2 at KT
      go_wp2_with fail
      refine KT.mono ?_
      rintro e W2 ⟨v2, fv2, ov2, T2, rfl, q1, q2, q3, q4⟩
      have em : (Mc.feeds tn (chars s) m) = ((Mc.feeds tn (tld S) m).1 ++ (Mc.feeds tn L (Mc.feeds tn (tld S) m).2).1, (Mc.feeds tn L (Mc.feeds tn (tld S) m).2).2) := by
        show Mc.feeds tn (G4.outc s.data.toList) m = _
        rw [HS.out.1, ← HP.out.1, feeds_app]
      obtain ⟨M, hM⟩ : ∃ M, (Mc.feeds tn L (Mc.feeds tn (tld S) m).2).2 = M := ⟨_, rfl⟩
      rw [hM] at q2 q3 q4 em
      rw [HP.out.2.1] at q2
      have HGM : Hid (Good (n0 + (tld S).length + L.length) M) := by rw [← hM]; exact feeds_good tn (feeds_good tn HR.out.2.1 (tld S)) L
      obtain ⟨ao2, c2, eov, _, _⟩ := q4.form
      subst eov
      have hT2 : T2.length ≤ 6000000000 := by
        have h1 := feeds_len tn L (n0 + (tld S).length) ([], (Mc.feeds tn (tld S) m).2) (feeds_good tn HR.out.2.1 (tld S)) (by have := HP.out.2.2.1; omega)
        have h5 : (Mc.feeds tn L (Mc.feeds tn (tld S) m).2).1.length ≤ 0 + L.length * 300000 := h1
        rw [← q1, List.length_map] at h5
        have := HP.out.2.2.1
        omega
      obtain ⟨ov3, W3, hrun3, q5, q6, q7⟩ := q2.app (HA.out.2.2.2.1.fr q3) q4.tol c2 ⟨HR.out.2.2.2, Nat.le_trans HA.out.2.2.1.keep.size q3.keep.size⟩ (by have := HA.out.2.2.2.2; omega)
      have H3 : Hid (Rd B r x xs d M v2 tn p2 [] w2 fv2 (G4.fcs 0 (G4.items S)) W3 ∧ Fr (Own r x xs d m v fv) (Own r x xs d M v2 fv2) W W3 ∧ Gat (Own r x xs d M v2 fv2) W.heap.size ov3 (T ++ T2) W3 ∧ (T ++ T2).map ptOf = (Mc.feeds tn (chars s) m).1 ∧ (Mc.feeds tn (chars s) m).2 = M ∧ (T ++ T2).length ≤ 12000000000) := by
        refine ⟨q6, (HA.out.2.2.1.trans q3).grown q7 fun k hk => (HA.out.2.2.2.1.blk k hk).2, q5, ?_, by rw [em], ?_⟩
        · rw [em, List.map_append, HA.out.1, q1]
        · rw [List.length_append]; have := HA.out.2.2.2.2; omega
      obtain ⟨n2, hn2⟩ : ∃ n2, T2.length = n2 := ⟨_, rfl⟩
      rw [hn2] at hrun3 ⊢
      have c1 : W3.cell? ⟨r, 1, none⟩ = some (.pointer (some ⟨x, 0, none⟩)) := by simp [World.cell?, q6.blk]
      have hr3 := q6.lt
      clear q1 q2 q3 q4 q5 q6 q7 em hM hT2 hn2 HA KT
      go_wp2_with (at_builtin; refine list_append_eq rfl _ _ 23 23 rfl _ _ rfl rfl hrun3 ?_)
      refine (H3.out.1.gave (fun U hU => end_any hU HGM.out (by have := HP.out.2.2.1; omega) s.size)).mono ?_
      rintro e W4 ⟨v4, T4, ao4, c4, rfl, q1, q2, q3, q4, q5, _⟩
      have hT4 : T4.length ≤ 300000 := by
        have h1 := ended_len HGM.out (by have := HP.out.2.2.1; omega) s.size
        rw [← q1, List.length_map] at h1
        exact h1
      obtain ⟨ov5, W5, hrun5, q6, q7, q8⟩ := q3.app (H3.out.2.2.1.fr q4) q5 c4 ⟨HR.out.2.2.2, Nat.le_trans H3.out.2.1.keep.size q4.keep.size⟩ (by have := H3.out.2.2.2.2.2; omega)
      have hM := H3.out.2.2.2.2.1
      have hge := ended_good HGM.out (s.size : Int)
      have KB := byPlace_any q7 (by have a1 := hge.w.mu; have a2 := tot_mu (M.ended s.size).2; have a3 := HP.out.2.2.1; omega) (by
        have a1 := hge.w.mu
        have a2 : (M.ended s.size).2.fs.length ≤ (M.ended s.size).2.mu := by unfold Mc.mu; omega
        have a3 := HP.out.2.2.1
        have a4 := HP.out.2.2.2
        rw [← HP.out.2.1, List.length_append]
        omega)
      have H5 : Hid ((T ++ T2 ++ T4).map ptOf = (Mc.feeds tn (chars s) m).1 ++ ((Mc.feeds tn (chars s) m).2.ended s.size).1 ∧ (T ++ T2 ++ T4).length ≤ 100000000000 ∧ Gat (Own r x xs d (M.ended s.size).2 v4 fv2) W.heap.size ov5 (T ++ T2 ++ T4) W5 ∧ Fr (Own r x xs d m v fv) (Own r x xs d (M.ended s.size).2 v4 fv2) W W5 ∧ (Mc.feeds tn (chars s) m).2 = M) := by
        refine ⟨?_, ?_, q6, (H3.out.2.1.trans q4).grown q8 fun k hk => (H3.out.2.2.1.blk k hk).2, hM⟩
        · rw [List.map_append, H3.out.2.2.2.1, q1, hM]
        · rw [List.length_append]; have := H3.out.2.2.2.2.2; omega
      obtain ⟨n4, hn4⟩ : ∃ n4, T4.length = n4 := ⟨_, rfl⟩
      rw [hn4] at hrun5 ⊢
      have hr5 := q7.lt
      clear q1 q2 q3 q4 q5 q6 q7 q8 hM hge hT4 hn4 H3 c1
      go_wp2_with (at_builtin; refine list_append_eq rfl _ _ 23 23 rfl _ _ rfl rfl hrun5 ?_)
      refine KB.mono ?_
      rintro e W6 ⟨lv, L', rfl, b1, b2, b3⟩
      have HZ : Hid (Alls B (Own r x xs d m v fv) ((Mc.feeds tn (chars s) m).1 ++ ((Mc.feeds tn (chars s) m).2.ended s.size).1) (G4.fcs 0 (G4.items s.data.toList) ++ ((Mc.feeds tn (chars s) m).2.ended s.size).2.fs) W (.returned (.tuple #[ov5, lv])) W6) := by
        obtain ⟨h1, h2, h3, h4, h5⟩ := H5.out
        refine ⟨ov5, T ++ T2 ++ T4, lv, L', rfl, h1, h2, ?_, ?_, b2, ?_⟩
        · exact (h3.fr (O' := fun _ => False) ⟨b3, fun _ h => h.elim⟩).toks
        · rw [h5, HS.out.1]; exact b1
        · exact (h4.trans (O'' := fun _ => False) ⟨b3, fun _ h => h.elim⟩).keep
      clear b1 b2 b3 H5
      go_wp2_with fail
      go_ret2
      exact HZ.out
end
end Go.Proofs.YtdiealijjhfhjaaGreatDoor
