/- End: what is told at the end, and the machine as new. -/
import Derived.Test.YtdiealijjhfhjaaGreatDoorYa
namespace Go.Proofs.YtdiealijjhfhjaaGreatDoor
open Go.RowKit
theorem setAll_row (x : Nat) : ∀ (l : List (Nat × Value)) (w : World) (cs : Array Value) (e : TypeId) (z : Nat × Nat), w.heap[x]? = some (.cells cs e z) → setAll w x l = w.setRow x (l.foldl (fun a p => a.set! p.1 p.2) cs)
  | [], w, cs, e, z, h => (setRow_self w x cs e z h).symm
  | p :: l, w, cs, e, z, h => by
    have h1 : w.setCell ⟨x, p.1, none⟩ p.2 = w.setRow x (cs.set! p.1 p.2) := setCell_eq_setRow w x p.1 cs e z p.2 h
    have h2 : setAll w x (p :: l) = setAll (w.setRow x (cs.set! p.1 p.2)) x l := by rw [← h1]; rfl
    rw [h2, setAll_row x l _ (cs.set! p.1 p.2) e z (setRow_heap w x cs _ e _ h), setRow_setRow]
    rfl
def endL (v : Vs) : List (Nat × Value) := [(0, fn 46), (1, fn 47), (2, .int .i64 0), (3, .bool false), (4, .string ByteArray.empty), (5, .slice none 0 0), (6, .slice none 0 0), (7, v.p), (8, .int .i64 0), (9, .int .i64 0), (10, .slice none 0 0), (11, .slice none 0 0), (12, .bool false), (13, .slice none 0 0), (14, .map none), (15, .int .i64 0), (16, .slice none 0 0), (17, .slice none 0 0), (18, .bool false), (19, .slice none 0 0), (20, v.f)]
def endV (v : Vs) : Vs := { newV with p := v.p, f := v.f }
theorem unend {Z : Nat → Prop} {S : Nat → Prop} {x : Nat} {m : Mc} {v : Vs} {T : List TL} {w : World} (h : MachV Z S x m v T w) : ∃ ao cap, v.o = .slice ao T.length cap ∧ T.length ≤ cap ∧ ∃ U, (∀ k, S k → U k) ∧ MachV Z U x { Mc.new with fs := m.fs } (endV v) [] (setAll w x (endL v)) ∧ Keep S w (setAll w x (endL v)) ∧ (Stays U (setAll w x (endL v)) fun w => TkRowS Z w ao T) ∧ ∀ b o, ao = some ⟨b, o, none⟩ → ¬ S b := by
  have ho := h.bag.own 7 _ rfl
  have hbag : Bag S w (({ Mc.new with fs := m.fs } : Mc).rows (endV v) []) := (((((((h.bag.drop h.low 0 _ rfl 44 3).drop h.low 1 _ rfl 44 3).drop h.low 2 _ rfl 5 1 true).drop h.low 3 _ rfl 5 1).drop h.low 4 _ rfl 108 2).drop h.low 5 _ rfl 5 1).drop h.low 6 _ rfl 5 1).drop h.low 7 _ rfl 42 8
  obtain ⟨q1, q2⟩ := h.turn (m' := { Mc.new with fs := m.fs }) (v' := endV v) (T' := []) (endL v) rfl (by simp [Mc.cells, endL, endV, newV, Mc.new]) hbag (Names.none _ _) rfl rfl (fun t ht => by cases ht)
  rcases ho.2 with ⟨e, h0⟩ | ⟨g, cap, cur, z, e, hg, _, h1, h2, h3, h4⟩
  · simp only at e h0
    have : T = [] := List.eq_nil_of_length_eq_zero h0
    subst this
    exact ⟨none, 0, e, Nat.le_refl _, S, fun _ h => h, q1, q2, fun w' _ => TkRowS.nil _ _, fun b o e => (by cases e)⟩
  · simp only at e h1 h4 hg
    have hgl := (Array.getElem?_eq_some_iff.1 hg).1
    have hgx : g ≠ x := fun e => by
      subst e
      rw [h.blk] at hg
      simp at hg
    have hgW : (setAll w x (endL v)).heap[g]? = w.heap[g]? := setAll_ne x _ w g hgx
    refine ⟨_, cap, e, h1, fun k => S k ∨ k = g, fun k hk => .inl hk, q1.more (fun k => k = g) ?_ ?_ ?_ ?_, q2, fun w' k => ?_, fun b o e' => ?_⟩
    · rintro k rfl
      exact Nat.lt_of_lt_of_le hgl q2.size
    · exact fun e => hgx e.symm
    · intro i r hr g' hg' e'
      subst e'
      by_cases hi : i = 8
      · subst hi
        have hr' : (m.rows v T)[8]? = some r := hr
        exact h.bag.apart 8 7 r _ (by decide) hr' rfl g' hg' (by show v.o.ownBlock = _; rw [e]; rfl)
      · have hm := List.mem_of_getElem? hr
        have : r.v = .slice none 0 0 := by
          match i, hr with
          | 0, hr => simp [Mc.rows] at hr; subst hr; rfl
          | 1, hr => simp [Mc.rows] at hr; subst hr; rfl
          | 2, hr => simp [Mc.rows] at hr; subst hr; rfl
          | 3, hr => simp [Mc.rows] at hr; subst hr; rfl
          | 4, hr => simp [Mc.rows] at hr; subst hr; rfl
          | 5, hr => simp [Mc.rows] at hr; subst hr; rfl
          | 6, hr => simp [Mc.rows] at hr; subst hr; rfl
          | 7, hr => simp [Mc.rows] at hr; subst hr; rfl
          | 8, _ => exact absurd rfl hi
          | k + 9, hr => simp [Mc.rows] at hr
        rw [this] at hg'
        simp [Value.ownBlock] at hg'
    · intro b e' hb
      cases e'
    · have e1 : w'.heap[g]? = (setAll w x (endL v)).heap[g]? := k.block g (.inr rfl) (Nat.lt_of_lt_of_le hgl q2.size)
      exact own_row ((e1.trans hgW).trans hg) h4 fun t ht => h.toks t ht w' (q2.trans (k.sub fun _ => .inl))
    · cases e'
      exact h.bag.out 7 _ rfl g (by show v.o.ownBlock = _; rw [e]; rfl)
def eofT (at' : Int) : TL := (⟨6, 0, ByteArray.empty, ByteArray.empty, none, 0, 0, false, at', at'⟩, [])
set_option maxHeartbeats 4000000 in
set_option maxRecDepth 20000 in
theorem end_n {Z : Nat → Prop} {S : Nat → Prop} {x : Nat} {m r : Mc} {w : World} (h : Mach Z S x m w) {n : Nat} (hr : m.ref = []) (hm : r = m) (hg : Good n r) (hn : n ≤ 20000) (at' : Int)  : Calls Tryz.prog 36 #[mp x, .int .i64 at'] w (Gave Z S x { Mc.new with fs := (r.endS at').fs } ((r.endS at').out ++ [ptOf (eofT at')]) w) := by
  have hxw := h.low
  have k34 : Calls Tryz.prog 51 #[mp x] w fun e w' => e = .returned (.bool false) ∧ w' = w := by
    have := refers_any h
    rw [hr] at this
    simpa using this
  obtain ⟨b1, b2, b3⟩ := hg.w.wl hn
  have HE : Hid (∀ U W, Mach Z U x r W → Calls Tryz.prog r.en #[mp x, .int .i64 at'] W (Did Z U x (r.endS at') W)) := fun U W hU => endS_any hU hg.w.inv at' b1 b3
  have HN : Hid ((r.endS at').tot ≤ 1000000000) := by
    show (r.endS at').tot ≤ _
    have := tot_mu (r.endS at')
    have := (gr_endS r at').2.1
    have := hg.w.mu
    omega
  have en' : ∀ args w, (callFunc r.en args).run Tryz.prog w = .ok (.enter r.en args) w := enters_end hg.w.inv
  have HM : Hid (Post Z S x r w w) := by rw [hm]; exact Post.refl h
  clear h hg hr hm
  generalize hs : r.en = s at *
  clear b1 b2 b3
  go_enter Tryz.func36, Tryz.ntmps36
  go_wp2_with fail
  refine k34.mono ?_
  rintro e W1 ⟨rfl, hw1⟩
  have P1 : Hid (Post Z S x r w W1) := by rw [hw1]; exact HM.out
  clear hw1 k34
  obtain ⟨v1, hx1, q1, _⟩ := P1.out.mach
  have c1 : W1.cell? ⟨x, 1, none⟩ = some (.func (.func s) #[] #[]) := by
    rw [← hs]
    exact q1 1 _ rfl
  go_wp2_with fail
  refine (P1.out.call (fun U hU => HE.out U _ hU)).mono ?_
  rintro e W2 ⟨rfl, p2⟩
  have P2 : Hid (Post Z S x (r.endS at') w W2) := p2
  clear p2 q1 c1
  go_wp2_with fail
  refine (P2.out.call (fun U hU => tell_any hU (eofT at') HN.out (ok_none _ _ _ _ _ _ _))).mono ?_
  rintro e W3 ⟨rfl, U3, s3, ⟨v, T, h3⟩, kp3⟩
  have hx3 := h3.lt
  have h3' := h3.below (Below.refl W3.heap.size W3).drew
  obtain ⟨ao, cap, eo, hcap, U4, s4, h4, kp4, st4, nS⟩ := unend h3'
  obtain ⟨nT, hnT⟩ : ∃ nT, T.length = nT := ⟨_, rfl⟩
  rw [hnT] at eo hcap
  obtain ⟨pv, hpv⟩ : ∃ pv, v.p = .pointer pv := by
    rcases h3.trie with e | ⟨t, e, _⟩
    · exact ⟨_, e⟩
    · exact ⟨_, e⟩
  obtain ⟨fo, fc, hfv, _, _⟩ := own_form (h3.bag.own 8 _ rfl)
  simp only at hfv
  obtain ⟨nf, hnf⟩ : ∃ nf, ((r.endS at').tell (ptOf (eofT at'))).fs.length = nf := ⟨_, rfl⟩
  rw [hnf] at hfv
  have HG : Hid (Gave Z S x { Mc.new with fs := (r.endS at').fs } ((r.endS at').out ++ [ptOf (eofT at')]) w (.returned (.slice ao nT cap)) (setAll W3.drew x (endL v))) :=
    ⟨U4, T, ao, cap, by rw [hnT], h3.told, by rw [hnT]; exact hcap, fun k hk => s4 k (s3 k hk), ⟨_, h4, rfl⟩, kp3.trans ((Keep.old (Below.refl _ _).drew).trans (kp4.sub s3)), st4, fun b o e hS => nS b o e (s3 b hS)⟩
  have q1 := h3.cells
  have q2 := h3.free
  have c7 := q1 7 v.p rfl
  have c19 := q1 19 v.o rfl
  have c20 := q1 20 v.f rfl
  have f19 := q2 19
  rw [eo] at c19
  unfold endL at HG
  rw [hpv] at c7 HG
  rw [hfv] at c20 HG
  have HB : Hid (W3.drew.heap[x]? = some (.cells (((r.endS at').tell (ptOf (eofT at'))).cells v) 75 (0, 0))) := h3.blk
  rw [setAll_row x _ _ _ _ _ HB.out] at HG
  have eL : ([(0, fn 46), (1, fn 47), (2, .int .i64 0), (3, .bool false), (4, .string ByteArray.empty), (5, .slice none 0 0), (6, .slice none 0 0), (7, .pointer pv), (8, .int .i64 0), (9, .int .i64 0), (10, .slice none 0 0), (11, .slice none 0 0), (12, .bool false), (13, .slice none 0 0), (14, .map none), (15, .int .i64 0), (16, .slice none 0 0), (17, .slice none 0 0), (18, .bool false), (19, .slice none 0 0), (20, .slice fo nf fc)] : List (Nat × Value)).foldl (fun a p => a.set! p.1 p.2) (((r.endS at').tell (ptOf (eofT at'))).cells v) = #[fn 46, fn 47, .int .i64 0, .bool false, .string ByteArray.empty, .slice none 0 0, .slice none 0 0, .pointer pv, .int .i64 0, .int .i64 0, .slice none 0 0, .slice none 0 0, .bool false, .slice none 0 0, .map none, .int .i64 0, .slice none 0 0, .slice none 0 0, .bool false, .slice none 0 0, .slice fo nf fc] := by simp [Mc.cells]
  rw [eL] at HG
  clear eL
  have HQ : Hid ((∀ (i : Nat) (u : Value), (((r.endS at').tell (ptOf (eofT at'))).cells v)[i]? = some u → W3.cell? ⟨x, i, none⟩ = some u) ∧ ∀ i : Nat, W3.frozen? ⟨x, i, none⟩ = false) := ⟨q1, q2⟩
  clear h3 h3' h4 st4 kp3 kp4 hnT s3 s4 nS q1 q2 eo
  go_wp2_with fail
  go_still_tail 11, (show Tryz.prog.follows .mixedOrders = true by kernel_rfl)
  have hd : ({ heap := W3.heap, tape := W3.tape, drawn := W3.drawn + 1, os := W3.os, output := W3.output } : World) = W3.drew := rfl
  rw [hd]
  refine wpList_plain rfl fun K hK => wp_store_row 75 _ _ rfl x #[fn 46, fn 47, .int .i64 0, .bool false, .string ByteArray.empty, .slice none 0 0, .slice none 0 0, .pointer pv, .int .i64 0, .int .i64 0, .slice none 0 0, .slice none 0 0, .bool false, .slice none 0 0, .map none, .int .i64 0, .slice none 0 0, .slice none 0 0, .bool false, .slice none 0 0, .slice fo nf fc] rfl rfl 75 _ HB.out (by kernel_rfl) rfl (by simp [fn, Value.oneCell']) (hK _ _ ?_)
  clear hd c7 c19 c20 f19
  go_wp2_with fail
  go_ret
  exact HG.out
set_option maxHeartbeats 4000000 in
set_option maxRecDepth 20000 in
theorem end_r {Z : Nat → Prop} {S : Nat → Prop} {x : Nat} {m r : Mc} {w : World} (h : Mach Z S x m w) {n : Nat} (hr : m.ref ≠ [])  (hg : Good n r) (hn : n ≤ 20000) (at' : Int) (H : ∀ U W, Mach Z U x m W → Calls Tryz.prog 52 #[mp x] W (Did Z U x r W)) : Calls Tryz.prog 36 #[mp x, .int .i64 at'] w (Gave Z S x { Mc.new with fs := (r.endS at').fs } ((r.endS at').out ++ [ptOf (eofT at')]) w) := by
  have hxw := h.low
  have k34 : Calls Tryz.prog 51 #[mp x] w fun e w' => e = .returned (.bool true) ∧ w' = w := by
    have := refers_any h
    rw [decide_eq_true hr] at this
    exact this
  obtain ⟨b1, b2, b3⟩ := hg.w.wl hn
  have HE : Hid (∀ U W, Mach Z U x r W → Calls Tryz.prog r.en #[mp x, .int .i64 at'] W (Did Z U x (r.endS at') W)) := fun U W hU => endS_any hU hg.w.inv at' b1 b3
  have HN : Hid ((r.endS at').tot ≤ 1000000000) := by
    show (r.endS at').tot ≤ _
    have := tot_mu (r.endS at')
    have := (gr_endS r at').2.1
    have := hg.w.mu
    omega
  have en' : ∀ args w, (callFunc r.en args).run Tryz.prog w = .ok (.enter r.en args) w := enters_end hg.w.inv
  have HR : Hid (∀ U W, Mach Z U x m W → Calls Tryz.prog 52 #[mp x] W (Did Z U x r W)) := H
  have HM : Hid (Mach Z S x m w) := h
  clear h hg H hr
  generalize hs : r.en = s at *
  clear b1 b2 b3
  go_enter Tryz.func36, Tryz.ntmps36
  go_wp2_with fail
  refine k34.mono ?_
  rintro e w1 ⟨rfl, hw1⟩
  obtain rfl := hw1.symm
  clear hw1 k34
  go_wp2_with fail
  refine (HR.out S w HM.out).mono ?_
  rintro e W1 ⟨rfl, p1⟩
  have P1 : Hid (Post Z S x r w W1) := p1
  clear p1
  obtain ⟨v1, hx1, q1, _⟩ := P1.out.mach
  have c1 : W1.cell? ⟨x, 1, none⟩ = some (.func (.func s) #[] #[]) := by
    rw [← hs]
    exact q1 1 _ rfl
  go_wp2_with fail
  refine (P1.out.call (fun U hU => HE.out U _ hU)).mono ?_
  rintro e W2 ⟨rfl, p2⟩
  have P2 : Hid (Post Z S x (r.endS at') w W2) := p2
  clear p2 q1 c1
  go_wp2_with fail
  refine (P2.out.call (fun U hU => tell_any hU (eofT at') HN.out (ok_none _ _ _ _ _ _ _))).mono ?_
  rintro e W3 ⟨rfl, U3, s3, ⟨v, T, h3⟩, kp3⟩
  have hx3 := h3.lt
  have h3' := h3.below (Below.refl W3.heap.size W3).drew
  obtain ⟨ao, cap, eo, hcap, U4, s4, h4, kp4, st4, nS⟩ := unend h3'
  obtain ⟨nT, hnT⟩ : ∃ nT, T.length = nT := ⟨_, rfl⟩
  rw [hnT] at eo hcap
  obtain ⟨pv, hpv⟩ : ∃ pv, v.p = .pointer pv := by
    rcases h3.trie with e | ⟨t, e, _⟩
    · exact ⟨_, e⟩
    · exact ⟨_, e⟩
  obtain ⟨fo, fc, hfv, _, _⟩ := own_form (h3.bag.own 8 _ rfl)
  simp only at hfv
  obtain ⟨nf, hnf⟩ : ∃ nf, ((r.endS at').tell (ptOf (eofT at'))).fs.length = nf := ⟨_, rfl⟩
  rw [hnf] at hfv
  have HG : Hid (Gave Z S x { Mc.new with fs := (r.endS at').fs } ((r.endS at').out ++ [ptOf (eofT at')]) w (.returned (.slice ao nT cap)) (setAll W3.drew x (endL v))) :=
    ⟨U4, T, ao, cap, by rw [hnT], h3.told, by rw [hnT]; exact hcap, fun k hk => s4 k (s3 k hk), ⟨_, h4, rfl⟩, kp3.trans ((Keep.old (Below.refl _ _).drew).trans (kp4.sub s3)), st4, fun b o e hS => nS b o e (s3 b hS)⟩
  have q1 := h3.cells
  have q2 := h3.free
  have c7 := q1 7 v.p rfl
  have c19 := q1 19 v.o rfl
  have c20 := q1 20 v.f rfl
  have f19 := q2 19
  rw [eo] at c19
  unfold endL at HG
  rw [hpv] at c7 HG
  rw [hfv] at c20 HG
  have HB : Hid (W3.drew.heap[x]? = some (.cells (((r.endS at').tell (ptOf (eofT at'))).cells v) 75 (0, 0))) := h3.blk
  rw [setAll_row x _ _ _ _ _ HB.out] at HG
  have eL : ([(0, fn 46), (1, fn 47), (2, .int .i64 0), (3, .bool false), (4, .string ByteArray.empty), (5, .slice none 0 0), (6, .slice none 0 0), (7, .pointer pv), (8, .int .i64 0), (9, .int .i64 0), (10, .slice none 0 0), (11, .slice none 0 0), (12, .bool false), (13, .slice none 0 0), (14, .map none), (15, .int .i64 0), (16, .slice none 0 0), (17, .slice none 0 0), (18, .bool false), (19, .slice none 0 0), (20, .slice fo nf fc)] : List (Nat × Value)).foldl (fun a p => a.set! p.1 p.2) (((r.endS at').tell (ptOf (eofT at'))).cells v) = #[fn 46, fn 47, .int .i64 0, .bool false, .string ByteArray.empty, .slice none 0 0, .slice none 0 0, .pointer pv, .int .i64 0, .int .i64 0, .slice none 0 0, .slice none 0 0, .bool false, .slice none 0 0, .map none, .int .i64 0, .slice none 0 0, .slice none 0 0, .bool false, .slice none 0 0, .slice fo nf fc] := by simp [Mc.cells]
  rw [eL] at HG
  clear eL
  have HQ : Hid ((∀ (i : Nat) (u : Value), (((r.endS at').tell (ptOf (eofT at'))).cells v)[i]? = some u → W3.cell? ⟨x, i, none⟩ = some u) ∧ ∀ i : Nat, W3.frozen? ⟨x, i, none⟩ = false) := ⟨q1, q2⟩
  clear h3 h3' h4 st4 kp3 kp4 hnT s3 s4 nS q1 q2 eo
  go_wp2_with fail
  go_still_tail 11, (show Tryz.prog.follows .mixedOrders = true by kernel_rfl)
  have hd : ({ heap := W3.heap, tape := W3.tape, drawn := W3.drawn + 1, os := W3.os, output := W3.output } : World) = W3.drew := rfl
  rw [hd]
  refine wpList_plain rfl fun K hK => wp_store_row 75 _ _ rfl x #[fn 46, fn 47, .int .i64 0, .bool false, .string ByteArray.empty, .slice none 0 0, .slice none 0 0, .pointer pv, .int .i64 0, .int .i64 0, .slice none 0 0, .slice none 0 0, .bool false, .slice none 0 0, .map none, .int .i64 0, .slice none 0 0, .slice none 0 0, .bool false, .slice none 0 0, .slice fo nf fc] rfl rfl 75 _ HB.out (by kernel_rfl) rfl (by simp [fn, Value.oneCell']) (hK _ _ ?_)
  clear hd c7 c19 c20 f19
  go_wp2_with fail
  go_ret
  exact HG.out
theorem end_any {Z : Nat → Prop} {S : Nat → Prop} {x : Nat} {m : Mc} {w : World} (h : Mach Z S x m w) {n : Nat} (hg : Good n m) (hn : n ≤ 20000) (at' : Int) : Calls Tryz.prog 36 #[mp x, .int .i64 at'] w (Gave Z S x (m.ended at').2 (m.ended at').1 w) := by
  by_cases hr : m.ref = []
  · have e : (if m.ref ≠ [] then m.resolve else m) = m := if_neg (by simpa using hr)
    unfold Mc.ended
    rw [e]
    exact end_n h hr rfl hg hn at'
  · have e : (if m.ref ≠ [] then m.resolve else m) = m.resolve := if_pos hr
    unfold Mc.ended
    rw [e]
    have hro := hg.ref.resolve_left hr
    exact end_r h hr (resolve_good hg.w (.inl hro)) hn at' fun U W hU => resolve_any hU hg.w (.inl hro) hn
theorem ended_good {n : Nat} {m : Mc} (h : Good n m) (at' : Int) : Good (n + 1) (m.ended at').2 := by
  have key : ∀ r : Mc, Good n r → Good (n + 1) { Mc.new with fs := (r.endS at').fs } := fun r hr => by
    have h1 := (gr_endS r at').2.1
    have h2 := hr.w.mu
    refine ⟨⟨inv_of inv_new rfl rfl rfl, by simp [Mc.new], ?_, by simp [Mc.new]⟩, .inl rfl⟩
    have : (r.endS at').fs.length ≤ (r.endS at').mu := by unfold Mc.mu; omega
    simp [Mc.mu, Mc.new]
    omega
  unfold Mc.ended
  dsimp only
  split
  · next hr => exact key _ (resolve_good h.w (.inl (h.ref.resolve_left hr)))
  · exact key _ h
end Go.Proofs.YtdiealijjhfhjaaGreatDoor
namespace Go.Proofs.YtdiealijjhfhjaaGreatDoor
open Go.RowKit
theorem out_app {Z : Nat → Prop} {W : World} {ov : Value} {T T' : List TL} (ho : Rw.own W (rwT ov T)) (ao : Option Addr) (c : Nat) (hr : TkRowS Z W ao T') (hn : T.length + T'.length ≤ 1000000000000) :
    ∃ ov' W', (Builtin.append_ #[23, 23] 23 #[ov, .slice ao T'.length c]).run Tryz.prog W = .ok ov' W' ∧ Rw.own W' (rwT ov' (T ++ T')) ∧ W.grownBy W' ov.ownBlock ∧ (ov'.ownBlock = ov.ownBlock ∨ ov'.ownBlock = some W.heap.size) ∧ (T' = [] → ov' = ov ∧ W' = W) := by
  obtain ⟨i0, hi, hz0, hz1, hz2⟩ := info_parts info45
  by_cases h0 : T' = []
  · subst h0
    obtain ⟨bo, cap, e, hc, _⟩ := own_form ho
    simp only at e hc
    have hs : Src Tryz.prog i0.size 23 (.slice ao 0 c) 0 [] W := by
      cases ao with
      | none => exact Src.ofNil W Tryz.underlying23 c
      | some a => exact Src.ofSlice W Tryz.underlying23 a 0 c [] (by simp) (by simp) (by simp)
    have hrun := run_append_nothing (P := Tryz.prog) W 23 23 23 42 i0 Tryz.underlying23 hi bo T.length cap hc _ hs
    rw [← e] at hrun
    exact ⟨ov, W, hrun, by rw [List.append_nil]; exact ho, ⟨rfl, rfl, rfl, Nat.le_refl _, fun _ _ _ => rfl⟩, .inl rfl, fun _ => ⟨rfl, rfl⟩⟩
  · obtain ⟨y, hy⟩ : ∃ y, T'[0]? = some y := by
      cases T' with
      | nil => exact absurd rfl h0
      | cons y T' => exact ⟨y, rfl⟩
    obtain ⟨⟨b, off, rfl, _, _⟩, _⟩ := hr.1 0 y hy
    have hlen : (T'.flatMap tkCells).length = T'.length * 8 := by
      clear hy h0 hr hn
      induction T' with
      | nil => rfl
      | cons z l ih => rw [List.flatMap_cons, List.length_append, ih, tk_len, List.length_cons]; omega
    obtain ⟨ov', W', hrun, q1, q2, q3⟩ := row_app Tryz.underlying23 info45 rfl (by decide) (by decide) ho b off T'.length c (T'.flatMap tkCells) hlen (fun j u hj => by
      have hjl := (List.getElem?_eq_some_iff.1 hj).1
      rw [hlen] at hjl
      obtain ⟨t, ht⟩ : ∃ t, T'[j / 8]? = some t := ⟨_, List.getElem?_eq_getElem (by omega)⟩
      have hc := tk_cell T' (j / 8) (j % 8) t ht (by omega)
      rw [show j / 8 * 8 + j % 8 = j by omega, hj] at hc
      obtain ⟨⟨b', off', e, _, hcell⟩, _⟩ := hr.1 (j / 8) t ht
      cases e
      have := hcell (j % 8) u hc.symm
      rw [show off + j = off + j / 8 * 8 + j % 8 by omega]
      exact this) (fun u hu => by
      rw [List.mem_flatMap] at hu
      obtain ⟨t, _, hu⟩ := hu
      exact tk_one t u hu) (by simp only; omega)
    refine ⟨ov', W', hrun, ?_, q2, q3, fun e => absurd e h0⟩
    show OwnQ W' false 42 8 ov' (T ++ T').length ((T ++ T').flatMap tkCells)
    rw [List.length_append, List.flatMap_append]
    exact q1
end Go.Proofs.YtdiealijjhfhjaaGreatDoor
