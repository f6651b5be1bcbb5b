/- The law ArenaPlays: its walk. -/
import Derived.Test.YtcdaghlbfclpkaaGb
import Derived.Test.YtcdaghlbfclpkaaGc
import Derived.Deep.RegionHeld3
import Derived.Test.YtcdaghlbfclpkaaAu
import Derived.Shelf.Abstract
namespace Go.Proofs.Ytcdaghlbfclpkaa
open Go.RowKit

theorem Deeds.old {w w' w2 : World} {x y i : Nat} (h : Deeds w x y i w') (b : Below w'.heap.size w' w2) : Deeds w x y i w2 := by
  obtain ⟨k, N, P, E, L, h1, h2, h3⟩ := h
  exact ⟨k.trans (Keep.old b), N, P, E, L, h1, h2, h3.old b⟩
theorem wpAnyH_mono {P : Program} {ops : Array Oper} {Q : Exit → Act → World → Prop} {md : Region.Mode} {S S2 : World → Prop} (hS : ∀ w, S2 w → S w) : ∀ (fuel : Nat) (listed : Array Bool) (a : Act) (w : World), wpAnyH P md ops Q S2 fuel listed a w → wpAnyH P md ops Q S fuel listed a w
  | 0, _, _, _, h => h
  | fuel + 1, _, _, _, h => ⟨h.1, fun i hi => wpOp_mono (fun _ w' h' => ⟨hS w' h'.1, wpAnyH_mono hS fuel _ _ _ h'.2⟩) (h.2 i hi)⟩
theorem step_call1w {P : Program} {ops : Array Oper} {o : Oper} {a : Act} {w : World} {K : Act → World → Prop} {Q : Exit → Act → World → Prop} {E : Prop} (f : FuncId) (x : Operand) (ts : Array TypeId)
    (hw : Region.wanted o (yielded ops a.tmps) = true) (hop : o.op = Op.call { callee := Callee.value (.func f), args := #[x], argTypes := ts }) (henter : ∀ args w, (callFunc f args).run P w = .ok (.enter f args) w)
    (u : Value) (hx : a.eval x = u) {R : Ending → World → Prop} (hc : Calls P f #[u] w R) (hK : ∀ e w', R e w' → ∃ r, e = .returned r ∧ K (a.put o.dst r) w') :
    if Region.wanted o (yielded ops a.tmps) = true then Oper.wp P o a w K Q else E := by
  rw [if_pos hw]
  unfold Oper.wp
  have he : a.eval (.func f) = .func (.func f) #[] #[] := rfl
  have hrun : (execOp a.eval o).run P w = .ok (.enter f #[u]) w := by
    simp [execOp, hop, resolve, Deferred.ofValue, he, hx, invoke, henter]
  rw [hrun]
  refine Calls.mono (show Calls P f _ w R from hc) ?_
  intro e w' h
  obtain ⟨r, rfl, hk⟩ := hK e w' h
  exact hk
theorem step_call2w {P : Program} {ops : Array Oper} {o : Oper} {a : Act} {w : World} {K : Act → World → Prop} {Q : Exit → Act → World → Prop} {E : Prop} (f : FuncId) (x y : Operand) (ts : Array TypeId)
    (hw : Region.wanted o (yielded ops a.tmps) = true) (hop : o.op = Op.call { callee := Callee.value (.func f), args := #[x, y], argTypes := ts }) (henter : ∀ args w, (callFunc f args).run P w = .ok (.enter f args) w)
    (u v : Value) (hx : a.eval x = u) (hy : a.eval y = v) {R : Ending → World → Prop} (hc : Calls P f #[u, v] w R) (hK : ∀ e w', R e w' → ∃ r, e = .returned r ∧ K (a.put o.dst r) w') :
    if Region.wanted o (yielded ops a.tmps) = true then Oper.wp P o a w K Q else E := by
  rw [if_pos hw]
  unfold Oper.wp
  have he : a.eval (.func f) = .func (.func f) #[] #[] := rfl
  have hrun : (execOp a.eval o).run P w = .ok (.enter f #[u, v]) w := by
    simp [execOp, hop, resolve, Deferred.ofValue, he, hx, hy, invoke, henter]
  rw [hrun]
  refine Calls.mono (show Calls P f _ w R from hc) ?_
  intro e w' h
  obtain ⟨r, rfl, hk⟩ := hK e w' h
  exact hk
theorem enters12 : ∀ args w, (callFunc 12 args).run Try.prog w = .ok (.enter 12 args) w := enters_of Try.func12 (by kernel_rfl) rfl
theorem enters13 : ∀ args w, (callFunc 13 args).run Try.prog w = .ok (.enter 13 args) w := enters_of Try.func13 (by kernel_rfl) rfl
theorem enters14 : ∀ args w, (callFunc 14 args).run Try.prog w = .ok (.enter 14 args) w := enters_of Try.func14 (by kernel_rfl) rfl
theorem enters15 : ∀ args w, (callFunc 15 args).run Try.prog w = .ok (.enter 15 args) w := enters_of Try.func15 (by kernel_rfl) rfl
theorem enters16 : ∀ args w, (callFunc 16 args).run Try.prog w = .ok (.enter 16 args) w := enters_of Try.func16 (by kernel_rfl) rfl
theorem enters17 : ∀ args w, (callFunc 17 args).run Try.prog w = .ok (.enter 17 args) w := enters_of Try.func17 (by kernel_rfl) rfl
theorem enters18 : ∀ args w, (callFunc 18 args).run Try.prog w = .ok (.enter 18 args) w := enters_of Try.func18 (by kernel_rfl) rfl
set_option maxRecDepth 20000 in
set_option maxHeartbeats 4000000 in
theorem plays_any {w : World} {lo : Option Addr} {len cap : Nat} {l : List Dd} (hl : Dds w lo len cap l) (hm : len ≤ 9223372036854775807) (hs : ∀ (i : Nat) (T : Dd), l[i]? = some T → T.d.name.size ≤ 2000000000000000000 ∧ T.d.text.size ≤ 2000000000000000000 ∧ T.d.al.length ≤ 2000000000000000000) :
    Calls Try.prog 3 #[.slice lo len cap] w fun e w' => e = .returned (.bool true) ∧ Below w.heap.size w w' := by
  have HL : Hid (Dds w lo len cap l ∧ l.length = len ∧ (∀ (i : Nat) (T : Dd), l[i]? = some T → T.d.name.size ≤ 2000000000000000000 ∧ T.d.text.size ≤ 2000000000000000000 ∧ T.d.al.length ≤ 2000000000000000000)) := ⟨hl, hl.hlen, hs⟩
  clear hl hs
  go_enter Try.func3, Try.ntmps3
  go_wp2_with fail
  refine (new_any w).mono ?_
  rintro e w1 ⟨x, av, rfl, h1, b1⟩
  go_wp2_with fail
  refine (rnew_any w1).mono ?_
  rintro e w2 ⟨y, rfl, h2, b2⟩
  have HF : Hid (Fresh w x y w2) := fresh_prog b1 h1 b2 h2
  clear b1 h1 b2 h2
  have ks := size_any (HL.out.1.keep (Keep.old HF.out.1)) hm HL.out.2.2
  go_wp2_with fail
  refine ks.mono ?_
  clear ks
  rintro e w3 ⟨r, rfl, b3, hr⟩
  have HR : Hid (r = true → ∀ (i : Nat) (T : Dd), l[i]? = some T → T.d.al.length < 5000) := hr
  have HD : Hid (Deeds w x y 0 w3) := by
    obtain ⟨b, N, P, E, L, h1, h2, h3⟩ := HF.out.deeds
    exact ⟨b.trans (Keep.old b3), N, P, E, L, h1, h2, h3.old b3⟩
  have HB : Hid (Below w.heap.size w w3) := HF.out.1.trans (b3.mono HF.out.1.size)
  clear hr b3 HF
  cases r with
  | false =>
    go_wp2_with fail
    refine (awake_any w3).mono ?_
    rintro e w4 ⟨rfl, b4⟩
    go_wp2_with fail
    go_ret
    exact ⟨rfl, HB.out.trans (b4.mono HB.out.size)⟩
  | true =>
    have HS : Hid (∀ (i : Nat) (T : Dd), l[i]? = some T → T.d.al.length < 5000) := HR.out rfl
    clear HR HB
    go_wp2_with fail
    go_loopg [5] len (fun g2 iv wr => ∃ (i : Nat), iv = .int .i64 i ∧ i + g2 = len ∧ i ≤ 80 ∧ Hid (Deeds w x y i wr))
    case atStart => exact ⟨0, rfl, by omega, by omega, HD⟩
    case round =>
      obtain ⟨i, rfl, hig, hi6, HI⟩ := hrel
      by_cases hgo : i < len ∧ i < 80
      · obtain ⟨k, rfl⟩ : ∃ k, gk = k + 1 := ⟨gk - 1, by omega⟩
        have hin : i < len := hgo.1
        have h60 : i < 80 := hgo.2
        have g1 : decide ((i : Int) < (len : Int)) = true := decide_eq_true (by omega)
        have g2 : decide ((i : Int) < 80) = true := decide_eq_true (by omega)
        clear hgo
        obtain ⟨T, hT⟩ : ∃ T, l[i]? = some T := ⟨_, List.getElem?_eq_getElem (by rw [HL.out.2.1]; exact hin)⟩
        have kd := (HI.out.drew 1).next (by omega) ((HL.out.1.row i T hT).elim fun b q => q.elim fun o z => z.2.2.2) (by have := HS.out i T hT; omega)
        obtain ⟨b, off, rfl, hb, hc, _⟩ := HL.out.1.row i T hT
        have HC : Hid (∀ w', Keep (fun k => k < w.heap.size) w w' → w'.cell? ⟨b, off + i * 15, none⟩ = some (iv T.k) ∧ w'.cell? ⟨b, off + i * 15 + 1, none⟩ = some (iv T.a) ∧ w'.cell? ⟨b, off + i * 15 + 2, none⟩ = some (iv T.b) ∧ w'.cell? ⟨b, off + i * 15 + 3, none⟩ = some (iv T.c) ∧ w'.cell? ⟨b, off + i * 15 + 4, none⟩ = some (iv T.d.id) ∧ w'.cell? ⟨b, off + i * 15 + 5, none⟩ = some (iv T.d.kind) ∧ w'.cell? ⟨b, off + i * 15 + 6, none⟩ = some (iv T.d.space) ∧ w'.cell? ⟨b, off + i * 15 + 7, none⟩ = some (.string T.d.name) ∧ w'.cell? ⟨b, off + i * 15 + 8, none⟩ = some (.string T.d.text) ∧ w'.cell? ⟨b, off + i * 15 + 9, none⟩ = some (.slice T.ao T.d.al.length T.ac) ∧ w'.cell? ⟨b, off + i * 15 + 10, none⟩ = some (iv T.d.sf) ∧ w'.cell? ⟨b, off + i * 15 + 11, none⟩ = some (iv T.d.st) ∧ w'.cell? ⟨b, off + i * 15 + 12, none⟩ = some (iv T.d.ef) ∧ w'.cell? ⟨b, off + i * 15 + 13, none⟩ = some (iv T.d.et) ∧ w'.cell? ⟨b, off + i * 15 + 14, none⟩ = some (.slice T.ko T.kn T.kc)) := fun w' kk => by
          have e : ∀ (j : Nat) u, T.arr[j]? = some u → w'.cell? ⟨b, off + i * 15 + j, none⟩ = some u := fun j u hj => (cell_same (kk.block b hb hb) _).trans (hc j u hj)
          exact ⟨e 0 _ rfl, e 1 _ rfl, e 2 _ rfl, e 3 _ rfl, e 4 _ rfl, e 5 _ rfl, e 6 _ rfl, e 7 _ rfl, e 8 _ rfl, e 9 _ rfl, e 10 _ rfl, e 11 _ rfl, e 12 _ rfl, e 13 _ rfl, e 14 _ rfl⟩
        have HK : Hid (Calls Try.prog 12 #[ptr x, ptr y, .agg T.arr] wr.drew (fun e w5 => e = .returned (iv 1) ∧ (w5.cell? ⟨b, off + i * 15, none⟩ = some (iv T.k) ∧ w5.cell? ⟨b, off + i * 15 + 1, none⟩ = some (iv T.a) ∧ w5.cell? ⟨b, off + i * 15 + 2, none⟩ = some (iv T.b) ∧ w5.cell? ⟨b, off + i * 15 + 3, none⟩ = some (iv T.c) ∧ w5.cell? ⟨b, off + i * 15 + 4, none⟩ = some (iv T.d.id) ∧ w5.cell? ⟨b, off + i * 15 + 5, none⟩ = some (iv T.d.kind) ∧ w5.cell? ⟨b, off + i * 15 + 6, none⟩ = some (iv T.d.space) ∧ w5.cell? ⟨b, off + i * 15 + 7, none⟩ = some (.string T.d.name) ∧ w5.cell? ⟨b, off + i * 15 + 8, none⟩ = some (.string T.d.text) ∧ w5.cell? ⟨b, off + i * 15 + 9, none⟩ = some (.slice T.ao T.d.al.length T.ac) ∧ w5.cell? ⟨b, off + i * 15 + 10, none⟩ = some (iv T.d.sf) ∧ w5.cell? ⟨b, off + i * 15 + 11, none⟩ = some (iv T.d.st) ∧ w5.cell? ⟨b, off + i * 15 + 12, none⟩ = some (iv T.d.ef) ∧ w5.cell? ⟨b, off + i * 15 + 13, none⟩ = some (iv T.d.et) ∧ w5.cell? ⟨b, off + i * 15 + 14, none⟩ = some (.slice T.ko T.kn T.kc)) ∧ Hid (Deeds w x y (i + 1) w5) ∧ Hid (Both w5 x y T.a T.b))) := kd.mono (by
          rintro e w5 ⟨rfl, h5⟩
          refine ⟨rfl, HC.out w5 h5.1, h5, ?_⟩
          obtain ⟨_, N, P, E, L, h1, _, h3⟩ := h5
          exact h3.both h1 T.a T.b)
        have HCK : Hid (∀ w5, Deeds w x y (i + 1) w5 → ∀ w', Below w5.heap.size w5 w' → w'.cell? ⟨b, off + i * 15, none⟩ = some (iv T.k) ∧ w'.cell? ⟨b, off + i * 15 + 1, none⟩ = some (iv T.a) ∧ w'.cell? ⟨b, off + i * 15 + 2, none⟩ = some (iv T.b) ∧ w'.cell? ⟨b, off + i * 15 + 3, none⟩ = some (iv T.c) ∧ w'.cell? ⟨b, off + i * 15 + 4, none⟩ = some (iv T.d.id) ∧ w'.cell? ⟨b, off + i * 15 + 5, none⟩ = some (iv T.d.kind) ∧ w'.cell? ⟨b, off + i * 15 + 6, none⟩ = some (iv T.d.space) ∧ w'.cell? ⟨b, off + i * 15 + 7, none⟩ = some (.string T.d.name) ∧ w'.cell? ⟨b, off + i * 15 + 8, none⟩ = some (.string T.d.text) ∧ w'.cell? ⟨b, off + i * 15 + 9, none⟩ = some (.slice T.ao T.d.al.length T.ac) ∧ w'.cell? ⟨b, off + i * 15 + 10, none⟩ = some (iv T.d.sf) ∧ w'.cell? ⟨b, off + i * 15 + 11, none⟩ = some (iv T.d.st) ∧ w'.cell? ⟨b, off + i * 15 + 12, none⟩ = some (iv T.d.ef) ∧ w'.cell? ⟨b, off + i * 15 + 13, none⟩ = some (iv T.d.et) ∧ w'.cell? ⟨b, off + i * 15 + 14, none⟩ = some (.slice T.ko T.kn T.kc)) := fun w5 h5 w' b => HC.out w' (h5.1.trans (Keep.old b))
        obtain ⟨c0, c1, c2, c3, c4, c5, c6, c7, c8, c9, c10, c11, c12, c13, c14⟩ := HC.out wr HI.out.1
        clear hc hT kd
        go_wp2_with fail
        have hin2 : (i : Int) < (len : Int) := by omega
        have hin0 : (0 : Int) ≤ (i : Int) := by omega
        have hH0 : wr.drew.cell? ⟨b, off + i * 15, none⟩ = some (iv T.k) ∧ wr.drew.cell? ⟨b, off + i * 15 + 1, none⟩ = some (iv T.a) ∧ wr.drew.cell? ⟨b, off + i * 15 + 2, none⟩ = some (iv T.b) ∧ wr.drew.cell? ⟨b, off + i * 15 + 3, none⟩ = some (iv T.c) ∧ wr.drew.cell? ⟨b, off + i * 15 + 4, none⟩ = some (iv T.d.id) ∧ wr.drew.cell? ⟨b, off + i * 15 + 5, none⟩ = some (iv T.d.kind) ∧ wr.drew.cell? ⟨b, off + i * 15 + 6, none⟩ = some (iv T.d.space) ∧ wr.drew.cell? ⟨b, off + i * 15 + 7, none⟩ = some (.string T.d.name) ∧ wr.drew.cell? ⟨b, off + i * 15 + 8, none⟩ = some (.string T.d.text) ∧ wr.drew.cell? ⟨b, off + i * 15 + 9, none⟩ = some (.slice T.ao T.d.al.length T.ac) ∧ wr.drew.cell? ⟨b, off + i * 15 + 10, none⟩ = some (iv T.d.sf) ∧ wr.drew.cell? ⟨b, off + i * 15 + 11, none⟩ = some (iv T.d.st) ∧ wr.drew.cell? ⟨b, off + i * 15 + 12, none⟩ = some (iv T.d.ef) ∧ wr.drew.cell? ⟨b, off + i * 15 + 13, none⟩ = some (iv T.d.et) ∧ wr.drew.cell? ⟨b, off + i * 15 + 14, none⟩ = some (.slice T.ko T.kn T.kc) := ⟨c0, c1, c2, c3, c4, c5, c6, c7, c8, c9, c10, c11, c12, c13, c14⟩
        refine wp_region_held_drew (S := (fun w' => w'.cell? ⟨b, off + i * 15, none⟩ = some (iv T.k) ∧ w'.cell? ⟨b, off + i * 15 + 1, none⟩ = some (iv T.a) ∧ w'.cell? ⟨b, off + i * 15 + 2, none⟩ = some (iv T.b) ∧ w'.cell? ⟨b, off + i * 15 + 3, none⟩ = some (iv T.c) ∧ w'.cell? ⟨b, off + i * 15 + 4, none⟩ = some (iv T.d.id) ∧ w'.cell? ⟨b, off + i * 15 + 5, none⟩ = some (iv T.d.kind) ∧ w'.cell? ⟨b, off + i * 15 + 6, none⟩ = some (iv T.d.space) ∧ w'.cell? ⟨b, off + i * 15 + 7, none⟩ = some (.string T.d.name) ∧ w'.cell? ⟨b, off + i * 15 + 8, none⟩ = some (.string T.d.text) ∧ w'.cell? ⟨b, off + i * 15 + 9, none⟩ = some (.slice T.ao T.d.al.length T.ac) ∧ w'.cell? ⟨b, off + i * 15 + 10, none⟩ = some (iv T.d.sf) ∧ w'.cell? ⟨b, off + i * 15 + 11, none⟩ = some (iv T.d.st) ∧ w'.cell? ⟨b, off + i * 15 + 12, none⟩ = some (iv T.d.ef) ∧ w'.cell? ⟨b, off + i * 15 + 13, none⟩ = some (iv T.d.et) ∧ w'.cell? ⟨b, off + i * 15 + 14, none⟩ = some (.slice T.ko T.kn T.kc))) (by kernel_rfl) hH0 (fun _ => ?_)
        refine wpAnyH_take (i := 0) (oi := { dst := some 30, op := Op.move (Operand.tmp 3), type := 23, pos := "law.go:87", after := #[], guard := none }) (v := (ptr x)) rfl (by kernel_rfl) (by kernel_rfl) (by kernel_rfl) (fun _ _ _ h => h) (Or.inl ⟨by rfl, (by intro w hSw; (try dsimp only at hSw); go_simp)⟩) (by assumption) ?_
        try simp only [Act.put, List.setIfInBounds_toArray, List.set_cons_zero, List.set_cons_succ]
        refine wpAnyH_take (i := 1) (oi := { dst := some 31, op := Op.move (Operand.tmp 4), type := 25, pos := "law.go:87", after := #[], guard := none }) (v := (ptr y)) rfl (by kernel_rfl) (by kernel_rfl) (by kernel_rfl) (fun _ _ _ h => h) (Or.inl ⟨by rfl, (by intro w hSw; (try dsimp only at hSw); go_simp)⟩) (by assumption) ?_
        try simp only [Act.put, List.setIfInBounds_toArray, List.set_cons_zero, List.set_cons_succ]
        refine wpAnyH_take (i := 2) (oi := { dst := some 32, op := Op.move (Operand.tmp 0), type := 22, pos := "law.go:87", after := #[], guard := none }) (v := (.slice (some ⟨b, off, none⟩) len cap)) rfl (by kernel_rfl) (by kernel_rfl) (by kernel_rfl) (fun _ _ _ h => h) (Or.inl ⟨by rfl, (by intro w hSw; (try dsimp only at hSw); go_simp)⟩) (by assumption) ?_
        try simp only [Act.put, List.setIfInBounds_toArray, List.set_cons_zero, List.set_cons_succ]
        refine wpAnyH_take (i := 3) (oi := { dst := some 33, op := Op.move (Operand.tmp 5), type := 3, pos := "law.go:87", after := #[], guard := none }) (v := (.int .i64 (i : Int))) rfl (by kernel_rfl) (by kernel_rfl) (by kernel_rfl) (fun _ _ _ h => h) (Or.inl ⟨by rfl, (by intro w hSw; (try dsimp only at hSw); go_simp)⟩) (by assumption) ?_
        try simp only [Act.put, List.setIfInBounds_toArray, List.set_cons_zero, List.set_cons_succ]
        refine wpAnyH_take (i := 4) (oi := { dst := some 34, op := Op.indexAddr 22 (Operand.tmp 32) (Operand.tmp 33), type := 0, pos := "law.go:87", after := #[{ on := 2, ground := Ground.data }, { on := 3, ground := Ground.data }], guard := none }) (v := (.pointer (some ⟨b, off + i * 15, none⟩))) rfl (by kernel_rfl) (by kernel_rfl) (by kernel_rfl) (fun _ _ _ h => h) (Or.inl ⟨by rfl, (by intro w hSw; (try dsimp only at hSw); go_simp)⟩) (by assumption) ?_
        try simp only [Act.put, List.setIfInBounds_toArray, List.set_cons_zero, List.set_cons_succ]
        refine wpAnyH_take (i := 5) (oi := { dst := some 35, op := Op.load 37 (Operand.tmp 34), type := 37, pos := "law.go:87", after := #[{ on := 4, ground := Ground.data }], guard := none }) (v := (.agg #[iv T.k, iv T.a, iv T.b, iv T.c, iv T.d.id, iv T.d.kind, iv T.d.space, .string T.d.name, .string T.d.text, .slice T.ao T.d.al.length T.ac, iv T.d.sf, iv T.d.st, iv T.d.ef, iv T.d.et, .slice T.ko T.kn T.kc])) rfl (by kernel_rfl) (by kernel_rfl) (by kernel_rfl) (fun _ _ _ h => h) (Or.inl ⟨by rfl, (by intro w hSw; (try dsimp only at hSw); go_simp)⟩) (by assumption) ?_
        try simp only [Act.put, List.setIfInBounds_toArray, List.set_cons_zero, List.set_cons_succ]
        refine wpAnyH_ready (rs := [6]) (by kernel_rfl) (by simp) (AllReadyH.cons (o := { dst := some 36, op := Op.call { callee := Callee.value (Operand.func 12), args := #[Operand.tmp 30, Operand.tmp 31, Operand.tmp 35], argTypes := #[23, 25, 37] }, type := 3, pos := "law.go:87", after := #[{ on := 0, ground := Ground.data }, { on := 1, ground := Ground.data }, { on := 5, ground := Ground.data }], guard := none }) rfl (fun K hK => ?_) AllReadyH.nil)
        refine step_call3 12 _ _ _ _ rfl rfl enters12 _ _ _ (by simp [Act.eval]) (by simp [Act.eval]) (by simp [Act.eval]) HK.out ?_
        rintro e w5 ⟨rfl, hq5, HD5, HB5⟩
        refine ⟨_, rfl, ?_⟩
        refine hK.out _ _ hq5 (fun _ => ?_)
        clear hK K
        try simp only [Act.put, List.setIfInBounds_toArray, List.set_cons_zero, List.set_cons_succ]
        obtain ⟨pp, hp1, hp2⟩ := HB5.out.par
        obtain ⟨kn, bc, bo, kl, kh1, kh2, kh3, hk1, hk2⟩ := HB5.out.kids
        obtain ⟨ln, lg, lc, ly, ly2, hl1⟩ := HB5.out.len
        have hnn : ((ln : Int) == (ln : Int)) = true := by simp
        have hpp : ((pp : Int) == (pp : Int)) = true := by simp
        have hH5 : (w5.cell? ⟨b, off + i * 15, none⟩ = some (iv T.k) ∧ w5.cell? ⟨b, off + i * 15 + 1, none⟩ = some (iv T.a) ∧ w5.cell? ⟨b, off + i * 15 + 2, none⟩ = some (iv T.b) ∧ w5.cell? ⟨b, off + i * 15 + 3, none⟩ = some (iv T.c) ∧ w5.cell? ⟨b, off + i * 15 + 4, none⟩ = some (iv T.d.id) ∧ w5.cell? ⟨b, off + i * 15 + 5, none⟩ = some (iv T.d.kind) ∧ w5.cell? ⟨b, off + i * 15 + 6, none⟩ = some (iv T.d.space) ∧ w5.cell? ⟨b, off + i * 15 + 7, none⟩ = some (.string T.d.name) ∧ w5.cell? ⟨b, off + i * 15 + 8, none⟩ = some (.string T.d.text) ∧ w5.cell? ⟨b, off + i * 15 + 9, none⟩ = some (.slice T.ao T.d.al.length T.ac) ∧ w5.cell? ⟨b, off + i * 15 + 10, none⟩ = some (iv T.d.sf) ∧ w5.cell? ⟨b, off + i * 15 + 11, none⟩ = some (iv T.d.st) ∧ w5.cell? ⟨b, off + i * 15 + 12, none⟩ = some (iv T.d.ef) ∧ w5.cell? ⟨b, off + i * 15 + 13, none⟩ = some (iv T.d.et) ∧ w5.cell? ⟨b, off + i * 15 + 14, none⟩ = some (.slice T.ko T.kn T.kc)) ∧ w5.cell? ⟨y, 0, none⟩ = some (.slice (some ⟨lg, 0, none⟩) ln lc) := ⟨hq5, ly⟩
        refine wpAnyH_mono (S2 := (fun w' => (w'.cell? ⟨b, off + i * 15, none⟩ = some (iv T.k) ∧ w'.cell? ⟨b, off + i * 15 + 1, none⟩ = some (iv T.a) ∧ w'.cell? ⟨b, off + i * 15 + 2, none⟩ = some (iv T.b) ∧ w'.cell? ⟨b, off + i * 15 + 3, none⟩ = some (iv T.c) ∧ w'.cell? ⟨b, off + i * 15 + 4, none⟩ = some (iv T.d.id) ∧ w'.cell? ⟨b, off + i * 15 + 5, none⟩ = some (iv T.d.kind) ∧ w'.cell? ⟨b, off + i * 15 + 6, none⟩ = some (iv T.d.space) ∧ w'.cell? ⟨b, off + i * 15 + 7, none⟩ = some (.string T.d.name) ∧ w'.cell? ⟨b, off + i * 15 + 8, none⟩ = some (.string T.d.text) ∧ w'.cell? ⟨b, off + i * 15 + 9, none⟩ = some (.slice T.ao T.d.al.length T.ac) ∧ w'.cell? ⟨b, off + i * 15 + 10, none⟩ = some (iv T.d.sf) ∧ w'.cell? ⟨b, off + i * 15 + 11, none⟩ = some (iv T.d.st) ∧ w'.cell? ⟨b, off + i * 15 + 12, none⟩ = some (iv T.d.ef) ∧ w'.cell? ⟨b, off + i * 15 + 13, none⟩ = some (iv T.d.et) ∧ w'.cell? ⟨b, off + i * 15 + 14, none⟩ = some (.slice T.ko T.kn T.kc)) ∧ w'.cell? ⟨y, 0, none⟩ = some (.slice (some ⟨lg, 0, none⟩) ln lc))) (fun w h => h.1) _ _ _ _ ?_
        clear hH0 hq5 HK c0 c1 c2 c3 c4 c5 c6 c7 c8 c9 c10 c11 c12 c13 c14
        refine wpAnyH_take (i := 7) (oi := { dst := some 37, op := Op.binOp BinOp.eql 3 (Operand.tmp 36) (Operand.const (Value.int IntKind.i64 0)) 3, type := 4, pos := "law.go:87", after := #[{ on := 6, ground := Ground.data }], guard := none }) (v := (.bool false)) rfl (by kernel_rfl) (by kernel_rfl) (by kernel_rfl) (fun _ _ _ h => h) (Or.inl ⟨by rfl, (by intro w hSw; (try dsimp only at hSw); go_simp)⟩) (by assumption) ?_
        try simp only [Act.put, List.setIfInBounds_toArray, List.set_cons_zero, List.set_cons_succ]
        refine wpAnyH_take (i := 8) (oi := { dst := some 38, op := Op.move (Operand.tmp 37), type := 4, pos := "law.go:87", after := #[{ on := 7, ground := Ground.data }, { on := 6, ground := Ground.chain }], guard := none }) (v := (.bool false)) rfl (by kernel_rfl) (by kernel_rfl) (by kernel_rfl) (fun _ _ _ h => h) (Or.inl ⟨by rfl, (by intro w hSw; (try dsimp only at hSw); go_simp)⟩) (by assumption) ?_
        try simp only [Act.put, List.setIfInBounds_toArray, List.set_cons_zero, List.set_cons_succ]
        refine wpAnyH_take (i := 9) (oi := { dst := some 39, op := Op.move (Operand.tmp 3), type := 23, pos := "law.go:87", after := #[{ on := 8, ground := Ground.guard }], guard := some (8, false) }) (v := (ptr x)) rfl (by kernel_rfl) (by kernel_rfl) (by kernel_rfl) (fun _ _ _ h => h) (Or.inl ⟨by rfl, (by intro w hSw; (try dsimp only at hSw); go_simp)⟩) (by assumption) ?_
        try simp only [Act.put, List.setIfInBounds_toArray, List.set_cons_zero, List.set_cons_succ]
        refine wpAnyH_take (i := 11) (oi := { dst := some 41, op := Op.move (Operand.tmp 4), type := 25, pos := "law.go:87", after := #[{ on := 8, ground := Ground.guard }], guard := some (8, false) }) (v := (ptr y)) rfl (by kernel_rfl) (by kernel_rfl) (by kernel_rfl) (fun _ _ _ h => h) (Or.inl ⟨by rfl, (by intro w hSw; (try dsimp only at hSw); go_simp)⟩) (by assumption) ?_
        try simp only [Act.put, List.setIfInBounds_toArray, List.set_cons_zero, List.set_cons_succ]
        refine wpAnyH_take (i := 12) (oi := { dst := some 42, op := Op.nilCheck (Operand.tmp 41), type := 0, pos := "law.go:87", after := #[{ on := 11, ground := Ground.data }, { on := 8, ground := Ground.guard }], guard := some (8, false) }) (v := (ptr y)) rfl (by kernel_rfl) (by kernel_rfl) (by kernel_rfl) (fun _ _ _ h => h) (Or.inl ⟨by rfl, (by intro w hSw; (try dsimp only at hSw); go_simp)⟩) (by assumption) ?_
        try simp only [Act.put, List.setIfInBounds_toArray, List.set_cons_zero, List.set_cons_succ]
        refine wpAnyH_take (i := 13) (oi := { dst := some 43, op := Op.fieldAddr 41 (Operand.tmp 42) 0, type := 0, pos := "law.go:87", after := #[{ on := 12, ground := Ground.data }, { on := 8, ground := Ground.guard }], guard := some (8, false) }) (v := (.pointer (some ⟨y, 0, none⟩))) rfl (by kernel_rfl) (by kernel_rfl) (by kernel_rfl) (fun _ _ _ h => h) (Or.inl ⟨by rfl, (by intro w hSw; (try dsimp only at hSw); go_simp)⟩) (by assumption) ?_
        try simp only [Act.put, List.setIfInBounds_toArray, List.set_cons_zero, List.set_cons_succ]
        refine wpAnyH_take (i := 14) (oi := { dst := some 44, op := Op.load 39 (Operand.tmp 43), type := 39, pos := "law.go:87", after := #[{ on := 13, ground := Ground.data }, { on := 8, ground := Ground.guard }], guard := some (8, false) }) (v := (.slice (some ⟨lg, 0, none⟩) ln lc)) rfl (by kernel_rfl) (by kernel_rfl) (by kernel_rfl) (fun _ _ _ h => h) (Or.inl ⟨by rfl, (by intro w hSw; (try dsimp only at hSw); go_simp)⟩) (by assumption) ?_
        try simp only [Act.put, List.setIfInBounds_toArray, List.set_cons_zero, List.set_cons_succ]
        refine wpAnyH_take (i := 15) (oi := { dst := some 45, op := Op.call { callee := Callee.builtin Builtin.len, args := #[Operand.tmp 44], argTypes := #[39] }, type := 3, pos := "law.go:87", after := #[{ on := 14, ground := Ground.data }, { on := 8, ground := Ground.guard }], guard := some (8, false) }) (v := (iv (ln : Int))) rfl (by kernel_rfl) (by kernel_rfl) (by kernel_rfl) (fun _ _ _ h => h) (Or.inl ⟨by rfl, (by intro w hSw; (try dsimp only at hSw); go_simp)⟩) (by assumption) ?_
        try simp only [Act.put, List.setIfInBounds_toArray, List.set_cons_zero, List.set_cons_succ]
        refine wpAnyH_ready (rs := [10]) (by kernel_rfl) (by simp) (AllReadyH.cons (o := { dst := some 40, op := Op.call { callee := Callee.value (Operand.func 13), args := #[Operand.tmp 39], argTypes := #[23] }, type := 3, pos := "law.go:87", after := #[{ on := 9, ground := Ground.data }, { on := 8, ground := Ground.chain }, { on := 8, ground := Ground.guard }], guard := some (8, false) }) rfl (fun K hK => ?_) AllReadyH.nil)
        refine step_call1w 13 _ _ (by rfl) rfl enters13 _ (by simp [Act.eval]) (hl1 _ (Below.refl _ _)) ?_
        rintro e w6 ⟨rfl, h6⟩
        rw [h6]
        clear h6
        refine ⟨_, rfl, ?_⟩
        refine hK.out _ _ hH5 (fun _ => ?_)
        clear hK K
        try simp only [Act.put, List.setIfInBounds_toArray, List.set_cons_zero, List.set_cons_succ]
        refine wpAnyH_take (i := 16) (oi := { dst := some 46, op := Op.binOp BinOp.neq 3 (Operand.tmp 40) (Operand.tmp 45) 3, type := 4, pos := "law.go:87", after := #[{ on := 10, ground := Ground.data }, { on := 15, ground := Ground.data }, { on := 8, ground := Ground.guard }], guard := some (8, false) }) (v := (.bool false)) rfl (by kernel_rfl) (by kernel_rfl) (by kernel_rfl) (fun _ _ _ h => h) (Or.inl ⟨by rfl, (by intro w hSw; (try dsimp only at hSw); go_simp)⟩) (by assumption) ?_
        try simp only [Act.put, List.setIfInBounds_toArray, List.set_cons_zero, List.set_cons_succ]
        refine wpAnyH_take (i := 17) (oi := { dst := some 47, op := Op.pick (Operand.tmp 38) (Operand.const (Value.bool true)) (Operand.tmp 46), type := 4, pos := "law.go:87", after := #[{ on := 8, ground := Ground.data }, { on := 16, ground := Ground.data }], guard := none }) (v := (.bool false)) rfl (by kernel_rfl) (by kernel_rfl) (by kernel_rfl) (fun _ _ _ h => h) (Or.inl ⟨by rfl, (by intro w hSw; (try dsimp only at hSw); go_simp)⟩) (by assumption) ?_
        try simp only [Act.put, List.setIfInBounds_toArray, List.set_cons_zero, List.set_cons_succ]
        refine wpAnyH_take (i := 18) (oi := { dst := some 48, op := Op.move (Operand.tmp 47), type := 4, pos := "law.go:87", after := #[{ on := 17, ground := Ground.data }, { on := 10, ground := Ground.chain }], guard := none }) (v := (.bool false)) rfl (by kernel_rfl) (by kernel_rfl) (by kernel_rfl) (fun _ _ _ h => h) (Or.inl ⟨by rfl, (by intro w hSw; (try dsimp only at hSw); go_simp)⟩) (by assumption) ?_
        try simp only [Act.put, List.setIfInBounds_toArray, List.set_cons_zero, List.set_cons_succ]
        refine wpAnyH_take (i := 19) (oi := { dst := some 49, op := Op.move (Operand.tmp 3), type := 23, pos := "law.go:87", after := #[{ on := 18, ground := Ground.guard }], guard := some (18, false) }) (v := (ptr x)) rfl (by kernel_rfl) (by kernel_rfl) (by kernel_rfl) (fun _ _ _ h => h) (Or.inl ⟨by rfl, (by intro w hSw; (try dsimp only at hSw); go_simp)⟩) (by assumption) ?_
        try simp only [Act.put, List.setIfInBounds_toArray, List.set_cons_zero, List.set_cons_succ]
        refine wpAnyH_take (i := 20) (oi := { dst := some 50, op := Op.move (Operand.tmp 0), type := 22, pos := "law.go:87", after := #[{ on := 18, ground := Ground.guard }], guard := some (18, false) }) (v := (.slice (some ⟨b, off, none⟩) len cap)) rfl (by kernel_rfl) (by kernel_rfl) (by kernel_rfl) (fun _ _ _ h => h) (Or.inl ⟨by rfl, (by intro w hSw; (try dsimp only at hSw); go_simp)⟩) (by assumption) ?_
        try simp only [Act.put, List.setIfInBounds_toArray, List.set_cons_zero, List.set_cons_succ]
        refine wpAnyH_take (i := 21) (oi := { dst := some 51, op := Op.move (Operand.tmp 5), type := 3, pos := "law.go:87", after := #[{ on := 18, ground := Ground.guard }], guard := some (18, false) }) (v := (.int .i64 (i : Int))) rfl (by kernel_rfl) (by kernel_rfl) (by kernel_rfl) (fun _ _ _ h => h) (Or.inl ⟨by rfl, (by intro w hSw; (try dsimp only at hSw); go_simp)⟩) (by assumption) ?_
        try simp only [Act.put, List.setIfInBounds_toArray, List.set_cons_zero, List.set_cons_succ]
        refine wpAnyH_take (i := 22) (oi := { dst := some 52, op := Op.indexAddr 22 (Operand.tmp 50) (Operand.tmp 51), type := 0, pos := "law.go:87", after := #[{ on := 20, ground := Ground.data }, { on := 21, ground := Ground.data }, { on := 18, ground := Ground.guard }], guard := some (18, false) }) (v := (.pointer (some ⟨b, off + i * 15, none⟩))) rfl (by kernel_rfl) (by kernel_rfl) (by kernel_rfl) (fun _ _ _ h => h) (Or.inl ⟨by rfl, (by intro w hSw; (try dsimp only at hSw); go_simp)⟩) (by assumption) ?_
        try simp only [Act.put, List.setIfInBounds_toArray, List.set_cons_zero, List.set_cons_succ]
        refine wpAnyH_take (i := 23) (oi := { dst := some 53, op := Op.fieldAddr 37 (Operand.tmp 52) 2, type := 0, pos := "law.go:87", after := #[{ on := 22, ground := Ground.data }, { on := 18, ground := Ground.guard }], guard := some (18, false) }) (v := (.pointer (some ⟨b, off + i * 15 + 2, none⟩))) rfl (by kernel_rfl) (by kernel_rfl) (by kernel_rfl) (fun _ _ _ h => h) (Or.inl ⟨by rfl, (by intro w hSw; (try dsimp only at hSw); go_simp)⟩) (by assumption) ?_
        try simp only [Act.put, List.setIfInBounds_toArray, List.set_cons_zero, List.set_cons_succ]
        refine wpAnyH_take (i := 24) (oi := { dst := some 54, op := Op.load 3 (Operand.tmp 53), type := 3, pos := "law.go:87", after := #[{ on := 23, ground := Ground.data }, { on := 18, ground := Ground.guard }], guard := some (18, false) }) (v := (iv T.b)) rfl (by kernel_rfl) (by kernel_rfl) (by kernel_rfl) (fun _ _ _ h => h) (Or.inl ⟨by rfl, (by intro w hSw; (try dsimp only at hSw); go_simp)⟩) (by assumption) ?_
        try simp only [Act.put, List.setIfInBounds_toArray, List.set_cons_zero, List.set_cons_succ]
        refine wpAnyH_take (i := 26) (oi := { dst := some 56, op := Op.move (Operand.tmp 4), type := 25, pos := "law.go:87", after := #[{ on := 18, ground := Ground.guard }], guard := some (18, false) }) (v := (ptr y)) rfl (by kernel_rfl) (by kernel_rfl) (by kernel_rfl) (fun _ _ _ h => h) (Or.inl ⟨by rfl, (by intro w hSw; (try dsimp only at hSw); go_simp)⟩) (by assumption) ?_
        try simp only [Act.put, List.setIfInBounds_toArray, List.set_cons_zero, List.set_cons_succ]
        refine wpAnyH_take (i := 27) (oi := { dst := some 57, op := Op.move (Operand.tmp 0), type := 22, pos := "law.go:87", after := #[{ on := 18, ground := Ground.guard }], guard := some (18, false) }) (v := (.slice (some ⟨b, off, none⟩) len cap)) rfl (by kernel_rfl) (by kernel_rfl) (by kernel_rfl) (fun _ _ _ h => h) (Or.inl ⟨by rfl, (by intro w hSw; (try dsimp only at hSw); go_simp)⟩) (by assumption) ?_
        try simp only [Act.put, List.setIfInBounds_toArray, List.set_cons_zero, List.set_cons_succ]
        refine wpAnyH_take (i := 28) (oi := { dst := some 58, op := Op.move (Operand.tmp 5), type := 3, pos := "law.go:87", after := #[{ on := 18, ground := Ground.guard }], guard := some (18, false) }) (v := (.int .i64 (i : Int))) rfl (by kernel_rfl) (by kernel_rfl) (by kernel_rfl) (fun _ _ _ h => h) (Or.inl ⟨by rfl, (by intro w hSw; (try dsimp only at hSw); go_simp)⟩) (by assumption) ?_
        try simp only [Act.put, List.setIfInBounds_toArray, List.set_cons_zero, List.set_cons_succ]
        refine wpAnyH_take (i := 29) (oi := { dst := some 59, op := Op.indexAddr 22 (Operand.tmp 57) (Operand.tmp 58), type := 0, pos := "law.go:87", after := #[{ on := 27, ground := Ground.data }, { on := 28, ground := Ground.data }, { on := 18, ground := Ground.guard }], guard := some (18, false) }) (v := (.pointer (some ⟨b, off + i * 15, none⟩))) rfl (by kernel_rfl) (by kernel_rfl) (by kernel_rfl) (fun _ _ _ h => h) (Or.inl ⟨by rfl, (by intro w hSw; (try dsimp only at hSw); go_simp)⟩) (by assumption) ?_
        try simp only [Act.put, List.setIfInBounds_toArray, List.set_cons_zero, List.set_cons_succ]
        refine wpAnyH_take (i := 30) (oi := { dst := some 60, op := Op.fieldAddr 37 (Operand.tmp 59) 2, type := 0, pos := "law.go:87", after := #[{ on := 29, ground := Ground.data }, { on := 18, ground := Ground.guard }], guard := some (18, false) }) (v := (.pointer (some ⟨b, off + i * 15 + 2, none⟩))) rfl (by kernel_rfl) (by kernel_rfl) (by kernel_rfl) (fun _ _ _ h => h) (Or.inl ⟨by rfl, (by intro w hSw; (try dsimp only at hSw); go_simp)⟩) (by assumption) ?_
        try simp only [Act.put, List.setIfInBounds_toArray, List.set_cons_zero, List.set_cons_succ]
        refine wpAnyH_take (i := 31) (oi := { dst := some 61, op := Op.load 3 (Operand.tmp 60), type := 3, pos := "law.go:87", after := #[{ on := 30, ground := Ground.data }, { on := 18, ground := Ground.guard }], guard := some (18, false) }) (v := (iv T.b)) rfl (by kernel_rfl) (by kernel_rfl) (by kernel_rfl) (fun _ _ _ h => h) (Or.inl ⟨by rfl, (by intro w hSw; (try dsimp only at hSw); go_simp)⟩) (by assumption) ?_
        try simp only [Act.put, List.setIfInBounds_toArray, List.set_cons_zero, List.set_cons_succ]
        refine wpAnyH_ready (rs := [25]) (by kernel_rfl) (by simp) (AllReadyH.cons (o := { dst := some 55, op := Op.call { callee := Callee.value (Operand.func 14), args := #[Operand.tmp 49, Operand.tmp 54], argTypes := #[23, 3] }, type := 3, pos := "law.go:87", after := #[{ on := 19, ground := Ground.data }, { on := 24, ground := Ground.data }, { on := 18, ground := Ground.chain }, { on := 18, ground := Ground.guard }], guard := some (18, false) }) rfl (fun K hK => ?_) AllReadyH.nil)
        refine step_call2w 14 _ _ _ (by rfl) rfl enters14 _ _ (by simp [Act.eval]) (by simp [Act.eval]) (hp1 _ (Below.refl _ _)) ?_
        rintro e w6 ⟨rfl, h6⟩
        rw [h6]
        clear h6
        refine ⟨_, rfl, ?_⟩
        refine hK.out _ _ hH5 (fun _ => ?_)
        clear hK K
        try simp only [Act.put, List.setIfInBounds_toArray, List.set_cons_zero, List.set_cons_succ]
        refine wpAnyH_ready (rs := [32]) (by kernel_rfl) (by simp) (AllReadyH.cons (o := { dst := some 62, op := Op.call { callee := Callee.value (Operand.func 15), args := #[Operand.tmp 56, Operand.tmp 61], argTypes := #[25, 3] }, type := 3, pos := "law.go:87", after := #[{ on := 26, ground := Ground.data }, { on := 31, ground := Ground.data }, { on := 25, ground := Ground.chain }, { on := 18, ground := Ground.guard }], guard := some (18, false) }) rfl (fun K hK => ?_) AllReadyH.nil)
        refine step_call2w 15 _ _ _ (by rfl) rfl enters15 _ _ (by simp [Act.eval]) (by simp [Act.eval]) (hp2 _ (Below.refl _ _)) ?_
        rintro e w6 ⟨rfl, h6⟩
        rw [h6]
        clear h6
        refine ⟨_, rfl, ?_⟩
        refine hK.out _ _ hH5 (fun _ => ?_)
        clear hK K
        try simp only [Act.put, List.setIfInBounds_toArray, List.set_cons_zero, List.set_cons_succ]
        refine wpAnyH_take (i := 33) (oi := { dst := some 63, op := Op.binOp BinOp.neq 3 (Operand.tmp 55) (Operand.tmp 62) 3, type := 4, pos := "law.go:87", after := #[{ on := 25, ground := Ground.data }, { on := 32, ground := Ground.data }, { on := 18, ground := Ground.guard }], guard := some (18, false) }) (v := (.bool false)) rfl (by kernel_rfl) (by kernel_rfl) (by kernel_rfl) (fun _ _ _ h => h) (Or.inl ⟨by rfl, (by intro w hSw; (try dsimp only at hSw); go_simp)⟩) (by assumption) ?_
        try simp only [Act.put, List.setIfInBounds_toArray, List.set_cons_zero, List.set_cons_succ]
        refine wpAnyH_take (i := 34) (oi := { dst := some 64, op := Op.pick (Operand.tmp 48) (Operand.const (Value.bool true)) (Operand.tmp 63), type := 4, pos := "law.go:87", after := #[{ on := 18, ground := Ground.data }, { on := 33, ground := Ground.data }], guard := none }) (v := (.bool false)) rfl (by kernel_rfl) (by kernel_rfl) (by kernel_rfl) (fun _ _ _ h => h) (Or.inl ⟨by rfl, (by intro w hSw; (try dsimp only at hSw); go_simp)⟩) (by assumption) ?_
        try simp only [Act.put, List.setIfInBounds_toArray, List.set_cons_zero, List.set_cons_succ]
        refine wpAnyH_take (i := 35) (oi := { dst := some 65, op := Op.move (Operand.tmp 64), type := 4, pos := "law.go:87", after := #[{ on := 34, ground := Ground.data }, { on := 32, ground := Ground.chain }], guard := none }) (v := (.bool false)) rfl (by kernel_rfl) (by kernel_rfl) (by kernel_rfl) (fun _ _ _ h => h) (Or.inl ⟨by rfl, (by intro w hSw; (try dsimp only at hSw); go_simp)⟩) (by assumption) ?_
        try simp only [Act.put, List.setIfInBounds_toArray, List.set_cons_zero, List.set_cons_succ]
        refine wpAnyH_take (i := 36) (oi := { dst := some 66, op := Op.move (Operand.tmp 3), type := 23, pos := "law.go:87", after := #[{ on := 35, ground := Ground.guard }], guard := some (35, false) }) (v := (ptr x)) rfl (by kernel_rfl) (by kernel_rfl) (by kernel_rfl) (fun _ _ _ h => h) (Or.inl ⟨by rfl, (by intro w hSw; (try dsimp only at hSw); go_simp)⟩) (by assumption) ?_
        try simp only [Act.put, List.setIfInBounds_toArray, List.set_cons_zero, List.set_cons_succ]
        refine wpAnyH_take (i := 37) (oi := { dst := some 67, op := Op.move (Operand.tmp 0), type := 22, pos := "law.go:87", after := #[{ on := 35, ground := Ground.guard }], guard := some (35, false) }) (v := (.slice (some ⟨b, off, none⟩) len cap)) rfl (by kernel_rfl) (by kernel_rfl) (by kernel_rfl) (fun _ _ _ h => h) (Or.inl ⟨by rfl, (by intro w hSw; (try dsimp only at hSw); go_simp)⟩) (by assumption) ?_
        try simp only [Act.put, List.setIfInBounds_toArray, List.set_cons_zero, List.set_cons_succ]
        refine wpAnyH_take (i := 38) (oi := { dst := some 68, op := Op.move (Operand.tmp 5), type := 3, pos := "law.go:87", after := #[{ on := 35, ground := Ground.guard }], guard := some (35, false) }) (v := (.int .i64 (i : Int))) rfl (by kernel_rfl) (by kernel_rfl) (by kernel_rfl) (fun _ _ _ h => h) (Or.inl ⟨by rfl, (by intro w hSw; (try dsimp only at hSw); go_simp)⟩) (by assumption) ?_
        try simp only [Act.put, List.setIfInBounds_toArray, List.set_cons_zero, List.set_cons_succ]
        refine wpAnyH_take (i := 39) (oi := { dst := some 69, op := Op.indexAddr 22 (Operand.tmp 67) (Operand.tmp 68), type := 0, pos := "law.go:87", after := #[{ on := 37, ground := Ground.data }, { on := 38, ground := Ground.data }, { on := 35, ground := Ground.guard }], guard := some (35, false) }) (v := (.pointer (some ⟨b, off + i * 15, none⟩))) rfl (by kernel_rfl) (by kernel_rfl) (by kernel_rfl) (fun _ _ _ h => h) (Or.inl ⟨by rfl, (by intro w hSw; (try dsimp only at hSw); go_simp)⟩) (by assumption) ?_
        try simp only [Act.put, List.setIfInBounds_toArray, List.set_cons_zero, List.set_cons_succ]
        refine wpAnyH_take (i := 40) (oi := { dst := some 70, op := Op.fieldAddr 37 (Operand.tmp 69) 1, type := 0, pos := "law.go:87", after := #[{ on := 39, ground := Ground.data }, { on := 35, ground := Ground.guard }], guard := some (35, false) }) (v := (.pointer (some ⟨b, off + i * 15 + 1, none⟩))) rfl (by kernel_rfl) (by kernel_rfl) (by kernel_rfl) (fun _ _ _ h => h) (Or.inl ⟨by rfl, (by intro w hSw; (try dsimp only at hSw); go_simp)⟩) (by assumption) ?_
        try simp only [Act.put, List.setIfInBounds_toArray, List.set_cons_zero, List.set_cons_succ]
        refine wpAnyH_take (i := 41) (oi := { dst := some 71, op := Op.load 3 (Operand.tmp 70), type := 3, pos := "law.go:87", after := #[{ on := 40, ground := Ground.data }, { on := 35, ground := Ground.guard }], guard := some (35, false) }) (v := (iv T.a)) rfl (by kernel_rfl) (by kernel_rfl) (by kernel_rfl) (fun _ _ _ h => h) (Or.inl ⟨by rfl, (by intro w hSw; (try dsimp only at hSw); go_simp)⟩) (by assumption) ?_
        try simp only [Act.put, List.setIfInBounds_toArray, List.set_cons_zero, List.set_cons_succ]
        refine wpAnyH_take (i := 43) (oi := { dst := some 73, op := Op.move (Operand.tmp 4), type := 25, pos := "law.go:87", after := #[{ on := 35, ground := Ground.guard }], guard := some (35, false) }) (v := (ptr y)) rfl (by kernel_rfl) (by kernel_rfl) (by kernel_rfl) (fun _ _ _ h => h) (Or.inl ⟨by rfl, (by intro w hSw; (try dsimp only at hSw); go_simp)⟩) (by assumption) ?_
        try simp only [Act.put, List.setIfInBounds_toArray, List.set_cons_zero, List.set_cons_succ]
        refine wpAnyH_take (i := 44) (oi := { dst := some 74, op := Op.move (Operand.tmp 0), type := 22, pos := "law.go:87", after := #[{ on := 35, ground := Ground.guard }], guard := some (35, false) }) (v := (.slice (some ⟨b, off, none⟩) len cap)) rfl (by kernel_rfl) (by kernel_rfl) (by kernel_rfl) (fun _ _ _ h => h) (Or.inl ⟨by rfl, (by intro w hSw; (try dsimp only at hSw); go_simp)⟩) (by assumption) ?_
        try simp only [Act.put, List.setIfInBounds_toArray, List.set_cons_zero, List.set_cons_succ]
        refine wpAnyH_take (i := 45) (oi := { dst := some 75, op := Op.move (Operand.tmp 5), type := 3, pos := "law.go:87", after := #[{ on := 35, ground := Ground.guard }], guard := some (35, false) }) (v := (.int .i64 (i : Int))) rfl (by kernel_rfl) (by kernel_rfl) (by kernel_rfl) (fun _ _ _ h => h) (Or.inl ⟨by rfl, (by intro w hSw; (try dsimp only at hSw); go_simp)⟩) (by assumption) ?_
        try simp only [Act.put, List.setIfInBounds_toArray, List.set_cons_zero, List.set_cons_succ]
        refine wpAnyH_take (i := 46) (oi := { dst := some 76, op := Op.indexAddr 22 (Operand.tmp 74) (Operand.tmp 75), type := 0, pos := "law.go:87", after := #[{ on := 44, ground := Ground.data }, { on := 45, ground := Ground.data }, { on := 35, ground := Ground.guard }], guard := some (35, false) }) (v := (.pointer (some ⟨b, off + i * 15, none⟩))) rfl (by kernel_rfl) (by kernel_rfl) (by kernel_rfl) (fun _ _ _ h => h) (Or.inl ⟨by rfl, (by intro w hSw; (try dsimp only at hSw); go_simp)⟩) (by assumption) ?_
        try simp only [Act.put, List.setIfInBounds_toArray, List.set_cons_zero, List.set_cons_succ]
        refine wpAnyH_take (i := 47) (oi := { dst := some 77, op := Op.fieldAddr 37 (Operand.tmp 76) 1, type := 0, pos := "law.go:87", after := #[{ on := 46, ground := Ground.data }, { on := 35, ground := Ground.guard }], guard := some (35, false) }) (v := (.pointer (some ⟨b, off + i * 15 + 1, none⟩))) rfl (by kernel_rfl) (by kernel_rfl) (by kernel_rfl) (fun _ _ _ h => h) (Or.inl ⟨by rfl, (by intro w hSw; (try dsimp only at hSw); go_simp)⟩) (by assumption) ?_
        try simp only [Act.put, List.setIfInBounds_toArray, List.set_cons_zero, List.set_cons_succ]
        refine wpAnyH_take (i := 48) (oi := { dst := some 78, op := Op.load 3 (Operand.tmp 77), type := 3, pos := "law.go:87", after := #[{ on := 47, ground := Ground.data }, { on := 35, ground := Ground.guard }], guard := some (35, false) }) (v := (iv T.a)) rfl (by kernel_rfl) (by kernel_rfl) (by kernel_rfl) (fun _ _ _ h => h) (Or.inl ⟨by rfl, (by intro w hSw; (try dsimp only at hSw); go_simp)⟩) (by assumption) ?_
        try simp only [Act.put, List.setIfInBounds_toArray, List.set_cons_zero, List.set_cons_succ]
        refine wpAnyH_ready (rs := [42]) (by kernel_rfl) (by simp) (AllReadyH.cons (o := { dst := some 72, op := Op.call { callee := Callee.value (Operand.func 17), args := #[Operand.tmp 66, Operand.tmp 71], argTypes := #[23, 3] }, type := 44, pos := "law.go:87", after := #[{ on := 36, ground := Ground.data }, { on := 41, ground := Ground.data }, { on := 35, ground := Ground.chain }, { on := 35, ground := Ground.guard }], guard := some (35, false) }) rfl (fun K hK => ?_) AllReadyH.nil)
        refine step_call2w 17 _ _ _ (by rfl) rfl enters17 _ _ (by simp [Act.eval]) (by simp [Act.eval]) (hk1 _ (Below.refl _ _)) ?_
        rintro e w8 ⟨ao, ac, rfl, b8, ha8⟩
        have hH8 : (w8.cell? ⟨b, off + i * 15, none⟩ = some (iv T.k) ∧ w8.cell? ⟨b, off + i * 15 + 1, none⟩ = some (iv T.a) ∧ w8.cell? ⟨b, off + i * 15 + 2, none⟩ = some (iv T.b) ∧ w8.cell? ⟨b, off + i * 15 + 3, none⟩ = some (iv T.c) ∧ w8.cell? ⟨b, off + i * 15 + 4, none⟩ = some (iv T.d.id) ∧ w8.cell? ⟨b, off + i * 15 + 5, none⟩ = some (iv T.d.kind) ∧ w8.cell? ⟨b, off + i * 15 + 6, none⟩ = some (iv T.d.space) ∧ w8.cell? ⟨b, off + i * 15 + 7, none⟩ = some (.string T.d.name) ∧ w8.cell? ⟨b, off + i * 15 + 8, none⟩ = some (.string T.d.text) ∧ w8.cell? ⟨b, off + i * 15 + 9, none⟩ = some (.slice T.ao T.d.al.length T.ac) ∧ w8.cell? ⟨b, off + i * 15 + 10, none⟩ = some (iv T.d.sf) ∧ w8.cell? ⟨b, off + i * 15 + 11, none⟩ = some (iv T.d.st) ∧ w8.cell? ⟨b, off + i * 15 + 12, none⟩ = some (iv T.d.ef) ∧ w8.cell? ⟨b, off + i * 15 + 13, none⟩ = some (iv T.d.et) ∧ w8.cell? ⟨b, off + i * 15 + 14, none⟩ = some (.slice T.ko T.kn T.kc)) ∧ w8.cell? ⟨y, 0, none⟩ = some (.slice (some ⟨lg, 0, none⟩) ln lc) := ⟨HCK.out _ HD5.out _ b8, (cell_same (b8.block y ly2) 0).trans ly⟩
        refine ⟨_, rfl, ?_⟩
        refine hK.out _ _ hH8 (fun _ => ?_)
        clear hK K
        try simp only [Act.put, List.setIfInBounds_toArray, List.set_cons_zero, List.set_cons_succ]
        refine wpAnyH_ready (rs := [49]) (by kernel_rfl) (by simp) (AllReadyH.cons (o := { dst := some 79, op := Op.call { callee := Callee.value (Operand.func 18), args := #[Operand.tmp 73, Operand.tmp 78], argTypes := #[25, 3] }, type := 44, pos := "law.go:87", after := #[{ on := 43, ground := Ground.data }, { on := 48, ground := Ground.data }, { on := 42, ground := Ground.chain }, { on := 35, ground := Ground.guard }], guard := some (35, false) }) rfl (fun K hK => ?_) AllReadyH.nil)
        refine step_call2w 18 _ _ _ (by rfl) rfl enters18 _ _ (by simp [Act.eval]) (by simp [Act.eval]) (hk2 _ b8) ?_
        rintro e w6 ⟨rfl, h6⟩
        rw [h6]
        clear h6
        refine ⟨_, rfl, ?_⟩
        refine hK.out _ _ hH8 (fun _ => ?_)
        clear hK K
        try simp only [Act.put, List.setIfInBounds_toArray, List.set_cons_zero, List.set_cons_succ]
        refine wpAnyH_ready (rs := [50]) (by kernel_rfl) (by simp) (AllReadyH.cons (o := { dst := some 80, op := Op.call { callee := Callee.value (Operand.func 16), args := #[Operand.tmp 72, Operand.tmp 79], argTypes := #[44, 44] }, type := 4, pos := "law.go:87", after := #[{ on := 42, ground := Ground.data }, { on := 49, ground := Ground.data }, { on := 49, ground := Ground.chain }, { on := 35, ground := Ground.guard }], guard := some (35, false) }) rfl (fun K hK => ?_) AllReadyH.nil)
        refine step_call2w 16 _ _ _ (by rfl) rfl enters16 _ _ (by simp [Act.eval]) (by simp [Act.eval]) (ints_any kn ac bc ha8 (kh3.old b8) kh1 kh2) ?_
        rintro e w9 ⟨rfl, b9⟩
        have hH9 : (w9.cell? ⟨b, off + i * 15, none⟩ = some (iv T.k) ∧ w9.cell? ⟨b, off + i * 15 + 1, none⟩ = some (iv T.a) ∧ w9.cell? ⟨b, off + i * 15 + 2, none⟩ = some (iv T.b) ∧ w9.cell? ⟨b, off + i * 15 + 3, none⟩ = some (iv T.c) ∧ w9.cell? ⟨b, off + i * 15 + 4, none⟩ = some (iv T.d.id) ∧ w9.cell? ⟨b, off + i * 15 + 5, none⟩ = some (iv T.d.kind) ∧ w9.cell? ⟨b, off + i * 15 + 6, none⟩ = some (iv T.d.space) ∧ w9.cell? ⟨b, off + i * 15 + 7, none⟩ = some (.string T.d.name) ∧ w9.cell? ⟨b, off + i * 15 + 8, none⟩ = some (.string T.d.text) ∧ w9.cell? ⟨b, off + i * 15 + 9, none⟩ = some (.slice T.ao T.d.al.length T.ac) ∧ w9.cell? ⟨b, off + i * 15 + 10, none⟩ = some (iv T.d.sf) ∧ w9.cell? ⟨b, off + i * 15 + 11, none⟩ = some (iv T.d.st) ∧ w9.cell? ⟨b, off + i * 15 + 12, none⟩ = some (iv T.d.ef) ∧ w9.cell? ⟨b, off + i * 15 + 13, none⟩ = some (iv T.d.et) ∧ w9.cell? ⟨b, off + i * 15 + 14, none⟩ = some (.slice T.ko T.kn T.kc)) ∧ w9.cell? ⟨y, 0, none⟩ = some (.slice (some ⟨lg, 0, none⟩) ln lc) := ⟨HCK.out _ HD5.out _ (b8.trans (b9.mono b8.size)), (cell_same ((b8.trans (b9.mono b8.size)).block y ly2) 0).trans ly⟩
        refine ⟨_, rfl, ?_⟩
        refine hK.out _ _ hH9 (fun _ => ?_)
        clear hK K
        try simp only [Act.put, List.setIfInBounds_toArray, List.set_cons_zero, List.set_cons_succ]
        refine wpAnyH_take (i := 51) (oi := { dst := some 81, op := Op.unOp UnOp.not 4 (Operand.tmp 80), type := 4, pos := "law.go:87", after := #[{ on := 50, ground := Ground.data }, { on := 35, ground := Ground.guard }], guard := some (35, false) }) (v := (.bool false)) rfl (by kernel_rfl) (by kernel_rfl) (by kernel_rfl) (fun _ _ _ h => h) (Or.inl ⟨by rfl, (by intro w hSw; (try dsimp only at hSw); go_simp)⟩) (by assumption) ?_
        try simp only [Act.put, List.setIfInBounds_toArray, List.set_cons_zero, List.set_cons_succ]
        refine wpAnyH_take (i := 52) (oi := { dst := some 82, op := Op.pick (Operand.tmp 65) (Operand.const (Value.bool true)) (Operand.tmp 81), type := 4, pos := "law.go:87", after := #[{ on := 35, ground := Ground.data }, { on := 51, ground := Ground.data }], guard := none }) (v := (.bool false)) rfl (by kernel_rfl) (by kernel_rfl) (by kernel_rfl) (fun _ _ _ h => h) (Or.inl ⟨by rfl, (by intro w hSw; (try dsimp only at hSw); go_simp)⟩) (by assumption) ?_
        try simp only [Act.put, List.setIfInBounds_toArray, List.set_cons_zero, List.set_cons_succ]
        refine wpAnyH_done (by kernel_rfl) ?_ _
        clear hH5 hH8 hH9
        go_wp2_with fail
        go_roundg k
        case measure => omega
        case rel => exact ⟨i + 1, by go_num, by omega, by omega, HD5.out.old (b8.trans (b9.mono b8.size))⟩
      · obtain ⟨D, K, ht, he⟩ : ∃ D K, Trees wr x y D K ∧ ∀ (Q U : Nat → Prop) (w : World) (av kv av' kv' : Value), TV Q w D K 0 av kv → TV U w D K 0 av' kv' → Calls Try.prog 19 #[.agg #[iv (D 0).id, iv (D 0).kind, iv (D 0).space, .string (D 0).name, .string (D 0).text, av, iv (D 0).sf, iv (D 0).st, iv (D 0).ef, iv (D 0).et, kv], .agg #[iv (D 0).id, iv (D 0).kind, iv (D 0).space, .string (D 0).name, .string (D 0).text, av', iv (D 0).sf, iv (D 0).st, iv (D 0).ef, iv (D 0).et, kv']] w fun e w' => e = .returned (.bool true) ∧ Below w.heap.size w w' := by
          obtain ⟨_, N, P, E, L, h1, h2, h3⟩ := HI.out
          exact h3.trees h1 (by omega)
        have HT : Hid (Trees wr x y D K) := ht
        have HE : Hid (∀ (Q U : Nat → Prop) (w : World) (av kv av' kv' : Value), TV Q w D K 0 av kv → TV U w D K 0 av' kv' → Calls Try.prog 19 #[.agg #[iv (D 0).id, iv (D 0).kind, iv (D 0).space, .string (D 0).name, .string (D 0).text, av, iv (D 0).sf, iv (D 0).st, iv (D 0).ef, iv (D 0).et, kv], .agg #[iv (D 0).id, iv (D 0).kind, iv (D 0).space, .string (D 0).name, .string (D 0).text, av', iv (D 0).sf, iv (D 0).st, iv (D 0).ef, iv (D 0).et, kv']] w fun e w' => e = .returned (.bool true) ∧ Below w.heap.size w w') := he
        have HB2 : Hid (Below w.heap.size w wr) := HI.out.below
        clear ht he HI HL HS
        by_cases hin : i < len
        case' pos =>
          have g1 : decide ((i : Int) < (len : Int)) = true := decide_eq_true (by omega)
          have g2 : decide ((i : Int) < 80) = false := decide_eq_false (by omega)
          have g2' : ¬ (i : Int) < 80 := by omega
          have g2'' : ¬ i < 80 := by omega
        case' neg =>
          have g1 : decide ((i : Int) < (len : Int)) = false := decide_eq_false (by omega)
        all_goals (clear hgo hig hi6; go_wp2_with fail)
        all_goals
          refine (HT.out.a _ (Below.refl _ _)).mono ?_
          rintro e w5 ⟨ao, ac, kp, kc, rfl, b5, t5⟩
          have H5 : Hid (Below wr.heap.size wr w5 ∧ TV (fun k => wr.heap.size ≤ k) w5 D K 0 (.slice ao (D 0).al.length ac) (.slice kp (K 0).length kc)) := ⟨b5, t5⟩
          clear b5 t5
          go_wp2_with fail
          refine (HT.out.r _ H5.out.1).mono ?_
          rintro e w6 ⟨ao', ac', kp', kc', rfl, b6, t6⟩
          have c19 := HE.out _ _ w6 _ _ _ _ (H5.out.2.old b6) t6
          have H6 : Hid (Below wr.heap.size wr w6) := H5.out.1.trans (b6.mono H5.out.1.size)
          clear b6 t6
          go_wp2_with fail
          refine c19.mono ?_
          clear c19
          rintro e w7 ⟨rfl, b7⟩
          have H7 : Hid (Below w.heap.size w w7) := HB2.out.trans ((H6.out.trans (b7.mono H6.out.size)).mono HB2.out.size)
          clear b7
          go_wp2_with fail
          refine (awake_any _).mono ?_
          rintro e w8 ⟨rfl, b8⟩
          have H8 : Hid (Below w.heap.size w w8) := H7.out.trans (b8.mono H7.out.size)
          clear b8
          go_wp2_with fail
          go_ret
          exact ⟨rfl, H8.out⟩
end Go.Proofs.Ytcdaghlbfclpkaa
