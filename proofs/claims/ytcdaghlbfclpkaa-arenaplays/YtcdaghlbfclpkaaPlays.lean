/- The law ArenaPlays holds for any deeds: each answer, each node's parent and kids, the number of nodes and the whole tree are the document's. No condition. -/
import Derived.Test.YtcdaghlbfclpkaaDl
import Derived.Test.YtcdaghlbfclpkaaCf
import Derived.Test.YtcdaghlbfclpkaaGb
import Derived.Deep.RegionHeld3
import Derived.Test.YtcdaghlbfclpkaaAu
import Derived.Shelf.Abstract
import Derived.Test.YtcdaghlbfclpkaaBf
namespace Go.Proofs.Ytcdaghlbfclpkaa
open Go.RowKit

set_option maxHeartbeats 1000000 in
theorem ints_any {w : World} {ao bo : Option Addr} {K : List Nat} (n ca cb : Nat) (ha : InR w ao K) (hb : InR w bo K) (hn : K.length = n) (hn2 : n ≤ 1000000000) :
    Calls Try.prog 16 #[.slice ao n ca, .slice bo n cb] w fun e w' => e = .returned (.bool true) ∧ Below w.heap.size w w' := by
  have HA : Hid (InR w ao K ∧ InR w bo K ∧ K.length = n) := ⟨ha, hb, hn⟩
  clear ha hb hn
  have hnn : ((n : Int) == (n : Int)) = true := by simp
  go_enter Try.func16, Try.ntmps16
  go_wp2_with fail
  go_loopg [5] n (fun g2 iv wr => ∃ (i q : Nat), iv = .int .i64 i ∧ i + g2 = n ∧ wr = w.drewN q)
  case atStart => exact ⟨0, 0, rfl, by omega, rfl⟩
  case round =>
    obtain ⟨i, q, rfl, hig, rfl⟩ := hrel
    cases gk with
    | zero =>
      obtain rfl : i = n := by omega
      have hg0 : decide ((i : Int) < (i : Int)) = false := decide_eq_false (by omega)
      go_wp2_with fail
      go_ret
      exact ⟨rfl, below_drewN (Below.refl _ _) _⟩
    | succ k =>
      have hin : i < n := by omega
      have g1 : decide ((i : Int) < (n : Int)) = true := decide_eq_true (by omega)
      obtain ⟨x, hx⟩ : ∃ x, K[i]? = some x := ⟨_, List.getElem?_eq_getElem (by rw [HA.out.2.2]; exact hin)⟩
      obtain ⟨b1, o1, rfl, h1, c1⟩ := HA.out.1 i x hx
      obtain ⟨b2, o2, rfl, h2, c2⟩ := HA.out.2.1 i x hx
      have hxx : ((x : Int) == (x : Int)) = true := by simp
      clear hx
      go_wp2_with fail
      go_quiet (fail)
      go_wp2_with fail
      go_roundg k
      case measure => omega
      case rel => exact ⟨i + 1, _, by go_num, by omega, rfl⟩
/-- What both arenas say of a number's parent and kids. -/
structure Both (w : World) (x y : Nat) (a b : Int) : Prop where
  par : ∃ p : Int, (∀ w', Below w.heap.size w w' → Calls Try.prog 14 #[ptr x, iv b] w' (Rd (iv p) w')) ∧ ∀ w', Below w.heap.size w w' → Calls Try.prog 15 #[ptr y, iv b] w' (Rd (iv p) w')
  kids : ∃ (n bc : Nat) (bo : Option Addr) (K : List Nat), K.length = n ∧ n ≤ 1000000000 ∧ InR w bo K ∧ (∀ w', Below w.heap.size w w' → Calls Try.prog 17 #[ptr x, iv a] w' (fun e w'' => ∃ ao ac, e = .returned (.slice ao n ac) ∧ Below w'.heap.size w' w'' ∧ InR w'' ao K)) ∧ ∀ w', Below w.heap.size w w' → Calls Try.prog 18 #[ptr y, iv a] w' (Rd (.slice bo n bc) w')
  len : ∃ (n g c : Nat), w.cell? ⟨y, 0, none⟩ = some (.slice (some ⟨g, 0, none⟩) n c) ∧ y < w.heap.size ∧ ∀ w', Below w.heap.size w w' → Calls Try.prog 13 #[ptr x] w' (Rd (iv (n : Int)) w')
theorem Rw.inr' {S : Nat → Prop} {w : World} {so : Option Addr} {n c : Nat} {K : List Nat} (h : Rw S w 3 1 (.slice so n c) n (iL K)) : InR w so K := (h.inr (D := K) (T := []) (by simp)).1
theorem Two.both {Z : Nat → Prop} {w : World} {x y : Nat} {N : List Nd} {P : List Sp} {E : List En} {L : List RN} (t : Two Z w x y N P E L) (h : Rel N P E L) (a b : Int) : Both w x y a b := by
  obtain ⟨F, t⟩ := t
  obtain ⟨g, n', cn, hh, cs, k, ce, o⟩ := t.a.open (by rw [h.nl]; exact h.n0)
  obtain rfl : n' = L.length := by rw [← o.nn, h.nl]
  obtain ⟨gr, nr, cr, o2⟩ := t.r.open h.n0
  obtain rfl : nr = L.length := o2.nn.symm
  have hfew := o2.v.few
  refine ⟨?_, ?_, L.length, gr, cr, o2.c, o2.v.lt, fun w' b => len_any (o.old b)⟩
  · cases hb : isN L.length b with
    | false => exact ⟨parP P b, fun w' q => parent_any (o.old q) b, fun w' q => by
        have hp : parP P b = -1 := by
          unfold Ytcdaghlbfclpkaa.parP
          by_cases h0 : 0 ≤ b
          · have h1 : ¬ b < (L.length : Int) := by simp [isN, h0] at hb; omega
            have h2 : P[b.toNat]? = none := List.getElem?_eq_none (by rw [h.pl]; omega)
            rw [if_pos h0, h2]
          · rw [if_neg h0]
        rw [hp]
        exact rparent_no (o2.old q) hb⟩
    | true =>
      have hi' : 0 ≤ b ∧ b < (L.length : Int) := by simpa [isN] using hb
      obtain ⟨j, rfl⟩ : ∃ j : Nat, b = (j : Int) := ⟨b.toNat, by omega⟩
      have hj : j < L.length := by omega
      refine ⟨pidOf L j, fun w' q => ?_, fun w' q => ?_⟩
      · rw [← h.parP hj]
        exact parent_any (o.old q) (j : Int)
      · rw [pidOf_of (List.getElem?_eq_getElem hj)]
        exact rparent_any (o2.old q) (List.getElem?_eq_getElem hj)
  · cases ha : isN L.length a with
    | false =>
      refine ⟨0, 0, none, [], rfl, by omega, fun j k hk => by simp at hk, fun w' q => ?_, fun w' q => rkids_no (o2.old q) ha⟩
      refine (kids_none (o.old q) ha).mono ?_
      rintro e w'' ⟨v, rfl, b1, hr⟩
      obtain ⟨ao, cap, rfl, _⟩ := hr.slice
      exact ⟨ao, cap, rfl, b1, hr.inr'⟩
    | true =>
      have hi' : 0 ≤ a ∧ a < (L.length : Int) := by simpa [isN] using ha
      obtain ⟨j, rfl⟩ : ∃ j : Nat, a = (j : Int) := ⟨a.toNat, by omega⟩
      obtain ⟨d, s, e, r, _, _, he, hr⟩ := h.atL (i := j) (by omega)
      have hf := (h.kd j e r he hr).1.chain.len (h.ap j r hr)
      rw [h.pl] at hf
      obtain ⟨bo, bc, hkv, _⟩ := (o2.v.kds r (List.mem_of_getElem? hr)).slice
      have hin := o2.v.kds r (List.mem_of_getElem? hr)
      rw [hkv] at hin
      refine ⟨r.ks.length, bc, bo, r.ks, rfl, by omega, hin.inr', fun w' q => ?_, fun w' q => ?_⟩
      · refine (kids_any (o.old q) he (h.kd j e r he hr).1.chain hf).mono ?_
        rintro e w'' ⟨v, rfl, b1, hr⟩
        obtain ⟨ao, cap, rfl, _⟩ := hr.slice
        exact ⟨ao, cap, rfl, b1, hr.inr'⟩
      · rw [← hkv]
        exact rkids_any (o2.old q) hr
end Go.Proofs.Ytcdaghlbfclpkaa
namespace Go.Proofs.Ytcdaghlbfclpkaa
open Go.RowKit

theorem Deeds.old {w w' w2 : World} {x y i : Nat} (h : Deeds w x y i w') (b : Below w'.heap.size w' w2) : Deeds w x y i w2 := by
  obtain ⟨k, N, P, E, L, h1, h2, h3⟩ := h
  exact ⟨k.trans (Keep.old b), N, P, E, L, h1, h2, h3.old b⟩
theorem wpAnyH_mono {P : Program} {ops : Array Oper} {Q : Exit → Act → World → Prop} {md : Region.Mode} {S S2 : World → Prop} (hS : ∀ w, S2 w → S w) : ∀ (fuel : Nat) (listed : Array Bool) (a : Act) (w : World), wpAnyH P md ops Q S2 fuel listed a w → wpAnyH P md ops Q S fuel listed a w
  | 0, _, _, _, h => h
  | fuel + 1, _, _, _, h => ⟨h.1, fun i hi => wpOp_mono (fun _ w' h' => ⟨hS w' h'.1, wpAnyH_mono hS fuel _ _ _ h'.2⟩) (h.2 i hi)⟩
theorem step_call1w {P : Program} {ops : Array Oper} {o : Oper} {a : Act} {w : World} {K : Act → World → Prop} {Q : Exit → Act → World → Prop} {E : Prop} (f : FuncId) (x : Operand) (ts : Array TypeId)
    (hw : Region.wanted o (yielded ops a.tmps) = true) (hop : o.op = Op.call { callee := Callee.value (.func f), args := #[x], argTypes := ts }) (henter : ∀ args w, (callFunc f args).run P w = .ok (.enter f args) w)
    (u : Value) (hx : a.eval x = u) {R : Ending → World → Prop} (hc : Calls P f #[u] w R) (hK : ∀ e w', R e w' → ∃ r, e = .returned r ∧ K (a.put o.dst r) w') :
    if Region.wanted o (yielded ops a.tmps) = true then Oper.wp P o a w K Q else E := by
  rw [if_pos hw]
  unfold Oper.wp
  have he : a.eval (.func f) = .func (.func f) #[] #[] := rfl
  have hrun : (execOp a.eval o).run P w = .ok (.enter f #[u]) w := by
    simp [execOp, hop, resolve, Deferred.ofValue, he, hx, invoke, henter]
  rw [hrun]
  refine Calls.mono (show Calls P f _ w R from hc) ?_
  intro e w' h
  obtain ⟨r, rfl, hk⟩ := hK e w' h
  exact hk
theorem step_call2w {P : Program} {ops : Array Oper} {o : Oper} {a : Act} {w : World} {K : Act → World → Prop} {Q : Exit → Act → World → Prop} {E : Prop} (f : FuncId) (x y : Operand) (ts : Array TypeId)
    (hw : Region.wanted o (yielded ops a.tmps) = true) (hop : o.op = Op.call { callee := Callee.value (.func f), args := #[x, y], argTypes := ts }) (henter : ∀ args w, (callFunc f args).run P w = .ok (.enter f args) w)
    (u v : Value) (hx : a.eval x = u) (hy : a.eval y = v) {R : Ending → World → Prop} (hc : Calls P f #[u, v] w R) (hK : ∀ e w', R e w' → ∃ r, e = .returned r ∧ K (a.put o.dst r) w') :
    if Region.wanted o (yielded ops a.tmps) = true then Oper.wp P o a w K Q else E := by
  rw [if_pos hw]
  unfold Oper.wp
  have he : a.eval (.func f) = .func (.func f) #[] #[] := rfl
  have hrun : (execOp a.eval o).run P w = .ok (.enter f #[u, v]) w := by
    simp [execOp, hop, resolve, Deferred.ofValue, he, hx, hy, invoke, henter]
  rw [hrun]
  refine Calls.mono (show Calls P f _ w R from hc) ?_
  intro e w' h
  obtain ⟨r, rfl, hk⟩ := hK e w' h
  exact hk
theorem enters12 : ∀ args w, (callFunc 12 args).run Try.prog w = .ok (.enter 12 args) w := enters_of Try.func12 (by kernel_rfl) rfl
theorem enters13 : ∀ args w, (callFunc 13 args).run Try.prog w = .ok (.enter 13 args) w := enters_of Try.func13 (by kernel_rfl) rfl
theorem enters14 : ∀ args w, (callFunc 14 args).run Try.prog w = .ok (.enter 14 args) w := enters_of Try.func14 (by kernel_rfl) rfl
theorem enters15 : ∀ args w, (callFunc 15 args).run Try.prog w = .ok (.enter 15 args) w := enters_of Try.func15 (by kernel_rfl) rfl
theorem enters16 : ∀ args w, (callFunc 16 args).run Try.prog w = .ok (.enter 16 args) w := enters_of Try.func16 (by kernel_rfl) rfl
theorem enters17 : ∀ args w, (callFunc 17 args).run Try.prog w = .ok (.enter 17 args) w := enters_of Try.func17 (by kernel_rfl) rfl
theorem enters18 : ∀ args w, (callFunc 18 args).run Try.prog w = .ok (.enter 18 args) w := enters_of Try.func18 (by kernel_rfl) rfl
set_option maxRecDepth 20000 in
set_option maxHeartbeats 4000000 in
theorem plays_any {w : World} {lo : Option Addr} {len cap : Nat} {l : List Dd} (hl : Dds w lo len cap l) (hm : len ≤ 9223372036854775807) (hs : ∀ (i : Nat) (T : Dd), l[i]? = some T → T.d.name.size ≤ 2000000000000000000 ∧ T.d.text.size ≤ 2000000000000000000 ∧ T.d.al.length ≤ 2000000000000000000) :
    Calls Try.prog 3 #[.slice lo len cap] w fun e w' => e = .returned (.bool true) ∧ Below w.heap.size w w' := by
  have HL : Hid (Dds w lo len cap l ∧ l.length = len ∧ (∀ (i : Nat) (T : Dd), l[i]? = some T → T.d.name.size ≤ 2000000000000000000 ∧ T.d.text.size ≤ 2000000000000000000 ∧ T.d.al.length ≤ 2000000000000000000)) := ⟨hl, hl.hlen, hs⟩
  clear hl hs
  go_enter Try.func3, Try.ntmps3
  go_wp2_with fail
  refine (new_any w).mono ?_
  rintro e w1 ⟨x, av, rfl, h1, b1⟩
  go_wp2_with fail
  refine (rnew_any w1).mono ?_
  rintro e w2 ⟨y, rfl, h2, b2⟩
  have HF : Hid (Fresh w x y w2) := fresh_prog b1 h1 b2 h2
  clear b1 h1 b2 h2
  have ks := size_any (HL.out.1.keep (Keep.old HF.out.1)) hm HL.out.2.2
  go_wp2_with fail
  refine ks.mono ?_
  clear ks
  rintro e w3 ⟨r, rfl, b3, hr⟩
  have HR : Hid (r = true → ∀ (i : Nat) (T : Dd), l[i]? = some T → T.d.al.length < 5000) := hr
  have HD : Hid (Deeds w x y 0 w3) := by
    obtain ⟨b, N, P, E, L, h1, h2, h3⟩ := HF.out.deeds
    exact ⟨b.trans (Keep.old b3), N, P, E, L, h1, h2, h3.old b3⟩
  have HB : Hid (Below w.heap.size w w3) := HF.out.1.trans (b3.mono HF.out.1.size)
  clear hr b3 HF
  cases r with
  | false =>
    go_wp2_with fail
    refine (awake_any w3).mono ?_
    rintro e w4 ⟨rfl, b4⟩
    go_wp2_with fail
    go_ret
    exact ⟨rfl, HB.out.trans (b4.mono HB.out.size)⟩
  | true =>
    have HS : Hid (∀ (i : Nat) (T : Dd), l[i]? = some T → T.d.al.length < 5000) := HR.out rfl
    clear HR HB
    go_wp2_with fail
    go_loopg [5] len (fun g2 iv wr => ∃ (i : Nat), iv = .int .i64 i ∧ i + g2 = len ∧ i ≤ 80 ∧ Hid (Deeds w x y i wr))
    case atStart => exact ⟨0, rfl, by omega, by omega, HD⟩
    case round =>
      obtain ⟨i, rfl, hig, hi6, HI⟩ := hrel
      by_cases hgo : i < len ∧ i < 80
      · obtain ⟨k, rfl⟩ : ∃ k, gk = k + 1 := ⟨gk - 1, by omega⟩
        have hin : i < len := hgo.1
        have h60 : i < 80 := hgo.2
        have g1 : decide ((i : Int) < (len : Int)) = true := decide_eq_true (by omega)
        have g2 : decide ((i : Int) < 80) = true := decide_eq_true (by omega)
        clear hgo
        obtain ⟨T, hT⟩ : ∃ T, l[i]? = some T := ⟨_, List.getElem?_eq_getElem (by rw [HL.out.2.1]; exact hin)⟩
        have kd := (HI.out.drew 1).next (by omega) ((HL.out.1.row i T hT).elim fun b q => q.elim fun o z => z.2.2.2) (by have := HS.out i T hT; omega)
        obtain ⟨b, off, rfl, hb, hc, _⟩ := HL.out.1.row i T hT
        have HC : Hid (∀ w', Keep (fun k => k < w.heap.size) w w' → w'.cell? ⟨b, off + i * 15, none⟩ = some (iv T.k) ∧ w'.cell? ⟨b, off + i * 15 + 1, none⟩ = some (iv T.a) ∧ w'.cell? ⟨b, off + i * 15 + 2, none⟩ = some (iv T.b) ∧ w'.cell? ⟨b, off + i * 15 + 3, none⟩ = some (iv T.c) ∧ w'.cell? ⟨b, off + i * 15 + 4, none⟩ = some (iv T.d.id) ∧ w'.cell? ⟨b, off + i * 15 + 5, none⟩ = some (iv T.d.kind) ∧ w'.cell? ⟨b, off + i * 15 + 6, none⟩ = some (iv T.d.space) ∧ w'.cell? ⟨b, off + i * 15 + 7, none⟩ = some (.string T.d.name) ∧ w'.cell? ⟨b, off + i * 15 + 8, none⟩ = some (.string T.d.text) ∧ w'.cell? ⟨b, off + i * 15 + 9, none⟩ = some (.slice T.ao T.d.al.length T.ac) ∧ w'.cell? ⟨b, off + i * 15 + 10, none⟩ = some (iv T.d.sf) ∧ w'.cell? ⟨b, off + i * 15 + 11, none⟩ = some (iv T.d.st) ∧ w'.cell? ⟨b, off + i * 15 + 12, none⟩ = some (iv T.d.ef) ∧ w'.cell? ⟨b, off + i * 15 + 13, none⟩ = some (iv T.d.et) ∧ w'.cell? ⟨b, off + i * 15 + 14, none⟩ = some (.slice T.ko T.kn T.kc)) := fun w' kk => by
          have e : ∀ (j : Nat) u, T.arr[j]? = some u → w'.cell? ⟨b, off + i * 15 + j, none⟩ = some u := fun j u hj => (cell_same (kk.block b hb hb) _).trans (hc j u hj)
          exact ⟨e 0 _ rfl, e 1 _ rfl, e 2 _ rfl, e 3 _ rfl, e 4 _ rfl, e 5 _ rfl, e 6 _ rfl, e 7 _ rfl, e 8 _ rfl, e 9 _ rfl, e 10 _ rfl, e 11 _ rfl, e 12 _ rfl, e 13 _ rfl, e 14 _ rfl⟩
        have HK : Hid (Calls Try.prog 12 #[ptr x, ptr y, .agg T.arr] wr.drew (fun e w5 => e = .returned (iv 1) ∧ (w5.cell? ⟨b, off + i * 15, none⟩ = some (iv T.k) ∧ w5.cell? ⟨b, off + i * 15 + 1, none⟩ = some (iv T.a) ∧ w5.cell? ⟨b, off + i * 15 + 2, none⟩ = some (iv T.b) ∧ w5.cell? ⟨b, off + i * 15 + 3, none⟩ = some (iv T.c) ∧ w5.cell? ⟨b, off + i * 15 + 4, none⟩ = some (iv T.d.id) ∧ w5.cell? ⟨b, off + i * 15 + 5, none⟩ = some (iv T.d.kind) ∧ w5.cell? ⟨b, off + i * 15 + 6, none⟩ = some (iv T.d.space) ∧ w5.cell? ⟨b, off + i * 15 + 7, none⟩ = some (.string T.d.name) ∧ w5.cell? ⟨b, off + i * 15 + 8, none⟩ = some (.string T.d.text) ∧ w5.cell? ⟨b, off + i * 15 + 9, none⟩ = some (.slice T.ao T.d.al.length T.ac) ∧ w5.cell? ⟨b, off + i * 15 + 10, none⟩ = some (iv T.d.sf) ∧ w5.cell? ⟨b, off + i * 15 + 11, none⟩ = some (iv T.d.st) ∧ w5.cell? ⟨b, off + i * 15 + 12, none⟩ = some (iv T.d.ef) ∧ w5.cell? ⟨b, off + i * 15 + 13, none⟩ = some (iv T.d.et) ∧ w5.cell? ⟨b, off + i * 15 + 14, none⟩ = some (.slice T.ko T.kn T.kc)) ∧ Hid (Deeds w x y (i + 1) w5) ∧ Hid (Both w5 x y T.a T.b))) := kd.mono (by
          rintro e w5 ⟨rfl, h5⟩
          refine ⟨rfl, HC.out w5 h5.1, h5, ?_⟩
          obtain ⟨_, N, P, E, L, h1, _, h3⟩ := h5
          exact h3.both h1 T.a T.b)
        have HCK : Hid (∀ w5, Deeds w x y (i + 1) w5 → ∀ w', Below w5.heap.size w5 w' → w'.cell? ⟨b, off + i * 15, none⟩ = some (iv T.k) ∧ w'.cell? ⟨b, off + i * 15 + 1, none⟩ = some (iv T.a) ∧ w'.cell? ⟨b, off + i * 15 + 2, none⟩ = some (iv T.b) ∧ w'.cell? ⟨b, off + i * 15 + 3, none⟩ = some (iv T.c) ∧ w'.cell? ⟨b, off + i * 15 + 4, none⟩ = some (iv T.d.id) ∧ w'.cell? ⟨b, off + i * 15 + 5, none⟩ = some (iv T.d.kind) ∧ w'.cell? ⟨b, off + i * 15 + 6, none⟩ = some (iv T.d.space) ∧ w'.cell? ⟨b, off + i * 15 + 7, none⟩ = some (.string T.d.name) ∧ w'.cell? ⟨b, off + i * 15 + 8, none⟩ = some (.string T.d.text) ∧ w'.cell? ⟨b, off + i * 15 + 9, none⟩ = some (.slice T.ao T.d.al.length T.ac) ∧ w'.cell? ⟨b, off + i * 15 + 10, none⟩ = some (iv T.d.sf) ∧ w'.cell? ⟨b, off + i * 15 + 11, none⟩ = some (iv T.d.st) ∧ w'.cell? ⟨b, off + i * 15 + 12, none⟩ = some (iv T.d.ef) ∧ w'.cell? ⟨b, off + i * 15 + 13, none⟩ = some (iv T.d.et) ∧ w'.cell? ⟨b, off + i * 15 + 14, none⟩ = some (.slice T.ko T.kn T.kc)) := fun w5 h5 w' b => HC.out w' (h5.1.trans (Keep.old b))
        obtain ⟨c0, c1, c2, c3, c4, c5, c6, c7, c8, c9, c10, c11, c12, c13, c14⟩ := HC.out wr HI.out.1
        clear hc hT kd
        go_wp2_with fail
        have hin2 : (i : Int) < (len : Int) := by omega
        have hin0 : (0 : Int) ≤ (i : Int) := by omega
        have hH0 : wr.drew.cell? ⟨b, off + i * 15, none⟩ = some (iv T.k) ∧ wr.drew.cell? ⟨b, off + i * 15 + 1, none⟩ = some (iv T.a) ∧ wr.drew.cell? ⟨b, off + i * 15 + 2, none⟩ = some (iv T.b) ∧ wr.drew.cell? ⟨b, off + i * 15 + 3, none⟩ = some (iv T.c) ∧ wr.drew.cell? ⟨b, off + i * 15 + 4, none⟩ = some (iv T.d.id) ∧ wr.drew.cell? ⟨b, off + i * 15 + 5, none⟩ = some (iv T.d.kind) ∧ wr.drew.cell? ⟨b, off + i * 15 + 6, none⟩ = some (iv T.d.space) ∧ wr.drew.cell? ⟨b, off + i * 15 + 7, none⟩ = some (.string T.d.name) ∧ wr.drew.cell? ⟨b, off + i * 15 + 8, none⟩ = some (.string T.d.text) ∧ wr.drew.cell? ⟨b, off + i * 15 + 9, none⟩ = some (.slice T.ao T.d.al.length T.ac) ∧ wr.drew.cell? ⟨b, off + i * 15 + 10, none⟩ = some (iv T.d.sf) ∧ wr.drew.cell? ⟨b, off + i * 15 + 11, none⟩ = some (iv T.d.st) ∧ wr.drew.cell? ⟨b, off + i * 15 + 12, none⟩ = some (iv T.d.ef) ∧ wr.drew.cell? ⟨b, off + i * 15 + 13, none⟩ = some (iv T.d.et) ∧ wr.drew.cell? ⟨b, off + i * 15 + 14, none⟩ = some (.slice T.ko T.kn T.kc) := ⟨c0, c1, c2, c3, c4, c5, c6, c7, c8, c9, c10, c11, c12, c13, c14⟩
        refine wp_region_held_drew (S := (fun w' => w'.cell? ⟨b, off + i * 15, none⟩ = some (iv T.k) ∧ w'.cell? ⟨b, off + i * 15 + 1, none⟩ = some (iv T.a) ∧ w'.cell? ⟨b, off + i * 15 + 2, none⟩ = some (iv T.b) ∧ w'.cell? ⟨b, off + i * 15 + 3, none⟩ = some (iv T.c) ∧ w'.cell? ⟨b, off + i * 15 + 4, none⟩ = some (iv T.d.id) ∧ w'.cell? ⟨b, off + i * 15 + 5, none⟩ = some (iv T.d.kind) ∧ w'.cell? ⟨b, off + i * 15 + 6, none⟩ = some (iv T.d.space) ∧ w'.cell? ⟨b, off + i * 15 + 7, none⟩ = some (.string T.d.name) ∧ w'.cell? ⟨b, off + i * 15 + 8, none⟩ = some (.string T.d.text) ∧ w'.cell? ⟨b, off + i * 15 + 9, none⟩ = some (.slice T.ao T.d.al.length T.ac) ∧ w'.cell? ⟨b, off + i * 15 + 10, none⟩ = some (iv T.d.sf) ∧ w'.cell? ⟨b, off + i * 15 + 11, none⟩ = some (iv T.d.st) ∧ w'.cell? ⟨b, off + i * 15 + 12, none⟩ = some (iv T.d.ef) ∧ w'.cell? ⟨b, off + i * 15 + 13, none⟩ = some (iv T.d.et) ∧ w'.cell? ⟨b, off + i * 15 + 14, none⟩ = some (.slice T.ko T.kn T.kc))) (by kernel_rfl) hH0 (fun _ => ?_)
        refine wpAnyH_take (i := 0) (oi := { dst := some 30, op := Op.move (Operand.tmp 3), type := 23, pos := "law.go:87", after := #[], guard := none }) (v := (ptr x)) rfl (by kernel_rfl) (by kernel_rfl) (by kernel_rfl) (fun _ _ _ h => h) (Or.inl ⟨by rfl, (by intro w hSw; (try dsimp only at hSw); go_simp)⟩) (by assumption) ?_
        try simp only [Act.put, List.setIfInBounds_toArray, List.set_cons_zero, List.set_cons_succ]
        refine wpAnyH_take (i := 1) (oi := { dst := some 31, op := Op.move (Operand.tmp 4), type := 25, pos := "law.go:87", after := #[], guard := none }) (v := (ptr y)) rfl (by kernel_rfl) (by kernel_rfl) (by kernel_rfl) (fun _ _ _ h => h) (Or.inl ⟨by rfl, (by intro w hSw; (try dsimp only at hSw); go_simp)⟩) (by assumption) ?_
        try simp only [Act.put, List.setIfInBounds_toArray, List.set_cons_zero, List.set_cons_succ]
        refine wpAnyH_take (i := 2) (oi := { dst := some 32, op := Op.move (Operand.tmp 0), type := 22, pos := "law.go:87", after := #[], guard := none }) (v := (.slice (some ⟨b, off, none⟩) len cap)) rfl (by kernel_rfl) (by kernel_rfl) (by kernel_rfl) (fun _ _ _ h => h) (Or.inl ⟨by rfl, (by intro w hSw; (try dsimp only at hSw); go_simp)⟩) (by assumption) ?_
        try simp only [Act.put, List.setIfInBounds_toArray, List.set_cons_zero, List.set_cons_succ]
        refine wpAnyH_take (i := 3) (oi := { dst := some 33, op := Op.move (Operand.tmp 5), type := 3, pos := "law.go:87", after := #[], guard := none }) (v := (.int .i64 (i : Int))) rfl (by kernel_rfl) (by kernel_rfl) (by kernel_rfl) (fun _ _ _ h => h) (Or.inl ⟨by rfl, (by intro w hSw; (try dsimp only at hSw); go_simp)⟩) (by assumption) ?_
        try simp only [Act.put, List.setIfInBounds_toArray, List.set_cons_zero, List.set_cons_succ]
        refine wpAnyH_take (i := 4) (oi := { dst := some 34, op := Op.indexAddr 22 (Operand.tmp 32) (Operand.tmp 33), type := 0, pos := "law.go:87", after := #[{ on := 2, ground := Ground.data }, { on := 3, ground := Ground.data }], guard := none }) (v := (.pointer (some ⟨b, off + i * 15, none⟩))) rfl (by kernel_rfl) (by kernel_rfl) (by kernel_rfl) (fun _ _ _ h => h) (Or.inl ⟨by rfl, (by intro w hSw; (try dsimp only at hSw); go_simp)⟩) (by assumption) ?_
        try simp only [Act.put, List.setIfInBounds_toArray, List.set_cons_zero, List.set_cons_succ]
        refine wpAnyH_take (i := 5) (oi := { dst := some 35, op := Op.load 37 (Operand.tmp 34), type := 37, pos := "law.go:87", after := #[{ on := 4, ground := Ground.data }], guard := none }) (v := (.agg #[iv T.k, iv T.a, iv T.b, iv T.c, iv T.d.id, iv T.d.kind, iv T.d.space, .string T.d.name, .string T.d.text, .slice T.ao T.d.al.length T.ac, iv T.d.sf, iv T.d.st, iv T.d.ef, iv T.d.et, .slice T.ko T.kn T.kc])) rfl (by kernel_rfl) (by kernel_rfl) (by kernel_rfl) (fun _ _ _ h => h) (Or.inl ⟨by rfl, (by intro w hSw; (try dsimp only at hSw); go_simp)⟩) (by assumption) ?_
        try simp only [Act.put, List.setIfInBounds_toArray, List.set_cons_zero, List.set_cons_succ]
        refine wpAnyH_ready (rs := [6]) (by kernel_rfl) (by simp) (AllReadyH.cons (o := { dst := some 36, op := Op.call { callee := Callee.value (Operand.func 12), args := #[Operand.tmp 30, Operand.tmp 31, Operand.tmp 35], argTypes := #[23, 25, 37] }, type := 3, pos := "law.go:87", after := #[{ on := 0, ground := Ground.data }, { on := 1, ground := Ground.data }, { on := 5, ground := Ground.data }], guard := none }) rfl (fun K hK => ?_) AllReadyH.nil)
        refine step_call3 12 _ _ _ _ rfl rfl enters12 _ _ _ (by simp [Act.eval]) (by simp [Act.eval]) (by simp [Act.eval]) HK.out ?_
        rintro e w5 ⟨rfl, hq5, HD5, HB5⟩
        refine ⟨_, rfl, ?_⟩
        refine hK.out _ _ hq5 (fun _ => ?_)
        clear hK K
        try simp only [Act.put, List.setIfInBounds_toArray, List.set_cons_zero, List.set_cons_succ]
        obtain ⟨pp, hp1, hp2⟩ := HB5.out.par
        obtain ⟨kn, bc, bo, kl, kh1, kh2, kh3, hk1, hk2⟩ := HB5.out.kids
        obtain ⟨ln, lg, lc, ly, ly2, hl1⟩ := HB5.out.len
        have hnn : ((ln : Int) == (ln : Int)) = true := by simp
        have hpp : ((pp : Int) == (pp : Int)) = true := by simp
        have hH5 : (w5.cell? ⟨b, off + i * 15, none⟩ = some (iv T.k) ∧ w5.cell? ⟨b, off + i * 15 + 1, none⟩ = some (iv T.a) ∧ w5.cell? ⟨b, off + i * 15 + 2, none⟩ = some (iv T.b) ∧ w5.cell? ⟨b, off + i * 15 + 3, none⟩ = some (iv T.c) ∧ w5.cell? ⟨b, off + i * 15 + 4, none⟩ = some (iv T.d.id) ∧ w5.cell? ⟨b, off + i * 15 + 5, none⟩ = some (iv T.d.kind) ∧ w5.cell? ⟨b, off + i * 15 + 6, none⟩ = some (iv T.d.space) ∧ w5.cell? ⟨b, off + i * 15 + 7, none⟩ = some (.string T.d.name) ∧ w5.cell? ⟨b, off + i * 15 + 8, none⟩ = some (.string T.d.text) ∧ w5.cell? ⟨b, off + i * 15 + 9, none⟩ = some (.slice T.ao T.d.al.length T.ac) ∧ w5.cell? ⟨b, off + i * 15 + 10, none⟩ = some (iv T.d.sf) ∧ w5.cell? ⟨b, off + i * 15 + 11, none⟩ = some (iv T.d.st) ∧ w5.cell? ⟨b, off + i * 15 + 12, none⟩ = some (iv T.d.ef) ∧ w5.cell? ⟨b, off + i * 15 + 13, none⟩ = some (iv T.d.et) ∧ w5.cell? ⟨b, off + i * 15 + 14, none⟩ = some (.slice T.ko T.kn T.kc)) ∧ w5.cell? ⟨y, 0, none⟩ = some (.slice (some ⟨lg, 0, none⟩) ln lc) := ⟨hq5, ly⟩
        refine wpAnyH_mono (S2 := (fun w' => (w'.cell? ⟨b, off + i * 15, none⟩ = some (iv T.k) ∧ w'.cell? ⟨b, off + i * 15 + 1, none⟩ = some (iv T.a) ∧ w'.cell? ⟨b, off + i * 15 + 2, none⟩ = some (iv T.b) ∧ w'.cell? ⟨b, off + i * 15 + 3, none⟩ = some (iv T.c) ∧ w'.cell? ⟨b, off + i * 15 + 4, none⟩ = some (iv T.d.id) ∧ w'.cell? ⟨b, off + i * 15 + 5, none⟩ = some (iv T.d.kind) ∧ w'.cell? ⟨b, off + i * 15 + 6, none⟩ = some (iv T.d.space) ∧ w'.cell? ⟨b, off + i * 15 + 7, none⟩ = some (.string T.d.name) ∧ w'.cell? ⟨b, off + i * 15 + 8, none⟩ = some (.string T.d.text) ∧ w'.cell? ⟨b, off + i * 15 + 9, none⟩ = some (.slice T.ao T.d.al.length T.ac) ∧ w'.cell? ⟨b, off + i * 15 + 10, none⟩ = some (iv T.d.sf) ∧ w'.cell? ⟨b, off + i * 15 + 11, none⟩ = some (iv T.d.st) ∧ w'.cell? ⟨b, off + i * 15 + 12, none⟩ = some (iv T.d.ef) ∧ w'.cell? ⟨b, off + i * 15 + 13, none⟩ = some (iv T.d.et) ∧ w'.cell? ⟨b, off + i * 15 + 14, none⟩ = some (.slice T.ko T.kn T.kc)) ∧ w'.cell? ⟨y, 0, none⟩ = some (.slice (some ⟨lg, 0, none⟩) ln lc))) (fun w h => h.1) _ _ _ _ ?_
        clear hH0 hq5 HK c0 c1 c2 c3 c4 c5 c6 c7 c8 c9 c10 c11 c12 c13 c14
        refine wpAnyH_take (i := 7) (oi := { dst := some 37, op := Op.binOp BinOp.eql 3 (Operand.tmp 36) (Operand.const (Value.int IntKind.i64 0)) 3, type := 4, pos := "law.go:87", after := #[{ on := 6, ground := Ground.data }], guard := none }) (v := (.bool false)) rfl (by kernel_rfl) (by kernel_rfl) (by kernel_rfl) (fun _ _ _ h => h) (Or.inl ⟨by rfl, (by intro w hSw; (try dsimp only at hSw); go_simp)⟩) (by assumption) ?_
        try simp only [Act.put, List.setIfInBounds_toArray, List.set_cons_zero, List.set_cons_succ]
        refine wpAnyH_take (i := 8) (oi := { dst := some 38, op := Op.move (Operand.tmp 37), type := 4, pos := "law.go:87", after := #[{ on := 7, ground := Ground.data }, { on := 6, ground := Ground.chain }], guard := none }) (v := (.bool false)) rfl (by kernel_rfl) (by kernel_rfl) (by kernel_rfl) (fun _ _ _ h => h) (Or.inl ⟨by rfl, (by intro w hSw; (try dsimp only at hSw); go_simp)⟩) (by assumption) ?_
        try simp only [Act.put, List.setIfInBounds_toArray, List.set_cons_zero, List.set_cons_succ]
        refine wpAnyH_take (i := 9) (oi := { dst := some 39, op := Op.move (Operand.tmp 3), type := 23, pos := "law.go:87", after := #[{ on := 8, ground := Ground.guard }], guard := some (8, false) }) (v := (ptr x)) rfl (by kernel_rfl) (by kernel_rfl) (by kernel_rfl) (fun _ _ _ h => h) (Or.inl ⟨by rfl, (by intro w hSw; (try dsimp only at hSw); go_simp)⟩) (by assumption) ?_
        try simp only [Act.put, List.setIfInBounds_toArray, List.set_cons_zero, List.set_cons_succ]
        refine wpAnyH_take (i := 11) (oi := { dst := some 41, op := Op.move (Operand.tmp 4), type := 25, pos := "law.go:87", after := #[{ on := 8, ground := Ground.guard }], guard := some (8, false) }) (v := (ptr y)) rfl (by kernel_rfl) (by kernel_rfl) (by kernel_rfl) (fun _ _ _ h => h) (Or.inl ⟨by rfl, (by intro w hSw; (try dsimp only at hSw); go_simp)⟩) (by assumption) ?_
        try simp only [Act.put, List.setIfInBounds_toArray, List.set_cons_zero, List.set_cons_succ]
        refine wpAnyH_take (i := 12) (oi := { dst := some 42, op := Op.nilCheck (Operand.tmp 41), type := 0, pos := "law.go:87", after := #[{ on := 11, ground := Ground.data }, { on := 8, ground := Ground.guard }], guard := some (8, false) }) (v := (ptr y)) rfl (by kernel_rfl) (by kernel_rfl) (by kernel_rfl) (fun _ _ _ h => h) (Or.inl ⟨by rfl, (by intro w hSw; (try dsimp only at hSw); go_simp)⟩) (by assumption) ?_
        try simp only [Act.put, List.setIfInBounds_toArray, List.set_cons_zero, List.set_cons_succ]
        refine wpAnyH_take (i := 13) (oi := { dst := some 43, op := Op.fieldAddr 41 (Operand.tmp 42) 0, type := 0, pos := "law.go:87", after := #[{ on := 12, ground := Ground.data }, { on := 8, ground := Ground.guard }], guard := some (8, false) }) (v := (.pointer (some ⟨y, 0, none⟩))) rfl (by kernel_rfl) (by kernel_rfl) (by kernel_rfl) (fun _ _ _ h => h) (Or.inl ⟨by rfl, (by intro w hSw; (try dsimp only at hSw); go_simp)⟩) (by assumption) ?_
        try simp only [Act.put, List.setIfInBounds_toArray, List.set_cons_zero, List.set_cons_succ]
        refine wpAnyH_take (i := 14) (oi := { dst := some 44, op := Op.load 39 (Operand.tmp 43), type := 39, pos := "law.go:87", after := #[{ on := 13, ground := Ground.data }, { on := 8, ground := Ground.guard }], guard := some (8, false) }) (v := (.slice (some ⟨lg, 0, none⟩) ln lc)) rfl (by kernel_rfl) (by kernel_rfl) (by kernel_rfl) (fun _ _ _ h => h) (Or.inl ⟨by rfl, (by intro w hSw; (try dsimp only at hSw); go_simp)⟩) (by assumption) ?_
        try simp only [Act.put, List.setIfInBounds_toArray, List.set_cons_zero, List.set_cons_succ]
        refine wpAnyH_take (i := 15) (oi := { dst := some 45, op := Op.call { callee := Callee.builtin Builtin.len, args := #[Operand.tmp 44], argTypes := #[39] }, type := 3, pos := "law.go:87", after := #[{ on := 14, ground := Ground.data }, { on := 8, ground := Ground.guard }], guard := some (8, false) }) (v := (iv (ln : Int))) rfl (by kernel_rfl) (by kernel_rfl) (by kernel_rfl) (fun _ _ _ h => h) (Or.inl ⟨by rfl, (by intro w hSw; (try dsimp only at hSw); go_simp)⟩) (by assumption) ?_
        try simp only [Act.put, List.setIfInBounds_toArray, List.set_cons_zero, List.set_cons_succ]
        refine wpAnyH_ready (rs := [10]) (by kernel_rfl) (by simp) (AllReadyH.cons (o := { dst := some 40, op := Op.call { callee := Callee.value (Operand.func 13), args := #[Operand.tmp 39], argTypes := #[23] }, type := 3, pos := "law.go:87", after := #[{ on := 9, ground := Ground.data }, { on := 8, ground := Ground.chain }, { on := 8, ground := Ground.guard }], guard := some (8, false) }) rfl (fun K hK => ?_) AllReadyH.nil)
        refine step_call1w 13 _ _ (by rfl) rfl enters13 _ (by simp [Act.eval]) (hl1 _ (Below.refl _ _)) ?_
        rintro e w6 ⟨rfl, h6⟩
        rw [h6]
        clear h6
        refine ⟨_, rfl, ?_⟩
        refine hK.out _ _ hH5 (fun _ => ?_)
        clear hK K
        try simp only [Act.put, List.setIfInBounds_toArray, List.set_cons_zero, List.set_cons_succ]
        refine wpAnyH_take (i := 16) (oi := { dst := some 46, op := Op.binOp BinOp.neq 3 (Operand.tmp 40) (Operand.tmp 45) 3, type := 4, pos := "law.go:87", after := #[{ on := 10, ground := Ground.data }, { on := 15, ground := Ground.data }, { on := 8, ground := Ground.guard }], guard := some (8, false) }) (v := (.bool false)) rfl (by kernel_rfl) (by kernel_rfl) (by kernel_rfl) (fun _ _ _ h => h) (Or.inl ⟨by rfl, (by intro w hSw; (try dsimp only at hSw); go_simp)⟩) (by assumption) ?_
        try simp only [Act.put, List.setIfInBounds_toArray, List.set_cons_zero, List.set_cons_succ]
        refine wpAnyH_take (i := 17) (oi := { dst := some 47, op := Op.pick (Operand.tmp 38) (Operand.const (Value.bool true)) (Operand.tmp 46), type := 4, pos := "law.go:87", after := #[{ on := 8, ground := Ground.data }, { on := 16, ground := Ground.data }], guard := none }) (v := (.bool false)) rfl (by kernel_rfl) (by kernel_rfl) (by kernel_rfl) (fun _ _ _ h => h) (Or.inl ⟨by rfl, (by intro w hSw; (try dsimp only at hSw); go_simp)⟩) (by assumption) ?_
        try simp only [Act.put, List.setIfInBounds_toArray, List.set_cons_zero, List.set_cons_succ]
        refine wpAnyH_take (i := 18) (oi := { dst := some 48, op := Op.move (Operand.tmp 47), type := 4, pos := "law.go:87", after := #[{ on := 17, ground := Ground.data }, { on := 10, ground := Ground.chain }], guard := none }) (v := (.bool false)) rfl (by kernel_rfl) (by kernel_rfl) (by kernel_rfl) (fun _ _ _ h => h) (Or.inl ⟨by rfl, (by intro w hSw; (try dsimp only at hSw); go_simp)⟩) (by assumption) ?_
        try simp only [Act.put, List.setIfInBounds_toArray, List.set_cons_zero, List.set_cons_succ]
        refine wpAnyH_take (i := 19) (oi := { dst := some 49, op := Op.move (Operand.tmp 3), type := 23, pos := "law.go:87", after := #[{ on := 18, ground := Ground.guard }], guard := some (18, false) }) (v := (ptr x)) rfl (by kernel_rfl) (by kernel_rfl) (by kernel_rfl) (fun _ _ _ h => h) (Or.inl ⟨by rfl, (by intro w hSw; (try dsimp only at hSw); go_simp)⟩) (by assumption) ?_
        try simp only [Act.put, List.setIfInBounds_toArray, List.set_cons_zero, List.set_cons_succ]
        refine wpAnyH_take (i := 20) (oi := { dst := some 50, op := Op.move (Operand.tmp 0), type := 22, pos := "law.go:87", after := #[{ on := 18, ground := Ground.guard }], guard := some (18, false) }) (v := (.slice (some ⟨b, off, none⟩) len cap)) rfl (by kernel_rfl) (by kernel_rfl) (by kernel_rfl) (fun _ _ _ h => h) (Or.inl ⟨by rfl, (by intro w hSw; (try dsimp only at hSw); go_simp)⟩) (by assumption) ?_
        try simp only [Act.put, List.setIfInBounds_toArray, List.set_cons_zero, List.set_cons_succ]
        refine wpAnyH_take (i := 21) (oi := { dst := some 51, op := Op.move (Operand.tmp 5), type := 3, pos := "law.go:87", after := #[{ on := 18, ground := Ground.guard }], guard := some (18, false) }) (v := (.int .i64 (i : Int))) rfl (by kernel_rfl) (by kernel_rfl) (by kernel_rfl) (fun _ _ _ h => h) (Or.inl ⟨by rfl, (by intro w hSw; (try dsimp only at hSw); go_simp)⟩) (by assumption) ?_
        try simp only [Act.put, List.setIfInBounds_toArray, List.set_cons_zero, List.set_cons_succ]
        refine wpAnyH_take (i := 22) (oi := { dst := some 52, op := Op.indexAddr 22 (Operand.tmp 50) (Operand.tmp 51), type := 0, pos := "law.go:87", after := #[{ on := 20, ground := Ground.data }, { on := 21, ground := Ground.data }, { on := 18, ground := Ground.guard }], guard := some (18, false) }) (v := (.pointer (some ⟨b, off + i * 15, none⟩))) rfl (by kernel_rfl) (by kernel_rfl) (by kernel_rfl) (fun _ _ _ h => h) (Or.inl ⟨by rfl, (by intro w hSw; (try dsimp only at hSw); go_simp)⟩) (by assumption) ?_
        try simp only [Act.put, List.setIfInBounds_toArray, List.set_cons_zero, List.set_cons_succ]
        refine wpAnyH_take (i := 23) (oi := { dst := some 53, op := Op.fieldAddr 37 (Operand.tmp 52) 2, type := 0, pos := "law.go:87", after := #[{ on := 22, ground := Ground.data }, { on := 18, ground := Ground.guard }], guard := some (18, false) }) (v := (.pointer (some ⟨b, off + i * 15 + 2, none⟩))) rfl (by kernel_rfl) (by kernel_rfl) (by kernel_rfl) (fun _ _ _ h => h) (Or.inl ⟨by rfl, (by intro w hSw; (try dsimp only at hSw); go_simp)⟩) (by assumption) ?_
        try simp only [Act.put, List.setIfInBounds_toArray, List.set_cons_zero, List.set_cons_succ]
        refine wpAnyH_take (i := 24) (oi := { dst := some 54, op := Op.load 3 (Operand.tmp 53), type := 3, pos := "law.go:87", after := #[{ on := 23, ground := Ground.data }, { on := 18, ground := Ground.guard }], guard := some (18, false) }) (v := (iv T.b)) rfl (by kernel_rfl) (by kernel_rfl) (by kernel_rfl) (fun _ _ _ h => h) (Or.inl ⟨by rfl, (by intro w hSw; (try dsimp only at hSw); go_simp)⟩) (by assumption) ?_
        try simp only [Act.put, List.setIfInBounds_toArray, List.set_cons_zero, List.set_cons_succ]
        refine wpAnyH_take (i := 26) (oi := { dst := some 56, op := Op.move (Operand.tmp 4), type := 25, pos := "law.go:87", after := #[{ on := 18, ground := Ground.guard }], guard := some (18, false) }) (v := (ptr y)) rfl (by kernel_rfl) (by kernel_rfl) (by kernel_rfl) (fun _ _ _ h => h) (Or.inl ⟨by rfl, (by intro w hSw; (try dsimp only at hSw); go_simp)⟩) (by assumption) ?_
        try simp only [Act.put, List.setIfInBounds_toArray, List.set_cons_zero, List.set_cons_succ]
        refine wpAnyH_take (i := 27) (oi := { dst := some 57, op := Op.move (Operand.tmp 0), type := 22, pos := "law.go:87", after := #[{ on := 18, ground := Ground.guard }], guard := some (18, false) }) (v := (.slice (some ⟨b, off, none⟩) len cap)) rfl (by kernel_rfl) (by kernel_rfl) (by kernel_rfl) (fun _ _ _ h => h) (Or.inl ⟨by rfl, (by intro w hSw; (try dsimp only at hSw); go_simp)⟩) (by assumption) ?_
        try simp only [Act.put, List.setIfInBounds_toArray, List.set_cons_zero, List.set_cons_succ]
        refine wpAnyH_take (i := 28) (oi := { dst := some 58, op := Op.move (Operand.tmp 5), type := 3, pos := "law.go:87", after := #[{ on := 18, ground := Ground.guard }], guard := some (18, false) }) (v := (.int .i64 (i : Int))) rfl (by kernel_rfl) (by kernel_rfl) (by kernel_rfl) (fun _ _ _ h => h) (Or.inl ⟨by rfl, (by intro w hSw; (try dsimp only at hSw); go_simp)⟩) (by assumption) ?_
        try simp only [Act.put, List.setIfInBounds_toArray, List.set_cons_zero, List.set_cons_succ]
        refine wpAnyH_take (i := 29) (oi := { dst := some 59, op := Op.indexAddr 22 (Operand.tmp 57) (Operand.tmp 58), type := 0, pos := "law.go:87", after := #[{ on := 27, ground := Ground.data }, { on := 28, ground := Ground.data }, { on := 18, ground := Ground.guard }], guard := some (18, false) }) (v := (.pointer (some ⟨b, off + i * 15, none⟩))) rfl (by kernel_rfl) (by kernel_rfl) (by kernel_rfl) (fun _ _ _ h => h) (Or.inl ⟨by rfl, (by intro w hSw; (try dsimp only at hSw); go_simp)⟩) (by assumption) ?_
        try simp only [Act.put, List.setIfInBounds_toArray, List.set_cons_zero, List.set_cons_succ]
        refine wpAnyH_take (i := 30) (oi := { dst := some 60, op := Op.fieldAddr 37 (Operand.tmp 59) 2, type := 0, pos := "law.go:87", after := #[{ on := 29, ground := Ground.data }, { on := 18, ground := Ground.guard }], guard := some (18, false) }) (v := (.pointer (some ⟨b, off + i * 15 + 2, none⟩))) rfl (by kernel_rfl) (by kernel_rfl) (by kernel_rfl) (fun _ _ _ h => h) (Or.inl ⟨by rfl, (by intro w hSw; (try dsimp only at hSw); go_simp)⟩) (by assumption) ?_
        try simp only [Act.put, List.setIfInBounds_toArray, List.set_cons_zero, List.set_cons_succ]
        refine wpAnyH_take (i := 31) (oi := { dst := some 61, op := Op.load 3 (Operand.tmp 60), type := 3, pos := "law.go:87", after := #[{ on := 30, ground := Ground.data }, { on := 18, ground := Ground.guard }], guard := some (18, false) }) (v := (iv T.b)) rfl (by kernel_rfl) (by kernel_rfl) (by kernel_rfl) (fun _ _ _ h => h) (Or.inl ⟨by rfl, (by intro w hSw; (try dsimp only at hSw); go_simp)⟩) (by assumption) ?_
        try simp only [Act.put, List.setIfInBounds_toArray, List.set_cons_zero, List.set_cons_succ]
        refine wpAnyH_ready (rs := [25]) (by kernel_rfl) (by simp) (AllReadyH.cons (o := { dst := some 55, op := Op.call { callee := Callee.value (Operand.func 14), args := #[Operand.tmp 49, Operand.tmp 54], argTypes := #[23, 3] }, type := 3, pos := "law.go:87", after := #[{ on := 19, ground := Ground.data }, { on := 24, ground := Ground.data }, { on := 18, ground := Ground.chain }, { on := 18, ground := Ground.guard }], guard := some (18, false) }) rfl (fun K hK => ?_) AllReadyH.nil)
        refine step_call2w 14 _ _ _ (by rfl) rfl enters14 _ _ (by simp [Act.eval]) (by simp [Act.eval]) (hp1 _ (Below.refl _ _)) ?_
        rintro e w6 ⟨rfl, h6⟩
        rw [h6]
        clear h6
        refine ⟨_, rfl, ?_⟩
        refine hK.out _ _ hH5 (fun _ => ?_)
        clear hK K
        try simp only [Act.put, List.setIfInBounds_toArray, List.set_cons_zero, List.set_cons_succ]
        refine wpAnyH_ready (rs := [32]) (by kernel_rfl) (by simp) (AllReadyH.cons (o := { dst := some 62, op := Op.call { callee := Callee.value (Operand.func 15), args := #[Operand.tmp 56, Operand.tmp 61], argTypes := #[25, 3] }, type := 3, pos := "law.go:87", after := #[{ on := 26, ground := Ground.data }, { on := 31, ground := Ground.data }, { on := 25, ground := Ground.chain }, { on := 18, ground := Ground.guard }], guard := some (18, false) }) rfl (fun K hK => ?_) AllReadyH.nil)
        refine step_call2w 15 _ _ _ (by rfl) rfl enters15 _ _ (by simp [Act.eval]) (by simp [Act.eval]) (hp2 _ (Below.refl _ _)) ?_
        rintro e w6 ⟨rfl, h6⟩
        rw [h6]
        clear h6
        refine ⟨_, rfl, ?_⟩
        refine hK.out _ _ hH5 (fun _ => ?_)
        clear hK K
        try simp only [Act.put, List.setIfInBounds_toArray, List.set_cons_zero, List.set_cons_succ]
        refine wpAnyH_take (i := 33) (oi := { dst := some 63, op := Op.binOp BinOp.neq 3 (Operand.tmp 55) (Operand.tmp 62) 3, type := 4, pos := "law.go:87", after := #[{ on := 25, ground := Ground.data }, { on := 32, ground := Ground.data }, { on := 18, ground := Ground.guard }], guard := some (18, false) }) (v := (.bool false)) rfl (by kernel_rfl) (by kernel_rfl) (by kernel_rfl) (fun _ _ _ h => h) (Or.inl ⟨by rfl, (by intro w hSw; (try dsimp only at hSw); go_simp)⟩) (by assumption) ?_
        try simp only [Act.put, List.setIfInBounds_toArray, List.set_cons_zero, List.set_cons_succ]
        refine wpAnyH_take (i := 34) (oi := { dst := some 64, op := Op.pick (Operand.tmp 48) (Operand.const (Value.bool true)) (Operand.tmp 63), type := 4, pos := "law.go:87", after := #[{ on := 18, ground := Ground.data }, { on := 33, ground := Ground.data }], guard := none }) (v := (.bool false)) rfl (by kernel_rfl) (by kernel_rfl) (by kernel_rfl) (fun _ _ _ h => h) (Or.inl ⟨by rfl, (by intro w hSw; (try dsimp only at hSw); go_simp)⟩) (by assumption) ?_
        try simp only [Act.put, List.setIfInBounds_toArray, List.set_cons_zero, List.set_cons_succ]
        refine wpAnyH_take (i := 35) (oi := { dst := some 65, op := Op.move (Operand.tmp 64), type := 4, pos := "law.go:87", after := #[{ on := 34, ground := Ground.data }, { on := 32, ground := Ground.chain }], guard := none }) (v := (.bool false)) rfl (by kernel_rfl) (by kernel_rfl) (by kernel_rfl) (fun _ _ _ h => h) (Or.inl ⟨by rfl, (by intro w hSw; (try dsimp only at hSw); go_simp)⟩) (by assumption) ?_
        try simp only [Act.put, List.setIfInBounds_toArray, List.set_cons_zero, List.set_cons_succ]
        refine wpAnyH_take (i := 36) (oi := { dst := some 66, op := Op.move (Operand.tmp 3), type := 23, pos := "law.go:87", after := #[{ on := 35, ground := Ground.guard }], guard := some (35, false) }) (v := (ptr x)) rfl (by kernel_rfl) (by kernel_rfl) (by kernel_rfl) (fun _ _ _ h => h) (Or.inl ⟨by rfl, (by intro w hSw; (try dsimp only at hSw); go_simp)⟩) (by assumption) ?_
        try simp only [Act.put, List.setIfInBounds_toArray, List.set_cons_zero, List.set_cons_succ]
        refine wpAnyH_take (i := 37) (oi := { dst := some 67, op := Op.move (Operand.tmp 0), type := 22, pos := "law.go:87", after := #[{ on := 35, ground := Ground.guard }], guard := some (35, false) }) (v := (.slice (some ⟨b, off, none⟩) len cap)) rfl (by kernel_rfl) (by kernel_rfl) (by kernel_rfl) (fun _ _ _ h => h) (Or.inl ⟨by rfl, (by intro w hSw; (try dsimp only at hSw); go_simp)⟩) (by assumption) ?_
        try simp only [Act.put, List.setIfInBounds_toArray, List.set_cons_zero, List.set_cons_succ]
        refine wpAnyH_take (i := 38) (oi := { dst := some 68, op := Op.move (Operand.tmp 5), type := 3, pos := "law.go:87", after := #[{ on := 35, ground := Ground.guard }], guard := some (35, false) }) (v := (.int .i64 (i : Int))) rfl (by kernel_rfl) (by kernel_rfl) (by kernel_rfl) (fun _ _ _ h => h) (Or.inl ⟨by rfl, (by intro w hSw; (try dsimp only at hSw); go_simp)⟩) (by assumption) ?_
        try simp only [Act.put, List.setIfInBounds_toArray, List.set_cons_zero, List.set_cons_succ]
        refine wpAnyH_take (i := 39) (oi := { dst := some 69, op := Op.indexAddr 22 (Operand.tmp 67) (Operand.tmp 68), type := 0, pos := "law.go:87", after := #[{ on := 37, ground := Ground.data }, { on := 38, ground := Ground.data }, { on := 35, ground := Ground.guard }], guard := some (35, false) }) (v := (.pointer (some ⟨b, off + i * 15, none⟩))) rfl (by kernel_rfl) (by kernel_rfl) (by kernel_rfl) (fun _ _ _ h => h) (Or.inl ⟨by rfl, (by intro w hSw; (try dsimp only at hSw); go_simp)⟩) (by assumption) ?_
        try simp only [Act.put, List.setIfInBounds_toArray, List.set_cons_zero, List.set_cons_succ]
        refine wpAnyH_take (i := 40) (oi := { dst := some 70, op := Op.fieldAddr 37 (Operand.tmp 69) 1, type := 0, pos := "law.go:87", after := #[{ on := 39, ground := Ground.data }, { on := 35, ground := Ground.guard }], guard := some (35, false) }) (v := (.pointer (some ⟨b, off + i * 15 + 1, none⟩))) rfl (by kernel_rfl) (by kernel_rfl) (by kernel_rfl) (fun _ _ _ h => h) (Or.inl ⟨by rfl, (by intro w hSw; (try dsimp only at hSw); go_simp)⟩) (by assumption) ?_
        try simp only [Act.put, List.setIfInBounds_toArray, List.set_cons_zero, List.set_cons_succ]
        refine wpAnyH_take (i := 41) (oi := { dst := some 71, op := Op.load 3 (Operand.tmp 70), type := 3, pos := "law.go:87", after := #[{ on := 40, ground := Ground.data }, { on := 35, ground := Ground.guard }], guard := some (35, false) }) (v := (iv T.a)) rfl (by kernel_rfl) (by kernel_rfl) (by kernel_rfl) (fun _ _ _ h => h) (Or.inl ⟨by rfl, (by intro w hSw; (try dsimp only at hSw); go_simp)⟩) (by assumption) ?_
        try simp only [Act.put, List.setIfInBounds_toArray, List.set_cons_zero, List.set_cons_succ]
        refine wpAnyH_take (i := 43) (oi := { dst := some 73, op := Op.move (Operand.tmp 4), type := 25, pos := "law.go:87", after := #[{ on := 35, ground := Ground.guard }], guard := some (35, false) }) (v := (ptr y)) rfl (by kernel_rfl) (by kernel_rfl) (by kernel_rfl) (fun _ _ _ h => h) (Or.inl ⟨by rfl, (by intro w hSw; (try dsimp only at hSw); go_simp)⟩) (by assumption) ?_
        try simp only [Act.put, List.setIfInBounds_toArray, List.set_cons_zero, List.set_cons_succ]
        refine wpAnyH_take (i := 44) (oi := { dst := some 74, op := Op.move (Operand.tmp 0), type := 22, pos := "law.go:87", after := #[{ on := 35, ground := Ground.guard }], guard := some (35, false) }) (v := (.slice (some ⟨b, off, none⟩) len cap)) rfl (by kernel_rfl) (by kernel_rfl) (by kernel_rfl) (fun _ _ _ h => h) (Or.inl ⟨by rfl, (by intro w hSw; (try dsimp only at hSw); go_simp)⟩) (by assumption) ?_
        try simp only [Act.put, List.setIfInBounds_toArray, List.set_cons_zero, List.set_cons_succ]
        refine wpAnyH_take (i := 45) (oi := { dst := some 75, op := Op.move (Operand.tmp 5), type := 3, pos := "law.go:87", after := #[{ on := 35, ground := Ground.guard }], guard := some (35, false) }) (v := (.int .i64 (i : Int))) rfl (by kernel_rfl) (by kernel_rfl) (by kernel_rfl) (fun _ _ _ h => h) (Or.inl ⟨by rfl, (by intro w hSw; (try dsimp only at hSw); go_simp)⟩) (by assumption) ?_
        try simp only [Act.put, List.setIfInBounds_toArray, List.set_cons_zero, List.set_cons_succ]
        refine wpAnyH_take (i := 46) (oi := { dst := some 76, op := Op.indexAddr 22 (Operand.tmp 74) (Operand.tmp 75), type := 0, pos := "law.go:87", after := #[{ on := 44, ground := Ground.data }, { on := 45, ground := Ground.data }, { on := 35, ground := Ground.guard }], guard := some (35, false) }) (v := (.pointer (some ⟨b, off + i * 15, none⟩))) rfl (by kernel_rfl) (by kernel_rfl) (by kernel_rfl) (fun _ _ _ h => h) (Or.inl ⟨by rfl, (by intro w hSw; (try dsimp only at hSw); go_simp)⟩) (by assumption) ?_
        try simp only [Act.put, List.setIfInBounds_toArray, List.set_cons_zero, List.set_cons_succ]
        refine wpAnyH_take (i := 47) (oi := { dst := some 77, op := Op.fieldAddr 37 (Operand.tmp 76) 1, type := 0, pos := "law.go:87", after := #[{ on := 46, ground := Ground.data }, { on := 35, ground := Ground.guard }], guard := some (35, false) }) (v := (.pointer (some ⟨b, off + i * 15 + 1, none⟩))) rfl (by kernel_rfl) (by kernel_rfl) (by kernel_rfl) (fun _ _ _ h => h) (Or.inl ⟨by rfl, (by intro w hSw; (try dsimp only at hSw); go_simp)⟩) (by assumption) ?_
        try simp only [Act.put, List.setIfInBounds_toArray, List.set_cons_zero, List.set_cons_succ]
        refine wpAnyH_take (i := 48) (oi := { dst := some 78, op := Op.load 3 (Operand.tmp 77), type := 3, pos := "law.go:87", after := #[{ on := 47, ground := Ground.data }, { on := 35, ground := Ground.guard }], guard := some (35, false) }) (v := (iv T.a)) rfl (by kernel_rfl) (by kernel_rfl) (by kernel_rfl) (fun _ _ _ h => h) (Or.inl ⟨by rfl, (by intro w hSw; (try dsimp only at hSw); go_simp)⟩) (by assumption) ?_
        try simp only [Act.put, List.setIfInBounds_toArray, List.set_cons_zero, List.set_cons_succ]
        refine wpAnyH_ready (rs := [42]) (by kernel_rfl) (by simp) (AllReadyH.cons (o := { dst := some 72, op := Op.call { callee := Callee.value (Operand.func 17), args := #[Operand.tmp 66, Operand.tmp 71], argTypes := #[23, 3] }, type := 44, pos := "law.go:87", after := #[{ on := 36, ground := Ground.data }, { on := 41, ground := Ground.data }, { on := 35, ground := Ground.chain }, { on := 35, ground := Ground.guard }], guard := some (35, false) }) rfl (fun K hK => ?_) AllReadyH.nil)
        refine step_call2w 17 _ _ _ (by rfl) rfl enters17 _ _ (by simp [Act.eval]) (by simp [Act.eval]) (hk1 _ (Below.refl _ _)) ?_
        rintro e w8 ⟨ao, ac, rfl, b8, ha8⟩
        have hH8 : (w8.cell? ⟨b, off + i * 15, none⟩ = some (iv T.k) ∧ w8.cell? ⟨b, off + i * 15 + 1, none⟩ = some (iv T.a) ∧ w8.cell? ⟨b, off + i * 15 + 2, none⟩ = some (iv T.b) ∧ w8.cell? ⟨b, off + i * 15 + 3, none⟩ = some (iv T.c) ∧ w8.cell? ⟨b, off + i * 15 + 4, none⟩ = some (iv T.d.id) ∧ w8.cell? ⟨b, off + i * 15 + 5, none⟩ = some (iv T.d.kind) ∧ w8.cell? ⟨b, off + i * 15 + 6, none⟩ = some (iv T.d.space) ∧ w8.cell? ⟨b, off + i * 15 + 7, none⟩ = some (.string T.d.name) ∧ w8.cell? ⟨b, off + i * 15 + 8, none⟩ = some (.string T.d.text) ∧ w8.cell? ⟨b, off + i * 15 + 9, none⟩ = some (.slice T.ao T.d.al.length T.ac) ∧ w8.cell? ⟨b, off + i * 15 + 10, none⟩ = some (iv T.d.sf) ∧ w8.cell? ⟨b, off + i * 15 + 11, none⟩ = some (iv T.d.st) ∧ w8.cell? ⟨b, off + i * 15 + 12, none⟩ = some (iv T.d.ef) ∧ w8.cell? ⟨b, off + i * 15 + 13, none⟩ = some (iv T.d.et) ∧ w8.cell? ⟨b, off + i * 15 + 14, none⟩ = some (.slice T.ko T.kn T.kc)) ∧ w8.cell? ⟨y, 0, none⟩ = some (.slice (some ⟨lg, 0, none⟩) ln lc) := ⟨HCK.out _ HD5.out _ b8, (cell_same (b8.block y ly2) 0).trans ly⟩
        refine ⟨_, rfl, ?_⟩
        refine hK.out _ _ hH8 (fun _ => ?_)
        clear hK K
        try simp only [Act.put, List.setIfInBounds_toArray, List.set_cons_zero, List.set_cons_succ]
        refine wpAnyH_ready (rs := [49]) (by kernel_rfl) (by simp) (AllReadyH.cons (o := { dst := some 79, op := Op.call { callee := Callee.value (Operand.func 18), args := #[Operand.tmp 73, Operand.tmp 78], argTypes := #[25, 3] }, type := 44, pos := "law.go:87", after := #[{ on := 43, ground := Ground.data }, { on := 48, ground := Ground.data }, { on := 42, ground := Ground.chain }, { on := 35, ground := Ground.guard }], guard := some (35, false) }) rfl (fun K hK => ?_) AllReadyH.nil)
        refine step_call2w 18 _ _ _ (by rfl) rfl enters18 _ _ (by simp [Act.eval]) (by simp [Act.eval]) (hk2 _ b8) ?_
        rintro e w6 ⟨rfl, h6⟩
        rw [h6]
        clear h6
        refine ⟨_, rfl, ?_⟩
        refine hK.out _ _ hH8 (fun _ => ?_)
        clear hK K
        try simp only [Act.put, List.setIfInBounds_toArray, List.set_cons_zero, List.set_cons_succ]
        refine wpAnyH_ready (rs := [50]) (by kernel_rfl) (by simp) (AllReadyH.cons (o := { dst := some 80, op := Op.call { callee := Callee.value (Operand.func 16), args := #[Operand.tmp 72, Operand.tmp 79], argTypes := #[44, 44] }, type := 4, pos := "law.go:87", after := #[{ on := 42, ground := Ground.data }, { on := 49, ground := Ground.data }, { on := 49, ground := Ground.chain }, { on := 35, ground := Ground.guard }], guard := some (35, false) }) rfl (fun K hK => ?_) AllReadyH.nil)
        refine step_call2w 16 _ _ _ (by rfl) rfl enters16 _ _ (by simp [Act.eval]) (by simp [Act.eval]) (ints_any kn ac bc ha8 (kh3.old b8) kh1 kh2) ?_
        rintro e w9 ⟨rfl, b9⟩
        have hH9 : (w9.cell? ⟨b, off + i * 15, none⟩ = some (iv T.k) ∧ w9.cell? ⟨b, off + i * 15 + 1, none⟩ = some (iv T.a) ∧ w9.cell? ⟨b, off + i * 15 + 2, none⟩ = some (iv T.b) ∧ w9.cell? ⟨b, off + i * 15 + 3, none⟩ = some (iv T.c) ∧ w9.cell? ⟨b, off + i * 15 + 4, none⟩ = some (iv T.d.id) ∧ w9.cell? ⟨b, off + i * 15 + 5, none⟩ = some (iv T.d.kind) ∧ w9.cell? ⟨b, off + i * 15 + 6, none⟩ = some (iv T.d.space) ∧ w9.cell? ⟨b, off + i * 15 + 7, none⟩ = some (.string T.d.name) ∧ w9.cell? ⟨b, off + i * 15 + 8, none⟩ = some (.string T.d.text) ∧ w9.cell? ⟨b, off + i * 15 + 9, none⟩ = some (.slice T.ao T.d.al.length T.ac) ∧ w9.cell? ⟨b, off + i * 15 + 10, none⟩ = some (iv T.d.sf) ∧ w9.cell? ⟨b, off + i * 15 + 11, none⟩ = some (iv T.d.st) ∧ w9.cell? ⟨b, off + i * 15 + 12, none⟩ = some (iv T.d.ef) ∧ w9.cell? ⟨b, off + i * 15 + 13, none⟩ = some (iv T.d.et) ∧ w9.cell? ⟨b, off + i * 15 + 14, none⟩ = some (.slice T.ko T.kn T.kc)) ∧ w9.cell? ⟨y, 0, none⟩ = some (.slice (some ⟨lg, 0, none⟩) ln lc) := ⟨HCK.out _ HD5.out _ (b8.trans (b9.mono b8.size)), (cell_same ((b8.trans (b9.mono b8.size)).block y ly2) 0).trans ly⟩
        refine ⟨_, rfl, ?_⟩
        refine hK.out _ _ hH9 (fun _ => ?_)
        clear hK K
        try simp only [Act.put, List.setIfInBounds_toArray, List.set_cons_zero, List.set_cons_succ]
        refine wpAnyH_take (i := 51) (oi := { dst := some 81, op := Op.unOp UnOp.not 4 (Operand.tmp 80), type := 4, pos := "law.go:87", after := #[{ on := 50, ground := Ground.data }, { on := 35, ground := Ground.guard }], guard := some (35, false) }) (v := (.bool false)) rfl (by kernel_rfl) (by kernel_rfl) (by kernel_rfl) (fun _ _ _ h => h) (Or.inl ⟨by rfl, (by intro w hSw; (try dsimp only at hSw); go_simp)⟩) (by assumption) ?_
        try simp only [Act.put, List.setIfInBounds_toArray, List.set_cons_zero, List.set_cons_succ]
        refine wpAnyH_take (i := 52) (oi := { dst := some 82, op := Op.pick (Operand.tmp 65) (Operand.const (Value.bool true)) (Operand.tmp 81), type := 4, pos := "law.go:87", after := #[{ on := 35, ground := Ground.data }, { on := 51, ground := Ground.data }], guard := none }) (v := (.bool false)) rfl (by kernel_rfl) (by kernel_rfl) (by kernel_rfl) (fun _ _ _ h => h) (Or.inl ⟨by rfl, (by intro w hSw; (try dsimp only at hSw); go_simp)⟩) (by assumption) ?_
        try simp only [Act.put, List.setIfInBounds_toArray, List.set_cons_zero, List.set_cons_succ]
        refine wpAnyH_done (by kernel_rfl) ?_ _
        clear hH5 hH8 hH9
        go_wp2_with fail
        go_roundg k
        case measure => omega
        case rel => exact ⟨i + 1, by go_num, by omega, by omega, HD5.out.old (b8.trans (b9.mono b8.size))⟩
      · obtain ⟨D, K, ht, he⟩ : ∃ D K, Trees wr x y D K ∧ ∀ (Q U : Nat → Prop) (w : World) (av kv av' kv' : Value), TV Q w D K 0 av kv → TV U w D K 0 av' kv' → Calls Try.prog 19 #[.agg #[iv (D 0).id, iv (D 0).kind, iv (D 0).space, .string (D 0).name, .string (D 0).text, av, iv (D 0).sf, iv (D 0).st, iv (D 0).ef, iv (D 0).et, kv], .agg #[iv (D 0).id, iv (D 0).kind, iv (D 0).space, .string (D 0).name, .string (D 0).text, av', iv (D 0).sf, iv (D 0).st, iv (D 0).ef, iv (D 0).et, kv']] w fun e w' => e = .returned (.bool true) ∧ Below w.heap.size w w' := by
          obtain ⟨_, N, P, E, L, h1, h2, h3⟩ := HI.out
          exact h3.trees h1 (by omega)
        have HT : Hid (Trees wr x y D K) := ht
        have HE : Hid (∀ (Q U : Nat → Prop) (w : World) (av kv av' kv' : Value), TV Q w D K 0 av kv → TV U w D K 0 av' kv' → Calls Try.prog 19 #[.agg #[iv (D 0).id, iv (D 0).kind, iv (D 0).space, .string (D 0).name, .string (D 0).text, av, iv (D 0).sf, iv (D 0).st, iv (D 0).ef, iv (D 0).et, kv], .agg #[iv (D 0).id, iv (D 0).kind, iv (D 0).space, .string (D 0).name, .string (D 0).text, av', iv (D 0).sf, iv (D 0).st, iv (D 0).ef, iv (D 0).et, kv']] w fun e w' => e = .returned (.bool true) ∧ Below w.heap.size w w') := he
        have HB2 : Hid (Below w.heap.size w wr) := HI.out.below
        clear ht he HI HL HS
        by_cases hin : i < len
        case' pos =>
          have g1 : decide ((i : Int) < (len : Int)) = true := decide_eq_true (by omega)
          have g2 : decide ((i : Int) < 80) = false := decide_eq_false (by omega)
          have g2' : ¬ (i : Int) < 80 := by omega
          have g2'' : ¬ i < 80 := by omega
        case' neg =>
          have g1 : decide ((i : Int) < (len : Int)) = false := decide_eq_false (by omega)
        all_goals (clear hgo hig hi6; go_wp2_with fail)
        all_goals
          refine (HT.out.a _ (Below.refl _ _)).mono ?_
          rintro e w5 ⟨ao, ac, kp, kc, rfl, b5, t5⟩
          have H5 : Hid (Below wr.heap.size wr w5 ∧ TV (fun k => wr.heap.size ≤ k) w5 D K 0 (.slice ao (D 0).al.length ac) (.slice kp (K 0).length kc)) := ⟨b5, t5⟩
          clear b5 t5
          go_wp2_with fail
          refine (HT.out.r _ H5.out.1).mono ?_
          rintro e w6 ⟨ao', ac', kp', kc', rfl, b6, t6⟩
          have c19 := HE.out _ _ w6 _ _ _ _ (H5.out.2.old b6) t6
          have H6 : Hid (Below wr.heap.size wr w6) := H5.out.1.trans (b6.mono H5.out.1.size)
          clear b6 t6
          go_wp2_with fail
          refine c19.mono ?_
          clear c19
          rintro e w7 ⟨rfl, b7⟩
          have H7 : Hid (Below w.heap.size w w7) := HB2.out.trans ((H6.out.trans (b7.mono H6.out.size)).mono HB2.out.size)
          clear b7
          go_wp2_with fail
          refine (awake_any _).mono ?_
          rintro e w8 ⟨rfl, b8⟩
          have H8 : Hid (Below w.heap.size w w8) := H7.out.trans (b8.mono H7.out.size)
          clear b8
          go_wp2_with fail
          go_ret
          exact ⟨rfl, H8.out⟩
end Go.Proofs.Ytcdaghlbfclpkaa
namespace Go.Proofs.Ytcdaghlbfclpkaa
open Go.ChangeShapes Go.WideShapes Go.ChangeAt Go.RowKit Go.Joins

theorem weights_mem_all {H : Type} {P : Program} {e : TypeId} : ∀ {ds : List (DataW H)} {d : DataW H}, d ∈ ds → ∀ n ∈ d.weights P e, n ∈ DataW.weightsAll P e ds
  | [], _, h, _, _ => by simp at h
  | x :: ds, d, h, n, hn => by
    rw [DataW.weightsAll, List.mem_append]
    rcases List.mem_cons.1 h with rfl | h
    · exact .inl hn
    · exact .inr (weights_mem_all h n hn)
theorem deed_cells2 {H : Type} {enc : TypeId × Value → H} {W : World} {n : Nat} {cs : List Value} {x : DataW H × List MemPlace} (h : DataW.trod enc Try.prog W 0 (fun _ => true) true n 37 cs = some x) :
    ∃ T : Dd, cs = T.arr.toList ∧ DdIn W T ∧ T.d.name.data.toList.length ∈ x.1.weights Try.prog 37 ∧ T.d.text.data.toList.length ∈ x.1.weights Try.prog 37 ∧ (T.d.al = [] ∨ ∃ q, (T.d.al.length + q) * Try.prog.bytesOf 53 ∈ x.1.weights Try.prog 37) := by
  obtain ⟨y0, y1, y2, y3, y4, m, hx, hl, h0, h1, h2, h3, h4⟩ := trod_struct5 Try.underlying37 h
  rw [cells37] at hl
  obtain ⟨c0, c1, c2, c3, c4, c5, c6, c7, c8, c9, c10, c11, c12, c13, c14, rfl⟩ : ∃ c0 c1 c2 c3 c4 c5 c6 c7 c8 c9 c10 c11 c12 c13 c14, cs = [c0, c1, c2, c3, c4, c5, c6, c7, c8, c9, c10, c11, c12, c13, c14] := by
    match cs, hl with
    | [c0, c1, c2, c3, c4, c5, c6, c7, c8, c9, c10, c11, c12, c13, c14], _ => exact ⟨c0, c1, c2, c3, c4, c5, c6, c7, c8, c9, c10, c11, c12, c13, c14, rfl⟩
  simp only [cells3, cells35] at h0 h1 h2 h3 h4
  simp only [List.drop_zero, List.drop_succ_cons, List.take_succ_cons, List.take_zero] at h0 h1 h2 h3 h4
  obtain ⟨k, e0, g0, w0⟩ := DataW.trod_int Try.underlying3 h0
  obtain ⟨a, e1, g1, w1⟩ := DataW.trod_int Try.underlying3 h1
  obtain ⟨b, e2, g2, w2⟩ := DataW.trod_int Try.underlying3 h2
  obtain ⟨c, e3, g3, w3⟩ := DataW.trod_int Try.underlying3 h3
  obtain ⟨z0, z1, z2, z3, z4, z5, z6, z7, z8, m2, hz, hl2, q0, q1, q2, q3, q4, q5, q6, q7, q8⟩ := trod_struct9 Try.underlying35 h4
  simp only [cells3, cells9, cells30, cells32, cells33] at q0 q1 q2 q3 q4 q5 q6 q7 q8
  simp only [List.drop_zero, List.drop_succ_cons, List.take_succ_cons, List.take_zero] at q0 q1 q2 q3 q4 q5 q6 q7 q8
  obtain ⟨id, e4, g4, w4⟩ := DataW.trod_int Try.underlying3 q0
  obtain ⟨kd, e5, g5, w5⟩ := DataW.trod_int Try.underlying3 q1
  obtain ⟨sp, e6, g6, w6⟩ := DataW.trod_int Try.underlying3 q2
  obtain ⟨nm, e7, g7, w7⟩ := DataW.trod_string Try.underlying9 q3
  obtain ⟨tx, e8, g8, w8⟩ := DataW.trod_string Try.underlying9 q4
  obtain ⟨ao, n', ac, e9, L, len, row, hc1, hc2, hAD⟩ := open_attrs q5
  obtain ⟨_, _, m3, _, _, s0, s1⟩ := trod_struct2 Try.underlying32 q6
  obtain ⟨_, _, m4, _, _, t0, t1⟩ := trod_struct2 Try.underlying32 q7
  simp only [cells3] at s0 s1 t0 t1
  simp only [List.drop_zero, List.drop_succ_cons, List.take_succ_cons, List.take_zero] at s0 s1 t0 t1
  obtain ⟨sf, e10, _, w10⟩ := DataW.trod_int Try.underlying3 s0
  obtain ⟨st, e11, _, w11⟩ := DataW.trod_int Try.underlying3 s1
  obtain ⟨ef, e12, _, w12⟩ := DataW.trod_int Try.underlying3 t0
  obtain ⟨et, e13, _, w13⟩ := DataW.trod_int Try.underlying3 t1
  obtain ⟨ko, kn, kc, e14⟩ := slice_cells q8
  simp only [List.cons.injEq, and_true] at e0 e1 e2 e3 e4 e5 e6 e7 e8 e10 e11 e12 e13
  subst len
  subst e0 e1 e2 e3 e4 e5 e6 e7 e8 e9 e10 e11 e12 e13 e14
  refine ⟨⟨k, a, b, c, ⟨id, kd, sp, nm, tx, .slice none 0 0, L, sf, st, ef, et⟩, ao, ac, ko, kn, kc⟩, rfl, ⟨row, hc1, hc2, bounds_i64 w0, bounds_i64 w1, bounds_i64 w2, bounds_i64 w3, bounds_i64 w5⟩, ?_, ?_, ?_⟩
  · rw [hx, hz, g7]
    simp [DataW.weights, DataW.weightsEach, Try.underlying37, Try.underlying35]
  · rw [hx, hz, g8]
    simp [DataW.weights, DataW.weightsEach, Try.underlying37, Try.underlying35]
  · rcases hAD with ⟨hL, _⟩ | ⟨sp, hs⟩
    · exact .inl hL
    · refine .inr ⟨sp.length, ?_⟩
      rw [hx, hz, hs]
      simp [DataW.weights, DataW.weightsEach, Try.underlying37, Try.underlying35, Try.underlying30]
theorem open_deeds2 {H : Type} {enc : TypeId × Value → H} {W : World} {n : Nat} {lo : Option Addr} {len cap : Nat} {x : DataW H × List MemPlace} (h : DataW.trod enc Try.prog W 0 (fun _ => true) true n 22 [.slice lo len cap] = some x) :
    ∃ l : List Dd, Dds W lo len cap l ∧ ∀ T ∈ l, T.d.name.data.toList.length ∈ x.1.weights Try.prog 22 ∧ T.d.text.data.toList.length ∈ x.1.weights Try.prog 22 ∧ (T.d.al = [] ∨ ∃ q, (T.d.al.length + q) * Try.prog.bytesOf 53 ∈ x.1.weights Try.prog 22) := by
  rcases Go.Deep.open_slice Try.underlying22 h with ⟨h0, _⟩ | ⟨a, len', cap', m, k, D, Pl, hcs, _, hl, hm, hmm, hxe, hx⟩
  · simp only [List.cons.injEq, Value.slice.injEq, and_true] at h0
    obtain ⟨_, rfl, rfl⟩ := h0
    exact ⟨[], ⟨rfl, fun i x hx => by simp at hx, Nat.le_refl _, Nat.zero_le _⟩, fun T hT => by simp at hT⟩
  · simp only [List.cons.injEq, Value.slice.injEq, and_true] at hcs
    obtain ⟨rfl, rfl, rfl⟩ := hcs
    rw [if_pos rfl] at hmm
    have each : ∀ i, i < len → ∃ r : Dd, (∀ j u, r.arr[j]? = some u → W.cell? (a.add (i * 15 + j)) = some u) ∧ DdIn W r ∧ r.d.name.data.toList.length ∈ (D i).weights Try.prog 37 ∧ r.d.text.data.toList.length ∈ (D i).weights Try.prog 37 ∧ (r.d.al = [] ∨ ∃ q, (r.d.al.length + q) * Try.prog.bytesOf 53 ∈ (D i).weights Try.prog 37) := by
      intro i hi
      obtain ⟨cs', h1, h2⟩ := hx i (by omega)
      rw [cells37] at h1
      obtain ⟨_, hlen, hcell⟩ := World.cells?_some h1
      obtain ⟨T, rfl, z1⟩ := deed_cells2 h2
      refine ⟨T, fun j u hj => ?_, z1⟩
      have hj8 : j < 15 := by have := (Array.getElem?_eq_some_iff.1 hj).1; simpa using this
      have := hcell j hj8
      rw [Go.Deep.add_add] at this
      rw [this]
      rw [← Array.getElem?_toList] at hj
      exact hj
    obtain ⟨f, hf⟩ : ∃ f : Nat → Dd, ∀ i, i < len → (∀ j u, (f i).arr[j]? = some u → W.cell? (a.add (i * 15 + j)) = some u) ∧ DdIn W (f i) ∧ (f i).d.name.data.toList.length ∈ (D i).weights Try.prog 37 ∧ (f i).d.text.data.toList.length ∈ (D i).weights Try.prog 37 ∧ ((f i).d.al = [] ∨ ∃ q, ((f i).d.al.length + q) * Try.prog.bytesOf 53 ∈ (D i).weights Try.prog 37) := by
      haveI : Inhabited Dd := ⟨⟨0, 0, 0, 0, dpp, none, 0, none, 0, 0⟩⟩
      exact Go.Deep.choose_lt each
    refine ⟨(List.range len).map f, ⟨by simp, fun i x hx => ?_, hl, hm⟩, fun T hT => ?_⟩
    rotate_left 1
    · obtain ⟨i, hi, rfl⟩ := List.mem_map.1 hT
      have hi' : i < len := by simpa using hi
      have m : ∀ n ∈ (D i).weights Try.prog 37, n ∈ x.1.weights Try.prog 22 := fun n hn => by
        have q : ∀ A B : List (DataW H), DataW.weights Try.prog 22 (DataW.slice A B) = (A.length + B.length) * Try.prog.bytesOf 37 :: (DataW.weightsAll Try.prog 37 A ++ DataW.weightsAll Try.prog 37 B) := fun A B => by
          simp [DataW.weights, Try.underlying22]
        rw [hxe]
        simp only
        rw [q]
        exact List.mem_cons_of_mem _ (List.mem_append_left _ (weights_mem_all (List.mem_map.2 ⟨i, hi, rfl⟩) n hn))
      exact ⟨m _ (hf i hi').2.2.1, m _ (hf i hi').2.2.2.1, (hf i hi').2.2.2.2.imp id fun ⟨q, hq⟩ => ⟨q, m _ hq⟩⟩
    have hi : i < len := by have := (List.getElem?_eq_some_iff.1 hx).1; simpa using this
    have hfi : f i = x := by
      rw [List.getElem?_map, List.getElem?_range hi] at hx
      simpa using hx
    obtain ⟨g0, ok, _⟩ := hf i hi
    have g00 := (hf 0 (by omega)).1 0 _ rfl
    obtain ⟨b, off, spot⟩ := a
    have hspot : spot = none := by
      have := World.cell?_spot g00
      simpa [Addr.add] using this
    subst hspot
    rw [hfi] at g0 ok
    refine ⟨b, off, rfl, ?_, fun j u hj => ?_, ok⟩
    · have := g0 0 _ rfl
      rw [Addr.add_lit] at this
      exact World.block_lt_of_cell? W _ this
    · have := g0 j u hj
      rw [Addr.add_lit, ← Nat.add_assoc] at this
      exact this
theorem deeds_str {H : Type} {enc : TypeId × Value → H} {W : World} {n : Nat} {lo : Option Addr} {len cap : Nat} {x : DataW H × List MemPlace} {ts : List TypeId} {ds : List (DataW H)} (hz : (DataW.weightsEach Try.prog ts ds).all (· ≤ reachBytes) = true) {j : Nat} (ht : ts[j]? = some 22) (hd : ds[j]? = some x.1) (h : DataW.trod enc Try.prog W 0 (fun _ => true) true n 22 [.slice lo len cap] = some x) :
    ∃ l : List Dd, Dds W lo len cap l ∧ len ≤ 9223372036854775807 ∧ ∀ (i : Nat) (T : Dd), l[i]? = some T → T.d.name.size ≤ 2000000000000000000 ∧ T.d.text.size ≤ 2000000000000000000 ∧ T.d.al.length ≤ 2000000000000000000 := by
  obtain ⟨l, hl, hw⟩ := open_deeds2 h
  refine ⟨l, hl, by have := hl.hcap; have := hl.hmax; unfold maxLen at this; omega, fun i T hT => ?_⟩
  have h5 : reachBytes = 140737488351232 := by decide
  have e1 : T.d.name.data.toList.length = T.d.name.size := Array.length_toList
  have e2 : T.d.text.data.toList.length = T.d.text.size := Array.length_toList
  have m : ∀ n ∈ x.1.weights Try.prog 22, n ≤ reachBytes := fun n hn => of_decide_eq_true (List.all_eq_true.1 hz _ (DataW.weights_mem_each ht hd _ hn))
  have a1 := m _ (hw T (List.mem_of_getElem? hT)).1
  obtain ⟨_, w2, w3⟩ := hw T (List.mem_of_getElem? hT)
  have a2 := m _ w2
  have a3 : T.d.al.length ≤ 140737488351232 := by
    rcases w3 with q | ⟨q, hq⟩
    · rw [q]; simp
    · have := m _ hq
      rw [bytes53] at this
      omega
  exact ⟨by omega, by omega, by omega⟩
end Go.Proofs.Ytcdaghlbfclpkaa
namespace Go.Proofs.Ytcdaghlbfclpkaa
open Go.ChangeShapes Go.WideShapes Go.ChangeAt Go.RowKit Go.Joins

theorem plays_walk (w : World) (lo : Option Addr) (len cap : Nat) (l : List Dd) (hl : Dds w lo len cap l) (hm : len ≤ 9223372036854775807) (hs : ∀ (i : Nat) (T : Dd), l[i]? = some T → T.d.name.size ≤ 2000000000000000000 ∧ T.d.text.size ≤ 2000000000000000000 ∧ T.d.al.length ≤ 2000000000000000000) :
    Calls Try.prog 3 #[.slice lo len cap] w fun e w' => e = .returned (.bool true) ∧ Below w.heap.size w w' := plays_any hl hm hs

set_option maxRecDepth 100000 in
theorem plays_lifted (os : Os) (started : os.Started) (H : Type) (enc : TypeId × Value → H) :
    ReturnsInHanded {} Try.checked os 3 .any (Rows.arenaPlaysSpec.pre6 enc Try.prog Try.f3 Rows.arenaPlaysRow.domain false) (Rows.arenaPlaysSpec.post enc Try.prog Try.f3 false true false false) := by
  refine returnsInHanded_of_change_sized (C := Try.checked) own started (by kernel_rfl) Try.func3
    (ChangeSpec.witness6 (enc := enc) (C := Try.checked) false ⟨#[], #[.slice none 0 0], []⟩ 8 (by kernel_rfl) (by kernel_rfl) (by kernel_rfl) (by kernel_rfl)) ?_
  intro W base args ds gs before hval0 hW hcnd hz0 _
  have hval : ∀ (j : Nat) t v, Try.f3.params[j]? = some t → args[j]? = some v → Value.okWide Try.prog W .any base t v := hval0
  have hz : (DataW.weightsEach Try.prog (Try.f3.params.toList ++ Rows.arenaPlaysSpec.plain.varTypes Try.prog) (ds ++ gs)).all (· ≤ reachBytes) = true := hz0
  have hW' := hW
  obtain ⟨p, q, hA0, hV, rfl, hfz, hnd⟩ := hW
  have hA : DataW.TrodAll enc Try.prog W 0 (fun _ => true) true Try.f3.params.toList args.toList ds p := hA0
  rw [Try.params3] at hA hval hz
  obtain ⟨v0, vs0, d0, ds0, p0, q0, hargs, rfl, rfl, h0, r0⟩ := trodAll_cons hA
  obtain ⟨rfl, rfl, rfl⟩ := trodAll_nil r0
  obtain rfl : args = #[v0] := by cases args; simp_all
  obtain ⟨rfl, rfl⟩ := trodVars_none hV
  have k0 := h0
  have lt0 : ∀ x ∈ p0, x.block < W.heap.size := by obtain ⟨m, hm⟩ := k0; exact DataW.trod_lt m _ _ _ hm
  obtain ⟨lo0, len0, cap0, hv0⟩ := okWide_slice Try.underlying22 (hval 0 22 v0 rfl rfl)
  subst hv0
  obtain ⟨fuel0, hf0⟩ := h0
  obtain ⟨L0, hL0, hm0, hs0⟩ := deeds_str (j := 0) (n := fuel0) hz rfl rfl (by simpa [Value.cells] using hf0)
  clear hA0 hval0 hz0
  refine (plays_walk W lo0 len0 cap0 L0 hL0 hm0 hs0).mono fun e W' ⟨he, bel⟩ => ?_
  subst he
  exact ⟨_, rfl, _, _, _, [], _, [], hW', trodAll_mk1 (shut_bool Try.underlying4 _), (trodAll_cons_mk (Below.trod laidOut (by kernel_rfl) (of_decide_eq_true (by kernel_rfl)) k0 bel lt0) trodAll_mk0), rfl, bel.frame _, fun h => by cases h⟩

theorem plays_holds : Rows.ArenaPlaysSaid :=
  OpenClaim.holds_of_wide 3 Try.f3 rfl rfl rfl rfl rfl rfl rfl ⟨rfl, rfl, rfl, rfl, rfl⟩ rfl rfl rfl rfl rfl (by kernel_rfl) Try.func3 (by kernel_rfl)
    (of_decide_eq_true (by kernel_rfl)) (by unfold Func.isWrapper; first | (rw [if_pos (by decide +kernel)]; kernel_rfl) | (rw [if_neg (by decide +kernel)]; exact ⟨rfl, rfl⟩))
    (fun os started H enc _ => plays_lifted os started H enc)
#print axioms plays_holds
end Go.Proofs.Ytcdaghlbfclpkaa
