/- The law ArenaOwn holds for any attributes: what is done to lists that were handed in or out does not turn the arena. No condition. -/
import Derived.Test.YtcdaghlbfclpkaaBf
import Derived.StillTailTactics
namespace Go.Proofs.Ytcdaghlbfclpkaa
open Go.ChangeShapes Go.WideShapes Go.ChangeAt Go.RowKit Go.Joins

theorem weights_mem_all {H : Type} {P : Program} {e : TypeId} : ∀ {ds : List (DataW H)} {d : DataW H}, d ∈ ds → ∀ n ∈ d.weights P e, n ∈ DataW.weightsAll P e ds
  | [], _, h, _, _ => by simp at h
  | x :: ds, d, h, n, hn => by
    rw [DataW.weightsAll, List.mem_append]
    rcases List.mem_cons.1 h with rfl | h
    · exact .inl hn
    · exact .inr (weights_mem_all h n hn)
/-- Names and values that came in are no longer than the form's reach. -/
theorem ats_str {H : Type} {ts : List TypeId} {ds : List (DataW H)} (hz : (DataW.weightsEach Try.prog ts ds).all (· ≤ reachBytes) = true) {j : Nat} {L : List At} {d : DataW H} (ht : ts[j]? = some 30) (hd : ds[j]? = some d) (h : AtsD d L) :
    ∀ x ∈ L, x.n.size ≤ 140737488351232 ∧ x.v.size ≤ 140737488351232 := by
  intro x hx
  rcases h with ⟨rfl, _⟩ | ⟨sp, rfl⟩
  · simp at hx
  · have h5 : reachBytes = 140737488351232 := by decide
    have e1 : x.n.data.toList.length = x.n.size := Array.length_toList
    have e2 : x.v.data.toList.length = x.v.size := Array.length_toList
    have m : ∀ n ∈ (atD (H := H) x).weights Try.prog 53, n ≤ reachBytes := fun n hn => by
      have g1 : n ∈ (DataW.slice (L.map (atD (H := H))) sp).weights Try.prog 30 := by
        have q : DataW.weights Try.prog 30 (DataW.slice (L.map (atD (H := H))) sp) = ((L.map (atD (H := H))).length + sp.length) * Try.prog.bytesOf 53 :: (DataW.weightsAll Try.prog 53 (L.map (atD (H := H))) ++ DataW.weightsAll Try.prog 53 sp) := by
          simp [DataW.weights, Try.underlying30]
        rw [q]
        exact List.mem_cons_of_mem _ (List.mem_append_left _ (weights_mem_all (List.mem_map.2 ⟨x, hx, rfl⟩) n hn))
      exact of_decide_eq_true (List.all_eq_true.1 hz _ (DataW.weights_mem_each ht hd _ g1))
    have a1 := m x.n.data.toList.length (by simp [DataW.weights, Try.underlying53, DataW.weightsEach])
    have a2 := m x.v.data.toList.length (by simp [DataW.weights, Try.underlying53, DataW.weightsEach])
    omega
theorem famo (a0 : Value) (d : Nd) (a1 : Value) (hd : d.al.length ≤ 1000000000) : Fam 2 [doc0 a0, d.as 1 a1] [⟨false, 0, 0, 0⟩, ⟨true, 0, 0, 0⟩] [⟨1, 1⟩, ⟨0, 0⟩] kz sz2 := by
  obtain ⟨_, f2, f3, f4, _, f6⟩ := fam2 a0 a1
  refine ⟨fun i d' h => ?_, f2, f3, f4, fun d' h => ?_, f6⟩
  · match i, h with
    | 0, h => simp at h; subst h; rfl
    | 1, h => simp at h; subst h; rfl
  · simp at h
    rcases h with rfl | rfl
    · simp [doc0]
    · exact hd
theorem Ar.lt {S : Nat → Prop} {w : World} {x : Nat} {N : List Nd} {P : List Sp} {E : List En} (h : Ar S w x N P E) {k : Nat} (hk : S k) : k < w.heap.size := by
  obtain ⟨_, _, _, h⟩ := h
  exact h.low k hk
def dOf (L : List At) : Nd := ⟨0, 1, 0, ⟨#[112]⟩, ⟨#[]⟩, .slice none 0 0, L, 0, 0, 0, 0⟩
abbrev N2 (av av2 : Value) (L : List At) : List Nd := [doc0 av, (dOf L).as 1 av2]
abbrev P2 : List Sp := [⟨false, 0, 0, 0⟩, ⟨true, 0, 0, 0⟩]
abbrev E2 : List En := [⟨1, 1⟩, ⟨0, 0⟩]
set_option maxHeartbeats 4000000 in
set_option maxRecDepth 20000 in
theorem own_none (w : World) (ao : Option Addr) (len cap : Nat) (h : len = 0 ∨ len > 100) : Calls Try.prog 6 #[.slice ao len cap] w fun e w' => e = .returned (.bool true) ∧ Below w.heap.size w w' := by
  by_cases h0 : len = 0
  · subst h0
    clear h
    go_enter Try.func6, Try.ntmps6
    go_wp2_with fail
    refine (new_any w).mono ?_
    rintro e w1 ⟨x, av, rfl, _, b1⟩
    go_wp2_with fail
    refine (awake_any _).mono ?_
    rintro e w2 ⟨rfl, b2⟩
    have HZ : Hid (Below w.heap.size w w2) := b1.trans (b2.mono b1.size)
    clear b1 b2
    go_wp2_with fail
    go_ret
    exact ⟨rfl, HZ.out⟩
  · have hz : ((len : Int) == 0) = false := by simp [h0]
    have hz2 : decide ((100 : Int) < (len : Int)) = true := decide_eq_true (by omega)
    clear h h0
    go_enter Try.func6, Try.ntmps6
    go_wp2_with fail
    refine (new_any w).mono ?_
    rintro e w1 ⟨x, av, rfl, _, b1⟩
    go_wp2_with fail
    refine (awake_any _).mono ?_
    rintro e w2 ⟨rfl, b2⟩
    have HZ : Hid (Below w.heap.size w w2) := b1.trans (b2.mono b1.size)
    clear b1 b2
    go_wp2_with fail
    go_ret
    exact ⟨rfl, HZ.out⟩
set_option maxHeartbeats 4000000 in
set_option maxRecDepth 20000 in
theorem own_some (w : World) (b0 off len cap : Nat) (L : List At) (x0 : At) (hL : L.length = len) (h0 : L[0]? = some x0) (hx : AtRow w (some ⟨b0, off, none⟩) L) (hb0 : b0 < w.heap.size) (h100 : len ≤ 100) (hs1 : x0.n.size ≤ 140737488351232) (hs2 : x0.v.size ≤ 140737488351232) : Calls Try.prog 6 #[.slice (some ⟨b0, off, none⟩) len cap] w fun e w' => e = .returned (.bool true) ∧ Below w.heap.size w w' := by
  have h1 : 0 < len := by rw [← hL]; exact (List.getElem?_eq_some_iff.1 h0).1
  have hd0 : decide ((len : Int) = 0) = false := decide_eq_false (by omega)
  have hd1 : decide ((len : Int) > 100) = false := decide_eq_false (by omega)
  have hp : (0 : Int) < (len : Int) := by omega
  have HX : Hid (AtRow w (some ⟨b0, off, none⟩) L ∧ L.length = len ∧ L[0]? = some x0 ∧ x0.n.size ≤ 140737488351232 ∧ x0.v.size ≤ 140737488351232 ∧ 0 < len ∧ len ≤ 100 ∧ b0 < w.heap.size) := ⟨hx, hL, h0, hs1, hs2, h1, h100, hb0⟩
  clear hx hL h0 hs1 hs2 h1 h100 hb0
  go_enter Try.func6, Try.ntmps6
  go_wp2_with fail
  refine (new_any w).mono ?_
  rintro e w1 ⟨x, av, rfl, ha1, b1⟩
  have hx1 := HX.out.1.old b1
  obtain ⟨v', W2, hrun, hr2, hg2, _⟩ := Rw.app (t := 30) (e := 53) (S := fun k => k < w1.heap.size) (v := .slice none 0 0) (n := 0) (xs := []) Try.underlying30 info53 rfl (by decide) (by decide) (Rw.nil _ w1 53 2) (fun k hk => hk) b0 off len cap (L.flatMap At.cells) (by rw [at_len, HX.out.2.1])
    (fun j u hj => by
      obtain ⟨i, y, h1, h2⟩ := flat_at L j u hj
      obtain ⟨b', off', e1, _, e3, e4⟩ := hx1 i y h1
      simp only [Option.some.injEq, Addr.mk.injEq, and_true] at e1
      obtain ⟨rfl, rfl⟩ := e1
      rcases h2 with ⟨rfl, rfl⟩ | ⟨rfl, rfl⟩
      · exact e3
      · exact e4) (at_one L) (by have := HX.out.2.2.2.2.2.2.1; omega)
  have hB2 : Below w1.heap.size w1 W2 := grown_below hg2
  rw [Nat.zero_add, List.nil_append] at hr2
  obtain ⟨mg, mc, _, rfl, hmS, hmlt, hmb, _⟩ := hr2.form HX.out.2.2.2.2.2.1
  have ha2 := ha1.wide hB2
  have hr2' : Rw (fun k => k < w1.heap.size) W2 53 2 (.slice (some ⟨mg, 0, none⟩) L.length mc) L.length (L.flatMap At.cells) := by rw [HX.out.2.1]; exact hr2
  have hat2 : Ats W2 (.slice (some ⟨mg, 0, none⟩) L.length mc) L := hr2'.atr (by have := HX.out.2.1; have := HX.out.2.2.2.2.2.2.1; omega)
  have k5 : Calls Try.prog 23 #[ptr x, .agg #[iv 0, iv 1, iv 0, .string ⟨#[112]⟩, .string ⟨#[]⟩, .slice (some ⟨mg, 0, none⟩) len mc, iv 0, iv 0, iv 0, iv 0, .slice none 0 0]] W2 (Added (Wide (fun k => k < w.heap.size) w1 W2) x 1 (dOf L) [doc0 av] [⟨false, 0, 0, 0⟩] [⟨0, 0⟩] W2) := by
    rw [← HX.out.2.1]
    exact make_any ha2 (n := 1) rfl (by omega) (dOf L) rfl (ao := some ⟨mg, 0, none⟩) (ac := mc) hat2 none 0 0
  have H2 : Hid (Below w.heap.size w W2 ∧ Rw (fun k => k < w1.heap.size) W2 53 2 (.slice (some ⟨mg, 0, none⟩) len mc) len (L.flatMap At.cells) ∧ Wide (fun k => k < w.heap.size) w1 W2 mg ∧ Below w1.heap.size w1 W2 ∧ Below w.heap.size w w1) := ⟨b1.trans (hB2.mono b1.size), hr2, .inr ⟨Nat.le_of_not_lt hmS, hmlt⟩, hB2, b1⟩
  clear ha1 b1 hx1 hr2 hg2 hB2 hmS hmlt hmb ha2 hr2' hat2
  go_wp2_with (at_builtin; refine list_append_eq rfl _ _ 30 30 rfl _ _ rfl rfl hrun ?_)
  clear hrun
  refine k5.mono ?_
  rintro e w3 ⟨av2, rfl, h3, q3⟩
  obtain ⟨g, n, cn, h, cs, k, ce, o3⟩ := h3.open (by simp)
  obtain rfl : n = 2 := by have := o3.nn; simpa using this.symm
  have hw : Calls Try.prog 46 #[ptr x, iv ((0 : Nat) : Int), iv ((1 : Nat) : Int)] w3 (Rd (.bool false) w3) := within_new o3 (i := 0) (t := 1) (e := ⟨0, 0⟩) rfl rfl
  have k6 : Calls Try.prog 24 #[ptr x, iv 0, iv 1, iv (-1)] w3 (fun e w' => e = .returned (iv 0) ∧ Op3 (Wide (fun k => k < w.heap.size) w1 W2) w' x g 2 cn h cs k ce (N2 av av2 L) P2 E2 ∧ Keep (Wide (fun k => k < w.heap.size) w1 W2) w3 w') :=
    ins_last o3 (p := 0) (i := 1) (s := ⟨false, 0, 0, 0⟩) (d := doc0 av) (ep := ⟨0, 0⟩) (by decide) (by decide) (by decide) rfl rfl rfl rfl hw rfl (by decide)
  have H3 : Hid (Keep (Wide (fun k => k < w.heap.size) w1 W2) W2 w3) := q3
  clear h3 q3 o3 hw k5
  go_wp2_with fail
  refine k6.mono ?_
  rintro e w4 ⟨rfl, o4, q4⟩
  have q24 := H3.out.trans q4
  have hr4 : Rw (fun k => k < w1.heap.size) w4 53 2 (.slice (some ⟨mg, 0, none⟩) len mc) len (L.flatMap At.cells) := H2.out.2.1.mv fun g hg => by
    simp only [Value.ownBlock, Option.some.injEq] at hg
    subst hg
    exact q24.block _ H2.out.2.2.1 (own_blk H2.out.2.1.own rfl).1
  have hmS' := H2.out.2.2.1
  have hmw : w.heap.size ≤ mg := by
    have := H2.out.2.1.out mg rfl
    have := H2.out.2.2.2.2.size
    omega
  have hbw4 : Below w.heap.size w w4 := H2.out.1.trans (q24.below (fun k hk => .inl hk) H2.out.1.size)
  have f0 : (L.flatMap At.cells)[0]? = some (.string x0.n) := (fl_at At.cells 2 (fun _ => rfl) L 0 0 x0 HX.out.2.2.1 (by decide)).trans rfl
  have cm : w4.cell? ⟨mg, 0, none⟩ = some (.string x0.n) := hr4.cell f0
  have fm : w4.frozen? ⟨mg, 0, none⟩ = false := World.ownsRow.frozenAt hr4.own _
  have a5 : Ar (Wide (fun k => k < w.heap.size) w1 W2) (w4.setCell ⟨mg, 0, none⟩ (.string (x0.n ++ ⟨#[120]⟩))) x (N2 av av2 L) P2 E2 := Ar.others ⟨_, _, _, o4.v⟩ (by simp) (fun i hi _ => heap_setCell_other w4 ⟨mg, 0, none⟩ i _ (fun e => hi (by rw [e]; exact hmS')))
  have b5 : Below w.heap.size w (w4.setCell ⟨mg, 0, none⟩ (.string (x0.n ++ ⟨#[120]⟩))) := hbw4.setCell (p := ⟨mg, 0, none⟩) hmw _
  have hsn := HX.out.2.2.2.1
  have hsv := HX.out.2.2.2.2.1
  have s1 := fun (w : World) => run_string_add_sum (P := Try.prog) (w := w) x0.n ⟨#[120]⟩ (by show x0.n.size + 1 ≤ _; omega)
  have s2 := fun (w : World) => run_string_add_sum (P := Try.prog) (w := w) x0.v ⟨#[121]⟩ (by show x0.v.size + 1 ≤ _; omega)
  have z1 : x0.n.size + 1 ≤ 9223372036854775807 := by omega
  have z2 : x0.v.size + 1 ≤ 9223372036854775807 := by omega
  clear o4 q4 q24 hmS' hmw hbw4 hr4 f0 k6 hsn hsv H3
  go_upto_region 8 with fail
  generalize hW5 : w4.setCell ⟨mg, 0, none⟩ (.string (x0.n ++ ⟨#[120]⟩)) = w5 at *
  clear cm fm hW5 s1 z1
  obtain ⟨g', n', cn', h', cs', k', ce', o5⟩ := a5.open (by simp)
  obtain rfl : n' = 2 := by have := o5.nn; simpa using this.symm
  have k8 : Calls Try.prog 25 #[ptr x, iv 1] w5 (fun e w' => ∃ ao3 ac3, e = .returned (.tuple #[.agg #[iv 1, iv 1, iv 0, .string ⟨#[112]⟩, .string ⟨#[]⟩, .slice ao3 len ac3, iv 0, iv 0, iv 0, iv 0, .slice none 0 0], iv 0]) ∧ Below w5.heap.size w5 w' ∧ Rw (fun k => k < w5.heap.size) w' 53 2 (.slice ao3 len ac3) len (L.flatMap At.cells)) := by
    refine (get_any o5 (i := 1) (d := (dOf L).as 1 av2) rfl (by show L.length ≤ _; have := HX.out.2.1; have := HX.out.2.2.2.2.2.2.1; omega)).mono ?_
    rintro e w6 ⟨ao3, ac3, rfl, b6, hr6⟩
    have := hr6 (fun k => k < w5.heap.size) (fun k hk => hk)
    rw [← HX.out.2.1]
    exact ⟨ao3, ac3, rfl, b6, this⟩
  have H5 : Hid (Op3 (Wide (fun k => k < w.heap.size) w1 W2) w5 x g' 2 cn' h' cs' k' ce' (N2 av av2 L) P2 E2 ∧ Below w.heap.size w w5) := ⟨o5, b5⟩
  clear a5 b5 o5
  go_wp2_with fail
  refine k8.mono ?_
  rintro e w6 ⟨ao3, ac3, rfl, b6, hr6⟩
  obtain ⟨ng, nc, _, he, hnS, hnlt, hnb, _⟩ := hr6.form HX.out.2.2.2.2.2.1
  simp only [Value.slice.injEq, true_and] at he
  obtain ⟨rfl, rfl⟩ := he
  have b7 : Below w6.heap.size w6 (w6.alloc (.cells #[iv 1, iv 1, iv 0, .string ⟨#[112]⟩, .string ⟨#[]⟩, .slice (some ⟨ng, 0, none⟩) len ac3, iv 0, iv 0, iv 0, iv 0, .slice none 0 0] 35)) := (Below.refl _ _).alloc (Nat.le_refl _) _
  have n7 : Bx (w6.alloc (.cells #[iv 1, iv 1, iv 0, .string ⟨#[112]⟩, .string ⟨#[]⟩, .slice (some ⟨ng, 0, none⟩) len ac3, iv 0, iv 0, iv 0, iv 0, .slice none 0 0] 35)) w6.heap.size #[iv 1, iv 1, iv 0, .string ⟨#[112]⟩, .string ⟨#[]⟩, .slice (some ⟨ng, 0, none⟩) len ac3, iv 0, iv 0, iv 0, iv 0, .slice none 0 0] := heap_alloc_new w6 _
  go_upto_region 9 with fail
  have c60 : w6.cell? ⟨ng, 0, none⟩ = some (.string x0.n) := hr6.cell ((fl_at At.cells 2 (fun _ => rfl) L 0 0 x0 HX.out.2.2.1 (by decide)).trans rfl)
  have c61 : w6.cell? ⟨ng, 1, none⟩ = some (.string x0.v) := hr6.cell ((fl_at At.cells 2 (fun _ => rfl) L 0 1 x0 HX.out.2.2.1 (by decide)).trans rfl)
  generalize hW7 : w6.alloc (.cells #[iv 1, iv 1, iv 0, .string ⟨#[112]⟩, .string ⟨#[]⟩, .slice (some ⟨ng, 0, none⟩) len ac3, iv 0, iv 0, iv 0, iv 0, .slice none 0 0] 35) = w7 at *
  have c70 : w7.cell? ⟨ng, 0, none⟩ = some (.string x0.n) := (cell_same (b7.block ng hnlt) 0).trans c60
  have c71 : w7.cell? ⟨ng, 1, none⟩ = some (.string x0.v) := (cell_same (b7.block ng hnlt) 1).trans c61
  have c75 : w7.cell? ⟨w6.heap.size, 5, none⟩ = some (.slice (some ⟨ng, 0, none⟩) len ac3) := n7.cell 5
  have bw7 : Below w.heap.size w w7 := H5.out.2.trans ((b6.trans (b7.mono b6.size)).mono H5.out.2.size)
  obtain ⟨b', off', e1, _, e3, e4⟩ := (HX.out.1.old bw7) 0 x0 HX.out.2.2.1
  simp only [Option.some.injEq, Addr.mk.injEq, and_true] at e1
  obtain ⟨rfl, rfl⟩ := e1
  have l0 : w7.cell? ⟨b0, off, none⟩ = some (.string x0.n) := by simpa using e3
  have l1 : w7.cell? ⟨b0, off + 1, none⟩ = some (.string x0.v) := by simpa using e4
  have hne : ∀ w : World, (binOp .neq 53 (.agg #[.string x0.n, .string x0.v]) (.agg #[.string x0.n, .string x0.v])).run Try.prog w = .ok (.bool false) w := fun w => by
    rw [ne53, At.eqb_iff.2 rfl]; rfl
  have heq : ∀ w : World, (binOp .eql 53 (.agg #[.string x0.n, .string x0.v]) (.agg #[.string x0.n, .string x0.v])).run Try.prog w = .ok (.bool true) w := fun w => by
    rw [eq53, At.eqb_iff.2 rfl]
  have f71 : w7.frozen? ⟨ng, 1, none⟩ = false := by
    obtain ⟨cur, hc⟩ := (own_blk hr6.own (g := ng) rfl).2
    exact frozen_of_row w7 ng 1 cur 53 ((b7.block ng hnlt).trans hc)
  have H7 : Hid (Below w5.heap.size w5 w6 ∧ Below w6.heap.size w6 w7 ∧ ¬ ng < w5.heap.size ∧ ng < w6.heap.size ∧ Below w.heap.size w w7) := ⟨b6, b7, hnS, hnlt, bw7⟩
  clear b6 hr6 hnS hnlt hnb b7 n7 c60 c61 hW7 bw7 e3 e4 k8
  go_quiet (fail)
  obtain ⟨w8, hw8⟩ : ∃ w8, w7.drewN nq = w8 := ⟨_, rfl⟩
  rw [hw8]
  have d71 : w8.cell? ⟨ng, 1, none⟩ = some (.string x0.v) := by rw [← hw8]; exact c71
  have d75 : w8.cell? ⟨w6.heap.size, 5, none⟩ = some (.slice (some ⟨ng, 0, none⟩) len ac3) := by rw [← hw8]; exact c75
  have g71 : w8.frozen? ⟨ng, 1, none⟩ = false := by rw [← hw8]; exact f71
  have b58 : Below w5.heap.size w5 w8 := by rw [← hw8]; exact below_drewN (H7.out.1.trans (H7.out.2.1.mono H7.out.1.size)) nq
  have b59 : Below w5.heap.size w5 (w8.setCell ⟨ng, 1, none⟩ (.string (x0.v ++ ⟨#[121]⟩))) := b58.setCell (p := ⟨ng, 1, none⟩) (Nat.le_of_not_lt H7.out.2.2.1) _
  clear c70 c71 c75 l0 l1 f71 hw8 b58
  go_upto_region 12 with fail
  generalize hW9 : w8.setCell ⟨ng, 1, none⟩ (.string (x0.v ++ ⟨#[121]⟩)) = w9 at *
  clear hW9 d71 d75 g71 s2 z2
  have o9 := H5.out.1.old b59
  have k12 : Calls Try.prog 17 #[ptr x, iv 0] w9 (Kds [1] w9) := kids_any o9 (i := 0) (e := ⟨1, 1⟩) (L := [1]) rfl (.cons (by decide) rfl .nil) (by decide)
  clear o9
  go_wp2_with fail
  refine k12.mono ?_
  rintro e w10 ⟨kv, rfl, b10, kr⟩
  obtain ⟨kg, kc1, _, rfl, hkS, hkl, hkb, _⟩ := kr.form (by decide)
  have kc0 : w10.cell? ⟨kg, 0, none⟩ = some (iv 1) := kr.cell rfl
  have kf0 : w10.frozen? ⟨kg, 0, none⟩ = false := World.ownsRow.frozenAt kr.own _
  have b11 : Below w9.heap.size w9 (w10.setCell ⟨kg, 0, none⟩ (iv 77)) := b10.setCell (p := ⟨kg, 0, none⟩) (Nat.le_of_not_lt hkS) _
  have B11 : Hid (Below w5.heap.size w5 (w10.setCell ⟨kg, 0, none⟩ (iv 77))) := b59.trans (b11.mono b59.size)
  clear b10 kr hkS hkl hkb b11 b59 k12
  go_upto_region 16 with fail
  generalize hW11 : w10.setCell ⟨kg, 0, none⟩ (iv 77) = w11 at *
  clear hW11 kc0 kf0
  have k16 : Calls Try.prog 20 #[ptr x, iv 0] w11 (fun e w' => ∃ ao9 ac9 kb kc tg tc, e = .returned (.agg #[iv 0, iv 0, iv 0, .string ⟨#[]⟩, .string ⟨#[]⟩, .slice ao9 0 ac9, iv (-1), iv (-1), iv (-1), iv (-1), .slice (some ⟨kb, 0, none⟩) 1 kc]) ∧ Below w11.heap.size w11 w' ∧ w'.cell? ⟨kb, 5, none⟩ = some (.slice (some ⟨tg, 0, none⟩) len tc) ∧ kb < w'.heap.size ∧ w'.cell? ⟨tg, 0, none⟩ = some (.string x0.n) ∧ w'.cell? ⟨tg, 1, none⟩ = some (.string x0.v) ∧ tg < w'.heap.size) := by
    refine (tree_any (H5.out.1.old B11.out) (famo av (dOf L) av2 (by show L.length ≤ _; have := HX.out.2.1; have := HX.out.2.2.2.2.2.2.1; omega)) (i := 0) (d := doc0 av) rfl (by decide)).mono ?_
    rintro e w12 ⟨ao9, ac9, kp, kc, kb, rfl, b12, _, hkp, hkd⟩
    obtain rfl := hkp (by decide)
    have t := hkd 0 1 rfl
    cases t with
    | mk hd h hp hk =>
      simp at hd
      subst hd
      obtain ⟨ao, ac, h5, hr⟩ := h.at5
      obtain ⟨tg, tc, _, he, _, htl, _⟩ := hr.form (by show 0 < L.length; rw [HX.out.2.1]; exact HX.out.2.2.2.2.2.1)
      simp only [Value.slice.injEq, true_and] at he
      obtain ⟨rfl, _⟩ := he
      refine ⟨ao9, ac9, kb, kc, tg, ac, rfl, b12, ?_, ?_, hr.cell ((fl_at At.cells 2 (fun _ => rfl) L 0 0 x0 HX.out.2.2.1 (by decide)).trans rfl), hr.cell ((fl_at At.cells 2 (fun _ => rfl) L 0 1 x0 HX.out.2.2.1 (by decide)).trans rfl), htl⟩
      · rw [← HX.out.2.1]
        exact h5
      · obtain ⟨cur, hc⟩ := h.ty
        exact (Array.getElem?_eq_some_iff.1 hc).1
  go_wp2_with fail
  refine k16.mono ?_
  rintro e w12 ⟨ao9, ac9, kb, kc, tg, tc, rfl, b12, q5, hkb, t0, t1, htl⟩
  have b13 : Below w12.heap.size w12 (w12.alloc (.cells #[iv 0, iv 0, iv 0, .string ⟨#[]⟩, .string ⟨#[]⟩, .slice ao9 0 ac9, iv (-1), iv (-1), iv (-1), iv (-1), .slice (some ⟨kb, 0, none⟩) 1 kc] 35)) := (Below.refl _ _).alloc (Nat.le_refl _) _
  have n13 : Bx (w12.alloc (.cells #[iv 0, iv 0, iv 0, .string ⟨#[]⟩, .string ⟨#[]⟩, .slice ao9 0 ac9, iv (-1), iv (-1), iv (-1), iv (-1), .slice (some ⟨kb, 0, none⟩) 1 kc] 35)) w12.heap.size #[iv 0, iv 0, iv 0, .string ⟨#[]⟩, .string ⟨#[]⟩, .slice ao9 0 ac9, iv (-1), iv (-1), iv (-1), iv (-1), .slice (some ⟨kb, 0, none⟩) 1 kc] := heap_alloc_new w12 _
  go_upto_region 17 with fail
  generalize hW13 : w12.alloc (.cells #[iv 0, iv 0, iv 0, .string ⟨#[]⟩, .string ⟨#[]⟩, .slice ao9 0 ac9, iv (-1), iv (-1), iv (-1), iv (-1), .slice (some ⟨kb, 0, none⟩) 1 kc] 35) = w13 at *
  have p5 : w13.cell? ⟨kb, 5, none⟩ = some (.slice (some ⟨tg, 0, none⟩) len tc) := (cell_same (b13.block kb hkb) 5).trans q5
  have p0 : w13.cell? ⟨tg, 0, none⟩ = some (.string x0.n) := (cell_same (b13.block tg htl) 0).trans t0
  have p1 : w13.cell? ⟨tg, 1, none⟩ = some (.string x0.v) := (cell_same (b13.block tg htl) 1).trans t1
  have p10 : w13.cell? ⟨w12.heap.size, 10, none⟩ = some (.slice (some ⟨kb, 0, none⟩) 1 kc) := n13.cell 10
  have bw : Below w.heap.size w w13 := H5.out.2.trans (((B11.out.trans (b12.mono B11.out.size)).trans (b13.mono (Nat.le_trans B11.out.size b12.size))).mono H5.out.2.size)
  obtain ⟨b', off', e1, _, e3, e4⟩ := (HX.out.1.old bw) 0 x0 HX.out.2.2.1
  simp only [Option.some.injEq, Addr.mk.injEq, and_true] at e1
  obtain ⟨rfl, rfl⟩ := e1
  have l0 : w13.cell? ⟨b0, off, none⟩ = some (.string x0.n) := by simpa using e3
  have l1 : w13.cell? ⟨b0, off + 1, none⟩ = some (.string x0.v) := by simpa using e4
  have HB : Hid (Below w.heap.size w w13) := bw
  have hll : ((len : Int) == (len : Int)) = true := by simp
  clear b12 q5 hkb t0 t1 htl b13 n13 hW13 bw e3 e4 k16
  have hpn : 0 < len := by omega
  go_still_tail 29, (show Try.prog.follows .mixedOrders = true by kernel_rfl)
  go_wp2_with fail
  refine (awake_any _).mono ?_
  rintro e w14 ⟨rfl, b14⟩
  have HZ : Hid (Below w.heap.size w w14) := (HB.out.drew).trans (b14.mono HB.out.drew.size)
  clear b14
  go_wp2_with fail
  go_ret
  exact ⟨rfl, HZ.out⟩
theorem own_walk (w : World) (ao : Option Addr) (len cap : Nat) (L : List At) (hL : L.length = len) (hx : AtRow w ao L) (hs : ∀ x ∈ L, x.n.size ≤ 140737488351232 ∧ x.v.size ≤ 140737488351232) : Calls Try.prog 6 #[.slice ao len cap] w fun e w' => e = .returned (.bool true) ∧ Below w.heap.size w w' := by
  by_cases h : len = 0 ∨ len > 100
  · exact own_none w ao len cap h
  · obtain ⟨x0, h0⟩ : ∃ x0, L[0]? = some x0 := ⟨_, List.getElem?_eq_getElem (by omega)⟩
    obtain ⟨b0, off, rfl, hb, _⟩ := hx 0 x0 h0
    have := hs x0 (List.mem_of_getElem? h0)
    exact own_some w b0 off len cap L x0 hL h0 hx hb (by omega) this.1 this.2

set_option maxRecDepth 100000 in
theorem ownl (os : Os) (started : os.Started) (H : Type) (enc : TypeId × Value → H) :
    ReturnsInHanded {} Try.checked os 6 .any (Rows.arenaOwnSpec.pre6 enc Try.prog Try.f6 Rows.arenaOwnRow.domain false) (Rows.arenaOwnSpec.post enc Try.prog Try.f6 false true false false) := by
  refine returnsInHanded_of_change_sized (C := Try.checked) own started (by kernel_rfl) Try.func6
    (ChangeSpec.witness6 (enc := enc) (C := Try.checked) false ⟨#[], #[.slice none 0 0], []⟩ 8 (by kernel_rfl) (by kernel_rfl) (by kernel_rfl) (by kernel_rfl)) ?_
  intro W base args ds gs before hval0 hW hcnd hz0 _
  have hval : ∀ (j : Nat) t v, Try.f6.params[j]? = some t → args[j]? = some v → Value.okWide Try.prog W .any base t v := hval0
  have hz : (DataW.weightsEach Try.prog (Try.f6.params.toList ++ Rows.arenaOwnSpec.plain.varTypes Try.prog) (ds ++ gs)).all (· ≤ reachBytes) = true := hz0
  have hW' := hW
  obtain ⟨p, q, hA0, hV, rfl, hfz, hnd⟩ := hW
  have hA : DataW.TrodAll enc Try.prog W 0 (fun _ => true) true Try.f6.params.toList args.toList ds p := hA0
  rw [Try.params6] at hA hval hz
  obtain ⟨v0, vs0, d0, ds0, p0, q0, hargs, rfl, rfl, h0, r0⟩ := trodAll_cons hA
  obtain ⟨rfl, rfl, rfl⟩ := trodAll_nil r0
  obtain rfl : args = #[v0] := by cases args; simp_all
  obtain ⟨rfl, rfl⟩ := trodVars_none hV
  have k0 := h0
  have lt0 : ∀ x ∈ p0, x.block < W.heap.size := by obtain ⟨m, hm⟩ := k0; exact DataW.trod_lt m _ _ _ hm
  obtain ⟨lo0, len0, cap0, hv0⟩ := okWide_slice Try.underlying30 (hval 0 30 v0 rfl rfl)
  subst hv0
  obtain ⟨fuel0, hf0⟩ := h0
  obtain ⟨lo0', len0', cap0', hw0, L0, hL0, hx0, _, _, hD0⟩ := open_attrs (n := fuel0) (by simpa [Value.cells] using hf0)
  simp only [Value.slice.injEq] at hw0
  obtain ⟨rfl, rfl, rfl⟩ := hw0
  have hs0 := ats_str (j := 0) hz rfl rfl hD0
  clear hA0 hval0 hz0
  refine (own_walk W lo0 len0 cap0 L0 hL0 hx0 hs0).mono fun e W' ⟨he, bel⟩ => ?_
  subst he
  exact ⟨_, rfl, _, _, _, [], _, [], hW', trodAll_mk1 (shut_bool Try.underlying4 _), (trodAll_cons_mk (Below.trod laidOut (by kernel_rfl) (of_decide_eq_true (by kernel_rfl)) k0 bel lt0) trodAll_mk0), rfl, bel.frame _, fun h => by cases h⟩

theorem own_holds : Rows.ArenaOwnSaid :=
  OpenClaim.holds_of_wide 6 Try.f6 rfl rfl rfl rfl rfl rfl rfl ⟨rfl, rfl, rfl, rfl, rfl⟩ rfl rfl rfl rfl rfl (by kernel_rfl) Try.func6 (by kernel_rfl)
    (of_decide_eq_true (by kernel_rfl)) (by unfold Func.isWrapper; first | (rw [if_pos (by decide +kernel)]; kernel_rfl) | (rw [if_neg (by decide +kernel)]; exact ⟨rfl, rfl⟩))
    (fun os started H enc _ => ownl os started H enc)
#print axioms own_holds
end Go.Proofs.Ytcdaghlbfclpkaa
