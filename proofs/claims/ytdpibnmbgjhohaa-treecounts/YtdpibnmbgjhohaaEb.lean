/- The law TreeCounts: its walk. -/
import Derived.Test.YtdpibnmbgjhohaaEa
namespace Go.Proofs.Ytdpibnmbgjhohaa
open Go.RowKit

/-- What stands in the law's world: the box of the tree, what was there when it began. -/
structure Onb (V : World) (b : Nat) (A : Array Value) (w' : World) : Prop where
  bel : Below V.heap.size V w'
  box : Bx w' b A
theorem Onb.drew {V : World} {b : Nat} {A : Array Value} {w' : World} (h : Onb V b A w') : Onb V b A w'.drew := ⟨h.bel.drew, h.box⟩
theorem Onb.next {V : World} {b : Nat} {A : Array Value} {w1 w2 : World} (h : Onb V b A w1) (k : Below w1.heap.size w1 w2) : Onb V b A w2 := ⟨h.bel.trans (k.mono h.bel.size), h.box.old k⟩
/-- The two rows of numbers. -/
def Rows2 (V : World) (L : List Int) (n : Nat) (va vb : Value) (W : World) : Prop := ∃ a ca b cb, va = .slice a n ca ∧ vb = .slice b n cb ∧ IntRow W a L ∧ IntRow W b L ∧ Below V.heap.size V W
theorem idd_row {L : List Int} {n : Nat} (hn : L.length = n) {f : Nat} {args : Array Value} {W : World} (h : Calls Try.prog f args W fun e w' => Idd L W e w') : Calls Try.prog f args W fun e w' => ∃ a c, e = .returned (.slice a n c) ∧ IntRow w' a L ∧ Below W.heap.size W w' :=
  h.mono fun e w' h => by
    obtain ⟨v, rfl, hb, hr⟩ := h
    rw [hn] at hr
    obtain ⟨a, c, rfl, _, _, _, hi⟩ := hr.ints
    exact ⟨a, c, rfl, hi, hb⟩
set_option maxRecDepth 20000 in
set_option maxHeartbeats 8000000 in
theorem counts_walk (w : World) (t : Tr) (av kv : Value) (ht : TrC w t av kv) (hok : Ok t) : Calls Try.prog 4 #[nv t.d av kv] w fun e w' => e = .returned (.bool true) ∧ Below w.heap.size w w' := by
  obtain ⟨a, ac, k, kc, rfl, rfl, _⟩ := ht.flat
  obtain ⟨V, hV⟩ : ∃ V, w.alloc (na t.d (.slice a t.d.al.length ac) (.slice k t.k.length kc)) = V := ⟨_, rfl⟩
  have hb : Below w.heap.size w V := by rw [← hV]; exact (Below.refl _ _).alloc (Nat.le_refl _) _
  have hx : Bx V w.heap.size #[iv t.d.id, iv t.d.kind, iv t.d.space, .string t.d.name, .string t.d.text, .slice a t.d.al.length ac, iv t.d.sf, iv t.d.st, iv t.d.ef, iv t.d.et, .slice k t.k.length kc] := by rw [← hV]; exact heap_alloc_new w _
  have hbl : w.heap.size < V.heap.size := hx.lt
  have HV : Hid (w.alloc (na t.d (.slice a t.d.al.length ac) (.slice k t.k.length kc)) = V ∧ Below w.heap.size w V) := ⟨hV, hb⟩
  have h7 := small_any (ht.old hb).v hok
  by_cases hs : wT t 200 3000 < 0
  · rw [if_pos hs] at h7
    clear hV hb ht
    go_enter Try.func4, Try.ntmps4
    go_wp2_with fail
    rw [HV.out.1]
    refine h7.mono ?_
    rintro e W1 ⟨rfl, b1⟩
    go_wp2_with fail
    refine (awake_any _).mono ?_
    rintro e W2 ⟨rfl, b2⟩
    go_wp2_with fail
    go_ret
    exact ⟨rfl, (HV.out.2.trans (b1.mono HV.out.2.size)).trans (b2.mono (Nat.le_trans HV.out.2.size b1.size))⟩
  · rw [if_neg hs] at h7
    have ti := tiny_of hs
    obtain ⟨L, hL⟩ : ∃ L, iT t = L := ⟨_, rfl⟩
    obtain ⟨n, hn⟩ : ∃ n, L.length = n := ⟨_, rfl⟩
    have hcn : (cT t : Int) = n := by rw [← hn, ← hL, iT_len]
    have hTV := ht.old hb
    have hc := ti.cnt
    have H13 : Hid (∀ W, Below V.heap.size V W → Calls Try.prog 13 #[nv t.d (.slice a t.d.al.length ac) (.slice k t.k.length kc)] W fun e w' => ∃ a c, e = .returned (.slice a n c) ∧ IntRow w' a L ∧ Below W.heap.size W w') := fun W b => idd_row hn (by rw [← hL]; exact (callsIn_wide (n := 0)).1 (ids_in 0 (hTV.old b) (by omega)))
    have H14 : Hid (∀ W, Below V.heap.size V W → Calls Try.prog 14 #[nv t.d (.slice a t.d.al.length ac) (.slice k t.k.length kc)] W fun e w' => ∃ a c, e = .returned (.slice a n c) ∧ IntRow w' a L ∧ Below W.heap.size W w') := fun W b => idd_row hn (by rw [← hL]; exact rids_any hTV.v hok (by omega) W b)
    have H15 : Hid (∀ W, Below V.heap.size V W → Calls Try.prog 15 #[nv t.d (.slice a t.d.al.length ac) (.slice k t.k.length kc)] W fun e w' => e = .returned (iv n) ∧ Below W.heap.size W w') := fun W b => by
      have := (callsIn_wide (n := 0)).1 (count_in 0 (hTV.old b) (by omega))
      rwa [hcn] at this
    have H16 : Hid (∀ W, Below V.heap.size V W → Calls Try.prog 16 #[nv t.d (.slice a t.d.al.length ac) (.slice k t.k.length kc)] W fun e w' => e = .returned (iv (dT t)) ∧ Below W.heap.size W w') := fun W b => (callsIn_wide (n := 0)).1 (depth_in 0 (hTV.old b) (by omega))
    have H17 : Hid (∀ W, Below V.heap.size V W → Calls Try.prog 17 #[nv t.d (.slice a t.d.al.length ac) (.slice k t.k.length kc)] W fun e w' => e = .returned (iv (dT t)) ∧ Below W.heap.size W w') := fun W b => rdepth_any hTV.v hok (by have := ti.dep; omega) W b
    have H18 : Hid (∀ W, Below V.heap.size V W → Calls Try.prog 18 #[nv t.d (.slice a t.d.al.length ac) (.slice k t.k.length kc)] W fun e w' => e = .returned (iv (chkP t)) ∧ Below W.heap.size W w') := fun W b => (callsIn_wide (n := 0)).1 (check_in 0 (hTV.old b) (by omega))
    have H19 : Hid (∀ W, Below V.heap.size V W → Calls Try.prog 19 #[nv t.d (.slice a t.d.al.length ac) (.slice k t.k.length kc)] W fun e w' => e = .returned (iv (chkP t)) ∧ Below W.heap.size W w') := fun W b => rcheck_any (hTV.old b) hok (by omega)
    have HL : Hid (L.length = n) := hn
    have hn3 : n ≤ 3000 := by omega
    clear hV hb ht hs hL hn hcn hTV hc ti
    go_enter Try.func4, Try.ntmps4
    go_wp2_with fail
    rw [HV.out.1]
    refine h7.mono ?_
    rintro e W1 ⟨rfl, b1⟩
    have hx1 := hx.old b1
    have HB1 : Hid (Below V.heap.size V W1) := b1
    have HX : Hid (Bx V w.heap.size #[iv t.d.id, iv t.d.kind, iv t.d.space, .string t.d.name, .string t.d.text, .slice a t.d.al.length ac, iv t.d.sf, iv t.d.st, iv t.d.ef, iv t.d.et, .slice k t.k.length kc]) := hx
    clear h7 b1 hx
    have x0 : W1.cell? ⟨w.heap.size, 0, none⟩ = some (iv t.d.id) := Bx.cell hx1 0
    have x1 : W1.cell? ⟨w.heap.size, 1, none⟩ = some (iv t.d.kind) := Bx.cell hx1 1
    have x2 : W1.cell? ⟨w.heap.size, 2, none⟩ = some (iv t.d.space) := Bx.cell hx1 2
    have x3 : W1.cell? ⟨w.heap.size, 3, none⟩ = some (.string t.d.name) := Bx.cell hx1 3
    have x4 : W1.cell? ⟨w.heap.size, 4, none⟩ = some (.string t.d.text) := Bx.cell hx1 4
    have x5 : W1.cell? ⟨w.heap.size, 5, none⟩ = some (.slice a t.d.al.length ac) := Bx.cell hx1 5
    have x6 : W1.cell? ⟨w.heap.size, 6, none⟩ = some (iv t.d.sf) := Bx.cell hx1 6
    have x7 : W1.cell? ⟨w.heap.size, 7, none⟩ = some (iv t.d.st) := Bx.cell hx1 7
    have x8 : W1.cell? ⟨w.heap.size, 8, none⟩ = some (iv t.d.ef) := Bx.cell hx1 8
    have x9 : W1.cell? ⟨w.heap.size, 9, none⟩ = some (iv t.d.et) := Bx.cell hx1 9
    have x10 : W1.cell? ⟨w.heap.size, 10, none⟩ = some (.slice k t.k.length kc) := Bx.cell hx1 10
    go_upto_region 3 with fail
    go_cut [3, 4] (fun va vb wc => Rows2 V L n va vb wc)
    case first =>
      go_region_with (first
        | (go_at_call 13; refine (H13.out _ (by first | exact bq | exact HB1.out.drew)).mono ?_; rintro e w13 ⟨a13, c13, rfl, i13, b13⟩; have bq := (show Below V.heap.size V _ from (by first | exact bq | exact HB1.out.drew)).trans (b13.mono (Below.size (by first | exact bq | exact HB1.out.drew))); have hxq := (show Bx _ w.heap.size #[iv t.d.id, iv t.d.kind, iv t.d.space, .string t.d.name, .string t.d.text, .slice a t.d.al.length ac, iv t.d.sf, iv t.d.st, iv t.d.ef, iv t.d.et, .slice k t.k.length kc] from (by first | exact hxq | exact hx1)).old b13; have x0 := Bx.cell hxq 0; have x1 := Bx.cell hxq 1; have x2 := Bx.cell hxq 2; have x3 := Bx.cell hxq 3; have x4 := Bx.cell hxq 4; have x5 := Bx.cell hxq 5; have x6 := Bx.cell hxq 6; have x7 := Bx.cell hxq 7; have x8 := Bx.cell hxq 8; have x9 := Bx.cell hxq 9; have x10 := Bx.cell hxq 10; simp only [List.getElem?_toArray, List.getElem?_cons_zero, List.getElem?_cons_succ] at x0 x1 x2 x3 x4 x5 x6 x7 x8 x9 x10)
        | (go_at_call 14; refine (H14.out _ (by first | exact bq | exact HB1.out.drew)).mono ?_; rintro e w14 ⟨a14, c14, rfl, i14, b14⟩; have bq := (show Below V.heap.size V _ from (by first | exact bq | exact HB1.out.drew)).trans (b14.mono (Below.size (by first | exact bq | exact HB1.out.drew))); have hxq := (show Bx _ w.heap.size #[iv t.d.id, iv t.d.kind, iv t.d.space, .string t.d.name, .string t.d.text, .slice a t.d.al.length ac, iv t.d.sf, iv t.d.st, iv t.d.ef, iv t.d.et, .slice k t.k.length kc] from (by first | exact hxq | exact hx1)).old b14; have x0 := Bx.cell hxq 0; have x1 := Bx.cell hxq 1; have x2 := Bx.cell hxq 2; have x3 := Bx.cell hxq 3; have x4 := Bx.cell hxq 4; have x5 := Bx.cell hxq 5; have x6 := Bx.cell hxq 6; have x7 := Bx.cell hxq 7; have x8 := Bx.cell hxq 8; have x9 := Bx.cell hxq 9; have x10 := Bx.cell hxq 10; simp only [List.getElem?_toArray, List.getElem?_cons_zero, List.getElem?_cons_succ] at x0 x1 x2 x3 x4 x5 x6 x7 x8 x9 x10))
      all_goals (go_wp2_with fail; go_meet)
      all_goals first
        | exact ⟨a13, c13, a14, c14, rfl, rfl, i13.old b14, i14, bq⟩
        | exact ⟨a13, c13, a14, c14, rfl, rfl, i13, i14.old b13, bq⟩
    case rest =>
      obtain ⟨a1, c1, a2, c2, rfl, rfl, i1, i2, hb2⟩ := hcut
      have hx2 : Bx wc w.heap.size #[iv t.d.id, iv t.d.kind, iv t.d.space, .string t.d.name, .string t.d.text, .slice a t.d.al.length ac, iv t.d.sf, iv t.d.st, iv t.d.ef, iv t.d.et, .slice k t.k.length kc] := HX.out.old hb2
      have HR : Hid (IntRow wc a1 L ∧ IntRow wc a2 L ∧ Below V.heap.size V wc) := ⟨i1, i2, hb2⟩
      clear i1 i2 hb2 x0 x1 x2 x3 x4 x5 x6 x7 x8 x9 x10
      go_wp2_with fail
      go_loopg [5] n (fun g2 iv' wr => ∃ (i q : Nat), iv' = .int .i64 i ∧ i + g2 = n ∧ wr = wc.drewN q)
      case atStart => exact ⟨0, 0, rfl, by omega, rfl⟩
      case round =>
        obtain ⟨i, q, rfl, hig, rfl⟩ := hrel
        cases gk with
        | zero =>
          obtain rfl : i = n := by omega
          have hg0 : decide ((i : Int) < (i : Int)) = false := decide_eq_false (by omega)
          obtain ⟨W3, hW3⟩ : ∃ W3, wc.drewN q = W3 := ⟨_, rfl⟩
          have HB3 : Hid (Below V.heap.size V W3) := by rw [← hW3]; exact below_drewN HR.out.2.2 q
          have hx3 : Bx W3 w.heap.size #[iv t.d.id, iv t.d.kind, iv t.d.space, .string t.d.name, .string t.d.text, .slice a t.d.al.length ac, iv t.d.sf, iv t.d.st, iv t.d.ef, iv t.d.et, .slice k t.k.length kc] := by rw [← hW3]; exact hx2
          rw [hW3]
          clear hW3
          have x0 : W3.cell? ⟨w.heap.size, 0, none⟩ = some (iv t.d.id) := Bx.cell hx3 0
          have x1 : W3.cell? ⟨w.heap.size, 1, none⟩ = some (iv t.d.kind) := Bx.cell hx3 1
          have x2 : W3.cell? ⟨w.heap.size, 2, none⟩ = some (iv t.d.space) := Bx.cell hx3 2
          have x3 : W3.cell? ⟨w.heap.size, 3, none⟩ = some (.string t.d.name) := Bx.cell hx3 3
          have x4 : W3.cell? ⟨w.heap.size, 4, none⟩ = some (.string t.d.text) := Bx.cell hx3 4
          have x5 : W3.cell? ⟨w.heap.size, 5, none⟩ = some (.slice a t.d.al.length ac) := Bx.cell hx3 5
          have x6 : W3.cell? ⟨w.heap.size, 6, none⟩ = some (iv t.d.sf) := Bx.cell hx3 6
          have x7 : W3.cell? ⟨w.heap.size, 7, none⟩ = some (iv t.d.st) := Bx.cell hx3 7
          have x8 : W3.cell? ⟨w.heap.size, 8, none⟩ = some (iv t.d.ef) := Bx.cell hx3 8
          have x9 : W3.cell? ⟨w.heap.size, 9, none⟩ = some (iv t.d.et) := Bx.cell hx3 9
          have x10 : W3.cell? ⟨w.heap.size, 10, none⟩ = some (.slice k t.k.length kc) := Bx.cell hx3 10
          have bl_of : ∀ {w' : World}, w'.cell? ⟨w.heap.size, 0, none⟩ = some (iv t.d.id) ∧ w'.cell? ⟨w.heap.size, 1, none⟩ = some (iv t.d.kind) ∧ w'.cell? ⟨w.heap.size, 2, none⟩ = some (iv t.d.space) ∧ w'.cell? ⟨w.heap.size, 3, none⟩ = some (.string t.d.name) ∧ w'.cell? ⟨w.heap.size, 4, none⟩ = some (.string t.d.text) ∧ w'.cell? ⟨w.heap.size, 5, none⟩ = some (.slice a t.d.al.length ac) ∧ w'.cell? ⟨w.heap.size, 6, none⟩ = some (iv t.d.sf) ∧ w'.cell? ⟨w.heap.size, 7, none⟩ = some (iv t.d.st) ∧ w'.cell? ⟨w.heap.size, 8, none⟩ = some (iv t.d.ef) ∧ w'.cell? ⟨w.heap.size, 9, none⟩ = some (iv t.d.et) ∧ w'.cell? ⟨w.heap.size, 10, none⟩ = some (.slice k t.k.length kc) ∧ Below V.heap.size V w' → Below V.heap.size V w' := fun h => h.2.2.2.2.2.2.2.2.2.2.2
          have mk_s : ∀ {w' : World}, Below V.heap.size V w' → w'.cell? ⟨w.heap.size, 0, none⟩ = some (iv t.d.id) ∧ w'.cell? ⟨w.heap.size, 1, none⟩ = some (iv t.d.kind) ∧ w'.cell? ⟨w.heap.size, 2, none⟩ = some (iv t.d.space) ∧ w'.cell? ⟨w.heap.size, 3, none⟩ = some (.string t.d.name) ∧ w'.cell? ⟨w.heap.size, 4, none⟩ = some (.string t.d.text) ∧ w'.cell? ⟨w.heap.size, 5, none⟩ = some (.slice a t.d.al.length ac) ∧ w'.cell? ⟨w.heap.size, 6, none⟩ = some (iv t.d.sf) ∧ w'.cell? ⟨w.heap.size, 7, none⟩ = some (iv t.d.st) ∧ w'.cell? ⟨w.heap.size, 8, none⟩ = some (iv t.d.ef) ∧ w'.cell? ⟨w.heap.size, 9, none⟩ = some (iv t.d.et) ∧ w'.cell? ⟨w.heap.size, 10, none⟩ = some (.slice k t.k.length kc) ∧ Below V.heap.size V w' := fun h => by
            have hb := HX.out.old h
            exact ⟨Bx.cell hb 0, Bx.cell hb 1, Bx.cell hb 2, Bx.cell hb 3, Bx.cell hb 4, Bx.cell hb 5, Bx.cell hb 6, Bx.cell hb 7, Bx.cell hb 8, Bx.cell hb 9, Bx.cell hb 10, h⟩
          have call_s : ∀ {f : FuncId} {args : Array Value} {v : Value} {w1 : World}, (w1.cell? ⟨w.heap.size, 0, none⟩ = some (iv t.d.id) ∧ w1.cell? ⟨w.heap.size, 1, none⟩ = some (iv t.d.kind) ∧ w1.cell? ⟨w.heap.size, 2, none⟩ = some (iv t.d.space) ∧ w1.cell? ⟨w.heap.size, 3, none⟩ = some (.string t.d.name) ∧ w1.cell? ⟨w.heap.size, 4, none⟩ = some (.string t.d.text) ∧ w1.cell? ⟨w.heap.size, 5, none⟩ = some (.slice a t.d.al.length ac) ∧ w1.cell? ⟨w.heap.size, 6, none⟩ = some (iv t.d.sf) ∧ w1.cell? ⟨w.heap.size, 7, none⟩ = some (iv t.d.st) ∧ w1.cell? ⟨w.heap.size, 8, none⟩ = some (iv t.d.ef) ∧ w1.cell? ⟨w.heap.size, 9, none⟩ = some (iv t.d.et) ∧ w1.cell? ⟨w.heap.size, 10, none⟩ = some (.slice k t.k.length kc) ∧ Below V.heap.size V w1) → Calls Try.prog f args w1 (fun e w' => e = .returned v ∧ Below w1.heap.size w1 w') → Calls Try.prog f args w1 (fun e w' => e = .returned v ∧ (w'.cell? ⟨w.heap.size, 0, none⟩ = some (iv t.d.id) ∧ w'.cell? ⟨w.heap.size, 1, none⟩ = some (iv t.d.kind) ∧ w'.cell? ⟨w.heap.size, 2, none⟩ = some (iv t.d.space) ∧ w'.cell? ⟨w.heap.size, 3, none⟩ = some (.string t.d.name) ∧ w'.cell? ⟨w.heap.size, 4, none⟩ = some (.string t.d.text) ∧ w'.cell? ⟨w.heap.size, 5, none⟩ = some (.slice a t.d.al.length ac) ∧ w'.cell? ⟨w.heap.size, 6, none⟩ = some (iv t.d.sf) ∧ w'.cell? ⟨w.heap.size, 7, none⟩ = some (iv t.d.st) ∧ w'.cell? ⟨w.heap.size, 8, none⟩ = some (iv t.d.ef) ∧ w'.cell? ⟨w.heap.size, 9, none⟩ = some (iv t.d.et) ∧ w'.cell? ⟨w.heap.size, 10, none⟩ = some (.slice k t.k.length kc) ∧ Below V.heap.size V w')) :=
            fun h1 h2 => h2.mono fun _ _ h => ⟨h.1, mk_s ((bl_of h1).trans (h.2.mono (bl_of h1).size))⟩
          have K : W3.cell? ⟨w.heap.size, 0, none⟩ = some (iv t.d.id) ∧ W3.cell? ⟨w.heap.size, 1, none⟩ = some (iv t.d.kind) ∧ W3.cell? ⟨w.heap.size, 2, none⟩ = some (iv t.d.space) ∧ W3.cell? ⟨w.heap.size, 3, none⟩ = some (.string t.d.name) ∧ W3.cell? ⟨w.heap.size, 4, none⟩ = some (.string t.d.text) ∧ W3.cell? ⟨w.heap.size, 5, none⟩ = some (.slice a t.d.al.length ac) ∧ W3.cell? ⟨w.heap.size, 6, none⟩ = some (iv t.d.sf) ∧ W3.cell? ⟨w.heap.size, 7, none⟩ = some (iv t.d.st) ∧ W3.cell? ⟨w.heap.size, 8, none⟩ = some (iv t.d.ef) ∧ W3.cell? ⟨w.heap.size, 9, none⟩ = some (iv t.d.et) ∧ W3.cell? ⟨w.heap.size, 10, none⟩ = some (.slice k t.k.length kc) ∧ Below V.heap.size V W3 := mk_s HB3.out
          clear x0 x1 x2 x3 x4 x5 x6 x7 x8 x9 x10 hx3 hx2 hx1
          go_wp2_with fail
          go_region_held3 (fun w' => w'.cell? ⟨w.heap.size, 0, none⟩ = some (iv t.d.id) ∧ w'.cell? ⟨w.heap.size, 1, none⟩ = some (iv t.d.kind) ∧ w'.cell? ⟨w.heap.size, 2, none⟩ = some (iv t.d.space) ∧ w'.cell? ⟨w.heap.size, 3, none⟩ = some (.string t.d.name) ∧ w'.cell? ⟨w.heap.size, 4, none⟩ = some (.string t.d.text) ∧ w'.cell? ⟨w.heap.size, 5, none⟩ = some (.slice a t.d.al.length ac) ∧ w'.cell? ⟨w.heap.size, 6, none⟩ = some (iv t.d.sf) ∧ w'.cell? ⟨w.heap.size, 7, none⟩ = some (iv t.d.st) ∧ w'.cell? ⟨w.heap.size, 8, none⟩ = some (iv t.d.ef) ∧ w'.cell? ⟨w.heap.size, 9, none⟩ = some (iv t.d.et) ∧ w'.cell? ⟨w.heap.size, 10, none⟩ = some (.slice k t.k.length kc) ∧ Below V.heap.size V w')
            (first | assumption | exact mk_s (Below.drew (bl_of (by assumption))) | go_keep)
            (first
              | (go_at_call 15; refine (call_s (by assumption) (H15.out _ (bl_of (by assumption)))).mono ?_; rintro e w' ⟨rfl, h⟩)
              | (go_at_call 16; refine (call_s (by assumption) (H16.out _ (bl_of (by assumption)))).mono ?_; rintro e w' ⟨rfl, h⟩)
              | (go_at_call 17; refine (call_s (by assumption) (H17.out _ (bl_of (by assumption)))).mono ?_; rintro e w' ⟨rfl, h⟩)
              | (go_at_call 18; refine (call_s (by assumption) (H18.out _ (bl_of (by assumption)))).mono ?_; rintro e w' ⟨rfl, h⟩)
              | (go_at_call 19; refine (call_s (by assumption) (H19.out _ (bl_of (by assumption)))).mono ?_; rintro e w' ⟨rfl, h⟩)
              | (go_at_call 8; refine (call_s (by assumption) (awake_any _)).mono ?_; rintro e w' ⟨rfl, h⟩))
          go_wp2_with fail
          go_ret
          exact ⟨rfl, HV.out.2.trans ((bl_of h).mono HV.out.2.size)⟩
        | succ k =>
          have hin : i < n := by omega
          have hin' : (i : Int) < n := by omega
          have hg0 : decide ((i : Int) < (n : Int)) = true := decide_eq_true hin'
          have HQ : Hid (i + (k + 1) = n) := hig
          obtain ⟨x, hxi⟩ : ∃ x, L[i]? = some x := ⟨_, List.getElem?_eq_getElem (by rw [HL.out]; exact hin)⟩
          obtain ⟨g1, o1, e1, _, y1⟩ := HR.out.1 i x hxi
          obtain ⟨gg, o2, e2, _, y2⟩ := HR.out.2.1 i x hxi
          subst e1 e2
          clear hxi hig
          go_wp2_with fail
          go_quiet (fail)
          go_wp2_with fail
          go_roundg k
          case measure => omega
          case rel => exact ⟨i + 1, _, by go_num, by have := HQ.out; omega, rfl⟩
end Go.Proofs.Ytdpibnmbgjhohaa
