/- Top; calls on nil. -/
import Derived.Test.YtkmghkfdegdikaaDoorAi
namespace Go.Proofs.YtkmghkfdegdikaaDoor
open Go.RowKit

theorem Bx.put4 {w : World} {y : Nat} {c0 c1 c2 c3 : Value} (h : Bx w y 34 #[c0, c1, c2, c3]) (u0 u1 u2 u3 : Value) : Bx ((((w.setCell ⟨y, 0, none⟩ u0).setCell ⟨y, 1, none⟩ u1).setCell ⟨y, 2, none⟩ u2).setCell ⟨y, 3, none⟩ u3) y 34 #[u0, u1, u2, u3] := by
  have k := (((h.set 0 u0).set 1 u1).set 2 u2).set 3 u3
  exact k
theorem below_put4 {w w' : World} {B y : Nat} (b : Below B w w') (hy : B ≤ y) (u0 u1 u2 u3 : Value) : Below B w ((((w'.setCell ⟨y, 0, none⟩ u0).setCell ⟨y, 1, none⟩ u1).setCell ⟨y, 2, none⟩ u2).setCell ⟨y, 3, none⟩ u3) :=
  (((b.setCell hy _).setCell hy _).setCell hy _).setCell hy _
theorem load34 {w : World} {y : Nat} {c0 c1 c2 c3 : Value} (h : Bx w y 34 #[c0, c1, c2, c3]) : (loadVar 34 ⟨y, 0, none⟩).run Tryd.prog w = .ok (.agg #[c0, c1, c2, c3]) w := by
  have a34 := Tryd.isAgg34
  have z34 := Tryd.sizeOf34
  have x0 : w.cell? ⟨y, 0, none⟩ = some c0 := h.cell 0
  have x1 : w.cell? ⟨y, 1, none⟩ = some c1 := h.cell 1
  have x2 : w.cell? ⟨y, 2, none⟩ = some c2 := h.cell 2
  have x3 : w.cell? ⟨y, 3, none⟩ = some c3 := h.cell 3
  go_simp
theorem results34b {fn : Func} {p q : Tmp} (hf : fn.results = #[.cell p 34, .tmp q]) {tmps : Array Value} {w : World} {y : Nat} {c0 c1 c2 c3 b : Value} (hp : tmps.getD p undef = .pointer (some ⟨y, 0, none⟩)) (hq : tmps.getD q undef = b) (h : Bx w y 34 #[c0, c1, c2, c3]) : (results fn tmps).run Tryd.prog w = .ok (.tuple #[.agg #[c0, c1, c2, c3], b]) w := by
  have hp' : tmps[p]?.getD undef = .pointer (some ⟨y, 0, none⟩) := by simpa using hp
  have hq' : tmps[q]?.getD undef = b := by simpa using hq
  simp [results, hf, hp', hq', asAddr, load34 h]
/-- An element and whether there is one. -/
abbrev noEl : Value := .tuple #[.agg #[iv 0, iv 0, .string ⟨#[]⟩, .slice none 0 0], .bool false]
/-- The boxed result of Top and Pop. -/
theorem zbox (w : World) : ∃ W1, w.alloc (.cells #[Value.int IntKind.i64 0, Value.int IntKind.i64 0, Value.string { data := #[] }, Value.slice none 0 0] 34) = W1 ∧ Bx W1 w.heap.size 34 #[iv 0, iv 0, .string ⟨#[]⟩, .slice none 0 0] ∧ Below w.heap.size w W1 := ⟨_, rfl, heap_alloc_new w _, (Below.refl _ _).alloc (Nat.le_refl _) _⟩
set_option maxHeartbeats 1000000 in
theorem top_nil (w : World) : Calls Tryd.prog 12 #[.pointer none] w fun e w' => e = .returned noEl ∧ Below w.heap.size w w' := by
  obtain ⟨W1, hW1, x1, b1⟩ := zbox w
  have HW1 : Hid _ := hW1
  have ks := size_nil W1
  have y0 : W1.cell? ⟨w.heap.size, 0, none⟩ = some (iv 0) := x1.cell 0
  have y1 : W1.cell? ⟨w.heap.size, 1, none⟩ = some (iv 0) := x1.cell 1
  have y2 : W1.cell? ⟨w.heap.size, 2, none⟩ = some (.string ⟨#[]⟩) := x1.cell 2
  have y3 : W1.cell? ⟨w.heap.size, 3, none⟩ = some (.slice none 0 0) := x1.cell 3
  have f0 := x1.frozen 0
  have f1 := x1.frozen 1
  have f2 := x1.frozen 2
  have f3 := x1.frozen 3
  have HP : Hid _ := And.intro (x1.put4 (iv 0) (iv 0) (.string ⟨#[]⟩) (.slice none 0 0)) (below_put4 b1 (Nat.le_refl _) (iv 0) (iv 0) (.string ⟨#[]⟩) (.slice none 0 0))
  clear hW1 x1 b1
  go_enter Tryd.func12, Tryd.ntmps12
  go_upto_region 1 with fail
  rw [HW1.out]
  go_wp2_with fail
  refine ks.mono ?_
  rintro e w' ⟨rfl, hw'⟩
  rw [hw']
  clear hw' ks
  go_wp2_with fail
  refine bodyPost_ret (results34b Tryd.results12 rfl rfl HP.out.1) rfl ?_
  exact ⟨rfl, HP.out.2⟩
set_option maxHeartbeats 1000000 in
theorem top_none {S : Nat → Prop} {w : World} {x : Nat} {rv : Value} (h : Stk S w x rv []) : Calls Tryd.prog 12 #[ptr x] w fun e w' => e = .returned noEl ∧ Below w.heap.size w w' := by
  obtain ⟨W1, hW1, x1, b1⟩ := zbox w
  have HW1 : Hid _ := hW1
  have ks := size_any (h.old b1)
  have y0 : W1.cell? ⟨w.heap.size, 0, none⟩ = some (iv 0) := x1.cell 0
  have y1 : W1.cell? ⟨w.heap.size, 1, none⟩ = some (iv 0) := x1.cell 1
  have y2 : W1.cell? ⟨w.heap.size, 2, none⟩ = some (.string ⟨#[]⟩) := x1.cell 2
  have y3 : W1.cell? ⟨w.heap.size, 3, none⟩ = some (.slice none 0 0) := x1.cell 3
  have f0 := x1.frozen 0
  have f1 := x1.frozen 1
  have f2 := x1.frozen 2
  have f3 := x1.frozen 3
  have HP : Hid _ := And.intro (x1.put4 (iv 0) (iv 0) (.string ⟨#[]⟩) (.slice none 0 0)) (below_put4 b1 (Nat.le_refl _) (iv 0) (iv 0) (.string ⟨#[]⟩) (.slice none 0 0))
  clear hW1 x1 b1 h
  go_enter Tryd.func12, Tryd.ntmps12
  go_upto_region 1 with fail
  rw [HW1.out]
  go_wp2_with fail
  refine ks.mono ?_
  rintro e w' ⟨rfl, hw'⟩
  rw [hw']
  clear hw' ks
  go_wp2_with fail
  refine bodyPost_ret (results34b Tryd.results12 rfl rfl HP.out.1) rfl ?_
  exact ⟨rfl, HP.out.2⟩
theorem enters37 : ∀ args w, (callFunc 37 args).run Tryd.prog w = .ok (.enter 37 args) w := enters_of Tryd.func37 (by kernel_rfl) rfl
set_option linter.unusedSimpArgs false in
set_option maxHeartbeats 2000000 in
set_option maxRecDepth 20000 in
theorem top_any {S : Nat → Prop} {w : World} {x : Nat} {rv : Value} {M : List El} (h : Stk S w x rv M) {m : Nat} {d : El} (hm : M.length = m + 1) (hd : M[m]? = some d) (hM : m ≤ 1000000000) :
    Calls Tryd.prog 12 #[ptr x] w fun e w' => ∃ v, e = .returned (.tuple #[.agg #[iv d.id, iv d.sp, .string d.nm, v], .bool true]) ∧ Own w' v d.al ∧ Below w.heap.size w w' := by
  obtain ⟨W1, hW1, x1, b1⟩ := zbox w
  have HW1 : Hid _ := hW1
  have h1 := h.old b1
  have ks := size_any h1
  have ks2 := size_any (h1.old (Below.refl W1.heap.size W1).drew)
  obtain ⟨g, cp, hrv, hc1, hc2, q0, q1, q2, q3, ho⟩ := h1.at hd
  have kc := copied_any (w := W1.drew) (d := d) (ho.ats.old (Below.refl W1.heap.size W1).drew)
  have HX : Hid (Bx W1 w.heap.size 34 #[iv 0, iv 0, .string ⟨#[]⟩, .slice none 0 0] ∧ Below w.heap.size w W1) := ⟨x1, b1⟩
  obtain ⟨n, hn⟩ : ∃ n, M.length = n := ⟨_, rfl⟩
  have c0 : W1.cell? ⟨x, 0, none⟩ = some (.slice (some ⟨g, 0, none⟩) n cp) := by rw [h1.blk.cell 0, hrv, hn]; rfl
  rw [hn] at ks ks2 hm hc1
  have hz : (n : Int) - 1 = (m : Int) := by omega
  have hmn : m < n := by omega
  have hwr : IntKind.i64.wrap (m : Int) = (m : Int) := by rw [IntKind.wrap_i64]; omega
  have hnz : ((n : Int) == 0) = false := beq_false_of_ne (by omega)
  obtain ⟨ao, ac, hav, _⟩ := ho.1.slice
  obtain ⟨id, sp, nm, av, al⟩ := d
  simp only at q0 q1 q2 q3 hav
  subst hav
  have KS2 : Hid (Calls Tryd.prog 37 #[ptr x] W1.drew fun e w' => e = .returned (iv (n : Int)) ∧ w' = W1.drew) := ks2
  have KC : Hid (Calls Tryd.prog 38 #[.agg #[iv id, iv sp, .string nm, .slice ao al.length ac]] W1.drew (Cpd ⟨id, sp, nm, .slice ao al.length ac, al⟩ W1.drew)) := kc
  have HP : Hid (∀ e w1, Cpd ⟨id, sp, nm, .slice ao al.length ac, al⟩ W1.drew e w1 → ∃ ao5 an5 ac5, e = .returned (.agg #[iv id, iv sp, .string nm, .slice ao5 an5 ac5]) ∧ (w1.cell? ⟨w.heap.size, 0, none⟩ = some (iv 0) ∧ w1.cell? ⟨w.heap.size, 1, none⟩ = some (iv 0) ∧ w1.cell? ⟨w.heap.size, 2, none⟩ = some (.string ⟨#[]⟩) ∧ w1.cell? ⟨w.heap.size, 3, none⟩ = some (.slice none 0 0)) ∧ (w1.frozen? ⟨w.heap.size, 0, none⟩ = false ∧ w1.frozen? ⟨w.heap.size, 1, none⟩ = false ∧ w1.frozen? ⟨w.heap.size, 2, none⟩ = false ∧ w1.frozen? ⟨w.heap.size, 3, none⟩ = false) ∧
      Bx ((((w1.setCell ⟨w.heap.size, 0, none⟩ (iv id)).setCell ⟨w.heap.size, 1, none⟩ (iv sp)).setCell ⟨w.heap.size, 2, none⟩ (.string nm)).setCell ⟨w.heap.size, 3, none⟩ (.slice ao5 an5 ac5)) w.heap.size 34 #[iv id, iv sp, .string nm, .slice ao5 an5 ac5] ∧ (∃ v, Ending.returned (.tuple #[.agg #[iv id, iv sp, .string nm, .slice ao5 an5 ac5], .bool true]) = .returned (.tuple #[.agg #[iv id, iv sp, .string nm, v], .bool true]) ∧ Own ((((w1.setCell ⟨w.heap.size, 0, none⟩ (iv id)).setCell ⟨w.heap.size, 1, none⟩ (iv sp)).setCell ⟨w.heap.size, 2, none⟩ (.string nm)).setCell ⟨w.heap.size, 3, none⟩ (.slice ao5 an5 ac5)) v al ∧ Below w.heap.size w ((((w1.setCell ⟨w.heap.size, 0, none⟩ (iv id)).setCell ⟨w.heap.size, 1, none⟩ (iv sp)).setCell ⟨w.heap.size, 2, none⟩ (.string nm)).setCell ⟨w.heap.size, 3, none⟩ (.slice ao5 an5 ac5)))) := by
    rintro e w1 ⟨v, rfl, o1, _, b2⟩
    have hb2 : Below W1.heap.size W1 w1 := (Below.refl W1.heap.size W1).drew.trans b2
    have y1 := HX.out.1.old hb2
    obtain ⟨ao5, ac5, hv, _⟩ := o1.1.slice
    subst hv
    refine ⟨_, _, _, rfl, ⟨y1.cell 0, y1.cell 1, y1.cell 2, y1.cell 3⟩, ⟨y1.frozen 0, y1.frozen 1, y1.frozen 2, y1.frozen 3⟩, y1.put4 _ _ _ _, _, rfl, o1.mv fun k cu hk => Sm4 w1 w.heap.size 0 _ _ _ _ k (fun e => ?_), below_put4 (HX.out.2.trans (hb2.mono HX.out.2.size)) (Nat.le_refl _) _ _ _ _⟩
    have := y1
    unfold Bx at this
    rw [e, this] at hk
    simp at hk
  clear hrv h h1 hm hd kc ks2 ho hn x1 b1 hW1 hM
  go_enter Tryd.func12, Tryd.ntmps12
  go_upto_region 1 with fail
  rw [HW1.out]
  go_wp2_with fail
  refine ks.mono ?_
  rintro e w' ⟨rfl, hw'⟩
  rw [hw']
  clear hw' ks w'
  go_upto_region 3 with fail
  go_region_law (first
    | (refine step_call1 37 _ _ rfl rfl enters37 _ (by first | (simp [Act.eval]; done) | simp [Act.eval, Act.put]) KS2.out ?_; rintro e w1 ⟨rfl, hw1⟩; refine ⟨_, rfl, ?_⟩; rw [hw1]; clear hw1)
    | (refine step_call1 38 _ _ rfl rfl enters38 _ (by first | (simp [Act.eval]; done) | simp [Act.eval, Act.put]) KC.out ?_; rintro e w1 hh; obtain ⟨ao5, an5, ac5, rfl, ⟨y0, y1, y2, y3⟩, ⟨f0, f1, f2, f3⟩, hbx, hpu⟩ := HP.out e w1 hh; clear hh; have HBX : Hid _ := hbx; have HPU : Hid _ := hpu; clear hbx hpu; refine ⟨_, rfl, ?_⟩))
  all_goals
    go_wp2_with fail
    refine bodyPost_ret (results34b Tryd.results12 rfl rfl HBX.out) rfl ?_
    exact HPU.out
theorem all_nil (w : World) : Calls Tryd.prog 16 #[.pointer none] w fun e w' => e = .returned (.slice none 0 0) ∧ w' = w := by
  go_enter Tryd.func16, Tryd.ntmps16
  go_wp2_with fail
  go_ret
  exact ⟨rfl, rfl⟩
theorem copy_nil (w : World) : Calls Tryd.prog 17 #[.pointer none] w fun e w' => e = .returned (.pointer none) ∧ w' = w := by
  go_enter Tryd.func17, Tryd.ntmps17
  go_wp2_with fail
  go_ret
  exact ⟨rfl, rfl⟩
theorem find_nil (w : World) (i : Int) : Calls Tryd.prog 25 #[.pointer none, iv i] w fun e w' => e = .returned (iv (-1)) ∧ w' = w := by
  go_enter Tryd.func25, Tryd.ntmps25
  go_wp2_with fail
  refine (size_nil w).mono ?_
  rintro e w' ⟨rfl, rfl⟩
  go_wp2_with fail
  go_loopg [5] 1 (fun _ av wr => av = iv (-1) ∧ wr = w')
  case atStart => exact ⟨rfl, rfl⟩
  case round =>
    obtain ⟨rfl, rfl⟩ := hrel
    go_wp2_with fail
    go_ret
    exact ⟨rfl, rfl⟩
theorem remove_nil (w : World) (i : Int) : Calls Tryd.prog 24 #[.pointer none, iv i] w fun e w' => e = .returned (.bool false) ∧ w' = w := by
  go_enter Tryd.func24, Tryd.ntmps24
  go_wp2_with fail
  refine (find_nil w i).mono ?_
  rintro e w' ⟨rfl, rfl⟩
  go_wp2_with fail
  go_ret
  exact ⟨rfl, rfl⟩
set_option maxHeartbeats 1000000 in
theorem above_nil (w : World) (i id sp : Int) (nm : ByteArray) (ao : Option Addr) (an ac : Nat) : Calls Tryd.prog 26 #[.pointer none, iv i, .agg #[iv id, iv sp, .string nm, .slice ao an ac]] w fun e w' => e = .returned (.bool false) ∧ Below w.heap.size w w' := by
  obtain ⟨W1, hW1⟩ : ∃ W1, w.alloc (.cells #[iv id, iv sp, .string nm, .slice ao an ac] 34) = W1 := ⟨_, rfl⟩
  have HW1 : Hid (w.alloc (.cells #[iv id, iv sp, .string nm, .slice ao an ac] 34) = W1) := hW1
  have HB : Hid (Below w.heap.size w W1) := by
    rw [← hW1]
    exact (Below.refl _ _).alloc (Nat.le_refl _) _
  clear hW1
  have kf := find_nil W1 i
  go_enter Tryd.func26, Tryd.ntmps26
  go_upto_region 1 with fail
  rw [HW1.out]
  go_wp2_with fail
  refine kf.mono ?_
  rintro e w' ⟨rfl, hw'⟩
  rw [hw']
  clear hw' kf
  go_wp2_with fail
  go_ret
  exact ⟨rfl, HB.out⟩
set_option maxHeartbeats 1000000 in
theorem pop_nil (w : World) : Calls Tryd.prog 22 #[.pointer none] w fun e w' => e = .returned noEl ∧ Below w.heap.size w w' := by
  obtain ⟨W1, hW1, x1, b1⟩ := zbox w
  have HW1 : Hid _ := hW1
  have ks := size_nil W1
  have kc := cut_neg W1 (.pointer none) (-1) (by decide)
  have y0 : W1.cell? ⟨w.heap.size, 0, none⟩ = some (iv 0) := x1.cell 0
  have y1 : W1.cell? ⟨w.heap.size, 1, none⟩ = some (iv 0) := x1.cell 1
  have y2 : W1.cell? ⟨w.heap.size, 2, none⟩ = some (.string ⟨#[]⟩) := x1.cell 2
  have y3 : W1.cell? ⟨w.heap.size, 3, none⟩ = some (.slice none 0 0) := x1.cell 3
  have f0 := x1.frozen 0
  have f1 := x1.frozen 1
  have f2 := x1.frozen 2
  have f3 := x1.frozen 3
  have HP : Hid _ := And.intro (x1.put4 (iv 0) (iv 0) (.string ⟨#[]⟩) (.slice none 0 0)) (below_put4 b1 (Nat.le_refl _) (iv 0) (iv 0) (.string ⟨#[]⟩) (.slice none 0 0))
  clear hW1 x1 b1
  go_enter Tryd.func22, Tryd.ntmps22
  go_upto_region 1 with fail
  rw [HW1.out]
  go_wp2_with fail
  refine ks.mono ?_
  rintro e w' ⟨rfl, hw'⟩
  rw [hw']
  clear hw' ks
  go_wp2_with fail
  refine kc.mono ?_
  rintro e w' ⟨rfl, hw'⟩
  rw [hw']
  clear hw' kc
  go_wp2_with fail
  refine bodyPost_ret (results34b Tryd.results22 rfl rfl HP.out.1) rfl ?_
  exact ⟨rfl, HP.out.2⟩
end Go.Proofs.YtkmghkfdegdikaaDoor
