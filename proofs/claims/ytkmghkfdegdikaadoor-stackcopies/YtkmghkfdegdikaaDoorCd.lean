/- The document's Pop, Remove. -/
import Derived.Test.YtkmghkfdegdikaaDoorCc
namespace Go.Proofs.YtkmghkfdegdikaaDoor
open Go.RowKit

theorem RStk.drew {S : Nat → Prop} {w : World} {y : Nat} {rv : Value} {M : List El} (h : RStk S w y rv M) : RStk S w.drew y rv M := h.old (Below.refl w.heap.size w).drew
/-- The stack's slice is made shorter. -/
theorem RStk.shrink {S : Nat → Prop} {V : World} {y g n c : Nat} {M : List El} (h : RStk S V y (.slice (some ⟨g, 0, none⟩) n c) M) (hn : M.length = n) (k : Nat) (hk : k ≤ n) (hn0 : 0 < n) :
    RStk S (V.setCell ⟨y, 0, none⟩ (.slice (some ⟨g, 0, none⟩) k c)) y (.slice (some ⟨g, 0, none⟩) k c) (M.take k) ∧ Keep S V (V.setCell ⟨y, 0, none⟩ (.slice (some ⟨g, 0, none⟩) k c)) := by
  have hr := h.row
  rw [hn] at hr
  obtain ⟨g', c', cur, he, hgS, hgl, hgb, hc1, hc2, hc3, hc4⟩ := hr.form hn0
  simp only [Value.slice.injEq, Option.some.injEq, Addr.mk.injEq, and_true, true_and] at he
  obtain ⟨rfl, rfl⟩ := he
  have hgy : g ≠ y := fun e => by
    have := h.blk
    unfold Bx at this
    rw [← e, hgb] at this
    simp at this
  have sz : (V.setCell ⟨y, 0, none⟩ (.slice (some ⟨g, 0, none⟩) k c)).heap.size = V.heap.size := World.size_setCell _ _ _
  refine ⟨⟨fun t ht => by rw [sz]; exact h.low t ht, by have := h.blk.set 0 (.slice (some ⟨g, 0, none⟩) k c); exact this, h.out, ?_, fun d hd => (h.own d (List.take_subset _ _ hd)).mv fun t cu ht => heap_setCell_other V ⟨y, 0, none⟩ t _ (fun e => by
    have := h.blk
    unfold Bx at this
    rw [show t = y from e, this] at ht
    simp at ht)⟩, ⟨rfl, rfl, rfl, by rw [sz]; exact Nat.le_refl _, fun t ht _ => heap_setCell_other V ⟨y, 0, none⟩ t _ (fun e => h.out ((show t = y from e) ▸ ht))⟩⟩
  have hlen : (M.take k).length = k := by rw [List.length_take, hn]; omega
  rw [hlen]
  refine ⟨⟨by rw [el_len, hlen], .inr ⟨g, c, cur, rfl, Nat.zero_le _, (heap_setCell_other V ⟨y, 0, none⟩ g _ hgy).trans hgb, by omega, hc2, hc3, ?_⟩⟩, fun t ht => ?_⟩
  · rw [fl_take El.cs 4 (fun _ => rfl), ← hc4, List.take_take, Nat.min_eq_left (by omega)]
  · simp [Value.ownBlock] at ht
    subst ht
    exact hgS
set_option maxHeartbeats 1000000 in
theorem rpop_none {S : Nat → Prop} {w : World} {y : Nat} {rv : Value} (h : RStk S w y rv []) : Calls Tryd.prog 29 #[ptr y] w fun e w' => e = .returned noEl ∧ Below w.heap.size w w' := by
  obtain ⟨W1, hW1, x1, b1⟩ := zbox w
  have HW1 : Hid _ := hW1
  have kt := rtop_none (h.old b1)
  have HX : Hid (Bx W1 w.heap.size 34 #[iv 0, iv 0, .string ⟨#[]⟩, .slice none 0 0] ∧ Below w.heap.size w W1) := ⟨x1, b1⟩
  clear hW1 x1 b1 h
  go_enter Tryd.func29, Tryd.ntmps29
  go_upto_region 1 with fail
  rw [HW1.out]
  go_wp2_with fail
  refine kt.mono ?_
  rintro e w2 ⟨rfl, b2⟩
  clear kt
  obtain ⟨W3, hW3, x3, b3⟩ := zbox w2
  have HW3 : Hid _ := hW3
  have b23 : Below W1.heap.size W1 W3 := b2.trans (b3.mono b2.size)
  have x1' := HX.out.1.old b23
  have z0 : W3.cell? ⟨w2.heap.size, 0, none⟩ = some (iv 0) := x3.cell 0
  have z1 : W3.cell? ⟨w2.heap.size, 1, none⟩ = some (iv 0) := x3.cell 1
  have z2 : W3.cell? ⟨w2.heap.size, 2, none⟩ = some (.string ⟨#[]⟩) := x3.cell 2
  have z3 : W3.cell? ⟨w2.heap.size, 3, none⟩ = some (.slice none 0 0) := x3.cell 3
  have y0 : W3.cell? ⟨w.heap.size, 0, none⟩ = some (iv 0) := x1'.cell 0
  have y1 : W3.cell? ⟨w.heap.size, 1, none⟩ = some (iv 0) := x1'.cell 1
  have y2 : W3.cell? ⟨w.heap.size, 2, none⟩ = some (.string ⟨#[]⟩) := x1'.cell 2
  have y3 : W3.cell? ⟨w.heap.size, 3, none⟩ = some (.slice none 0 0) := x1'.cell 3
  have f0 := x1'.frozen 0
  have f1 := x1'.frozen 1
  have f2 := x1'.frozen 2
  have f3 := x1'.frozen 3
  have HP : Hid _ := And.intro (x1'.put4 (iv 0) (iv 0) (.string ⟨#[]⟩) (.slice none 0 0)) (below_put4 (HX.out.2.trans (b23.mono HX.out.2.size)) (Nat.le_refl _) (iv 0) (iv 0) (.string ⟨#[]⟩) (.slice none 0 0))
  clear hW3 x3 b3 b2 b23 x1'
  go_upto_region 2 with fail
  rw [HW3.out]
  go_wp2_with fail
  refine bodyPost_ret (results34b Tryd.results29 rfl rfl HP.out.1) rfl ?_
  exact ⟨rfl, HP.out.2⟩
set_option maxHeartbeats 2000000 in
set_option maxRecDepth 20000 in
theorem rpop_any {S : Nat → Prop} {w : World} {y : Nat} {rv : Value} {M : List El} (h : RStk S w y rv M) {m : Nat} {d : El} (hm : M.length = m + 1) (hd : M[m]? = some d) (hM : m ≤ 100000000) :
    Calls Tryd.prog 29 #[ptr y] w fun e w' => e = .returned (.tuple #[.agg d.arr, .bool true]) ∧ Own w' d.av d.al ∧ RStkE S w' y (M.take m) ∧ Keep S w w' := by
  obtain ⟨W1, hW1, x1, b1⟩ := zbox w
  have HW1 : Hid _ := hW1
  have h1 := h.old b1
  have kt := rtop_any h1 hm hd (by omega)
  obtain ⟨g, cp, hrv, hc1, hc2, _, _, _, _, ho⟩ := h1.at hd
  obtain ⟨n, hn⟩ : ∃ n, M.length = n := ⟨_, rfl⟩
  rw [hn] at hrv hc1
  subst hrv
  have hz : (n : Int) - 1 = (m : Int) := by omega
  have hwr : IntKind.i64.wrap (m : Int) = (m : Int) := by rw [IntKind.wrap_i64]; omega
  have hm0 : (0 : Int) ≤ (m : Int) := by omega
  have hmn : (m : Int) ≤ (n : Int) := by omega
  have hmc : (m : Int) ≤ (cp : Int) := by omega
  have hcm : cp ≤ 9223372036854775807 := by unfold maxLen at hc2; omega
  have HX : Hid (Bx W1 w.heap.size 34 #[iv 0, iv 0, .string ⟨#[]⟩, .slice none 0 0] ∧ Below w.heap.size w W1 ∧ RStk S W1 y (.slice (some ⟨g, 0, none⟩) n cp) M ∧ M.length = n ∧ m ≤ n ∧ 0 < n ∧ Own W1 d.av d.al ∧ (∀ k, S k → k < w.heap.size) ∧ g < w.heap.size ∧ y < w.heap.size) := ⟨x1, b1, h1, hn, by omega, by omega, ho, h.low, by
    obtain ⟨q, _⟩ := own_blk h.row.own (show (Value.slice (some ⟨g, 0, none⟩) n cp).ownBlock = some g from rfl)
    exact q, h.lt⟩
  obtain ⟨ao, ac, hav, _⟩ := ho.1.slice
  obtain ⟨id, sp, nm, av, al⟩ := d
  simp only at hav
  subst hav
  clear hW1 x1 b1 h h1 hd hm hn ho hc2
  show Calls Tryd.prog 29 #[ptr y] w fun e w' => e = .returned (.tuple #[.agg #[iv id, iv sp, .string nm, .slice ao al.length ac], .bool true]) ∧ Own w' (.slice ao al.length ac) al ∧ RStkE S w' y (M.take m) ∧ Keep S w w'
  go_enter Tryd.func29, Tryd.ntmps29
  go_upto_region 1 with fail
  rw [HW1.out]
  go_wp2_with fail
  refine kt.mono ?_
  rintro e w2 ⟨rfl, b2⟩
  clear kt
  obtain ⟨W3, hW3⟩ : ∃ W3, w2.alloc (.cells #[Value.int IntKind.i64 id, Value.int IntKind.i64 sp, Value.string nm, Value.slice ao al.length ac] 34) = W3 := ⟨_, rfl⟩
  have HW3 : Hid (w2.alloc (.cells #[Value.int IntKind.i64 id, Value.int IntKind.i64 sp, Value.string nm, Value.slice ao al.length ac] 34) = W3) := hW3
  have x3 : Bx W3 w2.heap.size 34 #[iv id, iv sp, .string nm, .slice ao al.length ac] := by rw [← hW3]; exact heap_alloc_new w2 _
  have b3 : Below w2.heap.size w2 W3 := by rw [← hW3]; exact (Below.refl _ _).alloc (Nat.le_refl _) _
  have b23 : Below W1.heap.size W1 W3 := b2.trans (b3.mono b2.size)
  have x1' := HX.out.1.old b23
  have s3 := HX.out.2.2.1.old b23
  obtain ⟨s4, k4⟩ := s3.shrink HX.out.2.2.2.1 m HX.out.2.2.2.2.1 HX.out.2.2.2.2.2.1
  have cx : W3.cell? ⟨y, 0, none⟩ = some (.slice (some ⟨g, 0, none⟩) n cp) := s3.blk.cell 0
  have fx := s3.blk.frozen 0
  have hyw : y ≠ w.heap.size := by have := HX.out.2.2.2.2.2.2.2.2.2; omega
  have hyw2 : y ≠ w2.heap.size := by have := HX.out.2.2.2.2.2.2.2.2.2; have := HX.out.2.1.size; have := b2.size; omega
  have HY : Hid (RStk S (W3.setCell ⟨y, 0, none⟩ (.slice (some ⟨g, 0, none⟩) m cp)).drew y (.slice (some ⟨g, 0, none⟩) m cp) (M.take m) ∧ Keep S w (W3.setCell ⟨y, 0, none⟩ (.slice (some ⟨g, 0, none⟩) m cp)).drew ∧ Bx (W3.setCell ⟨y, 0, none⟩ (.slice (some ⟨g, 0, none⟩) m cp)).drew w.heap.size 34 #[iv 0, iv 0, .string ⟨#[]⟩, .slice none 0 0] ∧ Bx (W3.setCell ⟨y, 0, none⟩ (.slice (some ⟨g, 0, none⟩) m cp)).drew w2.heap.size 34 #[iv id, iv sp, .string nm, .slice ao al.length ac] ∧ Own (W3.setCell ⟨y, 0, none⟩ (.slice (some ⟨g, 0, none⟩) m cp)).drew (.slice ao al.length ac) al) := by
    refine ⟨s4.drew, (Keep.old (HX.out.2.1.trans (b23.mono HX.out.2.1.size))).trans (k4.trans (Keep.old (Below.refl _ _).drew)), (x1'.other hyw 0 _), (x3.other hyw2 0 _), ((HX.out.2.2.2.2.2.2.1.old b23).mv fun t cu ht => heap_setCell_other W3 ⟨y, 0, none⟩ t _ (fun e => by
      have := s3.blk
      unfold Bx at this
      rw [show t = y from e, this] at ht
      simp at ht)).old (Below.refl _ _).drew⟩
  clear hW3 x3 b3 b2 b23 x1' s3 s4 k4
  go_upto_region 2 with fail
  rw [HW3.out]
  go_upto_region 3 with fail
  go_cut [] (fun wc => wc = (W3.setCell ⟨y, 0, none⟩ (.slice (some ⟨g, 0, none⟩) m cp)).drew)
  case first =>
    go_region
    all_goals
      go_wp2_with fail
      go_meet
      case rel => rfl
  case rest =>
    subst hcut
    clear cx fx
    obtain ⟨W5, hW5⟩ : ∃ W5, (W3.setCell ⟨y, 0, none⟩ (.slice (some ⟨g, 0, none⟩) m cp)).drew = W5 := ⟨_, rfl⟩
    have HZ := HY.out
    rw [hW5] at HZ ⊢
    obtain ⟨p1, p2, p3, p4, p5⟩ := HZ
    have z0 : W5.cell? ⟨w2.heap.size, 0, none⟩ = some (iv id) := p4.cell 0
    have z1 : W5.cell? ⟨w2.heap.size, 1, none⟩ = some (iv sp) := p4.cell 1
    have z2 : W5.cell? ⟨w2.heap.size, 2, none⟩ = some (.string nm) := p4.cell 2
    have z3 : W5.cell? ⟨w2.heap.size, 3, none⟩ = some (.slice ao al.length ac) := p4.cell 3
    have y0 : W5.cell? ⟨w.heap.size, 0, none⟩ = some (iv 0) := p3.cell 0
    have y1 : W5.cell? ⟨w.heap.size, 1, none⟩ = some (iv 0) := p3.cell 1
    have y2 : W5.cell? ⟨w.heap.size, 2, none⟩ = some (.string ⟨#[]⟩) := p3.cell 2
    have y3 : W5.cell? ⟨w.heap.size, 3, none⟩ = some (.slice none 0 0) := p3.cell 3
    have f0 := p3.frozen 0
    have f1 := p3.frozen 1
    have f2 := p3.frozen 2
    have f3 := p3.frozen 3
    obtain ⟨q1, q2⟩ := p1.box4 (fun e => by have := HX.out.2.2.2.2.2.2.2.1 _ e; omega) p3 (fun e => by simp [Value.ownBlock] at e; have := HX.out.2.2.2.2.2.2.2.2.1; omega) (iv id) (iv sp) (.string nm) (.slice ao al.length ac)
    have HP : Hid (Bx ((((W5.setCell ⟨w.heap.size, 0, none⟩ (iv id)).setCell ⟨w.heap.size, 1, none⟩ (iv sp)).setCell ⟨w.heap.size, 2, none⟩ (.string nm)).setCell ⟨w.heap.size, 3, none⟩ (.slice ao al.length ac)) w.heap.size 34 #[iv id, iv sp, .string nm, .slice ao al.length ac] ∧ Own ((((W5.setCell ⟨w.heap.size, 0, none⟩ (iv id)).setCell ⟨w.heap.size, 1, none⟩ (iv sp)).setCell ⟨w.heap.size, 2, none⟩ (.string nm)).setCell ⟨w.heap.size, 3, none⟩ (.slice ao al.length ac)) (.slice ao al.length ac) al ∧ RStkE S ((((W5.setCell ⟨w.heap.size, 0, none⟩ (iv id)).setCell ⟨w.heap.size, 1, none⟩ (iv sp)).setCell ⟨w.heap.size, 2, none⟩ (.string nm)).setCell ⟨w.heap.size, 3, none⟩ (.slice ao al.length ac)) y (M.take m) ∧ Keep S w ((((W5.setCell ⟨w.heap.size, 0, none⟩ (iv id)).setCell ⟨w.heap.size, 1, none⟩ (iv sp)).setCell ⟨w.heap.size, 2, none⟩ (.string nm)).setCell ⟨w.heap.size, 3, none⟩ (.slice ao al.length ac))) :=
      ⟨p3.put4 _ _ _ _, p5.mv fun t cu ht => Sm4 W5 w.heap.size 0 _ _ _ _ t (fun e => by
        unfold Bx at p3
        rw [e, p3] at ht
        simp at ht), ⟨_, q1⟩, p2.trans q2⟩
    clear p1 p2 p3 p4 p5 q1 q2 hW5 HY
    go_wp2_with fail
    refine bodyPost_ret (results34b Tryd.results29 rfl rfl HP.out.1) rfl ?_
    exact ⟨rfl, HP.out.2⟩
end Go.Proofs.YtkmghkfdegdikaaDoor
