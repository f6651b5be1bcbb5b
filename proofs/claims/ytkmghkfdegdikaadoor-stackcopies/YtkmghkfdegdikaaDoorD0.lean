/- Do, of kinds 0 and 1. -/
import Derived.Test.YtkmghkfdegdikaaDoorCh
namespace Go.Proofs.YtkmghkfdegdikaaDoor
open Go.RowKit

/-- What Pop answers. -/
def PopR (M : List El) (_ : World) (v : Value) (V : World) : Prop := ∃ (d : El) (b : Bool), v = .tuple #[.agg d.arr, .bool b] ∧ Own V d.av d.al ∧ d.pu = ((M.map El.pu).getLast?).getD (0, 0, ⟨#[]⟩, []) ∧ b = !M.isEmpty
theorem popR_stb (M : List El) : ∀ A v V V', PopR M A v V → Stb A V V' → PopR M A v V' := fun _ _ _ _ ⟨d, b, h1, h2, h3, h4⟩ s => ⟨d, b, h1, h2.mv fun g cur hg => s.2 g cur 71 hg (.inr rfl), h3, h4⟩
theorem popR_last {M : List El} {m : Nat} {d : El} (hm : M.length = m + 1) (hd : M[m]? = some d) : d.pu = ((M.map El.pu).getLast?).getD (0, 0, ⟨#[]⟩, []) ∧ true = !M.isEmpty := by
  constructor
  · rw [List.getLast?_eq_getElem?, List.length_map, hm, Nat.add_sub_cancel, List.getElem?_map, hd]
    rfl
  · cases M with
    | nil => cases hm
    | cons a l => rfl
section
variable {Z : Nat → Prop} {w : World} {x y : Nat} {rv lv : Value} {M N : List El}
theorem p_pop (hM : M.length ≤ 1000000) : PCall Z w x rv M 22 #[ptr x] (fun M' => M' = M.take (M.length - 1)) (PopR M) := fun V _ h => by
  cases hl : M.length with
  | zero =>
    obtain rfl := List.eq_nil_of_length_eq_zero hl
    refine (pop_none h).mono ?_
    rintro e V' ⟨rfl, b⟩
    exact ⟨_, rv, [], rfl, h.old b, Keep.old b, rfl, ⟨0, 0, ⟨#[]⟩, .slice none 0 0, []⟩, false, rfl, Own.nil _, rfl, rfl⟩
  | succ m =>
    obtain ⟨d, hd⟩ : ∃ d, M[m]? = some d := ⟨_, List.getElem?_eq_getElem (by omega)⟩
    refine (pop_any h hl hd (by omega)).mono ?_
    rintro e V' ⟨rfl, o, ⟨rv', s'⟩, k'⟩
    obtain ⟨q1, q2⟩ := popR_last hl hd
    exact ⟨_, rv', _, rfl, s', k', rfl, d, true, rfl, o, q1, q2⟩
theorem q_pop (hN : N.length ≤ 1000000) : QCall Z w y lv N 29 #[ptr y] (fun N' => N' = N.take (N.length - 1)) (PopR N) := fun V _ h => by
  cases hl : N.length with
  | zero =>
    obtain rfl := List.eq_nil_of_length_eq_zero hl
    refine (rpop_none h).mono ?_
    rintro e V' ⟨rfl, b⟩
    exact ⟨_, lv, [], rfl, h.old b, Keep.old b, rfl, ⟨0, 0, ⟨#[]⟩, .slice none 0 0, []⟩, false, rfl, Own.nil _, rfl, rfl⟩
  | succ m =>
    obtain ⟨d, hd⟩ : ∃ d, N[m]? = some d := ⟨_, List.getElem?_eq_getElem (by omega)⟩
    refine (rpop_any h hl hd (by omega)).mono ?_
    rintro e V' ⟨rfl, o, ⟨rv', s'⟩, k'⟩
    obtain ⟨q1, q2⟩ := popR_last hl hd
    exact ⟨_, rv', _, rfl, s', k', rfl, d, true, rfl, o, q1, q2⟩
theorem p_push (hM : M.length ≤ 1000000) (d : El) (hd : ∀ V, Keep Z w V → Ats V d.av d.al) : PCall Z w x rv M 18 #[ptr x, .agg d.arr] (fun M' => ∃ v, M' = M ++ [{ d with av := v }]) (IsV (.tuple #[])) := fun V kV h =>
  (push_any h (by omega) d (hd V kV)).mono (by
    rintro e V' ⟨rfl, rv', v, s', k'⟩
    exact ⟨_, rv', _, rfl, s', k', ⟨v, rfl⟩, rfl⟩)
theorem q_push (hN : N.length ≤ 1000000) (d : El) (hd : ∀ V, Keep Z w V → Ats V d.av d.al) : QCall Z w y lv N 28 #[ptr y, .agg d.arr] (fun N' => ∃ v, N' = N ++ [{ d with av := v }]) (IsV (.tuple #[])) := fun V kV h =>
  (rpush_any h (by omega) d (hd V kV)).mono (by
    rintro e V' ⟨rfl, ⟨v, rv', s'⟩, k'⟩
    exact ⟨_, rv', _, rfl, s', k', ⟨v, rfl⟩, rfl⟩)
end
set_option maxHeartbeats 4000000 in
set_option maxRecDepth 20000 in
theorem do_0 {Z : Nat → Prop} {w : World} {x y : Nat} {rv lv : Value} {M N : List El} (t : Two Z w x y rv lv M N) (hM : M.length ≤ 900000) (hN : N.length ≤ 900000) (a s did dsp : Int) (dnm : ByteArray) (ao : Option Addr) (ac : Nat) (dal : List At) {no : Option Addr} {nl : List ByteArray} (n nc : Nat) (_ : nl.length = n) (_ : n ≤ 9223372036854775807)
    (hat : ∀ V, Keep Z w V → Ats V (.slice ao dal.length ac) dal) (hnr : ∀ V, Keep Z w V → StrRow V no nl) (hT : ∀ V, Keep Z w V → Tb V) :
    Calls Tryd.prog 11 #[ptr x, ptr y, .agg #[iv 0, iv a, iv s, iv did, iv dsp, .string dnm, .slice ao dal.length ac, .slice no n nc]] w (DoIs Z w x y M N) := by
  obtain ⟨W0, hW0⟩ : ∃ W0, w.alloc (.cells #[iv 0, iv a, iv s, iv did, iv dsp, .string dnm, .slice ao dal.length ac, .slice no n nc] 37) = W0 := ⟨_, rfl⟩
  have HW0 : Hid (w.alloc (.cells #[iv 0, iv a, iv s, iv did, iv dsp, .string dnm, .slice ao dal.length ac, .slice no n nc] 37) = W0) := hW0
  have x0 : Bx W0 w.heap.size 37 #[iv 0, iv a, iv s, iv did, iv dsp, .string dnm, .slice ao dal.length ac, .slice no n nc] := by rw [← hW0]; exact heap_alloc_new w _
  have b0 : Below w.heap.size w W0 := by rw [← hW0]; exact (Below.refl _ _).alloc (Nat.le_refl _) _
  clear hW0
  have hlt := x0.lt
  have t0 := t.wide b0 hlt
  have toZ : ∀ V, Keep (Wide Z w.heap.size) W0 V → Keep Z w V := fun V kk => (Keep.old b0).trans (kk.sub fun i hi => .inl hi)
  have CC : ∀ V, Keep (Wide Z w.heap.size) W0 V → V.cell? ⟨w.heap.size, 1, none⟩ = some (iv a) ∧ V.cell? ⟨w.heap.size, 2, none⟩ = some (iv s) ∧ V.cell? ⟨w.heap.size, 3, none⟩ = some (iv did) ∧ V.cell? ⟨w.heap.size, 4, none⟩ = some (iv dsp) ∧ V.cell? ⟨w.heap.size, 5, none⟩ = some (.string dnm) ∧ V.cell? ⟨w.heap.size, 6, none⟩ = some (.slice ao dal.length ac) ∧ V.cell? ⟨w.heap.size, 7, none⟩ = some (.slice no n nc) := fun V kk => by
    have xV : Bx V w.heap.size 37 #[iv 0, iv a, iv s, iv did, iv dsp, .string dnm, .slice ao dal.length ac, .slice no n nc] := (kk.block w.heap.size (.inr rfl) hlt).trans x0
    exact ⟨xV.cell 1, xV.cell 2, xV.cell 3, xV.cell 4, xV.cell 5, xV.cell 6, xV.cell 7⟩
  have hat0 : ∀ V, Keep (Wide Z w.heap.size) W0 V → Ats V (.slice ao dal.length ac) dal := fun V kk => hat V (toZ V kk)
  have hnr0 : ∀ V, Keep (Wide Z w.heap.size) W0 V → StrRow V no nl := fun V kk => hnr V (toZ V kk)
  have hT0 : ∀ V, Keep (Wide Z w.heap.size) W0 V → Tb V := fun V kk => hT V (toZ V kk)
  have hM1 : M.length ≤ 1000000 := by omega
  have hN1 : N.length ≤ 1000000 := by omega
  have e0 : W0.cell? ⟨w.heap.size, 0, none⟩ = some (iv 0) := x0.cell 0
  obtain ⟨e1, e2, e3, e4, e5, e6, e7⟩ := CC W0 (Keep.refl _ _)
  have kp := p_push (rv := rv) hM1 ⟨did, dsp, dnm, .slice ao dal.length ac, dal⟩ hat0 W0 (Keep.refl _ _) t0.p.rest
  have HQ : Hid (∀ V1, Keep (Wide Z w.heap.size) W0 V1 → RStk (Rest V1 y lv) V1 y lv N → Calls Tryd.prog 28 #[ptr y, .agg #[iv did, iv dsp, .string dnm, .slice ao dal.length ac]] V1 fun e V' => ∃ v lv' N', e = .returned v ∧ RStk (Rest V1 y lv) V' y lv' N' ∧ Keep (Rest V1 y lv) V1 V' ∧ (∃ v, N' = N ++ [⟨did, dsp, dnm, v, dal⟩]) ∧ IsV (.tuple #[]) V1 v V') := q_push hN1 ⟨did, dsp, dnm, .slice ao dal.length ac, dal⟩ hat0
  have HT0 : Hid (Two (Wide Z w.heap.size) W0 x y rv lv M N ∧ Below w.heap.size w W0) := ⟨t0, b0⟩
  have HCC : Hid (∀ V, Keep (Wide Z w.heap.size) W0 V → V.cell? ⟨w.heap.size, 1, none⟩ = some (iv a) ∧ V.cell? ⟨w.heap.size, 2, none⟩ = some (iv s) ∧ V.cell? ⟨w.heap.size, 3, none⟩ = some (iv did) ∧ V.cell? ⟨w.heap.size, 4, none⟩ = some (iv dsp) ∧ V.cell? ⟨w.heap.size, 5, none⟩ = some (.string dnm) ∧ V.cell? ⟨w.heap.size, 6, none⟩ = some (.slice ao dal.length ac) ∧ V.cell? ⟨w.heap.size, 7, none⟩ = some (.slice no n nc)) := CC
  clear CC toZ hat0 hnr0 hT0 hat hnr hT t t0 b0 x0 hlt hM hN hM1 hN1
  go_enter Tryd.func11, Tryd.ntmps11
  go_upto_region 1 with fail
  rw [HW0.out]
  clear HW0
  go_wp2_with fail
  refine kp.mono ?_
  rintro e w1 ⟨v1, rv1, M1, rfl, s1, k1, ⟨a1, hM1⟩, hv1⟩
  obtain rfl : v1 = .tuple #[] := hv1
  obtain ⟨t1, z1, _⟩ := HT0.out.1.prog s1 k1
  have H1 : Hid (Two (Wide Z w.heap.size) w1 x y rv1 lv M1 N ∧ Keep (Wide Z w.heap.size) W0 w1 ∧ M1 = M ++ [⟨did, dsp, dnm, a1, dal⟩]) := ⟨t1, z1, hM1⟩
  have kq := HQ.out w1 z1 t1.q.rest
  obtain ⟨c1, c2, c3, c4, c5, c6, c7⟩ := HCC.out w1 z1
  clear kp s1 k1 t1 z1 hM1 e0 e1 e2 e3 e4 e5 e6 e7
  go_wp2_with fail
  refine kq.mono ?_
  rintro e w2 ⟨v2, lv2, N2, rfl, s2, k2, ⟨a2, hN2⟩, hv2⟩
  obtain rfl : v2 = .tuple #[] := hv2
  obtain ⟨t2, z2, _⟩ := H1.out.1.ref s2 k2
  have HF : Hid (DoIs Z w x y M N (.returned (iv 1)) w2) := by
    refine ⟨1, rfl, rv1, lv2, M1, N2, t2.sub fun i hi => .inl hi, (Keep.old HT0.out.2).trans ((H1.out.2.1.trans z2).sub fun i hi => .inl hi), ?_, ?_, fun h => ⟨rfl, ?_⟩⟩
    · rw [H1.out.2.2, List.length_append]
      exact Nat.le_refl _
    · rw [hN2, List.length_append]
      exact Nat.le_refl _
    · rw [H1.out.2.2, hN2, List.map_append, List.map_append, h]
      rfl
  clear kq s2 k2 t2 z2 hN2 c1 c2 c3 c4 c5 c6 c7
  go_wp2_with fail
  go_ret
  exact HF.out
set_option maxHeartbeats 4000000 in
set_option maxRecDepth 20000 in
theorem do_1 {Z : Nat → Prop} {w : World} {x y : Nat} {rv lv : Value} {M N : List El} (t : Two Z w x y rv lv M N) (hM : M.length ≤ 900000) (hN : N.length ≤ 900000) (a s did dsp : Int) (dnm : ByteArray) (ao : Option Addr) (ac : Nat) (dal : List At) {no : Option Addr} {nl : List ByteArray} (n nc : Nat) (_ : nl.length = n) (_ : n ≤ 9223372036854775807)
    (hat : ∀ V, Keep Z w V → Ats V (.slice ao dal.length ac) dal) (hnr : ∀ V, Keep Z w V → StrRow V no nl) (hT : ∀ V, Keep Z w V → Tb V) :
    Calls Tryd.prog 11 #[ptr x, ptr y, .agg #[iv 1, iv a, iv s, iv did, iv dsp, .string dnm, .slice ao dal.length ac, .slice no n nc]] w (DoIs Z w x y M N) := by
  obtain ⟨W0, hW0⟩ : ∃ W0, w.alloc (.cells #[iv 1, iv a, iv s, iv did, iv dsp, .string dnm, .slice ao dal.length ac, .slice no n nc] 37) = W0 := ⟨_, rfl⟩
  have HW0 : Hid (w.alloc (.cells #[iv 1, iv a, iv s, iv did, iv dsp, .string dnm, .slice ao dal.length ac, .slice no n nc] 37) = W0) := hW0
  have x0 : Bx W0 w.heap.size 37 #[iv 1, iv a, iv s, iv did, iv dsp, .string dnm, .slice ao dal.length ac, .slice no n nc] := by rw [← hW0]; exact heap_alloc_new w _
  have b0 : Below w.heap.size w W0 := by rw [← hW0]; exact (Below.refl _ _).alloc (Nat.le_refl _) _
  clear hW0
  have hlt := x0.lt
  have t0 := t.wide b0 hlt
  have toZ : ∀ V, Keep (Wide Z w.heap.size) W0 V → Keep Z w V := fun V kk => (Keep.old b0).trans (kk.sub fun i hi => .inl hi)
  have CC : ∀ V, Keep (Wide Z w.heap.size) W0 V → V.cell? ⟨w.heap.size, 1, none⟩ = some (iv a) ∧ V.cell? ⟨w.heap.size, 2, none⟩ = some (iv s) ∧ V.cell? ⟨w.heap.size, 3, none⟩ = some (iv did) ∧ V.cell? ⟨w.heap.size, 4, none⟩ = some (iv dsp) ∧ V.cell? ⟨w.heap.size, 5, none⟩ = some (.string dnm) ∧ V.cell? ⟨w.heap.size, 6, none⟩ = some (.slice ao dal.length ac) ∧ V.cell? ⟨w.heap.size, 7, none⟩ = some (.slice no n nc) := fun V kk => by
    have xV : Bx V w.heap.size 37 #[iv 1, iv a, iv s, iv did, iv dsp, .string dnm, .slice ao dal.length ac, .slice no n nc] := (kk.block w.heap.size (.inr rfl) hlt).trans x0
    exact ⟨xV.cell 1, xV.cell 2, xV.cell 3, xV.cell 4, xV.cell 5, xV.cell 6, xV.cell 7⟩
  have hat0 : ∀ V, Keep (Wide Z w.heap.size) W0 V → Ats V (.slice ao dal.length ac) dal := fun V kk => hat V (toZ V kk)
  have hnr0 : ∀ V, Keep (Wide Z w.heap.size) W0 V → StrRow V no nl := fun V kk => hnr V (toZ V kk)
  have hT0 : ∀ V, Keep (Wide Z w.heap.size) W0 V → Tb V := fun V kk => hT V (toZ V kk)
  have hM1 : M.length ≤ 1000000 := by omega
  have hN1 : N.length ≤ 1000000 := by omega
  have e0 : W0.cell? ⟨w.heap.size, 0, none⟩ = some (iv 1) := x0.cell 0
  obtain ⟨e1, e2, e3, e4, e5, e6, e7⟩ := CC W0 (Keep.refl _ _)
  have kp := p_pop (Z := Wide Z w.heap.size) (rv := rv) hM1 W0 (Keep.refl _ _) t0.p.rest
  have HQ : Hid (QCall (Wide Z w.heap.size) W0 y lv N 29 #[ptr y] (fun N' => N' = N.take (N.length - 1)) (PopR N)) := q_pop hN1
  have HT0 : Hid (Two (Wide Z w.heap.size) W0 x y rv lv M N ∧ Below w.heap.size w W0) := ⟨t0, b0⟩
  clear CC toZ hat0 hnr0 hT0 hat hnr hT t t0 b0 x0 hlt hM hN hM1 hN1
  go_enter Tryd.func11, Tryd.ntmps11
  go_upto_region 1 with fail
  rw [HW0.out]
  clear HW0
  go_wp2_with fail
  refine kp.mono ?_
  rintro e w1 ⟨v1, rv1, M1, rfl, s1, k1, hM1, ⟨d, b1, rfl, o1, hp1, hb1⟩⟩
  obtain ⟨t1, z1, _⟩ := HT0.out.1.prog s1 k1
  obtain ⟨a1, g1, hav1, _⟩ := o1.1.slice
  obtain ⟨id1, sp1, nm1, av1, al1⟩ := d
  simp only at hav1
  subst hav1
  obtain ⟨W2, hW2⟩ : ∃ W2, w1.alloc (.cells #[Value.int IntKind.i64 id1, Value.int IntKind.i64 sp1, Value.string nm1, Value.slice a1 al1.length g1] 34) = W2 := ⟨_, rfl⟩
  have HW2 : Hid (w1.alloc (.cells #[Value.int IntKind.i64 id1, Value.int IntKind.i64 sp1, Value.string nm1, Value.slice a1 al1.length g1] 34) = W2) := hW2
  have x2 : Bx W2 w1.heap.size 34 #[iv id1, iv sp1, .string nm1, .slice a1 al1.length g1] := by rw [← hW2]; exact heap_alloc_new w1 _
  have b2 : Below w1.heap.size w1 W2 := by rw [← hW2]; exact (Below.refl _ _).alloc (Nat.le_refl _) _
  have t2 := t1.old b2
  have z2 := z1.trans (Keep.old b2)
  have kq := HQ.out W2 z2 t2.q.rest
  have H2 : Hid (Two (Wide Z w.heap.size) W2 x y rv1 lv M1 N ∧ Keep (Wide Z w.heap.size) W0 W2 ∧ M1 = M.take (M.length - 1) ∧ Own W2 (.slice a1 al1.length g1) al1 ∧ Bx W2 w1.heap.size 34 #[iv id1, iv sp1, .string nm1, .slice a1 al1.length g1] ∧ (El.mk id1 sp1 nm1 (.slice a1 al1.length g1) al1).pu = ((M.map El.pu).getLast?).getD (0, 0, ⟨#[]⟩, []) ∧ b1 = !M.isEmpty ∧ w1.heap.size ≤ W2.heap.size ∧ y < w1.heap.size ∧ ∀ g, lv.ownBlock = some g → g < w1.heap.size) := ⟨t2, z2, hM1, o1.old b2, x2, hp1, hb1, b2.size, t1.q.lt, fun g hg => (own_blk t1.q.row.own hg).1⟩
  clear kp s1 k1 t1 z1 hM1 o1 hp1 hb1 hW2 x2 b2 t2 z2 e0 e1 e2 e3 e4 e5 e6 e7
  go_upto_region 10 with fail
  rw [HW2.out]
  go_wp2_with fail
  refine kq.mono ?_
  rintro e w3 ⟨v3, lv3, N3, rfl, s3, k3, hN3, ⟨d, b3, rfl, o3, hp3, hb3⟩⟩
  obtain ⟨t3, z3, st⟩ := H2.out.1.ref s3 k3
  have st1 := st w1 H2.out.2.2.2.2.2.2.2.1 H2.out.2.2.2.2.2.2.2.2.1 H2.out.2.2.2.2.2.2.2.2.2
  obtain ⟨a3, g3, hav3, _⟩ := o3.1.slice
  obtain ⟨id3, sp3, nm3, av3, al3⟩ := d
  simp only at hav3
  subst hav3
  have x3 : Bx w3 w1.heap.size 34 #[iv id1, iv sp1, .string nm1, .slice a1 al1.length g1] := (st1.2 _ _ 34 H2.out.2.2.2.2.1 (.inl (Nat.le_refl _))).trans H2.out.2.2.2.2.1
  have oo1 : Own w3 (.slice a1 al1.length g1) al1 := H2.out.2.2.2.1.mv fun g cur hg => st1.2 g cur 71 hg (.inr rfl)
  obtain ⟨W4, hW4⟩ : ∃ W4, w3.alloc (.cells #[Value.int IntKind.i64 id3, Value.int IntKind.i64 sp3, Value.string nm3, Value.slice a3 al3.length g3] 34) = W4 := ⟨_, rfl⟩
  have HW4 : Hid (w3.alloc (.cells #[Value.int IntKind.i64 id3, Value.int IntKind.i64 sp3, Value.string nm3, Value.slice a3 al3.length g3] 34) = W4) := hW4
  have x4 : Bx W4 w3.heap.size 34 #[iv id3, iv sp3, .string nm3, .slice a3 al3.length g3] := by rw [← hW4]; exact heap_alloc_new w3 _
  have b4 : Below w3.heap.size w3 W4 := by rw [← hW4]; exact (Below.refl _ _).alloc (Nat.le_refl _) _
  have x4' := x3.old b4
  have p0 : W4.cell? ⟨w1.heap.size, 0, none⟩ = some (iv id1) := x4'.cell 0
  have p1 : W4.cell? ⟨w1.heap.size, 1, none⟩ = some (iv sp1) := x4'.cell 1
  have p2 : W4.cell? ⟨w1.heap.size, 2, none⟩ = some (.string nm1) := x4'.cell 2
  have p3 : W4.cell? ⟨w1.heap.size, 3, none⟩ = some (.slice a1 al1.length g1) := x4'.cell 3
  have q0 : W4.cell? ⟨w3.heap.size, 0, none⟩ = some (iv id3) := x4.cell 0
  have q1 : W4.cell? ⟨w3.heap.size, 1, none⟩ = some (iv sp3) := x4.cell 1
  have q2 : W4.cell? ⟨w3.heap.size, 2, none⟩ = some (.string nm3) := x4.cell 2
  have q3 : W4.cell? ⟨w3.heap.size, 3, none⟩ = some (.slice a3 al3.length g3) := x4.cell 3
  have ko := one_any (w := W4) ⟨id1, sp1, nm1, .slice a1 al1.length g1, al1⟩ ⟨id3, sp3, nm3, .slice a3 al3.length g3, al3⟩ (oo1.old b4).ats (o3.old b4).ats
  have FIN : Hid (∀ (V : World) (r : Bool), Below W4.heap.size W4 V → (M.map El.pu = N.map El.pu → r = true) → DoIs Z w x y M N (.returned (iv (if r then 1 else 0))) V) := fun V r bV hr => by
    have bb := b4.trans (bV.mono b4.size)
    refine ⟨_, rfl, rv1, lv3, M1, N3, (t3.old bb).sub fun i hi => .inl hi, (Keep.old HT0.out.2).trans (((H2.out.2.1.trans z3).trans (Keep.old bb)).sub fun i hi => .inl hi), ?_, ?_, fun h => ⟨by rw [hr h]; rfl, ?_⟩⟩
    · rw [H2.out.2.2.1, List.length_take]
      omega
    · rw [hN3, List.length_take]
      omega
    · rw [H2.out.2.2.1, hN3, List.map_take, List.map_take, h, len_pu h]
  have HPU : Hid (M.map El.pu = N.map El.pu → b1 = b3 ∧ (El.mk id1 sp1 nm1 (.slice a1 al1.length g1) al1).pu = (El.mk id3 sp3 nm3 (.slice a3 al3.length g3) al3).pu) := fun h => by
    refine ⟨?_, by rw [H2.out.2.2.2.2.2.1, hp3, h]⟩
    rw [H2.out.2.2.2.2.2.2.1, hb3]
    have := len_pu h
    cases M <;> cases N <;> first | rfl | (simp at this)
  clear kq s3 k3 hN3 hp3 hb3 o3 t3 z3 st st1 x3 oo1 hW4 x4 b4 x4' H2
  go_upto_region 11 with fail
  rw [HW4.out]
  cases hbq : (b1 == b3) with
  | true =>
    go_wp2_with fail
    refine ko.mono ?_
    rintro e w5 ⟨r, rfl, hr, b5⟩
    have HF : Hid (DoIs Z w x y M N (.returned (iv (if r then 1 else 0))) w5) := FIN.out w5 r b5 fun h => hr (HPU.out h).2
    clear ko hr b5 hbq p0 p1 p2 p3 q0 q1 q2 q3
    cases r
    all_goals
      go_wp2_with fail
      go_ret
      exact HF.out
  | false =>
    have HF : Hid (DoIs Z w x y M N (.returned (iv 0)) W4) := FIN.out W4 false (Below.refl _ _) fun h => by
      rw [(HPU.out h).1] at hbq
      simp at hbq
    clear ko
    go_wp2_with fail
    go_ret
    exact HF.out
end Go.Proofs.YtkmghkfdegdikaaDoor
