/- A row of deeds that came in: its texts are no longer than the form's reach. -/
import Derived.Test.YtcdaghlbfclpkaaBf
namespace Go.Proofs.Ytcdaghlbfclpkaa
open Go.ChangeShapes Go.WideShapes Go.ChangeAt Go.RowKit Go.Joins

theorem weights_mem_all {H : Type} {P : Program} {e : TypeId} : ∀ {ds : List (DataW H)} {d : DataW H}, d ∈ ds → ∀ n ∈ d.weights P e, n ∈ DataW.weightsAll P e ds
  | [], _, h, _, _ => by simp at h
  | x :: ds, d, h, n, hn => by
    rw [DataW.weightsAll, List.mem_append]
    rcases List.mem_cons.1 h with rfl | h
    · exact .inl hn
    · exact .inr (weights_mem_all h n hn)
theorem deed_cells2 {H : Type} {enc : TypeId × Value → H} {W : World} {n : Nat} {cs : List Value} {x : DataW H × List MemPlace} (h : DataW.trod enc Try.prog W 0 (fun _ => true) true n 37 cs = some x) :
    ∃ T : Dd, cs = T.arr.toList ∧ DdIn W T ∧ T.d.name.data.toList.length ∈ x.1.weights Try.prog 37 ∧ T.d.text.data.toList.length ∈ x.1.weights Try.prog 37 ∧ (T.d.al = [] ∨ ∃ q, (T.d.al.length + q) * Try.prog.bytesOf 53 ∈ x.1.weights Try.prog 37) := by
  obtain ⟨y0, y1, y2, y3, y4, m, hx, hl, h0, h1, h2, h3, h4⟩ := trod_struct5 Try.underlying37 h
  rw [cells37] at hl
  obtain ⟨c0, c1, c2, c3, c4, c5, c6, c7, c8, c9, c10, c11, c12, c13, c14, rfl⟩ : ∃ c0 c1 c2 c3 c4 c5 c6 c7 c8 c9 c10 c11 c12 c13 c14, cs = [c0, c1, c2, c3, c4, c5, c6, c7, c8, c9, c10, c11, c12, c13, c14] := by
    match cs, hl with
    | [c0, c1, c2, c3, c4, c5, c6, c7, c8, c9, c10, c11, c12, c13, c14], _ => exact ⟨c0, c1, c2, c3, c4, c5, c6, c7, c8, c9, c10, c11, c12, c13, c14, rfl⟩
  simp only [cells3, cells35] at h0 h1 h2 h3 h4
  simp only [List.drop_zero, List.drop_succ_cons, List.take_succ_cons, List.take_zero] at h0 h1 h2 h3 h4
  obtain ⟨k, e0, g0, w0⟩ := DataW.trod_int Try.underlying3 h0
  obtain ⟨a, e1, g1, w1⟩ := DataW.trod_int Try.underlying3 h1
  obtain ⟨b, e2, g2, w2⟩ := DataW.trod_int Try.underlying3 h2
  obtain ⟨c, e3, g3, w3⟩ := DataW.trod_int Try.underlying3 h3
  obtain ⟨z0, z1, z2, z3, z4, z5, z6, z7, z8, m2, hz, hl2, q0, q1, q2, q3, q4, q5, q6, q7, q8⟩ := trod_struct9 Try.underlying35 h4
  simp only [cells3, cells9, cells30, cells32, cells33] at q0 q1 q2 q3 q4 q5 q6 q7 q8
  simp only [List.drop_zero, List.drop_succ_cons, List.take_succ_cons, List.take_zero] at q0 q1 q2 q3 q4 q5 q6 q7 q8
  obtain ⟨id, e4, g4, w4⟩ := DataW.trod_int Try.underlying3 q0
  obtain ⟨kd, e5, g5, w5⟩ := DataW.trod_int Try.underlying3 q1
  obtain ⟨sp, e6, g6, w6⟩ := DataW.trod_int Try.underlying3 q2
  obtain ⟨nm, e7, g7, w7⟩ := DataW.trod_string Try.underlying9 q3
  obtain ⟨tx, e8, g8, w8⟩ := DataW.trod_string Try.underlying9 q4
  obtain ⟨ao, n', ac, e9, L, len, row, hc1, hc2, hAD⟩ := open_attrs q5
  obtain ⟨_, _, m3, _, _, s0, s1⟩ := trod_struct2 Try.underlying32 q6
  obtain ⟨_, _, m4, _, _, t0, t1⟩ := trod_struct2 Try.underlying32 q7
  simp only [cells3] at s0 s1 t0 t1
  simp only [List.drop_zero, List.drop_succ_cons, List.take_succ_cons, List.take_zero] at s0 s1 t0 t1
  obtain ⟨sf, e10, _, w10⟩ := DataW.trod_int Try.underlying3 s0
  obtain ⟨st, e11, _, w11⟩ := DataW.trod_int Try.underlying3 s1
  obtain ⟨ef, e12, _, w12⟩ := DataW.trod_int Try.underlying3 t0
  obtain ⟨et, e13, _, w13⟩ := DataW.trod_int Try.underlying3 t1
  obtain ⟨ko, kn, kc, e14⟩ := slice_cells q8
  simp only [List.cons.injEq, and_true] at e0 e1 e2 e3 e4 e5 e6 e7 e8 e10 e11 e12 e13
  subst len
  subst e0 e1 e2 e3 e4 e5 e6 e7 e8 e9 e10 e11 e12 e13 e14
  refine ⟨⟨k, a, b, c, ⟨id, kd, sp, nm, tx, .slice none 0 0, L, sf, st, ef, et⟩, ao, ac, ko, kn, kc⟩, rfl, ⟨row, hc1, hc2, bounds_i64 w0, bounds_i64 w1, bounds_i64 w2, bounds_i64 w3, bounds_i64 w5⟩, ?_, ?_, ?_⟩
  · rw [hx, hz, g7]
    simp [DataW.weights, DataW.weightsEach, Try.underlying37, Try.underlying35]
  · rw [hx, hz, g8]
    simp [DataW.weights, DataW.weightsEach, Try.underlying37, Try.underlying35]
  · rcases hAD with ⟨hL, _⟩ | ⟨sp, hs⟩
    · exact .inl hL
    · refine .inr ⟨sp.length, ?_⟩
      rw [hx, hz, hs]
      simp [DataW.weights, DataW.weightsEach, Try.underlying37, Try.underlying35, Try.underlying30]
theorem open_deeds2 {H : Type} {enc : TypeId × Value → H} {W : World} {n : Nat} {lo : Option Addr} {len cap : Nat} {x : DataW H × List MemPlace} (h : DataW.trod enc Try.prog W 0 (fun _ => true) true n 22 [.slice lo len cap] = some x) :
    ∃ l : List Dd, Dds W lo len cap l ∧ ∀ T ∈ l, T.d.name.data.toList.length ∈ x.1.weights Try.prog 22 ∧ T.d.text.data.toList.length ∈ x.1.weights Try.prog 22 ∧ (T.d.al = [] ∨ ∃ q, (T.d.al.length + q) * Try.prog.bytesOf 53 ∈ x.1.weights Try.prog 22) := by
  rcases Go.Deep.open_slice Try.underlying22 h with ⟨h0, _⟩ | ⟨a, len', cap', m, k, D, Pl, hcs, _, hl, hm, hmm, hxe, hx⟩
  · simp only [List.cons.injEq, Value.slice.injEq, and_true] at h0
    obtain ⟨_, rfl, rfl⟩ := h0
    exact ⟨[], ⟨rfl, fun i x hx => by simp at hx, Nat.le_refl _, Nat.zero_le _⟩, fun T hT => by simp at hT⟩
  · simp only [List.cons.injEq, Value.slice.injEq, and_true] at hcs
    obtain ⟨rfl, rfl, rfl⟩ := hcs
    rw [if_pos rfl] at hmm
    have each : ∀ i, i < len → ∃ r : Dd, (∀ j u, r.arr[j]? = some u → W.cell? (a.add (i * 15 + j)) = some u) ∧ DdIn W r ∧ r.d.name.data.toList.length ∈ (D i).weights Try.prog 37 ∧ r.d.text.data.toList.length ∈ (D i).weights Try.prog 37 ∧ (r.d.al = [] ∨ ∃ q, (r.d.al.length + q) * Try.prog.bytesOf 53 ∈ (D i).weights Try.prog 37) := by
      intro i hi
      obtain ⟨cs', h1, h2⟩ := hx i (by omega)
      rw [cells37] at h1
      obtain ⟨_, hlen, hcell⟩ := World.cells?_some h1
      obtain ⟨T, rfl, z1⟩ := deed_cells2 h2
      refine ⟨T, fun j u hj => ?_, z1⟩
      have hj8 : j < 15 := by have := (Array.getElem?_eq_some_iff.1 hj).1; simpa using this
      have := hcell j hj8
      rw [Go.Deep.add_add] at this
      rw [this]
      rw [← Array.getElem?_toList] at hj
      exact hj
    obtain ⟨f, hf⟩ : ∃ f : Nat → Dd, ∀ i, i < len → (∀ j u, (f i).arr[j]? = some u → W.cell? (a.add (i * 15 + j)) = some u) ∧ DdIn W (f i) ∧ (f i).d.name.data.toList.length ∈ (D i).weights Try.prog 37 ∧ (f i).d.text.data.toList.length ∈ (D i).weights Try.prog 37 ∧ ((f i).d.al = [] ∨ ∃ q, ((f i).d.al.length + q) * Try.prog.bytesOf 53 ∈ (D i).weights Try.prog 37) := by
      haveI : Inhabited Dd := ⟨⟨0, 0, 0, 0, dpp, none, 0, none, 0, 0⟩⟩
      exact Go.Deep.choose_lt each
    refine ⟨(List.range len).map f, ⟨by simp, fun i x hx => ?_, hl, hm⟩, fun T hT => ?_⟩
    rotate_left 1
    · obtain ⟨i, hi, rfl⟩ := List.mem_map.1 hT
      have hi' : i < len := by simpa using hi
      have m : ∀ n ∈ (D i).weights Try.prog 37, n ∈ x.1.weights Try.prog 22 := fun n hn => by
        have q : ∀ A B : List (DataW H), DataW.weights Try.prog 22 (DataW.slice A B) = (A.length + B.length) * Try.prog.bytesOf 37 :: (DataW.weightsAll Try.prog 37 A ++ DataW.weightsAll Try.prog 37 B) := fun A B => by
          simp [DataW.weights, Try.underlying22]
        rw [hxe]
        simp only
        rw [q]
        exact List.mem_cons_of_mem _ (List.mem_append_left _ (weights_mem_all (List.mem_map.2 ⟨i, hi, rfl⟩) n hn))
      exact ⟨m _ (hf i hi').2.2.1, m _ (hf i hi').2.2.2.1, (hf i hi').2.2.2.2.imp id fun ⟨q, hq⟩ => ⟨q, m _ hq⟩⟩
    have hi : i < len := by have := (List.getElem?_eq_some_iff.1 hx).1; simpa using this
    have hfi : f i = x := by
      rw [List.getElem?_map, List.getElem?_range hi] at hx
      simpa using hx
    obtain ⟨g0, ok, _⟩ := hf i hi
    have g00 := (hf 0 (by omega)).1 0 _ rfl
    obtain ⟨b, off, spot⟩ := a
    have hspot : spot = none := by
      have := World.cell?_spot g00
      simpa [Addr.add] using this
    subst hspot
    rw [hfi] at g0 ok
    refine ⟨b, off, rfl, ?_, fun j u hj => ?_, ok⟩
    · have := g0 0 _ rfl
      rw [Addr.add_lit] at this
      exact World.block_lt_of_cell? W _ this
    · have := g0 j u hj
      rw [Addr.add_lit, ← Nat.add_assoc] at this
      exact this
theorem deeds_str {H : Type} {enc : TypeId × Value → H} {W : World} {n : Nat} {lo : Option Addr} {len cap : Nat} {x : DataW H × List MemPlace} {ts : List TypeId} {ds : List (DataW H)} (hz : (DataW.weightsEach Try.prog ts ds).all (· ≤ reachBytes) = true) {j : Nat} (ht : ts[j]? = some 22) (hd : ds[j]? = some x.1) (h : DataW.trod enc Try.prog W 0 (fun _ => true) true n 22 [.slice lo len cap] = some x) :
    ∃ l : List Dd, Dds W lo len cap l ∧ len ≤ 9223372036854775807 ∧ ∀ (i : Nat) (T : Dd), l[i]? = some T → T.d.name.size ≤ 2000000000000000000 ∧ T.d.text.size ≤ 2000000000000000000 ∧ T.d.al.length ≤ 2000000000000000000 := by
  obtain ⟨l, hl, hw⟩ := open_deeds2 h
  refine ⟨l, hl, by have := hl.hcap; have := hl.hmax; unfold maxLen at this; omega, fun i T hT => ?_⟩
  have h5 : reachBytes = 140737488351232 := by decide
  have e1 : T.d.name.data.toList.length = T.d.name.size := Array.length_toList
  have e2 : T.d.text.data.toList.length = T.d.text.size := Array.length_toList
  have m : ∀ n ∈ x.1.weights Try.prog 22, n ≤ reachBytes := fun n hn => of_decide_eq_true (List.all_eq_true.1 hz _ (DataW.weights_mem_each ht hd _ hn))
  have a1 := m _ (hw T (List.mem_of_getElem? hT)).1
  obtain ⟨_, w2, w3⟩ := hw T (List.mem_of_getElem? hT)
  have a2 := m _ w2
  have a3 : T.d.al.length ≤ 140737488351232 := by
    rcases w3 with q | ⟨q, hq⟩
    · rw [q]; simp
    · have := m _ hq
      rw [bytes53] at this
      omega
  exact ⟨by omega, by omega, by omega⟩
end Go.Proofs.Ytcdaghlbfclpkaa
