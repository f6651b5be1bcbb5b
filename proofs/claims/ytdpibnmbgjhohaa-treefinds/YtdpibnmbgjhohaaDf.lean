/- A tree that came in. -/
import Derived.Test.YtdpibnmbgjhohaaDe
import Derived.ChangeMaps5
import Derived.ProofKit
import Derived.OpenShut
import Derived.ShutString
import Derived.ChangeOld
import Derived.ChangeMaps
import Derived.ChangeSame
import Derived.SizedLaws
import Derived.ChangeAt
import Derived.Deep.Slices
import Derived.Lib.SmallJoins
namespace Go.Proofs.Ytdpibnmbgjhohaa
open Go.ChangeShapes Go.WideShapes Go.ChangeAt Go.RowKit Go.Joins

theorem own : ownKnob Try.prog.godebug = none := by kernel_rfl
theorem laidOut : laidOutB Try.prog = true := by kernel_rfl
theorem cells53 : Try.prog.cellsOf 53 = 2 := by kernel_rfl
theorem cells24 : Try.prog.cellsOf 24 = 2 := by kernel_rfl
theorem cells27 : Try.prog.cellsOf 27 = 11 := by kernel_rfl
theorem cells22 : Try.prog.cellsOf 22 = 1 := by kernel_rfl
theorem cells25 : Try.prog.cellsOf 25 = 1 := by kernel_rfl
theorem cells9 : Try.prog.cellsOf 9 = 1 := by kernel_rfl
theorem cells3 : Try.prog.cellsOf 3 = 1 := by kernel_rfl
theorem bytes53 : Try.prog.bytesOf 53 = 32 := by kernel_rfl
theorem bytes27 : Try.prog.bytesOf 27 = 136 := by kernel_rfl
abbrev atD {H : Type} (r : At) : DataW H := .agg [.lit (.string r.n.data.toList), .lit (.string r.v.data.toList)]
set_option maxRecDepth 20000 in
theorem at_cells {H : Type} {enc : TypeId × Value → H} {W : World} {n : Nat} {cs : List Value} {x : DataW H × List MemPlace} (h : DataW.trod enc Try.prog W 0 (fun _ => true) true n 53 cs = some x) :
    ∃ r : At, cs = [.string r.n, .string r.v] ∧ x.1 = atD r := by
  obtain ⟨y0, y1, m, hx, hl, h0, h1⟩ := trod_struct2 Try.underlying53 h
  rw [cells53] at hl
  obtain ⟨c0, c1, rfl⟩ : ∃ c0 c1, cs = [c0, c1] := by
    match cs, hl with
    | [c0, c1], _ => exact ⟨c0, c1, rfl⟩
  simp only [cells9] at h0 h1
  obtain ⟨s, e0, f0, s0⟩ := DataW.trod_string Try.underlying9 h0
  obtain ⟨a, e1, f1, s1⟩ := DataW.trod_string Try.underlying9 h1
  simp at e0 e1
  subst e0 e1 f0 f1 hx
  exact ⟨⟨s, a⟩, rfl, rfl⟩
/-- The reading of a slice of attributes. -/
def AtsD {H : Type} (d : DataW H) (L : List At) : Prop := (L = [] ∧ d = .nil) ∨ ∃ sp, d = .slice (L.map atD) sp
set_option maxRecDepth 20000 in
theorem open_attrs {H : Type} {enc : TypeId × Value → H} {W : World} {n : Nat} {v : Value} {x : DataW H × List MemPlace} (h : DataW.trod enc Try.prog W 0 (fun _ => true) true n 22 [v] = some x) :
    ∃ lo len cap, v = .slice lo len cap ∧ ∃ L : List At, L.length = len ∧ AtRow W lo L ∧ len ≤ cap ∧ cap ≤ maxLen ∧ AtsD x.1 L := by
  rcases Go.Deep.open_slice Try.underlying22 h with ⟨h0, hx0⟩ | ⟨a, len, cap, m, k, D, Pl, hcs, _, hl, hm, hmm, hxe, hx⟩
  · simp only [List.cons.injEq, and_true] at h0
    subst h0
    exact ⟨none, 0, 0, rfl, [], rfl, fun i x hx => by simp at hx, Nat.le_refl _, Nat.zero_le _, .inl ⟨rfl, by rw [hx0]⟩⟩
  · simp only [List.cons.injEq, and_true] at hcs
    subst hcs
    rw [if_pos rfl] at hmm
    have each : ∀ i, i < len → ∃ r : At, (W.cell? (a.add (i * 2)) = some (.string r.n) ∧ W.cell? (a.add (i * 2 + 1)) = some (.string r.v)) ∧ D i = atD r := by
      intro i hi
      obtain ⟨cs', h1, h2⟩ := hx i (by omega)
      rw [cells53] at h1
      obtain ⟨_, hlen, hcell⟩ := World.cells?_some h1
      obtain ⟨d, rfl, z1⟩ := at_cells h2
      refine ⟨d, ⟨?_, ?_⟩, z1⟩
      · have := hcell 0 (by omega); rw [Go.Deep.add_add] at this; simpa using this
      · have := hcell 1 (by omega); rw [Go.Deep.add_add] at this; simpa using this
    obtain ⟨f, hf⟩ : ∃ f : Nat → At, ∀ i, i < len → (W.cell? (a.add (i * 2)) = some (.string (f i).n) ∧ W.cell? (a.add (i * 2 + 1)) = some (.string (f i).v)) ∧ D i = atD (f i) := by
      haveI : Inhabited At := ⟨⟨⟨#[]⟩, ⟨#[]⟩⟩⟩
      exact Go.Deep.choose_lt each
    refine ⟨some a, len, cap, rfl, (List.range len).map f, by simp, fun i x hx => ?_, hl, hm, .inr ⟨_, by
      rw [hxe]
      simp only
      congr 1
      rw [List.map_map]
      exact List.map_congr_left fun i hi => (hf i (by simpa using hi)).2⟩⟩
    have hi : i < len := by have := (List.getElem?_eq_some_iff.1 hx).1; simpa using this
    have hfi : f i = x := by
      rw [List.getElem?_map, List.getElem?_range hi] at hx
      simpa using hx
    obtain ⟨⟨g0, g1⟩, _⟩ := hf i hi
    obtain ⟨b, off, spot⟩ := a
    have hspot : spot = none := by
      have := World.cell?_spot (hf 0 (by omega)).1.1
      simpa [Addr.add] using this
    subst hspot
    rw [Addr.add_lit] at g0 g1
    rw [hfi] at g0 g1
    exact ⟨b, off, rfl, World.block_lt_of_cell? W _ g0, g0, by rw [Nat.add_assoc]; exact g1⟩
theorem trod_struct9 {P : Program} {H : Type} {enc : TypeId × Value → H} {w : World} {base : Nat} {spare : Nat → Bool} {held : Bool} {t : TypeId} {f0 f1 f2 f3 f4 f5 f6 f7 f8 : Field} {fuel : Nat} {cs : List Value} {x : DataW H × List MemPlace} (ht : P.underlying t = some (.struct #[f0, f1, f2, f3, f4, f5, f6, f7, f8])) (h : DataW.trod enc P w base spare held fuel t cs = some x) :
    ∃ y0 y1 y2 y3 y4 y5 y6 y7 y8 n, fuel = n + 1 ∧ x.1 = .agg [y0.1, y1.1, y2.1, y3.1, y4.1, y5.1, y6.1, y7.1, y8.1] ∧ cs.length = P.cellsOf t ∧ DataW.trod enc P w base spare held n f0.type ((cs.drop f0.offset).take (P.cellsOf f0.type)) = some y0 ∧ DataW.trod enc P w base spare held n f1.type ((cs.drop f1.offset).take (P.cellsOf f1.type)) = some y1 ∧ DataW.trod enc P w base spare held n f2.type ((cs.drop f2.offset).take (P.cellsOf f2.type)) = some y2 ∧ DataW.trod enc P w base spare held n f3.type ((cs.drop f3.offset).take (P.cellsOf f3.type)) = some y3 ∧ DataW.trod enc P w base spare held n f4.type ((cs.drop f4.offset).take (P.cellsOf f4.type)) = some y4 ∧ DataW.trod enc P w base spare held n f5.type ((cs.drop f5.offset).take (P.cellsOf f5.type)) = some y5 ∧ DataW.trod enc P w base spare held n f6.type ((cs.drop f6.offset).take (P.cellsOf f6.type)) = some y6 ∧ DataW.trod enc P w base spare held n f7.type ((cs.drop f7.offset).take (P.cellsOf f7.type)) = some y7 ∧ DataW.trod enc P w base spare held n f8.type ((cs.drop f8.offset).take (P.cellsOf f8.type)) = some y8 := by
  obtain ⟨xs, n, he, rfl, hl, hlen, hf⟩ := DataW.trod_struct ht h
  match xs, hlen with
  | [y0, y1, y2, y3, y4, y5, y6, y7, y8], _ => exact ⟨y0, y1, y2, y3, y4, y5, y6, y7, y8, n, he, by simp, hl, by simpa using hf 0 f0 rfl, by simpa using hf 1 f1 rfl, by simpa using hf 2 f2 rfl, by simpa using hf 3 f3 rfl, by simpa using hf 4 f4 rfl, by simpa using hf 5 f5 rfl, by simpa using hf 6 f6 rfl, by simpa using hf 7 f7 rfl, by simpa using hf 8 f8 rfl⟩
theorem weights_mem_all {H : Type} {P : Program} {e : TypeId} : ∀ {ds : List (DataW H)} {d : DataW H}, d ∈ ds → ∀ n ∈ d.weights P e, n ∈ DataW.weightsAll P e ds
  | [], _, h, _, _ => by simp at h
  | x :: ds, d, h, n, hn => by
    rw [DataW.weightsAll, List.mem_append]
    rcases List.mem_cons.1 h with rfl | h
    · exact .inl hn
    · exact .inr (weights_mem_all h n hn)
theorem w_slice {H : Type} (A B : List (DataW H)) : DataW.weights Try.prog 25 (DataW.slice A B) = (A.length + B.length) * Try.prog.bytesOf 27 :: (DataW.weightsAll Try.prog 27 A ++ DataW.weightsAll Try.prog 27 B) := by
  simp [DataW.weights, Try.underlying25]
theorem w_ats {H : Type} (A B : List (DataW H)) : (A.length + B.length) * Try.prog.bytesOf 53 ∈ DataW.weights Try.prog 22 (DataW.slice A B) := by
  simp [DataW.weights, Try.underlying22]
set_option maxRecDepth 20000 in
set_option maxHeartbeats 2000000 in
theorem node_cells {H : Type} {enc : TypeId × Value → H} {W : World} : ∀ (n : Nat) (cs : List Value) (x : DataW H × List MemPlace), DataW.trod enc Try.prog W 0 (fun _ => true) true n 27 cs = some x →
    ∃ (t : Tr) (av kv : Value), cs = t.d.cs av kv ∧ TrC W t av kv ∧ ((∀ m ∈ x.1.weights Try.prog 27, m ≤ reachBytes) → Ok t) := by
  intro n
  induction n using Nat.strongRecOn with
  | ind n ih =>
    intro cs x h
    obtain ⟨y0, y1, y2, y3, y4, y5, y6, y7, y8, m, hn, hx, hl, h0, h1, h2, h3, h4, h5, h6, h7, h8⟩ := trod_struct9 Try.underlying27 h
    rw [cells27] at hl
    obtain ⟨c0, c1, c2, c3, c4, c5, c6, c7, c8, c9, c10, rfl⟩ : ∃ c0 c1 c2 c3 c4 c5 c6 c7 c8 c9 c10, cs = [c0, c1, c2, c3, c4, c5, c6, c7, c8, c9, c10] := by
      match cs, hl with
      | [c0, c1, c2, c3, c4, c5, c6, c7, c8, c9, c10], _ => exact ⟨c0, c1, c2, c3, c4, c5, c6, c7, c8, c9, c10, rfl⟩
    simp only [cells3, cells9, cells22, cells24, cells25] at h0 h1 h2 h3 h4 h5 h6 h7 h8
    simp only [List.drop_zero, List.drop_succ_cons, List.take_succ_cons, List.take_zero] at h0 h1 h2 h3 h4 h5 h6 h7 h8
    obtain ⟨id, e0, g0, w0⟩ := DataW.trod_int Try.underlying3 h0
    obtain ⟨kd, e1, g1, w1⟩ := DataW.trod_int Try.underlying3 h1
    obtain ⟨sp, e2, g2, w2⟩ := DataW.trod_int Try.underlying3 h2
    obtain ⟨nm, e3, g3, w3⟩ := DataW.trod_string Try.underlying9 h3
    obtain ⟨tx, e4, g4, w4⟩ := DataW.trod_string Try.underlying9 h4
    obtain ⟨ao, n', ac, e5, L, len, row, hc1, hc2, hAD⟩ := open_attrs h5
    obtain ⟨_, _, m3, _, _, s0, s1⟩ := trod_struct2 Try.underlying24 h6
    obtain ⟨_, _, m4, _, _, t0, t1⟩ := trod_struct2 Try.underlying24 h7
    simp only [cells3] at s0 s1 t0 t1
    simp only [List.drop_zero, List.drop_succ_cons, List.take_succ_cons, List.take_zero] at s0 s1 t0 t1
    obtain ⟨sf, e6, _, w6⟩ := DataW.trod_int Try.underlying3 s0
    obtain ⟨st, e7, _, w7⟩ := DataW.trod_int Try.underlying3 s1
    obtain ⟨ef, e8, _, w8⟩ := DataW.trod_int Try.underlying3 t0
    obtain ⟨et, e9, _, w9⟩ := DataW.trod_int Try.underlying3 t1
    have hkids : ∃ (l : List Tr) (kp : Option Addr) (kc kb ko : Nat) (avs kvs : Nat → Value), c10 = .slice kp l.length kc ∧ l.length ≤ kc ∧ kc ≤ maxLen ∧ (l ≠ [] → kp = some ⟨kb, ko, none⟩) ∧ (∀ (j : Nat) t, l[j]? = some t → kb < W.heap.size ∧ CellsAt W kb (ko + j * 11) (t.d.cs (avs j) (kvs j))) ∧ (∀ (j : Nat) t, l[j]? = some t → TrC W t (avs j) (kvs j)) ∧
        ((∀ m ∈ y8.1.weights Try.prog 25, m ≤ reachBytes) → l.length ≤ 140737488351232 ∧ ∀ t ∈ l, Ok t) := by
      rcases DataW.trod_slice Try.underlying25 h8 with ⟨z0, z1⟩ | ⟨a, len', cap, elems, rest, k, hk, z0, z1, _, z3, z4, z5, z6, _⟩
      · simp only [List.cons.injEq, and_true] at z0
        subst z0
        exact ⟨[], none, 0, 0, 0, fun _ => undef, fun _ => undef, rfl, Nat.le_refl _, Nat.zero_le _, fun h => absurd rfl h, fun j t hj => by simp at hj, fun j t hj => by simp at hj, fun _ => ⟨Nat.zero_le _, fun t ht => by simp at ht⟩⟩
      · simp only [List.cons.injEq, and_true] at z0
        subst z0
        have each : ∀ i, i < len' → ∃ q : Tr × Value × Value, (∀ j u, (q.1.d.cs q.2.1 q.2.2)[j]? = some u → W.cell? (a.add (i * 11 + j)) = some u) ∧ TrC W q.1 q.2.1 q.2.2 ∧ ∃ y, elems[i]? = some y ∧ ((∀ m ∈ y.1.weights Try.prog 27, m ≤ reachBytes) → Ok q.1) := by
          intro i hi
          have hb := z6 i hi
          obtain ⟨y, hy⟩ : ∃ y, elems[i]? = some y := ⟨_, List.getElem?_eq_getElem (by omega)⟩
          rw [hy] at hb
          obtain ⟨cs', h1', h2'⟩ := Option.bind_eq_some_iff.1 hb
          rw [cells27] at h1'
          obtain ⟨_, hlen, hcell⟩ := World.cells?_some h1'
          obtain ⟨t, av, kv, rfl, ht, hok⟩ := ih k (by omega) cs' y h2'
          refine ⟨(t, av, kv), fun j u hj => ?_, ht, y, hy, hok⟩
          have hj8 : j < 11 := by have := (List.getElem?_eq_some_iff.1 hj).1; simpa [Nd.cs] using this
          have := hcell j hj8
          rw [Go.Deep.add_add] at this
          rw [this]
          exact hj
        obtain ⟨f, hf⟩ : ∃ f : Nat → Tr × Value × Value, ∀ i, i < len' → (∀ j u, ((f i).1.d.cs (f i).2.1 (f i).2.2)[j]? = some u → W.cell? (a.add (i * 11 + j)) = some u) ∧ TrC W (f i).1 (f i).2.1 (f i).2.2 ∧ ∃ y, elems[i]? = some y ∧ ((∀ m ∈ y.1.weights Try.prog 27, m ≤ reachBytes) → Ok (f i).1) := by
          haveI : Inhabited (Tr × Value × Value) := ⟨(kT0, undef, undef)⟩
          exact Go.Deep.choose_lt each
        have hat : ∀ (j : Nat) t, ((List.range len').map fun i => (f i).1)[j]? = some t → j < len' ∧ t = (f j).1 := fun j t hj => by
          have hj' : j < len' := by have := (List.getElem?_eq_some_iff.1 hj).1; simpa using this
          rw [List.getElem?_map, List.getElem?_range hj'] at hj
          simp at hj
          exact ⟨hj', hj.symm⟩
        obtain ⟨b, off, spot⟩ := a
        have hspot : 0 < len' → spot = none := fun h0' => by
          have := World.cell?_spot ((hf 0 h0').1 0 _ rfl)
          simpa [Addr.add] using this
        by_cases h0' : 0 < len'
        · have hs := hspot h0'
          subst hs
          refine ⟨(List.range len').map fun i => (f i).1, some ⟨b, off, none⟩, cap, b, off, fun i => (f i).2.1, fun i => (f i).2.2, by simp, by simpa using z3, z4, fun _ => rfl, fun j t hj => ?_, fun j t hj => ?_, fun hw => ?_⟩
          · obtain ⟨hj', rfl⟩ := hat j t hj
            have hc := (hf j hj').1
            refine ⟨?_, fun i u hu => ?_⟩
            · have := hc 0 _ rfl
              rw [Addr.add_lit] at this
              exact World.block_lt_of_cell? W _ this
            · have := hc i u hu
              rw [Addr.add_lit, ← Nat.add_assoc] at this
              exact this
          · obtain ⟨hj', rfl⟩ := hat j t hj
            exact (hf j hj').2.1
          · rw [z1] at hw
            simp only [] at hw
            rw [w_slice] at hw
            refine ⟨?_, fun t ht => ?_⟩
            · have := hw _ List.mem_cons_self
              rw [bytes27] at this
              simp only [List.length_map] at this
              have h5 : reachBytes = 140737488351232 := by decide
              simp only [List.length_map, List.length_range]
              omega
            · obtain ⟨i, hi, rfl⟩ := List.mem_map.1 ht
              have hi' : i < len' := by simpa using hi
              obtain ⟨_, _, y, hy, hok⟩ := hf i hi'
              exact hok fun m hm => hw m (List.mem_cons_of_mem _ (List.mem_append_left _ (weights_mem_all (List.mem_map.2 ⟨y, List.mem_of_getElem? hy, rfl⟩) m hm)))
        · have : len' = 0 := by omega
          subst this
          exact ⟨[], some ⟨b, off, spot⟩, cap, 0, 0, fun _ => undef, fun _ => undef, rfl, by simp, z4, fun h => absurd rfl h, fun j t hj => by simp at hj, fun j t hj => by simp at hj, fun _ => ⟨Nat.zero_le _, fun t ht => by simp at ht⟩⟩
    obtain ⟨l, kp, kc, kb, ko, avs, kvs, rfl, k1, k2, k3, k4, k5, k6⟩ := hkids
    simp only [List.cons.injEq, and_true] at e0 e1 e2 e3 e4 e6 e7 e8 e9
    subst len
    subst e0 e1 e2 e3 e4 e5 e6 e7 e8 e9
    refine ⟨.mk ⟨id, kd, sp, nm, tx, .slice none 0 0, L, sf, st, ef, et⟩ l, _, _, rfl, .mk row k3 k4 k5 ⟨k1, k2⟩, fun hw => ?_⟩
    have h5r : reachBytes = 140737488351232 := by decide
    have hsub : ∀ (q : TypeId) (d : DataW H), (∀ m ∈ d.weights Try.prog q, m ∈ x.1.weights Try.prog 27) → ∀ m ∈ d.weights Try.prog q, m ≤ reachBytes := fun q d hd m hm => hw m (hd m hm)
    have wt : tx.data.toList.length ≤ reachBytes := hw _ (by
      rw [hx, g4]
      simp [DataW.weights, DataW.weightsEach, Try.underlying27])
    have wk := k6 (hsub 25 y8.1 (fun m hm => by
      rw [hx]
      simp [DataW.weights, DataW.weightsEach, Try.underlying27, hm]))
    have e2' : tx.data.toList.length = tx.size := Array.length_toList
    refine .mk ?_ (by show tx.size ≤ _; omega) wk.1 wk.2
    show L.length ≤ _
    rcases hAD with ⟨hL, _⟩ | ⟨sq, hs⟩
    · rw [hL]; simp
    · have := hsub 22 y5.1 (fun m hm => by
        rw [hx]
        simp [DataW.weights, DataW.weightsEach, Try.underlying27, hm]) _ (by rw [hs]; exact w_ats _ _)
      rw [bytes53] at this
      simp only [List.length_map] at this
      omega
set_option maxRecDepth 20000 in
theorem open_node {H : Type} {enc : TypeId × Value → H} {W : World} {base : Nat} {v : Value} {d : DataW H} {p : List MemPlace} {ts : List TypeId} {ds : List (DataW H)} (hz : (DataW.weightsEach Try.prog ts ds).all (· ≤ reachBytes) = true) {j : Nat} (ht : ts[j]? = some 27) (hd : ds[j]? = some d) (hv : Value.okWide Try.prog W .any base 27 v) (h : DataW.Trod enc Try.prog W 0 (fun _ => true) true 27 v d p) :
    ∃ (t : Tr) (av kv : Value), v = nv t.d av kv ∧ TrC W t av kv ∧ Ok t := by
  obtain ⟨cs, rfl, hsz⟩ := okWide_struct Try.underlying27 hv
  obtain ⟨fuel, hf⟩ := h
  obtain ⟨t, av, kv, he, hT, hok⟩ := node_cells fuel _ (d, p) (by simpa [Value.cells] using hf)
  refine ⟨t, av, kv, ?_, hT, hok fun m hm => of_decide_eq_true (List.all_eq_true.1 hz _ (DataW.weights_mem_each ht hd _ hm))⟩
  have : cs = (t.d.cs av kv).toArray := by
    apply Array.toList_inj.1
    simpa [Value.cells] using he
  rw [this]
  rfl
end Go.Proofs.Ytdpibnmbgjhohaa
