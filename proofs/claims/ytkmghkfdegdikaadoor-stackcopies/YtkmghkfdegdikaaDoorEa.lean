/- Do, of any kind; deeds that came in; two stacks, of which one is at work. -/
import Derived.Test.YtkmghkfdegdikaaDoorD0
import Derived.Test.YtkmghkfdegdikaaDoorD2
import Derived.Test.YtkmghkfdegdikaaDoorD3
import Derived.Test.YtkmghkfdegdikaaDoorD4
import Derived.Test.YtkmghkfdegdikaaDoorD5
import Derived.Test.YtkmghkfdegdikaaDoorD6
import Derived.Test.YtkmghkfdegdikaaDoorDd
namespace Go.Proofs.YtkmghkfdegdikaaDoor
open Go.ChangeShapes Go.WideShapes Go.ChangeAt Go.RowKit Go.Joins

theorem DdIn.old {w w' : World} {T : Dd} (h : DdIn w T) (b : Below w.heap.size w w') : DdIn w' T := ⟨h.at_.old b, h.nr.old b, h.nf⟩
theorem do_any {Z : Nat → Prop} {w : World} {x y : Nat} {rv lv : Value} {M N : List El} (t : Two Z w x y rv lv M N) (hM : M.length ≤ 900000) (hN : N.length ≤ 900000) (T : Dd) (hI : ∀ V, Keep Z w V → DdIn V T) (hf : T.e.al.length ≤ 4398046511104) (hT : ∀ V, Keep Z w V → Tb V) :
    Calls Tryd.prog 11 #[ptr x, ptr y, .agg T.arr] w (DoIs Z w x y M N) := by
  obtain ⟨ao, ac, hav, _⟩ := (hI w (Keep.refl _ _)).at_
  have hnf := (hI w (Keep.refl _ _)).nf
  obtain ⟨k, a, s, ⟨id, sp, nm, av, al⟩, no, nl, nc⟩ := T
  simp only at hav hf hnf
  subst hav
  have hat : ∀ V, Keep Z w V → Ats V (.slice ao al.length ac) al := fun V kV => (hI V kV).at_.ats hf
  have hnr : ∀ V, Keep Z w V → StrRow V no nl := fun V kV => (hI V kV).nr
  by_cases h0 : k = 0
  · subst h0
    exact do_0 t hM hN a s id sp nm ao ac al nl.length nc rfl hnf hat hnr hT
  by_cases h1 : k = 1
  · subst h1
    exact do_1 t hM hN a s id sp nm ao ac al nl.length nc rfl hnf hat hnr hT
  by_cases h2 : k = 2
  · subst h2
    exact do_2 t hM hN a s id sp nm ao ac al nl.length nc rfl hnf hat hnr hT
  by_cases h3 : k = 3
  · subst h3
    exact do_3 t hM hN a s id sp nm ao ac al nl.length nc rfl hnf hat hnr hT
  by_cases h4 : k = 4
  · subst h4
    exact do_4 t hM hN a s id sp nm ao ac al nl.length nc rfl hnf hat hnr hT
  by_cases h5 : k = 5
  · subst h5
    exact do_5 t hM hN a s id sp nm ao ac al nl.length nc rfl hnf hat hnr hT
  by_cases h6 : k = 6
  · subst h6
    exact do_6 t hM hN a s id sp nm ao ac al nl.length nc rfl hnf hat hnr hT
  exact do_d t hM hN k a s id sp nm ao ac al nl.length nc rfl hnf hat hnr hT ⟨h0, h1, h2, h3, h4, h5, h6⟩
/-- A row of deeds that came in. -/
structure DdsIn (W : World) (lo : Option Addr) (len : Nat) (l : List Dd) : Prop where
  hlen : l.length = len
  fit : len ≤ 9223372036854775807
  row : ∀ (i : Nat) d, l[i]? = some d → ∃ b off, lo = some ⟨b, off, none⟩ ∧ b < W.heap.size ∧ CellsAt W b (off + i * 8) d.arr.toList ∧ DdIn W d ∧ d.e.al.length ≤ 4398046511104
theorem DdsIn.old {w w' : World} {lo : Option Addr} {len : Nat} {l : List Dd} (h : DdsIn w lo len l) (b : Below w.heap.size w w') : DdsIn w' lo len l :=
  ⟨h.hlen, h.fit, fun i d hd => by
    obtain ⟨k, off, h1, h2, h3, h4, h5⟩ := h.row i d hd
    exact ⟨k, off, h1, Nat.lt_of_lt_of_le h2 b.size, h3.mv (b.block k h2), h4.old b, h5⟩⟩
/-- The deed at a place. -/
theorem DdsIn.at {w : World} {lo : Option Addr} {len : Nat} {l : List Dd} (h : DdsIn w lo len l) {i : Nat} (hi : i < len) :
    ∃ (d : Dd) (b off : Nat) (ao : Option Addr) (ac : Nat), lo = some ⟨b, off, none⟩ ∧ w.cell? ⟨b, off + i * 8, none⟩ = some (iv d.k) ∧ w.cell? ⟨b, off + i * 8 + 1, none⟩ = some (iv d.a) ∧ w.cell? ⟨b, off + i * 8 + 2, none⟩ = some (iv d.s) ∧ w.cell? ⟨b, off + i * 8 + 3, none⟩ = some (iv d.e.id) ∧ w.cell? ⟨b, off + i * 8 + 4, none⟩ = some (iv d.e.sp) ∧ w.cell? ⟨b, off + i * 8 + 5, none⟩ = some (.string d.e.nm) ∧ w.cell? ⟨b, off + i * 8 + 6, none⟩ = some d.e.av ∧ w.cell? ⟨b, off + i * 8 + 7, none⟩ = some (.slice d.no d.nl.length d.nc) ∧ d.e.av = .slice ao d.e.al.length ac ∧ DdIn w d ∧ d.e.al.length ≤ 4398046511104 := by
  obtain ⟨d, hd⟩ : ∃ d, l[i]? = some d := ⟨_, List.getElem?_eq_getElem (by rw [h.hlen]; exact hi)⟩
  obtain ⟨b, off, h1, h2, h3, h4, h5⟩ := h.row i d hd
  obtain ⟨ao, ac, h6, _⟩ := h4.at_
  exact ⟨d, b, off, ao, ac, h1, h3 0 _ rfl, h3 1 _ rfl, h3 2 _ rfl, h3 3 _ rfl, h3 4 _ rfl, h3 5 _ rfl, h3 6 _ rfl, h3 7 _ rfl, h6, h4, h5⟩
set_option maxRecDepth 20000 in
theorem dds_in {H : Type} {enc : TypeId × Value → H} {W : World} {n : Nat} {lo : Option Addr} {len cap : Nat} {x : DataW H × List MemPlace} (h : DataW.trod enc Tryd.prog W 0 (fun _ => true) true n 22 [.slice lo len cap] = some x) (hw : ∀ m ∈ x.1.weights Tryd.prog 22, m ≤ reachBytes) :
    ∃ l : List Dd, DdsIn W lo len l := by
  rcases Go.Deep.open_slice Tryd.underlying22 h with ⟨h0, _⟩ | ⟨a, len', cap', m, k, D, Pl, hcs, _, hl, hm, hmm, hxe, hx⟩
  · simp only [List.cons.injEq, Value.slice.injEq, and_true] at h0
    obtain ⟨_, rfl, rfl⟩ := h0
    exact ⟨[], rfl, Nat.zero_le _, fun i x hx => by simp at hx⟩
  · simp only [List.cons.injEq, Value.slice.injEq, and_true] at hcs
    obtain ⟨rfl, rfl, rfl⟩ := hcs
    rw [if_pos rfl] at hmm
    have each : ∀ i, i < len → ∃ r : Dd, (∀ (j : Nat) u, r.arr.toList[j]? = some u → W.cell? (a.add (i * 8 + j)) = some u) ∧ DdIn W r ∧ r.e.al.length ≤ 4398046511104 := by
      intro i hi
      obtain ⟨cs', h1, h2⟩ := hx i (by omega)
      rw [cells37] at h1
      obtain ⟨_, hlen, hcell⟩ := World.cells?_some h1
      obtain ⟨T, rfl, z1, z2⟩ := deed_in h2
      refine ⟨T, fun j u hj => ?_, z1, z2 fun n hn => hw n ?_⟩
      · have hj8 : j < 8 := by have := (List.getElem?_eq_some_iff.1 hj).1; simpa using this
        have := hcell j hj8
        rw [Go.Deep.add_add] at this
        rw [this]
        exact hj
      · have q : ∀ A B : List (DataW H), DataW.weights Tryd.prog 22 (DataW.slice A B) = (A.length + B.length) * Tryd.prog.bytesOf 37 :: (DataW.weightsAll Tryd.prog 37 A ++ DataW.weightsAll Tryd.prog 37 B) := fun A B => by
          simp [DataW.weights, Tryd.underlying22]
        rw [hxe]
        simp only
        rw [q]
        exact List.mem_cons_of_mem _ (List.mem_append_left _ (weights_mem_all (List.mem_map.2 ⟨i, by simpa using hi, rfl⟩) n hn))
    obtain ⟨f, hf⟩ : ∃ f : Nat → Dd, ∀ i, i < len → (∀ (j : Nat) u, (f i).arr.toList[j]? = some u → W.cell? (a.add (i * 8 + j)) = some u) ∧ DdIn W (f i) ∧ (f i).e.al.length ≤ 4398046511104 := by
      haveI : Inhabited Dd := ⟨⟨0, 0, 0, ⟨0, 0, ⟨#[]⟩, .slice none 0 0, []⟩, none, [], 0⟩⟩
      exact Go.Deep.choose_lt each
    have hML : maxLen = 9223372036854775807 := rfl
    refine ⟨(List.range len).map f, by simp, by omega, fun i x hx => ?_⟩
    have hi : i < len := by have := (List.getElem?_eq_some_iff.1 hx).1; simpa using this
    have hfi : f i = x := by
      rw [List.getElem?_map, List.getElem?_range hi] at hx
      simpa using hx
    obtain ⟨g0, ok1, ok2⟩ := hf i hi
    have g00 := (hf 0 (by omega)).1 0 _ rfl
    obtain ⟨b, off, spot⟩ := a
    have hspot : spot = none := by
      have := World.cell?_spot g00
      simpa [Addr.add] using this
    subst hspot
    rw [hfi] at g0 ok1 ok2
    refine ⟨b, off, rfl, ?_, fun j u hj => ?_, ok1, ok2⟩
    · have := g0 0 _ rfl
      rw [Addr.add_lit] at this
      exact World.block_lt_of_cell? W _ this
    · have := g0 j u hj
      rw [Addr.add_lit, ← Nat.add_assoc] at this
      exact this
theorem open_deeds {H : Type} {enc : TypeId × Value → H} {W : World} {lo : Option Addr} {len cap : Nat} {d : DataW H} {p : List MemPlace} {ts : List TypeId} {ds : List (DataW H)} (hz : (DataW.weightsEach Tryd.prog ts ds).all (· ≤ reachBytes) = true) {j : Nat} (ht : ts[j]? = some 22) (hd : ds[j]? = some d) (h : DataW.Trod enc Tryd.prog W 0 (fun _ => true) true 22 (.slice lo len cap) d p) :
    ∃ l : List Dd, DdsIn W lo len l := by
  obtain ⟨fuel, hf⟩ := h
  exact dds_in (n := fuel) (by simpa [Value.cells] using hf) fun m hm => of_decide_eq_true (List.all_eq_true.1 hz _ (DataW.weights_mem_each ht hd _ hm))
/-- What stands in all kept blocks stands. -/
theorem Stk.kept {S Z : Nat → Prop} {w w' : World} {x : Nat} {rv : Value} {M : List El} (h : Stk S w x rv M) (k : Keep Z w w') (hx : Z x) (hr : ∀ g, rv.ownBlock = some g → Z g) (h71 : ∀ g cu, w.heap[g]? = some (.cells cu 71 (0, 0)) → Z g) : Stk S w' x rv M :=
  ⟨fun i hi => Nat.lt_of_lt_of_le (h.low i hi) k.size, (k.block x hx h.lt).trans h.blk, h.out, h.row.mv fun g hg => k.block g (hr g hg) (own_blk h.row.own hg).1, fun d hd => (h.own d hd).mv fun g cu hg => k.block g (h71 g cu hg) (Array.getElem?_eq_some_iff.1 hg).1⟩
theorem RStk.kept {S Z : Nat → Prop} {w w' : World} {x : Nat} {rv : Value} {M : List El} (h : RStk S w x rv M) (k : Keep Z w w') (hx : Z x) (hr : ∀ g, rv.ownBlock = some g → Z g) (h71 : ∀ g cu, w.heap[g]? = some (.cells cu 71 (0, 0)) → Z g) : RStk S w' x rv M :=
  ⟨fun i hi => Nat.lt_of_lt_of_le (h.low i hi) k.size, (k.block x hx h.lt).trans h.blk, h.out, h.row.mv fun g hg => k.block g (hr g hg) (own_blk h.row.own hg).1, fun d hd => (h.own d hd).mv fun g cu hg => k.block g (h71 g cu hg) (Array.getElem?_eq_some_iff.1 hg).1⟩
theorem Stk.rest71 {S : Nat → Prop} {w : World} {x : Nat} {rv : Value} {M : List El} (h : Stk S w x rv M) (g : Nat) (cu : Array Value) (hg : w.heap[g]? = some (.cells cu 71 (0, 0))) : Rest w x rv g := by
  have hx := h.blk
  unfold Bx at hx
  refine ⟨(Array.getElem?_eq_some_iff.1 hg).1, fun e => ?_, fun e => ?_⟩
  · rw [e, hx] at hg
    simp at hg
  · obtain ⟨_, c, h5⟩ := own_blk h.row.own e
    rw [hg] at h5
    simp at h5
/-- A fresh stack of the document's. -/
theorem rfresh {w : World} (B : Nat) (hB : B ≤ w.heap.size) : ∃ W1, w.alloc (.cells #[.slice none 0 0] 28) = W1 ∧ RStk (fun k => k < B) W1 w.heap.size (.slice none 0 0) [] ∧ Below w.heap.size w W1 := by
  have b1 : Below w.heap.size w (w.alloc (.cells #[.slice none 0 0] 28)) := (Below.refl _ _).alloc (Nat.le_refl _) _
  refine ⟨_, rfl, ⟨fun k hk => Nat.lt_of_lt_of_le (Nat.lt_of_lt_of_le hk hB) b1.size, heap_alloc_new w _, fun h => by omega, Rw.nil _ _ _ _, fun d hd => by simp at hd⟩, b1⟩
end Go.Proofs.YtkmghkfdegdikaaDoor
