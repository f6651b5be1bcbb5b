/- Rows that are put behind one another; a row of texts that came in. -/
import Derived.Test.YtkphiopeclgffaaCopies
import Derived.Deep.Upon
import Derived.Deep.Strs
namespace Go.Proofs.Ytkphiopeclgffaa
open Go.ChangeShapes Go.WideShapes Go.ChangeAt Go.RowKit Go.Joins

/-- One row put behind another. -/
theorem rows_append {B C t e size bytes n m : Nat} {z : Value} {W : World} {ao : Option Addr} {c : Nat} {x : Value} {xs news : List Value} (ht : Try.prog.underlying t = some (.slice e)) (hinfo : (Try.prog.info? e).map (fun i => (i.zero, i.size, i.bytes)) = some (some z, size, bytes))
    (hzs : z.cells.size = size) (hsz : 0 < size) (hb : bytes ≤ 32) (hown : W.ownsRow B e size (.slice ao n c) n xs) (hsrc : W.ownsRow C e size x m news) (hB : B ≤ W.heap.size) (hn : n ≤ 500000) (hm : m ≤ 500000) (h1 : ∀ u ∈ news, u.oneCell' = true) :
    ∃ ao' c' W', (Builtin.append_ #[t, t] t #[.slice ao n c, x]).run Try.prog W = .ok (.slice ao' (n + m) c') W' ∧
      W'.ownsRow B e size (.slice ao' (n + m) c') (n + m) (xs ++ news) ∧ Below B W W' ∧ (∀ (k : Nat) (cur : Array Value) (e' : TypeId) (m : Nat × Nat), e' ≠ e → W.heap[k]? = some (Obj.cells cur e' m) → W'.heap[k]? = some (Obj.cells cur e' m)) := by
  obtain ⟨i0, hi0, hz0, hzs0, hzb⟩ := info_parts hinfo
  have hrow : ∀ k, (Value.slice ao n c).ownBlock = some k → B ≤ k ∧ k < W.heap.size ∧ ∃ cu, W.heap[k]? = some (.cells cu e (0, 0)) := fun k hk => by
    rcases hown.2 with ⟨hv, _⟩ | ⟨g, cap, cur, hv, hB', hgb, _⟩
    · rw [hv] at hk; simp [Value.ownBlock] at hk
    · rw [hv] at hk; simp [Value.ownBlock] at hk; subst hk
      have hlt := (Array.getElem?_eq_some_iff.1 hgb).1
      exact ⟨hB', hlt, cur, hgb⟩
  have fin : ∀ (v' : Value) (W' : World), W'.ownsRow B e size v' (n + m) (xs ++ news) → W.grownBy W' (Value.slice ao n c).ownBlock → Below B W W' ∧ (∀ (k : Nat) (cur : Array Value) (e' : TypeId) (m : Nat × Nat), e' ≠ e → W.heap[k]? = some (Obj.cells cur e' m) → W'.heap[k]? = some (Obj.cells cur e' m)) := by
    intro v' W' ho hg1
    refine ⟨⟨hg1.os, hg1.tape, hg1.output, hg1.size, fun k hk => hg1.block k (by omega) (fun e => by have := (hrow k e.symm).1; omega)⟩, ?_⟩
    intro k cur e' m hne hk
    have hlt := (Array.getElem?_eq_some_iff.1 hk).1
    rw [hg1.block k hlt (fun e2 => by
      obtain ⟨_, _, cu, hc⟩ := hrow k e2.symm
      rw [hk] at hc; simp at hc; exact hne hc.2.1)]
    exact hk
  rcases hsrc.2 with ⟨hv, hm0⟩ | ⟨g, cap, cur, hv, hbg, hg, h2, h3, h4, htk⟩
  · subst hv; subst hm0
    have hnil : news = [] := List.eq_nil_of_length_eq_zero (by have := hsrc.1; omega)
    subst hnil
    obtain ⟨_, _, e1, hle, _⟩ := own_form hown
    simp only [Value.slice.injEq] at e1
    obtain ⟨_, _, rfl⟩ := e1
    refine ⟨ao, c, W, ?_, by rw [List.append_nil]; exact hown, Below.refl _ _, fun _ _ _ _ _ h => h⟩
    exact run_append_nothing (P := Try.prog) W t t t e i0 ht hi0 ao n c hle (.slice none 0 0) (Src.ofNil W ht 0)
  · subst hv
    obtain ⟨v', W', hrun, ho, hgr, _⟩ := run_append_own (P := Try.prog) W B t t e i0 _ size bytes ht hi0 hz0 hzs0 hzb hzs hsz (.slice ao n c) n xs hown ⟨g, 0, none⟩ m cap news hsrc.1
      (fun j u hj => by rw [Addr.add_lit, Nat.zero_add]; exact hsrc.cells (g := g) rfl j u hj |> fun h => by rw [Addr.add_lit, Nat.zero_add] at h; exact h) h1 (by unfold maxLen; omega) (by have := Nat.mul_le_mul (show n + m ≤ 1000000 by omega) hb; omega) hB
    obtain ⟨ao', c', rfl, _, _⟩ := own_form ho
    obtain ⟨f1, f2⟩ := fin _ _ ho hgr
    exact ⟨ao', c', W', hrun, ho, f1, f2⟩

theorem ch_one (cs : List Ch) : ∀ u ∈ cs.flatMap Ch.cells, u.oneCell' = true := by
  intro u hu
  obtain ⟨c, _, hc⟩ := List.mem_flatMap.1 hu
  simp [Ch.cells] at hc
  rcases hc with rfl | rfl | rfl <;> rfl
theorem gl_one (fs : List (Int × Int)) : ∀ u ∈ fs.flatMap gcells, u.oneCell' = true := by
  intro u hu
  obtain ⟨c, _, hc⟩ := List.mem_flatMap.1 hu
  simp [gcells] at hc
  rcases hc with rfl | rfl <;> rfl

theorem strm_same {x d : Nat} {p : Int} {u : List UInt8} {wt : Ch} {W W' : World} (h : Strm x d p u wt W) (k : ∀ (k : Nat) (cur : Array Value) (e' : TypeId) (m : Nat × Nat), (e' = 50 ∨ e' = 61) → W.heap[k]? = some (Obj.cells cur e' m) → W'.heap[k]? = some (Obj.cells cur e' m)) : Strm x d p u wt W' :=
  ⟨k x _ 50 _ (.inl rfl) h.str, k d _ 61 _ (.inr rfl) h.dec, h.ok⟩

theorem chars_join {B C n c : Nat} {v x : Value} {cs ds : List Ch} {fs gs : List (Int × Int)} {fv y : Value} {W : World} {ao : Option Addr} (hv : v = .slice ao n c) (h1 : Chars B v cs W) (h2 : Chars C x ds W) (h3 : FaultsC B fv fs W) (h4 : FaultsC C y gs W) (hB : B ≤ W.heap.size) (hn : cs.length ≤ 500000) (hm : ds.length ≤ 500000) {s d : Nat} {p : Int} {u : List UInt8} {wt : Ch} (hd : Strm s d p u wt W) :
    ∃ ao' n' c' W', (Builtin.append_ #[23, 23] 23 #[v, x]).run Try.prog W = .ok (.slice ao' n' c') W' ∧ Chars B (.slice ao' n' c') (cs ++ ds) W' ∧ FaultsC B fv fs W' ∧ FaultsC C y gs W' ∧ Strm s d p u wt W' ∧ Below B W W' := by
  obtain ⟨ao2, c2, e1, _, _⟩ := own_form h1
  subst hv
  simp only [Value.slice.injEq] at e1
  obtain ⟨rfl, rfl, rfl⟩ := e1
  obtain ⟨ao', c', W', hr, ho, hb, hk⟩ := rows_append (t := 23) Try.underlying23 info37 rfl (by decide) (by decide) h1 h2 hB hn hm (ch_one ds)
  refine ⟨ao', _, c', W', hr, ?_, own_same h3 fun g cur m _ hg => hk g cur 39 m (by decide) hg, own_same h4 fun g cur m _ hg => hk g cur 39 m (by decide) hg, strm_same hd (fun k cur e m he hh => hk k cur e m (by rcases he with rfl | rfl <;> decide) hh), hb⟩
  unfold Chars
  rw [List.length_append, List.flatMap_append]
  exact ho
theorem faults_join {B C n c : Nat} {v x : Value} {cs : List Ch} {fs gs : List (Int × Int)} {cv : Value} {W : World} {ao : Option Addr} (hv : v = .slice ao n c) (h1 : FaultsC B v fs W) (h2 : FaultsC C x gs W) (h3 : Chars B cv cs W) (hB : B ≤ W.heap.size) (hn : fs.length ≤ 500000) (hm : gs.length ≤ 500000) {s d : Nat} {p : Int} {u : List UInt8} {wt : Ch} (hd : Strm s d p u wt W) :
    ∃ ao' n' c' W', (Builtin.append_ #[24, 24] 24 #[v, x]).run Try.prog W = .ok (.slice ao' n' c') W' ∧ FaultsC B (.slice ao' n' c') (fs ++ gs) W' ∧ Chars B cv cs W' ∧ Strm s d p u wt W' ∧ Below B W W' := by
  obtain ⟨ao2, c2, e1, _, _⟩ := own_form h1
  subst hv
  simp only [Value.slice.injEq] at e1
  obtain ⟨rfl, rfl, rfl⟩ := e1
  obtain ⟨ao', c', W', hr, ho, hb, hk⟩ := rows_append (t := 24) Try.underlying24 info39 rfl (by decide) (by decide) h1 h2 hB hn hm (gl_one gs)
  refine ⟨ao', _, c', W', hr, ?_, own_same h3 fun g cur m _ hg => hk g cur 37 m (by decide) hg, strm_same hd (fun k cur e m he hh => hk k cur e m (by rcases he with rfl | rfl <;> decide) hh), hb⟩
  unfold FaultsC
  rw [List.length_append, List.flatMap_append]
  exact ho

/-- A row of texts that came in. -/
def StrRow (W : World) (lo : Option Addr) (len : Nat) (f : Nat → ByteArray) : Prop := ∀ i, i < len → ∃ b off, lo = some ⟨b, off, none⟩ ∧ b < W.heap.size ∧ W.cell? ⟨b, off + i, none⟩ = some (.string (f i))

theorem cells9 : Try.prog.cellsOf 9 = 1 := by kernel_rfl

theorem open_texts {H : Type} {enc : TypeId × Value → H} {W : World} {n : Nat} {lo : Option Addr} {len cap : Nat} {x : DataW H × List MemPlace} (h : DataW.trod enc Try.prog W 0 (fun _ => true) true n 30 [.slice lo len cap] = some x) :
    len ≤ cap ∧ cap ≤ maxLen ∧ ∃ f, StrRow W lo len f := by
  rcases Go.Deep.open_strs Try.underlying30 Try.underlying9 cells9 h with ⟨h0, _⟩ | ⟨a, len', cap', m, Sx, hcs, _, hl, hm, hmm, _, hx⟩
  · simp only [List.cons.injEq, Value.slice.injEq, and_true] at h0
    obtain ⟨_, rfl, rfl⟩ := h0
    exact ⟨Nat.le_refl _, by unfold maxLen; omega, fun _ => ⟨#[]⟩, fun i hi => absurd hi (Nat.not_lt_zero _)⟩
  · simp only [List.cons.injEq, Value.slice.injEq, and_true] at hcs
    obtain ⟨rfl, rfl, rfl⟩ := hcs
    refine ⟨hl, hm, Sx, fun i hi => ?_⟩
    rw [if_pos rfl] at hmm
    obtain ⟨b, off, spot⟩ := a
    have hspot : spot = none := by
      have := World.cell?_spot (hx 0 (by omega)).1
      simpa [Addr.add] using this
    subst hspot
    have hc := (hx i (by omega)).1
    rw [Addr.add_lit] at hc
    exact ⟨b, off, rfl, block_lt_of_cell hc, hc⟩
end Go.Proofs.Ytkphiopeclgffaa
