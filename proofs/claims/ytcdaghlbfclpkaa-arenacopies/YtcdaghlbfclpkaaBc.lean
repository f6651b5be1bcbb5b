/- Rows of pointers; a family of nodes; a kid more in the row of kids. -/
import Derived.Test.YtcdaghlbfclpkaaBb
namespace Go.Proofs.Ytcdaghlbfclpkaa
open Go.RowKit

theorem info81 : (Try.prog.info? 81).map (fun i => (i.zero, i.size, i.bytes)) = some (some (.pointer none), 1, 8) := by kernel_rfl
theorem alloc_zer (w : World) (j : Nat) (u : Value) (h : zer[j]? = some u) : (w.alloc (.cells #[Value.int IntKind.i64 0, Value.int IntKind.i64 0, Value.int IntKind.i64 0, Value.string { data := #[] }, Value.string { data := #[] }, Value.slice none 0 0, Value.int IntKind.i64 0, Value.int IntKind.i64 0, Value.int IntKind.i64 0, Value.int IntKind.i64 0, Value.slice none 0 0] 35)).cell? ⟨w.heap.size, j, none⟩ = some u := by
  rw [World.cell?_alloc_at _ _ _ _ rfl]
  rw [← h]
  simp [zer]
/-- One pointer more. -/
theorem ptr_more {S : Nat → Prop} {w : World} {v : Value} {Q : List Spt} (hlow : ∀ k, S k → k < w.heap.size) (hr : Rw S w 81 1 v Q.length (Q.map qv)) (q : Spt) (hD : Q.length ≤ 100000000000) :
    ∃ v' W', (Builtin.append_ #[82, 82] 82 #[v, .slice (some ⟨w.heap.size, 0, none⟩) 1 1]).run Try.prog (w.alloc (.cells #[qv q] 81)) = .ok v' W' ∧ Rw S W' 81 1 v' (Q ++ [q]).length ((Q ++ [q]).map qv) ∧ w.grownBy W' v.ownBlock := by
  have b1 : Below w.heap.size w (w.alloc (.cells #[qv q] 81)) := (Below.refl _ _).alloc (Nat.le_refl _) _
  obtain ⟨v', W', h1, h2, h3, _⟩ := Rw.app (t := 82) (e := 81) (S := S) Try.underlying82 info81 rfl (by decide) (by decide) (hr.old b1) (fun k hk => Nat.lt_of_lt_of_le (hlow k hk) b1.size) w.heap.size 0 1 1 [qv q] (by simp)
    (fun j u hj => by
      cases j with
      | zero => simp at hj; subst hj; rw [Nat.zero_add, World.cell?_alloc_at _ _ _ _ rfl]; rfl
      | succ j => simp at hj) (by intro u hu; simp at hu; subst hu; rfl) (by omega)
  refine ⟨v', W', h1, by rw [List.length_append, List.map_append]; exact h2, ⟨h3.os.trans b1.os, h3.tape.trans b1.tape, h3.output.trans b1.output, Nat.le_trans b1.size h3.size, fun d hd hne => (h3.block d (Nat.lt_of_lt_of_le hd b1.size) hne).trans (b1.block d hd)⟩⟩
/-- A row without its last one. -/
theorem Rw.init {S : Nat → Prop} {w : World} {e n cap : Nat} {ao : Option Addr} {xs : List Value} {u : Value} (h : Rw S w e 1 (.slice ao (n + 1) cap) (n + 1) (xs ++ [u])) : Rw S w e 1 (.slice ao n cap) n xs := by
  obtain ⟨g, cap', cur, hv, hS, _, hg, h1, h2, h3, h4⟩ := h.form (Nat.succ_pos n)
  simp only [Value.slice.injEq, true_and] at hv
  obtain ⟨rfl, rfl⟩ := hv
  have hl : xs.length = n := by
    have := h.own.1
    simp at this
    exact this
  refine ⟨⟨by rw [hl]; simp, .inr ⟨g, _, cur, rfl, Nat.zero_le _, hg, by omega, h2, h3, ?_⟩⟩, fun k hk => by simp [Value.ownBlock] at hk; subst hk; exact hS⟩
  have e := congrArg (List.take n) h4
  rw [List.take_take, List.take_left' hl] at e
  rw [← e]
  congr 1
  omega

/-- Nodes with their kids, none below itself. -/
structure Fam (n : Nat) (N : List Nd) (P : List Sp) (E : List En) (K : Nat → List Nat) (sz : Nat → Nat) : Prop where
  ids : ∀ (i : Nat) d, N[i]? = some d → d.id = (i : Int)
  ch : ∀ (i : Nat) e, E[i]? = some e → Chain P e.f (K i)
  ln : ∀ i, (K i).length ≤ n
  kn : ∀ i k, k ∈ K i → k < n
  al : ∀ d ∈ N, d.al.length ≤ 1000000000
  dn : ∀ i, ((K i).map sz).sum < sz i
theorem sum_ge {sz : Nat → Nat} {L : List Nat} {k : Nat} (h : k ∈ L) : sz k ≤ (L.map sz).sum := by
  induction L with
  | nil => simp at h
  | cons a L ih =>
    rw [List.map_cons, List.sum_cons]
    rcases List.mem_cons.1 h with rfl | h
    · omega
    · have := ih h
      omega
theorem Fam.lt {n : Nat} {N : List Nd} {P : List Sp} {E : List En} {K : Nat → List Nat} {sz : Nat → Nat} (f : Fam n N P E K sz) (i k : Nat) (h : k ∈ K i) : sz k < sz i := Nat.lt_of_le_of_lt (sum_ge h) (f.dn i)

/-- A kid, called for while the row of kids is made: what the append will find. -/
theorem kid_call {S : Nat → Prop} {w1 wr : World} {x g n cn h cs k ce : Nat} {N : List Nd} {P : List Sp} {E : List En} (o : Op3 S wr x g n cn h cs k ce N P E) {b p m : Nat} {cur : Array Value} {M : List Nd} {v : Value} (hk : KR w1 wr b p cur M v) (hm : M.length = m) (hm2 : m ≤ 1000000000) {i : Nat} {d : Nd} (hd : N[i]? = some d) (hf : d.al.length ≤ 1000000000) :
    Calls Try.prog 42 #[ptr x, iv (i : Int)] wr.drew (fun e w2 => ∃ ao ac, e = .returned (.agg #[(iv d.id), (iv d.kind), (iv d.space), (.string d.name), (.string d.text), (.slice ao d.al.length ac), (iv d.sf), (iv d.st), (iv d.ef), (iv d.et), (.slice none 0 0)]) ∧ w2.cell? ⟨b, p, none⟩ = some v ∧ b < w2.heap.size ∧ AppF w1 b p cur M m d v (w2.alloc (.cells #[Value.int IntKind.i64 0, Value.int IntKind.i64 0, Value.int IntKind.i64 0, Value.string { data := #[] }, Value.string { data := #[] }, Value.slice none 0 0, Value.int IntKind.i64 0, Value.int IntKind.i64 0, Value.int IntKind.i64 0, Value.int IntKind.i64 0, Value.slice none 0 0] 35)) w2.heap.size ao ac) ∧
    Calls Try.prog 42 #[ptr x, iv (i : Int)] ((wr.alloc (.cells #[Value.int IntKind.i64 0, Value.int IntKind.i64 0, Value.int IntKind.i64 0, Value.string { data := #[] }, Value.string { data := #[] }, Value.slice none 0 0, Value.int IntKind.i64 0, Value.int IntKind.i64 0, Value.int IntKind.i64 0, Value.int IntKind.i64 0, Value.slice none 0 0] 35)).drew) (fun e w2 => ∃ ao ac, e = .returned (.agg #[(iv d.id), (iv d.kind), (iv d.space), (.string d.name), (.string d.text), (.slice ao d.al.length ac), (iv d.sf), (iv d.st), (iv d.ef), (iv d.et), (.slice none 0 0)]) ∧ w2.cell? ⟨b, p, none⟩ = some v ∧ b < w2.heap.size ∧ AppF w1 b p cur M m d v w2 wr.heap.size ao ac) := by
  have hlow : ∀ j, j < w1.heap.size → j < wr.heap.size := fun j hj => Nat.lt_of_lt_of_le hj hk.sm.size
  refine ⟨?_, ?_⟩
  · have d0 : Below wr.heap.size wr wr.drew := (Below.refl _ _).drew
    refine (single_any (o.old d0) hd hf).mono ?_
    rintro e w2 ⟨ao, ac, rfl, b2, hr⟩
    have b3 : Below wr.heap.size wr w2 := d0.trans b2
    have hr2 := hr (fun j => j < w1.heap.size) hlow
    refine ⟨ao, ac, rfl, (hk.old b3).cell, Nat.lt_of_lt_of_le hk.hb (hk.old b3).sm.size, ?_⟩
    exact hk.app hm hm2 (b3.alloc b3.size _) _ (alloc_zer w2) d (hr2.old ((Below.refl _ _).alloc (Nat.le_refl _) _))
  · have d0 : Below wr.heap.size wr (wr.alloc (.cells #[Value.int IntKind.i64 0, Value.int IntKind.i64 0, Value.int IntKind.i64 0, Value.string { data := #[] }, Value.string { data := #[] }, Value.slice none 0 0, Value.int IntKind.i64 0, Value.int IntKind.i64 0, Value.int IntKind.i64 0, Value.int IntKind.i64 0, Value.slice none 0 0] 35)).drew := ((Below.refl _ _).alloc (Nat.le_refl _) _).drew
    refine (single_any (o.old d0) hd hf).mono ?_
    rintro e w2 ⟨ao, ac, rfl, b2, hr⟩
    have b3 : Below wr.heap.size wr w2 := d0.trans (b2.mono d0.size)
    have hr2 := hr (fun j => j < w1.heap.size) (fun j hj => Nat.lt_of_lt_of_le (hlow j hj) d0.size)
    refine ⟨ao, ac, rfl, (hk.old b3).cell, Nat.lt_of_lt_of_le hk.hb (hk.old b3).sm.size, ?_⟩
    refine hk.app hm hm2 b3 _ (fun j u hj => ?_) d hr2
    have a := alloc_zer wr j u hj
    have e : w2.heap[wr.heap.size]? = (wr.alloc (.cells #[Value.int IntKind.i64 0, Value.int IntKind.i64 0, Value.int IntKind.i64 0, Value.string { data := #[] }, Value.string { data := #[] }, Value.slice none 0 0, Value.int IntKind.i64 0, Value.int IntKind.i64 0, Value.int IntKind.i64 0, Value.int IntKind.i64 0, Value.slice none 0 0] 35)).heap[wr.heap.size]? := b2.block wr.heap.size (by show wr.heap.size < (wr.alloc _).heap.size; simp)
    rw [← a]
    exact cell_same e j
end Go.Proofs.Ytcdaghlbfclpkaa
