/- The law ArenaFamilies: its deeds. -/
import Derived.Test.YtcdaghlbfclpkaaDj
import Derived.Test.YtcdaghlbfclpkaaEb
namespace Go.Proofs.Ytcdaghlbfclpkaa
open Go.RowKit

/-- Both arenas of a document alone; what was there stands. -/
def Fresh (w : World) (x y : Nat) (w' : World) : Prop :=
  Below w.heap.size w w' ∧ ∃ N P E L, Rel N P E L ∧ L.length = 1 ∧ Two (fun k => k < w.heap.size) w' x y N P E L
theorem fresh_prog {w w1 w2 : World} {x y : Nat} {av : Value} (b1 : Below w.heap.size w w1) (h1 : Ar (fun k => k < w.heap.size) w1 x [doc0 av] [⟨false, 0, 0, 0⟩] [⟨0, 0⟩]) (b2 : Below w1.heap.size w1 w2) (h2 : Ra (fun k => k < w1.heap.size) w2 y [rdoc]) : Fresh w x y w2 := by
  refine ⟨b1.trans (b2.mono b1.size), _, _, _, _, rel_new av, rfl, fun k => w.heap.size ≤ k ∧ k < w1.heap.size, fun k hk => ⟨Nat.lt_of_lt_of_le hk.2 b2.size, fun q => by omega⟩, fun k hk => Nat.lt_of_lt_of_le hk (Nat.le_trans b1.size b2.size), (h1.wide b2).sub fun k hk => ?_, h2.mv (fun k hk => ?_) (fun k hl hn hU => hn ?_) (fun _ _ _ => rfl)⟩
  · have := hk.1
    have := hk.2
    by_cases q : k < w.heap.size
    · exact .inl q
    · exact .inr ⟨Nat.le_of_not_lt fun z => hk.2 ⟨Nat.le_of_not_lt q, z⟩, hk.1⟩
  · have := b1.size
    have := b2.size
    rcases hk with q | q
    · omega
    · have : k < w.heap.size := q
      omega
  · have := b1.size
    rcases hU with q | q
    · exact q.2
    · have : k < w.heap.size := q
      show k < w1.heap.size
      omega
theorem fresh_ref {w w1 w2 : World} {x y : Nat} {av : Value} (b1 : Below w.heap.size w w1) (h1 : Ra (fun k => k < w.heap.size) w1 y [rdoc]) (b2 : Below w1.heap.size w1 w2) (h2 : Ar (fun k => k < w1.heap.size) w2 x [doc0 av] [⟨false, 0, 0, 0⟩] [⟨0, 0⟩]) : Fresh w x y w2 := by
  refine ⟨b1.trans (b2.mono b1.size), _, _, _, _, rel_new av, rfl, fun k => w1.heap.size ≤ k ∧ k < w2.heap.size, fun k hk => ⟨hk.2, fun q => by have := b1.size; omega⟩, fun k hk => Nat.lt_of_lt_of_le hk (Nat.le_trans b1.size b2.size), h2.sub fun k hk => ?_, h1.mv (fun k hk => ?_) (fun k hl hn hU => hn ?_) (fun k hl _ => b2.block k hl)⟩
  · have := hk.1
    exact Nat.lt_of_not_le fun z => hk.2 ⟨z, hk.1⟩
  · have := b1.size
    have := b2.size
    rcases hk with q | q
    · exact q.2
    · have : k < w.heap.size := q
      omega
  · have := b1.size
    rcases hU with q | q
    · omega
    · exact q
end Go.Proofs.Ytcdaghlbfclpkaa
namespace Go.Proofs.Ytcdaghlbfclpkaa
open Go.RowKit

theorem AtRow.keep {w w' : World} {lo : Option Addr} {l : List At} (h : AtRow w lo l) (b : Keep (fun k => k < w.heap.size) w w') : AtRow w' lo l := fun i x hx => by
  obtain ⟨k, off, h1, h2, h3, h4⟩ := h i x hx
  exact ⟨k, off, h1, Nat.lt_of_lt_of_le h2 b.size, by rw [← h3]; exact cell_same (b.block k h2 h2) _, by rw [← h4]; exact cell_same (b.block k h2 h2) _⟩
theorem DdIn.keep {w w' : World} {x : Dd} (h : DdIn w x) (b : Keep (fun k => k < w.heap.size) w w') : DdIn w' x :=
  ⟨h.at_.keep b, h.cap, h.max, h.bk, h.ba, h.bb, h.bc, h.kd⟩
theorem Dds.keep {w w' : World} {lo : Option Addr} {len cap : Nat} {l : List Dd} (h : Dds w lo len cap l) (b : Keep (fun k => k < w.heap.size) w w') : Dds w' lo len cap l :=
  ⟨h.hlen, fun i x hx => by
    obtain ⟨k, off, h1, h2, h3, h4⟩ := h.row i x hx
    exact ⟨k, off, h1, Nat.lt_of_lt_of_le h2 b.size, fun j u hu => by rw [← h3 j u hu]; exact cell_same (b.block k h2 h2) _, h4.keep b⟩, h.hcap, h.hmax⟩
/-- Behind some deeds. -/
def Deeds (w : World) (x y i : Nat) (w' : World) : Prop :=
  Keep (fun k => k < w.heap.size) w w' ∧ ∃ N P E L, Rel N P E L ∧ L.length ≤ i + 1 ∧ Two (fun k => k < w.heap.size) w' x y N P E L
theorem Fresh.deeds {w w' : World} {x y : Nat} (h : Fresh w x y w') : Deeds w x y 0 w' := by
  obtain ⟨b, N, P, E, L, h1, h2, h3⟩ := h
  exact ⟨Keep.old b, N, P, E, L, h1, by omega, h3⟩
theorem Deeds.drew {w w' : World} {x y i : Nat} (h : Deeds w x y i w') (q : Nat) : Deeds w x y i (w'.drewN q) := by
  obtain ⟨b, N, P, E, L, h1, h2, h3⟩ := h
  have d := below_drewN (Below.refl w'.heap.size w') q
  exact ⟨b.trans (Keep.old d), N, P, E, L, h1, h2, h3.old d⟩
/-- One deed more. -/
theorem Deeds.next {w w' : World} {x y i : Nat} (h : Deeds w x y i w') (hi : i ≤ 700000000) {T : Dd} (hT : DdIn w T) (hf : T.d.al.length ≤ 1000000000) :
    Calls Try.prog 12 #[ptr x, ptr y, .agg T.arr] w' (fun e w'' => e = .returned (iv 1) ∧ Deeds w x y (i + 1) w'') := by
  obtain ⟨b, N, P, E, L, h1, h2, h3⟩ := h
  refine (do_any h3 h1 rfl (by omega) T (fun w'' k => hT.at_.keep (b.trans k)) hf).mono ?_
  rintro e w'' ⟨rfl, k, N', P', E', L', r1, r2, r3⟩
  exact ⟨rfl, b.trans k, N', P', E', L', r1, by omega, r3⟩
end Go.Proofs.Ytcdaghlbfclpkaa
