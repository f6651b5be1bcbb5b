/- A row of attributes in new memory: copied. -/
import Derived.Test.YtcdaghlbfclpkaaAb
namespace Go.Proofs.Ytcdaghlbfclpkaa
open Go.RowKit

/-- Attributes that lie somewhere. -/
def AtRow (w : World) (lo : Option Addr) (l : List At) : Prop :=
  ∀ i x, l[i]? = some x → ∃ b off, lo = some ⟨b, off, none⟩ ∧ b < w.heap.size ∧ w.cell? ⟨b, off + i * 2, none⟩ = some (.string x.n) ∧ w.cell? ⟨b, off + i * 2 + 1, none⟩ = some (.string x.v)
theorem AtRow.old {w w' : World} {lo : Option Addr} {l : List At} (h : AtRow w lo l) (b : Below w.heap.size w w') : AtRow w' lo l := fun i x hx => by
  obtain ⟨k, off, h1, h2, h3, h4⟩ := h i x hx
  exact ⟨k, off, h1, Nat.lt_of_lt_of_le h2 b.size, (b.cell (p := ⟨k, off + i * 2, none⟩) h2).trans h3, (b.cell (p := ⟨k, off + i * 2 + 1, none⟩) h2).trans h4⟩
/-- A slice of attributes. -/
structure Ats (w : World) (v : Value) (A : List At) : Prop where
  ex : ∃ ao cap, v = .slice ao A.length cap ∧ AtRow w ao A
  few : A.length ≤ 1000000000000
theorem Ats.old {w w' : World} {v : Value} {l : List At} (h : Ats w v l) (b : Below w.heap.size w w') : Ats w' v l := by
  obtain ⟨ao, cap, rfl, hr⟩ := h.ex
  exact ⟨⟨ao, cap, rfl, hr.old b⟩, h.few⟩
theorem Rw.atr {S : Nat → Prop} {w : World} {v : Value} {A : List At} (h : Rw S w 53 2 v A.length (A.flatMap At.cells)) (hf : A.length ≤ 1000000000000) : Ats w v A := by
  cases h0 : A.length with
  | zero =>
    obtain rfl := List.eq_nil_of_length_eq_zero h0
    obtain ⟨ao, cap, rfl, _⟩ := h.slice
    exact ⟨⟨ao, cap, rfl, fun i x hx => by simp at hx⟩, hf⟩
  | succ n =>
    obtain ⟨g, cap, cur, rfl, _, hg, _⟩ := h.form (by omega)
    refine ⟨⟨_, cap, rfl, fun i x hx => ⟨g, 0, rfl, hg, ?_, ?_⟩⟩, hf⟩
    · rw [Nat.zero_add]; exact h.cell ((fl_at At.cells 2 (fun _ => rfl) A i 0 x hx (by decide)).trans rfl)
    · rw [Nat.zero_add]; exact h.cell ((fl_at At.cells 2 (fun _ => rfl) A i 1 x hx (by decide)).trans rfl)
theorem flat_at : ∀ (M : List At) (j : Nat) (u : Value), (M.flatMap At.cells)[j]? = some u → ∃ i x, M[i]? = some x ∧ ((j = i * 2 ∧ u = .string x.n) ∨ (j = i * 2 + 1 ∧ u = .string x.v))
  | [], j, u, h => by simp at h
  | x :: M, 0, u, h => ⟨0, x, rfl, .inl ⟨rfl, by simpa [At.cells] using h.symm⟩⟩
  | x :: M, 1, u, h => ⟨0, x, rfl, .inr ⟨rfl, by simpa [At.cells] using h.symm⟩⟩
  | x :: M, j + 2, u, h => by
    have h' : (M.flatMap At.cells)[j]? = some u := by simpa [At.cells] using h
    obtain ⟨i, y, h1, h2⟩ := flat_at M j u h'
    refine ⟨i + 1, y, by simpa using h1, ?_⟩
    rcases h2 with ⟨h2, h3⟩ | ⟨h2, h3⟩
    · exact .inl ⟨by omega, h3⟩
    · exact .inr ⟨by omega, h3⟩

/-- A row of one's own with these attributes, in new memory. -/
abbrev Cpd (A : List At) (w : World) (e : Ending) (w' : World) : Prop := ∃ v, e = .returned v ∧ Below w.heap.size w w' ∧ ∀ S : Nat → Prop, (∀ k, S k → k < w.heap.size) → Rw S w' 53 2 v A.length (A.flatMap At.cells)
theorem copied_any {w : World} {v : Value} {A : List At} (ha : Ats w v A) : Calls Try.prog 43 #[v] w (Cpd A w) := by
  obtain ⟨ao, cap, rfl, hr⟩ := ha.ex
  have hf := ha.few
  cases h0 : A.length with
  | zero =>
    obtain rfl := List.eq_nil_of_length_eq_zero h0
    have HZ : Hid (Cpd [] w (.returned (.slice none 0 0)) w) := ⟨_, rfl, Below.refl _ _, fun S _ => Rw.nil S w 53 2⟩
    clear hr ha h0
    go_enter Try.func43, Try.ntmps43
    go_wp2_with fail
    go_ret
    exact HZ.out
  | succ m =>
    obtain ⟨n, hn⟩ : ∃ n, A.length = n := ⟨_, rfl⟩
    have hnm : n = m + 1 := hn.symm.trans h0
    rw [← hnm]
    obtain ⟨x, hx⟩ : ∃ x, A[0]? = some x := ⟨_, List.getElem?_eq_getElem (by omega)⟩
    obtain ⟨b, off, rfl, hb, _⟩ := hr 0 x hx
    have hz : ¬ (n : Int) = 0 := by omega
    obtain ⟨i0, hi0, hz0, hzs0, hzb⟩ := info_parts info53
    obtain ⟨w1, hrun, r1, r2⟩ := run_make_full (P := Try.prog) w 0 30 53 i0 _ 2 Try.underlying30 hi0 hz0 hzs0 .i64 .i64 n (by rw [hzb]; omega) (by unfold maxLen; omega) (Nat.zero_le _)
    have b1 := grown_below r2
    rcases r1.2 with ⟨h', _⟩ | ⟨g', cap', cur, h', _, hg, h1, h2, h3, h4⟩
    · simp at h'
    simp only [Value.slice.injEq, Option.some.injEq, Addr.mk.injEq, and_true, true_and] at h'
    obtain ⟨rfl, rfl⟩ := h'
    have hlen : (A.flatMap At.cells).length = n * 2 := by rw [fl_len At.cells 2 (fun _ => rfl), hn]
    have hcp := run_copy_s (P := Try.prog) w1 30 30 3 53 w.heap.size 0 n n ⟨b, off, none⟩ n cap 2 cur 53 (A.flatMap At.cells) Try.underlying30 (by rw [hi0]; simp [hzs0]) hg (by rw [hlen]; simp)
      (fun j u hj => by
        rw [Addr.add_lit]
        obtain ⟨i, y, k1, k2⟩ := flat_at A j u hj
        obtain ⟨b', off', e, hb', c1, c2⟩ := (hr.old b1) i y k1
        simp only [Option.some.injEq, Addr.mk.injEq, and_true] at e
        obtain ⟨rfl, rfl⟩ := e
        rcases k2 with ⟨rfl, rfl⟩ | ⟨rfl, rfl⟩
        · exact c1
        · rw [← Nat.add_assoc]; exact c2) (by rw [hlen, h3]; omega) (at_one A)
    simp only [List.take_zero, List.nil_append, Nat.zero_add, hlen] at hcp
    have hdr : cur.toList.drop (n * 2) = [] := by rw [List.drop_eq_nil_iff]; simp [h3]
    rw [hdr, List.append_nil] at hcp
    have hmin : goInt (n.min n) = .int .i64 (n : Int) := by simp [goInt]
    rw [hmin] at hcp
    have hnew : (w1.setRow w.heap.size (A.flatMap At.cells).toArray).heap[w.heap.size]? = some (.cells (A.flatMap At.cells).toArray 53 (0, 0)) := setRow_heap w1 w.heap.size cur _ 53 _ hg
    have bz : Below w.heap.size w (w1.setRow w.heap.size (A.flatMap At.cells).toArray) := ⟨b1.os, b1.tape, b1.output, by simpa using b1.size, fun d hd => (setRow_other w1 w.heap.size d _ (by omega)).trans (b1.block d hd)⟩
    have HZ : Hid (Cpd A w (.returned (.slice (some ⟨w.heap.size, 0, none⟩) n n)) (w1.setRow w.heap.size (A.flatMap At.cells).toArray)) :=
      ⟨_, rfl, bz, fun S hS => ⟨⟨by rw [hn]; exact hlen, .inr ⟨w.heap.size, n, _, by rw [hn], Nat.zero_le _, hnew, by omega, by unfold maxLen; omega, by simp [hlen], by rw [hn, ← hlen]; exact List.take_length⟩⟩, fun g hg' hs => by
        simp [Value.ownBlock] at hg'
        have := hS g hs
        omega⟩⟩
    clear hr ha h0 hn hnm hx r1 r2 b1 hb h1 h2 h3 h4 hlen hdr hnew bz hg hz0 hzs0 hzb hi0 hmin hf
    go_enter Try.func43, Try.ntmps43
    go_wp2_with (first | (at_builtin; refine list_copy_eq rfl _ _ 30 30 rfl _ _ rfl rfl hcp ?_) | fail)
    go_ret
    exact HZ.out
end Go.Proofs.Ytcdaghlbfclpkaa
