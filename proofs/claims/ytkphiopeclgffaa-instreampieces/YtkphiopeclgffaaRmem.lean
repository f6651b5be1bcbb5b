/- How the document's Chars has its rows in memory, and how they grow. -/
import Derived.Test.YtkphiopeclgffaaScop
import Derived.Test.YtkphiopeclgffaaRdec
namespace Go.Proofs.Ytkphiopeclgffaa
open Go.RowKit

theorem fl_at : ∀ (fs : List Int) (k : Nat) (c : Int), fs[k]? = some c → (fs.flatMap fcells)[k * 2]? = some (.int .i64 1) ∧ (fs.flatMap fcells)[k * 2 + 1]? = some (.int .i64 c)
  | [], _, _, h => by simp at h
  | x :: l, 0, c, h => by simp at h; subst h; simp [fcells]
  | x :: l, k + 1, c, h => by
    have := fl_at l k c (by simpa using h)
    rw [List.flatMap_cons]
    have e : ∀ j, (fcells x ++ l.flatMap fcells)[(k + 1) * 2 + j]? = (l.flatMap fcells)[k * 2 + j]? := fun j => by
      rw [List.getElem?_append_right (by simp [fcells]; omega)]; congr 1; simp [fcells]; omega
    exact ⟨(e 0).trans this.1, (e 1).trans this.2⟩

theorem own_keep {w w' : World} {B e s n : Nat} {v : Value} {xs : List Value} (h : w.ownsRow B e s v n xs) (k : ∀ g cur m, v.ownBlock = some g → w.heap[g]? = some (.cells cur e m) → w'.heap[g]? = some (.cells cur e m)) : w'.ownsRow B e s v n xs := by
  refine ⟨h.1, ?_⟩
  rcases h.2 with hn | ⟨g, cap, cur, hv, hb, hg, rest⟩
  · exact .inl hn
  · exact .inr ⟨g, cap, cur, hv, hb, k g cur (0, 0) (by rw [hv]; simp [Value.ownBlock]) hg, rest⟩
theorem own_lt {w : World} {B e s n g : Nat} {v : Value} {xs : List Value} (h : w.ownsRow B e s v n xs) (hg : v.ownBlock = some g) : g < w.heap.size := by
  rcases h.2 with ⟨hn, _⟩ | ⟨g', cap, cur, hv, _, hg', _⟩
  · rw [hn] at hg; simp [Value.ownBlock] at hg
  · rw [hv] at hg; simp [Value.ownBlock] at hg; subst hg; exact (Array.getElem?_eq_some_iff.1 hg').1

/-- What stands within a round of the document's Chars: the character at hand in block cb, what was told in rows of their own behind B. -/
structure Mid9 (B cb : Nat) (c : Ch) (O : List Ch) (Fs : List (Int × Int)) (ov fv : Value) (w V : World) : Prop where
  chr : ChIs cb c V
  ch : Chars B ov O V
  fl : FaultsC B fv Fs V
  ne : ∀ g, ov.ownBlock = some g → g ≠ cb
  below : Below B w V
  hcb : B ≤ cb

theorem Mid9.start {B : Nat} {c : Ch} {O : List Ch} {Fs : List (Int × Int)} {ov fv : Value} {w wr : World} (h1 : Chars B ov O wr) (h2 : FaultsC B fv Fs wr) (b : Below B w wr) (hB : B ≤ wr.heap.size) :
    Mid9 B wr.heap.size c O Fs ov fv w (wr.alloc (.cells #[.int .i64 c.r, .int .i64 c.a, .int .i64 c.z] 37)) := by
  have hb : Below wr.heap.size wr (wr.alloc (.cells #[.int .i64 c.r, .int .i64 c.a, .int .i64 c.z] 37)) := (Below.refl _ _).alloc (Nat.le_refl _) _
  exact ⟨heap_alloc_new _ _, own_below h1 hb, own_below h2 hb, fun g hg => Nat.ne_of_lt (own_lt h1 hg), b.trans (hb.mono hB), hB⟩
theorem Mid9.under {B cb : Nat} {c : Ch} {O : List Ch} {Fs : List (Int × Int)} {ov fv : Value} {w V V' : World} (h : Mid9 B cb c O Fs ov fv w V) (b : Below V.heap.size V V') : Mid9 B cb c O Fs ov fv w V' :=
  ⟨(b.block cb (ch_cell h.chr).1).trans h.chr, own_below h.ch b, own_below h.fl b, h.ne, h.below.trans (b.mono (by have := (ch_cell h.chr).1; have := h.hcb; omega)), h.hcb⟩

theorem Mid9.setR {B cb : Nat} {c : Ch} {O : List Ch} {Fs : List (Int × Int)} {ov fv : Value} {w V : World} (h : Mid9 B cb c O Fs ov fv w V) (r : Int) : Mid9 B cb ⟨r, c.a, c.z⟩ O Fs ov fv w (V.setCell ⟨cb, 0, none⟩ (.int .i64 r)) := by
  have hc := h.chr
  unfold ChIs at hc
  refine ⟨by unfold ChIs; simp [World.setCell, Array.getElem?_modify, hc], own_keep h.ch fun g cur m hg hh => ?_, own_keep h.fl fun g cur m _ hh => ?_, h.ne, h.below.setCell (p := ⟨cb, 0, none⟩) h.hcb _, h.hcb⟩
  · rw [Below.heap_setCell _ _ _ _ (h.ne g hg)]; exact hh
  · rw [Below.heap_setCell _ _ _ _ (fun e => by simp only at e; rw [e, hc] at hh; simp at hh)]; exact hh
theorem Mid9.setZ {B cb : Nat} {c : Ch} {O : List Ch} {Fs : List (Int × Int)} {ov fv : Value} {w V : World} (h : Mid9 B cb c O Fs ov fv w V) (z : Int) : Mid9 B cb ⟨c.r, c.a, z⟩ O Fs ov fv w (V.setCell ⟨cb, 2, none⟩ (.int .i64 z)) := by
  have hc := h.chr
  unfold ChIs at hc
  refine ⟨by unfold ChIs; simp [World.setCell, Array.getElem?_modify, hc], own_keep h.ch fun g cur m hg hh => ?_, own_keep h.fl fun g cur m _ hh => ?_, h.ne, h.below.setCell (p := ⟨cb, 2, none⟩) h.hcb _, h.hcb⟩
  · rw [Below.heap_setCell _ _ _ _ (h.ne g hg)]; exact hh
  · rw [Below.heap_setCell _ _ _ _ (fun e => by simp only at e; rw [e, hc] at hh; simp at hh)]; exact hh

/-- One fault more. -/
theorem Mid9.fault {B cb n k : Nat} {c : Ch} {O : List Ch} {Fs : List (Int × Int)} {ov : Value} {fa : Option Addr} {w V : World} (h : Mid9 B cb c O Fs ov (.slice fa n k) w V) (hn : Fs.length = n) (hn2 : n ≤ 1000000) (r p : Int) :
    ∃ fa' k' V', (Builtin.append_ #[24, 24] 24 #[.slice fa n k, .slice (some ⟨V.heap.size, 0, none⟩) 1 1]).run Try.prog (V.alloc (.cells #[.int .i64 r, .int .i64 p] 39)) = .ok (.slice fa' (n + 1) k') V' ∧
      Mid9 B cb c O (Fs ++ [(r, p)]) ov (.slice fa' (n + 1) k') w V' := by
  subst hn
  have hB : B ≤ V.heap.size := by have := (ch_cell h.chr).1; have := h.hcb; omega
  obtain ⟨ao', c', W', hr, ho, hbe, hk⟩ := row_more (t := 24) (news := gcells (r, p)) Try.underlying24 info39 rfl (by decide) (by decide) h.fl hB hn2 rfl (by simp [gcells, Value.oneCell'])
  refine ⟨ao', c', W', hr, hk cb _ 37 (0, 0) (by decide) h.chr, own_same h.ch fun g cur m _ hg => hk g cur 37 m (by decide) hg, ?_, h.ne, h.below.trans hbe, h.hcb⟩
  unfold FaultsC
  rw [List.length_append, List.flatMap_append]
  simpa using ho
/-- The character is told. -/
theorem Mid9.char {B cb n k : Nat} {c : Ch} {O : List Ch} {Fs : List (Int × Int)} {fv : Value} {ca : Option Addr} {w V : World} (h : Mid9 B cb c O Fs (.slice ca n k) fv w V) (hn : O.length = n) (hn2 : n ≤ 1000000) :
    ∃ ca' k' V', (Builtin.append_ #[23, 23] 23 #[.slice ca n k, .slice (some ⟨V.heap.size, 0, none⟩) 1 1]).run Try.prog (V.alloc (.cells #[.int .i64 c.r, .int .i64 c.a, .int .i64 c.z] 37)) = .ok (.slice ca' (n + 1) k') V' ∧
      Chars B (.slice ca' (n + 1) k') (O ++ [c]) V' ∧ FaultsC B fv Fs V' ∧ Below B w V' := by
  subst hn
  have hB : B ≤ V.heap.size := by have := (ch_cell h.chr).1; have := h.hcb; omega
  obtain ⟨ao', c', W', hr, ho, hbe, hk⟩ := row_more (t := 23) (news := Ch.cells c) Try.underlying23 info37 rfl (by decide) (by decide) h.ch hB hn2 rfl (by simp [Ch.cells, Value.oneCell'])
  refine ⟨ao', c', W', hr, ?_, own_same h.fl fun g cur m _ hg => hk g cur 39 m (by decide) hg, h.below.trans hbe⟩
  unfold Chars
  rw [List.length_append, List.flatMap_append]
  simpa using ho
end Go.Proofs.Ytkphiopeclgffaa
