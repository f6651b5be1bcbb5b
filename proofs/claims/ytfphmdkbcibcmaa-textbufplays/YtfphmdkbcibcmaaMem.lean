/- How a buffer lies in memory: its struct, its row of pieces, its row of edits, its pieces' bytes; and what a step that writes only blocks of given element types keeps. -/
import Derived.Test.YtfphmdkbcibcmaaPure
import Derived.WalkSpells
import Derived.WalkLawsBesides
import Derived.Deep.Upon
namespace Go.Proofs.Ytfphmdkbcibcmaa
open Go.RowKit

/-- What is not of the element types T, and what is below B, is as it was. -/
structure Kept (T : List Nat) (B : Nat) (w w' : World) : Prop where
  os : w'.os = w.os
  tape : w'.tape = w.tape
  output : w'.output = w.output
  size : w.heap.size ≤ w'.heap.size
  block : ∀ k, k < w.heap.size → (k < B ∨ ∀ c t m, w.heap[k]? = some (.cells c t m) → t ∉ T) → w'.heap[k]? = w.heap[k]?

theorem Kept.refl (T : List Nat) (B : Nat) (w : World) : Kept T B w w := ⟨rfl, rfl, rfl, Nat.le_refl _, fun _ _ _ => rfl⟩

theorem Kept.trans {T : List Nat} {B : Nat} {a b c : World} (h : Kept T B a b) (k : Kept T B b c) : Kept T B a c :=
  ⟨k.os.trans h.os, k.tape.trans h.tape, k.output.trans h.output, Nat.le_trans h.size k.size, fun i hi hc => by
    have e := h.block i hi hc
    rw [k.block i (Nat.lt_of_lt_of_le hi h.size) (by rw [e]; exact hc), e]⟩

theorem Kept.mono {T T' : List Nat} {B : Nat} {a b : World} (h : Kept T B a b) (hT : ∀ t, t ∈ T → t ∈ T') : Kept T' B a b :=
  ⟨h.os, h.tape, h.output, h.size, fun i hi hc => h.block i hi (hc.imp id fun hc c t m e ht => hc c t m e (hT t ht))⟩

/-- Nothing that was there has turned. -/
theorem Kept.ofBelow {T : List Nat} {B : Nat} {w w' : World} (h : Below w.heap.size w w') : Kept T B w w' := ⟨h.os, h.tape, h.output, h.size, fun k hk _ => h.block k hk⟩

theorem Kept.below {T : List Nat} {B : Nat} {w w' : World} (h : Kept T B w w') (hB : B ≤ w.heap.size) : Below B w w' := ⟨h.os, h.tape, h.output, h.size, fun k hk => h.block k (Nat.lt_of_lt_of_le hk hB) (.inl hk)⟩

/-- One block alone may have turned. -/
theorem Kept.ofGrown {T : List Nat} {B : Nat} {w w' : World} {row : Option Nat} (h : w.grownBy w' row) (hr : ∀ k, row = some k → B ≤ k ∧ ∃ c t m, w.heap[k]? = some (.cells c t m) ∧ t ∈ T) : Kept T B w w' :=
  ⟨h.os, h.tape, h.output, h.size, fun k hk hc => h.block k hk (fun e => by
    obtain ⟨h1, c, t, m, h2, h3⟩ := hr k e.symm
    rcases hc with hc | hc
    · omega
    · exact hc c t m h2 h3)⟩

theorem Kept.drew {T : List Nat} {B : Nat} {w w' : World} (h : Kept T B w w') : Kept T B w w'.drew := h.trans ⟨rfl, rfl, rfl, Nat.le_refl _, fun _ _ _ => rfl⟩
theorem Kept.alloc {T : List Nat} {B : Nat} {w w' : World} (h : Kept T B w w') (o : Obj) : Kept T B w (w'.alloc o) := h.trans ⟨rfl, rfl, rfl, by simp, fun k hk _ => Below.heap_alloc _ _ _ hk⟩
theorem Kept.setCell {T : List Nat} {B : Nat} {w w' : World} (h : Kept T B w w') {p : Addr} {c : Array Value} {t : Nat} {m : Nat × Nat} (hb : w'.heap[p.block]? = some (.cells c t m)) (ht : t ∈ T) (hB : B ≤ p.block) (u : Value) : Kept T B w (w'.setCell p u) :=
  h.trans ⟨rfl, rfl, rfl, by simp [World.setCell], fun k hk hc => Below.heap_setCell _ _ _ _ (fun e => by
    subst e
    rcases hc with hc | hc
    · omega
    · exact hc c t m hb ht)⟩

/-- A block of another type is as it was. -/
theorem Kept.at {T : List Nat} {B : Nat} {w w' : World} (h : Kept T B w w') {k : Nat} {c : Array Value} {t : Nat} {m : Nat × Nat} (hb : w.heap[k]? = some (.cells c t m)) (ht : t ∉ T) : w'.heap[k]? = some (.cells c t m) := by
  rw [h.block k (Array.getElem?_eq_some_iff.1 hb).1 (.inr fun c' t' m' e => by rw [hb] at e; simp only [Option.some.injEq, Obj.cells.injEq] at e; rw [← e.2.1]; exact ht), hb]

/-- A piece in memory: a window of a block of bytes of our own, none of its cells frozen. -/
structure PcOk (B : Nat) (w : World) (p : Pc) : Prop where
  ne : 0 < p.bs.length
  le : p.bs.length ≤ p.cap
  max : p.cap ≤ maxLen
  base : B ≤ p.g
  blk : ∃ cur m, w.heap[p.g]? = some (.cells cur 5 m) ∧ p.off + p.cap ≤ cur.size ∧ (∀ j, j < p.cap → ¬ (m.1 ≤ p.off + j ∧ p.off + j < m.2)) ∧ ∀ j u, p.bs[j]? = some u → cur[p.off + j]? = some (.int .u8 u.toNat)

theorem PcOk.cell {B : Nat} {w : World} {p : Pc} (h : PcOk B w p) : ∀ j u, p.bs[j]? = some u → w.cell? ⟨p.g, p.off + j, none⟩ = some (.int .u8 u.toNat) := by
  intro j u hu
  obtain ⟨cur, m, hb, _, _, hc⟩ := h.blk
  simp [World.cell?, hb, hc j u hu]

theorem PcOk.there {B : Nat} {w : World} {p : Pc} (h : PcOk B w p) : ∀ j, j < p.cap → (w.cell? ⟨p.g, p.off + j, none⟩).isSome = true := by
  intro j hj
  obtain ⟨cur, m, hb, hs, _, _⟩ := h.blk
  simp [World.cell?, hb]; omega

theorem PcOk.soft {B : Nat} {w : World} {p : Pc} (h : PcOk B w p) : ∀ j, j < p.cap → w.frozen? ⟨p.g, p.off + j, none⟩ = false := by
  intro j hj
  obtain ⟨cur, m, hb, _, hf, _⟩ := h.blk
  have := hf j hj
  obtain ⟨lo, hi⟩ := m
  simp [World.frozen?, hb]
  simp at this
  exact this

theorem PcOk.lt {B : Nat} {w : World} {p : Pc} (h : PcOk B w p) : p.g < w.heap.size := by
  obtain ⟨cur, m, hb, _⟩ := h.blk
  exact (Array.getElem?_eq_some_iff.1 hb).1

theorem PcOk.same {B : Nat} {w w' : World} {p : Pc} (h : PcOk B w p) (e : w'.heap[p.g]? = w.heap[p.g]?) : PcOk B w' p :=
  ⟨h.ne, h.le, h.max, h.base, by obtain ⟨cur, m, hb, r⟩ := h.blk; exact ⟨cur, m, e.trans hb, r⟩⟩

theorem PcOk.kept {T : List Nat} {B C : Nat} {w w' : World} {p : Pc} (h : PcOk B w p) (k : Kept T C w w') (hT : 5 ∉ T) : PcOk B w' p :=
  h.same (by obtain ⟨cur, m, hb, _⟩ := h.blk; rw [k.at hb hT, hb])

theorem PcOk.head {B : Nat} {w : World} {p : Pc} (h : PcOk B w p) (k : Nat) (h0 : 0 < k) (hk : k < p.bs.length) : PcOk B w (p.head k) := by
  have := h.le; have := h.max
  refine ⟨by simp [Pc.head]; omega, by simp [Pc.head]; omega, by simp [Pc.head]; omega, h.base, ?_⟩
  obtain ⟨cur, m, hb, hs, hf, hc⟩ := h.blk
  refine ⟨cur, m, hb, by simp [Pc.head]; omega, fun j hj => hf j (by simp [Pc.head] at hj; omega), fun j u hu => ?_⟩
  simp only [Pc.head, List.getElem?_take] at hu
  split at hu
  · exact hc j u hu
  · cases hu

theorem PcOk.tail {B : Nat} {w : World} {p : Pc} (h : PcOk B w p) (k : Nat) (hk : k < p.bs.length) : PcOk B w (p.tail k) := by
  have := h.le; have := h.max
  refine ⟨by simp [Pc.tail]; omega, by simp [Pc.tail], by simp [Pc.tail]; omega, h.base, ?_⟩
  obtain ⟨cur, m, hb, hs, hf, hc⟩ := h.blk
  refine ⟨cur, m, hb, by simp [Pc.tail]; omega, fun j hj => ?_, fun j u hu => ?_⟩
  · have := hf (k + j) (by simp [Pc.tail] at hj; omega)
    simp only [Pc.tail, Nat.add_assoc]; exact this
  · simp only [Pc.tail, List.getElem?_drop] at hu
    simp only [Pc.tail, Nat.add_assoc]; exact hc (k + j) u hu

/-- An edit's three cells. -/
structure Ed where
  a : Int
  d : Int
  s : ByteArray
def Ed.cells (e : Ed) : List Value := [.int .i64 e.a, .int .i64 e.d, .string e.s]

/-- A buffer at block b: its bound, its length, its pieces, the edits that take back. -/
structure BufIs (B b : Nat) (most len : Int) (ps : List Pc) (es : List Ed) (w : World) : Prop where
  hb : B ≤ b
  blk : ∃ pv bv, w.heap[b]? = some (.cells #[.int .i64 most, .int .i64 len, pv, bv] 54 (0, 0)) ∧ w.ownsRow B 59 1 pv ps.length (ps.map Pc.val) ∧ w.ownsRow B 31 3 bv es.length (es.flatMap Ed.cells)
  pcs : ∀ p ∈ ps, PcOk B w p
  apart : ps.Pairwise Pc.apart

theorem BufIs.full {B b : Nat} {most len : Int} {ps : List Pc} {es : List Ed} {w : World} (h : BufIs B b most len ps es w) : Full ps := fun p hp => (h.pcs p hp).ne

theorem own_kept {T : List Nat} {B C e size n : Nat} {w w' : World} {v : Value} {xs : List Value} (h : w.ownsRow B e size v n xs) (k : Kept T C w w') (hT : e ∉ T) : w'.ownsRow B e size v n xs := by
  refine ⟨h.1, ?_⟩
  rcases h.2 with hn | ⟨g, cap, cur, hv, hb, hg, rest⟩
  · exact .inl hn
  · exact .inr ⟨g, cap, cur, hv, hb, k.at hg hT, rest⟩

/-- A buffer stands where no block of its four types is written. -/
theorem BufIs.kept {T : List Nat} {B C b : Nat} {most len : Int} {ps : List Pc} {es : List Ed} {w w' : World} (h : BufIs B b most len ps es w) (k : Kept T C w w') (h5 : 5 ∉ T) (h31 : 31 ∉ T) (h54 : 54 ∉ T) (h59 : 59 ∉ T) : BufIs B b most len ps es w' := by
  obtain ⟨pv, bv, hblk, hp, he⟩ := h.blk
  exact ⟨h.hb, ⟨pv, bv, k.at hblk h54, own_kept hp k h59, own_kept he k h31⟩, fun p hq => (h.pcs p hq).kept k h5, h.apart⟩

/-- .. and where nothing old is written at all. -/
theorem BufIs.below {B b : Nat} {most len : Int} {ps : List Pc} {es : List Ed} {w w' : World} (h : BufIs B b most len ps es w) (k : Below w.heap.size w w') : BufIs B b most len ps es w' :=
  h.kept (T := []) (C := 0) (Kept.ofBelow k) (by simp) (by simp) (by simp) (by simp)

/-- Stores into a block keep its make. -/
theorem setCells_blk (g : Nat) (e : TypeId) (m : Nat × Nat) : ∀ (vs : List Value) (o : Nat) (w : World) (cur : Array Value), w.heap[g]? = some (.cells cur e m) → ∃ cur', (w.setCells g o vs).heap[g]? = some (.cells cur' e m) ∧ cur'.size = cur.size
  | [], _, w, cur, h => ⟨cur, h, rfl⟩
  | v :: r, o, w, cur, h => by
    have h2 : (w.setCell ⟨g, o, none⟩ v).heap[g]? = some (.cells (cur.setIfInBounds o v) e m) := by
      simp [World.setCell, Array.getElem?_modify, h]
    obtain ⟨cur', a, b⟩ := setCells_blk g e m r (o + 1) _ _ h2
    exact ⟨cur', a, by rw [b]; simp⟩

theorem setCells_size (g : Nat) : ∀ (vs : List Value) (o : Nat) (w : World), (w.setCells g o vs).heap.size = w.heap.size
  | [], _, _ => rfl
  | v :: r, o, w => by rw [World.setCells, setCells_size g r]; simp [World.setCell]
theorem setCells_tape (g : Nat) : ∀ (vs : List Value) (o : Nat) (w : World), (w.setCells g o vs).tape = w.tape
  | [], _, _ => rfl
  | v :: r, o, w => by rw [World.setCells, setCells_tape g r]; rfl

theorem grown_setCells (w : World) (g o : Nat) (vs : List Value) : w.grownBy (w.setCells g o vs) (some g) :=
  ⟨World.os_setCells _ _ _ _, setCells_tape _ _ _ _, World.output_setCells _ _ _ _, by rw [setCells_size]; exact Nat.le_refl _, fun k hk hne => World.heap_setCells_other w g o vs hk (fun e => hne (by rw [e]))⟩

theorem grown_trans {a b c : World} {r : Option Nat} (h : a.grownBy b r) (k : b.grownBy c r) : a.grownBy c r :=
  ⟨k.os.trans h.os, k.tape.trans h.tape, k.output.trans h.output, Nat.le_trans h.size k.size, fun i hi hn => (k.block i (Nat.lt_of_lt_of_le hi h.size) hn).trans (h.block i hi hn)⟩
theorem grown_drew (w : World) (r : Option Nat) : w.grownBy w.drew r := ⟨rfl, rfl, rfl, Nat.le_refl _, fun _ _ _ => rfl⟩
theorem grown_refl (w : World) (r : Option Nat) : w.grownBy w r := ⟨rfl, rfl, rfl, Nat.le_refl _, fun _ _ _ => rfl⟩
/-- Writes to blocks that are new turn no old one. -/
theorem grown_new {a b c : World} {r : Option Nat} {g : Nat} (h : a.grownBy b r) (k : b.grownBy c (some g)) (hg : a.heap.size ≤ g) : a.grownBy c r :=
  ⟨k.os.trans h.os, k.tape.trans h.tape, k.output.trans h.output, Nat.le_trans h.size k.size, fun i hi hn => (k.block i (Nat.lt_of_lt_of_le hi h.size) (fun e => by simp at e; omega)).trans (h.block i hi hn)⟩

/-- A row is owned if its cells say so. -/
theorem own_of_cells {w : World} {B e g cap n : Nat} {cur : Array Value} {xs : List Value} (hB : B ≤ g) (hb : w.heap[g]? = some (.cells cur e (0, 0))) (hs : cur.size = cap) (hm : cap ≤ maxLen) (hn : n ≤ cap) (hl : xs.length = n)
    (hc : ∀ j, j < n → w.cell? ⟨g, j, none⟩ = xs[j]?) : w.ownsRow B e 1 (.slice (some ⟨g, 0, none⟩) n cap) n xs := by
  refine ⟨by omega, .inr ⟨g, cap, cur, rfl, hB, hb, hn, hm, by omega, ?_⟩⟩
  apply List.ext_getElem?
  intro j
  rw [List.getElem?_take]
  by_cases hj : j < n
  · have := hc j hj
    rw [if_pos (by omega), ← this]
    simp [World.cell?, hb]
  · rw [if_neg (by omega), List.getElem?_eq_none (by omega)]

/-- An owned row, opened. -/
theorem own_open {w : World} {B e n : Nat} {v : Value} {xs : List Value} (h : w.ownsRow B e 1 v n xs) :
    xs.length = n ∧ ((v = .slice none 0 0 ∧ n = 0) ∨ ∃ g cap cur, v = .slice (some ⟨g, 0, none⟩) n cap ∧ B ≤ g ∧ w.heap[g]? = some (.cells cur e (0, 0)) ∧ n ≤ cap ∧ cap ≤ maxLen ∧ cur.size = cap ∧
      (∀ j u, xs[j]? = some u → w.cell? ⟨g, j, none⟩ = some u) ∧ (∀ j, j < cap → (w.cell? ⟨g, j, none⟩).isSome = true) ∧ (∀ j, w.frozen? ⟨g, j, none⟩ = false) ∧ g < w.heap.size ∧ w.shape? g = some (e, cap)) := by
  have h1 : xs.length = n := by have := h.1; omega
  refine ⟨h1, ?_⟩
  rcases h.2 with hn | ⟨g, cap, cur, hv, hb, hg, hn, hm, hs, ht⟩
  · exact .inl hn
  · refine .inr ⟨g, cap, cur, hv, hb, hg, hn, hm, by omega, ?_, ?_, ?_, (Array.getElem?_eq_some_iff.1 hg).1, ?_⟩
    · intro j u hu
      rw [← ht, List.getElem?_take] at hu
      split at hu
      · simp [World.cell?, hg]; simpa using hu
      · cases hu
    · intro j hj; simp [World.cell?, hg]; omega
    · intro j; simp [World.frozen?, hg]
    · simp [World.shape?, hg]; omega

end Go.Proofs.Ytfphmdkbcibcmaa
