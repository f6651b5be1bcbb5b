/- How a stream, and what a call on it tells, lie in memory; how a row grows by one. -/
import Derived.Test.YtkphiopeclgffaaMem
import Derived.Maps.AppendAt
import Derived.Deep.DeepCutAuto
namespace Go.Proofs.Ytkphiopeclgffaa
open Go.RowKit

/-- A stream: its decoder, the line end that waits. -/
def StrIs (x d : Nat) (wt : Ch) (w : World) : Prop :=
  w.heap[x]? = some (.cells #[.pointer (some ⟨d, 0, none⟩), .int .i64 wt.r, .int .i64 wt.a, .int .i64 wt.z] 50 (0, 0))
def gcells (f : Int × Int) : List Value := [.int .i64 f.1, .int .i64 f.2]

/-- What a call has told so far; none of it lies in S. -/
structure Lies (S : Nat → Prop) (t : Nat) (cs : List Ch) (fs : List (Int × Int)) (w : World) : Prop where
  low : ∀ k, S k → k < w.heap.size
  ht : ¬ S t
  blk : ∃ cv fv, w.heap[t]? = some (.cells #[cv, fv] 41 (0, 0)) ∧ w.ownsRow 0 37 3 cv cs.length (cs.flatMap Ch.cells) ∧ w.ownsRow 0 39 2 fv fs.length (fs.flatMap gcells) ∧
    (∀ g, cv.ownBlock = some g → ¬ S g) ∧ (∀ g, fv.ownBlock = some g → ¬ S g)

/-- What lies in S is as it was. -/
structure Keep (S : Nat → Prop) (w w' : World) : Prop where
  os : w'.os = w.os
  tape : w'.tape = w.tape
  output : w'.output = w.output
  size : w.heap.size ≤ w'.heap.size
  block : ∀ k, S k → k < w.heap.size → w'.heap[k]? = w.heap[k]?
/-- Blocks of other types than characters, faults, what is told, are as they were. -/
def Off (w w' : World) : Prop := ∀ (k : Nat) (cur : Array Value) (e : TypeId) (m : Nat × Nat), e ≠ 37 → e ≠ 39 → e ≠ 41 → w.heap[k]? = some (.cells cur e m) → w'.heap[k]? = some (.cells cur e m)

theorem Keep.refl (S : Nat → Prop) (w : World) : Keep S w w := ⟨rfl, rfl, rfl, Nat.le_refl _, fun _ _ _ => rfl⟩
theorem Keep.trans {S : Nat → Prop} {a b c : World} (h : Keep S a b) (k : Keep S b c) : Keep S a c :=
  ⟨k.os.trans h.os, k.tape.trans h.tape, k.output.trans h.output, Nat.le_trans h.size k.size, fun i h1 h2 => (k.block i h1 (Nat.lt_of_lt_of_le h2 h.size)).trans (h.block i h1 h2)⟩
theorem Keep.ofOld {S : Nat → Prop} {w w' : World} (h : Below w.heap.size w w') : Keep S w w' := ⟨h.os, h.tape, h.output, h.size, fun k _ hk => h.block k hk⟩
theorem Keep.drew {S : Nat → Prop} {w w' : World} (h : Keep S w w') : Keep S w w'.drew := ⟨h.os, h.tape, h.output, h.size, h.block⟩
theorem Keep.sub {S U : Nat → Prop} {w w' : World} (h : Keep S w w') (k : ∀ i, U i → S i) : Keep U w w' := ⟨h.os, h.tape, h.output, h.size, fun i h1 h2 => h.block i (k i h1) h2⟩
theorem Keep.setCell {S : Nat → Prop} {w w' : World} (h : Keep S w w') {p : Addr} (hp : ¬ S p.block) (u : Value) : Keep S w (w'.setCell p u) :=
  h.trans ⟨rfl, rfl, rfl, by simp [World.setCell], fun k hS _ => Below.heap_setCell _ _ _ _ (fun e => hp (e ▸ hS))⟩
theorem Keep.cell {S : Nat → Prop} {w w' : World} (h : Keep S w w') {p : Addr} (hS : S p.block) (hp : p.block < w.heap.size) : w'.cell? p = w.cell? p := by
  simp only [World.cell?, h.block _ hS hp]
theorem Off.refl (w : World) : Off w w := fun _ _ _ _ _ _ _ h => h
theorem Off.trans {a b c : World} (h : Off a b) (k : Off b c) : Off a c := fun i cur e m h1 h2 h3 hh => k i cur e m h1 h2 h3 (h i cur e m h1 h2 h3 hh)
theorem Off.ofOld {w w' : World} (h : Below w.heap.size w w') : Off w w' := fun k _ _ _ _ _ _ hk => (h.block k (Array.getElem?_eq_some_iff.1 hk).1).trans hk

theorem str_cells {x d : Nat} {wt : Ch} {w : World} (h : StrIs x d wt w) : x < w.heap.size ∧ w.cell? ⟨x, 0, none⟩ = some (.pointer (some ⟨d, 0, none⟩)) ∧ w.cell? ⟨x, 1, none⟩ = some (.int .i64 wt.r) ∧ w.cell? ⟨x, 2, none⟩ = some (.int .i64 wt.a) ∧ w.cell? ⟨x, 3, none⟩ = some (.int .i64 wt.z) ∧ ∀ i, w.frozen? ⟨x, i, none⟩ = false := by
  unfold StrIs at h
  refine ⟨(Array.getElem?_eq_some_iff.1 h).1, ?_, ?_, ?_, ?_, fun i => ?_⟩
  all_goals first | simp [World.cell?, h] | simp [World.frozen?, h]
theorem str_below {x d : Nat} {wt : Ch} {w w' : World} (h : StrIs x d wt w) (b : Below w.heap.size w w') : StrIs x d wt w' := (b.block x (str_cells h).1).trans h
theorem str_off {x d : Nat} {wt : Ch} {w w' : World} (h : StrIs x d wt w) (b : Off w w') : StrIs x d wt w' := b _ _ 50 _ (by decide) (by decide) (by decide) h

theorem lies_cells {S : Nat → Prop} {t : Nat} {cs : List Ch} {fs : List (Int × Int)} {w : World} (h : Lies S t cs fs w) : ∃ ao c ao2 c2, t < w.heap.size ∧ w.cell? ⟨t, 0, none⟩ = some (.slice ao cs.length c) ∧ w.cell? ⟨t, 1, none⟩ = some (.slice ao2 fs.length c2) ∧ w.heap[t]? = some (.cells #[.slice ao cs.length c, .slice ao2 fs.length c2] 41 (0, 0)) ∧
    w.ownsRow 0 37 3 (.slice ao cs.length c) cs.length (cs.flatMap Ch.cells) ∧ w.ownsRow 0 39 2 (.slice ao2 fs.length c2) fs.length (fs.flatMap gcells) ∧ (∀ g, (Value.slice ao cs.length c).ownBlock = some g → ¬ S g) ∧ (∀ g, (Value.slice ao2 fs.length c2).ownBlock = some g → ¬ S g) := by
  obtain ⟨cv, fv, hb, h1, h2, h3, h4⟩ := h.blk
  obtain ⟨ao, c, rfl, _, _⟩ := own_form h1
  obtain ⟨ao2, c2, rfl, _, _⟩ := own_form h2
  exact ⟨ao, c, ao2, c2, (Array.getElem?_eq_some_iff.1 hb).1, by simp [World.cell?, hb], by simp [World.cell?, hb], hb, h1, h2, h3, h4⟩
/-- Told, and the blocks of its rows, stand where they are kept by their types. -/
theorem lies_same {S U : Nat → Prop} {t : Nat} {cs : List Ch} {fs : List (Int × Int)} {w w' : World} (h : Lies S t cs fs w) (hU : ∀ k, U k → k < w'.heap.size)
    (ho : ∀ k, ¬ S k → k < w.heap.size → ¬ U k) (k : ∀ (g : Nat) (cur : Array Value) (e : TypeId) (m : Nat × Nat), (e = 37 ∨ e = 39 ∨ e = 41) → ¬ S g → w.heap[g]? = some (.cells cur e m) → w'.heap[g]? = some (.cells cur e m)) : Lies U t cs fs w' := by
  obtain ⟨cv, fv, hb, h1, h2, h3, h4⟩ := h.blk
  have stay : ∀ (e s n : Nat) (v : Value) (xs : List Value), (e = 37 ∨ e = 39 ∨ e = 41) → w.ownsRow 0 e s v n xs → (∀ g, v.ownBlock = some g → ¬ S g) → w'.ownsRow 0 e s v n xs ∧ (∀ g, v.ownBlock = some g → ¬ U g) := by
    intro e s n v xs he hv hs
    rcases hv.2 with hn | ⟨g, cap, cur, hv', hb', hg, rest⟩
    · refine ⟨⟨hv.1, .inl hn⟩, fun g hg => ?_⟩
      rw [hn.1] at hg; simp [Value.ownBlock] at hg
    · have hSg : ¬ S g := hs g (by rw [hv']; simp [Value.ownBlock])
      refine ⟨⟨hv.1, .inr ⟨g, cap, cur, hv', hb', k g cur e (0, 0) he hSg hg, rest⟩⟩, fun g' hg' => ?_⟩
      rw [hv'] at hg'; simp [Value.ownBlock] at hg'; subst hg'
      exact ho g hSg (Array.getElem?_eq_some_iff.1 hg).1
  obtain ⟨a1, a2⟩ := stay 37 3 _ cv _ (.inl rfl) h1 h3
  obtain ⟨b1, b2⟩ := stay 39 2 _ fv _ (.inr (.inl rfl)) h2 h4
  exact ⟨hU, ho t h.ht (Array.getElem?_eq_some_iff.1 hb).1, cv, fv, k t _ 41 (0, 0) (.inr (.inr rfl)) h.ht hb, a1, b1, a2, b2⟩
theorem lies_below {S : Nat → Prop} {t : Nat} {cs : List Ch} {fs : List (Int × Int)} {w w' : World} (h : Lies S t cs fs w) (b : Below w.heap.size w w') : Lies S t cs fs w' :=
  lies_same h (fun k hk => Nat.lt_of_lt_of_le (h.low k hk) b.size) (fun _ h _ => h) fun g _ _ _ _ _ hg => (b.block g (Array.getElem?_eq_some_iff.1 hg).1).trans hg

/-- One more element, put into a block of its own first, appended to a row: where the row lies then. -/
theorem row_put {t e size bytes n : Nat} {z : Value} {W : World} {ao : Option Addr} {c : Nat} {xs news : List Value} (ht : Try.prog.underlying t = some (.slice e)) (hinfo : (Try.prog.info? e).map (fun i => (i.zero, i.size, i.bytes)) = some (some z, size, bytes))
    (hzs : z.cells.size = size) (hsz : 0 < size) (hb : bytes ≤ 32) (hown : W.ownsRow 0 e size (.slice ao n c) n xs) (hn : n ≤ 1000000) (hl : news.length = size) (h1 : ∀ u ∈ news, u.oneCell' = true) :
    ∃ ao' c' W', (Builtin.append_ #[t, t] t #[.slice ao n c, .slice (some ⟨W.heap.size, 0, none⟩) 1 1]).run Try.prog (W.alloc (.cells news.toArray e)).drew = .ok (.slice ao' (n + 1) c') W' ∧
      W'.ownsRow 0 e size (.slice ao' (n + 1) c') (n + 1) (xs ++ news) ∧ (∀ g, (Value.slice ao' (n + 1) c').ownBlock = some g → (Value.slice ao n c).ownBlock = some g ∨ W.heap.size ≤ g) ∧
      W'.os = W.os ∧ W'.tape = W.tape ∧ W'.output = W.output ∧ W.heap.size ≤ W'.heap.size ∧ (∀ k, k < W.heap.size → (Value.slice ao n c).ownBlock ≠ some k → W'.heap[k]? = W.heap[k]?) ∧
      (∀ k, (Value.slice ao n c).ownBlock = some k → ∃ cu, W.heap[k]? = some (.cells cu e (0, 0))) := by
  obtain ⟨i0, hi0, hz0, hzs0, hzb⟩ := info_parts hinfo
  obtain ⟨W1, hW1⟩ : ∃ W1, W1 = W.alloc (.cells news.toArray e) := ⟨_, rfl⟩
  have hbe : Below W.heap.size W W1 := by rw [hW1]; exact (Below.refl _ _).alloc (Nat.le_refl _) _
  have hnew : W1.heap[W.heap.size]? = some (.cells news.toArray e (0, 0)) := by rw [hW1]; exact heap_alloc_new _ _
  have ho1 : W1.ownsRow 0 e size (.slice ao n c) n xs := own_below hown hbe
  have hz : W1.heap.size = W.heap.size + 1 := by rw [hW1]; simp
  obtain ⟨v', W', hrun, ho, hg, _, hat⟩ := run_append_own_at (P := Try.prog) W1.drew 0 t t e i0 _ size bytes ht hi0 hz0 hzs0 hzb hzs hsz (.slice ao n c) n xs ho1 ⟨W.heap.size, 0, none⟩ 1 1 news (by omega)
    (fun j u hj => by
      rw [Addr.add_lit, Nat.zero_add]
      simp only [World.cell?_drew]
      simp [World.cell?, hnew]; exact hj)
    h1 (by unfold maxLen; omega) (by have := Nat.mul_le_mul (show n + 1 ≤ 1000001 by omega) hb; omega) (Nat.zero_le _)
  obtain ⟨ao', c', rfl, _, _⟩ := own_form ho
  have hg1 : W1.grownBy W' (Value.slice ao n c).ownBlock := grown_of_drew hg
  refine ⟨ao', c', W', by rw [← hW1]; exact hrun, ho, fun g hg => ?_, hg1.os.trans hbe.os, hg1.tape.trans hbe.tape, hg1.output.trans hbe.output, Nat.le_trans hbe.size hg1.size, fun k hk hne => ?_, fun k hk => ?_⟩
  · rcases hat with hat | hat
    · exact .inl (hat ▸ hg)
    · right
      rw [hat] at hg
      simp only [Option.some.injEq] at hg
      have : W1.drew.heap.size = W1.heap.size := rfl
      omega
  · rw [hg1.block k (by omega) (fun e => hne e.symm), hbe.block k hk]
  · rcases hown.2 with ⟨hv, _⟩ | ⟨g, cap, cur, hv, hB', hgb, _⟩
    · rw [hv] at hk; simp [Value.ownBlock] at hk
    · rw [hv] at hk; simp [Value.ownBlock] at hk; subst hk
      exact ⟨cur, hgb⟩

theorem put_char {S : Nat → Prop} {t n c c2 m : Nat} {r p q : Int} {cs : List Ch} {fs : List (Int × Int)} {W : World} {ao ao2 : Option Addr} (hl : Lies S t cs fs W) (hn : n ≤ 1000000) (hcn : cs.length = n) (hfm : fs.length = m)
    (hb : W.heap[t]? = some (.cells #[.slice ao n c, .slice ao2 m c2] 41 (0, 0))) :
    ∃ ao' c' W', (Builtin.append_ #[23, 23] 23 #[.slice ao n c, .slice (some ⟨W.heap.size, 0, none⟩) 1 1]).run Try.prog (W.alloc (.cells #[.int .i64 r, .int .i64 p, .int .i64 q] 37)).drew = .ok (.slice ao' (n + 1) c') W' ∧
      W'.cell? ⟨t, 0, none⟩ = some (.slice ao n c) ∧ W'.frozen? ⟨t, 0, none⟩ = false ∧ Lies S t (cs ++ [⟨r, p, q⟩]) fs (W'.setCell ⟨t, 0, none⟩ (.slice ao' (n + 1) c')) ∧ Keep S W (W'.setCell ⟨t, 0, none⟩ (.slice ao' (n + 1) c')) ∧ Off W (W'.setCell ⟨t, 0, none⟩ (.slice ao' (n + 1) c')) := by
  obtain ⟨ao0, c0, ao20, c20, htw, _, _, hb0, h1, h2, h3, h4⟩ := lies_cells hl
  rw [hcn, hfm] at hb0
  rw [hb] at hb0
  simp at hb0
  obtain ⟨⟨rfl, rfl⟩, rfl, rfl⟩ := hb0
  rw [hcn] at h1 h3
  rw [hfm] at h2 h4
  obtain ⟨ao', c', W', hr, ho, hat, hos, htp, hout, hsz, hk, hty⟩ := row_put (t := 23) (news := Ch.cells ⟨r, p, q⟩) Try.underlying23 info37 rfl (by decide) (by decide) h1 hn rfl (by simp [Ch.cells, Value.oneCell'])
  have off1 : ∀ (k : Nat) (cur : Array Value) (e : TypeId) (m : Nat × Nat), e ≠ 37 → W.heap[k]? = some (.cells cur e m) → W'.heap[k]? = some (.cells cur e m) := fun k cur e m he hh => by
    rw [hk k (Array.getElem?_eq_some_iff.1 hh).1 (fun x => by obtain ⟨cu, hc⟩ := hty k x; rw [hh] at hc; simp at hc; exact he hc.2.1)]; exact hh
  have hb2 := off1 t _ 41 (0, 0) (by decide) hb
  have hb3 : (W'.setCell ⟨t, 0, none⟩ (.slice ao' (n + 1) c')).heap[t]? = some (.cells #[.slice ao' (n + 1) c', .slice ao2 m c2] 41 (0, 0)) := by simp [World.setCell, Array.getElem?_modify, hb2]
  have hset : ∀ (k : Nat) (cur : Array Value) (e : TypeId) (m : Nat × Nat), e ≠ 41 → W'.heap[k]? = some (Obj.cells cur e m) → (W'.setCell ⟨t, 0, none⟩ (.slice ao' (n + 1) c')).heap[k]? = some (Obj.cells cur e m) := fun k cur e m he h => by
    rw [Below.heap_setCell _ _ _ _ (fun x => by simp only at x; rw [x, hb2] at h; simp at h; exact he h.2.1.symm)]; exact h
  refine ⟨ao', c', W', hr, by simp [World.cell?, hb2], by simp [World.frozen?, hb2], ⟨fun k hS => ?_, hl.ht, _, _, hb3, ?_, ?_, fun g hg => ?_, h4⟩, ?_, fun k cur e m' e1 e2 e3 hh => hset k cur e m' e3 (off1 k cur e m' e1 hh)⟩
  · have := hl.low k hS
    show k < (W'.setCell _ _).heap.size
    simp [World.setCell]; omega
  · have e1 : (cs ++ [Ch.mk r p q]).length = n + 1 := by simp [hcn]
    have e2 : (cs ++ [Ch.mk r p q]).flatMap Ch.cells = cs.flatMap Ch.cells ++ Ch.cells ⟨r, p, q⟩ := by simp
    rw [e1, e2]
    exact own_same ho fun g cur m _ hg => hset g cur 37 m (by decide) hg
  · rw [hfm]
    exact own_same h2 fun g cur m _ hg => hset g cur 39 m (by decide) (off1 g cur 39 m (by decide) hg)
  · rcases hat g hg with h | h
    · exact h3 g h
    · intro hS; have := hl.low g hS; omega
  · refine Keep.setCell (p := ⟨t, 0, none⟩) ⟨hos, htp, hout, hsz, fun k hS hlt => hk k hlt (fun x => h3 k x hS)⟩ hl.ht _

theorem put_fault {S : Nat → Prop} {t n c c2 m : Nat} {r p : Int} {cs : List Ch} {fs : List (Int × Int)} {W : World} {ao ao2 : Option Addr} (hl : Lies S t cs fs W) (hm : m ≤ 1000000) (hcn : cs.length = n) (hfm : fs.length = m)
    (hb : W.heap[t]? = some (.cells #[.slice ao n c, .slice ao2 m c2] 41 (0, 0))) :
    ∃ ao' c' W', (Builtin.append_ #[24, 24] 24 #[.slice ao2 m c2, .slice (some ⟨W.heap.size, 0, none⟩) 1 1]).run Try.prog (W.alloc (.cells #[.int .i64 r, .int .i64 p] 39)).drew = .ok (.slice ao' (m + 1) c') W' ∧
      W'.cell? ⟨t, 1, none⟩ = some (.slice ao2 m c2) ∧ W'.frozen? ⟨t, 1, none⟩ = false ∧ Lies S t cs (fs ++ [(r, p)]) (W'.setCell ⟨t, 1, none⟩ (.slice ao' (m + 1) c')) ∧ Keep S W (W'.setCell ⟨t, 1, none⟩ (.slice ao' (m + 1) c')) ∧ Off W (W'.setCell ⟨t, 1, none⟩ (.slice ao' (m + 1) c')) := by
  obtain ⟨ao0, c0, ao20, c20, htw, _, _, hb0, h1, h2, h3, h4⟩ := lies_cells hl
  rw [hcn, hfm] at hb0
  rw [hb] at hb0
  simp at hb0
  obtain ⟨⟨rfl, rfl⟩, rfl, rfl⟩ := hb0
  rw [hcn] at h1 h3
  rw [hfm] at h2 h4
  obtain ⟨ao', c', W', hr, ho, hat, hos, htp, hout, hsz, hk, hty⟩ := row_put (t := 24) (news := gcells (r, p)) Try.underlying24 info39 rfl (by decide) (by decide) h2 hm rfl (by simp [gcells, Value.oneCell'])
  have off1 : ∀ (k : Nat) (cur : Array Value) (e : TypeId) (m : Nat × Nat), e ≠ 39 → W.heap[k]? = some (.cells cur e m) → W'.heap[k]? = some (.cells cur e m) := fun k cur e m he hh => by
    rw [hk k (Array.getElem?_eq_some_iff.1 hh).1 (fun x => by obtain ⟨cu, hc⟩ := hty k x; rw [hh] at hc; simp at hc; exact he hc.2.1)]; exact hh
  have hb2 := off1 t _ 41 (0, 0) (by decide) hb
  have hb3 : (W'.setCell ⟨t, 1, none⟩ (.slice ao' (m + 1) c')).heap[t]? = some (.cells #[.slice ao n c, .slice ao' (m + 1) c'] 41 (0, 0)) := by simp [World.setCell, Array.getElem?_modify, hb2]
  have hset : ∀ (k : Nat) (cur : Array Value) (e : TypeId) (m' : Nat × Nat), e ≠ 41 → W'.heap[k]? = some (Obj.cells cur e m') → (W'.setCell ⟨t, 1, none⟩ (.slice ao' (m + 1) c')).heap[k]? = some (Obj.cells cur e m') := fun k cur e m' he h => by
    rw [Below.heap_setCell _ _ _ _ (fun x => by simp only at x; rw [x, hb2] at h; simp at h; exact he h.2.1.symm)]; exact h
  refine ⟨ao', c', W', hr, by simp [World.cell?, hb2], by simp [World.frozen?, hb2], ⟨fun k hS => ?_, hl.ht, _, _, hb3, ?_, ?_, h3, fun g hg => ?_⟩, ?_, fun k cur e m' e1 e2 e3 hh => hset k cur e m' e3 (off1 k cur e m' e2 hh)⟩
  · have := hl.low k hS
    show k < (W'.setCell _ _).heap.size
    simp [World.setCell]; omega
  · rw [hcn]
    exact own_same h1 fun g cur m _ hg => hset g cur 37 m (by decide) (off1 g cur 37 m (by decide) hg)
  · have e1 : (fs ++ [(r, p)]).length = m + 1 := by simp [hfm]
    have e2 : (fs ++ [(r, p)]).flatMap gcells = fs.flatMap gcells ++ gcells (r, p) := by simp
    rw [e1, e2]
    exact own_same ho fun g cur m _ hg => hset g cur 39 m (by decide) hg
  · rcases hat g hg with h | h
    · exact h4 g h
    · intro hS; have := hl.low g hS; omega
  · refine Keep.setCell (p := ⟨t, 1, none⟩) ⟨hos, htp, hout, hsz, fun k hS hlt => hk k hlt (fun x => h4 k x hS)⟩ hl.ht _

end Go.Proofs.Ytkphiopeclgffaa
