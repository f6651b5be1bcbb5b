/- How a stream, and what a call on it tells, lie in memory; how a row grows by one. -/
import Derived.Test.YtdiealijjhfhjaaGreatDoorYe
import Derived.Test.YtdiealijjhfhjaaGreatDoorYg
namespace Go.Proofs.YtdiealijjhfhjaaGreatDoor.G4
open Go.RowKit
def StrIs (x d : Nat) (wt : Ch) (w : World) : Prop :=
  w.heap[x]? = some (.cells #[.pointer (some ⟨d, 0, none⟩), .int .i64 wt.r, .int .i64 wt.a, .int .i64 wt.z] 94 (0, 0))
structure Lies (S : Nat → Prop) (t : Nat) (cs : List Ch) (fs : List (Int × Int)) (w : World) : Prop where
  low : ∀ k, S k → k < w.heap.size
  ht : ¬ S t
  blk : ∃ cv fv, w.heap[t]? = some (.cells #[cv, fv] 98 (0, 0)) ∧ w.ownsRow 0 44 3 cv cs.length (cs.flatMap Ch.cells) ∧ w.ownsRow 0 57 2 fv fs.length (fs.flatMap gcells) ∧
    (∀ g, cv.ownBlock = some g → ¬ S g) ∧ (∀ g, fv.ownBlock = some g → ¬ S g)
structure Keep (S : Nat → Prop) (w w' : World) : Prop where
  os : w'.os = w.os
  tape : w'.tape = w.tape
  output : w'.output = w.output
  size : w.heap.size ≤ w'.heap.size
  block : ∀ k, S k → k < w.heap.size → w'.heap[k]? = w.heap[k]?
def Off (w w' : World) : Prop := ∀ (k : Nat) (cur : Array Value) (e : TypeId) (m : Nat × Nat), e ≠ 44 → e ≠ 57 → e ≠ 98 → w.heap[k]? = some (.cells cur e m) → w'.heap[k]? = some (.cells cur e m)
theorem Keep.refl (S : Nat → Prop) (w : World) : Keep S w w := ⟨rfl, rfl, rfl, Nat.le_refl _, fun _ _ _ => rfl⟩
theorem Keep.trans {S : Nat → Prop} {a b c : World} (h : Keep S a b) (k : Keep S b c) : Keep S a c :=
  ⟨k.os.trans h.os, k.tape.trans h.tape, k.output.trans h.output, Nat.le_trans h.size k.size, fun i h1 h2 => (k.block i h1 (Nat.lt_of_lt_of_le h2 h.size)).trans (h.block i h1 h2)⟩
theorem Keep.ofOld {S : Nat → Prop} {w w' : World} (h : Below w.heap.size w w') : Keep S w w' := ⟨h.os, h.tape, h.output, h.size, fun k _ hk => h.block k hk⟩
theorem Keep.sub {S U : Nat → Prop} {w w' : World} (h : Keep S w w') (k : ∀ i, U i → S i) : Keep U w w' := ⟨h.os, h.tape, h.output, h.size, fun i h1 h2 => h.block i (k i h1) h2⟩
theorem Keep.setCell {S : Nat → Prop} {w w' : World} (h : Keep S w w') {p : Addr} (hp : ¬ S p.block) (u : Value) : Keep S w (w'.setCell p u) :=
  h.trans ⟨rfl, rfl, rfl, by simp [World.setCell], fun k hS _ => Below.heap_setCell _ _ _ _ (fun e => hp (e ▸ hS))⟩
theorem Keep.cell {S : Nat → Prop} {w w' : World} (h : Keep S w w') {p : Addr} (hS : S p.block) (hp : p.block < w.heap.size) : w'.cell? p = w.cell? p := by
  simp only [World.cell?, h.block _ hS hp]
theorem Off.trans {a b c : World} (h : Off a b) (k : Off b c) : Off a c := fun i cur e m h1 h2 h3 hh => k i cur e m h1 h2 h3 (h i cur e m h1 h2 h3 hh)
theorem Off.ofOld {w w' : World} (h : Below w.heap.size w w') : Off w w' := fun k _ _ _ _ _ _ hk => (h.block k (Array.getElem?_eq_some_iff.1 hk).1).trans hk
theorem str_cells {x d : Nat} {wt : Ch} {w : World} (h : StrIs x d wt w) : x < w.heap.size ∧ w.cell? ⟨x, 0, none⟩ = some (.pointer (some ⟨d, 0, none⟩)) ∧ w.cell? ⟨x, 1, none⟩ = some (.int .i64 wt.r) ∧ w.cell? ⟨x, 2, none⟩ = some (.int .i64 wt.a) ∧ w.cell? ⟨x, 3, none⟩ = some (.int .i64 wt.z) ∧ ∀ i, w.frozen? ⟨x, i, none⟩ = false := by
  unfold StrIs at h
  refine ⟨(Array.getElem?_eq_some_iff.1 h).1, ?_, ?_, ?_, ?_, fun i => ?_⟩
  all_goals first | simp [World.cell?, h] | simp [World.frozen?, h]
theorem str_below {x d : Nat} {wt : Ch} {w w' : World} (h : StrIs x d wt w) (b : Below w.heap.size w w') : StrIs x d wt w' := (b.block x (str_cells h).1).trans h
theorem str_off {x d : Nat} {wt : Ch} {w w' : World} (h : StrIs x d wt w) (b : Off w w') : StrIs x d wt w' := b _ _ 94 _ (by decide) (by decide) (by decide) h
theorem lies_cells {S : Nat → Prop} {t : Nat} {cs : List Ch} {fs : List (Int × Int)} {w : World} (h : Lies S t cs fs w) : ∃ ao c ao2 c2, t < w.heap.size ∧ w.cell? ⟨t, 0, none⟩ = some (.slice ao cs.length c) ∧ w.cell? ⟨t, 1, none⟩ = some (.slice ao2 fs.length c2) ∧ w.heap[t]? = some (.cells #[.slice ao cs.length c, .slice ao2 fs.length c2] 98 (0, 0)) ∧
    w.ownsRow 0 44 3 (.slice ao cs.length c) cs.length (cs.flatMap Ch.cells) ∧ w.ownsRow 0 57 2 (.slice ao2 fs.length c2) fs.length (fs.flatMap gcells) ∧ (∀ g, (Value.slice ao cs.length c).ownBlock = some g → ¬ S g) ∧ (∀ g, (Value.slice ao2 fs.length c2).ownBlock = some g → ¬ S g) := by
  obtain ⟨cv, fv, hb, h1, h2, h3, h4⟩ := h.blk
  obtain ⟨ao, c, rfl, _, _⟩ := own_form h1
  obtain ⟨ao2, c2, rfl, _, _⟩ := own_form h2
  exact ⟨ao, c, ao2, c2, (Array.getElem?_eq_some_iff.1 hb).1, by simp [World.cell?, hb], by simp [World.cell?, hb], hb, h1, h2, h3, h4⟩
theorem lies_same {S U : Nat → Prop} {t : Nat} {cs : List Ch} {fs : List (Int × Int)} {w w' : World} (h : Lies S t cs fs w) (hU : ∀ k, U k → k < w'.heap.size)
    (ho : ∀ k, ¬ S k → k < w.heap.size → ¬ U k) (k : ∀ (g : Nat) (cur : Array Value) (e : TypeId) (m : Nat × Nat), (e = 44 ∨ e = 57 ∨ e = 98) → ¬ S g → w.heap[g]? = some (.cells cur e m) → w'.heap[g]? = some (.cells cur e m)) : Lies U t cs fs w' := by
  obtain ⟨cv, fv, hb, h1, h2, h3, h4⟩ := h.blk
  have stay : ∀ (e s n : Nat) (v : Value) (xs : List Value), (e = 44 ∨ e = 57 ∨ e = 98) → w.ownsRow 0 e s v n xs → (∀ g, v.ownBlock = some g → ¬ S g) → w'.ownsRow 0 e s v n xs ∧ (∀ g, v.ownBlock = some g → ¬ U g) := by
    intro e s n v xs he hv hs
    rcases hv.2 with hn | ⟨g, cap, cur, hv', hb', hg, rest⟩
    · refine ⟨⟨hv.1, .inl hn⟩, fun g hg => ?_⟩
      rw [hn.1] at hg; simp [Value.ownBlock] at hg
    · have hSg : ¬ S g := hs g (by rw [hv']; simp [Value.ownBlock])
      refine ⟨⟨hv.1, .inr ⟨g, cap, cur, hv', hb', k g cur e (0, 0) he hSg hg, rest⟩⟩, fun g' hg' => ?_⟩
      rw [hv'] at hg'; simp [Value.ownBlock] at hg'; subst hg'
      exact ho g hSg (Array.getElem?_eq_some_iff.1 hg).1
  obtain ⟨a1, a2⟩ := stay 44 3 _ cv _ (.inl rfl) h1 h3
  obtain ⟨b1, b2⟩ := stay 57 2 _ fv _ (.inr (.inl rfl)) h2 h4
  exact ⟨hU, ho t h.ht (Array.getElem?_eq_some_iff.1 hb).1, cv, fv, k t _ 98 (0, 0) (.inr (.inr rfl)) h.ht hb, a1, b1, a2, b2⟩
theorem lies_below {S : Nat → Prop} {t : Nat} {cs : List Ch} {fs : List (Int × Int)} {w w' : World} (h : Lies S t cs fs w) (b : Below w.heap.size w w') : Lies S t cs fs w' :=
  lies_same h (fun k hk => Nat.lt_of_lt_of_le (h.low k hk) b.size) (fun _ h _ => h) fun g _ _ _ _ _ hg => (b.block g (Array.getElem?_eq_some_iff.1 hg).1).trans hg
theorem row_put {t e size bytes n : Nat} {z : Value} {W : World} {ao : Option Addr} {c : Nat} {xs news : List Value} (ht : Tryz.prog.underlying t = some (.slice e)) (hinfo : (Tryz.prog.info? e).map (fun i => (i.zero, i.size, i.bytes)) = some (some z, size, bytes))
    (hzs : z.cells.size = size) (hsz : 0 < size) (hb : bytes ≤ 32) (hown : W.ownsRow 0 e size (.slice ao n c) n xs) (hn : n ≤ 1000000) (hl : news.length = size) (h1 : ∀ u ∈ news, u.oneCell' = true) :
    ∃ ao' c' W', (Builtin.append_ #[t, t] t #[.slice ao n c, .slice (some ⟨W.heap.size, 0, none⟩) 1 1]).run Tryz.prog (W.alloc (.cells news.toArray e)).drew = .ok (.slice ao' (n + 1) c') W' ∧
      W'.ownsRow 0 e size (.slice ao' (n + 1) c') (n + 1) (xs ++ news) ∧ (∀ g, (Value.slice ao' (n + 1) c').ownBlock = some g → (Value.slice ao n c).ownBlock = some g ∨ W.heap.size ≤ g) ∧
      W'.os = W.os ∧ W'.tape = W.tape ∧ W'.output = W.output ∧ W.heap.size ≤ W'.heap.size ∧ (∀ k, k < W.heap.size → (Value.slice ao n c).ownBlock ≠ some k → W'.heap[k]? = W.heap[k]?) ∧
      (∀ k, (Value.slice ao n c).ownBlock = some k → ∃ cu, W.heap[k]? = some (.cells cu e (0, 0))) := by
  obtain ⟨i0, hi0, hz0, hzs0, hzb⟩ := info_parts hinfo
  obtain ⟨W1, hW1⟩ : ∃ W1, W1 = W.alloc (.cells news.toArray e) := ⟨_, rfl⟩
  have hbe : Below W.heap.size W W1 := by rw [hW1]; exact (Below.refl _ _).alloc (Nat.le_refl _) _
  have hnew : W1.heap[W.heap.size]? = some (.cells news.toArray e (0, 0)) := by rw [hW1]; exact heap_alloc_new _ _
  have ho1 : W1.ownsRow 0 e size (.slice ao n c) n xs := own_below hown hbe
  have hz : W1.heap.size = W.heap.size + 1 := by rw [hW1]; simp
  obtain ⟨v', W', hrun, ho, hg, _, hat⟩ := run_append_own_at (P := Tryz.prog) W1.drew 0 t t e i0 _ size bytes ht hi0 hz0 hzs0 hzb hzs hsz (.slice ao n c) n xs ho1 ⟨W.heap.size, 0, none⟩ 1 1 news (by omega)
    (fun j u hj => by
      rw [Addr.add_lit, Nat.zero_add]
      simp only [World.cell?_drew]
      simp [World.cell?, hnew]; exact hj)
    h1 (by unfold maxLen; omega) (by have := Nat.mul_le_mul (show n + 1 ≤ 1000001 by omega) hb; omega) (Nat.zero_le _)
  obtain ⟨ao', c', rfl, _, _⟩ := own_form ho
  have hg1 : W1.grownBy W' (Value.slice ao n c).ownBlock := grown_of_drew hg
  refine ⟨ao', c', W', by rw [← hW1]; exact hrun, ho, fun g hg => ?_, hg1.os.trans hbe.os, hg1.tape.trans hbe.tape, hg1.output.trans hbe.output, Nat.le_trans hbe.size hg1.size, fun k hk hne => ?_, fun k hk => ?_⟩
  · rcases hat with hat | hat
    · exact .inl (hat ▸ hg)
    · right
      rw [hat] at hg
      simp only [Option.some.injEq] at hg
      have : W1.drew.heap.size = W1.heap.size := rfl
      omega
  · rw [hg1.block k (by omega) (fun e => hne e.symm), hbe.block k hk]
  · rcases hown.2 with ⟨hv, _⟩ | ⟨g, cap, cur, hv, hB', hgb, _⟩
    · rw [hv] at hk; simp [Value.ownBlock] at hk
    · rw [hv] at hk; simp [Value.ownBlock] at hk; subst hk
      exact ⟨cur, hgb⟩
theorem put_char {S : Nat → Prop} {t n c c2 m : Nat} {r p q : Int} {cs : List Ch} {fs : List (Int × Int)} {W : World} {ao ao2 : Option Addr} (hl : Lies S t cs fs W) (hn : n ≤ 1000000) (hcn : cs.length = n) (hfm : fs.length = m)
    (hb : W.heap[t]? = some (.cells #[.slice ao n c, .slice ao2 m c2] 98 (0, 0))) :
    ∃ ao' c' W', (Builtin.append_ #[35, 35] 35 #[.slice ao n c, .slice (some ⟨W.heap.size, 0, none⟩) 1 1]).run Tryz.prog (W.alloc (.cells #[.int .i64 r, .int .i64 p, .int .i64 q] 44)).drew = .ok (.slice ao' (n + 1) c') W' ∧
      W'.cell? ⟨t, 0, none⟩ = some (.slice ao n c) ∧ W'.frozen? ⟨t, 0, none⟩ = false ∧ Lies S t (cs ++ [⟨r, p, q⟩]) fs (W'.setCell ⟨t, 0, none⟩ (.slice ao' (n + 1) c')) ∧ Keep S W (W'.setCell ⟨t, 0, none⟩ (.slice ao' (n + 1) c')) ∧ Off W (W'.setCell ⟨t, 0, none⟩ (.slice ao' (n + 1) c')) := by
  obtain ⟨ao0, c0, ao20, c20, htw, _, _, hb0, h1, h2, h3, h4⟩ := lies_cells hl
  rw [hcn, hfm] at hb0
  rw [hb] at hb0
  simp at hb0
  obtain ⟨⟨rfl, rfl⟩, rfl, rfl⟩ := hb0
  rw [hcn] at h1 h3
  rw [hfm] at h2 h4
  obtain ⟨ao', c', W', hr, ho, hat, hos, htp, hout, hsz, hk, hty⟩ := row_put (t := 35) (news := Ch.cells ⟨r, p, q⟩) Tryz.underlying35 info37 rfl (by decide) (by decide) h1 hn rfl (by simp [Ch.cells, Value.oneCell'])
  have off1 : ∀ (k : Nat) (cur : Array Value) (e : TypeId) (m : Nat × Nat), e ≠ 44 → W.heap[k]? = some (.cells cur e m) → W'.heap[k]? = some (.cells cur e m) := fun k cur e m he hh => by
    rw [hk k (Array.getElem?_eq_some_iff.1 hh).1 (fun x => by obtain ⟨cu, hc⟩ := hty k x; rw [hh] at hc; simp at hc; exact he hc.2.1)]; exact hh
  have hb2 := off1 t _ 98 (0, 0) (by decide) hb
  have hb3 : (W'.setCell ⟨t, 0, none⟩ (.slice ao' (n + 1) c')).heap[t]? = some (.cells #[.slice ao' (n + 1) c', .slice ao2 m c2] 98 (0, 0)) := by simp [World.setCell, Array.getElem?_modify, hb2]
  have hset : ∀ (k : Nat) (cur : Array Value) (e : TypeId) (m : Nat × Nat), e ≠ 98 → W'.heap[k]? = some (Obj.cells cur e m) → (W'.setCell ⟨t, 0, none⟩ (.slice ao' (n + 1) c')).heap[k]? = some (Obj.cells cur e m) := fun k cur e m he h => by
    rw [Below.heap_setCell _ _ _ _ (fun x => by simp only at x; rw [x, hb2] at h; simp at h; exact he h.2.1.symm)]; exact h
  refine ⟨ao', c', W', hr, by simp [World.cell?, hb2], by simp [World.frozen?, hb2], ⟨fun k hS => ?_, hl.ht, _, _, hb3, ?_, ?_, fun g hg => ?_, h4⟩, ?_, fun k cur e m' e1 e2 e3 hh => hset k cur e m' e3 (off1 k cur e m' e1 hh)⟩
  · have := hl.low k hS
    show k < (W'.setCell _ _).heap.size
    simp [World.setCell]; omega
  · have e1 : (cs ++ [Ch.mk r p q]).length = n + 1 := by simp [hcn]
    have e2 : (cs ++ [Ch.mk r p q]).flatMap Ch.cells = cs.flatMap Ch.cells ++ Ch.cells ⟨r, p, q⟩ := by simp
    rw [e1, e2]
    exact own_same ho fun g cur m _ hg => hset g cur 44 m (by decide) hg
  · rw [hfm]
    exact own_same h2 fun g cur m _ hg => hset g cur 57 m (by decide) (off1 g cur 57 m (by decide) hg)
  · rcases hat g hg with h | h
    · exact h3 g h
    · intro hS; have := hl.low g hS; omega
  · refine Keep.setCell (p := ⟨t, 0, none⟩) ⟨hos, htp, hout, hsz, fun k hS hlt => hk k hlt (fun x => h3 k x hS)⟩ hl.ht _
theorem put_fault {S : Nat → Prop} {t n c c2 m : Nat} {r p : Int} {cs : List Ch} {fs : List (Int × Int)} {W : World} {ao ao2 : Option Addr} (hl : Lies S t cs fs W) (hm : m ≤ 1000000) (hcn : cs.length = n) (hfm : fs.length = m)
    (hb : W.heap[t]? = some (.cells #[.slice ao n c, .slice ao2 m c2] 98 (0, 0))) :
    ∃ ao' c' W', (Builtin.append_ #[24, 24] 24 #[.slice ao2 m c2, .slice (some ⟨W.heap.size, 0, none⟩) 1 1]).run Tryz.prog (W.alloc (.cells #[.int .i64 r, .int .i64 p] 57)).drew = .ok (.slice ao' (m + 1) c') W' ∧
      W'.cell? ⟨t, 1, none⟩ = some (.slice ao2 m c2) ∧ W'.frozen? ⟨t, 1, none⟩ = false ∧ Lies S t cs (fs ++ [(r, p)]) (W'.setCell ⟨t, 1, none⟩ (.slice ao' (m + 1) c')) ∧ Keep S W (W'.setCell ⟨t, 1, none⟩ (.slice ao' (m + 1) c')) ∧ Off W (W'.setCell ⟨t, 1, none⟩ (.slice ao' (m + 1) c')) := by
  obtain ⟨ao0, c0, ao20, c20, htw, _, _, hb0, h1, h2, h3, h4⟩ := lies_cells hl
  rw [hcn, hfm] at hb0
  rw [hb] at hb0
  simp at hb0
  obtain ⟨⟨rfl, rfl⟩, rfl, rfl⟩ := hb0
  rw [hcn] at h1 h3
  rw [hfm] at h2 h4
  obtain ⟨ao', c', W', hr, ho, hat, hos, htp, hout, hsz, hk, hty⟩ := row_put (t := 24) (news := gcells (r, p)) Tryz.underlying24 info58 rfl (by decide) (by decide) h2 hm rfl (by simp [gcells, Value.oneCell'])
  have off1 : ∀ (k : Nat) (cur : Array Value) (e : TypeId) (m : Nat × Nat), e ≠ 57 → W.heap[k]? = some (.cells cur e m) → W'.heap[k]? = some (.cells cur e m) := fun k cur e m he hh => by
    rw [hk k (Array.getElem?_eq_some_iff.1 hh).1 (fun x => by obtain ⟨cu, hc⟩ := hty k x; rw [hh] at hc; simp at hc; exact he hc.2.1)]; exact hh
  have hb2 := off1 t _ 98 (0, 0) (by decide) hb
  have hb3 : (W'.setCell ⟨t, 1, none⟩ (.slice ao' (m + 1) c')).heap[t]? = some (.cells #[.slice ao n c, .slice ao' (m + 1) c'] 98 (0, 0)) := by simp [World.setCell, Array.getElem?_modify, hb2]
  have hset : ∀ (k : Nat) (cur : Array Value) (e : TypeId) (m' : Nat × Nat), e ≠ 98 → W'.heap[k]? = some (Obj.cells cur e m') → (W'.setCell ⟨t, 1, none⟩ (.slice ao' (m + 1) c')).heap[k]? = some (Obj.cells cur e m') := fun k cur e m' he h => by
    rw [Below.heap_setCell _ _ _ _ (fun x => by simp only at x; rw [x, hb2] at h; simp at h; exact he h.2.1.symm)]; exact h
  refine ⟨ao', c', W', hr, by simp [World.cell?, hb2], by simp [World.frozen?, hb2], ⟨fun k hS => ?_, hl.ht, _, _, hb3, ?_, ?_, h3, fun g hg => ?_⟩, ?_, fun k cur e m' e1 e2 e3 hh => hset k cur e m' e3 (off1 k cur e m' e2 hh)⟩
  · have := hl.low k hS
    show k < (W'.setCell _ _).heap.size
    simp [World.setCell]; omega
  · rw [hcn]
    exact own_same h1 fun g cur m _ hg => hset g cur 44 m (by decide) (off1 g cur 44 m (by decide) hg)
  · have e1 : (fs ++ [(r, p)]).length = m + 1 := by simp [hfm]
    have e2 : (fs ++ [(r, p)]).flatMap gcells = fs.flatMap gcells ++ gcells (r, p) := by simp
    rw [e1, e2]
    exact own_same ho fun g cur m _ hg => hset g cur 57 m (by decide) hg
  · rcases hat g hg with h | h
    · exact h4 g h
    · intro hS; have := hl.low g hS; omega
  · refine Keep.setCell (p := ⟨t, 1, none⟩) ⟨hos, htp, hout, hsz, fun k hS hlt => hk k hlt (fun x => h4 k x hS)⟩ hl.ht _
end Go.Proofs.YtdiealijjhfhjaaGreatDoor.G4
namespace Go.Proofs.YtdiealijjhfhjaaGreatDoor.G4
open Go.RowKit
theorem nat_and (a : Nat) : a &&& 65534 = 2 * ((a / 2) % 32768) := by
  have h1 : (a &&& 65534) / 2 = (a / 2) % 32768 := by
    rw [Nat.and_div_two]
    exact Nat.and_two_pow_sub_one_eq_mod (a / 2) 15
  have h2 : (a &&& 65534) % 2 = 0 := by
    have h := @Nat.and_mod_two_eq_one a 65534
    have h3 : ¬ (a &&& 65534) % 2 = 1 := fun e => by have := (h.1 e).2; omega
    omega
  omega
theorem i64_andE (x : Int) (h₀ : 0 ≤ x) (h₁ : x ≤ 1000000000) : bits .and .i64 x 65534 = 2 * ((x / 2) % 32768) := by
  obtain ⟨a, rfl⟩ := Int.eq_ofNat_of_zero_le h₀
  have := (bits_nat .i64 63 (by decide) wraps_i64 a 65534 (by omega) (by decide)).1
  rw [nat_and] at this
  rw [show (65534 : Int) = ((65534 : Nat) : Int) from rfl, this]
  omega
set_option maxRecDepth 20000 in
set_option maxHeartbeats 1000000 in
theorem bad_any (r : Int) (w : World) (h₀ : 0 ≤ r) (h₁ : r ≤ 1000000000) : Calls Tryz.prog 115 #[.int .i64 r] w fun e w' => e = .returned (.int .i64 (badN r)) ∧ w' = w := by
  have hm := i64_andE r h₀ h₁
  go_enter Tryz.func115, Tryz.ntmps115
  go_wp2
  all_goals
    go_ret
    refine ⟨ret_int ?_, rfl⟩
    (try simp only [beq_iff_eq, beq_eq_false_iff_ne, ne_eq] at *)
    unfold badN
    repeat' split
    all_goals omega
end Go.Proofs.YtdiealijjhfhjaaGreatDoor.G4
namespace Go.Proofs.YtdiealijjhfhjaaGreatDoor.G4
open Go.RowKit
def Ch.val (c : Ch) : Value := .agg #[.int .i64 c.r, .int .i64 c.a, .int .i64 c.z]
set_option maxRecDepth 20000 in
set_option maxHeartbeats 1000000 in
theorem waits_any {x d : Nat} {wt : Ch} {w : World} (h : StrIs x d wt w) : Calls Tryz.prog 117 #[.pointer (some ⟨x, 0, none⟩)] w fun e w' => e = .returned (.bool (decide (wt.a < wt.z))) ∧ Below w.heap.size w w' := by
  obtain ⟨hx, c0, c1, c2, c3, _⟩ := str_cells h
  clear h
  go_enter Tryz.func117, Tryz.ntmps117
  go_wp2_with fail
  go_quiet (fail)
  go_wp2_with fail
  go_ret
  exact ⟨rfl, below_drewN (Below.refl _ _) nq⟩
theorem waits_as {x d : Nat} {wt : Ch} {w : World} (b : Bool) (h : StrIs x d wt w) (hb : decide (wt.a < wt.z) = b) : Calls Tryz.prog 117 #[.pointer (some ⟨x, 0, none⟩)] w fun e w' => e = .returned (.bool b) ∧ Below w.heap.size w w' := by
  subst hb; exact waits_any h
structure MidC (S : Nat → Prop) (t : Nat) (cs : List Ch) (fs : List (Int × Int)) (w wc : World) : Prop where
  lies : Lies S t cs fs wc
  keep : Keep S w wc
  off : Off w wc
set_option maxRecDepth 20000 in
set_option maxHeartbeats 4000000 in
theorem tellc_any {S : Nat → Prop} {t : Nat} {cs : List Ch} {fs : List (Int × Int)} {w : World} (c : Ch) (hl : Lies S t cs fs w) (hn : cs.length ≤ 1000000) :
    Calls Tryz.prog 118 #[.pointer (some ⟨t, 0, none⟩), c.val] w fun e w' => e = .returned (.tuple #[]) ∧ Lies S t (cs ++ [c]) fs w' ∧ Keep S w w' ∧ Off w w' := by
  obtain ⟨r, p, q⟩ := c
  show Calls Tryz.prog 118 #[.pointer (some ⟨t, 0, none⟩), .agg #[.int .i64 r, .int .i64 p, .int .i64 q]] w _
  have hb0 : Below w.heap.size w (w.alloc (.cells #[.int .i64 r, .int .i64 p, .int .i64 q] 44)) := (Below.refl _ _).alloc (Nat.le_refl _) _
  have hl1 := lies_below hl hb0
  obtain ⟨ao, ca, ao2, ca2, htw, t0, t1, hb, _, _, _, _⟩ := lies_cells hl1
  have htw0 : t < w.heap.size := by obtain ⟨_, _, _, _, h, _⟩ := lies_cells hl; exact h
  obtain ⟨ao', c', W', hrun, x0, xf, hT, hK, hO⟩ := put_char (r := r) (p := p) (q := q) hl1 hn rfl rfl hb
  obtain ⟨k, hk⟩ : ∃ k, cs.length = k := ⟨_, rfl⟩
  rw [hk] at hrun t0 x0 hn hT hK hO
  have HM : Hid (MidC S t (cs ++ [⟨r, p, q⟩]) fs w (W'.setCell ⟨t, 0, none⟩ (.slice ao' (k + 1) c'))) := ⟨hT, (Keep.ofOld hb0).trans hK, (Off.ofOld hb0).trans hO⟩
  have c0 : (w.alloc (.cells #[.int .i64 r, .int .i64 p, .int .i64 q] 44)).cell? ⟨w.heap.size, 0, none⟩ = some (.int .i64 r) := by rw [World.cell?_alloc_at _ _ _ _ rfl]; rfl
  have c1 : (w.alloc (.cells #[.int .i64 r, .int .i64 p, .int .i64 q] 44)).cell? ⟨w.heap.size, 1, none⟩ = some (.int .i64 p) := by rw [World.cell?_alloc_at _ _ _ _ rfl]; rfl
  have c2 : (w.alloc (.cells #[.int .i64 r, .int .i64 p, .int .i64 q] 44)).cell? ⟨w.heap.size, 2, none⟩ = some (.int .i64 q) := by rw [World.cell?_alloc_at _ _ _ _ rfl]; rfl
  have hz : w.heap.size < (w.alloc (.cells #[.int .i64 r, .int .i64 p, .int .i64 q] 44)).heap.size := by simp
  clear hT hK hO hb hl hl1 hk t1 hb0
  go_enter Tryz.func118, Tryz.ntmps118
  go_wp2_with fail
  generalize hW : w.alloc (.cells #[.int .i64 r, .int .i64 p, .int .i64 q] 44) = W0 at *
  clear hW
  go_region_law (refine step_append_eq rfl _ _ 35 35 rfl _ _ (by simp [Act.eval]) (by simp [Act.eval]) hrun ?_)
  all_goals
    go_wp2_with fail
    refine bodyPost_end (results_none rfl _ _ _) rfl ?_
    exact ⟨rfl, HM.out.lies, HM.out.keep, HM.out.off⟩
theorem str_set {S : Nat → Prop} {x d t : Nat} {wt c : Ch} {cs : List Ch} {fs : List (Int × Int)} {W : World} (hx : StrIs x d wt W) (hS : ¬ S x) (hl : Lies S t cs fs W) :
    ∀ W', W' = ((W.setCell ⟨x, 1, none⟩ (.int .i64 c.r)).setCell ⟨x, 2, none⟩ (.int .i64 c.a)).setCell ⟨x, 3, none⟩ (.int .i64 c.z) → StrIs x d c W' ∧ Lies S t cs fs W' ∧ Keep S W W' := by
  rintro W' rfl
  unfold StrIs at hx
  refine ⟨by unfold StrIs; simp [World.setCell, Array.getElem?_modify, hx], ?_, ?_⟩
  · refine lies_same hl (fun k hk => by have := hl.low k hk; simp [World.setCell]; omega) (fun _ h _ => h) fun g cur e m he _ hg => ?_
    have hne : g ≠ x := fun y => by
      rw [y, hx] at hg; simp at hg
      rcases he with rfl | rfl | rfl <;> simp at hg
    rw [Below.heap_setCell _ _ _ _ hne, Below.heap_setCell _ _ _ _ hne, Below.heap_setCell _ _ _ _ hne]; exact hg
  · exact (((Keep.refl S W).setCell (p := ⟨x, 1, none⟩) hS _).setCell (p := ⟨x, 2, none⟩) hS _).setCell (p := ⟨x, 3, none⟩) hS _
set_option maxRecDepth 20000 in
set_option maxHeartbeats 1000000 in
theorem release_any {S : Nat → Prop} {x d t : Nat} {wt : Ch} {cs : List Ch} {fs : List (Int × Int)} {w : World} (hx : StrIs x d wt w) (hS : ¬ S x) (hl : Lies S t cs fs w) (hn : cs.length ≤ 1000000) :
    Calls Tryz.prog 81 #[.pointer (some ⟨x, 0, none⟩), .pointer (some ⟨t, 0, none⟩)] w fun e w' => e = .returned (.tuple #[]) ∧ StrIs x d (off wt) w' ∧ Lies S t (cs ++ rel wt) fs w' ∧ Keep S w w' := by
  have HX : Hid (StrIs x d wt w) := hx
  have HL : Hid (Lies S t cs fs w) := hl
  have HS : Hid (¬ S x) := hS
  have hxw := (str_cells hx).1
  clear hx hl hS
  by_cases hw : wt.a < wt.z
  · go_enter Tryz.func81, Tryz.ntmps81
    go_wp2_with fail
    refine (waits_as true HX.out (decide_eq_true hw)).mono ?_
    rintro e w1 ⟨rfl, b1⟩
    have HX1 : Hid (StrIs x d wt w1) := str_below HX.out b1
    have HL1 : Hid (Lies S t cs fs w1) := lies_below HL.out b1
    have HK1 : Hid (Keep S w w1) := Keep.ofOld b1
    obtain ⟨hxw1, c0, c1, c2, c3, _⟩ := str_cells HX1.out
    clear b1
    go_wp2_with fail
    refine (tellc_any wt HL1.out hn).mono ?_
    rintro e w2 ⟨rfl, l2, k2, o2⟩
    have HX2 : Hid (StrIs x d wt w2) := str_off HX1.out o2
    have HL2 : Hid (Lies S t (cs ++ [wt]) fs w2) := l2
    have HK2 : Hid (Keep S w w2) := HK1.out.trans k2
    clear l2 k2 o2 c0 c1 c2 c3
    obtain ⟨hxw2, c0, c1, c2, c3, hf⟩ := str_cells HX2.out
    have f1 := hf 1
    have f2 := hf 2
    have f3 := hf 3
    clear hf
    go_wp2_with fail
    refine bodyPost_end (results_none rfl _ _ _) rfl ?_
    obtain ⟨m1, m2, m3⟩ := str_set (c := Ch0) HX2.out HS.out HL2.out _ rfl
    have e1 : off wt = Ch0 := by unfold off; rw [if_pos hw]
    have e2 : rel wt = [wt] := by unfold rel; rw [if_pos hw]
    rw [e1, e2]
    exact ⟨rfl, m1, m2, HK2.out.trans m3⟩
  · go_enter Tryz.func81, Tryz.ntmps81
    go_wp2_with fail
    refine (waits_as false HX.out (decide_eq_false (by omega))).mono ?_
    rintro e w1 ⟨rfl, b1⟩
    go_wp2_with fail
    refine bodyPost_end (results_none rfl _ _ _) rfl ?_
    have e1 : off wt = wt := by unfold off; rw [if_neg (by omega)]
    have e2 : rel wt = [] := by unfold rel; rw [if_neg (by omega)]
    rw [e1, e2, List.append_nil]
    exact ⟨rfl, str_below HX.out b1, lies_below HL.out b1, Keep.ofOld b1⟩
end Go.Proofs.YtdiealijjhfhjaaGreatDoor.G4
namespace Go.Proofs.YtdiealijjhfhjaaGreatDoor.G4
open Go.RowKit
def BoxIs (b : Nat) (p : Nat) (ty : TypeId) (w : World) : Prop := w.heap[b]? = some (.cells #[.pointer (some ⟨p, 0, none⟩)] ty (0, 0))
theorem box_cell {b p : Nat} {ty : TypeId} {w : World} (h : BoxIs b p ty w) : b < w.heap.size ∧ w.cell? ⟨b, 0, none⟩ = some (.pointer (some ⟨p, 0, none⟩)) := by
  unfold BoxIs at h
  exact ⟨(Array.getElem?_eq_some_iff.1 h).1, by simp [World.cell?, h]⟩
theorem box_keep {S : Nat → Prop} {b p : Nat} {ty : TypeId} {w w' : World} (h : BoxIs b p ty w) (hS : S b) (k : Keep S w w') : BoxIs b p ty w' := (k.block b hS (box_cell h).1).trans h
theorem box_below {b p : Nat} {ty : TypeId} {w w' : World} (h : BoxIs b p ty w) (k : Below w.heap.size w w') : BoxIs b p ty w' := (k.block b (box_cell h).1).trans h
theorem ch_keep {S : Nat → Prop} {b : Nat} {c : Ch} {w w' : World} (h : ChIs b c w) (hS : S b) (k : Keep S w w') : ChIs b c w' := (k.block b hS (ch_cell h).1).trans h
theorem lies_sub {S U : Nat → Prop} {t : Nat} {cs : List Ch} {fs : List (Int × Int)} {w : World} (h : Lies S t cs fs w) (k : ∀ i, U i → S i) : Lies U t cs fs w :=
  lies_same h (fun i hi => h.low i (k i hi)) (fun _ h _ hu => h (k _ hu)) fun _ _ _ _ _ _ hg => hg
structure MidK (S : Nat → Prop) (x d t bx bt cb : Nat) (wt c : Ch) (cs : List Ch) (fs : List (Int × Int)) (w wc : World) : Prop where
  str : StrIs x d wt wc
  lies : Lies (fun k => S k ∨ k = cb) t cs fs wc
  box1 : BoxIs bx x 49 wc
  box2 : BoxIs bt t 100 wc
  chr : ChIs cb c wc
  keep : Keep S w wc
theorem MidK.under {S : Nat → Prop} {x d t bx bt cb : Nat} {wt c : Ch} {cs : List Ch} {fs : List (Int × Int)} {w wc wn : World} (h : MidK S x d t bx bt cb wt c cs fs w wc) (b : Below wc.heap.size wc wn) : MidK S x d t bx bt cb wt c cs fs w wn :=
  ⟨str_below h.str b, lies_below h.lies b, box_below h.box1 b, box_below h.box2 b, (b.block cb (ch_cell h.chr).1).trans h.chr, h.keep.trans (Keep.ofOld b)⟩
theorem MidK.next {S : Nat → Prop} {x d t bx bt cb : Nat} {wt wt' c : Ch} {cs cs' : List Ch} {fs fs' : List (Int × Int)} {w wc wn : World} (h : MidK S x d t bx bt cb wt c cs fs w wc) (h1 : S bx) (h2 : S bt) (s : StrIs x d wt' wn) (l : Lies (fun k => S k ∨ k = cb) t cs' fs' wn) (k : Keep (fun k => S k ∨ k = cb) wc wn) : MidK S x d t bx bt cb wt' c cs' fs' w wn :=
  ⟨s, l, box_keep h.box1 (.inl h1) k, box_keep h.box2 (.inl h2) k, ch_keep h.chr (.inr rfl) k, h.keep.trans (k.sub fun _ h => .inl h)⟩
theorem mid_start {S : Nat → Prop} {x d t bx bt : Nat} {wt c : Ch} {cs : List Ch} {fs : List (Int × Int)} {w : World} (hx : StrIs x d wt w) (hl : Lies S t cs fs w) (h1 : BoxIs bx x 49 w) (h2 : BoxIs bt t 100 w) :
    MidK S x d t bx bt w.heap.size wt c cs fs w (w.alloc (.cells #[.int .i64 c.r, .int .i64 c.a, .int .i64 c.z] 44)) := by
  have hb : Below w.heap.size w (w.alloc (.cells #[.int .i64 c.r, .int .i64 c.a, .int .i64 c.z] 44)) := (Below.refl _ _).alloc (Nat.le_refl _) _
  refine ⟨str_below hx hb, ?_, box_below h1 hb, box_below h2 hb, heap_alloc_new _ _, Keep.ofOld hb⟩
  refine lies_same hl (fun k hk => ?_) (fun k h hlt hu => ?_) fun g _ _ _ _ _ hg => (hb.block g (Array.getElem?_eq_some_iff.1 hg).1).trans hg
  · rcases hk with hk | rfl
    · have := hl.low k hk; simp; omega
    · simp
  · rcases hu with hu | rfl
    · exact h hu
    · omega
theorem fault_in {S : Nat → Prop} {x d t bx bt cb : Nat} {wt c : Ch} {cs : List Ch} {fs : List (Int × Int)} {w W : World} (h : MidK S x d t bx bt cb wt c cs fs w W) (h1 : S bx) (h2 : S bt) (code : Int) (hm : fs.length ≤ 1000000) :
    ∃ ao n c1 ao2 m c2 ao' c' W', t < W.heap.size ∧ W.cell? ⟨t, 0, none⟩ = some (.slice ao n c1) ∧ W.cell? ⟨t, 1, none⟩ = some (.slice ao2 m c2) ∧
      (Builtin.append_ #[24, 24] 24 #[.slice ao2 m c2, .slice (some ⟨W.heap.size, 0, none⟩) 1 1]).run Tryz.prog (W.alloc (.cells #[.int .i64 code, .int .i64 c.a] 57)).drew = .ok (.slice ao' (m + 1) c') W' ∧
      W'.cell? ⟨t, 1, none⟩ = some (.slice ao2 m c2) ∧ W'.cell? ⟨bt, 0, none⟩ = some (.pointer (some ⟨t, 0, none⟩)) ∧ W'.frozen? ⟨t, 1, none⟩ = false ∧ MidK S x d t bx bt cb wt c cs (fs ++ [(code, c.a)]) w (W'.setCell ⟨t, 1, none⟩ (.slice ao' (m + 1) c')) := by
  obtain ⟨ao, c1, ao2, c2, ht, t0, t1, hb, _, _, _, _⟩ := lies_cells h.lies
  obtain ⟨ao', c', W', hrun, x0, xf, hT, hK, hO⟩ := put_fault (r := code) (p := c.a) h.lies hm rfl rfl hb
  have hN := h.next h1 h2 (str_off h.str hO) hT hK
  have hbt : W'.cell? ⟨bt, 0, none⟩ = some (.pointer (some ⟨t, 0, none⟩)) := by
    rw [← (box_cell hN.box2).2]
    simp only [World.cell?]
    rw [Below.heap_setCell _ _ _ _ (fun e => by simp only at e; exact h.lies.ht (.inl (e ▸ h2)))]
  exact ⟨ao, _, c1, ao2, _, c2, ao', c', W', ht, t0, t1, hrun, x0, hbt, xf, hN⟩
theorem mid_to {S : Nat → Prop} {x d t bx bt cb : Nat} {wt c : Ch} {cs : List Ch} {fs : List (Int × Int)} {w W : World} (h : MidK S x d t bx bt cb wt c cs fs w W) (h1 : S bx) (h2 : S bt) (hS : ¬ (S x ∨ x = cb)) (q : Int) :
    ∀ W', W' = W.setCell ⟨x, 3, none⟩ (.int .i64 q) → MidK S x d t bx bt cb ⟨wt.r, wt.a, q⟩ c cs fs w W' := by
  rintro W' rfl
  have hx := h.str
  unfold StrIs at hx
  refine h.next h1 h2 (by unfold StrIs; simp [World.setCell, Array.getElem?_modify, hx]) ?_ ((Keep.refl _ W).setCell (p := ⟨x, 3, none⟩) hS _)
  refine lies_same h.lies (fun k hk => by have := h.lies.low k hk; simp [World.setCell]; omega) (fun _ h _ => h) fun g cur e m he _ hg => ?_
  have hne : g ≠ x := fun y => by
    rw [y, hx] at hg; simp at hg
    rcases he with rfl | rfl | rfl <;> simp at hg
  rw [Below.heap_setCell _ _ _ _ hne]; exact hg
theorem mid_set {S : Nat → Prop} {x d t bx bt cb : Nat} {wt c c2 : Ch} {cs : List Ch} {fs : List (Int × Int)} {w W : World} (h : MidK S x d t bx bt cb wt c cs fs w W) (h1 : S bx) (h2 : S bt) (hS : ¬ (S x ∨ x = cb)) :
    ∀ W', W' = ((W.setCell ⟨x, 1, none⟩ (.int .i64 c2.r)).setCell ⟨x, 2, none⟩ (.int .i64 c2.a)).setCell ⟨x, 3, none⟩ (.int .i64 c2.z) → MidK S x d t bx bt cb c2 c cs fs w W' := by
  intro W' hW
  obtain ⟨m1, m2, m3⟩ := str_set h.str hS h.lies W' hW
  exact h.next h1 h2 m1 m2 m3
theorem mid_chr {S : Nat → Prop} {x d t bx bt cb : Nat} {wt c : Ch} {cs : List Ch} {fs : List (Int × Int)} {w W : World} (h : MidK S x d t bx bt cb wt c cs fs w W) (hcb : w.heap.size ≤ cb) (hlow : ∀ k, S k → k < w.heap.size) (r : Int) :
    ∀ W', W' = W.setCell ⟨cb, 0, none⟩ (.int .i64 r) → StrIs x d wt W' ∧ Lies S t cs fs W' ∧ ChIs cb ⟨r, c.a, c.z⟩ W' ∧ BoxIs bt t 100 W' ∧ Keep S w W' := by
  rintro W' rfl
  have hc := h.chr
  unfold ChIs at hc
  have hst : ∀ (g : Nat) (cur : Array Value) (e : TypeId) (m : Nat × Nat), e ≠ 44 → W.heap[g]? = some (.cells cur e m) → (W.setCell ⟨cb, 0, none⟩ (.int .i64 r)).heap[g]? = some (.cells cur e m) := fun g cur e m he hg => by
    rw [Below.heap_setCell _ _ _ _ (fun y => by simp only at y; rw [y, hc] at hg; simp at hg; exact he hg.2.1.symm)]; exact hg
  refine ⟨hst x _ 94 _ (by decide) h.str, ?_, by unfold ChIs; simp [World.setCell, Array.getElem?_modify, hc], hst bt _ 100 _ (by decide) h.box2, h.keep.setCell (p := ⟨cb, 0, none⟩) (fun hS => by have := hlow cb hS; omega) _⟩
  refine lies_same h.lies (fun k hk => by have := hlow k hk; have := h.keep.size; simp [World.setCell]; omega) (fun k hk _ hu => hk (.inl hu)) fun g cur e m he hne hg => ?_
  rw [Below.heap_setCell _ _ _ _ (fun y => hne (.inr y))]; exact hg
set_option maxRecDepth 20000 in
set_option maxHeartbeats 4000000 in
theorem hand_join {S : Nat → Prop} {x d t bx bt : Nat} {wt : Ch} {p q : Int} {cs : List Ch} {fs : List (Int × Int)} {w : World} (code : Int) (hx : StrIs x d wt w) (hS : ¬ S x) (hl : Lies S t cs fs w) (h1 : BoxIs bx x 49 w) (h2 : BoxIs bt t 100 w) (s1 : S bx) (s2 : S bt) (hn : cs.length ≤ 900000) (_hm : fs.length ≤ 900000) (h0 : code = 0) (hw : wt.a < wt.z) (hq : wt.a < q) :
    Calls Tryz.prog 116 #[.agg #[.int .i64 10, .int .i64 p, .int .i64 q], .int .i64 code, .pointer (some ⟨bt, 0, none⟩), .pointer (some ⟨bx, 0, none⟩)] w fun e w' => e = .returned (.tuple #[]) ∧ StrIs x d Ch0 w' ∧ Lies S t (cs ++ [⟨wt.r, wt.a, q⟩]) (fs ++ if code = 0 then [] else [(code, p)]) w' ∧ Keep S w w' := by
  have HM : Hid (MidK S x d t bx bt w.heap.size wt ⟨10, p, q⟩ cs fs w (w.alloc (.cells #[.int .i64 10, .int .i64 p, .int .i64 q] 44))) := mid_start hx hl h1 h2
  have HS : Hid (¬ (S x ∨ x = w.heap.size)) := fun h => by
    rcases h with h | h
    · exact hS h
    · have := (str_cells hx).1; omega
  have HLOW : Hid (∀ k, S k → k < w.heap.size) := hl.low
  obtain ⟨G, hG⟩ : ∃ G, fs ++ (if code = 0 then [] else [(code, p)]) = G := ⟨_, rfl⟩
  rw [hG]
  have HG : Hid (fs ++ (if code = 0 then [] else [(code, p)]) = G) := hG
  have hrel : (rel wt).length ≤ 1 := rel_len wt
  clear hx hl h1 h2 hS hG
  subst h0
  have HM0 : Hid (MidK S x d t bx bt w.heap.size wt ⟨10, p, q⟩ cs G w (w.alloc (.cells #[.int .i64 10, .int .i64 p, .int .i64 q] 44))) := by
    have e : fs = G := by have := HG.out; simpa using this
    rw [← e]; exact HM.out
  obtain ⟨hxw, y0, y1, y2, y3, _⟩ := str_cells HM0.out.str
  obtain ⟨hbxw, bx0⟩ := box_cell HM0.out.box1
  obtain ⟨hbtw, bt0⟩ := box_cell HM0.out.box2
  obtain ⟨hcw, ch0, ch1, ch2, hcf⟩ := ch_cell HM0.out.chr
  clear HM
  go_enter Tryz.func116, Tryz.ntmps116
  go_wp2_with fail
  generalize w.alloc (.cells #[.int .i64 10, .int .i64 p, .int .i64 q] 44) = wc at *
  refine (waits_as true HM0.out.str (by simpa using hw)).mono ?_
  rintro e w1 ⟨rfl, b1⟩
  have HM1 : Hid (MidK S x d t bx bt w.heap.size wt ⟨10, p, q⟩ cs G w w1) := HM0.out.under b1
  clear b1 HM0 hxw y0 y1 y2 y3 hbxw bx0 hbtw bt0 hcw ch0 ch1 ch2 hcf
  obtain ⟨hxw, y0, y1, y2, y3, hyf⟩ := str_cells HM1.out.str
  have f3 := hyf 3
  obtain ⟨hbxw, bx0⟩ := box_cell HM1.out.box1
  obtain ⟨hbtw, bt0⟩ := box_cell HM1.out.box2
  obtain ⟨hcw, ch0, ch1, ch2, hcf⟩ := ch_cell HM1.out.chr
  clear hyf
  go_wp2_with fail
  have hM2 := mid_to HM1.out s1 s2 HS.out q _ rfl
  refine (release_any hM2.str HS.out hM2.lies (by omega)).mono ?_
  rintro e w2 ⟨rfl, r1, r2, r3⟩
  have HM3 := hM2.next s1 s2 r1 r2 r3
  have R1 : Hid (StrIs x d (off ⟨wt.r, wt.a, q⟩) w2) := r1
  have R2 : Hid (Lies S t (cs ++ rel ⟨wt.r, wt.a, q⟩) G w2) := lies_sub r2 (fun _ h => .inl h)
  have R3 : Hid (Keep S w w2) := HM3.keep
  clear hM2 r1 r2 r3 HM3
  go_wp2_with fail
  refine bodyPost_ret (results_none rfl _ _ _) rfl ?_
  have e1 : off ⟨wt.r, wt.a, q⟩ = Ch0 := by unfold off; rw [if_pos (by exact hq)]
  have e2 : rel ⟨wt.r, wt.a, q⟩ = [⟨wt.r, wt.a, q⟩] := by unfold rel; rw [if_pos (by exact hq)]
  have R1' := R1.out
  have R2' := R2.out
  rw [e1] at R1'
  rw [e2] at R2'
  exact ⟨rfl, R1', R2', R3.out⟩
set_option maxRecDepth 20000 in
set_option maxHeartbeats 4000000 in
theorem hand_lone {S : Nat → Prop} {x d t bx bt : Nat} {wt : Ch} {p q : Int} {cs : List Ch} {fs : List (Int × Int)} {w : World} (code : Int) (hx : StrIs x d wt w) (hS : ¬ S x) (hl : Lies S t cs fs w) (h1 : BoxIs bx x 49 w) (h2 : BoxIs bt t 100 w) (s1 : S bx) (s2 : S bt) (hn : cs.length ≤ 900000) (_hm : fs.length ≤ 900000) (h0 : code = 0) (hw : ¬ wt.a < wt.z) :
    Calls Tryz.prog 116 #[.agg #[.int .i64 10, .int .i64 p, .int .i64 q], .int .i64 code, .pointer (some ⟨bt, 0, none⟩), .pointer (some ⟨bx, 0, none⟩)] w fun e w' => e = .returned (.tuple #[]) ∧ StrIs x d (off wt) w' ∧ Lies S t (cs ++ (rel wt ++ [⟨10, p, q⟩])) (fs ++ if code = 0 then [] else [(code, p)]) w' ∧ Keep S w w' := by
  have HM : Hid (MidK S x d t bx bt w.heap.size wt ⟨10, p, q⟩ cs fs w (w.alloc (.cells #[.int .i64 10, .int .i64 p, .int .i64 q] 44))) := mid_start hx hl h1 h2
  have HS : Hid (¬ (S x ∨ x = w.heap.size)) := fun h => by
    rcases h with h | h
    · exact hS h
    · have := (str_cells hx).1; omega
  have HLOW : Hid (∀ k, S k → k < w.heap.size) := hl.low
  obtain ⟨G, hG⟩ : ∃ G, fs ++ (if code = 0 then [] else [(code, p)]) = G := ⟨_, rfl⟩
  rw [hG]
  have HG : Hid (fs ++ (if code = 0 then [] else [(code, p)]) = G) := hG
  have hrel : (rel wt).length ≤ 1 := rel_len wt
  clear hx hl h1 h2 hS hG
  subst h0
  have HM0 : Hid (MidK S x d t bx bt w.heap.size wt ⟨10, p, q⟩ cs G w (w.alloc (.cells #[.int .i64 10, .int .i64 p, .int .i64 q] 44))) := by
    have e : fs = G := by have := HG.out; simpa using this
    rw [← e]; exact HM.out
  obtain ⟨hxw, y0, y1, y2, y3, _⟩ := str_cells HM0.out.str
  obtain ⟨hbxw, bx0⟩ := box_cell HM0.out.box1
  obtain ⟨hbtw, bt0⟩ := box_cell HM0.out.box2
  obtain ⟨hcw, ch0, ch1, ch2, hcf⟩ := ch_cell HM0.out.chr
  clear HM
  go_enter Tryz.func116, Tryz.ntmps116
  go_wp2_with fail
  generalize w.alloc (.cells #[.int .i64 10, .int .i64 p, .int .i64 q] 44) = wc at *
  refine (waits_as false HM0.out.str (by simpa using hw)).mono ?_
  rintro e w1 ⟨rfl, b1⟩
  have HM1 : Hid (MidK S x d t bx bt w.heap.size wt ⟨10, p, q⟩ cs G w w1) := HM0.out.under b1
  clear b1 HM0 hxw y0 y1 y2 y3 hbxw bx0 hbtw bt0 hcw ch0 ch1 ch2 hcf
  obtain ⟨hxw, y0, y1, y2, y3, hyf⟩ := str_cells HM1.out.str
  have f3 := hyf 3
  obtain ⟨hbxw, bx0⟩ := box_cell HM1.out.box1
  obtain ⟨hbtw, bt0⟩ := box_cell HM1.out.box2
  obtain ⟨hcw, ch0, ch1, ch2, hcf⟩ := ch_cell HM1.out.chr
  clear hyf
  go_wp2_with fail
  refine (release_any HM1.out.str HS.out HM1.out.lies (by omega)).mono ?_
  rintro e w2 ⟨rfl, r1, r2, r3⟩
  have HM2 : Hid (MidK S x d t bx bt w.heap.size (off wt) ⟨10, p, q⟩ (cs ++ rel wt) G w w2) := HM1.out.next s1 s2 r1 r2 r3
  clear r1 r2 r3 HM1 hxw y0 y1 y2 y3 hbxw bx0 hbtw bt0 hcw ch0 ch1 ch2 hcf
  obtain ⟨hxw, y0, y1, y2, y3, hyf⟩ := str_cells HM2.out.str
  have f1 := hyf 1
  have f2 := hyf 2
  have f3 := hyf 3
  obtain ⟨hbxw, bx0⟩ := box_cell HM2.out.box1
  obtain ⟨hbtw, bt0⟩ := box_cell HM2.out.box2
  obtain ⟨hcw, ch0, ch1, ch2, hcf⟩ := ch_cell HM2.out.chr
  clear hyf
  go_wp2_with fail
  refine (tellc_any ⟨10, p, q⟩ (lies_sub HM2.out.lies (U := S) (fun _ h => .inl h)) (by rw [List.length_append]; omega)).mono ?_
  rintro e w3 ⟨rfl, l3, k3, o3⟩
  have L3 : Hid (Lies S t (cs ++ rel wt ++ [⟨10, p, q⟩]) G w3) := l3
  have K3 : Hid (Keep S w w3) := HM2.out.keep.trans k3
  have X3 : Hid (StrIs x d (off wt) w3) := str_off HM2.out.str o3
  clear l3 k3 o3
  go_wp2_with fail
  refine bodyPost_end (results_none rfl _ _ _) rfl ?_
  have L3' := L3.out
  rw [List.append_assoc] at L3'
  exact ⟨rfl, X3.out, L3', K3.out⟩
set_option maxRecDepth 20000 in
set_option maxHeartbeats 4000000 in
theorem hand_cr {S : Nat → Prop} {x d t bx bt : Nat} {wt : Ch} {p q : Int} {cs : List Ch} {fs : List (Int × Int)} {w : World} (code : Int) (hx : StrIs x d wt w) (hS : ¬ S x) (hl : Lies S t cs fs w) (h1 : BoxIs bx x 49 w) (h2 : BoxIs bt t 100 w) (s1 : S bx) (s2 : S bt) (hn : cs.length ≤ 900000) (_hm : fs.length ≤ 900000) (h0 : code = 0)  :
    Calls Tryz.prog 116 #[.agg #[.int .i64 13, .int .i64 p, .int .i64 q], .int .i64 code, .pointer (some ⟨bt, 0, none⟩), .pointer (some ⟨bx, 0, none⟩)] w fun e w' => e = .returned (.tuple #[]) ∧ StrIs x d ⟨10, p, q⟩ w' ∧ Lies S t (cs ++ rel wt) (fs ++ if code = 0 then [] else [(code, p)]) w' ∧ Keep S w w' := by
  have HM : Hid (MidK S x d t bx bt w.heap.size wt ⟨13, p, q⟩ cs fs w (w.alloc (.cells #[.int .i64 13, .int .i64 p, .int .i64 q] 44))) := mid_start hx hl h1 h2
  have HS : Hid (¬ (S x ∨ x = w.heap.size)) := fun h => by
    rcases h with h | h
    · exact hS h
    · have := (str_cells hx).1; omega
  have HLOW : Hid (∀ k, S k → k < w.heap.size) := hl.low
  obtain ⟨G, hG⟩ : ∃ G, fs ++ (if code = 0 then [] else [(code, p)]) = G := ⟨_, rfl⟩
  rw [hG]
  have HG : Hid (fs ++ (if code = 0 then [] else [(code, p)]) = G) := hG
  have hrel : (rel wt).length ≤ 1 := rel_len wt
  clear hx hl h1 h2 hS hG
  subst h0
  have HM0 : Hid (MidK S x d t bx bt w.heap.size wt ⟨13, p, q⟩ cs G w (w.alloc (.cells #[.int .i64 13, .int .i64 p, .int .i64 q] 44))) := by
    have e : fs = G := by have := HG.out; simpa using this
    rw [← e]; exact HM.out
  obtain ⟨hxw, y0, y1, y2, y3, _⟩ := str_cells HM0.out.str
  obtain ⟨hbxw, bx0⟩ := box_cell HM0.out.box1
  obtain ⟨hbtw, bt0⟩ := box_cell HM0.out.box2
  obtain ⟨hcw, ch0, ch1, ch2, hcf⟩ := ch_cell HM0.out.chr
  clear HM
  go_enter Tryz.func116, Tryz.ntmps116
  go_wp2_with fail
  generalize w.alloc (.cells #[.int .i64 13, .int .i64 p, .int .i64 q] 44) = wc at *
  refine (release_any HM0.out.str HS.out HM0.out.lies (by omega)).mono ?_
  rintro e w2 ⟨rfl, r1, r2, r3⟩
  have HM2 : Hid (MidK S x d t bx bt w.heap.size (off wt) ⟨13, p, q⟩ (cs ++ rel wt) G w w2) := HM0.out.next s1 s2 r1 r2 r3
  clear r1 r2 r3 HM0 hxw y0 y1 y2 y3 hbxw bx0 hbtw bt0 hcw ch0 ch1 ch2 hcf
  obtain ⟨hxw, y0, y1, y2, y3, hyf⟩ := str_cells HM2.out.str
  have f1 := hyf 1
  have f2 := hyf 2
  have f3 := hyf 3
  obtain ⟨hbxw, bx0⟩ := box_cell HM2.out.box1
  obtain ⟨hbtw, bt0⟩ := box_cell HM2.out.box2
  obtain ⟨hcw, ch0, ch1, ch2, hcf⟩ := ch_cell HM2.out.chr
  clear hyf
  go_wp2_with fail
  refine bodyPost_ret (results_none rfl _ _ _) rfl ?_
  have hM3 := mid_set (c2 := ⟨10, p, q⟩) HM2.out s1 s2 HS.out _ rfl
  exact ⟨rfl, hM3.str, lies_sub hM3.lies (fun _ h => .inl h), hM3.keep⟩
end Go.Proofs.YtdiealijjhfhjaaGreatDoor.G4
