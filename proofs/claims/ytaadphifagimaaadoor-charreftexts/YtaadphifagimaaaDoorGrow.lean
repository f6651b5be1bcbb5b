/- grow: the node behind a byte, made if there is none. -/
import Derived.Test.YtaadphifagimaaaDoorMem
namespace Go.Proofs.YtaadphifagimaaaDoor
open Go.RowKit Go.Maps

theorem snoc_inj {p q : Path} {x y : UInt8} (h : p ++ [x] = q ++ [y]) : p = q ∧ x = y := by
  have := List.append_inj' h rfl
  exact ⟨this.1, by simpa using this.2⟩

/-- A new node behind node p: what the trie is then. -/
theorem TrieAt.grown {w w' : World} {B t : Nat} {N M : Path → Option Nat} {V : Path → Option Int} {c : Int} {k : Nat} (T : TrieAt w B t N M V c k) {p : Path} {b m b' : Nat} {x : UInt8} (hp : N p = some b)
    (hn : N (p ++ [x]) = none) (hm : ∀ m0, M p = some m0 → m0 = m) (hmB : B ≤ m) (hmnew : ∀ q, M q = some m → q = p) (hb' : w.heap.size ≤ b')
    (hcell : w'.cell? ⟨b, 0, none⟩ = some (.map (some m))) (hc1 : w'.cell? ⟨b, 1, none⟩ = w.cell? ⟨b, 1, none⟩) (hc2 : w'.cell? ⟨b, 2, none⟩ = w.cell? ⟨b, 2, none⟩) (hc3 : w'.cell? ⟨b, 3, none⟩ = w.cell? ⟨b, 3, none⟩) (hfz : ∀ i, w'.frozen? ⟨b, i, none⟩ = w.frozen? ⟨b, i, none⟩) (htg : ∀ cs z, w'.heap[b]? ≠ some (.cells cs 5 z))
    (hoth : ∀ d, d < w.heap.size → d ≠ b → d ≠ m → w'.heap[d]? = w.heap[d]?)
    (hmap : MapIs w' m (k + 1) (fun y => if y = x then some b' else N (p ++ [y]))) (hnew : NodeIs w' b' none none) (hBw : B ≤ w.heap.size) (hbm : ∀ q d, N q = some d → d ≠ m) :
    TrieAt w' B t (fun q => if q = p ++ [x] then some b' else N q) (fun q => if q = p then some m else M q) V c (k + 1) where
  root := by
    have h : ([] : Path) ≠ p ++ [x] := by simp
    simp only [if_neg h]
    exact T.root
  hB := fun q d h => by
    split at h
    · cases h; omega
    · exact T.hB q d h
  hM := fun q d h => by
    split at h
    · cases h; exact hmB
    · exact T.hM q d h
  inj := fun q r d h1 h2 => by
    split at h1 <;> split at h2
    · rename_i e1 e2; rw [e1, e2]
    · cases h1; have := (T.node _ _ h2).lt; omega
    · cases h2; have := (T.node _ _ h1).lt; omega
    · exact T.inj q r d h1 h2
  minj := fun q r d h1 h2 => by
    split at h1 <;> split at h2
    · rename_i e1 e2; rw [e1, e2]
    · rename_i e1 e2; cases h1; rw [e1]; exact (hmnew r h2).symm
    · rename_i e1 e2; cases h2; rw [e2]; exact hmnew q h1
    · exact T.minj q r d h1 h2
  up := fun q y d h => by
    split
    · exact ⟨m, rfl⟩
    · rename_i hq
      split at h
      · rename_i e; exact absurd (snoc_inj e).1 hq
      · exact T.up q y d h
  mup := fun q d h => by
    have : ∃ d, N q = some d := by
      split at h
      · rename_i e; exact ⟨b, by rw [e]; exact hp⟩
      · exact T.mup q d h
    obtain ⟨d', h'⟩ := this
    split
    · exact ⟨b', rfl⟩
    · exact ⟨d', h'⟩
  vup := fun q v h => by
    obtain ⟨d', h'⟩ := T.vup q v h
    split
    · exact ⟨b', rfl⟩
    · exact ⟨d', h'⟩
  node := fun q d h => by
    split at h
    · rename_i e
      cases h
      have hqp : q ≠ p := fun e2 => by rw [e2] at e; simp at e
      have hMq : M q = none := by
        cases hq : M q with
        | none => rfl
        | some z => obtain ⟨d, hd⟩ := T.mup q z hq; rw [e, hn] at hd; cases hd
      have hVq : V q = none := by
        cases hq : V q with
        | none => rfl
        | some z => obtain ⟨d, hd⟩ := T.vup q z hq; rw [e, hn] at hd; cases hd
      rw [if_neg hqp, hMq, hVq]
      exact hnew
    · by_cases hqp : q = p
      · subst hqp
        rw [hp] at h; cases h
        have O := T.node q b hp
        rw [if_pos rfl]
        exact ⟨hcell, hc1.trans O.c1, hc2.trans O.c2, fun i => (hfz i).trans (O.fz i), htg⟩
      · rw [if_neg hqp]
        have O := T.node q d h
        exact O.same (hoth d O.lt (fun e => hqp (T.inj q p b (e ▸ h) hp)) (hbm q d h))
  maps := fun q d h => by
    split at h
    · rename_i e
      cases h
      subst e
      refine hmap.congr fun y => ?_
      by_cases hy : y = x
      · subst hy; rw [if_pos rfl, if_pos rfl]
      · rw [if_neg hy, if_neg (fun e => hy (snoc_inj e).2)]
    · rename_i e
      have O := T.maps q d h
      have hdm : d ≠ m := fun e2 => e (hmnew q (e2 ▸ h))
      have hdb : d ≠ b := fun e2 => by
        obtain ⟨D, ⟨es, clock, hbk, _⟩, _⟩ := O
        have := (T.node p b hp).c0
        rw [← e2, World.cell?] at this
        simp [hbk] at this
      refine ((O.same (hoth d O.lt hdb hdm)).mono (Nat.le_succ _)).congr fun y => ?_
      rw [if_neg (fun e2 => e (snoc_inj e2).1)]
  count := by
    by_cases ht : t = b
    · rw [ht, hc3, ← ht]; exact T.count
    · have O := T.node _ _ T.root
      exact (World.cell?_of_block (a := ⟨t, 3, none⟩) (hoth t O.lt ht (hbm _ _ T.root))).trans T.count

theorem node_ne_map {w : World} {b m k : Nat} {o : Option Nat} {v : Option Int} {f : UInt8 → Option Nat} (h : NodeIs w b o v) (g : MapIs w m k f) : b ≠ m := fun e2 => by
  obtain ⟨D, ⟨es, clock, hbk, _⟩, _⟩ := g
  have := h.c0
  rw [e2, World.cell?] at this
  simp [hbk] at this

/-- No block of the trie's. -/
def Free (N M : Path → Option Nat) (d : Nat) : Prop := ∀ q, N q ≠ some d ∧ M q ≠ some d

/-- What grow leaves. -/
def Grew (w : World) (B t : Nat) (N M : Path → Option Nat) (V : Path → Option Int) (c : Int) (k : Nat) (q : Path) (e : Ending) (w' : World) : Prop :=
  ∃ b' N' M', e = .returned (.pointer (some ⟨b', 0, none⟩)) ∧ TrieAt w' B t N' M' V c (k + 1) ∧ N' q = some b' ∧ (∀ r, (N' r).isSome = ((N r).isSome || r == q)) ∧ Below B w w' ∧ ∀ d, d < w.heap.size → Free N M d → Free N' M' d ∧ w'.heap[d]? = w.heap[d]?

theorem eql76 (o : Option Nat) (w : World) : (binOp .eql 76 (.map o) (.map none)).run Tryd.prog w = .ok (.bool o.isNone) w := by
  cases o <;> kernel_rfl

set_option maxHeartbeats 1000000 in
set_option maxRecDepth 10000 in
theorem grow_any {w : World} {B t : Nat} {N M : Path → Option Nat} {V : Path → Option Int} {c : Int} {k : Nat} (T : TrieAt w B t N M V c k) {p : Path} {b : Nat} (x : UInt8) (hp : N p = some b) (hk : k < maxLen) (hBw : B ≤ w.heap.size) :
    Calls Tryd.prog 58 #[.pointer (some ⟨b, 0, none⟩), .int .u8 (x.toNat : Int)] w fun e w' => Grew w B t N M V c k (p ++ [x]) e w' := by
  have hlk := T.look p x
  have O := T.node p b hp
  have c0 := O.c0
  have f0 := O.fz 0
  have hbl := O.lt
  have HT : Hid (TrieAt w B t N M V c k) := T
  have HO : Hid (NodeIs w b (M p) (V p)) := O
  clear O
  cases hn : N (p ++ [x]) with
  | some b' =>
    rw [hn] at hlk
    obtain ⟨mo, hmo⟩ : ∃ mo, M p = mo := ⟨_, rfl⟩
    rw [hmo] at hlk c0
    simp only [ptr, Option.map_some] at hlk
    clear HO hmo T
    go_enter Tryd.func58, Tryd.ntmps58
    go_wp2_with fail
    go_ret
    refine ⟨b', N, M, rfl, ⟨HT.out.root, HT.out.hB, HT.out.hM, HT.out.inj, HT.out.minj, HT.out.up, HT.out.mup, HT.out.vup, HT.out.node, fun p m h => (HT.out.maps p m h).mono (Nat.le_succ _), HT.out.count⟩, hn, fun r => ?_, Below.refl _ _, fun d _ h => ⟨h, rfl⟩⟩
    by_cases hr : r = p ++ [x]
    · subst hr; rw [hn]; simp
    · simp [hr]
  | none =>
    rw [hn] at hlk
    simp only [ptr, Option.map_none] at hlk
    cases hm : M p with
    | some m =>
      rw [hm] at hlk c0
      have hmp := T.maps p m hm
      have hbm := node_ne_map HO.out hmp
      obtain ⟨W1, hW1⟩ : ∃ W1, W1 = w.alloc (.cells #[.map none, .bool false, .int .i64 0] 78) := ⟨_, rfl⟩
      have hbe : Below w.heap.size w W1 := by rw [hW1]; exact (Below.refl _ _).alloc (Nat.le_refl _) _
      have hnb : W1.heap[w.heap.size]? = some (.cells #[.map none, .bool false, .int .i64 0] 78 (0, 0)) := by rw [hW1]; exact heap_alloc_new _ _
      have hz : W1.heap.size = w.heap.size + 1 := by rw [hW1]; simp
      obtain ⟨w2, hup, hm2, hg⟩ := (hmp.same (hbe.block m hmp.lt)).put hk x w.heap.size
      have Hrest : Hid (Grew w B t N M V c k (p ++ [x]) (.returned (.pointer (some ⟨w.heap.size, 0, none⟩))) w2) := by
        have hoth : ∀ d, d < w.heap.size → d ≠ m → w2.heap[d]? = w.heap[d]? := fun d h1 h2 => (hg.block d (by omega) (by simpa using h2)).trans (hbe.block d h1)
        have hbb := hoth b hbl hbm
        have hnode : NodeIs w2 w.heap.size none none := by
          have e : w2.heap[w.heap.size]? = some (.cells #[.map none, .bool false, .int .i64 0] 78 (0, 0)) := (hg.block _ (by omega) (by have := hmp.lt; simp; omega)).trans hnb
          refine ⟨?_, ?_, ?_, fun i => ?_, fun cs z => ?_⟩
          all_goals first | simp [World.cell?, e] | simp [World.frozen?, e] | simp [e]
        refine ⟨w.heap.size, _, _, rfl, T.grown hp hn (fun m0 h => by rw [hm] at h; cases h; rfl) (T.hM _ _ hm) (fun q h => T.minj q p m h hm) (Nat.le_refl _) ((World.cell?_of_block (a := ⟨b, 0, none⟩) hbb).trans c0)
          (World.cell?_of_block (a := ⟨b, 1, none⟩) hbb) (World.cell?_of_block (a := ⟨b, 2, none⟩) hbb) (World.cell?_of_block (a := ⟨b, 3, none⟩) hbb) (fun i => World.frozen?_of_block (a := ⟨b, i, none⟩) hbb) (fun cs z => by rw [hbb]; exact HO.out.tg cs z)
          (fun d h1 _ h3 => hoth d h1 h3) hm2 hnode hBw (fun q d h => node_ne_map (T.node q d h) hmp), by simp, fun r => ?_, ?_, fun d hd hf => ⟨fun q => ?_, ?_⟩⟩
        · by_cases hr : r = p ++ [x]
          · subst hr; simp
          · simp [hr]
        · exact ⟨hg.os.trans hbe.os, hg.tape.trans hbe.tape, hg.output.trans hbe.output, by have := hg.size; omega, fun d hd => hoth d (by omega) (by have := T.hM _ _ hm; omega)⟩
        · constructor
          · show ¬ (if _ then _ else _) = _
            split
            · simp; omega
            · exact (hf q).1
          · show ¬ (if _ then _ else _) = _
            split
            · simp; exact fun e => (hf p).2 (by rw [← e]; exact hm)
            · exact (hf q).2
        · exact hoth d hd (fun e => (hf p).2 (by rw [e]; exact hm))
      rw [hW1] at hup
      clear hm2 hg hbe hnb hz hmp hm T hbm hW1
      have hq := eql76 (some m) w
      simp only [Option.isNone_some] at hq
      go_enter Tryd.func58, Tryd.ntmps58
      go_wp2_with fail
      go_ret
      exact Hrest.out
    | none =>
      rw [hm] at hlk c0
      obtain ⟨W0, hW0⟩ : ∃ W0, W0 = w.alloc (.map #[] 0) := ⟨_, rfl⟩
      have b0 : Below w.heap.size w W0 := by rw [hW0]; exact (Below.refl _ _).alloc (Nat.le_refl _) _
      have z0 : W0.heap.size = w.heap.size + 1 := by rw [hW0]; simp
      have m0 : MapIs W0 w.heap.size 0 (fun _ => none) := by rw [hW0]; exact map_made w
      obtain ⟨W1, hW1⟩ : ∃ W1, W1 = W0.setCell ⟨b, 0, none⟩ (.map (some w.heap.size)) := ⟨_, rfl⟩
      have z1 : W1.heap.size = w.heap.size + 1 := by rw [hW1]; simp [World.setCell, z0]
      have e0 : W0.cell? ⟨b, 0, none⟩ = some (.map none) := (b0.cell (p := ⟨b, 0, none⟩) hbl).trans c0
      have k0 : W1.cell? ⟨b, 0, none⟩ = some (.map (some w.heap.size)) := by rw [hW1]; exact World.cell?_setCell_same _ _ _ e0
      have k1 : ∀ i, i ≠ 0 → W1.cell? ⟨b, i, none⟩ = w.cell? ⟨b, i, none⟩ := fun i hi => by
        rw [hW1, World.cell?_setCell_other _ _ _ _ (fun e => hi (by injection e with _ h; exact h.symm))]
        exact b0.cell (p := ⟨b, i, none⟩) hbl
      have kf : ∀ i, W1.frozen? ⟨b, i, none⟩ = w.frozen? ⟨b, i, none⟩ := fun i => by
        rw [hW1, World.frozen?_setCell]
        exact b0.frozen (p := ⟨b, i, none⟩) hbl
      have kb : ∀ d, d ≠ b → W1.heap[d]? = W0.heap[d]? := fun d hd => by rw [hW1]; exact Below.heap_setCell _ _ _ _ hd
      have m1 : MapIs W1 w.heap.size 0 (fun _ => none) := m0.same (kb _ (by omega))
      obtain ⟨W2, hW2⟩ : ∃ W2, W2 = W1.alloc (.cells #[.map none, .bool false, .int .i64 0] 78) := ⟨_, rfl⟩
      have b2 : Below W1.heap.size W1 W2 := by rw [hW2]; exact (Below.refl _ _).alloc (Nat.le_refl _) _
      have hnb : W2.heap[w.heap.size + 1]? = some (.cells #[.map none, .bool false, .int .i64 0] 78 (0, 0)) := by rw [hW2, ← z1]; exact heap_alloc_new _ _
      have z2 : W2.heap.size = w.heap.size + 2 := by rw [hW2]; simp [z1]
      have m2 : MapIs W2 w.heap.size 0 (fun _ => none) := m1.same (b2.block _ (by omega))
      obtain ⟨w3, hup, hm3, hg⟩ := m2.put (by unfold maxLen; omega) x (w.heap.size + 1)
      have hall : ∀ y, N (p ++ [y]) = none := fun y => by
        cases hy : N (p ++ [y]) with
        | none => rfl
        | some d => obtain ⟨m, h⟩ := T.up _ _ _ hy; rw [hm] at h; cases h
      have Hrest : Hid (Grew w B t N M V c k (p ++ [x]) (.returned (.pointer (some ⟨w.heap.size + 1, 0, none⟩))) w3) := by
        have hoth : ∀ d, d < w.heap.size → d ≠ b → w3.heap[d]? = w.heap[d]? := fun d h1 h2 => (hg.block d (by omega) (by simp; omega)).trans ((b2.block d (by omega)).trans ((kb d h2).trans (b0.block d h1)))
        have hbb : w3.heap[b]? = W1.heap[b]? := (hg.block b (by omega) (by simp; omega)).trans (b2.block b (by omega))
        have hnode : NodeIs w3 (w.heap.size + 1) none none := by
          have e : w3.heap[w.heap.size + 1]? = some (.cells #[.map none, .bool false, .int .i64 0] 78 (0, 0)) := (hg.block _ (by omega) (by simp)).trans hnb
          refine ⟨?_, ?_, ?_, fun i => ?_, fun cs z => ?_⟩
          all_goals first | simp [World.cell?, e] | simp [World.frozen?, e] | simp [e]
        have hMlt : ∀ q m, M q = some m → m < w.heap.size := fun q m h => (T.maps q m h).lt
        refine ⟨w.heap.size + 1, _, _, rfl, T.grown (m := w.heap.size) hp hn (fun m0 h => by rw [hm] at h; cases h) hBw (fun q h => by have := hMlt _ _ h; omega) (by omega) ((World.cell?_of_block (a := ⟨b, 0, none⟩) hbb).trans k0)
          ((World.cell?_of_block (a := ⟨b, 1, none⟩) hbb).trans (k1 1 (by decide))) ((World.cell?_of_block (a := ⟨b, 2, none⟩) hbb).trans (k1 2 (by decide))) ((World.cell?_of_block (a := ⟨b, 3, none⟩) hbb).trans (k1 3 (by decide))) (fun i => (World.frozen?_of_block (a := ⟨b, i, none⟩) hbb).trans (kf i)) (fun cs z => by rw [hbb, hW1]; exact tag_set (fun cs z => by rw [b0.block b hbl]; exact HO.out.tg cs z) _ _ cs z)
          (fun d h1 h2 _ => hoth d h1 h2) ((hm3.mono (by omega)).congr fun y => by rw [hall y]) hnode hBw (fun q d h => by have := (T.node q d h).lt; omega), by simp, fun r => ?_, ?_, fun d hd hf => ⟨fun q => ?_, ?_⟩⟩
        · by_cases hr : r = p ++ [x]
          · subst hr; simp
          · simp [hr]
        · exact ⟨hg.os.trans (b2.os.trans (by rw [hW1]; exact b0.os)), hg.tape.trans (b2.tape.trans (by rw [hW1]; exact b0.tape)), hg.output.trans (b2.output.trans (by rw [hW1]; exact b0.output)), by have := hg.size; omega, fun d hd => hoth d (by omega) (by have := T.hB _ _ hp; omega)⟩
        · constructor
          · show ¬ (if _ then _ else _) = _
            split
            · simp; omega
            · exact (hf q).1
          · show ¬ (if _ then _ else _) = _
            split
            · simp; omega
            · exact (hf q).2
        · exact hoth d hd (fun e => (hf p).1 (by rw [e]; exact hp))
      rw [hW2, hW1, hW0, World.setCell_alloc_past _ _ _ _ hbl] at hup
      clear b0 z0 m0 z1 e0 k0 k1 kf kb m1 b2 hnb z2 m2 hm3 hg hall T hW0 hW1 hW2 hm
      have hq := eql76 none w
      simp only [Option.isNone_none] at hq
      have hmm := @run_makeMap Tryd.prog
      go_enter Tryd.func58, Tryd.ntmps58
      go_wp2_with fail
      go_ret
      exact Hrest.out
end Go.Proofs.YtaadphifagimaaaDoor
