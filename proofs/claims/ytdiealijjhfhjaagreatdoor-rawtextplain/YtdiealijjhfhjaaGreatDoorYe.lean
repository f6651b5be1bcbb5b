/- Bytes and characters, plainly: how many bytes a first byte asks for, the longest row of bytes that begins a character, the characters of a text; the decoder's state as the bytes that wait; that however it is fed, the characters are the same. -/
import Derived.Test.YtdiealijjhfhjaaGreatDoorZg
namespace Go.Proofs.YtdiealijjhfhjaaGreatDoor.G4
open Go.RowKit
theorem run_append : ∀ (s r u : List UInt8), run u (s ++ r) = ((run (run u s).1 r).1, (run u s).2 ++ (run (run u s).1 r).2)
  | [], r, u => rfl
  | b :: s, r, u => by
    rw [List.cons_append, run, run_append s r]
    simp [run]
end Go.Proofs.YtdiealijjhfhjaaGreatDoor.G4
namespace Go.Proofs.YtdiealijjhfhjaaGreatDoor.G4
open Go.RowKit
def Ch0 : Ch := ⟨0, 0, 0⟩
def off (w : Ch) : Ch := if w.a < w.z then Ch0 else w
def ts (w c : Ch) : Ch × List Ch :=
  if c.r = 10 ∧ w.a < w.z then (Ch0, [⟨w.r, w.a, c.z⟩]) else if c.r = 13 then (⟨10, c.a, c.z⟩, rel w) else (off w, rel w ++ [⟨if c.r = 0 then 65533 else c.r, c.a, c.z⟩])
def tsL : Ch → List Ch → Ch × List Ch
  | w, [] => (w, [])
  | w, c :: l => ((tsL (ts w c).1 l).1, (ts w c).2 ++ (tsL (ts w c).1 l).2)
theorem tsL_append : ∀ (a b : List Ch) (w : Ch), tsL w (a ++ b) = ((tsL (tsL w a).1 b).1, (tsL w a).2 ++ (tsL (tsL w a).1 b).2)
  | [], b, w => by simp [tsL]
  | c :: a, b, w => by
    rw [List.cons_append, tsL, tsL_append a b, tsL]
    simp
theorem rel_len (w : Ch) : (rel w).length ≤ 1 := by unfold rel; split <;> simp
theorem ts_len (w c : Ch) : (ts w c).2.length ≤ 2 := by
  have := rel_len w
  unfold ts
  split
  · simp
  · split
    · show (rel w).length ≤ 2; omega
    · simp; omega
theorem tsL_len : ∀ (l : List Ch) (w : Ch), (tsL w l).2.length ≤ 2 * l.length
  | [], w => by simp [tsL]
  | c :: l, w => by
    have := ts_len w c
    have := tsL_len l (ts w c).1
    simp only [tsL, List.length_append, List.length_cons]
    omega
theorem run_range (s u : List UInt8) (hu : pend u) : ∀ x ∈ (run u s).2, x.1 = -1 ∨ (0 ≤ x.1 ∧ x.1 ≤ 1000000000) := by
  obtain ⟨_, r2, _, _⟩ := run_ok s u hu
  intro x hx
  exact items_range _ _ (Nat.le_refl _) x (by rw [r2]; simp [hx])
theorem fin_range (u : List UInt8) : ∀ x ∈ fin u, x.1 = -1 ∨ (0 ≤ x.1 ∧ x.1 ≤ 1000000000) := by
  intro x hx
  unfold fin at hx
  split at hx
  · simp at hx
  · simp at hx; subst hx; exact .inl rfl
end Go.Proofs.YtdiealijjhfhjaaGreatDoor.G4
namespace Go.Proofs.YtdiealijjhfhjaaGreatDoor.G4
open Go.RowKit
def DecIs (d : Nat) (p q : Int) (f : F) (w : World) : Prop :=
  w.heap[d]? = some (.cells #[.int .i64 p, .int .i64 q, .int .i64 f.bits, .int .i64 f.more, .int .u8 (f.lo : Nat), .int .u8 (f.hi : Nat)] 115 (0, 0))
structure Told (B t : Nat) (cs : List Ch) (fs : List Int) (w : World) : Prop where
  hB : B ≤ t
  blk : ∃ cv fv, w.heap[t]? = some (.cells #[cv, fv] 136 (0, 0)) ∧ w.ownsRow B 44 3 cv cs.length (cs.flatMap Ch.cells) ∧ w.ownsRow B 57 2 fv fs.length (fs.flatMap fcells)
structure Turn (B d : Nat) (w w' : World) : Prop where
  os : w'.os = w.os
  tape : w'.tape = w.tape
  output : w'.output = w.output
  size : w.heap.size ≤ w'.heap.size
  block : ∀ k, k < w.heap.size → k < B → k ≠ d → w'.heap[k]? = w.heap[k]?
theorem Turn.refl (B d : Nat) (w : World) : Turn B d w w := ⟨rfl, rfl, rfl, Nat.le_refl _, fun _ _ _ _ => rfl⟩
theorem Turn.trans {B d : Nat} {a b c : World} (h : Turn B d a b) (k : Turn B d b c) : Turn B d a c :=
  ⟨k.os.trans h.os, k.tape.trans h.tape, k.output.trans h.output, Nat.le_trans h.size k.size, fun i h1 h2 h3 => (k.block i (Nat.lt_of_lt_of_le h1 h.size) h2 h3).trans (h.block i h1 h2 h3)⟩
theorem Turn.ofBelow {B C d : Nat} {w w' : World} (h : Below C w w') (hC : B ≤ C) : Turn B d w w' := ⟨h.os, h.tape, h.output, h.size, fun k _ hk _ => h.block k (by omega)⟩
theorem Turn.ofOld {B d : Nat} {w w' : World} (h : Below w.heap.size w w') : Turn B d w w' := ⟨h.os, h.tape, h.output, h.size, fun k hk _ _ => h.block k hk⟩
theorem Turn.drew {B d : Nat} {w w' : World} (h : Turn B d w w') : Turn B d w w'.drew := ⟨h.os, h.tape, h.output, h.size, h.block⟩
theorem Turn.setCell {B d : Nat} {w w' : World} (h : Turn B d w w') {p : Addr} (hp : p.block = d ∨ B ≤ p.block) (u : Value) : Turn B d w (w'.setCell p u) :=
  h.trans ⟨rfl, rfl, rfl, by simp [World.setCell], fun k _ hB hd => Below.heap_setCell _ _ _ _ (fun e => by omega)⟩
theorem grown_of_drew {w w' : World} {r : Option Nat} (h : w.drew.grownBy w' r) : w.grownBy w' r := ⟨h.os, h.tape, h.output, h.size, h.block⟩
theorem row_grow {B t e size bytes n : Nat} {z : Value} {W : World} {ao : Option Addr} {c : Nat} {xs news : List Value} (ht : Tryz.prog.underlying t = some (.slice e)) (hinfo : (Tryz.prog.info? e).map (fun i => (i.zero, i.size, i.bytes)) = some (some z, size, bytes))
    (hzs : z.cells.size = size) (hsz : 0 < size) (hb : bytes ≤ 32) (hown : W.ownsRow B e size (.slice ao n c) n xs) (hB : B ≤ W.heap.size) (hn : n ≤ 1000000) (hl : news.length = size) (h1 : ∀ u ∈ news, u.oneCell' = true) :
    ∃ ao' c' W', (Builtin.append_ #[t, t] t #[.slice ao n c, .slice (some ⟨W.heap.size, 0, none⟩) 1 1]).run Tryz.prog (W.alloc (.cells news.toArray e)).drew = .ok (.slice ao' (n + 1) c') W' ∧
      W'.ownsRow B e size (.slice ao' (n + 1) c') (n + 1) (xs ++ news) ∧ Below B W W' ∧ (∀ (k : Nat) (cur : Array Value) (e' : TypeId) (m : Nat × Nat), e' ≠ e → W.heap[k]? = some (Obj.cells cur e' m) → W'.heap[k]? = some (Obj.cells cur e' m)) := by
  obtain ⟨i0, hi0, hz0, hzs0, hzb⟩ := info_parts hinfo
  obtain ⟨W1, hW1⟩ : ∃ W1, W1 = W.alloc (.cells news.toArray e) := ⟨_, rfl⟩
  have hbe : Below W.heap.size W W1 := by rw [hW1]; exact (Below.refl _ _).alloc (Nat.le_refl _) _
  have hnew : W1.heap[W.heap.size]? = some (.cells news.toArray e (0, 0)) := by rw [hW1]; exact heap_alloc_new _ _
  have ho1 : W1.ownsRow B e size (.slice ao n c) n xs := own_below hown hbe
  have hz : W1.heap.size = W.heap.size + 1 := by rw [hW1]; simp
  obtain ⟨v', W', hrun, ho, hg, _⟩ := run_append_own (P := Tryz.prog) W1.drew B t t e i0 _ size bytes ht hi0 hz0 hzs0 hzb hzs hsz (.slice ao n c) n xs ho1 ⟨W.heap.size, 0, none⟩ 1 1 news (by omega)
    (fun j u hj => by
      rw [Addr.add_lit, Nat.zero_add]
      simp only [World.cell?_drew]
      simp [World.cell?, hnew]; exact hj)
    h1 (by unfold maxLen; omega) (by have := Nat.mul_le_mul (show n + 1 ≤ 1000001 by omega) hb; omega) (by show B ≤ W1.heap.size; omega)
  obtain ⟨ao', c', rfl, _, _⟩ := own_form ho
  have hg1 : W1.grownBy W' (Value.slice ao n c).ownBlock := grown_of_drew hg
  have hrow : ∀ k, (Value.slice ao n c).ownBlock = some k → B ≤ k ∧ k < W.heap.size ∧ ∃ cu, W1.heap[k]? = some (.cells cu e (0, 0)) := fun k hk => by
    rcases hown.2 with ⟨hv, _⟩ | ⟨g, cap, cur, hv, hB', hgb, _⟩
    · rw [hv] at hk; simp [Value.ownBlock] at hk
    · rw [hv] at hk; simp [Value.ownBlock] at hk; subst hk
      have hlt := (Array.getElem?_eq_some_iff.1 hgb).1
      exact ⟨hB', hlt, cur, by rw [hbe.block g hlt]; exact hgb⟩
  refine ⟨ao', c', W', by rw [← hW1]; exact hrun, ho, ?_, ?_⟩
  · refine ⟨hg1.os.trans hbe.os, hg1.tape.trans hbe.tape, hg1.output.trans hbe.output, Nat.le_trans hbe.size hg1.size, fun k hk => ?_⟩
    rw [hg1.block k (by omega) (fun e => by have := (hrow k e.symm).1; omega), hbe.block k (by omega)]
  · intro k cur e' m hne hk
    have hlt := (Array.getElem?_eq_some_iff.1 hk).1
    rw [hg1.block k (by omega) (fun e2 => by
      obtain ⟨_, _, cu, hc⟩ := hrow k e2.symm
      rw [hbe.block k hlt, hk] at hc; simp at hc; exact hne hc.2.1), hbe.block k hlt]
    exact hk
theorem step_append_eq {P : Program} {ops : Array Oper} {o : Oper} {a : Act} {w : World} {K : Act → World → Prop} {Q : Exit → Act → World → Prop} {E : Prop}
    (hg : o.guard = none) (d x : Operand) (dT sT : TypeId) (hop : o.op = Op.call { callee := Callee.builtin Builtin.append, args := #[d, x], argTypes := #[dT, sT] })
    (v u : Value) (hd : a.eval d = v) (hx : a.eval x = u) {v' : Value} {w' : World} (hr : (Builtin.append_ #[dT, sT] o.type #[v, u]).run P w = .ok v' w') (hK : K (a.put o.dst v') w') :
    if Region.wanted o (yielded ops a.tmps) = true then Oper.wp P o a w K Q else E := by
  have hw : Region.wanted o (yielded ops a.tmps) = true := by simp [Region.wanted, hg]
  rw [if_pos hw]
  unfold Oper.wp
  simp [execOp, hop, resolve, invoke, builtin, hd, hx, hr, Result.andThen]
  exact hK
theorem dec_cells {d : Nat} {p q : Int} {f : F} {w : World} (h : DecIs d p q f w) : d < w.heap.size ∧ w.cell? ⟨d, 0, none⟩ = some (.int .i64 p) ∧ w.cell? ⟨d, 1, none⟩ = some (.int .i64 q) ∧ w.cell? ⟨d, 2, none⟩ = some (.int .i64 f.bits) ∧ w.cell? ⟨d, 3, none⟩ = some (.int .i64 f.more) ∧
    w.cell? ⟨d, 4, none⟩ = some (.int .u8 (f.lo : Nat)) ∧ w.cell? ⟨d, 5, none⟩ = some (.int .u8 (f.hi : Nat)) ∧ ∀ i, w.frozen? ⟨d, i, none⟩ = false := by
  unfold DecIs at h
  refine ⟨(Array.getElem?_eq_some_iff.1 h).1, ?_, ?_, ?_, ?_, ?_, ?_, fun i => ?_⟩
  all_goals first | simp [World.cell?, h] | simp [World.frozen?, h]
theorem dec_below {d : Nat} {p q : Int} {f : F} {w w' : World} (h : DecIs d p q f w) (b : Below w.heap.size w w') : DecIs d p q f w' := (b.block d (dec_cells h).1).trans h
theorem told_below {B t : Nat} {cs : List Ch} {fs : List Int} {w w' : World} (h : Told B t cs fs w) (b : Below w.heap.size w w') : Told B t cs fs w' := by
  obtain ⟨cv, fv, hb, h1, h2⟩ := h.blk
  exact ⟨h.hB, cv, fv, (b.block t (Array.getElem?_eq_some_iff.1 hb).1).trans hb, own_below h1 b, own_below h2 b⟩
end Go.Proofs.YtdiealijjhfhjaaGreatDoor.G4
namespace Go.Proofs.YtdiealijjhfhjaaGreatDoor.G4
open Go.RowKit
def F.val (f : F) : Value := .agg #[.int .i64 f.bits, .int .i64 f.more, .int .u8 (f.lo : Nat), .int .u8 (f.hi : Nat)]
theorem form_eq {a b c d : Int} {f : F} (h1 : a = f.bits) (h2 : b = f.more) (h3 : c = (f.lo : Nat)) (h4 : d = (f.hi : Nat)) : Ending.returned (.agg #[.int .i64 a, .int .i64 b, .int .u8 c, .int .u8 d]) = Ending.returned f.val := by
  unfold F.val; rw [h1, h2, h3, h4]
theorem info113 : (Tryz.prog.info? 113).map (·.size) = some 4 := by kernel_rfl
set_option maxRecDepth 20000 in
set_option maxHeartbeats 400000 in
theorem with_any (f : F) (b : UInt8) (w : World) (h0 : 0 ≤ f.bits) (h1 : f.bits ≤ 1000000000) (m0 : 0 ≤ f.more) (m1 : f.more ≤ 10) :
    Calls Tryz.prog 202 #[f.val, .int .u8 (b.toNat : Nat)] w fun e w' => e = .returned (withF f b).val ∧ Below w.heap.size w w' := by
  obtain ⟨x, y, l, h⟩ := f
  simp only at h0 h1 m0 m1
  show Calls Tryz.prog 202 #[.agg #[.int .i64 x, .int .i64 y, .int .u8 (l : Nat), .int .u8 (h : Nat)], .int .u8 (b.toNat : Nat)] w _
  go_enter Tryz.func202, Tryz.ntmps202
  go_wp2
  refine bodyPost_ret (v := .agg #[.int .i64 (bits .or .i64 (x * 64) (wrap64 (bits .and .u8 (b.toNat : Nat) 63))), .int .i64 (y - 1), .int .u8 128, .int .u8 191]) (by simp [results, Tryz.results202, go_sem]) rfl ⟨form_eq (add6_eq x b h0 h1) rfl rfl rfl, ?_⟩
  exact ((Below.refl _ _).alloc (Nat.le_refl _) _).alloc (by simp) _
set_option maxRecDepth 20000 in
set_option maxHeartbeats 400000 in
theorem fits_any (f : F) (b : UInt8) (w : World) :
    Calls Tryz.prog 201 #[f.val, .int .u8 (b.toNat : Nat)] w fun e w' => e = .returned (.bool (fitsF f b.toNat)) ∧ Below w.heap.size w w' := by
  obtain ⟨x, y, l, h⟩ := f
  show Calls Tryz.prog 201 #[.agg #[.int .i64 x, .int .i64 y, .int .u8 (l : Nat), .int .u8 (h : Nat)], .int .u8 (b.toNat : Nat)] w _
  go_enter Tryz.func201, Tryz.ntmps201
  go_wp2
  · rename_i hl
    go_ret
    refine ⟨?_, (Below.refl _ _).alloc (Nat.le_refl _) _⟩
    simp [fitsF, hl]
  · rename_i hl
    go_ret
    refine ⟨?_, (Below.refl _ _).alloc (Nat.le_refl _) _⟩
    simp [fitsF, hl]
theorem beg1 (n : Nat) (h : n < 128) : begF n = ⟨n, 0, 0, 0⟩ := by unfold begF; rw [if_pos h]
theorem beg2 (n : Nat) (h : 128 ≤ n ∧ (n < 194 ∨ 244 < n)) : begF n = ⟨-1, 0, 0, 0⟩ := by unfold begF; rw [if_neg (by omega), if_pos h.2]
theorem beg3 (n : Nat) (h : 194 ≤ n ∧ n < 224) : begF n = ⟨(n % 32 : Nat), 1, 128, 191⟩ := by unfold begF; rw [if_neg (by omega), if_neg (by omega), if_pos h.2]
theorem beg4 (n : Nat) (h : n = 224) : begF n = ⟨0, 2, 160, 191⟩ := by subst h; rfl
theorem beg5 (n : Nat) (h : n = 237) : begF n = ⟨13, 2, 128, 159⟩ := by subst h; rfl
theorem beg6 (n : Nat) (h : 224 < n ∧ n < 240 ∧ n ≠ 237) : begF n = ⟨(n % 16 : Nat), 2, 128, 191⟩ := by unfold begF; rw [if_neg (by omega), if_neg (by omega), if_neg (by omega), if_neg (by omega), if_neg (by omega), if_pos (by omega)]
theorem beg7 (n : Nat) (h : n = 240) : begF n = ⟨0, 3, 144, 191⟩ := by subst h; rfl
theorem beg8 (n : Nat) (h : n = 244) : begF n = ⟨4, 3, 128, 143⟩ := by subst h; rfl
theorem beg9 (n : Nat) (h : 240 < n ∧ n < 244) : begF n = ⟨(n % 8 : Nat), 3, 128, 191⟩ := by unfold begF; rw [if_neg (by omega), if_neg (by omega), if_neg (by omega), if_neg (by omega), if_neg (by omega), if_neg (by omega), if_neg (by omega), if_neg (by omega)]
set_option maxRecDepth 20000 in
set_option maxHeartbeats 1000000 in
set_option maxRecDepth 10000 in
theorem begin_any (b : UInt8) (w : World) :
    Calls Tryz.prog 200 #[.int .u8 (b.toNat : Nat)] w fun e w' => e = .returned (begF b.toNat).val ∧ Below w.heap.size w w' := by
  have hb := UInt8.toNat_lt b
  obtain ⟨n, hn⟩ : ∃ n, b.toNat = n := ⟨_, rfl⟩
  rw [hn] at hb ⊢
  clear hn
  go_enter Tryz.func200, Tryz.ntmps200
  go_wp2
  all_goals
    refine bodyPost_ret (results_cell_row Tryz.results200 _ _ w.heap.size 113 #[.int .i64 _, .int .i64 _, .int .u8 _, .int .u8 _] (0, 0) _ rfl (heap_alloc_new _ _) Tryz.underlying113 rfl info113) rfl ⟨?_, (Below.refl _ _).alloc (Nat.le_refl _) _⟩
    (try simp only [beq_iff_eq, beq_eq_false_iff_ne, ne_eq] at *)
    first
      | (rw [beg1 n (by omega)]; rfl)
      | (rw [beg2 n (by omega)]; rfl)
      | (rw [beg3 n (by omega)]; rfl)
      | (rw [beg4 n (by omega)]; rfl)
      | (rw [beg5 n (by omega)]; rfl)
      | (rw [beg6 n (by omega)]; rfl)
      | (rw [beg7 n (by omega)]; rfl)
      | (rw [beg8 n (by omega)]; rfl)
      | (rw [beg9 n (by omega)]; rfl)
end Go.Proofs.YtdiealijjhfhjaaGreatDoor.G4
