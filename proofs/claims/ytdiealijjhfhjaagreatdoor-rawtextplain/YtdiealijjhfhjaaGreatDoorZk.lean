/- hold, fault, tell, tellChar, release, toData. -/
import Derived.Test.YtdiealijjhfhjaaGreatDoorZj
import Derived.Laws.EntriesVeiled
namespace Go.Proofs.YtdiealijjhfhjaaGreatDoor
open Go.RowKit
theorem step_append_eq {P : Program} {ops : Array Oper} {o : Oper} {a : Act} {w : World} {K : Act → World → Prop} {Q : Exit → Act → World → Prop} {E : Prop}
    (hg : o.guard = none) (d x : Operand) (dT sT : TypeId) (hop : o.op = Op.call { callee := Callee.builtin Builtin.append, args := #[d, x], argTypes := #[dT, sT] })
    (v u : Value) (hd : a.eval d = v) (hx : a.eval x = u) {v' : Value} {w' : World} (hr : (Builtin.append_ #[dT, sT] o.type #[v, u]).run P w = .ok v' w') (hK : K (a.put o.dst v') w') :
    if Region.wanted o (yielded ops a.tmps) = true then Oper.wp P o a w K Q else E := by
  have hw : Region.wanted o (yielded ops a.tmps) = true := by simp [Region.wanted, hg]
  rw [if_pos hw]
  unfold Oper.wp
  simp [execOp, hop, resolve, invoke, builtin, hd, hx, hr, Result.andThen]
  exact hK
theorem list_append_eq {P : Program} {ops : Array Oper} {rest : List Oper} {o : Oper} {a : Act} {w : World} {Q : Exit → Act → World → Prop}
    (hg : o.guard = none) (d x : Operand) (dT sT : TypeId) (hop : o.op = Op.call { callee := Callee.builtin Builtin.append, args := #[d, x], argTypes := #[dT, sT] })
    (v u : Value) (hd : a.eval d = v) (hx : a.eval x = u) {v' : Value} {w' : World} (hr : (Builtin.append_ #[dT, sT] o.type #[v, u]).run P w = .ok v' w') (hK : wpList P ops Q rest (a.put o.dst v') w') :
    wpList P ops Q (o :: rest) a w :=
  wpList_plain hg fun K hK2 => by
    unfold Oper.wp
    simp [execOp, hop, resolve, invoke, builtin, hd, hx, hr, Result.andThen]
    exact hK2 _ _ hK
theorem info37 : (Tryz.prog.info? 44).map (fun i => (i.zero, i.size, i.bytes)) = some (some (.agg #[.int .i64 0, .int .i64 0, .int .i64 0]), 3, 24) := by kernel_rfl
theorem info58 : (Tryz.prog.info? 57).map (fun i => (i.zero, i.size, i.bytes)) = some (some (.agg #[.int .i64 0, .int .i64 0]), 2, 16) := by kernel_rfl
theorem info45 : (Tryz.prog.info? 42).map (fun i => (i.zero, i.size, i.bytes)) = some (some (.agg #[.int .i64 0, .int .i64 0, .string ByteArray.empty, .string ByteArray.empty, .slice none 0 0, .bool false, .int .i64 0, .int .i64 0]), 8, 96) := by kernel_rfl
theorem info49 : (Tryz.prog.info? 108).map (fun i => (i.zero, i.size, i.bytes)) = some (some (.agg #[.string ByteArray.empty, .string ByteArray.empty]), 2, 32) := by kernel_rfl
theorem info5 : (Tryz.prog.info? 5).map (fun i => (i.zero, i.size, i.bytes)) = some (some (.int .u8 0), 1, 1) := by kernel_rfl
theorem run_store_tag (P : Program) (g o : Nat) (t : TypeId) (z : Nat × Nat) : ∀ (vs : List Value) (i : Nat) (cur : Array Value) (w : World), w.heap[g]? = some (.cells cur t z) → cur.size ≤ z.1 → o + i + vs.length ≤ cur.size → (∀ v ∈ vs, v.oneCell' = true) →
    (storeCells ⟨g, o, none⟩ vs i).run P w = .ok () (w.setRow g (cur.toList.take (o + i) ++ vs ++ cur.toList.drop (o + i + vs.length)).toArray)
  | [], i, cur, w, hg, _, _, _ => by
    simp only [storeCells, List.append_nil, List.length_nil, Nat.add_zero, List.take_append_drop, Array.toArray_toList]
    rw [setRow_self w g cur t z hg]
    rfl
  | v :: rest, i, cur, w, hg, hz, hl, h1 => by
    have hi : o + i < cur.size := by simp at hl; omega
    have hadd : (⟨g, o, none⟩ : Addr).add i = ⟨g, o + i, none⟩ := by unfold Addr.add; split <;> simp_all
    have hcell : w.cell? ⟨g, o + i, none⟩ = some cur[o + i] := by simp [World.cell?, hg, hi]
    have hfro : w.frozen? ⟨g, o + i, none⟩ = false := by
      simp only [World.frozen?, hg, Bool.and_eq_false_iff, decide_eq_false_iff_not]
      left
      omega
    have hst : (store ((⟨g, o, none⟩ : Addr).add i) v).run P w = .ok () (w.setRow g (cur.setIfInBounds (o + i) v)) := by
      rw [hadd, run_store P w _ v _ (h1 v (by simp)), hcell]
      simp [hfro, setCell_eq_setRow w g (o + i) cur t z v hg]
    have ih := run_store_tag P g o t z rest (i + 1) (cur.setIfInBounds (o + i) v) (w.setRow g (cur.setIfInBounds (o + i) v)) (setRow_heap w g cur _ t _ hg) (by simpa using hz) (by simp at hl ⊢; omega) (fun x hx => h1 x (by simp [hx]))
    simp only [storeCells, Sem.run_bind, hst, Result.andThen_ok, ih, setRow_setRow]
    congr 3
    have e := list_seg_step cur.toList (o + i) v rest (by simp at hl ⊢; omega)
    simpa [Array.toList_setIfInBounds, Nat.add_assoc] using e
theorem run_room_tag {P : Program} (w : World) (t ty e : TypeId) (i : TypeInfo) (ht : P.underlying t = some (.slice e)) (hi : P.info? e = some i) (g sLen sCap : Nat) (cur : Array Value) (z : Nat × Nat) (hg : w.heap[g]? = some (.cells cur e z)) (hz : cur.size ≤ z.1)
    (a : Addr) (m c : Nat) (news : List Value) (hl : news.length = m * i.size) (hnews : ∀ j u, news[j]? = some u → w.cell? (a.add j) = some u) (h1 : ∀ u ∈ news, u.oneCell' = true) (hroom : sLen + m ≤ sCap) (hfit : sLen * i.size + news.length ≤ cur.size) :
    (Builtin.append_ #[t, t] ty #[.slice (some ⟨g, 0, none⟩) sLen sCap, .slice (some a) m c]).run P w = .ok (.slice (some ⟨g, 0, none⟩) (sLen + m) sCap) (w.setRow g (cur.toList.take (sLen * i.size) ++ news ++ cur.toList.drop (sLen * i.size + news.length)).toArray) ∧
    (w.setRow g (cur.toList.take (sLen * i.size) ++ news ++ cur.toList.drop (sLen * i.size + news.length)).toArray).heap[g]? = some (.cells (cur.toList.take (sLen * i.size) ++ news ++ cur.toList.drop (sLen * i.size + news.length)).toArray e z) := by
  have hf := run_firstCells_some (P := P) w i.size m a m c news hl hnews
  have hst := run_store_tag P g (sLen * i.size) e z news 0 cur w hg hz (by simpa using hfit) h1
  simp only [Nat.add_zero] at hst
  exact ⟨by simp [Builtin.append_, run_underlying ht, sizeOf, typeInfo, hi, Builtin.lenOf, hroom, hf, Addr.add_lit, hst], setRow_heap w g cur _ e _ hg⟩
theorem row_app {t e size bytes : Nat} {z0 : Value} (ht : Tryz.prog.underlying t = some (.slice e)) (hinfo : (Tryz.prog.info? e).map (fun i => (i.zero, i.size, i.bytes)) = some (some z0, size, bytes)) (hzs : z0.cells.size = size) (hsz : 0 < size) (hb : bytes ≤ 96)
    {W : World} {v : Value} {n : Nat} {xs : List Value} {q : Bool} (hown : OwnQ W q e size v n xs) (b off k c : Nat) (news : List Value) (hl : news.length = k * size) (hc : ∀ j u, news[j]? = some u → W.cell? ⟨b, off + j, none⟩ = some u) (h1 : ∀ u ∈ news, u.oneCell' = true) (hn : n + k ≤ 1400000000000) :
    ∃ v' W', (Builtin.append_ #[t, t] t #[v, .slice (some ⟨b, off, none⟩) k c]).run Tryz.prog W = .ok v' W' ∧ OwnQ W' q e size v' (n + k) (xs ++ news) ∧ W.grownBy W' v.ownBlock ∧ (v'.ownBlock = v.ownBlock ∨ v'.ownBlock = some W.heap.size) := by
  by_cases hq : W.ownsRow 0 e size v n xs
  · obtain ⟨i0, hi0, hz0, hzs0, hzb⟩ := info_parts hinfo
    obtain ⟨v', W', hrun, ho, hg, _, hat⟩ := run_append_own_at (P := Tryz.prog) W 0 t t e i0 _ size bytes ht hi0 hz0 hzs0 hzb hzs hsz v n xs hq ⟨b, off, none⟩ k c news hl (fun j u hj => by rw [Addr.add_lit]; exact hc j u hj) h1 (by unfold maxLen; omega) (by have := Nat.mul_le_mul hn hb; omega) (Nat.zero_le _)
    exact ⟨v', W', hrun, .of ho, hg, hat⟩
  · obtain ⟨i0, hi0, hz0, hzs0, hzb⟩ := info_parts hinfo
    rcases hown.2 with ⟨rfl, hn0⟩ | ⟨g, cap, cur, z, rfl, hg, hz, hnc, hcm, hcs, htake⟩
    · exact absurd ⟨hown.1, .inl ⟨rfl, hn0⟩⟩ hq
    rcases hz with rfl | ⟨hqt, hz⟩
    · exact absurd ⟨hown.1, .inr ⟨g, cap, cur, rfl, Nat.zero_le _, hg, hnc, hcm, hcs, htake⟩⟩ hq
    by_cases hroom : n + k ≤ cap
    · have hfit : n * size + news.length ≤ cur.size := by rw [hl, hcs, ← Nat.add_mul]; exact Nat.mul_le_mul_right _ hroom
      obtain ⟨hr, hW⟩ := run_room_tag (P := Tryz.prog) W t t e i0 ht hi0 g n cap cur z hg hz ⟨b, off, none⟩ k c news (by rw [hzs0]; exact hl) (fun j u hj => by rw [Addr.add_lit]; exact hc j u hj) h1 hroom (by rw [hzs0]; exact hfit)
      rw [hzs0] at hr hW
      refine ⟨_, _, hr, ⟨by rw [List.length_append, hown.1, hl, Nat.add_mul], .inr ⟨g, cap, _, z, rfl, hW, .inr ⟨hqt, ?_⟩, hroom, hcm, ?_, ?_⟩⟩, ⟨rfl, rfl, rfl, by simp, fun d _ hd => setRow_other W g d _ (fun e => hd (by simp [Value.ownBlock, e]))⟩, .inl rfl⟩
      · simp only [List.size_toArray, List.length_append, List.length_take, List.length_drop, Array.length_toList]
        omega
      · simp only [List.size_toArray, List.length_append, List.length_take, List.length_drop, Array.length_toList]
        omega
      · rw [htake, show (n + k) * size = (xs ++ news).length by rw [List.length_append, hown.1, hl, Nat.add_mul]]
        exact List.take_left
    · have holds : ∀ j u, xs[j]? = some u → W.cell? ((⟨g, 0, none⟩ : Addr).add j) = some u := fun j u hj => by
        rw [Addr.add_lit, Nat.zero_add]
        have hjl := (List.getElem?_eq_some_iff.1 hj).1
        rw [← htake, List.getElem?_take_of_lt (by rw [← hown.1]; exact hjl), Array.getElem?_toList] at hj
        simp [World.cell?, hg, hj]
      have hr := run_append_grow (P := Tryz.prog) W t t e i0 z0 ht hi0 hz0 ⟨g, 0, none⟩ n cap xs (by rw [hzs0]; exact hown.1) holds ⟨b, off, none⟩ k c news (by rw [hzs0]; exact hl) (fun j u hj => by rw [Addr.add_lit]; exact hc j u hj) (by omega) (by omega) (growslice_fits (by omega) (by rw [hzb]; have := Nat.mul_le_mul hn hb; omega))
      have hge := grownCap_ge W (n + k) cap e
      refine ⟨_, _, hr, .of (B := 0) ⟨by rw [List.length_append, hown.1, hl, Nat.add_mul], .inr ⟨W.heap.size, _, _, rfl, Nat.zero_le _, heap_alloc_new W.drew _, hge, grownCap_le_maxLen W (n + k) cap e (by unfold maxLen; omega), ?_, ?_⟩⟩, ⟨rfl, rfl, rfl, by simp, fun d hd _ => Below.heap_alloc W.drew _ d hd⟩, .inr rfl⟩
      · simp only [Array.size_append, List.size_toArray, size_zeroCells, hzs, hown.1, hl, ← Nat.add_mul]
        rw [show n + k + (grownCap W (n + k) cap e - (n + k)) = grownCap W (n + k) cap e by omega]
      · simp only [Array.toList_append, List.append_assoc]
        rw [← List.append_assoc, show (n + k) * size = (xs ++ news).length by rw [List.length_append, hown.1, hl, Nat.add_mul]]
        exact List.take_left
theorem fresh_of {a b : Option Nat} {n : Nat} (h : a = b ∨ a = some n) (g : Nat) (hg : a = some g) : b = some g ∨ n ≤ g := by
  rcases h with h | h
  · exact .inl (h ▸ hg)
  · rw [h] at hg; cases hg; exact .inr (Nat.le_refl _)
theorem MachV.appW {Z : Nat → Prop} {S : Nat → Prop} {x : Nat} {m m' : Mc} {v : Vs} {T T' : List TL} {W W1 : World} (h : MachV Z S x m v T W) (b0 : Below W.heap.size W W1) (B : Nat) {t e size bytes : Nat} {z : Value} (ht : Tryz.prog.underlying t = some (.slice e)) (hinfo : (Tryz.prog.info? e).map (fun i => (i.zero, i.size, i.bytes)) = some (some z, size, bytes)) (hzs : z.cells.size = size) (hsz : 0 < size) (hb : bytes ≤ 96)
    (j i : Nat) (u : Value) (n k : Nat) (xs news : List Value) (hnew : W1.heap[B]? = some (.cells news.toArray e (0, 0))) (hj : (m.rows v T)[j]? = some ⟨u, e, size, n, xs, false⟩) (hl : news.length = k * size) (h1 : ∀ u ∈ news, u.oneCell' = true) (hn : n + k ≤ 1400000000000) (mk : Value → Vs)
    (hr : ∀ v', m'.rows (mk v') T' = (m.rows v T).set j ⟨v', e, size, n + k, xs ++ news, false⟩) (hc : ∀ v', (m.cells v).set! i v' = m'.cells (mk v')) (ha : m'.attrs = m.attrs) (hm : ∀ v', (mk v').m = v.m) (hp : ∀ v', (mk v').p = v.p) (hT : T'.map ptOf = m'.out) (htk : ∀ t ∈ T', Stays S W fun w => TkS Z w t.1 t.2) :
    ∃ ao' c' W', (Builtin.append_ #[t, t] t #[u, .slice (some ⟨B, 0, none⟩) k k]).run Tryz.prog W1 = .ok (.slice ao' (n + k) c') W' ∧ MachV Z S x m' (mk (.slice ao' (n + k) c')) T' (W'.setCell ⟨x, i, none⟩ (.slice ao' (n + k) c')) ∧ Keep S W (W'.setCell ⟨x, i, none⟩ (.slice ao' (n + k) c')) ∧
      W'.cell? ⟨x, i, none⟩ = (m.cells v)[i]? ∧ W'.frozen? ⟨x, i, none⟩ = false := by
  have h2 := h.below b0
  obtain ⟨v', W', hrun, ho, hg, hat⟩ := row_app ht hinfo hzs hsz hb (h2.bag.own j _ hj) B 0 k k news hl (fun j u hj => by rw [Nat.zero_add]; simp [World.cell?, hnew]; exact hj) h1 hn
  obtain ⟨ao', c', rfl, _, _⟩ := own_form ho
  obtain ⟨q1, q2, q3, q4⟩ := h2.put j i _ ⟨.slice ao' (n + k) c', e, size, n + k, xs ++ news, false⟩ hj ho (fun g hg2 => fresh_of hat g hg2) hg (hr _) (hc _) ha (hm _) (hp _) hT (fun t ht => (htk t ht).keep (Keep.old b0))
  exact ⟨ao', c', W', hrun, q1, (Keep.old b0).trans q2, q3, q4⟩
theorem MachV.app {Z : Nat → Prop} {S : Nat → Prop} {x : Nat} {m m' : Mc} {v : Vs} {T T' : List TL} {W : World} (h : MachV Z S x m v T W) {t e size bytes : Nat} {z : Value} (ht : Tryz.prog.underlying t = some (.slice e)) (hinfo : (Tryz.prog.info? e).map (fun i => (i.zero, i.size, i.bytes)) = some (some z, size, bytes)) (hzs : z.cells.size = size) (hsz : 0 < size) (hb : bytes ≤ 96)
    (j i : Nat) (u : Value) (n k : Nat) (xs news : List Value) (hj : (m.rows v T)[j]? = some ⟨u, e, size, n, xs, false⟩) (hl : news.length = k * size) (h1 : ∀ u ∈ news, u.oneCell' = true) (hn : n + k ≤ 1400000000000) (mk : Value → Vs)
    (hr : ∀ v', m'.rows (mk v') T' = (m.rows v T).set j ⟨v', e, size, n + k, xs ++ news, false⟩) (hc : ∀ v', (m.cells v).set! i v' = m'.cells (mk v')) (ha : m'.attrs = m.attrs) (hm : ∀ v', (mk v').m = v.m) (hp : ∀ v', (mk v').p = v.p) (hT : T'.map ptOf = m'.out) (htk : ∀ t ∈ T', Stays S W fun w => TkS Z w t.1 t.2) :
    ∃ ao' c' W', (Builtin.append_ #[t, t] t #[u, .slice (some ⟨W.heap.size, 0, none⟩) k k]).run Tryz.prog (W.alloc (.cells news.toArray e)).drew = .ok (.slice ao' (n + k) c') W' ∧ MachV Z S x m' (mk (.slice ao' (n + k) c')) T' (W'.setCell ⟨x, i, none⟩ (.slice ao' (n + k) c')) ∧ Keep S W (W'.setCell ⟨x, i, none⟩ (.slice ao' (n + k) c')) ∧
      W'.cell? ⟨x, i, none⟩ = (m.cells v)[i]? ∧ W'.frozen? ⟨x, i, none⟩ = false :=
  h.appW (((Below.refl _ _).alloc (Nat.le_refl _) _).drew) W.heap.size ht hinfo hzs hsz hb j i u n k xs news (heap_alloc_new W (.cells news.toArray e)) hj hl h1 hn mk hr hc ha hm hp hT htk
theorem MachV.appp {Z : Nat → Prop} {S : Nat → Prop} {x : Nat} {m m' : Mc} {v : Vs} {T T' : List TL} {W : World} (h : MachV Z S x m v T W) {t e size bytes : Nat} {z : Value} (ht : Tryz.prog.underlying t = some (.slice e)) (hinfo : (Tryz.prog.info? e).map (fun i => (i.zero, i.size, i.bytes)) = some (some z, size, bytes)) (hzs : z.cells.size = size) (hsz : 0 < size) (hb : bytes ≤ 96)
    (j i : Nat) (u : Value) (n k : Nat) (xs news : List Value) (hj : (m.rows v T)[j]? = some ⟨u, e, size, n, xs, false⟩) (hl : news.length = k * size) (h1 : ∀ u ∈ news, u.oneCell' = true) (hn : n + k ≤ 1400000000000) (mk : Value → Vs)
    (hr : ∀ v', m'.rows (mk v') T' = (m.rows v T).set j ⟨v', e, size, n + k, xs ++ news, false⟩) (hc : ∀ v', (m.cells v).set! i v' = m'.cells (mk v')) (ha : m'.attrs = m.attrs) (hm : ∀ v', (mk v').m = v.m) (hp : ∀ v', (mk v').p = v.p) (hT : T'.map ptOf = m'.out) (htk : ∀ t ∈ T', Stays S W fun w => TkS Z w t.1 t.2) :
    ∃ ao' c' W', (Builtin.append_ #[t, t] t #[u, .slice (some ⟨W.heap.size, 0, none⟩) k k]).run Tryz.prog (W.alloc (.cells news.toArray e)) = .ok (.slice ao' (n + k) c') W' ∧ MachV Z S x m' (mk (.slice ao' (n + k) c')) T' (W'.setCell ⟨x, i, none⟩ (.slice ao' (n + k) c')) ∧ Keep S W (W'.setCell ⟨x, i, none⟩ (.slice ao' (n + k) c')) ∧
      W'.cell? ⟨x, i, none⟩ = (m.cells v)[i]? ∧ W'.frozen? ⟨x, i, none⟩ = false :=
  h.appW ((Below.refl _ _).alloc (Nat.le_refl _) _) W.heap.size ht hinfo hzs hsz hb j i u n k xs news (heap_alloc_new W (.cells news.toArray e)) hj hl h1 hn mk hr hc ha hm hp hT htk
abbrev cv (c : Ch) : Value := .agg #[.int .i64 c.r, .int .i64 c.a, .int .i64 c.z]
abbrev mp (x : Nat) : Value := .pointer (some ⟨x, 0, none⟩)
abbrev Did (Z : Nat → Prop) (S : Nat → Prop) (x : Nat) (m : Mc) (w : World) (e : Ending) (w' : World) : Prop := e = .returned (.tuple #[]) ∧ Post Z S x m w w'
set_option maxHeartbeats 2000000 in
set_option maxRecDepth 20000 in
theorem hold_any {Z : Nat → Prop} {S : Nat → Prop} {x : Nat} {m : Mc} {w : World} (h : Mach Z S x m w) (c : Ch) (hn : m.tot ≤ 1000000000) : Calls Tryz.prog 70 #[mp x, cv c] w (Did Z S x (m.hold c) w) := by
  obtain ⟨r, p, q⟩ := c
  obtain ⟨v, T, h⟩ := h
  have b0 : Below w.heap.size w (w.alloc (.cells #[.int .i64 r, .int .i64 p, .int .i64 q] 44)) := (Below.refl _ _).alloc (Nat.le_refl _) _
  have h0 := h.below b0
  have hxw := h.lt
  have hx0 := h0.lt
  obtain ⟨k, hk⟩ : ∃ k, m.wait.length = k := ⟨_, rfl⟩
  obtain ⟨ao', c', W', hrun, q1, q2, q3, q4⟩ := h0.app (m' := m.hold ⟨r, p, q⟩) (T' := T) Tryz.underlying35 info37 rfl (by decide) (by decide) 0 5 v.w m.wait.length 1 (m.wait.flatMap G4.Ch.cells) (G4.Ch.cells ⟨r, p, q⟩) rfl rfl (by simp [G4.Ch.cells, Value.oneCell']) (by unfold Mc.tot at hn; omega) (fun u => { v with w := u }) (fun u => by simp [Mc.rows, Mc.hold]) (fun u => by simp [Mc.cells, Mc.hold]) rfl (fun _ => rfl) (fun _ => rfl) h0.told h0.toks
  have c5 := h0.cells 5 v.w rfl
  obtain ⟨ao, ca, e5, _, _⟩ := own_form (h0.bag.own 0 _ rfl)
  simp only at e5
  have q3' : W'.cell? ⟨x, 5, none⟩ = some v.w := q3
  rw [e5, hk] at c5 q3' hrun
  rw [hk] at q1 q2
  have HP : Hid (Post Z S x (m.hold ⟨r, p, q⟩) w (W'.setCell ⟨x, 5, none⟩ (.slice ao' (k + 1) c'))) := Post.of ⟨_, _, q1⟩ ((Keep.old b0).trans q2)
  have d0 : (w.alloc (.cells #[.int .i64 r, .int .i64 p, .int .i64 q] 44)).cell? ⟨w.heap.size, 0, none⟩ = some (.int .i64 r) := by rw [World.cell?_alloc_at _ _ _ _ rfl]; rfl
  have d1 : (w.alloc (.cells #[.int .i64 r, .int .i64 p, .int .i64 q] 44)).cell? ⟨w.heap.size, 1, none⟩ = some (.int .i64 p) := by rw [World.cell?_alloc_at _ _ _ _ rfl]; rfl
  have d2 : (w.alloc (.cells #[.int .i64 r, .int .i64 p, .int .i64 q] 44)).cell? ⟨w.heap.size, 2, none⟩ = some (.int .i64 q) := by rw [World.cell?_alloc_at _ _ _ _ rfl]; rfl
  have hz : w.heap.size < (w.alloc (.cells #[.int .i64 r, .int .i64 p, .int .i64 q] 44)).heap.size := by simp
  clear h h0 q1 q2 q3 e5 b0 hk
  go_enter Tryz.func70, Tryz.ntmps70
  go_wp2_with fail
  generalize hW : w.alloc (.cells #[.int .i64 r, .int .i64 p, .int .i64 q] 44) = W0 at *
  clear hW
  go_region_law (refine step_append_eq rfl _ _ 35 35 rfl _ _ (by simp [Act.eval]) (by simp [Act.eval]) hrun ?_)
  all_goals
    go_wp2_with fail
    refine bodyPost_end (results_none rfl _ _ _) rfl ?_
    exact ⟨rfl, HP.out⟩
set_option maxHeartbeats 2000000 in
set_option maxRecDepth 20000 in
theorem fault_any {Z : Nat → Prop} {S : Nat → Prop} {x : Nat} {m : Mc} {w : World} (h : Mach Z S x m w) (code at' : Int) (hn : m.tot ≤ 1000000000) : Calls Tryz.prog 84 #[mp x, .int .i64 code, .int .i64 at'] w (Did Z S x (m.fault code at') w) := by
  obtain ⟨v, T, h⟩ := h
  have hxw := h.lt
  obtain ⟨k, hk⟩ : ∃ k, m.fs.length = k := ⟨_, rfl⟩
  obtain ⟨ao', c', W', hrun, q1, q2, q3, q4⟩ := h.appp (m' := m.fault code at') (T' := T) Tryz.underlying24 info58 rfl (by decide) (by decide) 8 20 v.f m.fs.length 1 (m.fs.flatMap gcells) (gcells (code, at')) rfl rfl (by simp [gcells, G4.gcells, Value.oneCell']) (by unfold Mc.tot at hn; omega) (fun u => { v with f := u }) (fun u => by simp [Mc.rows, Mc.fault]) (fun u => by simp [Mc.cells, Mc.fault]) rfl (fun _ => rfl) (fun _ => rfl) h.told h.toks
  have c5 := h.cells 20 v.f rfl
  obtain ⟨ao, ca, e5, _, _⟩ := own_form (h.bag.own 8 _ rfl)
  simp only at e5
  have q3' : W'.cell? ⟨x, 20, none⟩ = some v.f := q3
  rw [e5, hk] at c5 q3' hrun
  rw [hk] at q1 q2
  have HP : Hid (Post Z S x (m.fault code at') w (W'.setCell ⟨x, 20, none⟩ (.slice ao' (k + 1) c'))) := Post.of ⟨_, _, q1⟩ q2
  clear h q1 q2 q3 e5 hk
  go_enter Tryz.func84, Tryz.ntmps84
  go_wp2_with (at_builtin; refine list_append_eq rfl _ _ 24 24 rfl _ _ rfl rfl hrun ?_)
  refine bodyPost_end (results_none rfl _ _ _) rfl ?_
  exact ⟨rfl, HP.out⟩
theorem tk_len (x : TL) : (tkCells x).length = 8 := rfl
theorem tk_one (x : TL) : ∀ u ∈ tkCells x, u.oneCell' = true := fun u hu => by
  simp only [tkCells, List.mem_cons, List.not_mem_nil, or_false] at hu
  rcases hu with rfl | rfl | rfl | rfl | rfl | rfl | rfl | rfl <;> rfl
def Told (Z : Nat → Prop) (S : Nat → Prop) (x : Nat) (m : Mc) (v : Vs) (T : List TL) (t : TL) (w : World) (e : Ending) (w' : World) : Prop := e = .returned (.tuple #[]) ∧ ∃ o, MachV Z S x (m.tell (ptOf t)) { v with o := o } (T ++ [t]) w' ∧ Keep S w w'
set_option maxHeartbeats 2000000 in
set_option maxRecDepth 20000 in
theorem tell_v {Z : Nat → Prop} {S : Nat → Prop} {x : Nat} {m : Mc} {v : Vs} {T : List TL} {w : World} (h : MachV Z S x m v T w) (t : TL) (hn : m.tot ≤ 1000000000) (ht : Stays S w fun w => TkS Z w t.1 t.2) : Calls Tryz.prog 53 #[mp x, t.1.val] w (Told Z S x m v T t w) := by
  obtain ⟨⟨tk, tr, tnm, ttx, tao, tn, tcap, ts, tf, tt⟩, A⟩ := t
  have b0 : Below w.heap.size w (w.alloc (.cells #[.int .i64 tk, .int .i64 tr, .string tnm, .string ttx, .slice tao tn tcap, .bool ts, .int .i64 tf, .int .i64 tt] 42)) := (Below.refl _ _).alloc (Nat.le_refl _) _
  have h0 := h.below b0
  have hxw := h.lt
  have hx0 := h0.lt
  obtain ⟨k, hk⟩ : ∃ k, T.length = k := ⟨_, rfl⟩
  have hTk : T.length ≤ 1000000000 := by
    have := congrArg List.length h.told
    rw [List.length_map] at this
    unfold Mc.tot at hn
    omega
  obtain ⟨ao', c', W', hrun, q1, q2, q3, q4⟩ := h0.app (m' := m.tell (ptOf (⟨tk, tr, tnm, ttx, tao, tn, tcap, ts, tf, tt⟩, A))) (T' := T ++ [(⟨tk, tr, tnm, ttx, tao, tn, tcap, ts, tf, tt⟩, A)]) Tryz.underlying23 info45 rfl (by decide) (by decide) 7 19 v.o T.length 1 (T.flatMap tkCells) (tkCells (⟨tk, tr, tnm, ttx, tao, tn, tcap, ts, tf, tt⟩, A)) rfl rfl (tk_one _) (by omega) (fun u => { v with o := u }) (fun u => by simp [Mc.rows, Mc.tell]) (fun u => by simp [Mc.cells, Mc.tell]) rfl (fun _ => rfl) (fun _ => rfl) (by simp [Mc.tell, h0.told])
    (fun t ht2 => by
      rcases List.mem_append.1 ht2 with ht2 | ht2
      · exact h0.toks t ht2
      · rw [List.mem_singleton] at ht2; subst ht2; exact ht.keep (Keep.old b0))
  have c5 := h0.cells 19 v.o rfl
  obtain ⟨ao, ca, e5, _, _⟩ := own_form (h0.bag.own 7 _ rfl)
  simp only at e5
  have q3' : W'.cell? ⟨x, 19, none⟩ = some v.o := q3
  rw [e5, hk] at c5 q3' hrun
  rw [hk] at q1 q2
  have HP : Hid (Told Z S x m v T (⟨tk, tr, tnm, ttx, tao, tn, tcap, ts, tf, tt⟩, A) w (.returned (.tuple #[])) (W'.setCell ⟨x, 19, none⟩ (.slice ao' (k + 1) c'))) := ⟨rfl, _, q1, (Keep.old b0).trans q2⟩
  have hnew := heap_alloc_new w (.cells #[.int .i64 tk, .int .i64 tr, .string tnm, .string ttx, .slice tao tn tcap, .bool ts, .int .i64 tf, .int .i64 tt] 42)
  have hz : w.heap.size < (w.alloc (.cells #[.int .i64 tk, .int .i64 tr, .string tnm, .string ttx, .slice tao tn tcap, .bool ts, .int .i64 tf, .int .i64 tt] 42)).heap.size := by simp
  clear h h0 q1 q2 q3 e5 b0 hk hTk ht
  simp only [G9.Tk.val, G9.Tk.arr]
  go_enter Tryz.func53, Tryz.ntmps53
  go_wp2_with fail
  generalize hW : w.alloc (.cells #[.int .i64 tk, .int .i64 tr, .string tnm, .string ttx, .slice tao tn tcap, .bool ts, .int .i64 tf, .int .i64 tt] 42) = W0 at *
  clear hW
  have d0 : W0.cell? ⟨w.heap.size, 0, none⟩ = some (.int .i64 tk) := by simp [World.cell?, hnew]
  have d1 : W0.cell? ⟨w.heap.size, 1, none⟩ = some (.int .i64 tr) := by simp [World.cell?, hnew]
  have d2 : W0.cell? ⟨w.heap.size, 2, none⟩ = some (.string tnm) := by simp [World.cell?, hnew]
  have d3 : W0.cell? ⟨w.heap.size, 3, none⟩ = some (.string ttx) := by simp [World.cell?, hnew]
  have d4 : W0.cell? ⟨w.heap.size, 4, none⟩ = some (.slice tao tn tcap) := by simp [World.cell?, hnew]
  have d5 : W0.cell? ⟨w.heap.size, 5, none⟩ = some (.bool ts) := by simp [World.cell?, hnew]
  have d6 : W0.cell? ⟨w.heap.size, 6, none⟩ = some (.int .i64 tf) := by simp [World.cell?, hnew]
  have d7 : W0.cell? ⟨w.heap.size, 7, none⟩ = some (.int .i64 tt) := by simp [World.cell?, hnew]
  clear hnew
  go_region_law (refine step_append_eq rfl _ _ 23 23 rfl _ _ (by simp [Act.eval]) (by simp [Act.eval]) hrun ?_)
  all_goals
    go_wp2_with fail
    refine bodyPost_end (results_none rfl _ _ _) rfl ?_
    exact HP.out
theorem tell_any {Z : Nat → Prop} {S : Nat → Prop} {x : Nat} {m : Mc} {w : World} (h : Mach Z S x m w) (t : TL) (hn : m.tot ≤ 1000000000) (ht : Stays S w fun w => TkS Z w t.1 t.2) : Calls Tryz.prog 53 #[mp x, t.1.val] w (Did Z S x (m.tell (ptOf t)) w) := by
  obtain ⟨v, T, h⟩ := h
  refine (tell_v h t hn ht).mono ?_
  rintro e w' ⟨rfl, o, q1, q2⟩
  exact ⟨rfl, Post.of ⟨_, _, q1⟩ q2⟩
theorem ok_none {Z : Nat → Prop} {S : Nat → Prop} {w : World} (k r : Int) (nm tx : ByteArray) (s : Bool) (f t : Int) : Stays S w fun w => TkS Z w ⟨k, r, nm, tx, none, 0, 0, s, f, t⟩ [] := fun w' _ => ⟨⟨rfl, G9.AtRow.nil _ _, by simp⟩, fun h => absurd rfl h⟩
set_option maxHeartbeats 1000000 in
set_option maxRecDepth 20000 in
theorem tellChar_v {Z : Nat → Prop} {S : Nat → Prop} {x : Nat} {m : Mc} {v : Vs} {T : List TL} {w : World} (h : MachV Z S x m v T w) (c : Ch) (hn : m.tot ≤ 1000000000) : Calls Tryz.prog 74 #[mp x, cv c] w (Told Z S x m v T (⟨1, c.r, ByteArray.empty, ByteArray.empty, none, 0, 0, false, c.a, c.z⟩, []) w) := by
  obtain ⟨r, p, q⟩ := c
  have b0 : Below w.heap.size w (w.alloc (.cells #[.int .i64 r, .int .i64 p, .int .i64 q] 44)) := (Below.refl _ _).alloc (Nat.le_refl _) _
  have HM : Hid (MachV Z S x m v T (w.alloc (.cells #[.int .i64 r, .int .i64 p, .int .i64 q] 44)) ∧ Below w.heap.size w (w.alloc (.cells #[.int .i64 r, .int .i64 p, .int .i64 q] 44))) := ⟨h.below b0, b0⟩
  clear h b0
  go_enter Tryz.func74, Tryz.ntmps74
  go_wp2_with fail
  refine (tell_v HM.out.1 (⟨1, r, ByteArray.empty, ByteArray.empty, none, 0, 0, false, p, q⟩, []) hn (ok_none _ _ _ _ _ _ _)).mono ?_
  rintro e w1 ⟨rfl, o, q1, q2⟩
  have P1 : Hid (Told Z S x m v T (⟨1, r, ByteArray.empty, ByteArray.empty, none, 0, 0, false, p, q⟩, []) w (.returned (.tuple #[])) w1) := ⟨rfl, o, q1, (Keep.old HM.out.2).trans q2⟩
  clear q1 q2
  go_wp2_with fail
  refine bodyPost_end (results_none rfl _ _ _) rfl ?_
  exact P1.out
theorem tellChar_any {Z : Nat → Prop} {S : Nat → Prop} {x : Nat} {m : Mc} {w : World} (h : Mach Z S x m w) (c : Ch) (hn : m.tot ≤ 1000000000) : Calls Tryz.prog 74 #[mp x, cv c] w (Did Z S x (m.tellChar c) w) := by
  obtain ⟨v, T, h⟩ := h
  refine (tellChar_v h c hn).mono ?_
  rintro e w' ⟨rfl, o, q1, q2⟩
  exact ⟨rfl, Post.of ⟨_, _, q1⟩ q2⟩
theorem MachV.noMade {Z : Nat → Prop} {S : Nat → Prop} {x : Nat} {m : Mc} {v : Vs} {T : List TL} {w : World} (h : MachV Z S x m v T w) : Bag S w ((m.noMade).rows { v with n := .slice none 0 0, t := .slice none 0 0, a := .slice none 0 0, m := .map none, an := .slice none 0 0, av := .slice none 0 0 } T) :=
  ((((h.bag.drop h.low 2 _ rfl 5 1 true).drop h.low 3 _ rfl 5 1).drop h.low 4 _ rfl 108 2).drop h.low 5 _ rfl 5 1).drop h.low 6 _ rfl 5 1
set_option maxHeartbeats 400000 in
set_option maxRecDepth 20000 in
theorem toData_any {Z : Nat → Prop} {S : Nat → Prop} {x : Nat} {m : Mc} {w : World} (h : Mach Z S x m w) : Calls Tryz.prog 149 #[mp x] w (Did Z S x m.toData w) := by
  obtain ⟨v, T, h⟩ := h
  have hxw := h.lt
  have HP : Hid (Post Z S x m.toData w (setAll w x [(5, .slice none 0 0), (8, .int .i64 0), (9, .int .i64 0), (10, .slice none 0 0), (11, .slice none 0 0), (12, .bool false), (13, .slice none 0 0), (14, .map none), (15, .int .i64 0), (16, .slice none 0 0), (17, .slice none 0 0), (18, .bool false), (0, fn 46), (1, fn 47)])) := by
    obtain ⟨q1, q2⟩ := h.turn (m' := m.toData) (v' := { v with w := .slice none 0 0, n := .slice none 0 0, t := .slice none 0 0, a := .slice none 0 0, m := .map none, an := .slice none 0 0, av := .slice none 0 0 }) (T' := T) [(5, .slice none 0 0), (8, .int .i64 0), (9, .int .i64 0), (10, .slice none 0 0), (11, .slice none 0 0), (12, .bool false), (13, .slice none 0 0), (14, .map none), (15, .int .i64 0), (16, .slice none 0 0), (17, .slice none 0 0), (18, .bool false), (0, fn 46), (1, fn 47)] rfl (by simp [Mc.cells, Mc.toData, Mc.noMade]) (h.noMade.drop h.low 0 _ rfl 44 3) (Names.none _ _) rfl h.told h.toks
    exact Post.of ⟨_, _, q1⟩ q2
  have c0 := h.cells 0 _ rfl
  have f0 := h.free 0
  have c1 := h.cells 1 _ rfl
  have f1 := h.free 1
  have c5 := h.cells 5 _ rfl
  have f5 := h.free 5
  have c8 := h.cells 8 _ rfl
  have f8 := h.free 8
  have c9 := h.cells 9 _ rfl
  have f9 := h.free 9
  have c10 := h.cells 10 _ rfl
  have f10 := h.free 10
  have c11 := h.cells 11 _ rfl
  have f11 := h.free 11
  have c12 := h.cells 12 _ rfl
  have f12 := h.free 12
  have c13 := h.cells 13 _ rfl
  have f13 := h.free 13
  have c14 := h.cells 14 _ rfl
  have f14 := h.free 14
  have c15 := h.cells 15 _ rfl
  have f15 := h.free 15
  have c16 := h.cells 16 _ rfl
  have f16 := h.free 16
  have c17 := h.cells 17 _ rfl
  have f17 := h.free 17
  have c18 := h.cells 18 _ rfl
  have f18 := h.free 18
  clear h
  go_enter Tryz.func149, Tryz.ntmps149
  go_wp2_with fail
  refine bodyPost_end (results_none rfl _ _ _) rfl ?_
  exact ⟨rfl, HP.out⟩
end Go.Proofs.YtdiealijjhfhjaaGreatDoor
namespace Go.Proofs.YtdiealijjhfhjaaGreatDoor
open Go.RowKit
theorem Mach.low {Z : Nat → Prop} {S : Nat → Prop} {x : Nat} {m : Mc} {w : World} (h : Mach Z S x m w) : x < w.heap.size := by
  obtain ⟨v, T, h⟩ := h
  exact h.lt
theorem MachV.one {Z : Nat → Prop} {S : Nat → Prop} {x : Nat} {m : Mc} {v : Vs} {T : List TL} {w W : World} (h : MachV Z S x m v T w) (b : Below w.heap.size w W) (hs : w.heap.size < W.heap.size) : MachV Z (fun k => S k ∨ k = w.heap.size) x m v T W := by
  have h2 := h.below b
  have hlt := h.lt
  refine ⟨fun k hk => ?_, ⟨fun hx => ?_, fun k hk => .inl (h.hz.2 k hk)⟩, h2.hi.mono (fun _ h => .inl h), h2.blk, ?_, ?_, h2.trie.mono (fun _ h => .inl h), h2.told, fun t ht => (h2.toks t ht).mono (fun _ h => .inl h)⟩
  · rcases hk with hk | hk
    · exact h2.low k hk
    · omega
  · rcases hx with hx | hx
    · exact h.hx hx
    · omega
  · refine h2.bag.more fun i r hr g hg hU => ?_
    rcases hU with hU | hU
    · exact hU
    · have := (own_blk (h.bag.own i r hr) hg).1
      omega
  · refine h2.names.mv (fun b e hb hU => ?_) (fun _ _ _ => rfl)
    rcases hU with hU | hU
    · exact hb hU
    · have := h.names
      rw [e] at this
      have := this.lt
      omega
theorem Mach.one {Z : Nat → Prop} {S : Nat → Prop} {x : Nat} {m : Mc} {w W : World} (h : Mach Z S x m w) (b : Below w.heap.size w W) (hs : w.heap.size < W.heap.size) : Mach Z (fun k => S k ∨ k = w.heap.size) x m W := by
  obtain ⟨v, T, h⟩ := h
  exact ⟨v, T, h.one b hs⟩
def Box (B : Nat) (c : Ch) (w : World) : Prop := w.heap[B]? = some (.cells #[.int .i64 c.r, .int .i64 c.a, .int .i64 c.z] 44 (0, 0))
structure Walk (Z : Nat → Prop) (S : Nat → Prop) (x : Nat) (m : Mc) (B : Nat) (c : Ch) (w W : World) : Prop where
  ex : ∃ U, (∀ k, S k → U k) ∧ Mach Z U x m W ∧ Stays U W (Box B c)
  keep : Keep S w W
theorem Walk.post {Z : Nat → Prop} {S : Nat → Prop} {x : Nat} {m : Mc} {B : Nat} {c : Ch} {w W : World} (h : Walk Z S x m B c w W) : Post Z S x m w W := by
  obtain ⟨U, h1, h2, _⟩ := h.ex
  exact ⟨U, h1, h2, h.keep⟩
theorem Walk.start {Z : Nat → Prop} {S : Nat → Prop} {x : Nat} {m : Mc} {w : World} (h : Mach Z S x m w) (c : Ch) : ∃ W, w.alloc (.cells #[.int .i64 c.r, .int .i64 c.a, .int .i64 c.z] 44) = W ∧ Walk Z S x m w.heap.size c w W := by
  have b0 : Below w.heap.size w (w.alloc (.cells #[.int .i64 c.r, .int .i64 c.a, .int .i64 c.z] 44)) := (Below.refl _ _).alloc (Nat.le_refl _) _
  have hn := heap_alloc_new w (.cells #[.int .i64 c.r, .int .i64 c.a, .int .i64 c.z] 44)
  refine ⟨_, rfl, ⟨_, fun k hk => .inl hk, h.one b0 (by simp), fun w' k => (k.block _ (.inr rfl) (by simp)).trans hn⟩, Keep.old b0⟩
theorem Walk.call {Z : Nat → Prop} {S : Nat → Prop} {x : Nat} {m m' : Mc} {B : Nat} {c : Ch} {w W : World} (h : Walk Z S x m B c w W) {f : Nat} {args : Array Value} (H : ∀ U, Mach Z U x m W → Calls Tryz.prog f args W (Did Z U x m' W)) : Calls Tryz.prog f args W fun e W' => e = .returned (.tuple #[]) ∧ Walk Z S x m' B c w W' := by
  obtain ⟨U, h1, h2, h3⟩ := h.ex
  refine (H U h2).mono ?_
  rintro e W' ⟨rfl, V, p1, p2, p3⟩
  exact ⟨rfl, ⟨V, fun k hk => p1 k (h1 k hk), p2, (h3.keep p3).mono p1⟩, h.keep.trans (p3.sub h1)⟩
theorem Walk.below {Z : Nat → Prop} {S : Nat → Prop} {x : Nat} {m : Mc} {B : Nat} {c : Ch} {w W W' : World} (h : Walk Z S x m B c w W) (b : Below W.heap.size W W') : Walk Z S x m B c w W' := by
  obtain ⟨U, h1, h2, h3⟩ := h.ex
  exact ⟨⟨U, h1, h2.below b, h3.keep (Keep.old b)⟩, h.keep.trans (Keep.old b)⟩
theorem Walk.drew {Z : Nat → Prop} {S : Nat → Prop} {x : Nat} {m : Mc} {B : Nat} {c : Ch} {w W : World} (h : Walk Z S x m B c w W) : Walk Z S x m B c w W.drew := h.below (Below.refl _ _).drew
theorem Walk.drewN {Z : Nat → Prop} {S : Nat → Prop} {x : Nat} {m : Mc} {B : Nat} {c : Ch} {w W : World} (h : Walk Z S x m B c w W) (n : Nat) : Walk Z S x m B c w (W.drewN n) := h.below (G9.below_drewN (Below.refl _ _) n)
theorem Walk.box {Z : Nat → Prop} {S : Nat → Prop} {x : Nat} {m : Mc} {B : Nat} {r p q : Int} {w W : World} (h : Walk Z S x m B ⟨r, p, q⟩ w W) : B < W.heap.size ∧ W.cell? ⟨B, 0, none⟩ = some (.int .i64 r) ∧ W.cell? ⟨B, 1, none⟩ = some (.int .i64 p) ∧ W.cell? ⟨B, 2, none⟩ = some (.int .i64 q) := by
  obtain ⟨U, _, _, h3⟩ := h.ex
  have := h3.now
  unfold Box at this
  refine ⟨(Array.getElem?_eq_some_iff.1 this).1, ?_, ?_, ?_⟩
  all_goals simp [World.cell?, this]
theorem Walk.lt {Z : Nat → Prop} {S : Nat → Prop} {x : Nat} {m : Mc} {B : Nat} {c : Ch} {w W : World} (h : Walk Z S x m B c w W) : x < W.heap.size := by
  obtain ⟨U, _, h2, _⟩ := h.ex
  exact h2.low
theorem Walk.mach {Z : Nat → Prop} {S : Nat → Prop} {x : Nat} {m : Mc} {B : Nat} {c : Ch} {w W : World} (h : Walk Z S x m B c w W) : ∃ v : Vs, (∀ i u, (m.cells v)[i]? = some u → W.cell? ⟨x, i, none⟩ = some u) ∧ (∀ i, W.frozen? ⟨x, i, none⟩ = false) := by
  obtain ⟨U, _, ⟨v, T, h2⟩, _⟩ := h.ex
  exact ⟨v, h2.cells, h2.free⟩
theorem Walk.turn {Z : Nat → Prop} {S : Nat → Prop} {x : Nat} {m m' : Mc} {B : Nat} {c : Ch} {w W : World} (h : Walk Z S x m B c w W) (l : List (Nat × Value)) (hc : ∀ v, l.foldl (fun a p => a.set! p.1 p.2) (m.cells v) = m'.cells v) (hr : ∀ v T, m'.rows v T = m.rows v T) (ha : m'.attrs = m.attrs) (ho : m'.out = m.out) : Walk Z S x m' B c w (setAll W x l) := by
  obtain ⟨U, h1, ⟨v, T, h2⟩, h3⟩ := h.ex
  obtain ⟨q1, q2⟩ := h2.turn (m' := m') l rfl (hc v) (by rw [hr]; exact h2.bag) (by rw [ha]; exact h2.names) rfl (by rw [ho]; exact h2.told) h2.toks
  exact ⟨⟨U, h1, ⟨_, _, q1⟩, h3.keep q2⟩, h.keep.trans (q2.sub h1)⟩
theorem Walk.st {Z : Nat → Prop} {S : Nat → Prop} {x : Nat} {m : Mc} {B : Nat} {c : Ch} {w W : World} (h : Walk Z S x m B c w W) (n : Nat) : Walk Z S x { m with st := n } B c w (W.setCell ⟨x, 0, none⟩ (.func (.func n) #[] #[])) :=
  h.turn [(0, fn n)] (fun v => by simp [Mc.cells]) (fun _ _ => rfl) rfl rfl
theorem Walk.en {Z : Nat → Prop} {S : Nat → Prop} {x : Nat} {m : Mc} {B : Nat} {c : Ch} {w W : World} (h : Walk Z S x m B c w W) (n : Nat) : Walk Z S x { m with en := n } B c w (W.setCell ⟨x, 1, none⟩ (.func (.func n) #[] #[])) :=
  h.turn [(1, fn n)] (fun v => by simp [Mc.cells]) (fun _ _ => rfl) rfl rfl
theorem Walk.self {Z : Nat → Prop} {S : Nat → Prop} {x : Nat} {m : Mc} {B : Nat} {c : Ch} {w W : World} (h : Walk Z S x m B c w W) (b : Bool) : Walk Z S x { m with self := b } B c w (W.setCell ⟨x, 12, none⟩ (.bool b)) :=
  h.turn [(12, .bool b)] (fun v => by simp [Mc.cells]) (fun _ _ => rfl) rfl rfl
theorem Walk.st0 {Z : Nat → Prop} {S : Nat → Prop} {x : Nat} {m : Mc} {B : Nat} {c : Ch} {w W : World} (h : Walk Z S x m B c w W) : W.cell? ⟨x, 0, none⟩ = some (.func (.func m.st) #[] #[]) ∧ W.frozen? ⟨x, 0, none⟩ = false ∧ W.cell? ⟨x, 1, none⟩ = some (.func (.func m.en) #[] #[]) ∧ W.frozen? ⟨x, 1, none⟩ = false := by
  obtain ⟨v, h1, h2⟩ := h.mach
  exact ⟨h1 0 _ rfl, h2 0, h1 1 _ rfl, h2 1⟩
def Enters (n : Nat) : Prop := ∀ args w, (callFunc n args).run Tryz.prog w = .ok (.enter n args) w
set_option maxHeartbeats 1000000 in
set_option maxRecDepth 20000 in
theorem again_any {Z : Nat → Prop} {S : Nat → Prop} {x : Nat} {m m' : Mc} {w : World} (n : Nat) (en : Enters n) (h : Mach Z S x m w) (c : Ch) (H : ∀ U W, Mach Z U x { m with st := n } W → Calls Tryz.prog n #[mp x, cv c] W (Did Z U x m' W)) : Calls Tryz.prog 107 #[mp x, fn n, cv c] w (Did Z S x m' w) := by
  obtain ⟨r, p, q⟩ := c
  obtain ⟨W0, hW0, k0⟩ := Walk.start h ⟨r, p, q⟩
  have hxw := h.low
  obtain ⟨hb, d0, d1, d2⟩ := k0.box
  obtain ⟨c0, f0, _⟩ := k0.st0
  have hx0 := k0.lt
  have hne : w.heap.size ≠ x := by omega
  have en' : ∀ args w, (callFunc n args).run Tryz.prog w = .ok (.enter n args) w := en
  have K1 : Hid (Walk Z S x { m with st := n } w.heap.size ⟨r, p, q⟩ w (W0.setCell ⟨x, 0, none⟩ (.func (.func n) #[] #[]))) := k0.st n
  have HH : Hid (∀ U W, Mach Z U x { m with st := n } W → Calls Tryz.prog n #[mp x, cv ⟨r, p, q⟩] W (Did Z U x m' W)) := H
  clear h H en k0
  unfold fn
  go_enter Tryz.func107, Tryz.ntmps107
  go_wp2_with fail
  refine (K1.out.call (fun U => HH.out U _)).mono ?_
  rintro e w1 ⟨rfl, k1⟩
  have K2 : Hid (Walk Z S x m' w.heap.size ⟨r, p, q⟩ w w1) := k1
  clear k1
  go_wp2_with fail
  refine bodyPost_end (results_none rfl _ _ _) rfl ?_
  exact ⟨rfl, K2.out.post⟩
theorem wait_cells {Z : Nat → Prop} {S : Nat → Prop} {x : Nat} {m : Mc} {v : Vs} {T : List TL} {w : World} (h : MachV Z S x m v T w) (i : Nat) (c : Ch) (hc : m.wait[i]? = some c) : ∃ g cap, v.w = .slice (some ⟨g, 0, none⟩) m.wait.length cap ∧ m.wait.length ≤ cap ∧ cap ≤ maxLen ∧ g < w.heap.size ∧ w.cell? ⟨g, i * 3, none⟩ = some (.int .i64 c.r) ∧ w.cell? ⟨g, i * 3 + 1, none⟩ = some (.int .i64 c.a) ∧ w.cell? ⟨g, i * 3 + 2, none⟩ = some (.int .i64 c.z) := by
  have ho := (h.bag.own 0 _ rfl).row
  have hl := (List.getElem?_eq_some_iff.1 hc).1
  rcases ho.2 with ⟨_, h0⟩ | ⟨g, cap, cur, e1, _, hg, h1, h2, h3, h4⟩
  · simp only at h0; omega
  · obtain ⟨q0, q1, q2⟩ := G4.ch_at m.wait i c hc
    simp only at h4 h1 e1
    rw [← h4] at q0 q1 q2
    rw [List.getElem?_take_of_lt (by omega), Array.getElem?_toList] at q0 q1 q2
    refine ⟨g, cap, e1, h1, h2, (Array.getElem?_eq_some_iff.1 hg).1, ?_, ?_, ?_⟩
    · simp [World.cell?, hg, q0]
    · simp [World.cell?, hg, q1]
    · simp [World.cell?, hg, q2]
set_option maxHeartbeats 2000000 in
set_option maxRecDepth 20000 in
theorem release_any {Z : Nat → Prop} {S : Nat → Prop} {x : Nat} {m : Mc} {w : World} (h : Mach Z S x m w) (hn : m.tot ≤ 500000000) : Calls Tryz.prog 75 #[mp x] w (Did Z S x m.release w) := by
  obtain ⟨v, T, h⟩ := h
  have hxw := h.lt
  obtain ⟨ao, ca, ew, hca, hcm⟩ := own_form (h.bag.own 0 _ rfl)
  simp only at ew hca
  have c5 := h.cells 5 v.w rfl
  have hnn : m.wait.length ≤ 500000000 ∧ m.out.length ≤ 500000000 := by unfold Mc.tot at hn; omega
  have htot : ∀ l : List Pt, l.length ≤ m.wait.length → ({ m with out := m.out ++ l } : Mc).tot ≤ 1000000000 := fun l hl => by
    unfold Mc.tot at hn ⊢
    simp only [List.length_append]
    omega
  have HM : Hid (MachV Z S x m v T w) := h
  have HT : Hid (∀ l : List Pt, l.length ≤ m.wait.length → ({ m with out := m.out ++ l } : Mc).tot ≤ 1000000000) := htot
  clear h hn htot
  rw [ew] at c5
  obtain ⟨n, hwn⟩ : ∃ n, m.wait.length = n := ⟨_, rfl⟩
  rw [hwn] at c5 hca hnn ew
  have HN : Hid (m.wait.length = n) := hwn
  have HV : Hid (v.w = .slice ao n ca) := ew
  clear hwn ew
  go_enter Tryz.func75, Tryz.ntmps75
  go_wp2_with fail
  go_loopw [9] (fun iv wr => ∃ (i : Nat) (o : Value) (T' : List TL), iv = .int .i64 i ∧ i ≤ n ∧ MachV Z S x { m with out := m.out ++ (m.wait.take i).map (chT false) } { v with o := o } T' wr ∧ Keep S w wr) (fun iv _ => n - (intOf iv).toNat)
  case atStart => exact ⟨0, v.o, T, rfl, Nat.zero_le _, by simpa using HM.out, Keep.refl _ _⟩
  case round =>
    obtain ⟨i, o, T', rfl, hin, hmv, hk⟩ := hrel
    have HR : Hid (MachV Z S x { m with out := m.out ++ (m.wait.take i).map (chT false) } { v with o := o } T' wr ∧ Keep S w wr) := ⟨hmv, hk⟩
    have hxr := hmv.lt
    by_cases hlt : i < n
    · obtain ⟨c, hc⟩ : ∃ c, m.wait[i]? = some c := ⟨_, List.getElem?_eq_getElem (by rw [HN.out]; exact hlt)⟩
      obtain ⟨g, cap, eg, _, _, hg, g0, g1, g2⟩ := wait_cells hmv i c hc
      simp only at eg
      rw [HV.out, HN.out] at eg
      simp only [Value.slice.injEq, true_and] at eg
      obtain ⟨rfl, rfl⟩ := eg
      have HC : Hid (m.wait.take (i + 1) = m.wait.take i ++ [c]) := by
        obtain ⟨h1, rfl⟩ := List.getElem?_eq_some_iff.1 hc
        exact (List.take_append_getElem h1).symm
      clear hc hmv hk
      obtain ⟨r, p, q⟩ := c
      simp only at g0 g1 g2
      have hlt' : decide ((i : Int) < (n : Int)) = true := decide_eq_true (by omega)
      obtain ⟨W0, hW0⟩ : ∃ W0, wr.alloc (.cells #[.int .i64 r, .int .i64 p, .int .i64 q] 44) = W0 := ⟨_, rfl⟩
      have B0 : Hid (Below wr.heap.size wr W0) := by rw [← hW0]; exact (Below.refl _ _).alloc (Nat.le_refl _) _
      have hnew : W0.heap[wr.heap.size]? = some (.cells #[.int .i64 r, .int .i64 p, .int .i64 q] 44 (0, 0)) := by rw [← hW0]; exact heap_alloc_new _ _
      have d0 : W0.cell? ⟨wr.heap.size, 0, none⟩ = some (.int .i64 r) := by simp [World.cell?, hnew]
      have d1 : W0.cell? ⟨wr.heap.size, 1, none⟩ = some (.int .i64 p) := by simp [World.cell?, hnew]
      have d2 : W0.cell? ⟨wr.heap.size, 2, none⟩ = some (.int .i64 q) := by simp [World.cell?, hnew]
      clear hnew
      go_wp2_with fail
      refine (tellChar_v (HR.out.1.below B0.out) ⟨r, p, q⟩ (HT.out _ (by simp [HN.out]; omega))).mono ?_
      rintro e w1 ⟨rfl, o1, q1, q2⟩
      have HR1 : Hid (MachV Z S x { m with out := m.out ++ (m.wait.take (i + 1)).map (chT false) } { v with o := o1 } (T' ++ [(⟨1, r, ByteArray.empty, ByteArray.empty, none, 0, 0, false, p, q⟩, [])]) w1 ∧ Keep S w w1) := by
        refine ⟨?_, HR.out.2.trans ((Keep.old B0.out).trans q2)⟩
        rw [HC.out, List.map_append, ← List.append_assoc]
        exact q1
      clear q1 q2 hW0 d0 d1 d2 g0 g1 g2
      go_wp2_with fail
      go_roundw
      case rel => exact ⟨i + 1, o1, _, by go_num, by omega, HR1.out.1, HR1.out.2⟩
      case measure => simp [intOf]; omega
    · obtain rfl : i = n := by omega
      have hlt' : decide ((i : Int) < (i : Int)) = false := decide_eq_false (by omega)
      have c5' := hmv.cells 5 _ rfl
      have f5' := hmv.free 5
      have HP : Hid (Post Z S x m.release w (setAll wr x [(5, .slice none 0 0)])) := by
        have e1 : m.wait.take i = m.wait := List.take_of_length_le (by rw [HN.out]; exact Nat.le_refl _)
        rw [e1] at hmv
        obtain ⟨q1, q2⟩ := hmv.turn (m' := m.release) (v' := { v with o := o, w := .slice none 0 0 }) (T' := T') [(5, .slice none 0 0)] rfl (by simp [Mc.cells, Mc.release]) (hmv.bag.drop hmv.low 0 _ rfl 44 3) hmv.names rfl hmv.told hmv.toks
        exact Post.of ⟨_, _, q1⟩ (hk.trans q2)
      clear hmv hk HR
      go_wp2_with fail
      refine bodyPost_end (results_none rfl _ _ _) rfl ?_
      exact ⟨rfl, HP.out⟩
end Go.Proofs.YtdiealijjhfhjaaGreatDoor
