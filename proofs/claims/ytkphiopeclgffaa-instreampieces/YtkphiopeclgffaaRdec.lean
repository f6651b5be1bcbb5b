/- The document's Decode and Sure. -/
import Derived.Test.YtkphiopeclgffaaOne
namespace Go.Proofs.Ytkphiopeclgffaa
open Go.RowKit

/-- 'append' where its run is known by an equation, as one step of a list of operations. -/
theorem list_append_eq {P : Program} {ops : Array Oper} {rest : List Oper} {o : Oper} {a : Act} {w : World} {Q : Exit → Act → World → Prop}
    (hg : o.guard = none) (d x : Operand) (dT sT : TypeId) (hop : o.op = Op.call { callee := Callee.builtin Builtin.append, args := #[d, x], argTypes := #[dT, sT] })
    (v u : Value) (hd : a.eval d = v) (hx : a.eval x = u) {v' : Value} {w' : World} (hr : (Builtin.append_ #[dT, sT] o.type #[v, u]).run P w = .ok v' w') (hK : wpList P ops Q rest (a.put o.dst v') w') :
    wpList P ops Q (o :: rest) a w :=
  wpList_plain hg fun K hK2 => by
    unfold Oper.wp
    simp [execOp, hop, resolve, invoke, builtin, hd, hx, hr, Result.andThen]
    exact hK2 _ _ hK

/-- One more element appended, no order drawn. -/
theorem row_more {B t e size bytes n : Nat} {z : Value} {W : World} {ao : Option Addr} {c : Nat} {xs news : List Value} (ht : Try.prog.underlying t = some (.slice e)) (hinfo : (Try.prog.info? e).map (fun i => (i.zero, i.size, i.bytes)) = some (some z, size, bytes))
    (hzs : z.cells.size = size) (hsz : 0 < size) (hb : bytes ≤ 32) (hown : W.ownsRow B e size (.slice ao n c) n xs) (hB : B ≤ W.heap.size) (hn : n ≤ 1000000) (hl : news.length = size) (h1 : ∀ u ∈ news, u.oneCell' = true) :
    ∃ ao' c' W', (Builtin.append_ #[t, t] t #[.slice ao n c, .slice (some ⟨W.heap.size, 0, none⟩) 1 1]).run Try.prog (W.alloc (.cells news.toArray e)) = .ok (.slice ao' (n + 1) c') W' ∧
      W'.ownsRow B e size (.slice ao' (n + 1) c') (n + 1) (xs ++ news) ∧ Below B W W' ∧ (∀ (k : Nat) (cur : Array Value) (e' : TypeId) (m : Nat × Nat), e' ≠ e → W.heap[k]? = some (Obj.cells cur e' m) → W'.heap[k]? = some (Obj.cells cur e' m)) := by
  obtain ⟨i0, hi0, hz0, hzs0, hzb⟩ := info_parts hinfo
  obtain ⟨W1, hW1⟩ : ∃ W1, W1 = W.alloc (.cells news.toArray e) := ⟨_, rfl⟩
  have hbe : Below W.heap.size W W1 := by rw [hW1]; exact (Below.refl _ _).alloc (Nat.le_refl _) _
  have hnew : W1.heap[W.heap.size]? = some (.cells news.toArray e (0, 0)) := by rw [hW1]; exact heap_alloc_new _ _
  have ho1 : W1.ownsRow B e size (.slice ao n c) n xs := own_below hown hbe
  have hz : W1.heap.size = W.heap.size + 1 := by rw [hW1]; simp
  obtain ⟨v', W', hrun, ho, hg1, _⟩ := run_append_own (P := Try.prog) W1 B t t e i0 _ size bytes ht hi0 hz0 hzs0 hzb hzs hsz (.slice ao n c) n xs ho1 ⟨W.heap.size, 0, none⟩ 1 1 news (by omega)
    (fun j u hj => by
      rw [Addr.add_lit, Nat.zero_add]
      simp [World.cell?, hnew]; exact hj)
    h1 (by unfold maxLen; omega) (by have := Nat.mul_le_mul (show n + 1 ≤ 1000001 by omega) hb; omega) (by omega)
  obtain ⟨ao', c', rfl, _, _⟩ := own_form ho
  have hrow : ∀ k, (Value.slice ao n c).ownBlock = some k → B ≤ k ∧ k < W.heap.size ∧ ∃ cu, W1.heap[k]? = some (.cells cu e (0, 0)) := fun k hk => by
    rcases hown.2 with ⟨hv, _⟩ | ⟨g, cap, cur, hv, hB', hgb, _⟩
    · rw [hv] at hk; simp [Value.ownBlock] at hk
    · rw [hv] at hk; simp [Value.ownBlock] at hk; subst hk
      have hlt := (Array.getElem?_eq_some_iff.1 hgb).1
      exact ⟨hB', hlt, cur, by rw [hbe.block g hlt]; exact hgb⟩
  refine ⟨ao', c', W', by rw [← hW1]; exact hrun, ho, ?_, ?_⟩
  · refine ⟨hg1.os.trans hbe.os, hg1.tape.trans hbe.tape, hg1.output.trans hbe.output, Nat.le_trans hbe.size hg1.size, fun k hk => ?_⟩
    rw [hg1.block k (by omega) (fun e => by have := (hrow k e.symm).1; omega), hbe.block k (by omega)]
  · intro k cur e' m hne hk
    have hlt := (Array.getElem?_eq_some_iff.1 hk).1
    rw [hg1.block k (by omega) (fun e2 => by
      obtain ⟨_, _, cu, hc⟩ := hrow k e2.symm
      rw [hbe.block k hlt, hk] at hc; simp at hc; exact hne hc.2.1), hbe.block k hlt]
    exact hk

theorem fault_more {B n c : Nat} {p : Int} {cv : Value} {cs : List Ch} {fs : List Int} {W : World} {ao : Option Addr} (hB : B ≤ W.heap.size) (hc : Chars B cv cs W) (hf : Faults B (.slice ao n c) fs W) (hfn : fs.length = n) (hn : n ≤ 1000000) :
    ∃ ao' c' W', (Builtin.append_ #[24, 24] 24 #[.slice ao n c, .slice (some ⟨W.heap.size, 0, none⟩) 1 1]).run Try.prog (W.alloc (.cells #[.int .i64 1, .int .i64 p] 39)) = .ok (.slice ao' (n + 1) c') W' ∧
      Faults B (.slice ao' (n + 1) c') (fs ++ [p]) W' ∧ Chars B cv cs W' ∧ Below B W W' := by
  subst hfn
  obtain ⟨ao', c', W', hr, ho, hbe, hk⟩ := row_more (t := 24) (news := fcells p) Try.underlying24 info39 rfl (by decide) (by decide) hf hB hn rfl (by simp [fcells, Value.oneCell'])
  refine ⟨ao', c', W', hr, ?_, own_same hc fun g cur m _ hg => hk g cur 37 m (by decide) hg, hbe⟩
  unfold Faults
  rw [List.length_append, List.flatMap_append]
  simpa using ho

theorem char_more {B n c : Nat} {r p q : Int} {fv : Value} {cs : List Ch} {fs : List Int} {W : World} {ao : Option Addr} (hB : B ≤ W.heap.size) (hf : Faults B fv fs W) (hc : Chars B (.slice ao n c) cs W) (hcn : cs.length = n) (hn : n ≤ 1000000) :
    ∃ ao' c' W', (Builtin.append_ #[23, 23] 23 #[.slice ao n c, .slice (some ⟨W.heap.size, 0, none⟩) 1 1]).run Try.prog (W.alloc (.cells #[.int .i64 r, .int .i64 p, .int .i64 q] 37)) = .ok (.slice ao' (n + 1) c') W' ∧
      Chars B (.slice ao' (n + 1) c') (cs ++ [⟨r, p, q⟩]) W' ∧ Faults B fv fs W' ∧ Below B W W' := by
  subst hcn
  obtain ⟨ao', c', W', hr, ho, hbe, hk⟩ := row_more (t := 23) (news := Ch.cells ⟨r, p, q⟩) Try.underlying23 info37 rfl (by decide) (by decide) hc hB hn rfl (by simp [Ch.cells, Value.oneCell'])
  refine ⟨ao', c', W', hr, ?_, own_same hf fun g cur m _ hg => hk g cur 39 m (by decide) hg, hbe⟩
  unfold Chars
  rw [List.length_append, List.flatMap_append]
  simpa using ho

def sizeOfS : Value → Nat | .string s => s.size | _ => 0

/-- How far the document's Decode has come. -/
structure At (s : ByteArray) (p : Int) (w wr : World) (S : ByteArray) (A : List (Int × Nat)) (lv fv : Value) : Prop where
  it : items s.data.toList = A ++ items S.data.toList
  len : tot A + S.size = s.size
  few : A.length ≤ tot A
  ch : Chars w.heap.size lv (chs p A) wr
  fl : Faults w.heap.size fv (fls p A) wr
  below : Below w.heap.size w wr

theorem bytes_drop (s : ByteArray) (n : Nat) : (s.extract n s.size).data.toList = s.data.toList.drop n := by
  simp [ByteArray.data_extract]
  exact List.take_of_length_le (by simp)

theorem one_ge (s : List UInt8) : (one s).1 = -1 ∨ 0 ≤ (one s).1 := by
  cases s with
  | nil => exact .inl rfl
  | cons a t =>
    rw [one_cons]
    repeat' split
    · exact .inl rfl
    · exact .inl rfl
    · exact .inr (val_bound _ _ (by omega)).1

set_option maxHeartbeats 2000000 in
theorem rdec_any (s : ByteArray) (p : Int) (w : World) (hp0 : 0 ≤ p) (hp1 : p ≤ 1400000000000) (hs : s.size ≤ 100000) :
    Calls Try.prog 18 #[.string s, .int .i64 p] w fun e w' => ∃ ca cn cc fa fn fc, e = .returned (.tuple #[.slice ca cn cc, .slice fa fn fc]) ∧
      Chars w.heap.size (.slice ca cn cc) (chs p (items s.data.toList)) w' ∧ Faults w.heap.size (.slice fa fn fc) (fls p (items s.data.toList)) w' ∧ Below w.heap.size w w' := by
  go_enter Try.func18, Try.ntmps18
  go_wp2_with fail
  go_loopw [0, 1, 6, 7] (fun sv av lv fv wr => ∃ (S : ByteArray) (A : List (Int × Nat)), sv = .string S ∧ av = .int .i64 (p + (tot A : Nat)) ∧ At s p w wr S A lv fv) (fun sv _ _ _ _ => sizeOfS sv)
  case atStart => exact ⟨s, [], rfl, by simp [tot], ⟨rfl, by simp [tot], Nat.le_refl _, World.ownsRow_nil _ _ _ _, World.ownsRow_nil _ _ _ _, Below.refl _ _⟩⟩
  case round =>
    obtain ⟨S, A, rfl, rfl, hA⟩ := hrel
    have hlen := hA.len
    have hfew := hA.few
    obtain ⟨ca, cc, rfl, _, _⟩ := own_form hA.ch
    obtain ⟨fa, fc, rfl, _, _⟩ := own_form hA.fl
    have HA : Hid (At s p w wr S A (.slice ca (chs p A).length cc) (.slice fa (fls p A).length fc)) := hA
    have hcl := chs_length A p
    have hfl := fls_length A p
    clear hA
    by_cases hS : 0 < S.size
    · have ho1 := one_pos S.data.toList
      have ho2 := one_len S.data.toList (fun e => by have : S.data.toList.length = S.size := Array.length_toList; rw [e] at this; simp at this; omega)
      have ho3 := one_ge S.data.toList
      have hSl : S.data.toList.length = S.size := Array.length_toList
      rw [hSl] at ho2
      go_wp2_with fail
      refine (one_any S _ hS (by omega)).mono ?_
      rintro e w1 ⟨rfl, b1⟩
      obtain ⟨r, hr⟩ : ∃ r, (one S.data.toList).1 = r := ⟨_, rfl⟩
      obtain ⟨n, hn⟩ : ∃ n, (one S.data.toList).2.1 = n := ⟨_, rfl⟩
      obtain ⟨m, hm⟩ : ∃ m, (one S.data.toList).2.2 = m := ⟨_, rfl⟩
      have HR : Hid ((one S.data.toList).1 = r) := hr
      have HN : Hid ((one S.data.toList).2.1 = n) := hn
      rw [hr] at ho3
      rw [hn] at ho1 ho2
      rw [hr, hn, hm]
      clear hr hn hm
      have bw : Below w.heap.size w w1 := HA.out.below.trans (b1.mono HA.out.below.size)
      have c1 : Chars w.heap.size (.slice ca (chs p A).length cc) (chs p A) w1 := own_below HA.out.ch b1
      have f1 : Faults w.heap.size (.slice fa (fls p A).length fc) (fls p A) w1 := own_below HA.out.fl b1
      obtain ⟨q, hq⟩ : ∃ q, p + (tot A : Nat) = q := ⟨_, rfl⟩
      have HQ : Hid (p + (tot A : Nat) = q) := hq
      have hq0 : 0 ≤ q := by omega
      have hq1 : q ≤ 1500000000000 := by omega
      rw [hq]
      have hcl2 : (chs p A).length ≤ 1000000 := by omega
      have hfl2 : (fls p A).length ≤ 1000000 := by omega
      have next : ∀ (lv fv : Value) (W : World) (R : Int), R = (if r = -1 then 65533 else r) → Chars w.heap.size lv (chs p A ++ [⟨R, q, q + (n : Int)⟩]) W → Faults w.heap.size fv (fls p A ++ (if r = -1 then [q] else [])) W → Below w.heap.size w W →
          (∃ (S' : ByteArray) (A' : List (Int × Nat)), Value.string (S.extract n S.size) = .string S' ∧ Value.int .i64 (q + (n : Int)) = .int .i64 (p + (tot A' : Nat)) ∧ At s p w W S' A' lv fv) ∧ sizeOfS (.string (S.extract n S.size)) < sizeOfS (.string S) := by
        intro lv fv W R hR hc hf hb
        have hsz : (S.extract n S.size).size = S.size - n := by rw [ByteArray.size_extract]; omega
        refine ⟨⟨_, A ++ [(r, n)], rfl, ?_, ?_, ?_, ?_, ?_, ?_, hb⟩, ?_⟩
        · rw [tot_append, tot_cons, tot_nil]
          congr 1
          have := HQ.out
          show q + (n : Int) = p + ((tot A + (n + 0) : Nat) : Int)
          omega
        · rw [HA.out.it, items_cons S.data.toList (fun e => by rw [e] at hSl; simp at hSl; omega), HR.out, HN.out, bytes_drop]
          simp
        · rw [tot_append, tot_cons, tot_nil, hsz]; have := HA.out.len; show tot A + (n + 0) + (S.size - n) = s.size; omega
        · rw [tot_append, tot_cons, tot_nil, List.length_append]; have := HA.out.few; show A.length + 1 ≤ tot A + (n + 0); omega
        · rw [chs_append, HQ.out]; simp only [chs]; rw [← hR]; exact hc
        · rw [fls_append, HQ.out]; simp only [fls]; rw [List.append_nil]; exact hf
        · simp only [sizeOfS, hsz]; omega
      have hn9 : n ≤ 100000 := by omega
      have NEXT := fun lv fv W R h1 h2 h3 h4 => (show Hid _ from next lv fv W R h1 h2 h3 h4)
      clear next hq hcl hfl hlen hfew b1
      obtain ⟨cn, hcn⟩ : ∃ n, (chs p A).length = n := ⟨_, rfl⟩
      obtain ⟨fn, hfn⟩ : ∃ n, (fls p A).length = n := ⟨_, rfl⟩
      rw [hcn] at c1 hcl2 ⊢
      rw [hfn] at f1 hfl2 ⊢
      have HCN : Hid ((chs p A).length = cn) := hcn
      have HFN : Hid ((fls p A).length = fn) := hfn
      clear hcn hfn HA
      by_cases hr : r = -1
      · subst hr
        obtain ⟨fa', fc', w2, hrun, f2, c2, b2⟩ := fault_more (p := q) bw.size c1 f1 HFN.out hfl2
        have bw2 : Below w.heap.size w w2 := bw.trans b2
        obtain ⟨ca', cc', w3, hrun2, c3, f3, b3⟩ := char_more (r := 65533) (p := q) (q := q + (n : Int)) bw2.size f2 c2 HCN.out hcl2
        have bw3 : Below w.heap.size w w3 := bw2.trans b3
        have N3 := NEXT _ _ w3 65533 rfl c3 f3 bw3
        clear NEXT c1 f1 c2 f2 c3 f3 b2 b3 bw bw2 bw3
        go_wp2_with (at_builtin; first | refine list_append_eq rfl _ _ 24 24 rfl _ _ rfl rfl hrun ?_ | refine list_append_eq rfl _ _ 23 23 rfl _ _ rfl rfl hrun2 ?_)
        exact N3.out
      · have hr0 : ¬ r < 0 := by omega
        obtain ⟨ca', cc', w3, hrun2, c3, f3, b3⟩ := char_more (r := r) (p := q) (q := q + (n : Int)) bw.size f1 c1 HCN.out hcl2
        have bw3 : Below w.heap.size w w3 := bw.trans b3
        have N3 := NEXT _ _ w3 r (by rw [if_neg hr]) c3 (by rw [if_neg hr, List.append_nil]; exact f3) bw3
        clear NEXT c1 f1 c3 f3 b3 bw bw3
        go_wp2_with (at_builtin; refine list_append_eq rfl _ _ 23 23 rfl _ _ rfl rfl hrun2 ?_)
        exact N3.out
    · have hz : S.size = 0 := by omega
      have hSl : S.data.toList.length = S.size := Array.length_toList
      have hnil : S.data.toList = [] := List.eq_nil_of_length_eq_zero (by omega)
      have e := HA.out.it
      rw [hnil, items_nil, List.append_nil] at e
      go_wp2_with fail
      go_ret2
      rw [e]
      exact ⟨_, _, _, _, _, _, rfl, HA.out.ch, HA.out.fl, HA.out.below⟩

end Go.Proofs.Ytkphiopeclgffaa
