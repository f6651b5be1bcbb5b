/- slices.Insert of one element. -/
import Derived.Test.YtkmghkfdegdikaaDoorBf
import Derived.Lib.Overlaps
import Derived.Lib.AppendZerosOnto
import Derived.Laws.Externs
namespace Go.Proofs.YtkmghkfdegdikaaDoor
open Go.RowKit

/-- 'copy' where its run is known by an equation, as one step of a region that draws. -/
theorem step_copy_eq {P : Program} {ops : Array Oper} {o : Oper} {a : Act} {w : World} {K : Act → World → Prop} {Q : Exit → Act → World → Prop} {E : Prop}
    (hg : o.guard = none) (d x : Operand) (dT sT : TypeId) (hop : o.op = Op.call { callee := Callee.builtin Builtin.copy, args := #[d, x], argTypes := #[dT, sT] })
    (v u : Value) (hd : a.eval d = v) (hx : a.eval x = u) {v' : Value} {w' : World} (hr : (Builtin.copy_ #[dT, sT] o.type #[v, u]).run P w = .ok v' w') (hK : K (a.put o.dst v') w') :
    if Region.wanted o (yielded ops a.tmps) = true then Oper.wp P o a w K Q else E := by
  have hw : Region.wanted o (yielded ops a.tmps) = true := by simp [Region.wanted, hg]
  rw [if_pos hw]
  unfold Oper.wp
  simp [execOp, hop, resolve, invoke, builtin, hd, hx, hr, Result.andThen]
  exact hK
theorem copy34 (w : World) (ty g o dLen dCap : Nat) (a : Addr) (sLen sCap m : Nat) (cur : Array Value) (cs : List Value) (hg : w.heap[g]? = some (.cells cur 34 (0, 0))) (hm : Nat.min sLen dLen = m) (hn : cs.length = m * 4)
    (hsrc : ∀ (j : Nat) v, cs[j]? = some v → w.cell? (a.add j) = some v) (hfit : o + cs.length ≤ cur.size) (h1 : ∀ v ∈ cs, v.oneCell' = true) :
    (Builtin.copy_ #[26, 26] ty #[.slice (some ⟨g, o, none⟩) dLen dCap, .slice (some a) sLen sCap]).run Tryd.prog w = .ok (goInt m) (w.setRow g (cur.toList.take o ++ cs ++ cur.toList.drop (o + cs.length)).toArray) := by
  obtain ⟨i0, hi0, hz0, hzs0, hzb⟩ := info_parts info34
  have := run_copy_s (P := Tryd.prog) w 26 26 ty 34 g o dLen dCap a sLen sCap 4 cur 34 cs Tryd.underlying26 (by rw [hi0]; simp [hzs0]) hg (by rw [hn, hm]) hsrc hfit h1
  rw [hm] at this
  exact this
theorem ins_list1 {A B V R : List Value} {a b : Nat} (hA : A.length = a) (hB : B.length = b) (hV : V.length = 4) (hR : 4 ≤ R.length) :
    let L0 := A ++ B ++ R
    let c1 := L0.take (a + 4) ++ B ++ L0.drop (a + 4 + b)
    let c2 := c1.take a ++ V ++ c1.drop (a + 4)
    c1.length = L0.length ∧ c2.length = L0.length ∧ c2.take (a + 4 + b) = A ++ V ++ B := by
  intro L0 c1 c2
  have hL0 : L0.length = a + b + R.length := by simp [L0, hA, hB]; omega
  have ht : (L0.take (a + 4)).length = a + 4 := by rw [List.length_take, hL0]; omega
  have e1 : c1.take a = A := by
    show List.take a (L0.take (a + 4) ++ B ++ L0.drop (a + 4 + b)) = A
    rw [List.append_assoc, List.take_append_of_le_length (by omega), List.take_take, Nat.min_eq_left (by omega)]
    show List.take a (A ++ B ++ R) = A
    rw [List.append_assoc, List.take_left' hA]
  have e2 : c1.drop (a + 4) = B ++ L0.drop (a + 4 + b) := by
    show List.drop (a + 4) (L0.take (a + 4) ++ B ++ L0.drop (a + 4 + b)) = _
    rw [List.append_assoc, List.drop_left' ht]
  have l1 : c1.length = L0.length := by
    show (L0.take (a + 4) ++ B ++ L0.drop (a + 4 + b)).length = _
    rw [List.length_append, List.length_append, ht, hB, List.length_drop, hL0]
    omega
  refine ⟨l1, ?_, ?_⟩
  · show (c1.take a ++ V ++ c1.drop (a + 4)).length = _
    rw [List.length_append, List.length_append, List.length_take, List.length_drop, l1, hV, hL0]
    omega
  · show (c1.take a ++ V ++ c1.drop (a + 4)).take (a + 4 + b) = _
    rw [e1, e2, ← List.append_assoc, List.take_left' (by simp [hA, hB, hV]; omega)]
theorem ins_list2 {A B V Z : List Value} {a b : Nat} (hA : A.length = a) (hB : B.length = b) (hV : V.length = 4) (hZ : b + 4 ≤ Z.length) :
    let L0 := A ++ Z
    let c1 := L0.take a ++ V ++ L0.drop (a + 4)
    let c2 := c1.take (a + 4) ++ B ++ c1.drop (a + 4 + b)
    c1.length = L0.length ∧ c2.length = L0.length ∧ c2.take (a + 4 + b) = A ++ V ++ B := by
  intro L0 c1 c2
  have hL0 : L0.length = a + Z.length := by simp [L0, hA]
  have e0 : L0.take a = A := List.take_left' hA
  have l1 : c1.length = L0.length := by
    show (L0.take a ++ V ++ L0.drop (a + 4)).length = _
    rw [List.length_append, List.length_append, List.length_take, List.length_drop, hV, hL0]
    omega
  have e1 : c1.take (a + 4) = A ++ V := by
    show (L0.take a ++ V ++ L0.drop (a + 4)).take (a + 4) = _
    rw [e0, List.take_left' (by simp [hA, hV])]
  refine ⟨l1, ?_, ?_⟩
  · show (c1.take (a + 4) ++ B ++ c1.drop (a + 4 + b)).length = _
    rw [List.length_append, List.length_append, List.length_take, List.length_drop, l1, hB, hL0]
    omega
  · show (c1.take (a + 4) ++ B ++ c1.drop (a + 4 + b)).take (a + 4 + b) = _
    rw [e1, List.take_left' (by simp [hA, hB, hV]; omega)]
/-- What Insert answers. -/
def Insd (S : Nat → Prop) (g n : Nat) (M : List El) (i : Nat) (d : El) (w : World) (e : Ending) (w' : World) : Prop :=
  ∃ V, e = .returned V ∧ Rw S w' 34 4 V (n + 1) ((M.take i ++ [d] ++ M.drop i).flatMap El.cs) ∧ w.grownBy w' (some g)
theorem ins_cells (M : List El) (i : Nat) (d : El) : (M.take i ++ [d] ++ M.drop i).flatMap El.cs = (M.take i).flatMap El.cs ++ d.cs ++ (M.drop i).flatMap El.cs := by
  rw [List.flatMap_append, List.flatMap_append]
  simp
set_option linter.unusedSimpArgs false in
set_option maxHeartbeats 4000000 in
set_option maxRecDepth 20000 in
theorem insert_any {S : Nat → Prop} {w : World} {g n c : Nat} {M : List El} (hlow : ∀ k, S k → k < w.heap.size) (h : Rw S w 34 4 (.slice (some ⟨g, 0, none⟩) n c) n (M.flatMap El.cs)) (hl : M.length = n) (hn : n ≤ 1000000000) (hn0 : 0 < n) (hav : ∀ d ∈ M, d.av.oneCell' = true) (i : Nat) (hi : i ≤ n) (d : El) (hd1 : d.av.oneCell' = true) {vb : Nat} (hv : Bx w vb 34 d.arr) (hvg : vb ≠ g) :
    Calls Tryd.prog 47 #[.slice (some ⟨g, 0, none⟩) n c, .int .i64 i, .slice (some ⟨vb, 0, none⟩) 1 1] w (Insd S g n M i d w) := by
  obtain ⟨g', c', cur, he, hgS, hgl, hgb, hc1, hc2, hc3, hc4⟩ := h.form (by omega)
  simp only [Value.slice.injEq, Option.some.injEq, Addr.mk.injEq, and_true, true_and] at he
  obtain ⟨rfl, rfl⟩ := he
  have hcm : c ≤ 9223372036854775807 := by unfold maxLen at hc2; omega
  have hdl : d.cs.length = 4 := rfl
  have hd1' : ∀ u ∈ d.cs, u.oneCell' = true := fun u hu => by
    simp only [El.cs, List.mem_cons, List.not_mem_nil, or_false] at hu
    rcases hu with rfl | rfl | rfl | rfl
    · rfl
    · rfl
    · rfl
    · exact hd1
  have hvc : ∀ (j : Nat) u, d.cs[j]? = some u → w.cell? ⟨vb, 0 + j, none⟩ = some u := fun j u hj => by
    rw [Nat.zero_add, hv.cell j, ← hj]
    simp [El.cs]
  by_cases hin : i = n
  · -- at the end
    subst hin
    obtain ⟨V, W, q1, q2, q3, _⟩ := Rw.app (t := 26) (e := 34) Tryd.underlying26 info34 rfl (by decide) h hlow vb 0 1 1 d.cs rfl hvc hd1' (by omega) (by omega)
    have HF : Hid (Insd S g i M i d w (.returned V) W) := ⟨V, rfl, by
      rw [List.take_of_length_le (by omega), List.drop_of_length_le (by omega), List.append_nil, List.flatMap_append]
      simpa using q2, q3⟩
    have f0 : ((1 : Int) == 0) = false := by decide
    have f1 : (i : Int) ≤ (c : Int) := by omega
    clear h hl hv hvc hd1' hd1 hav hgS hgl hgb hc3 hc4 hlow q2 q3 hdl hc2
    go_enter Tryd.func47, Tryd.ntmps47
    go_wp2_with (at_builtin; refine list_append_eq rfl _ _ 26 26 rfl _ _ rfl rfl q1 ?_)
    all_goals
      go_ret
      exact HF.out
  · have hin' : i < n := by omega
    obtain ⟨q, hq⟩ : ∃ q, q = n + 1 := ⟨_, rfl⟩
    obtain ⟨j, hj⟩ : ∃ j, j = i + 1 := ⟨_, rfl⟩
    have hqz : (n : Int) + 1 = (q : Int) := by omega
    have hjz : (i : Int) + 1 = (j : Int) := by omega
    have hne : ((i : Int) == (n : Int)) = false := beq_false_of_ne (by omega)
    have hneq : ¬ (i : Int) = (n : Int) := by omega
    have hAl : ((M.take i).flatMap El.cs).length = i * 4 := by rw [el_len, List.length_take, hl, Nat.min_eq_left hi]
    have hBl : ((M.drop i).flatMap El.cs).length = (n - i) * 4 := by rw [el_len, List.length_drop, hl]
    have hB1 : ∀ u ∈ (M.drop i).flatMap El.cs, u.oneCell' = true := el_one _ fun e he => hav e (List.drop_subset _ _ he)
    have hcl : cur.toList.length = c * 4 := by rw [Array.length_toList, hc3]
    have hAB : M.flatMap El.cs = (M.take i).flatMap El.cs ++ (M.drop i).flatMap El.cs := by rw [← List.flatMap_append, List.take_append_drop]
    have hcur : cur.toList = (M.take i).flatMap El.cs ++ (M.drop i).flatMap El.cs ++ cur.toList.drop (n * 4) := by rw [← hAB, ← hc4, List.take_append_drop]
    have hi1 : i ≤ 1000000000 := by omega
    have hj1 : j ≤ n := by omega
    have hi0 : (0 : Int) ≤ (i : Int) := by omega
    have hj0 : (0 : Int) ≤ (j : Int) := by omega
    have hjq : (j : Int) ≤ (q : Int) := by omega
    have hiq : (i : Int) ≤ (q : Int) := by omega
    have hinz : (i : Int) ≤ (n : Int) := by omega
    have hwj : IntKind.i64.wrap (j : Int) = (j : Int) := by rw [IntKind.wrap_i64]; omega
    have hwq : IntKind.i64.wrap (q : Int) = (q : Int) := by rw [IntKind.wrap_i64]; omega
    have hci : ¬ c = i := by omega
    by_cases hroom : c < q
    · -- no room: a new row
      have hcn : c = n := by omega
      obtain ⟨i0, hi0', hz0, hzs0, hzb⟩ := info_parts info34
      obtain ⟨k, hk⟩ : ∃ k, k = q - i := ⟨_, rfl⟩
      have hkz : (q : Int) - (i : Int) = (k : Int) := by omega
      have hwk : IntKind.i64.wrap (k : Int) = (k : Int) := by rw [IntKind.wrap_i64]; omega
      have hold : (Builtin.firstCells i0.size i (.slice (some ⟨g, 0, none⟩) i c)).run Tryd.prog w.drew = .ok ((M.take i).flatMap El.cs).toArray w.drew := by
        rw [hzs0]
        refine run_firstCells_some w.drew 4 i ⟨g, 0, none⟩ i c ((M.take i).flatMap El.cs) hAl (fun t u ht => ?_)
        rw [Addr.add_lit, Nat.zero_add]
        refine h.cell (j := t) ?_
        rw [hAB, List.getElem?_append_left (List.getElem?_eq_some_iff.1 ht).1]
        exact ht
      have hrz := Lib.run_append_grow_zeros w 26 3 26 34 i0 _ .i64 .i64 Tryd.underlying26 Tryd.underlying3 hi0' hz0 (some ⟨g, 0, none⟩) i c ((M.take i).flatMap El.cs) hold k (by omega) (by omega) (by omega) (by omega) (by rw [hzb]; omega) (by rw [hzb]; exact growslice_fits (by omega) (by omega))
      rw [show i + k = q by omega] at hrz
      have hG1 := grownCap_ge w q c 34
      have hG2 := grownCap_le_maxLen w q c 34 (by unfold maxLen; omega)
      obtain ⟨G, hG⟩ : ∃ G, grownCap w q c 34 = G := ⟨_, rfl⟩
      rw [hG] at hrz hG1 hG2
      have hGm : G ≤ 9223372036854775807 := by unfold maxLen at hG2; omega
      obtain ⟨Z, hZ⟩ : ∃ Z : Array Value, Builtin.zeroCells (.agg #[.int .i64 0, .int .i64 0, .string ByteArray.empty, .slice none 0 0] : Value).cells k ++ Builtin.zeroCells (.agg #[.int .i64 0, .int .i64 0, .string ByteArray.empty, .slice none 0 0] : Value).cells (G - q) = Z := ⟨_, rfl⟩
      have hZl : Z.size = (G - i) * 4 := by
        rw [← hZ, Array.size_append, size_zeroCells, size_zeroCells]
        show k * 4 + (G - q) * 4 = _
        omega
      rw [Array.append_assoc, hZ] at hrz
      obtain ⟨cu0, hcu0⟩ : ∃ cu0 : Array Value, ((M.take i).flatMap El.cs).toArray ++ Z = cu0 := ⟨_, rfl⟩
      have hcu0l : cu0.toList = (M.take i).flatMap El.cs ++ Z.toList := by rw [← hcu0]; simp
      rw [hcu0] at hrz
      obtain ⟨W1, hW1⟩ : ∃ W1, w.drew.alloc (.cells cu0 34) = W1 := ⟨_, rfl⟩
      have x1 : W1.heap[w.heap.size]? = some (.cells cu0 34 (0, 0)) := by rw [← hW1]; exact heap_alloc_new w.drew _
      have b1 : Below w.heap.size w W1 := by rw [← hW1]; exact ((Below.refl w.heap.size w).drew).alloc (Nat.le_refl _) _
      rw [hW1] at hrz
      obtain ⟨l1, l2, l3⟩ := ins_list2 (B := (M.drop i).flatMap El.cs) (V := d.cs) (Z := Z.toList) hAl hBl rfl (by rw [Array.length_toList, hZl]; omega)
      rw [← hcu0l] at l1 l2 l3
      have hcu0s : cu0.size = G * 4 := by rw [← Array.length_toList, hcu0l, List.length_append, hAl, Array.length_toList, hZl]; omega
      have hcp1 := fun ty dc => copy34 W1 ty w.heap.size (i * 4) k dc ⟨vb, 0, none⟩ 1 1 1 cu0 d.cs x1 (Nat.min_eq_left (by omega)) rfl (fun t u ht => by
        rw [Addr.add_lit]
        exact (b1.cell (p := ⟨vb, 0 + t, none⟩) hv.lt).trans (hvc t u ht)) (by rw [hdl, hcu0s]; omega) hd1'
      rw [hdl] at hcp1
      obtain ⟨cu1, hcu1⟩ : ∃ cu1 : Array Value, (cu0.toList.take (i * 4) ++ d.cs ++ cu0.toList.drop (i * 4 + 4)).toArray = cu1 := ⟨_, rfl⟩
      have hcu1l : cu1.toList = cu0.toList.take (i * 4) ++ d.cs ++ cu0.toList.drop (i * 4 + 4) := by rw [← hcu1]
      rw [hcu1] at hcp1
      rw [← hcu1l] at l1 l2 l3
      have hcu1s : cu1.size = G * 4 := by rw [← Array.length_toList, l1, Array.length_toList, hcu0s]
      have x2 : (W1.setRow w.heap.size cu1).heap[w.heap.size]? = some (.cells cu1 34 (0, 0)) := setRow_heap W1 w.heap.size cu0 cu1 34 (0, 0) x1
      have b2 : Below w.heap.size w (W1.setRow w.heap.size cu1) := b1.trans ⟨rfl, rfl, rfl, by simp, fun t ht => setRow_other W1 w.heap.size t cu1 (by omega)⟩
      obtain ⟨W2, hW2⟩ : ∃ W2, W1.setRow w.heap.size cu1 = W2 := ⟨_, rfl⟩
      rw [hW2] at hcp1 x2 b2
      have hcp2 := fun ty dc sc => copy34 W2.drew ty w.heap.size (j * 4) (q - j) dc ⟨g, i * 4, none⟩ (n - i) sc (n - i) cu1 ((M.drop i).flatMap El.cs) x2 (Nat.min_eq_left (by omega)) hBl (fun t u ht => by
        rw [Addr.add_lit]
        refine (b2.cell (p := ⟨g, i * 4 + t, none⟩) hgl).trans (h.cell (j := i * 4 + t) ?_)
        rw [hAB, List.getElem?_append_right (by omega), hAl, Nat.add_sub_cancel_left]
        exact ht) (by rw [hBl, hcu1s]; omega) hB1
      rw [hBl, show j * 4 = i * 4 + 4 by omega] at hcp2
      obtain ⟨cu2, hcu2⟩ : ∃ cu2 : Array Value, (cu1.toList.take (i * 4 + 4) ++ (M.drop i).flatMap El.cs ++ cu1.toList.drop (i * 4 + 4 + (n - i) * 4)).toArray = cu2 := ⟨_, rfl⟩
      have hcu2l : cu2.toList = cu1.toList.take (i * 4 + 4) ++ (M.drop i).flatMap El.cs ++ cu1.toList.drop (i * 4 + 4 + (n - i) * 4) := by rw [← hcu2]
      rw [hcu2] at hcp2
      rw [← hcu2l] at l2 l3
      have hcu2s : cu2.size = G * 4 := by rw [← Array.length_toList, l2, Array.length_toList, hcu0s]
      have x3 : (W2.drew.setRow w.heap.size cu2).heap[w.heap.size]? = some (.cells cu2 34 (0, 0)) := setRow_heap W2.drew w.heap.size cu1 cu2 34 (0, 0) x2
      have b3 : Below w.heap.size w (W2.drew.setRow w.heap.size cu2) := b2.trans ⟨rfl, rfl, rfl, by simp, fun t ht => setRow_other W2.drew w.heap.size t cu2 (by omega)⟩
      have HF : Hid (Insd S g n M i d w (.returned (.slice (some ⟨w.heap.size, 0, none⟩) q G)) (W2.drew.setRow w.heap.size cu2)) := by
        refine ⟨_, rfl, ?_, below_grown b3 _⟩
        rw [← hq]
        refine ⟨⟨?_, .inr ⟨w.heap.size, G, cu2, rfl, Nat.zero_le _, x3, hG1, hG2, hcu2s, ?_⟩⟩, fun t ht => ?_⟩
        · rw [el_len, List.length_append, List.length_append, List.length_take, List.length_drop, hl]
          simp
          omega
        · rw [ins_cells, ← l3]
          congr 1
          omega
        · simp [Value.ownBlock] at ht
          subst ht
          exact fun hS => by have := hlow _ hS; omega
      obtain ⟨W3, hW3⟩ : ∃ W3, W2.drew.setRow w.heap.size cu2 = W3 := ⟨_, rfl⟩
      rw [hW3] at hcp2 HF
      have hGi : ¬ G = i := by omega
      have hGj : ¬ G = j := by omega
      have hqi : q - i = k := hk.symm
      have hj4 : j * 4 = i * 4 + 4 := by omega
      have hgt : decide ((c : Int) < (q : Int)) = true := decide_eq_true (by omega)
      have hiG : i ≤ G := by omega
      have hjG : j ≤ G := by omega
      have hqG : q ≤ G := hG1
      clear h hl hv hvc hd1' hd1 hav hgS hgl hgb hc3 hc4 hlow hdl hc2 hcl hAB hcur hB1 hBl hold x1 b1 x2 b2 x3 b3 l1 l2 l3 hcu0l hcu1l hcu2l hcu0s hcu1s hcu2s hcu0 hcu1 hcu2 hW1 hW2 hW3 hZ hZl hG hG2 hzb hzs0 hz0 hi0' hcn hn0 hk hq hj hne
      go_enter Tryd.func47, Tryd.ntmps47
      go_upto_region 11 with (first
        | (at_builtin; refine list_append_eq rfl _ _ 26 3 rfl _ _ rfl rfl hrz ?_)
        | (at_builtin; refine list_copy_eq rfl _ _ 26 26 rfl _ _ rfl rfl (hcp1 _ _) ?_))
      go_region_law (refine step_copy_eq rfl _ _ 26 26 rfl (.slice (some ⟨w.heap.size, i * 4 + 4, none⟩) (q - j) (G - j)) (.slice (some ⟨g, i * 4, none⟩) (n - i) (c - i)) (by first | (simp [Act.eval]; done) | (simp [Act.eval, Act.put]; done)) (by first | (simp [Act.eval]; done) | (simp [Act.eval, Act.put]; done)) (hcp2 _ _ _) ?_)
      all_goals
        go_wp2_with fail
        go_ret
        exact HF.out
    · -- there is room: in place
      have hcq : q ≤ c := by omega
      have hrun0 : cur.toList.length = c * 4 := hcl
      obtain ⟨l1, l2, l3⟩ := ins_list1 (B := (M.drop i).flatMap El.cs) (V := d.cs) (R := cur.toList.drop (n * 4)) hAl hBl rfl (by rw [List.length_drop, hcl]; omega)
      rw [← hcur] at l1 l2 l3
      have hcp1 := fun ty dc sc => copy34 w.drew ty g (j * 4) (q - j) dc ⟨g, i * 4, none⟩ (q - i) sc (n - i) cur ((M.drop i).flatMap El.cs) hgb (by rw [show q - j = n - i by omega]; exact Nat.min_eq_right (by omega)) hBl (fun t u ht => by
        rw [Addr.add_lit]
        refine h.cell (j := i * 4 + t) ?_
        rw [hAB, List.getElem?_append_right (by omega), hAl, Nat.add_sub_cancel_left]
        exact ht) (by rw [hBl, hc3]; omega) hB1
      rw [hBl, show j * 4 = i * 4 + 4 by omega] at hcp1
      obtain ⟨cu1, hcu1⟩ : ∃ cu1 : Array Value, (cur.toList.take (i * 4 + 4) ++ (M.drop i).flatMap El.cs ++ cur.toList.drop (i * 4 + 4 + (n - i) * 4)).toArray = cu1 := ⟨_, rfl⟩
      have hcu1l : cu1.toList = cur.toList.take (i * 4 + 4) ++ (M.drop i).flatMap El.cs ++ cur.toList.drop (i * 4 + 4 + (n - i) * 4) := by rw [← hcu1]
      rw [hcu1] at hcp1
      rw [← hcu1l] at l1 l2 l3
      have hcu1s : cu1.size = c * 4 := by rw [← Array.length_toList, l1, hcl]
      have x1 : (w.drew.setRow g cu1).heap[g]? = some (.cells cu1 34 (0, 0)) := setRow_heap w.drew g cur cu1 34 (0, 0) hgb
      have g1 : w.grownBy (w.drew.setRow g cu1) (some g) := ⟨rfl, rfl, rfl, by simp, fun t ht hne => setRow_other w.drew g t cu1 (fun e => hne (by rw [e]))⟩
      obtain ⟨W1, hW1⟩ : ∃ W1, w.drew.setRow g cu1 = W1 := ⟨_, rfl⟩
      rw [hW1] at hcp1 x1 g1
      have hv1 : Bx W1 vb 34 d.arr := (g1.block vb hv.lt (fun e => hvg (by simpa using e))).trans hv
      have hcp2 := fun ty dc => copy34 W1 ty g (i * 4) (q - i) dc ⟨vb, 0, none⟩ 1 1 1 cu1 d.cs x1 (Nat.min_eq_left (by omega)) rfl (fun t u ht => by
        rw [Addr.add_lit, Nat.zero_add, hv1.cell t, ← ht]
        simp [El.cs]) (by rw [hdl, hcu1s]; omega) hd1'
      rw [hdl] at hcp2
      obtain ⟨cu2, hcu2⟩ : ∃ cu2 : Array Value, (cu1.toList.take (i * 4) ++ d.cs ++ cu1.toList.drop (i * 4 + 4)).toArray = cu2 := ⟨_, rfl⟩
      have hcu2l : cu2.toList = cu1.toList.take (i * 4) ++ d.cs ++ cu1.toList.drop (i * 4 + 4) := by rw [← hcu2]
      rw [hcu2] at hcp2
      rw [← hcu2l] at l2 l3
      have hcu2s : cu2.size = c * 4 := by rw [← Array.length_toList, l2, hcl]
      have x2 : (W1.setRow g cu2).heap[g]? = some (.cells cu2 34 (0, 0)) := setRow_heap W1 g cu1 cu2 34 (0, 0) x1
      have g2 : w.grownBy (W1.setRow g cu2) (some g) := g1.trans ⟨rfl, rfl, rfl, by simp, fun t ht hne => setRow_other W1 g t cu2 (fun e => hne (by rw [e]))⟩
      have HF : Hid (Insd S g n M i d w (.returned (.slice (some ⟨g, 0, none⟩) q c)) (W1.setRow g cu2)) := by
        refine ⟨_, rfl, ?_, g2⟩
        rw [← hq]
        refine ⟨⟨?_, .inr ⟨g, c, cu2, rfl, Nat.zero_le _, x2, hcq, hc2, hcu2s, ?_⟩⟩, fun t ht => ?_⟩
        · rw [el_len, List.length_append, List.length_append, List.length_take, List.length_drop, hl]
          simp
          omega
        · rw [ins_cells, ← l3]
          congr 1
          omega
        · simp [Value.ownBlock] at ht
          subst ht
          exact hgS
      obtain ⟨W2, hW2⟩ : ∃ W2, W1.setRow g cu2 = W2 := ⟨_, rfl⟩
      rw [hW2] at hcp2 HF
      have hov : ∀ lb cb, (callFunc 56 #[.slice (some ⟨vb, 0, none⟩) 1 1, .slice (some ⟨g, i * 4 + 4, none⟩) lb cb]).run Tryd.prog w = .ok (.value (.bool false)) w := fun lb cb => by
        rw [run_callFunc_extern Tryd.func56 (by kernel_rfl) (by kernel_rfl) (by kernel_rfl) (e := Extern.SlicesOverlaps.overlaps #[26, 26] #[4]) (by kernel_rfl),
          Lib.run_overlaps_apart w 26 4 34 Tryd.underlying26 4 Tryd.sizeOf34 ⟨vb, 0, none⟩ ⟨g, i * 4 + 4, none⟩ 1 1 lb cb hvg 34 34 4 cur.size (by have := hv; unfold Bx at this; simp [World.shape?, this]) (by simp [World.shape?, hgb]) (by rw [hc3]; omega) (hv.frozen 0) (hv.frozen 4)]
        rfl
      have hgt : decide ((c : Int) < (q : Int)) = false := decide_eq_false (by omega)
      have hqi : q - i = q - i := rfl
      have hcj : ¬ c = j := by omega
      have hj4 : j * 4 = i * 4 + 4 := by omega
      have hqc : (q : Int) ≤ (c : Int) := by omega
      clear h hl hv hvc hd1' hd1 hav hgS hgl hgb hc3 hc4 hlow hdl hc2 hcl hAB hcur hB1 hBl x1 x2 g1 g2 l1 l2 l3 hcu1l hcu2l hcu1s hcu2s hcu1 hcu2 hW1 hW2 hn0 hq hj hne hqi hv1 hrun0 hroom
      go_enter Tryd.func47, Tryd.ntmps47
      go_upto_region 15 with (simp only [hov])
      go_region_law (refine step_copy_eq rfl _ _ 26 26 rfl (.slice (some ⟨g, i * 4 + 4, none⟩) (q - j) (c - j)) (.slice (some ⟨g, i * 4, none⟩) (q - i) (c - i)) (by first | (simp [Act.eval]; done) | (simp [Act.eval, Act.put]; done)) (by first | (simp [Act.eval]; done) | (simp [Act.eval, Act.put]; done)) (hcp1 _ _ _) ?_)
      all_goals
        go_wp2_with (at_builtin; refine list_copy_eq rfl _ _ 26 26 rfl _ _ rfl rfl (hcp2 _ _) ?_)
        go_ret
        exact HF.out
end Go.Proofs.YtkmghkfdegdikaaDoor
