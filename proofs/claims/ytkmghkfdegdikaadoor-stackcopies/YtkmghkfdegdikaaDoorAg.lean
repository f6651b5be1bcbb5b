/- slices.Clone, slices.Reverse of elements. -/
import Derived.Test.YtkmghkfdegdikaaDoorAf
import Derived.Laws.Tables
namespace Go.Proofs.YtkmghkfdegdikaaDoor
open Go.RowKit

theorem el_one (M : List El) (h : ∀ d ∈ M, d.av.oneCell' = true) (u : Value) (hu : u ∈ M.flatMap El.cs) : u.oneCell' = true := by
  rw [List.mem_flatMap] at hu
  obtain ⟨x, hx, hu⟩ := hu
  simp only [El.cs, List.mem_cons, List.not_mem_nil, or_false] at hu
  rcases hu with rfl | rfl | rfl | rfl
  · rfl
  · rfl
  · rfl
  · exact h x hx
theorem Own.one {w : World} {v : Value} {A : List At} (h : Own w v A) : v.oneCell' = true := h.1.one
theorem eqIn_nil (d t e : Nat) (a : Option Addr) (l c : Nat) (w : World) (h : Tryd.prog.underlying t = some (.slice e)) : (Op.equalIn (d + 1) t (.slice a l c) (.slice none 0 0)).run Tryd.prog w = .ok a.isNone w := by
  cases a <;> simp [Op.equalIn, run_underlying h]
theorem eq_nil (t e : Nat) (a : Option Addr) (l c : Nat) (w : World) (b : Bool) (hb : a.isNone = b) (h : Tryd.prog.underlying t = some (.slice e)) : (binOp .eql t (.slice a l c) (.slice none 0 0)).run Tryd.prog w = .ok (.bool b) w := by
  subst hb
  simp only [binOp]
  simp [show Op.equal t (.slice a l c) (.slice none 0 0) = Op.equalIn (9999 + 1) t (.slice a l c) (.slice none 0 0) from rfl, eqIn_nil 9999 t e a l c w h]
set_option maxHeartbeats 1000000 in
set_option maxRecDepth 20000 in
theorem clone_any {w : World} {g o n c : Nat} {xs : List Value} (hl : xs.length = n * 4) (hx : ∀ (j : Nat) u, xs[j]? = some u → w.cell? ⟨g, o + j, none⟩ = some u) (hg : g < w.heap.size) (h1 : ∀ u ∈ xs, u.oneCell' = true) (hn : n ≤ 1000000000) :
    Calls Tryd.prog 54 #[.slice (some ⟨g, o, none⟩) n c] w fun e w' => ∃ v, e = .returned v ∧ Rw (fun k => k < w.heap.size) w' 34 4 v n xs ∧ Below w.heap.size w w' := by
  obtain ⟨W1, hW1⟩ : ∃ W1, w.alloc (.cells #[] 34) = W1 := ⟨_, rfl⟩
  have HW1 : Hid (w.alloc (.cells #[] 34) = W1) := hW1
  have x1 : Bx W1 w.heap.size 34 #[] := by rw [← hW1]; exact heap_alloc_new w _
  have b1 : Below w.heap.size w W1 := by rw [← hW1]; exact (Below.refl _ _).alloc (Nat.le_refl _) _
  clear hW1
  have r1 : Rw (fun k => k < w.heap.size) W1 34 4 (.slice (some ⟨w.heap.size, 0, none⟩) 0 0) 0 [] := ⟨⟨by simp, .inr ⟨w.heap.size, 0, #[], rfl, Nat.zero_le _, x1, Nat.le_refl _, Nat.zero_le _, by simp, by simp⟩⟩, fun k hk => by
    simp [Value.ownBlock] at hk
    subst hk
    exact Nat.lt_irrefl _⟩
  obtain ⟨v2, w2, e2, r2, g2, _⟩ := Rw.app (t := 26) (e := 34) Tryd.underlying26 info34 rfl (by decide) r1 (fun k hk => Nat.lt_of_lt_of_le hk b1.size) g o n c xs hl (fun j u hj => (b1.cell (p := ⟨g, o + j, none⟩) hg).trans (hx j u hj)) h1 (by omega) (by omega)
  have HF : Hid (Rw (fun k => k < w.heap.size) w2 34 4 v2 n xs ∧ Below w.heap.size w w2) := ⟨by rw [List.nil_append, Nat.zero_add] at r2; exact r2, b1.trans ((r1.keep g2).below (fun k hk => hk) b1.size)⟩
  have en := fun w => eq_nil 26 34 (some ⟨g, o, none⟩) n c w false rfl Tryd.underlying26
  clear r1 r2 g2 x1 b1 hx hl h1
  go_enter Tryd.func54, Tryd.ntmps54
  go_upto_region 3 with fail
  go_wp2_with (first | (rw [HW1.out]; fail) | (at_builtin; refine list_append_eq rfl _ _ 26 26 rfl _ _ rfl rfl (by rw [HW1.out]; exact e2) ?_))
  go_ret
  exact ⟨_, rfl, HF.out⟩

theorem Sm4 (w : World) (g o : Nat) (a b c d : Value) (k : Nat) (hk : k ≠ g) : ((((w.setCell ⟨g, o, none⟩ a).setCell ⟨g, o + 1, none⟩ b).setCell ⟨g, o + 2, none⟩ c).setCell ⟨g, o + 3, none⟩ d).heap[k]? = w.heap[k]? :=
  (heap_setCell_other _ ⟨g, o + 3, none⟩ k d hk).trans ((heap_setCell_other _ ⟨g, o + 2, none⟩ k c hk).trans ((heap_setCell_other _ ⟨g, o + 1, none⟩ k b hk).trans (heap_setCell_other _ ⟨g, o, none⟩ k a hk)))
/-- An element is put into a row. -/
theorem Rw.put4 {S : Nat → Prop} {w : World} {g cap n : Nat} {M : List El} (h : Rw S w 34 4 (.slice (some ⟨g, 0, none⟩) n cap) n (M.flatMap El.cs)) {i : Nat} (hi : i < M.length) (d : El) :
    Rw S ((((w.setCell ⟨g, i * 4, none⟩ (iv d.id)).setCell ⟨g, i * 4 + 1, none⟩ (iv d.sp)).setCell ⟨g, i * 4 + 2, none⟩ (.string d.nm)).setCell ⟨g, i * 4 + 3, none⟩ d.av) 34 4 (.slice (some ⟨g, 0, none⟩) n cap) n ((M.set i d).flatMap El.cs) ∧
    w.grownBy ((((w.setCell ⟨g, i * 4, none⟩ (iv d.id)).setCell ⟨g, i * 4 + 1, none⟩ (iv d.sp)).setCell ⟨g, i * 4 + 2, none⟩ (.string d.nm)).setCell ⟨g, i * 4 + 3, none⟩ d.av) (some g) := by
  obtain ⟨x, hx⟩ : ∃ x, M[i]? = some x := ⟨_, List.getElem?_eq_getElem hi⟩
  have hf : ∀ y : El, y.cs.length = 4 := fun _ => rfl
  obtain ⟨a1, b1⟩ := h.set (i * 4) (iv d.id)
  have e1 := fl_set El.cs 4 hf M i 0 x ⟨d.id, x.sp, x.nm, x.av, d.al⟩ (iv d.id) hx (by decide) rfl
  rw [Nat.add_zero] at e1
  rw [e1] at a1
  have hx1 : (M.set i ⟨d.id, x.sp, x.nm, x.av, d.al⟩)[i]? = some ⟨d.id, x.sp, x.nm, x.av, d.al⟩ := by simp [hi]
  obtain ⟨a2, b2⟩ := a1.set (i * 4 + 1) (iv d.sp)
  have e2 := fl_set El.cs 4 hf _ i 1 _ ⟨d.id, d.sp, x.nm, x.av, d.al⟩ (iv d.sp) hx1 (by decide) rfl
  rw [e2, List.set_set] at a2
  have hx2 : (M.set i ⟨d.id, d.sp, x.nm, x.av, d.al⟩)[i]? = some ⟨d.id, d.sp, x.nm, x.av, d.al⟩ := by simp [hi]
  obtain ⟨a3, b3⟩ := a2.set (i * 4 + 2) (.string d.nm)
  have e3 := fl_set El.cs 4 hf _ i 2 _ ⟨d.id, d.sp, d.nm, x.av, d.al⟩ (.string d.nm) hx2 (by decide) rfl
  rw [e3, List.set_set] at a3
  have hx3 : (M.set i ⟨d.id, d.sp, d.nm, x.av, d.al⟩)[i]? = some ⟨d.id, d.sp, d.nm, x.av, d.al⟩ := by simp [hi]
  obtain ⟨a4, b4⟩ := a3.set (i * 4 + 3) d.av
  have e4 := fl_set El.cs 4 hf _ i 3 _ d d.av hx3 (by decide) rfl
  rw [e4, List.set_set] at a4
  exact ⟨a4, ((b1.trans b2).trans b3).trans b4⟩
theorem Rw.drew {S : Nat → Prop} {w : World} {e s n : Nat} {v : Value} {xs : List Value} (h : Rw S w e s v n xs) : Rw S w.drew e s v n xs := h.mv fun _ _ => rfl
theorem el_cells {S : Nat → Prop} {w : World} {g n cap : Nat} {C : List El} (h : Rw S w 34 4 (.slice (some ⟨g, 0, none⟩) n cap) n (C.flatMap El.cs)) {i : Nat} {x : El} (hi : C[i]? = some x) : w.cell? ⟨g, i * 4, none⟩ = some (iv x.id) ∧ w.cell? ⟨g, i * 4 + 1, none⟩ = some (iv x.sp) ∧ w.cell? ⟨g, i * 4 + 2, none⟩ = some (.string x.nm) ∧ w.cell? ⟨g, i * 4 + 3, none⟩ = some x.av := by
  have k := fun (j : Nat) (hj : j < 4) => fl_at El.cs 4 (fun _ => rfl) C i j x hi hj
  exact ⟨h.cell (k 0 (by decide)), h.cell (k 1 (by decide)), h.cell (k 2 (by decide)), h.cell (k 3 (by decide))⟩
set_option maxRecDepth 20000 in
set_option maxHeartbeats 2000000 in
theorem reverse_any {S : Nat → Prop} {w : World} {g n cap : Nat} {M : List El} (h : Rw S w 34 4 (.slice (some ⟨g, 0, none⟩) n cap) n (M.flatMap El.cs)) (hl : M.length = n) (hn : n ≤ 1000000000) (h0 : 0 < n) (hav : ∀ d ∈ M, ∃ ao an ac, d.av = .slice ao an ac) :
    Calls Tryd.prog 55 #[.slice (some ⟨g, 0, none⟩) n cap] w fun e w' => e = .returned (.tuple #[]) ∧ Rw S w' 34 4 (.slice (some ⟨g, 0, none⟩) n cap) n (M.reverse.flatMap El.cs) ∧ w.grownBy w' (some g) := by
  have HH : Hid (Rw S w 34 4 (.slice (some ⟨g, 0, none⟩) n cap) n (M.flatMap El.cs) ∧ M.length = n ∧ ∀ d ∈ M, ∃ ao an ac, d.av = .slice ao an ac) := ⟨h, hl, hav⟩
  clear h hl hav
  have hn1 : (n : Int) - 1 = ((n - 1 : Nat) : Int) := by omega
  go_enter Tryd.func55, Tryd.ntmps55
  go_wp2_with fail
  clear hn1
  go_loopg [2, 3] n (fun g2 s2 s3 wr => ∃ (i j : Nat) (N : List El), s2 = iv (i : Int) ∧ s3 = iv (j : Int) ∧ i + j + 1 = n ∧ j ≤ g2 ∧ Hid (Rw S wr 34 4 (.slice (some ⟨g, 0, none⟩) n cap) n (N.flatMap El.cs) ∧ w.grownBy wr (some g) ∧ N.length = n ∧ ∀ t, t < n → N[t]? = if t < i ∨ j < t then M[n - 1 - t]? else M[t]?))
  case atStart => exact ⟨0, n - 1, M, rfl, rfl, by omega, by omega, HH.out.1, World.grownBy.refl _ _, HH.out.2.1, fun t ht => by rw [if_neg (by omega)]⟩
  case round =>
    obtain ⟨i, j, N, rfl, rfl, hij, hjg, HI⟩ := hrel
    by_cases hlt : i < j
    · cases gk with
      | zero => omega
      | succ k =>
        have hd : decide ((i : Int) < (j : Int)) = true := decide_eq_true (by omega)
        have hi : i < n := by omega
        have hj : j < n := by omega
        have hti := HI.out.2.2.2 i hi
        rw [if_neg (by omega)] at hti
        have htj := HI.out.2.2.2 j hj
        rw [if_neg (by omega)] at htj
        obtain ⟨x, hx⟩ : ∃ x, M[i]? = some x := ⟨_, List.getElem?_eq_getElem (by rw [HH.out.2.1]; exact hi)⟩
        obtain ⟨y, hy⟩ : ∃ y, M[j]? = some y := ⟨_, List.getElem?_eq_getElem (by rw [HH.out.2.1]; exact hj)⟩
        obtain ⟨a0, a1, a2, a3⟩ := el_cells HI.out.1 (hti.trans hx)
        obtain ⟨b0, b1, b2, b3⟩ := el_cells HI.out.1 (htj.trans hy)
        obtain ⟨xo, xn, xc, hxv⟩ := HH.out.2.2 x (List.mem_of_getElem? hx)
        obtain ⟨yo, yn, yc, hyv⟩ := HH.out.2.2 y (List.mem_of_getElem? hy)
        obtain ⟨p1, q1⟩ := (HI.out.1).put4 (i := i) (by rw [HI.out.2.2.1]; exact hi) y
        obtain ⟨p2, q2⟩ := p1.put4 (i := j) (by rw [List.length_set, HI.out.2.2.1]; exact hj) x
        obtain ⟨p3, q3⟩ := (HI.out.1).put4 (i := j) (by rw [HI.out.2.2.1]; exact hj) x
        obtain ⟨p4, q4⟩ := p3.put4 (i := i) (by rw [List.length_set, HI.out.2.2.1]; exact hi) y
        have hne : i ≠ j := by omega
        have hsw : (N.set j x).set i y = (N.set i y).set j x := List.set_comm _ _ (fun e => hne e.symm)
        rw [hsw] at p4
        have hgd : ∀ V, wr.grownBy V (some g) → w.grownBy V.drew (some g) := fun V q => (HI.out.2.1.trans q).trans ⟨rfl, rfl, rfl, Nat.le_refl _, fun _ _ _ => rfl⟩
        have fz := fun t => World.ownsRow.frozenAt HI.out.1.own t
        have fi0 := fz (i * 4)
        have fi1 := fz (i * 4 + 1)
        have fi2 := fz (i * 4 + 2)
        have fi3 := fz (i * 4 + 3)
        have fj0 := fz (j * 4)
        have fj1 := fz (j * 4 + 1)
        have fj2 := fz (j * 4 + 2)
        have fj3 := fz (j * 4 + 3)
        obtain ⟨xid, xsp, xnm, xav, xal⟩ := x
        obtain ⟨yid, ysp, ynm, yav, yal⟩ := y
        simp only at a0 a1 a2 a3 b0 b1 b2 b3 hxv hyv
        subst hxv
        subst hyv
        have HF : Hid (∀ t, t < n → ((N.set i ⟨yid, ysp, ynm, .slice yo yn yc, yal⟩).set j ⟨xid, xsp, xnm, .slice xo xn xc, xal⟩)[t]? = if t < i + 1 ∨ j - 1 < t then M[n - 1 - t]? else M[t]?) := fun t ht => by
          by_cases e1 : t = j
          · subst e1
            rw [if_pos (by omega), show n - 1 - t = i by omega, hx]
            simp [HI.out.2.2.1, ht]
          · rw [List.getElem?_set_ne (fun e => e1 e.symm)]
            by_cases e2 : t = i
            · subst e2
              rw [if_pos (by omega), show n - 1 - t = j by omega, hy]
              simp [HI.out.2.2.1, ht]
            · rw [List.getElem?_set_ne (fun e => e2 e.symm), HI.out.2.2.2 t ht]
              by_cases e3 : t < i ∨ j < t
              · rw [if_pos e3, if_pos (by omega)]
              · rw [if_neg e3, if_neg (by omega)]
        have hlen : ((N.set i ⟨yid, ysp, ynm, .slice yo yn yc, yal⟩).set j ⟨xid, xsp, xnm, .slice xo xn xc, xal⟩).length = n := by rw [List.length_set, List.length_set]; exact HI.out.2.2.1
        obtain ⟨N2, hN2⟩ : ∃ N2, (N.set i ⟨yid, ysp, ynm, .slice yo yn yc, yal⟩).set j ⟨xid, xsp, xnm, .slice xo xn xc, xal⟩ = N2 := ⟨_, rfl⟩
        rw [hN2] at HF hlen p2 p4
        have HP2 : Hid (Rw S _ 34 4 (.slice (some ⟨g, 0, none⟩) n cap) n (N2.flatMap El.cs) ∧ w.grownBy _ (some g) ∧ N2.length = n ∧ ∀ t, t < n → N2[t]? = if t < i + 1 ∨ j - 1 < t then M[n - 1 - t]? else M[t]?) := ⟨p2.drew, hgd _ (q1.trans q2), hlen, HF.out⟩
        have HP4 : Hid (Rw S _ 34 4 (.slice (some ⟨g, 0, none⟩) n cap) n (N2.flatMap El.cs) ∧ w.grownBy _ (some g) ∧ N2.length = n ∧ ∀ t, t < n → N2[t]? = if t < i + 1 ∨ j - 1 < t then M[n - 1 - t]? else M[t]?) := ⟨p4.drew, hgd _ (q3.trans q4), hlen, HF.out⟩
        have hj1 : (j : Int) - 1 = ((j - 1 : Nat) : Int) := by omega
        clear p1 q1 p2 q2 p3 q3 p4 q4 hti htj hx hy hsw fz hgd HI HF hlen HH hN2
        go_wp2_with fail
        go_region
        all_goals
          go_wp2_with fail
          go_roundg k
          case measure => omega
          case rel => exact ⟨i + 1, j - 1, N2, by go_num, by go_num, by omega, by omega, by first | with_reducible exact HP2 | with_reducible exact HP4⟩
    · have hd : decide ((i : Int) < (j : Int)) = false := decide_eq_false (by omega)
      have HE : Hid (N = M.reverse) := by
        show N = M.reverse
        apply List.ext_getElem?
        intro t
        by_cases ht : t < n
        · rw [HI.out.2.2.2 t ht, List.getElem?_reverse (by rw [HH.out.2.1]; exact ht), HH.out.2.1]
          by_cases e : t < i ∨ j < t
          · rw [if_pos e]
          · rw [if_neg e]
            congr 1
            omega
        · rw [List.getElem?_eq_none (by rw [HI.out.2.2.1]; omega), List.getElem?_eq_none (by rw [List.length_reverse, HH.out.2.1]; omega)]
      go_wp2_with fail
      refine bodyPost_end (results_none rfl _ _ _) rfl ?_
      have := HI.out.1
      rw [HE.out] at this
      exact ⟨rfl, this, HI.out.2.1⟩
end Go.Proofs.YtkmghkfdegdikaaDoor
