/- All, Copy. -/
import Derived.Test.YtkmghkfdegdikaaDoorBc
namespace Go.Proofs.YtkmghkfdegdikaaDoor
open Go.RowKit

/-- A slice of zeros, wherever it is made. -/
theorem mk_all (n : Nat) (hn : n ≤ 1000000000) :
    ∃ f : World → World, ∀ w, (Instr.makeSlice 26 (.int .i64 (n : Int)) (.int .i64 (n : Int))).run Tryd.prog w = .ok (.slice (some ⟨w.heap.size, 0, none⟩) n n) (f w) ∧ Below w.heap.size w (f w) ∧ ∃ zs, Rw (fun k => k < w.heap.size) (f w) 34 4 (.slice (some ⟨w.heap.size, 0, none⟩) n n) n zs := by
  obtain ⟨i0, hi0, hz0, hzs0, hzb⟩ := info_parts info34
  have h : ∀ w : World, ∃ w', (Instr.makeSlice 26 (.int .i64 (n : Int)) (.int .i64 (n : Int))).run Tryd.prog w = .ok (.slice (some ⟨w.heap.size, 0, none⟩) n n) w' ∧ Below w.heap.size w w' ∧ ∃ zs, Rw (fun k => k < w.heap.size) w' 34 4 (.slice (some ⟨w.heap.size, 0, none⟩) n n) n zs := fun w => by
    obtain ⟨w1, hrun, r1, r2⟩ := run_make_full (P := Tryd.prog) w 0 26 34 i0 _ 4 Tryd.underlying26 hi0 hz0 hzs0 .i64 .i64 n (by rw [hzb]; omega) (by unfold maxLen; omega) (Nat.zero_le _)
    exact ⟨w1, hrun, grown_below r2, _, r1, fun g hg => by simp [Value.ownBlock] at hg; subst hg; exact Nat.lt_irrefl _⟩
  exact ⟨fun w => (h w).choose, fun w => (h w).choose_spec⟩
theorem set_app {A ys : List Value} (k j : Nat) (hA : A.length = k) (u : Value) : (A ++ ys).set (k + j) u = A ++ ys.set j u := by
  rw [List.set_append_right _ _ (by omega), hA, Nat.add_sub_cancel_left]
/-- An element is put behind those that are there. -/
theorem Rw.fill {S : Nat → Prop} {w : World} {g cap n : Nat} {N : List El} {y0 y1 y2 y3 : Value} {ys : List Value} (h : Rw S w 34 4 (.slice (some ⟨g, 0, none⟩) n cap) n (N.flatMap El.cs ++ (y0 :: y1 :: y2 :: y3 :: ys))) (d : El) {i : Nat} (hi : N.length = i) :
    Rw S ((((w.setCell ⟨g, i * 4, none⟩ (iv d.id)).setCell ⟨g, i * 4 + 1, none⟩ (iv d.sp)).setCell ⟨g, i * 4 + 2, none⟩ (.string d.nm)).setCell ⟨g, i * 4 + 3, none⟩ d.av) 34 4 (.slice (some ⟨g, 0, none⟩) n cap) n ((N ++ [d]).flatMap El.cs ++ ys) ∧
    w.grownBy ((((w.setCell ⟨g, i * 4, none⟩ (iv d.id)).setCell ⟨g, i * 4 + 1, none⟩ (iv d.sp)).setCell ⟨g, i * 4 + 2, none⟩ (.string d.nm)).setCell ⟨g, i * 4 + 3, none⟩ d.av) (some g) := by
  have hA : (N.flatMap El.cs).length = i * 4 := by rw [el_len, hi]
  obtain ⟨a1, b1⟩ := h.set (i * 4) (iv d.id)
  have e1 := set_app (ys := y0 :: y1 :: y2 :: y3 :: ys) (i * 4) 0 hA (iv d.id)
  rw [Nat.add_zero] at e1
  rw [e1] at a1
  obtain ⟨a2, b2⟩ := a1.set (i * 4 + 1) (iv d.sp)
  rw [set_app (i * 4) 1 hA] at a2
  obtain ⟨a3, b3⟩ := a2.set (i * 4 + 2) (.string d.nm)
  rw [set_app (i * 4) 2 hA] at a3
  obtain ⟨a4, b4⟩ := a3.set (i * 4 + 3) d.av
  rw [set_app (i * 4) 3 hA] at a4
  refine ⟨?_, ((b1.trans b2).trans b3).trans b4⟩
  rw [List.flatMap_append, List.append_assoc]
  exact a4
/-- What allCopied answers: the same elements, all in new memory. -/
abbrev AllIs (M : List El) (w : World) (e : Ending) (w' : World) : Prop := ∃ (v : Value) (N : List El), e = .returned v ∧ Rw (fun k => k < w.heap.size) w' 34 4 v M.length (N.flatMap El.cs) ∧ N.map El.pu = M.map El.pu ∧ (∀ d ∈ N, Own w' d.av d.al) ∧ Below w.heap.size w w'
set_option maxHeartbeats 4000000 in
set_option maxRecDepth 20000 in
theorem allcop_any {S : Nat → Prop} {w : World} {x : Nat} {rv : Value} {M : List El} (h : Stk S w x rv M) (hM : M.length ≤ 1000000000) : Calls Tryd.prog 40 #[rv] w (AllIs M w) := by
  obtain ⟨f, hf⟩ := mk_all M.length hM
  obtain ⟨hrun, bf, zs, rz⟩ := hf w
  obtain ⟨n, hn⟩ : ∃ n, M.length = n := ⟨_, rfl⟩
  obtain ⟨ao, c, hrv, hnc, hcm⟩ := h.row.slice
  have HH : Hid (Stk S w x rv M ∧ M.length = n ∧ n ≤ 1000000000) := ⟨h, hn, by omega⟩
  rw [hn] at hrun rz hrv hf hnc
  have hq := fun V => (hf V).1
  obtain ⟨W1, hW1⟩ : ∃ W1, f w = W1 := ⟨_, rfl⟩
  rw [hW1] at hrun bf rz
  have HB : Hid (Below w.heap.size w W1 ∧ Rw (fun k => k < w.heap.size) W1 34 4 (.slice (some ⟨w.heap.size, 0, none⟩) n n) n zs) := ⟨bf, rz⟩
  have HR : Hid (rv = .slice ao n c) := hrv
  clear h hf hq bf rz hW1 hn
  subst hrv
  clear HR
  go_enter Tryd.func40, Tryd.ntmps40
  go_wp2_with fail
  go_loopg [11] n (fun g2 iv' wr => ∃ (i : Nat) (N : List El) (ys : List Value), iv' = iv (i : Int) ∧ i + g2 = n ∧ Hid (Below w.heap.size w wr ∧ Rw (fun k => k < w.heap.size) wr 34 4 (.slice (some ⟨w.heap.size, 0, none⟩) n n) n (N.flatMap El.cs ++ ys) ∧ N.length = i ∧ N.map El.pu = (M.take i).map El.pu ∧ ∀ d ∈ N, Own wr d.av d.al))
  case atStart => exact ⟨0, [], zs, rfl, by omega, HB.out.1, HB.out.2, rfl, by simp, fun d hd => by simp at hd⟩
  case round =>
    obtain ⟨i, N, ys, rfl, hig, HI⟩ := hrel
    cases gk with
    | zero =>
      obtain rfl : i = n := by omega
      have hg0 : decide ((i : Int) < (i : Int)) = false := decide_eq_false (by omega)
      have HF : Hid (AllIs M w (.returned (.slice (some ⟨w.heap.size, 0, none⟩) i i)) wr) := by
        obtain ⟨h1, h2, h3, h4, h5⟩ := HI.out
        have hys : ys = [] := by
          have := h2.own.1
          rw [List.length_append, el_len, h3] at this
          exact List.eq_nil_of_length_eq_zero (by omega)
        rw [hys, List.append_nil] at h2
        rw [List.take_of_length_le (by rw [HH.out.2.1]; omega)] at h4
        exact ⟨_, N, rfl, by rw [HH.out.2.1]; exact h2, h4, h5, h1⟩
      go_wp2_with fail
      go_ret
      exact HF.out
    | succ k =>
      have hin : i < n := by omega
      have hn2 := HH.out.2.2
      obtain ⟨d, hd⟩ : ∃ d, M[i]? = some d := ⟨_, List.getElem?_eq_getElem (by rw [HH.out.2.1]; exact hin)⟩
      have hs := HH.out.1.old HI.out.1
      obtain ⟨g, cp, hgv, hc1, hc2, q0, q1, q2, q3, ho⟩ := hs.at hd
      rw [HH.out.2.1] at hgv
      simp only [Value.slice.injEq, true_and] at hgv
      obtain ⟨rfl, rfl⟩ := hgv
      have hts : M.take (i + 1) = M.take i ++ [d] := by rw [List.take_add_one, hd]; rfl
      obtain ⟨ao2, ac2, hav, _⟩ := ho.1.slice
      obtain ⟨id, sp, nm, av, al⟩ := d
      simp only at hav q0 q1 q2 q3
      subst hav
      obtain ⟨W2, hW2⟩ : ∃ W2, wr.alloc (.cells #[iv id, iv sp, .string nm, .slice ao2 al.length ac2] 34) = W2 := ⟨_, rfl⟩
      have HW2 : Hid (wr.alloc (.cells #[iv id, iv sp, .string nm, .slice ao2 al.length ac2] 34) = W2) := hW2
      have x2 : Bx W2 wr.heap.size 34 #[iv id, iv sp, .string nm, .slice ao2 al.length ac2] := by rw [← hW2]; exact heap_alloc_new wr _
      have b2 : Below wr.heap.size wr W2 := by rw [← hW2]; exact (Below.refl _ _).alloc (Nat.le_refl _) _
      have kc := copied_any (d := ⟨id, sp, nm, .slice ao2 al.length ac2, al⟩) (ho.ats.old b2)
      have c0 : W2.cell? ⟨wr.heap.size, 0, none⟩ = some (iv id) := x2.cell 0
      have c1 : W2.cell? ⟨wr.heap.size, 1, none⟩ = some (iv sp) := x2.cell 1
      have c2 : W2.cell? ⟨wr.heap.size, 2, none⟩ = some (.string nm) := x2.cell 2
      have c3 : W2.cell? ⟨wr.heap.size, 3, none⟩ = some (.slice ao2 al.length ac2) := x2.cell 3
      have H2 : Hid (Below wr.heap.size wr W2 ∧ M.take (i + 1) = M.take i ++ [⟨id, sp, nm, .slice ao2 al.length ac2, al⟩]) := ⟨b2, hts⟩
      clear hW2 x2 b2 hs hd ho hts
      go_upto_region 5 with fail
      rw [HW2.out]
      go_wp2_with fail
      refine kc.mono ?_
      rintro e w3 ⟨v3, rfl, o3, hv3, b3⟩
      have b3' : Below wr.heap.size wr w3 := H2.out.1.trans (b3.mono H2.out.1.size)
      obtain ⟨y0, y1, y2, y3, ys2, rfl⟩ : ∃ y0 y1 y2 y3 ys2, ys = y0 :: y1 :: y2 :: y3 :: ys2 := by
        have := HI.out.2.1.own.1
        rw [List.length_append, el_len, HI.out.2.2.1] at this
        match ys, (show 4 ≤ ys.length by omega) with
        | y0 :: y1 :: y2 :: y3 :: ys2, _ => exact ⟨y0, y1, y2, y3, ys2, rfl⟩
      obtain ⟨h1, h2, h3, h4, h5⟩ := HI.out
      have r3 := h2.old b3'
      have hA : (N.flatMap El.cs).length = i * 4 := by rw [el_len, h3]
      have cc : ∀ j u, (y0 :: y1 :: y2 :: y3 :: ys2)[j]? = some u → w3.cell? ⟨w.heap.size, i * 4 + j, none⟩ = some u := fun j u hj => r3.cell (by rw [List.getElem?_append_right (by omega), hA, Nat.add_sub_cancel_left]; exact hj)
      have k0 : w3.cell? ⟨w.heap.size, i * 4, none⟩ = some y0 := cc 0 _ rfl
      have k1 : w3.cell? ⟨w.heap.size, i * 4 + 1, none⟩ = some y1 := cc 1 _ rfl
      have k2 : w3.cell? ⟨w.heap.size, i * 4 + 2, none⟩ = some y2 := cc 2 _ rfl
      have k3 : w3.cell? ⟨w.heap.size, i * 4 + 3, none⟩ = some y3 := cc 3 _ rfl
      have fz := fun t => World.ownsRow.frozenAt r3.own t
      have f0 := fz (i * 4)
      have f1 := fz (i * 4 + 1)
      have f2 := fz (i * 4 + 2)
      have f3 := fz (i * 4 + 3)
      obtain ⟨ao5, ac5, hv5, _⟩ := o3.1.slice
      simp only at hv5
      subst hv5
      obtain ⟨p1, p2⟩ := r3.fill ⟨id, sp, nm, .slice ao5 al.length ac5, al⟩ h3
      have HJ : Hid (Below w.heap.size w ((((w3.setCell ⟨w.heap.size, i * 4, none⟩ (iv id)).setCell ⟨w.heap.size, i * 4 + 1, none⟩ (iv sp)).setCell ⟨w.heap.size, i * 4 + 2, none⟩ (.string nm)).setCell ⟨w.heap.size, i * 4 + 3, none⟩ (.slice ao5 al.length ac5)) ∧ Rw (fun k => k < w.heap.size) ((((w3.setCell ⟨w.heap.size, i * 4, none⟩ (iv id)).setCell ⟨w.heap.size, i * 4 + 1, none⟩ (iv sp)).setCell ⟨w.heap.size, i * 4 + 2, none⟩ (.string nm)).setCell ⟨w.heap.size, i * 4 + 3, none⟩ (.slice ao5 al.length ac5)) 34 4 (.slice (some ⟨w.heap.size, 0, none⟩) n n) n ((N ++ [(⟨id, sp, nm, .slice ao5 al.length ac5, al⟩ : El)]).flatMap El.cs ++ ys2) ∧ (N ++ [(⟨id, sp, nm, .slice ao5 al.length ac5, al⟩ : El)]).length = i + 1 ∧ (N ++ [(⟨id, sp, nm, .slice ao5 al.length ac5, al⟩ : El)]).map El.pu = (M.take (i + 1)).map El.pu ∧ ∀ d ∈ N ++ [(⟨id, sp, nm, .slice ao5 al.length ac5, al⟩ : El)], Own ((((w3.setCell ⟨w.heap.size, i * 4, none⟩ (iv id)).setCell ⟨w.heap.size, i * 4 + 1, none⟩ (iv sp)).setCell ⟨w.heap.size, i * 4 + 2, none⟩ (.string nm)).setCell ⟨w.heap.size, i * 4 + 3, none⟩ (.slice ao5 al.length ac5)) d.av d.al) := by
        have own : ∀ {v : Value} {A : List At}, Own w3 v A → Own ((((w3.setCell ⟨w.heap.size, i * 4, none⟩ (iv id)).setCell ⟨w.heap.size, i * 4 + 1, none⟩ (iv sp)).setCell ⟨w.heap.size, i * 4 + 2, none⟩ (.string nm)).setCell ⟨w.heap.size, i * 4 + 3, none⟩ (.slice ao5 al.length ac5)) v A := fun {v A} q => q.mv fun g cu hg => Sm4 w3 w.heap.size (i * 4) _ _ _ _ g (fun e => by
          obtain ⟨_, c', h6⟩ := own_blk r3.own (show (Value.slice (some ⟨w.heap.size, 0, none⟩) n n).ownBlock = some w.heap.size from rfl)
          rw [e, h6] at hg
          simp at hg)
        refine ⟨(h1.trans (b3'.mono h1.size)).trans ⟨p2.os, p2.tape, p2.output, p2.size, fun k hk => p2.block k (Nat.lt_of_lt_of_le hk (h1.trans (b3'.mono h1.size)).size) (fun e => by simp at e; omega)⟩, p1, by rw [List.length_append, h3]; rfl, ?_, fun q hq => ?_⟩
        · rw [H2.out.2, List.map_append, List.map_append, h4]
          rfl
        · rcases List.mem_append.1 hq with hq | hq
          · exact own ((h5 q hq).old b3')
          · simp at hq
            subst hq
            exact own o3
      clear h1 h2 h3 h4 h5 r3 hA cc fz p1 p2 o3 hv3 b3 b3' kc HI c0 c1 c2 c3
      go_wp2_with fail
      go_roundg k
      case measure => omega
      case rel => exact ⟨i + 1, _, ys2, by go_num, by omega, HJ⟩
set_option maxHeartbeats 1000000 in
theorem all_any {S : Nat → Prop} {w : World} {x : Nat} {rv : Value} {M : List El} (h : Stk S w x rv M) (hM : M.length ≤ 1000000000) : Calls Tryd.prog 16 #[ptr x] w (AllIs M w) := by
  have ka := allcop_any h hM
  obtain ⟨ao, c, rfl, _⟩ := h.row.slice
  have c0 : w.cell? ⟨x, 0, none⟩ = some (.slice ao M.length c) := h.blk.cell 0
  clear h hM
  go_enter Tryd.func16, Tryd.ntmps16
  go_wp2_with fail
  refine ka.mono ?_
  rintro e w1 ⟨v, N, rfl, h1, h2, h3, h4⟩
  have HF : Hid (AllIs M w (.returned v) w1) := ⟨v, N, rfl, h1, h2, h3, h4⟩
  clear ka h1 h2 h3 h4
  go_wp2_with fail
  go_ret
  exact HF.out
set_option maxHeartbeats 1000000 in
theorem copy_any {S : Nat → Prop} {w : World} {x : Nat} {rv : Value} {M : List El} (h : Stk S w x rv M) (hM : M.length ≤ 1000000000) : Calls Tryd.prog 17 #[ptr x] w fun e w' => ∃ y yv N, e = .returned (ptr y) ∧ Stk (fun k => k < w.heap.size) w' y yv N ∧ N.map El.pu = M.map El.pu ∧ Below w.heap.size w w' := by
  have ka := allcop_any h hM
  obtain ⟨ao, c, rfl, _⟩ := h.row.slice
  have c0 : w.cell? ⟨x, 0, none⟩ = some (.slice ao M.length c) := h.blk.cell 0
  clear h hM
  go_enter Tryd.func17, Tryd.ntmps17
  go_wp2_with fail
  refine ka.mono ?_
  rintro e w1 ⟨v, N, rfl, h1, h2, h3, h4⟩
  obtain ⟨a5, c5, rfl, _⟩ := h1.slice
  obtain ⟨W2, hW2⟩ : ∃ W2, w1.alloc (.cells #[.slice a5 M.length c5] 55) = W2 := ⟨_, rfl⟩
  have HW2 : Hid (w1.alloc (.cells #[.slice a5 M.length c5] 55) = W2) := hW2
  have x2 : Bx W2 w1.heap.size 55 #[.slice a5 M.length c5] := by rw [← hW2]; exact heap_alloc_new w1 _
  have b2 : Below w1.heap.size w1 W2 := by rw [← hW2]; exact (Below.refl _ _).alloc (Nat.le_refl _) _
  have hl : N.length = M.length := by simpa using congrArg List.length h2
  have HF : Hid (Stk (fun k => k < w.heap.size) W2 w1.heap.size (.slice a5 M.length c5) N ∧ N.map El.pu = M.map El.pu ∧ Below w.heap.size w W2) := by
    have bb := h4.trans (b2.mono h4.size)
    exact ⟨⟨fun k hk => Nat.lt_of_lt_of_le hk bb.size, x2, fun hk => by have := h4.size; omega, by rw [hl]; exact h1.old b2, fun d hd => (h3 d hd).old b2⟩, h2, bb⟩
  clear ka h1 h2 h3 h4 hW2 x2 b2 hl
  go_wp2_with fail
  rw [HW2.out]
  go_ret
  exact ⟨_, _, N, rfl, HF.out.1, HF.out.2.1, HF.out.2.2⟩
end Go.Proofs.YtkmghkfdegdikaaDoor
