/- Small; the document's Depth; how deep and how many a tree's nodes are. -/
import Derived.Test.YtdpibnmbgjhohaaAb
namespace Go.Proofs.Ytdpibnmbgjhohaa
open Go.RowKit

mutual
def dT : Tr → Nat
  | .mk _ ks => dL ks + 1
def dL : List Tr → Nat
  | [] => 0
  | t :: ts => max (dT t) (dL ts)
end
mutual
def cT : Tr → Nat
  | .mk _ ks => cL ks + 1
def cL : List Tr → Nat
  | [] => 0
  | t :: ts => cT t + cL ts
end
/-- Attributes in all. -/
theorem wT_neg (t : Tr) (deep left : Int) (h : deep < 0) : wT t deep left = -1 := by
  obtain ⟨d, ks⟩ := t
  rw [wT, if_pos h]
mutual
theorem wT_few : ∀ (t : Tr) (deep left : Int), 0 ≤ left → 0 ≤ wT t deep left → (dT t : Int) ≤ deep + 1 ∧ (cT t : Int) + wT t deep left ≤ left
  | .mk d ks, deep, left, h0, h => by
    rw [wT] at h ⊢
    split at h
    · omega
    · rename_i hd
      rw [if_neg hd]
      have hw : 1 ≤ ownW d ks.length := by unfold ownW; omega
      obtain ⟨q1, q2⟩ := wL_few ks (deep - 1) (left - ownW d ks.length) h
      rw [dT, cT]
      rcases q1 with q1 | rfl
      · omega
      · rw [dL]; omega
theorem wL_few : ∀ (l : List Tr) (deep left : Int), 0 ≤ wL l deep left → ((dL l : Int) ≤ deep + 1 ∨ l = []) ∧ (cL l : Int) + wL l deep left ≤ left
  | [], _, left, _ => by rw [wL, cL]; exact ⟨.inr rfl, by omega⟩
  | t :: ts, deep, left, h => by
    have h' := h
    rw [wL] at h ⊢
    split at h
    · rename_i hl
      rw [if_pos hl]
      have ht : 0 ≤ wT t deep left := by
        refine Classical.byContradiction fun hn => ?_
        rw [wL_neg _ _ _ (by omega)] at h
        omega
      obtain ⟨a1, a2⟩ := wT_few t deep left hl ht
      obtain ⟨b1, b2⟩ := wL_few ts deep (wT t deep left) h
      rw [dL, cL]
      refine ⟨.inl ?_, by omega⟩
      rcases b1 with b1 | rfl
      · omega
      · rw [dL]; omega
    · omega
end
theorem small_few {t : Tr} (h : 0 ≤ wT t 200 3000) : dT t ≤ 201 ∧ cT t ≤ 3000 := by
  obtain ⟨a, b⟩ := wT_few t 200 3000 (by omega) h
  omega
theorem small_any {w : World} {t : Tr} {av kv : Value} (h : TrV w t av kv) (hok : Ok t) :
    Calls Try.prog 7 #[.agg #[iv t.d.id, iv t.d.kind, iv t.d.space, .string t.d.name, .string t.d.text, av, iv t.d.sf, iv t.d.st, iv t.d.ef, iv t.d.et, kv]] w fun e w' => (e = .returned (iv (if wT t 200 3000 < 0 then 0 else 1))) ∧ Below w.heap.size w w' := by
  obtain ⟨w0, hw0⟩ : ∃ w0, (w.alloc (.cells #[iv t.d.id, iv t.d.kind, iv t.d.space, .string t.d.name, .string t.d.text, av, iv t.d.sf, iv t.d.st, iv t.d.ef, iv t.d.et, kv] 27)) = w0 := ⟨_, rfl⟩
  have b0 : Below w.heap.size w (w.alloc (.cells #[iv t.d.id, iv t.d.kind, iv t.d.space, .string t.d.name, .string t.d.text, av, iv t.d.sf, iv t.d.st, iv t.d.ef, iv t.d.et, kv] 27)) := (Below.refl _ _).alloc (Nat.le_refl _) _
  have n0 := heap_alloc_new w (.cells #[iv t.d.id, iv t.d.kind, iv t.d.space, .string t.d.name, .string t.d.text, av, iv t.d.sf, iv t.d.st, iv t.d.ef, iv t.d.et, kv] 27)
  have HW0 : Hid ((w.alloc (.cells #[iv t.d.id, iv t.d.kind, iv t.d.space, .string t.d.name, .string t.d.text, av, iv t.d.sf, iv t.d.st, iv t.d.ef, iv t.d.et, kv] 27)) = w0) := hw0
  rw [hw0] at b0 n0
  clear hw0
  have k25 := weigh_any h hok w0 b0 200 3000 (by decide) (by decide) (by decide) (by decide)
  have HB : Hid (Below w.heap.size w w0) := b0
  have p0 : w0.cell? ⟨w.heap.size, 0, none⟩ = some (iv t.d.id) := by simp [World.cell?, n0]
  have p1 : w0.cell? ⟨w.heap.size, 1, none⟩ = some (iv t.d.kind) := by simp [World.cell?, n0]
  have p2 : w0.cell? ⟨w.heap.size, 2, none⟩ = some (iv t.d.space) := by simp [World.cell?, n0]
  have p3 : w0.cell? ⟨w.heap.size, 3, none⟩ = some (.string t.d.name) := by simp [World.cell?, n0]
  have p4 : w0.cell? ⟨w.heap.size, 4, none⟩ = some (.string t.d.text) := by simp [World.cell?, n0]
  have p5 : w0.cell? ⟨w.heap.size, 5, none⟩ = some (av) := by simp [World.cell?, n0]
  have p6 : w0.cell? ⟨w.heap.size, 6, none⟩ = some (iv t.d.sf) := by simp [World.cell?, n0]
  have p7 : w0.cell? ⟨w.heap.size, 7, none⟩ = some (iv t.d.st) := by simp [World.cell?, n0]
  have p8 : w0.cell? ⟨w.heap.size, 8, none⟩ = some (iv t.d.ef) := by simp [World.cell?, n0]
  have p9 : w0.cell? ⟨w.heap.size, 9, none⟩ = some (iv t.d.et) := by simp [World.cell?, n0]
  have p10 : w0.cell? ⟨w.heap.size, 10, none⟩ = some (kv) := by simp [World.cell?, n0]
  clear n0 b0
  obtain ⟨x, hx⟩ : ∃ x, wT t 200 3000 = x := ⟨_, rfl⟩
  rw [hx] at k25 ⊢
  clear hx
  by_cases hn : x < 0
  · have g1 : decide (x < 0) = true := decide_eq_true hn
    rw [if_pos hn]
    go_enter Try.func7, Try.ntmps7
    go_upto_region 1 with fail
    rw [HW0.out]
    clear HW0
    go_wp2_with fail
    refine k25.mono ?_
    rintro e w1 ⟨rfl, b1⟩
    have HB1 : Hid (Below w.heap.size w w1) := HB.out.trans (b1.mono HB.out.size)
    clear k25 b1
    go_wp2_with fail
    go_ret
    exact ⟨rfl, HB1.out⟩
  · have g1 : decide (x < 0) = false := decide_eq_false hn
    rw [if_neg hn]
    go_enter Try.func7, Try.ntmps7
    go_upto_region 1 with fail
    rw [HW0.out]
    clear HW0
    go_wp2_with fail
    refine k25.mono ?_
    rintro e w1 ⟨rfl, b1⟩
    have HB1 : Hid (Below w.heap.size w w1) := HB.out.trans (b1.mono HB.out.size)
    clear k25 b1
    go_wp2_with fail
    go_ret
    exact ⟨rfl, HB1.out⟩
theorem dL_take (ks : List Tr) (j : Nat) (u : Tr) (h : ks[j]? = some u) : dL (ks.take (j + 1)) = max (dL (ks.take j)) (dT u) := by
  induction ks generalizing j with
  | nil => simp at h
  | cons a ks ih =>
    cases j with
    | zero => simp at h; subst h; simp [dL]
    | succ j =>
      have := ih j (by simpa using h)
      simp only [List.take_succ_cons, dL, this]
      omega
theorem dL_take_le (ks : List Tr) (j : Nat) : dL (ks.take j) ≤ dL ks := by
  induction ks generalizing j with
  | nil => simp [dL]
  | cons a ks ih =>
    cases j with
    | zero => simp [dL]
    | succ j =>
      have := ih j
      simp only [List.take_succ_cons, dL]
      omega
theorem dT_kid {d : Nd} {ks : List Tr} {j : Nat} {u : Tr} (h : ks[j]? = some u) : dT u < dT (.mk d ks) := by
  have a := dL_take ks j u h
  have b := dL_take_le ks (j + 1)
  rw [dT]
  omega
set_option maxHeartbeats 1000000 in
theorem rdepth_one {w : World} (d : Nd) (ks : List Tr) {ao kp : Option Addr} (an ac kn kc : Nat) (hkn : ks.length = kn) (hl : kn ≤ 140737488351232) (hd9 : dT (.mk d ks) ≤ 1000000000)
    (hk : ∀ (j : Nat) u, ks[j]? = some u → KidAt w kp j u fun w' a => Calls Try.prog 17 #[.agg a] w' fun e w'' => e = .returned (iv (dT u : Int)) ∧ Below w'.heap.size w' w'') :
    Calls Try.prog 17 #[.agg #[iv d.id, iv d.kind, iv d.space, .string d.name, .string d.text, .slice ao an ac, iv d.sf, iv d.st, iv d.ef, iv d.et, .slice kp kn kc]] w fun e w' => e = .returned (iv (dT (.mk d ks) : Int)) ∧ Below w.heap.size w w' := by
  have b0 : Below w.heap.size w (w.alloc (.cells #[iv d.id, iv d.kind, iv d.space, .string d.name, .string d.text, .slice ao an ac, iv d.sf, iv d.st, iv d.ef, iv d.et, .slice kp kn kc] 27)) := (Below.refl _ _).alloc (Nat.le_refl _) _
  have n0 := heap_alloc_new w (.cells #[iv d.id, iv d.kind, iv d.space, .string d.name, .string d.text, .slice ao an ac, iv d.sf, iv d.st, iv d.ef, iv d.et, .slice kp kn kc] 27)
  obtain ⟨w0, hw0⟩ : ∃ w0, (w.alloc (.cells #[iv d.id, iv d.kind, iv d.space, .string d.name, .string d.text, .slice ao an ac, iv d.sf, iv d.st, iv d.ef, iv d.et, .slice kp kn kc] 27)) = w0 := ⟨_, rfl⟩
  have HW0 : Hid ((w.alloc (.cells #[iv d.id, iv d.kind, iv d.space, .string d.name, .string d.text, .slice ao an ac, iv d.sf, iv d.st, iv d.ef, iv d.et, .slice kp kn kc] 27)) = w0) := hw0
  rw [hw0] at b0 n0
  clear hw0
  have HK : Hid ((∀ (j : Nat) u, ks[j]? = some u → KidAt w kp j u fun w' a => Calls Try.prog 17 #[.agg a] w' fun e w'' => e = .returned (iv (dT u : Int)) ∧ Below w'.heap.size w' w'') ∧ ks.length = kn ∧ dT (.mk d ks) ≤ 1000000000) := ⟨hk, hkn, hd9⟩
  have HB : Hid (Below w.heap.size w w0 ∧ w.heap.size < w0.heap.size) := ⟨b0, (Array.getElem?_eq_some_iff.1 n0).1⟩
  have p10 : w0.cell? ⟨w.heap.size, 10, none⟩ = some (.slice kp kn kc) := by simp [World.cell?, n0]
  clear b0 n0 hk hkn hd9
  go_enter Try.func17, Try.ntmps17
  go_upto_region 1 with fail
  rw [HW0.out]
  clear HW0
  go_wp2_with fail
  go_loopg [3, 4] kn (fun g2 lv jv wr => ∃ j : Nat, lv = iv (dL (ks.take j) : Int) ∧ jv = .int .i64 j ∧ j + g2 = kn ∧ Hid (Below w0.heap.size w0 wr))
  case atStart => exact ⟨0, by simp [dL], rfl, by omega, Below.refl _ _⟩
  case round =>
    obtain ⟨j, rfl, rfl, hjg, HI⟩ := hrel
    have c10 : wr.cell? ⟨w.heap.size, 10, none⟩ = some (.slice kp kn kc) := cell_below HI.out p10
    cases gk with
    | zero =>
      obtain rfl : j = kn := by omega
      have hg0 : decide ((j : Int) < (j : Int)) = false := decide_eq_false (by omega)
      obtain ⟨D, hD⟩ : ∃ D : Nat, dL (ks.take j) = D := ⟨_, rfl⟩
      have hD2 : dT (.mk d ks) = D + 1 := by rw [dT, ← hD, List.take_of_length_le (by rw [HK.out.2.1]; omega)]
      have hD3 : D + 1 ≤ 1000000000 := by rw [← hD2]; exact HK.out.2.2
      have HE : Hid (dT (.mk d ks) = D + 1) := hD2
      have hw : IntKind.i64.wrap ((D : Int) + 1) = (D : Int) + 1 := by rw [IntKind.wrap_i64]; omega
      rw [hD]
      clear hD hD2
      go_wp2_with fail
      go_ret
      exact ⟨by rw [HE.out]; rfl, HB.out.1.trans (HI.out.mono HB.out.1.size)⟩
    | succ k =>
      have hjk : j < kn := by omega
      have g2 : decide ((j : Int) < (kn : Int)) = true := decide_eq_true (by omega)
      obtain ⟨u, hu⟩ : ∃ u, ks[j]? = some u := ⟨_, List.getElem?_eq_getElem (by rw [HK.out.2.1]; exact hjk)⟩
      obtain ⟨kb, ko, av, kv, rfl, hkb, hc, hcall⟩ := HK.out.1 j u hu
      have bw : Below w.heap.size w wr := HB.out.1.trans (HI.out.mono HB.out.1.size)
      have hc' : CellsAt wr kb (ko + j * 11) (u.d.cs av kv) := hc.mv (bw.block kb hkb)
      have k0 : wr.cell? ⟨kb, ko + j * 11, none⟩ = some (iv u.d.id) := hc' 0 _ rfl
      have k1 : wr.cell? ⟨kb, ko + j * 11 + 1, none⟩ = some (iv u.d.kind) := hc' 1 _ rfl
      have k2 : wr.cell? ⟨kb, ko + j * 11 + 2, none⟩ = some (iv u.d.space) := hc' 2 _ rfl
      have k3 : wr.cell? ⟨kb, ko + j * 11 + 3, none⟩ = some (.string u.d.name) := hc' 3 _ rfl
      have k4 : wr.cell? ⟨kb, ko + j * 11 + 4, none⟩ = some (.string u.d.text) := hc' 4 _ rfl
      have k5 : wr.cell? ⟨kb, ko + j * 11 + 5, none⟩ = some (av) := hc' 5 _ rfl
      have k6 : wr.cell? ⟨kb, ko + j * 11 + 6, none⟩ = some (iv u.d.sf) := hc' 6 _ rfl
      have k7 : wr.cell? ⟨kb, ko + j * 11 + 7, none⟩ = some (iv u.d.st) := hc' 7 _ rfl
      have k8 : wr.cell? ⟨kb, ko + j * 11 + 8, none⟩ = some (iv u.d.ef) := hc' 8 _ rfl
      have k9 : wr.cell? ⟨kb, ko + j * 11 + 9, none⟩ = some (iv u.d.et) := hc' 9 _ rfl
      have k10 : wr.cell? ⟨kb, ko + j * 11 + 10, none⟩ = some (kv) := hc' 10 _ rfl
      have kd := hcall wr bw
      have HN : Hid (dL (ks.take (j + 1)) = max (dL (ks.take j)) (dT u)) := dL_take ks j u hu
      obtain ⟨A, hA⟩ : ∃ A : Nat, dL (ks.take j) = A := ⟨_, rfl⟩
      obtain ⟨B, hB⟩ : ∃ B : Nat, dT u = B := ⟨_, rfl⟩
      rw [hA, hB] at HN
      rw [hB] at kd
      rw [hA]
      clear hc hc' hcall bw hu hA hB
      go_wp2_with fail
      refine kd.mono ?_
      rintro e w2 ⟨rfl, b2⟩
      have HB2 : Hid (Below w0.heap.size w0 w2) := HI.out.trans (b2.mono HI.out.size)
      clear b2 kd
      go_wp2_with fail
      all_goals
        go_roundg k
        case measure => omega
        case rel => exact ⟨j + 1, by rw [HN.out]; congr 1; omega, by go_num, by omega, HB2.out⟩
theorem rdepth_any {w : World} {t : Tr} {av kv : Value} (h : TrV w t av kv) : ∀ (_ : Ok t) (_ : dT t ≤ 1000000000) (w' : World), Below w.heap.size w w' →
    Calls Try.prog 17 #[.agg #[iv t.d.id, iv t.d.kind, iv t.d.space, .string t.d.name, .string t.d.text, av, iv t.d.sf, iv t.d.st, iv t.d.ef, iv t.d.et, kv]] w' fun e w'' => e = .returned (iv (dT t : Int)) ∧ Below w'.heap.size w' w'' := by
  induction h with
  | mk ha hp hc hk ih =>
    rename_i d ks ac kc kb ko ao kp avs kvs
    intro hok h9 w' b
    cases hok with
    | mk o1 o2 o3 o4 =>
      refine rdepth_one d ks _ ac _ kc rfl o3 h9 fun j u hu => ?_
      have hne : ks ≠ [] := fun e => by rw [e] at hu; simp at hu
      obtain ⟨q1, q2⟩ := hc j u hu
      refine ⟨kb, ko, avs j, kvs j, hp hne, Nat.lt_of_lt_of_le q1 b.size, q2.mv (b.block kb q1), fun w2 b2 => ?_⟩
      exact ih j u hu (o4 u (List.mem_of_getElem? hu)) (by have := dT_kid (d := d) hu; omega) w2 (b.trans (b2.mono b.size))
end Go.Proofs.Ytdpibnmbgjhohaa
