/- How heavy a tree is: weigh, Small. -/
import Derived.Test.YtdpibnmbgjhohaaAa
namespace Go.Proofs.Ytdpibnmbgjhohaa
open Go.RowKit

abbrev ptr (x : Nat) : Value := .pointer (some ⟨x, 0, none⟩)
theorem cell_below {w w' : World} {x j : Nat} {v : Value} (b : Below w.heap.size w w') (h : w.cell? ⟨x, j, none⟩ = some v) : w'.cell? ⟨x, j, none⟩ = some v := by
  rw [← h]
  simp [World.cell?, b.block x (World.block_lt_of_cell? w _ h)]
/-- Lists and texts within the reach, everywhere in a tree. -/
inductive Ok : Tr → Prop
  | mk {d : Nd} {ks : List Tr} (ha : d.al.length ≤ 140737488351232) (ht : d.text.size ≤ 140737488351232) (hl : ks.length ≤ 140737488351232) (hk : ∀ t ∈ ks, Ok t) : Ok (.mk d ks)
/-- What a node weighs by itself. -/
def ownW (d : Nd) (n : Nat) : Int := 1 + (d.al.length : Int) + (d.text.size / 100 : Nat) + (n : Int)
mutual
def wT : Tr → Int → Int → Int
  | .mk d ks, deep, left => if deep < 0 then -1 else wL ks (deep - 1) (left - ownW d ks.length)
def wL : List Tr → Int → Int → Int
  | [], _, left => left
  | t :: ts, deep, left => if 0 ≤ left then wL ts deep (wT t deep left) else left
end
theorem wL_neg (l : List Tr) (deep left : Int) (h : left < 0) : wL l deep left = left := by
  cases l with
  | nil => rfl
  | cons t ts => rw [wL, if_neg (by omega)]
mutual
theorem wT_le : ∀ (t : Tr) (deep left : Int), -1 ≤ left → wT t deep left ≤ left
  | .mk d ks, deep, left, h => by
    rw [wT]
    split
    · exact h
    · have : 0 ≤ ownW d ks.length := by unfold ownW; omega
      exact Int.le_trans (wL_le ks _ _) (by omega)
theorem wL_le : ∀ (l : List Tr) (deep left : Int), wL l deep left ≤ left
  | [], _, _ => Int.le_refl _
  | t :: ts, deep, left => by
    rw [wL]
    split
    · exact Int.le_trans (wL_le ts _ _) (wT_le t _ _ (by omega))
    · exact Int.le_refl _
end
/-- A kid in memory, and what a call on it answers, whatever is made besides. -/
def KidAt (w : World) (kp : Option Addr) (j : Nat) (u : Tr) (R : World → Array Value → Prop) : Prop :=
  ∃ kb ko av kv, kp = some ⟨kb, ko, none⟩ ∧ kb < w.heap.size ∧ CellsAt w kb (ko + j * 11) (u.d.cs av kv) ∧ ∀ w', Below w.heap.size w w' → R w' #[iv u.d.id, iv u.d.kind, iv u.d.space, .string u.d.name, .string u.d.text, av, iv u.d.sf, iv u.d.st, iv u.d.ef, iv u.d.et, kv]
set_option maxHeartbeats 1000000 in
theorem weigh_one {w : World} (d : Nd) (ks : List Tr) {ao kp : Option Addr} (an ac kn kc : Nat) (han : d.al.length = an) (hkn : ks.length = kn) (ha : an ≤ 140737488351232) (ht : d.text.size ≤ 140737488351232) (hl : kn ≤ 140737488351232) (deep left : Int) (hd : -2 ≤ deep ∧ deep ≤ 300) (hle : 0 ≤ left ∧ left ≤ 3000)
    (hk : 0 ≤ deep → ∀ (j : Nat) u, ks[j]? = some u → KidAt w kp j u fun w' a => ∀ left', 0 ≤ left' → left' ≤ 3000 → Calls Try.prog 25 #[.agg a, iv (deep - 1), iv left'] w' fun e w'' => e = .returned (iv (wT u (deep - 1) left')) ∧ Below w'.heap.size w' w'') :
    Calls Try.prog 25 #[.agg #[iv d.id, iv d.kind, iv d.space, .string d.name, .string d.text, .slice ao an ac, iv d.sf, iv d.st, iv d.ef, iv d.et, .slice kp kn kc], iv deep, iv left] w fun e w' => e = .returned (iv (wT (.mk d ks) deep left)) ∧ Below w.heap.size w w' := by
  have b0 : Below w.heap.size w (w.alloc (.cells #[iv d.id, iv d.kind, iv d.space, .string d.name, .string d.text, .slice ao an ac, iv d.sf, iv d.st, iv d.ef, iv d.et, .slice kp kn kc] 27)) := (Below.refl _ _).alloc (Nat.le_refl _) _
  have n0 := heap_alloc_new w (.cells #[iv d.id, iv d.kind, iv d.space, .string d.name, .string d.text, .slice ao an ac, iv d.sf, iv d.st, iv d.ef, iv d.et, .slice kp kn kc] 27)
  obtain ⟨w0, hw0⟩ : ∃ w0, (w.alloc (.cells #[iv d.id, iv d.kind, iv d.space, .string d.name, .string d.text, .slice ao an ac, iv d.sf, iv d.st, iv d.ef, iv d.et, .slice kp kn kc] 27)) = w0 := ⟨_, rfl⟩
  have HW0 : Hid ((w.alloc (.cells #[iv d.id, iv d.kind, iv d.space, .string d.name, .string d.text, .slice ao an ac, iv d.sf, iv d.st, iv d.ef, iv d.et, .slice kp kn kc] 27)) = w0) := hw0
  rw [hw0] at b0 n0
  clear hw0
  obtain ⟨tq, htq⟩ : ∃ tq : Nat, d.text.size / 100 = tq := ⟨_, rfl⟩
  have hdv : ((d.text.size : Int)).tdiv 100 = (tq : Int) := by rw [← htq]; exact (Int.ofNat_tdiv d.text.size 100).symm
  have htq2 : tq ≤ 140737488351232 := by omega
  obtain ⟨l0, hl0⟩ : ∃ l0 : Int, left - (1 + (an : Int) + (tq : Int) + (kn : Int)) = l0 := ⟨_, rfl⟩
  have HV : Hid (wT (.mk d ks) deep left = if deep < 0 then -1 else wL ks (deep - 1) l0) := by
    show wT (.mk d ks) deep left = _
    rw [wT, ownW, han, hkn, htq, hl0]
  have HK : Hid ((0 ≤ deep → ∀ (j : Nat) u, ks[j]? = some u → KidAt w kp j u fun w' a => ∀ left', 0 ≤ left' → left' ≤ 3000 → Calls Try.prog 25 #[.agg a, iv (deep - 1), iv left'] w' fun e w'' => e = .returned (iv (wT u (deep - 1) left')) ∧ Below w'.heap.size w' w'') ∧ ks.length = kn) := ⟨hk, hkn⟩
  have HB : Hid (Below w.heap.size w w0 ∧ w0.heap[w.heap.size]? = some (.cells #[iv d.id, iv d.kind, iv d.space, .string d.name, .string d.text, .slice ao an ac, iv d.sf, iv d.st, iv d.ef, iv d.et, .slice kp kn kc] 27 (0, 0)) ∧ w.heap.size < w0.heap.size) := ⟨b0, n0, (Array.getElem?_eq_some_iff.1 n0).1⟩
  have p4 : w0.cell? ⟨w.heap.size, 4, none⟩ = some (.string d.text) := by simp [World.cell?, n0]
  have p5 : w0.cell? ⟨w.heap.size, 5, none⟩ = some (.slice ao an ac) := by simp [World.cell?, n0]
  have p10 : w0.cell? ⟨w.heap.size, 10, none⟩ = some (.slice kp kn kc) := by simp [World.cell?, n0]
  have w1 : IntKind.i64.wrap (1 + (an : Int)) = 1 + (an : Int) := by rw [IntKind.wrap_i64]; omega
  have w2 : IntKind.i64.wrap (1 + (an : Int) + (tq : Int)) = 1 + (an : Int) + (tq : Int) := by rw [IntKind.wrap_i64]; omega
  have w3 : IntKind.i64.wrap (1 + (an : Int) + (tq : Int) + (kn : Int)) = 1 + (an : Int) + (tq : Int) + (kn : Int) := by rw [IntKind.wrap_i64]; omega
  have w4 : IntKind.i64.wrap (left - (1 + (an : Int) + (tq : Int) + (kn : Int))) = l0 := by rw [IntKind.wrap_i64, hl0]; omega
  clear b0 n0 hk hkn han htq
  go_enter Try.func25, Try.ntmps25
  go_upto_region 1 with fail
  rw [HW0.out]
  clear HW0
  go_upto_region 2 with fail
  clear p4 p5 w1 w2 w3 w4 hdv
  by_cases hneg : deep < 0
  · have g1 : decide (deep < 0) = true := decide_eq_true hneg
    go_wp2_with fail
    go_ret
    exact ⟨by rw [HV.out, if_pos hneg]; rfl, HB.out.1⟩
  · have g1 : decide (deep < 0) = false := decide_eq_false hneg
    have w5 : IntKind.i64.wrap (deep - 1) = deep - 1 := by rw [IntKind.wrap_i64]; omega
    have HV2 : Hid (wT (.mk d ks) deep left = wL ks (deep - 1) l0) := by
      show wT (.mk d ks) deep left = _
      rw [HV.out, if_neg hneg]
    go_wp2_with fail
    go_loopg [2, 7] kn (fun g2 lv jv wr => ∃ (j : Nat) (lj : Int), lv = iv lj ∧ jv = .int .i64 j ∧ j + g2 = kn ∧ lj ≤ 3000 ∧ Hid (Below w0.heap.size w0 wr ∧ wL ks (deep - 1) l0 = wL (ks.drop j) (deep - 1) lj))
    case atStart => exact ⟨0, l0, rfl, rfl, by omega, by omega, Below.refl _ _, rfl⟩
    case round =>
      obtain ⟨j, lj, rfl, rfl, hjg, hlj, HI⟩ := hrel
      have c10 : wr.cell? ⟨w.heap.size, 10, none⟩ = some (.slice kp kn kc) := cell_below HI.out.1 p10
      by_cases hjk : j < kn
      · have g2 : decide ((j : Int) < (kn : Int)) = true := decide_eq_true (by omega)
        by_cases hl0' : 0 ≤ lj
        · have g3 : decide (lj ≥ 0) = true := decide_eq_true hl0'
          have g3' : decide (0 ≤ lj) = true := decide_eq_true hl0'
          obtain ⟨k, rfl⟩ : ∃ k, gk = k + 1 := ⟨gk - 1, by omega⟩
          obtain ⟨u, hu⟩ : ∃ u, ks[j]? = some u := ⟨_, List.getElem?_eq_getElem (by rw [HK.out.2]; exact hjk)⟩
          obtain ⟨kb, ko, av, kv, rfl, hkb, hc, hcall⟩ := HK.out.1 (by omega) j u hu
          have bw : Below w.heap.size w wr := HB.out.1.trans (HI.out.1.mono HB.out.1.size)
          have hc' : CellsAt wr kb (ko + j * 11) (u.d.cs av kv) := hc.mv (bw.block kb hkb)
          have k0 : wr.cell? ⟨kb, ko + j * 11, none⟩ = some (iv u.d.id) := hc' 0 _ rfl
          have k1 : wr.cell? ⟨kb, ko + j * 11 + 1, none⟩ = some (iv u.d.kind) := hc' 1 _ rfl
          have k2 : wr.cell? ⟨kb, ko + j * 11 + 2, none⟩ = some (iv u.d.space) := hc' 2 _ rfl
          have k3 : wr.cell? ⟨kb, ko + j * 11 + 3, none⟩ = some (.string u.d.name) := hc' 3 _ rfl
          have k4 : wr.cell? ⟨kb, ko + j * 11 + 4, none⟩ = some (.string u.d.text) := hc' 4 _ rfl
          have k5 : wr.cell? ⟨kb, ko + j * 11 + 5, none⟩ = some (av) := hc' 5 _ rfl
          have k6 : wr.cell? ⟨kb, ko + j * 11 + 6, none⟩ = some (iv u.d.sf) := hc' 6 _ rfl
          have k7 : wr.cell? ⟨kb, ko + j * 11 + 7, none⟩ = some (iv u.d.st) := hc' 7 _ rfl
          have k8 : wr.cell? ⟨kb, ko + j * 11 + 8, none⟩ = some (iv u.d.ef) := hc' 8 _ rfl
          have k9 : wr.cell? ⟨kb, ko + j * 11 + 9, none⟩ = some (iv u.d.et) := hc' 9 _ rfl
          have k10 : wr.cell? ⟨kb, ko + j * 11 + 10, none⟩ = some (kv) := hc' 10 _ rfl
          have kc25 := hcall wr bw lj hl0' hlj
          have HN : Hid (wL ks (deep - 1) l0 = wL (ks.drop (j + 1)) (deep - 1) (wT u (deep - 1) lj) ∧ wT u (deep - 1) lj ≤ 3000) := by
            have e : ks.drop j = u :: ks.drop (j + 1) := by
              rw [← List.getElem_cons_drop (h := (List.getElem?_eq_some_iff.1 hu).1)]
              rw [(List.getElem?_eq_some_iff.1 hu).2]
            refine ⟨?_, Int.le_trans (wT_le u _ _ (by omega)) hlj⟩
            rw [HI.out.2, e, wL, if_pos hl0']
          clear hc hc' hcall bw hu
          go_wp2_with fail
          refine kc25.mono ?_
          rintro e w2 ⟨rfl, b2⟩
          have HB2 : Hid (Below w0.heap.size w0 w2) := HI.out.1.trans (b2.mono HI.out.1.size)
          obtain ⟨ln, hln⟩ : ∃ ln, wT u (deep - 1) lj = ln := ⟨_, rfl⟩
          rw [hln] at HN ⊢
          clear b2 kc25 hln
          go_wp2_with fail
          go_roundg k
          case measure => omega
          case rel => exact ⟨j + 1, ln, rfl, by go_num, by omega, HN.out.2, HB2.out, HN.out.1⟩
        · have g3 : decide (lj ≥ 0) = false := decide_eq_false hl0'
          have g3' : decide (0 ≤ lj) = false := decide_eq_false hl0'
          go_wp2_with fail
          go_ret
          exact ⟨by rw [HV2.out, HI.out.2, wL_neg _ _ _ (by omega)]; rfl, HB.out.1.trans (HI.out.1.mono HB.out.1.size)⟩
      · have g2 : decide ((j : Int) < (kn : Int)) = false := decide_eq_false (by omega)
        have HE : Hid (wT (.mk d ks) deep left = lj) := by
          show wT (.mk d ks) deep left = lj
          rw [HV2.out, HI.out.2, List.drop_eq_nil_of_le (by rw [HK.out.2]; omega), wL]
        go_wp2_with fail
        go_ret
        exact ⟨by rw [HE.out]; rfl, HB.out.1.trans (HI.out.1.mono HB.out.1.size)⟩
theorem weigh_any {w : World} {t : Tr} {av kv : Value} (h : TrV w t av kv) : ∀ (_ : Ok t) (w' : World), Below w.heap.size w w' → ∀ (deep left : Int), -2 ≤ deep → deep ≤ 300 → 0 ≤ left → left ≤ 3000 →
    Calls Try.prog 25 #[.agg #[iv t.d.id, iv t.d.kind, iv t.d.space, .string t.d.name, .string t.d.text, av, iv t.d.sf, iv t.d.st, iv t.d.ef, iv t.d.et, kv], iv deep, iv left] w' fun e w'' => e = .returned (iv (wT t deep left)) ∧ Below w'.heap.size w' w'' := by
  induction h with
  | mk ha hp hc hk ih =>
    rename_i d ks ac kc kb ko ao kp avs kvs
    intro hok w' b deep left h1 h2 h3 h4
    cases hok with
    | mk o1 o2 o3 o4 =>
      refine weigh_one d ks _ ac _ kc rfl rfl o1 o2 o3 deep left ⟨h1, h2⟩ ⟨h3, h4⟩ fun h0 j u hu => ?_
      have hne : ks ≠ [] := fun e => by rw [e] at hu; simp at hu
      obtain ⟨q1, q2⟩ := hc j u hu
      refine ⟨kb, ko, avs j, kvs j, hp hne, Nat.lt_of_lt_of_le q1 b.size, q2.mv (b.block kb q1), fun w2 b2 left' q3 q4 => ?_⟩
      exact ih j u hu (o4 u (List.mem_of_getElem? hu)) w2 (b.trans (b2.mono b.size)) (deep - 1) left' (by omega) (by omega) q3 q4
end Go.Proofs.Ytdpibnmbgjhohaa
