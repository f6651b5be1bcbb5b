/- The document's below. -/
import Derived.Test.YtdpibnmbgjhohaaAe
namespace Go.Proofs.Ytdpibnmbgjhohaa
open Go.RowKit

/-- May a node of that kind, with so many kids and that text, stand below the root? -/
def kOk (q : Int) (m : Nat) (t : ByteArray) : Bool := !(decide (q < 1) || decide (4 < q) || (decide (0 < m) && decide (q ≠ 1)) || (decide (q = 2) && decide (t.data.toList = [])))
mutual
def bT : Tr → Bool
  | .mk _ ks => bL ks
def bL : List Tr → Bool
  | [] => true
  | t :: ts => (kOk t.d.kind t.k.length t.d.text && bT t) && bL ts
end
theorem bL_drop {ks : List Tr} {j : Nat} {u : Tr} (h : ks[j]? = some u) : bL (ks.drop j) = ((kOk u.d.kind u.k.length u.d.text && bT u) && bL (ks.drop (j + 1))) := by
  have e : ks.drop j = u :: ks.drop (j + 1) := by
    rw [← List.getElem_cons_drop (h := (List.getElem?_eq_some_iff.1 h).1)]
    rw [(List.getElem?_eq_some_iff.1 h).2]
  rw [e, bL]
/-- A node's values: its attributes and kids are slices. -/
def Slc (u : Tr) (a : Array Value) : Prop := ∃ a1 a2 a3 a4, a = #[iv u.d.id, iv u.d.kind, iv u.d.space, .string u.d.name, .string u.d.text, .slice a1 u.d.al.length a2, iv u.d.sf, iv u.d.st, iv u.d.ef, iv u.d.et, .slice a3 u.k.length a4]
set_option maxHeartbeats 4000000 in
theorem rbelow_one {w : World} (d : Nd) (ks : List Tr) {ao kp : Option Addr} (an ac kn kc : Nat) (hkn : ks.length = kn) (hl : kn ≤ 140737488351232)
    (hk : ∀ (j : Nat) u, ks[j]? = some u → KidAt w kp j u fun w' a => Slc u a ∧ Calls Try.prog 36 #[.agg a] w' fun e w'' => e = .returned (.bool (bT u)) ∧ Below w'.heap.size w' w'') :
    Calls Try.prog 36 #[.agg #[iv d.id, iv d.kind, iv d.space, .string d.name, .string d.text, .slice ao an ac, iv d.sf, iv d.st, iv d.ef, iv d.et, .slice kp kn kc]] w fun e w' => e = .returned (.bool (bT (.mk d ks))) ∧ Below w.heap.size w w' := by
  have b0 : Below w.heap.size w (w.alloc (.cells #[iv d.id, iv d.kind, iv d.space, .string d.name, .string d.text, .slice ao an ac, iv d.sf, iv d.st, iv d.ef, iv d.et, .slice kp kn kc] 27)) := (Below.refl _ _).alloc (Nat.le_refl _) _
  have n0 := heap_alloc_new w (.cells #[iv d.id, iv d.kind, iv d.space, .string d.name, .string d.text, .slice ao an ac, iv d.sf, iv d.st, iv d.ef, iv d.et, .slice kp kn kc] 27)
  obtain ⟨w0, hw0⟩ : ∃ w0, (w.alloc (.cells #[iv d.id, iv d.kind, iv d.space, .string d.name, .string d.text, .slice ao an ac, iv d.sf, iv d.st, iv d.ef, iv d.et, .slice kp kn kc] 27)) = w0 := ⟨_, rfl⟩
  have HW0 : Hid ((w.alloc (.cells #[iv d.id, iv d.kind, iv d.space, .string d.name, .string d.text, .slice ao an ac, iv d.sf, iv d.st, iv d.ef, iv d.et, .slice kp kn kc] 27)) = w0) := hw0
  rw [hw0] at b0 n0
  clear hw0
  have HK : Hid ((∀ (j : Nat) u, ks[j]? = some u → KidAt w kp j u fun w' a => Slc u a ∧ Calls Try.prog 36 #[.agg a] w' fun e w'' => e = .returned (.bool (bT u)) ∧ Below w'.heap.size w' w'') ∧ ks.length = kn) := ⟨hk, hkn⟩
  have HB : Hid (Below w.heap.size w w0 ∧ w.heap.size < w0.heap.size) := ⟨b0, (Array.getElem?_eq_some_iff.1 n0).1⟩
  have p10 : w0.cell? ⟨w.heap.size, 10, none⟩ = some (.slice kp kn kc) := by simp [World.cell?, n0]
  clear b0 n0 hk hkn
  go_enter Try.func36, Try.ntmps36
  go_upto_region 1 with fail
  rw [HW0.out]
  clear HW0
  go_wp2_with fail
  go_loopg [3] kn (fun g2 jv wr => ∃ (j : Nat), jv = .int .i64 j ∧ j + g2 = kn ∧ Hid (Below w0.heap.size w0 wr ∧ bT (.mk d ks) = bL (ks.drop j)))
  case atStart => exact ⟨0, rfl, by omega, Below.refl _ _, by rw [bT]; rfl⟩
  case round =>
    obtain ⟨j, rfl, hjg, HI⟩ := hrel
    have c10 : wr.cell? ⟨w.heap.size, 10, none⟩ = some (.slice kp kn kc) := cell_below HI.out.1 p10
    cases gk with
    | zero =>
      obtain rfl : j = kn := by omega
      have hg0 : decide ((j : Int) < (j : Int)) = false := decide_eq_false (by omega)
      go_wp2_with fail
      go_ret
      refine ⟨?_, HB.out.1.trans (HI.out.1.mono HB.out.1.size)⟩
      rw [HI.out.2, List.drop_eq_nil_of_le (by rw [HK.out.2]; omega), bL]
      rfl
    | succ k =>
      have hjk : j < kn := by omega
      have g2 : decide ((j : Int) < (kn : Int)) = true := decide_eq_true (by omega)
      obtain ⟨u, hu⟩ : ∃ u, ks[j]? = some u := ⟨_, List.getElem?_eq_getElem (by rw [HK.out.2]; exact hjk)⟩
      obtain ⟨kb, ko, av, kv, rfl, hkb, hc, hcall⟩ := HK.out.1 j u hu
      have bw : Below w.heap.size w wr := HB.out.1.trans (HI.out.1.mono HB.out.1.size)
      obtain ⟨a1, a2, a3, a4, hs⟩ := (hcall wr bw).1
      simp only [Array.mk.injEq, List.cons.injEq, true_and, and_true] at hs
      obtain ⟨rfl, rfl⟩ := hs
      have hc' : CellsAt wr kb (ko + j * 11) (u.d.cs _ _) := hc.mv (bw.block kb hkb)
      have k0 : wr.cell? ⟨kb, ko + j * 11, none⟩ = some (iv u.d.id) := hc' 0 _ rfl
      have k1 : wr.cell? ⟨kb, ko + j * 11 + 1, none⟩ = some (iv u.d.kind) := hc' 1 _ rfl
      have k2 : wr.cell? ⟨kb, ko + j * 11 + 2, none⟩ = some (iv u.d.space) := hc' 2 _ rfl
      have k3 : wr.cell? ⟨kb, ko + j * 11 + 3, none⟩ = some (.string u.d.name) := hc' 3 _ rfl
      have k4 : wr.cell? ⟨kb, ko + j * 11 + 4, none⟩ = some (.string u.d.text) := hc' 4 _ rfl
      have k5 : wr.cell? ⟨kb, ko + j * 11 + 5, none⟩ = some (.slice a1 u.d.al.length a2) := hc' 5 _ rfl
      have k6 : wr.cell? ⟨kb, ko + j * 11 + 6, none⟩ = some (iv u.d.sf) := hc' 6 _ rfl
      have k7 : wr.cell? ⟨kb, ko + j * 11 + 7, none⟩ = some (iv u.d.st) := hc' 7 _ rfl
      have k8 : wr.cell? ⟨kb, ko + j * 11 + 8, none⟩ = some (iv u.d.ef) := hc' 8 _ rfl
      have k9 : wr.cell? ⟨kb, ko + j * 11 + 9, none⟩ = some (iv u.d.et) := hc' 9 _ rfl
      have k10 : wr.cell? ⟨kb, ko + j * 11 + 10, none⟩ = some (.slice a3 u.k.length a4) := hc' 10 _ rfl
      have bq : Below wr.heap.size wr (wr.alloc (.cells #[iv u.d.id, iv u.d.kind, iv u.d.space, .string u.d.name, .string u.d.text, .slice a1 u.d.al.length a2, iv u.d.sf, iv u.d.st, iv u.d.ef, iv u.d.et, .slice a3 u.k.length a4] 27)) := (Below.refl _ _).alloc (Nat.le_refl _) _
      have kd := (hcall (wr.alloc (.cells #[iv u.d.id, iv u.d.kind, iv u.d.space, .string u.d.name, .string u.d.text, .slice a1 u.d.al.length a2, iv u.d.sf, iv u.d.st, iv u.d.ef, iv u.d.et, .slice a3 u.k.length a4] 27)) (bw.trans (bq.mono bw.size))).2
      have n4 : Bx (wr.alloc (.cells #[iv u.d.id, iv u.d.kind, iv u.d.space, .string u.d.name, .string u.d.text, .slice a1 u.d.al.length a2, iv u.d.sf, iv u.d.st, iv u.d.ef, iv u.d.et, .slice a3 u.k.length a4] 27)) wr.heap.size #[iv u.d.id, iv u.d.kind, iv u.d.space, .string u.d.name, .string u.d.text, .slice a1 u.d.al.length a2, iv u.d.sf, iv u.d.st, iv u.d.ef, iv u.d.et, .slice a3 u.k.length a4] := heap_alloc_new wr _
      have hd := bL_drop hu
      have HW : Hid (Below w0.heap.size w0 (wr.alloc (.cells #[iv u.d.id, iv u.d.kind, iv u.d.space, .string u.d.name, .string u.d.text, .slice a1 u.d.al.length a2, iv u.d.sf, iv u.d.st, iv u.d.ef, iv u.d.et, .slice a3 u.k.length a4] 27)) ∧ Below w.heap.size w (wr.alloc (.cells #[iv u.d.id, iv u.d.kind, iv u.d.space, .string u.d.name, .string u.d.text, .slice a1 u.d.al.length a2, iv u.d.sf, iv u.d.st, iv u.d.ef, iv u.d.et, .slice a3 u.k.length a4] 27))) := ⟨HI.out.1.trans (bq.mono HI.out.1.size), bw.trans (bq.mono bw.size)⟩
      clear hc hc' hcall bw hu bq
      go_upto_region 5 with fail
      generalize hW4 : wr.alloc (.cells #[iv u.d.id, iv u.d.kind, iv u.d.space, .string u.d.name, .string u.d.text, .slice a1 u.d.al.length a2, iv u.d.sf, iv u.d.st, iv u.d.ef, iv u.d.et, .slice a3 u.k.length a4] 27) = W4 at *
      obtain ⟨q, hq⟩ : ∃ q, u.d.kind = q := ⟨_, rfl⟩
      obtain ⟨m, hm⟩ : ∃ m, u.k.length = m := ⟨_, rfl⟩
      obtain ⟨tx, htx⟩ : ∃ tx, u.d.text = tx := ⟨_, rfl⟩
      obtain ⟨x, hx⟩ : ∃ x, bT u = x := ⟨_, rfl⟩
      rw [hq, hm, htx] at n4 kd hd
      rw [hq, hm, htx]
      rw [hx] at kd hd
      have HU : Hid (bL (ks.drop j) = ((kOk q m tx && x) && bL (ks.drop (j + 1))) ∧ 0 = 0) := ⟨hd, rfl⟩
      have y0 : W4.cell? ⟨wr.heap.size, 0, none⟩ = some (iv u.d.id) := n4.cell 0
      have y1 : W4.cell? ⟨wr.heap.size, 1, none⟩ = some (iv q) := n4.cell 1
      have y2 : W4.cell? ⟨wr.heap.size, 2, none⟩ = some (iv u.d.space) := n4.cell 2
      have y3 : W4.cell? ⟨wr.heap.size, 3, none⟩ = some (.string u.d.name) := n4.cell 3
      have y4 : W4.cell? ⟨wr.heap.size, 4, none⟩ = some (.string tx) := n4.cell 4
      have y5 : W4.cell? ⟨wr.heap.size, 5, none⟩ = some (.slice a1 u.d.al.length a2) := n4.cell 5
      have y6 : W4.cell? ⟨wr.heap.size, 6, none⟩ = some (iv u.d.sf) := n4.cell 6
      have y7 : W4.cell? ⟨wr.heap.size, 7, none⟩ = some (iv u.d.st) := n4.cell 7
      have y8 : W4.cell? ⟨wr.heap.size, 8, none⟩ = some (iv u.d.ef) := n4.cell 8
      have y9 : W4.cell? ⟨wr.heap.size, 9, none⟩ = some (iv u.d.et) := n4.cell 9
      have y10 : W4.cell? ⟨wr.heap.size, 10, none⟩ = some (.slice a3 m a4) := n4.cell 10
      clear n4 hd hW4 k0 k1 k2 k3 k4 k5 k6 k7 k8 k9 k10 hq hm htx hx
      by_cases h1 : q < 1
      · have g3 : decide (q < 1) = true := decide_eq_true h1
        have HN : Hid (bT (.mk d ks) = false) := by
          show bT (.mk d ks) = false
          rw [HI.out.2, HU.out.1]
          simp [kOk, *]
        go_wp2_with fail
        go_ret
        exact ⟨by rw [HN.out]; rfl, HW.out.2⟩

      · have g3 : decide (q < 1) = false := decide_eq_false h1
        by_cases h4 : q > 4
        · have g4 : decide (q > 4) = true := decide_eq_true h4
          have g4' : decide (4 < q) = true := decide_eq_true h4
          have HN : Hid (bT (.mk d ks) = false) := by
            show bT (.mk d ks) = false
            rw [HI.out.2, HU.out.1]
            simp [kOk, *]
          go_wp2_with fail
          go_ret
          exact ⟨by rw [HN.out]; rfl, HW.out.2⟩

        · clear g3
          obtain rfl | rfl | rfl | rfl : q = 1 ∨ q = 2 ∨ q = 3 ∨ q = 4 := by omega
          · clear h1 h4
            cases m with
            | zero =>
              have HN : Hid (bT (.mk d ks) = (x && bL (ks.drop (j + 1)))) := by
                show bT (.mk d ks) = _
                rw [HI.out.2, HU.out.1]
                simp [kOk, *]
              go_wp2_with fail
              refine kd.mono ?_
              rintro e w5 ⟨rfl, b5⟩
              have HB5 : Hid (Below w0.heap.size w0 w5 ∧ Below w.heap.size w w5) := ⟨HW.out.1.trans (b5.mono HW.out.1.size), HW.out.2.trans (b5.mono HW.out.2.size)⟩
              clear b5 kd
              cases x
              · go_wp2_with fail
                go_ret
                exact ⟨by rw [HN.out]; rfl, HB5.out.2⟩
              · go_wp2_with fail
                go_roundg k
                case measure => omega
                case rel => exact ⟨j + 1, by go_num, by omega, HB5.out.1, by rw [HN.out, Bool.true_and]⟩

            | succ m =>
              have hm0 : (0 : Int) < ((m + 1 : Nat) : Int) := by omega
              have HN : Hid (bT (.mk d ks) = (x && bL (ks.drop (j + 1)))) := by
                show bT (.mk d ks) = _
                rw [HI.out.2, HU.out.1]
                simp [kOk, *]
              go_wp2_with fail
              refine kd.mono ?_
              rintro e w5 ⟨rfl, b5⟩
              have HB5 : Hid (Below w0.heap.size w0 w5 ∧ Below w.heap.size w w5) := ⟨HW.out.1.trans (b5.mono HW.out.1.size), HW.out.2.trans (b5.mono HW.out.2.size)⟩
              clear b5 kd
              cases x
              · go_wp2_with fail
                go_ret
                exact ⟨by rw [HN.out]; rfl, HB5.out.2⟩
              · go_wp2_with fail
                go_roundg k
                case measure => omega
                case rel => exact ⟨j + 1, by go_num, by omega, HB5.out.1, by rw [HN.out, Bool.true_and]⟩

          · clear h1 h4
            cases m with
            | zero =>
              by_cases ht : tx.data.toList = []
              · obtain rfl : tx = ⟨#[]⟩ := bytes_eq ht
                have HN : Hid (bT (.mk d ks) = false) := by
                  show bT (.mk d ks) = false
                  rw [HI.out.2, HU.out.1]
                  simp [kOk, *]
                go_wp2_with fail
                go_ret
                exact ⟨by rw [HN.out]; rfl, HW.out.2⟩

              · have g5 : (tx.toList == []) = false := by rw [ByteArray.toList_eq]; exact beq_eq_false_iff_ne.2 ht
                have HN : Hid (bT (.mk d ks) = (x && bL (ks.drop (j + 1)))) := by
                  show bT (.mk d ks) = _
                  rw [HI.out.2, HU.out.1]
                  simp [kOk, *]
                go_wp2_with fail
                refine kd.mono ?_
                rintro e w5 ⟨rfl, b5⟩
                have HB5 : Hid (Below w0.heap.size w0 w5 ∧ Below w.heap.size w w5) := ⟨HW.out.1.trans (b5.mono HW.out.1.size), HW.out.2.trans (b5.mono HW.out.2.size)⟩
                clear b5 kd
                cases x
                · go_wp2_with fail
                  go_ret
                  exact ⟨by rw [HN.out]; rfl, HB5.out.2⟩
                · go_wp2_with fail
                  go_roundg k
                  case measure => omega
                  case rel => exact ⟨j + 1, by go_num, by omega, HB5.out.1, by rw [HN.out, Bool.true_and]⟩

            | succ m =>
              have HN : Hid (bT (.mk d ks) = false) := by
                show bT (.mk d ks) = false
                rw [HI.out.2, HU.out.1]
                simp [kOk, *]
              go_wp2_with fail
              go_ret
              exact ⟨by rw [HN.out]; rfl, HW.out.2⟩

          · clear h1 h4
            cases m with
            | zero =>
              have HN : Hid (bT (.mk d ks) = (x && bL (ks.drop (j + 1)))) := by
                show bT (.mk d ks) = _
                rw [HI.out.2, HU.out.1]
                simp [kOk, *]
              go_wp2_with fail
              refine kd.mono ?_
              rintro e w5 ⟨rfl, b5⟩
              have HB5 : Hid (Below w0.heap.size w0 w5 ∧ Below w.heap.size w w5) := ⟨HW.out.1.trans (b5.mono HW.out.1.size), HW.out.2.trans (b5.mono HW.out.2.size)⟩
              clear b5 kd
              cases x
              · go_wp2_with fail
                go_ret
                exact ⟨by rw [HN.out]; rfl, HB5.out.2⟩
              · go_wp2_with fail
                go_roundg k
                case measure => omega
                case rel => exact ⟨j + 1, by go_num, by omega, HB5.out.1, by rw [HN.out, Bool.true_and]⟩

            | succ m =>
              have HN : Hid (bT (.mk d ks) = false) := by
                show bT (.mk d ks) = false
                rw [HI.out.2, HU.out.1]
                simp [kOk, *]
              go_wp2_with fail
              go_ret
              exact ⟨by rw [HN.out]; rfl, HW.out.2⟩

          · clear h1 h4
            cases m with
            | zero =>
              have HN : Hid (bT (.mk d ks) = (x && bL (ks.drop (j + 1)))) := by
                show bT (.mk d ks) = _
                rw [HI.out.2, HU.out.1]
                simp [kOk, *]
              go_wp2_with fail
              refine kd.mono ?_
              rintro e w5 ⟨rfl, b5⟩
              have HB5 : Hid (Below w0.heap.size w0 w5 ∧ Below w.heap.size w w5) := ⟨HW.out.1.trans (b5.mono HW.out.1.size), HW.out.2.trans (b5.mono HW.out.2.size)⟩
              clear b5 kd
              cases x
              · go_wp2_with fail
                go_ret
                exact ⟨by rw [HN.out]; rfl, HB5.out.2⟩
              · go_wp2_with fail
                go_roundg k
                case measure => omega
                case rel => exact ⟨j + 1, by go_num, by omega, HB5.out.1, by rw [HN.out, Bool.true_and]⟩

            | succ m =>
              have HN : Hid (bT (.mk d ks) = false) := by
                show bT (.mk d ks) = false
                rw [HI.out.2, HU.out.1]
                simp [kOk, *]
              go_wp2_with fail
              go_ret
              exact ⟨by rw [HN.out]; rfl, HW.out.2⟩

theorem rbelow_any {w : World} {t : Tr} {av kv : Value} (h : TrV w t av kv) : ∀ (_ : Ok t) (w' : World), Below w.heap.size w w' →
    Calls Try.prog 36 #[.agg #[iv t.d.id, iv t.d.kind, iv t.d.space, .string t.d.name, .string t.d.text, av, iv t.d.sf, iv t.d.st, iv t.d.ef, iv t.d.et, kv]] w' fun e w'' => e = .returned (.bool (bT t)) ∧ Below w'.heap.size w' w'' := by
  induction h with
  | mk ha hp hc hk ih =>
    rename_i d ks ac kc kb ko ao kp avs kvs
    intro hok w' b
    cases hok with
    | mk o1 o2 o3 o4 =>
      refine rbelow_one d ks _ ac _ kc rfl o3 fun j u hu => ?_
      have hne : ks ≠ [] := fun e => by rw [e] at hu; simp at hu
      obtain ⟨q1, q2⟩ := hc j u hu
      refine ⟨kb, ko, avs j, kvs j, hp hne, Nat.lt_of_lt_of_le q1 b.size, q2.mv (b.block kb q1), fun w2 b2 => ⟨?_, ?_⟩⟩
      · obtain ⟨a1, a2, a3, a4, e1, e2⟩ := (hk j u hu).form
        exact ⟨a1, a2, a3, a4, by rw [e1, e2]⟩
      · exact ih j u hu (o4 u (List.mem_of_getElem? hu)) w2 (b.trans (b2.mono b.size))
end Go.Proofs.Ytdpibnmbgjhohaa
