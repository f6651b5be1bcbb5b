/- The document's Equal: any two trees. -/
import Derived.Test.YtdpibnmbgjhohaaAj
namespace Go.Proofs.Ytdpibnmbgjhohaa
open Go.RowKit

mutual
/-- Two trees are the same, as the document's Equal asks. -/
noncomputable def eT : Tr → Tr → Bool
  | .mk d ks, t => decide (d.id = t.d.id) && ((d.sf == t.d.sf && d.st == t.d.st) && ((d.ef == t.d.ef && d.et == t.d.et) && (eqA d.al t.d.al && (alk d ks.length t.d t.k.length && eL ks t.k))))
noncomputable def eL : List Tr → List Tr → Bool
  | [], _ => true
  | a :: l1, l => match l with
    | [] => true
    | b :: l2 => eT a b && eL l1 l2
end
theorem eL_drop {ks ls : List Tr} {j : Nat} {u v : Tr} (h : ks[j]? = some u) (h' : ls[j]? = some v) : eL (ks.drop j) (ls.drop j) = (eT u v && eL (ks.drop (j + 1)) (ls.drop (j + 1))) := by
  have e : ks.drop j = u :: ks.drop (j + 1) := by
    rw [← List.getElem_cons_drop (h := (List.getElem?_eq_some_iff.1 h).1)]
    rw [(List.getElem?_eq_some_iff.1 h).2]
  have e' : ls.drop j = v :: ls.drop (j + 1) := by
    rw [← List.getElem_cons_drop (h := (List.getElem?_eq_some_iff.1 h').1)]
    rw [(List.getElem?_eq_some_iff.1 h').2]
  rw [e, e', eL]
set_option maxHeartbeats 4000000 in
set_option maxRecDepth 20000 in
theorem requal_one {w : World} (d d' : Nd) (ks ls : List Tr) {ao bo kp qp : Option Addr} (an ac bn bc kn kc qn qc : Nat) (ha : AtRow w ao d.al) (hb : AtRow w bo d'.al) (han : d.al.length = an) (hbn : d'.al.length = bn) (han2 : an ≤ 140737488351232) (hkn : ks.length = kn) (hqn : ls.length = qn) (hl : kn ≤ 140737488351232)
    (hk : (∀ (j : Nat) u v, ks[j]? = some u → ls[j]? = some v → ∃ (kb ko qb qo : Nat) (av kv av' kv' : Value), kp = some ⟨kb, ko, none⟩ ∧ qp = some ⟨qb, qo, none⟩ ∧ kb < w.heap.size ∧ qb < w.heap.size ∧ CellsAt w kb (ko + j * 11) (u.d.cs av kv) ∧ CellsAt w qb (qo + j * 11) (v.d.cs av' kv') ∧ ∀ w', Below w.heap.size w w' → Calls Try.prog 10 #[.agg #[iv u.d.id, iv u.d.kind, iv u.d.space, .string u.d.name, .string u.d.text, av, iv u.d.sf, iv u.d.st, iv u.d.ef, iv u.d.et, kv], .agg #[iv v.d.id, iv v.d.kind, iv v.d.space, .string v.d.name, .string v.d.text, av', iv v.d.sf, iv v.d.st, iv v.d.ef, iv v.d.et, kv']] w' fun e w'' => e = .returned (.bool (eT u v)) ∧ Below w'.heap.size w' w'')) :
    Calls Try.prog 10 #[.agg #[iv d.id, iv d.kind, iv d.space, .string d.name, .string d.text, .slice ao an ac, iv d.sf, iv d.st, iv d.ef, iv d.et, .slice kp kn kc], .agg #[iv d'.id, iv d'.kind, iv d'.space, .string d'.name, .string d'.text, .slice bo bn bc, iv d'.sf, iv d'.st, iv d'.ef, iv d'.et, .slice qp qn qc]] w fun e w' => e = .returned (.bool (eT (.mk d ks) (.mk d' ls))) ∧ Below w.heap.size w w' := by
  have b0 : Below w.heap.size w ((w.alloc (.cells #[iv d.id, iv d.kind, iv d.space, .string d.name, .string d.text, .slice ao an ac, iv d.sf, iv d.st, iv d.ef, iv d.et, .slice kp kn kc] 27)).alloc (.cells #[iv d'.id, iv d'.kind, iv d'.space, .string d'.name, .string d'.text, .slice bo bn bc, iv d'.sf, iv d'.st, iv d'.ef, iv d'.et, .slice qp qn qc] 27)) := ((Below.refl _ _).alloc (Nat.le_refl _) _).alloc (by simp) _
  have n0 := heap_alloc_new (w.alloc (.cells #[iv d.id, iv d.kind, iv d.space, .string d.name, .string d.text, .slice ao an ac, iv d.sf, iv d.st, iv d.ef, iv d.et, .slice kp kn kc] 27)) (.cells #[iv d'.id, iv d'.kind, iv d'.space, .string d'.name, .string d'.text, .slice bo bn bc, iv d'.sf, iv d'.st, iv d'.ef, iv d'.et, .slice qp qn qc] 27)
  have n1 : ((w.alloc (.cells #[iv d.id, iv d.kind, iv d.space, .string d.name, .string d.text, .slice ao an ac, iv d.sf, iv d.st, iv d.ef, iv d.et, .slice kp kn kc] 27)).alloc (.cells #[iv d'.id, iv d'.kind, iv d'.space, .string d'.name, .string d'.text, .slice bo bn bc, iv d'.sf, iv d'.st, iv d'.ef, iv d'.et, .slice qp qn qc] 27)).heap[w.heap.size]? = some (.cells #[iv d.id, iv d.kind, iv d.space, .string d.name, .string d.text, .slice ao an ac, iv d.sf, iv d.st, iv d.ef, iv d.et, .slice kp kn kc] 27 (0, 0)) := by
    rw [heap_alloc_old _ _ (by simp)]; exact heap_alloc_new w _
  have hsz : (w.alloc (.cells #[iv d.id, iv d.kind, iv d.space, .string d.name, .string d.text, .slice ao an ac, iv d.sf, iv d.st, iv d.ef, iv d.et, .slice kp kn kc] 27)).heap.size = w.heap.size + 1 := by simp
  rw [hsz] at n0
  obtain ⟨w0, hw0⟩ : ∃ w0, ((w.alloc (.cells #[iv d.id, iv d.kind, iv d.space, .string d.name, .string d.text, .slice ao an ac, iv d.sf, iv d.st, iv d.ef, iv d.et, .slice kp kn kc] 27)).alloc (.cells #[iv d'.id, iv d'.kind, iv d'.space, .string d'.name, .string d'.text, .slice bo bn bc, iv d'.sf, iv d'.st, iv d'.ef, iv d'.et, .slice qp qn qc] 27)) = w0 := ⟨_, rfl⟩
  have HW0 : Hid (((w.alloc (.cells #[iv d.id, iv d.kind, iv d.space, .string d.name, .string d.text, .slice ao an ac, iv d.sf, iv d.st, iv d.ef, iv d.et, .slice kp kn kc] 27)).alloc (.cells #[iv d'.id, iv d'.kind, iv d'.space, .string d'.name, .string d'.text, .slice bo bn bc, iv d'.sf, iv d'.st, iv d'.ef, iv d'.et, .slice qp qn qc] 27)) = w0) := hw0
  rw [hw0] at b0 n0 n1
  have k28 := eq_ats (w := w0) an bn ac bc (ha.old b0) (hb.old b0) han hbn (by omega)
  have x1 := ne24g d.sf d.st d'.sf d'.st
  have x2 := ne24g d.ef d.et d'.ef d'.et
  have HV : Hid (eT (.mk d ks) (.mk d' ls) = (decide (d.id = d'.id) && ((d.sf == d'.sf && d.st == d'.st) && ((d.ef == d'.ef && d.et == d'.et) && (eqA d.al d'.al && (alk d kn d' qn && eL ks ls)))))) := by
    show eT (.mk d ks) (.mk d' ls) = _
    rw [eT, ← hkn, ← hqn]
    rfl
  generalize (d.sf == d'.sf && d.st == d'.st) = z1 at x1 HV
  generalize (d.ef == d'.ef && d.et == d'.et) = z2 at x2 HV
  obtain ⟨z3, hz3⟩ : ∃ z, eqA d.al d'.al = z := ⟨_, rfl⟩
  rw [hz3] at k28 HV
  clear hz3 hw0 hsz ha hb han hbn
  have p0 : w0.cell? ⟨w.heap.size, 0, none⟩ = some (iv d.id) := by simp [World.cell?, n1]
  have p1 : w0.cell? ⟨w.heap.size, 1, none⟩ = some (iv d.kind) := by simp [World.cell?, n1]
  have p2 : w0.cell? ⟨w.heap.size, 2, none⟩ = some (iv d.space) := by simp [World.cell?, n1]
  have p3 : w0.cell? ⟨w.heap.size, 3, none⟩ = some (.string d.name) := by simp [World.cell?, n1]
  have p4 : w0.cell? ⟨w.heap.size, 4, none⟩ = some (.string d.text) := by simp [World.cell?, n1]
  have p5 : w0.cell? ⟨w.heap.size, 5, none⟩ = some (.slice ao an ac) := by simp [World.cell?, n1]
  have p6 : w0.cell? ⟨w.heap.size, 6, none⟩ = some (iv d.sf) := by simp [World.cell?, n1]
  have p7 : w0.cell? ⟨w.heap.size, 7, none⟩ = some (iv d.st) := by simp [World.cell?, n1]
  have p8 : w0.cell? ⟨w.heap.size, 8, none⟩ = some (iv d.ef) := by simp [World.cell?, n1]
  have p9 : w0.cell? ⟨w.heap.size, 9, none⟩ = some (iv d.et) := by simp [World.cell?, n1]
  have p10 : w0.cell? ⟨w.heap.size, 10, none⟩ = some (.slice kp kn kc) := by simp [World.cell?, n1]
  have q0 : w0.cell? ⟨w.heap.size + 1, 0, none⟩ = some (iv d'.id) := by simp [World.cell?, n0]
  have q1 : w0.cell? ⟨w.heap.size + 1, 1, none⟩ = some (iv d'.kind) := by simp [World.cell?, n0]
  have q2 : w0.cell? ⟨w.heap.size + 1, 2, none⟩ = some (iv d'.space) := by simp [World.cell?, n0]
  have q3 : w0.cell? ⟨w.heap.size + 1, 3, none⟩ = some (.string d'.name) := by simp [World.cell?, n0]
  have q4 : w0.cell? ⟨w.heap.size + 1, 4, none⟩ = some (.string d'.text) := by simp [World.cell?, n0]
  have q5 : w0.cell? ⟨w.heap.size + 1, 5, none⟩ = some (.slice bo bn bc) := by simp [World.cell?, n0]
  have q6 : w0.cell? ⟨w.heap.size + 1, 6, none⟩ = some (iv d'.sf) := by simp [World.cell?, n0]
  have q7 : w0.cell? ⟨w.heap.size + 1, 7, none⟩ = some (iv d'.st) := by simp [World.cell?, n0]
  have q8 : w0.cell? ⟨w.heap.size + 1, 8, none⟩ = some (iv d'.ef) := by simp [World.cell?, n0]
  have q9 : w0.cell? ⟨w.heap.size + 1, 9, none⟩ = some (iv d'.et) := by simp [World.cell?, n0]
  have q10 : w0.cell? ⟨w.heap.size + 1, 10, none⟩ = some (.slice qp qn qc) := by simp [World.cell?, n0]
  have H : Hid (Below w.heap.size w w0 ∧ w.heap.size < w0.heap.size ∧ w.heap.size + 1 < w0.heap.size) := ⟨b0, (Array.getElem?_eq_some_iff.1 n1).1, (Array.getElem?_eq_some_iff.1 n0).1⟩
  have HK : Hid ((∀ (j : Nat) u v, ks[j]? = some u → ls[j]? = some v → ∃ (kb ko qb qo : Nat) (av kv av' kv' : Value), kp = some ⟨kb, ko, none⟩ ∧ qp = some ⟨qb, qo, none⟩ ∧ kb < w.heap.size ∧ qb < w.heap.size ∧ CellsAt w kb (ko + j * 11) (u.d.cs av kv) ∧ CellsAt w qb (qo + j * 11) (v.d.cs av' kv') ∧ ∀ w', Below w.heap.size w w' → Calls Try.prog 10 #[.agg #[iv u.d.id, iv u.d.kind, iv u.d.space, .string u.d.name, .string u.d.text, av, iv u.d.sf, iv u.d.st, iv u.d.ef, iv u.d.et, kv], .agg #[iv v.d.id, iv v.d.kind, iv v.d.space, .string v.d.name, .string v.d.text, av', iv v.d.sf, iv v.d.st, iv v.d.ef, iv v.d.et, kv']] w' fun e w'' => e = .returned (.bool (eT u v)) ∧ Below w'.heap.size w' w'') ∧ ks.length = kn ∧ ls.length = qn) := ⟨hk, hkn, hqn⟩
  clear b0 n0 n1 hk hkn hqn
  have HI1 : Hid (eT (.mk d ks) (.mk d' ls) = (decide (d.id = d'.id) && (z1 && (z2 && (z3 && (alk d kn d' qn && eL ks ls)))))) := HV.out
  clear HV
  obtain ⟨T, hT⟩ : ∃ T, eT (.mk d ks) (.mk d' ls) = T := ⟨_, rfl⟩
  rw [hT] at HI1 ⊢
  clear hT
  generalize d.id = i1 at *
  generalize d'.id = j1 at *
  by_cases h1 : i1 = j1
  · subst h1
    have HV1 : Hid (T = (z1 && (z2 && (z3 && (alk d kn d' qn && eL ks ls))))) := by
      show T = _
      rw [HI1.out, decide_eq_true rfl, Bool.true_and]
    clear HI1
    cases z1 with
    | false =>
      have HN : Hid (T = false) := HV1.out
      simp only [Bool.not_false] at x1
      go_enter Try.func10, Try.ntmps10
      go_upto_region 1 with fail
      rw [HW0.out]
      clear HW0
      go_wp2_with fail
      go_ret
      exact ⟨by rw [HN.out]; rfl, H.out.1⟩
    | true =>
      simp only [Bool.not_true] at x1
      cases z2 with
      | false =>
        simp only [Bool.not_false] at x2
        have HN : Hid (T = false) := HV1.out
        go_enter Try.func10, Try.ntmps10
        go_upto_region 1 with fail
        rw [HW0.out]
        clear HW0
        go_wp2_with fail
        go_ret
        exact ⟨by rw [HN.out]; rfl, H.out.1⟩
      | true =>
        simp only [Bool.not_true] at x2
        go_enter Try.func10, Try.ntmps10
        go_upto_region 1 with fail
        rw [HW0.out]
        clear HW0
        go_wp2_with fail
        refine k28.mono ?_
        rintro e w1 ⟨rfl, b1⟩
        have HB1 : Hid (Below w.heap.size w w1 ∧ w.heap.size < w1.heap.size ∧ w.heap.size + 1 < w1.heap.size) := ⟨H.out.1.trans (b1.mono H.out.1.size), Nat.lt_of_lt_of_le H.out.2.1 b1.size, Nat.lt_of_lt_of_le H.out.2.2 b1.size⟩
        have r0 := below_at b1 H.out.2.1 p0
        have r1 := below_at b1 H.out.2.1 p1
        have r2 := below_at b1 H.out.2.1 p2
        have r3 := below_at b1 H.out.2.1 p3
        have r4 := below_at b1 H.out.2.1 p4
        have r5 := below_at b1 H.out.2.1 p5
        have r6 := below_at b1 H.out.2.1 p6
        have r7 := below_at b1 H.out.2.1 p7
        have r8 := below_at b1 H.out.2.1 p8
        have r9 := below_at b1 H.out.2.1 p9
        have r10 := below_at b1 H.out.2.1 p10
        have s0 := below_at b1 H.out.2.2 q0
        have s1 := below_at b1 H.out.2.2 q1
        have s2 := below_at b1 H.out.2.2 q2
        have s3 := below_at b1 H.out.2.2 q3
        have s4 := below_at b1 H.out.2.2 q4
        have s5 := below_at b1 H.out.2.2 q5
        have s6 := below_at b1 H.out.2.2 q6
        have s7 := below_at b1 H.out.2.2 q7
        have s8 := below_at b1 H.out.2.2 q8
        have s9 := below_at b1 H.out.2.2 q9
        have s10 := below_at b1 H.out.2.2 q10
        clear b1 k28 p0 q0 p1 q1 p2 q2 p3 q3 p4 q4 p5 q5 p6 q6 p7 q7 p8 q8 p9 q9 p10 q10
        cases z3 with
        | false =>
          have HN : Hid (T = false) := HV1.out
          go_wp2_with fail
          go_ret
          exact ⟨by rw [HN.out]; rfl, HB1.out.1⟩
        | true =>
          have k29 : Calls Try.prog 29 #[.agg #[iv i1, iv d.kind, iv d.space, .string d.name, .string d.text, .slice ao an ac, iv d.sf, iv d.st, iv d.ef, iv d.et, .slice kp kn kc], .agg #[iv i1, iv d'.kind, iv d'.space, .string d'.name, .string d'.text, .slice bo bn bc, iv d'.sf, iv d'.st, iv d'.ef, iv d'.et, .slice qp qn qc]] w1 fun e w' => e = .returned (.bool (alk d kn d' qn)) ∧ Below w1.heap.size w1 w' := ralike_any (w := w1) { d with id := i1 } { d' with id := i1 } (ao := ao) (bo := bo) (kp := kp) (qp := qp) an ac bn bc kn kc qn qc
          obtain ⟨z4, hz4⟩ : ∃ z, alk d kn d' qn = z := ⟨_, rfl⟩
          have HV2 : Hid (T = (z4 && eL ks ls) ∧ (z4 = true → kn = qn)) := by
            refine ⟨by rw [HV1.out, hz4]; rfl, fun e => ?_⟩
            rw [e, alk] at hz4
            simp only [Bool.and_eq_true, decide_eq_true_eq] at hz4
            exact hz4.2
          rw [hz4] at k29
          clear hz4
          go_wp2_with fail
          refine k29.mono ?_
          rintro e w2 ⟨rfl, b2⟩
          have HB2 : Hid (Below w.heap.size w w2 ∧ w.heap.size < w2.heap.size ∧ w.heap.size + 1 < w2.heap.size) := ⟨HB1.out.1.trans (b2.mono HB1.out.1.size), Nat.lt_of_lt_of_le HB1.out.2.1 b2.size, Nat.lt_of_lt_of_le HB1.out.2.2 b2.size⟩
          have c8 := below_at b2 HB1.out.2.1 r10
          have d8 := below_at b2 HB1.out.2.2 s10
          clear b2 k29 r0 s0 r1 s1 r2 s2 r3 s3 r4 s4 r5 s5 r6 s6 r7 s7 r8 s8 r9 s9 r10 s10
          cases z4 with
          | false =>
            have HN : Hid (T = false) := HV2.out.1
            go_wp2_with fail
            go_ret
            exact ⟨by rw [HN.out]; rfl, HB2.out.1⟩
          | true =>
            have HE : Hid (T = eL ks ls ∧ kn = qn) := ⟨HV2.out.1, HV2.out.2 rfl⟩
            clear HV2 HV1
            go_wp2_with fail
            go_loopg [5] kn (fun g2 iv wr => ∃ (i : Nat), iv = .int .i64 i ∧ i + g2 = kn ∧ Hid (Below w2.heap.size w2 wr ∧ eL ks ls = eL (ks.drop i) (ls.drop i)))
            case atStart => exact ⟨0, rfl, by omega, Below.refl _ _, rfl⟩
            case round =>
              obtain ⟨i, rfl, hig, HI⟩ := hrel
              have c9 := below_at HI.out.1 HB2.out.2.1 c8
              have d9 := below_at HI.out.1 HB2.out.2.2 d8
              clear c8 d8
              cases gk with
              | zero =>
                obtain rfl : i = kn := by omega
                have hg0 : decide ((i : Int) < (i : Int)) = false := decide_eq_false (by omega)
                have HN : Hid (T = true) := by
                  show T = true
                  rw [HE.out.1, HI.out.2, List.drop_eq_nil_of_le (by rw [HK.out.2.1]; omega), eL]
                go_wp2_with fail
                go_ret
                exact ⟨by rw [HN.out]; rfl, HB2.out.1.trans (HI.out.1.mono HB2.out.1.size)⟩
              | succ k =>
                have hin : i < kn := by omega
                have hin2 : i < qn := by rw [← HE.out.2]; exact hin
                have g2 : decide ((i : Int) < (kn : Int)) = true := decide_eq_true (by omega)
                obtain ⟨u, hu⟩ : ∃ u, ks[i]? = some u := ⟨_, List.getElem?_eq_getElem (by rw [HK.out.2.1]; exact hin)⟩
                obtain ⟨v, hv⟩ : ∃ v, ls[i]? = some v := ⟨_, List.getElem?_eq_getElem (by rw [HK.out.2.2]; exact hin2)⟩
                obtain ⟨kb, ko, qb, qo, av, kv, av', kv', rfl, rfl, hkb, hqb, hc1, hc2, hcall⟩ := HK.out.1 i u v hu hv
                have bw : Below w.heap.size w wr := HB2.out.1.trans (HI.out.1.mono HB2.out.1.size)
                have e1 : CellsAt wr kb (ko + i * 11) (u.d.cs av kv) := hc1.mv (bw.block kb hkb)
                have e2 : CellsAt wr qb (qo + i * 11) (v.d.cs av' kv') := hc2.mv (bw.block qb hqb)
                have p0 : wr.cell? ⟨kb, ko + i * 11, none⟩ = some (iv u.d.id) := e1 0 _ rfl
                have p1 : wr.cell? ⟨kb, ko + i * 11 + 1, none⟩ = some (iv u.d.kind) := e1 1 _ rfl
                have p2 : wr.cell? ⟨kb, ko + i * 11 + 2, none⟩ = some (iv u.d.space) := e1 2 _ rfl
                have p3 : wr.cell? ⟨kb, ko + i * 11 + 3, none⟩ = some (.string u.d.name) := e1 3 _ rfl
                have p4 : wr.cell? ⟨kb, ko + i * 11 + 4, none⟩ = some (.string u.d.text) := e1 4 _ rfl
                have p5 : wr.cell? ⟨kb, ko + i * 11 + 5, none⟩ = some (av) := e1 5 _ rfl
                have p6 : wr.cell? ⟨kb, ko + i * 11 + 6, none⟩ = some (iv u.d.sf) := e1 6 _ rfl
                have p7 : wr.cell? ⟨kb, ko + i * 11 + 7, none⟩ = some (iv u.d.st) := e1 7 _ rfl
                have p8 : wr.cell? ⟨kb, ko + i * 11 + 8, none⟩ = some (iv u.d.ef) := e1 8 _ rfl
                have p9 : wr.cell? ⟨kb, ko + i * 11 + 9, none⟩ = some (iv u.d.et) := e1 9 _ rfl
                have p10 : wr.cell? ⟨kb, ko + i * 11 + 10, none⟩ = some (kv) := e1 10 _ rfl
                have q0 : wr.cell? ⟨qb, qo + i * 11, none⟩ = some (iv v.d.id) := e2 0 _ rfl
                have q1 : wr.cell? ⟨qb, qo + i * 11 + 1, none⟩ = some (iv v.d.kind) := e2 1 _ rfl
                have q2 : wr.cell? ⟨qb, qo + i * 11 + 2, none⟩ = some (iv v.d.space) := e2 2 _ rfl
                have q3 : wr.cell? ⟨qb, qo + i * 11 + 3, none⟩ = some (.string v.d.name) := e2 3 _ rfl
                have q4 : wr.cell? ⟨qb, qo + i * 11 + 4, none⟩ = some (.string v.d.text) := e2 4 _ rfl
                have q5 : wr.cell? ⟨qb, qo + i * 11 + 5, none⟩ = some (av') := e2 5 _ rfl
                have q6 : wr.cell? ⟨qb, qo + i * 11 + 6, none⟩ = some (iv v.d.sf) := e2 6 _ rfl
                have q7 : wr.cell? ⟨qb, qo + i * 11 + 7, none⟩ = some (iv v.d.st) := e2 7 _ rfl
                have q8 : wr.cell? ⟨qb, qo + i * 11 + 8, none⟩ = some (iv v.d.ef) := e2 8 _ rfl
                have q9 : wr.cell? ⟨qb, qo + i * 11 + 9, none⟩ = some (iv v.d.et) := e2 9 _ rfl
                have q10 : wr.cell? ⟨qb, qo + i * 11 + 10, none⟩ = some (kv') := e2 10 _ rfl
                have hd := eL_drop hu hv
                obtain ⟨x, hx⟩ : ∃ x, eT u v = x := ⟨_, rfl⟩
                rw [hx] at hd
                have HC : Hid (∀ wd, Below wr.heap.size wr wd → Calls Try.prog 10 #[.agg #[iv u.d.id, iv u.d.kind, iv u.d.space, .string u.d.name, .string u.d.text, av, iv u.d.sf, iv u.d.st, iv u.d.ef, iv u.d.et, kv], .agg #[iv v.d.id, iv v.d.kind, iv v.d.space, .string v.d.name, .string v.d.text, av', iv v.d.sf, iv v.d.st, iv v.d.ef, iv v.d.et, kv']] wd fun e w'' => e = .returned (.bool x) ∧ Below wd.heap.size wd w'') := fun wd b => by
                  have := hcall wd (bw.trans (b.mono bw.size))
                  rwa [hx] at this
                have HD : Hid (T = (x && eL (ks.drop (i + 1)) (ls.drop (i + 1))) ∧ eL ks ls = (x && eL (ks.drop (i + 1)) (ls.drop (i + 1)))) := ⟨by rw [HE.out.1, HI.out.2, hd], by rw [HI.out.2, hd]⟩
                clear hcall hkb hqb hc1 hc2 e1 e2 bw hu hv hd hx
                go_wp2_with fail
                clear HK
                go_still_tail 10, (show Try.prog.follows .mixedOrders = true by kernel_rfl)
                go_wp2_with fail
                refine (HC.out _ (below_drewN (Below.refl _ _) 1)).mono ?_
                rintro e w5 ⟨rfl, b5⟩
                have HB5 : Hid (Below wr.heap.size wr w5) := (below_drewN (Below.refl _ _) 1).trans b5
                clear b5 HC
                cases x with
                | false =>
                  go_wp2_with fail
                  go_ret
                  exact ⟨by rw [HD.out.1]; rfl, (HB2.out.1.trans (HI.out.1.mono HB2.out.1.size)).trans (HB5.out.mono (Nat.le_trans HB2.out.1.size HI.out.1.size))⟩
                | true =>
                  go_wp2_with fail
                  go_roundg k
                  case measure => omega
                  case rel => exact ⟨i + 1, by go_num, by omega, HI.out.1.trans (HB5.out.mono HI.out.1.size), by rw [HD.out.2, Bool.true_and]⟩
  · have g1 : (i1 == j1) = false := by simp [h1]
    have HN : Hid (T = false) := by
      show T = false
      rw [HI1.out, decide_eq_false h1]
      rfl
    go_enter Try.func10, Try.ntmps10
    go_upto_region 1 with fail
    rw [HW0.out]
    clear HW0
    go_wp2_with fail
    go_ret
    exact ⟨by rw [HN.out]; rfl, H.out.1⟩

theorem requal_any {w : World} {t : Tr} {av kv : Value} (h : TrV w t av kv) : ∀ (t' : Tr) (av' kv' : Value), TrV w t' av' kv' → Ok t → ∀ w', Below w.heap.size w w' →
    Calls Try.prog 10 #[.agg #[iv t.d.id, iv t.d.kind, iv t.d.space, .string t.d.name, .string t.d.text, av, iv t.d.sf, iv t.d.st, iv t.d.ef, iv t.d.et, kv], .agg #[iv t'.d.id, iv t'.d.kind, iv t'.d.space, .string t'.d.name, .string t'.d.text, av', iv t'.d.sf, iv t'.d.st, iv t'.d.ef, iv t'.d.et, kv']] w' fun e w'' => e = .returned (.bool (eT t t')) ∧ Below w'.heap.size w' w'' := by
  induction h with
  | mk ha hp hc hk ih =>
    rename_i d ks ac kc kb ko ao kp avs kvs
    intro t' av' kv' h' hok w' b
    cases hok with
    | mk o1 o2 o3 o4 =>
      cases h' with
      | mk ha' hp' hc' hk' =>
        rename_i d' ls ac' kc' qb qo bo qp avs' kvs'
        refine requal_one d d' ks ls _ ac _ ac' _ kc _ kc' (ha.old b) (ha'.old b) rfl rfl o1 rfl rfl o3 fun j u v hu hv => ?_
        have hne : ks ≠ [] := fun e => by rw [e] at hu; simp at hu
        have hne' : ls ≠ [] := fun e => by rw [e] at hv; simp at hv
        obtain ⟨q1, q2⟩ := hc j u hu
        obtain ⟨q3, q4⟩ := hc' j v hv
        exact ⟨kb, ko, qb, qo, avs j, kvs j, avs' j, kvs' j, hp hne, hp' hne', Nat.lt_of_lt_of_le q1 b.size, Nat.lt_of_lt_of_le q3 b.size, q2.mv (b.block kb q1), q4.mv (b.block qb q3), fun w2 b2 => ih j u hu v (avs' j) (kvs' j) (hk' j v hv) (o4 u (List.mem_of_getElem? hu)) w2 (b.trans (b2.mono b.size))⟩
end Go.Proofs.Ytdpibnmbgjhohaa
