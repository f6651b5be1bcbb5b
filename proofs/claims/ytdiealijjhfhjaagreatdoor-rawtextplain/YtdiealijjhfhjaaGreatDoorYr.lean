/- Ends: where a text ends. -/
import Derived.Test.YtdiealijjhfhjaaGreatDoorYq
namespace Go.Proofs.YtdiealijjhfhjaaGreatDoor
open Go.RowKit
def isEnd (t : Pt) : Bool := decide (t.k = 3)
def endP (L : List Pt) : Int × Bool := match L.find? isEnd with
  | some t => (t.f, true)
  | none => (0, false)
theorem feeds_pre (tn : Bool) (S : List UInt8) (i : Nat) (m : Mc) : ∃ R, (Mc.feeds tn (tld S) m).1 = (Mc.feeds tn (tld (S.take i)) m).1 ++ R := by
  have h := (ts_app (S.take i) (S.drop i)).2
  rw [List.take_append_drop] at h
  rw [h, feeds_app]
  exact ⟨_, rfl⟩
theorem endP_no {A : List Pt} (h : A.find? isEnd = none) : endP A = (0, false) := by unfold endP; rw [h]
theorem find_at {T : List TL} {j : Nat} {t : TL} (h1 : ∀ (k : Nat) (u : TL), k < j → T[k]? = some u → u.1.k ≠ 3) (h2 : T[j]? = some t) (h3 : t.1.k = 3) : (T.map ptOf).find? isEnd = some (ptOf t) := by
  induction T generalizing j with
  | nil => simp at h2
  | cons u T ih =>
    cases j with
    | zero =>
      simp at h2
      subst h2
      rw [List.map_cons, List.find?_cons_of_pos (by unfold isEnd; simp [ptOf, h3])]
    | succ j =>
      rw [List.map_cons, List.find?_cons_of_neg (by have := h1 0 u (by omega) rfl; unfold isEnd; simp [ptOf, this])]
      exact ih (j := j) (fun k w hk hw => h1 (k + 1) w (by omega) (by simpa using hw)) (by simpa using h2)
theorem find_none {T : List TL} (h1 : ∀ (k : Nat) (u : TL), k < T.length → T[k]? = some u → u.1.k ≠ 3) : (T.map ptOf).find? isEnd = none := by
  rw [List.find?_eq_none]
  intro t ht
  obtain ⟨u, hu, rfl⟩ := List.mem_map.1 ht
  obtain ⟨k, hk, e⟩ := List.getElem_of_mem hu
  have := h1 k u hk (by rw [List.getElem?_eq_getElem hk, e])
  unfold isEnd
  simp [ptOf, this]
set_option maxHeartbeats 4000000 in
set_option maxRecDepth 20000 in
theorem ends_any {w : World} (H : G6.Hi w) (s : ByteArray) (last : ByteArray) (hs : s.size ≤ 5000) (hl : last.size ≤ 5000) :
    Calls Tryz.prog 15 #[.string s, .string last] w fun e w' => e = .returned (.tuple #[.int .i64 (endP (Mc.feeds false (tld s.data.toList) (M0 2 last)).1).1, .bool (endP (Mc.feeds false (tld s.data.toList) (M0 2 last)).1).2]) ∧ Below w.heap.size w w' := by
  have HH : Hid (G6.Hi w) := H
  clear H
  obtain ⟨ep, hep⟩ : ∃ ep, endP (Mc.feeds false (tld s.data.toList) (M0 2 last)).1 = ep := ⟨_, rfl⟩
  have HEP : Hid (endP (Mc.feeds false (tld s.data.toList) (M0 2 last)).1 = ep) := hep
  rw [hep]
  clear hep
  obtain ⟨n0, hn0, hg0⟩ := rdM_good last hl
  have HG : Hid (Good n0 (M0 2 last)) := set_good hg0 2
  clear hg0
  go_enter Tryz.func15, Tryz.ntmps15
  go_wp2_with fail
  refine (newR_any HH.out last hl).mono ?_
  rintro e W1 ⟨r, x, xs, d, v, rfl, k1, k2⟩
  have k1 := (rdA_nil _ _ _ _ _ _ _ _ _ _).mp k1
  have c1 : W1.cell? ⟨r, 1, none⟩ = some (.pointer (some ⟨x, 0, none⟩)) := by simp [World.cell?, k1.blk]
  have hr1 := k1.lt
  have HR : Hid (Rd w.heap.size r x xs d (rdM last) v false 0 [] G4.Ch0 (.slice none 0 0) [] W1 ∧ Below w.heap.size w W1) := ⟨k1, k2⟩
  clear k1 k2
  go_wp2_with fail
  refine (HR.out.1.did (fun U v hU => set_v hU 2)).mono ?_
  rintro e W2 ⟨rfl, q1, q2⟩
  have HB : Hid (RdA w.heap.size r x xs d (M0 2 last) v false [] (.slice none 0 0) W2 ∧ Below w.heap.size w W2) := by
    refine ⟨(rdA_nil _ _ _ _ _ _ _ _ _ _).mpr q1, ⟨q2.keep.os.trans HR.out.2.os, q2.keep.tape.trans HR.out.2.tape, q2.keep.output.trans HR.out.2.output, Nat.le_trans HR.out.2.size q2.keep.size, fun k hk => ?_⟩⟩
    rw [q2.keep.block k (fun ho => by have := (HR.out.1.own_lt ho).2; omega) (Nat.lt_of_lt_of_le hk HR.out.2.size)]
    exact HR.out.2.block k hk
  clear q1 q2 c1 HR
  go_wp2_with fail
  go_loopw [19] (fun iv wr => ∃ (i : Nat) (v' : Vs) (fv' : Value), iv = .int .i64 i ∧ i ≤ s.size ∧ RdA w.heap.size r x xs d (M0 2 last) v' false (s.data.toList.take i) fv' wr ∧ Below w.heap.size w wr ∧ (Mc.feeds false (tld (s.data.toList.take i)) (M0 2 last)).1.find? isEnd = none) (fun iv _ => s.size - (intOf iv).toNat)
  case atStart => exact ⟨0, v, _, rfl, Nat.zero_le _, HB.out.1, HB.out.2, rfl⟩
  case round =>
    obtain ⟨i, v', fv', rfl, hin, hr, hb, hno⟩ := hrel
    have hxr := hr.lt
    have HA : Hid (RdA w.heap.size r x xs d (M0 2 last) v' false (s.data.toList.take i) fv' wr ∧ Below w.heap.size w wr ∧ (Mc.feeds false (tld (s.data.toList.take i)) (M0 2 last)).1.find? isEnd = none) := ⟨hr, hb, hno⟩
    clear hr hb hno
    by_cases hlt : i < s.size
    · have hlt' : decide ((i : Int) < (s.size : Int)) = true := decide_eq_true (by omega)
      obtain ⟨t, het⟩ : ∃ t, s.extract i (i + 1) = t := ⟨_, rfl⟩
      have HTT : Hid (s.data.toList.take (i + 1) = s.data.toList.take i ++ t.data.toList ∧ t.size ≤ 1 ∧ (s.data.toList.take i).length ≤ 5000) := ⟨by rw [← het]; exact one_byte s i hlt, by rw [← het, ByteArray.size_extract]; omega, by rw [List.length_take, Array.length_toList]; have h3 : s.data.size = s.size := rfl; omega⟩
      go_wp2_with fail
      refine (feedA_any takeC_no HA.out.1 HG.out t hn0 (by have := HTT.out; omega)).mono ?_
      rintro e W3 ⟨v3, fv3, ov3, T3, rfl, q1, q2, q3, q4⟩
      rw [← HTT.out.1] at q2 q3 q4
      obtain ⟨ao3, c3, eov, hc3, _⟩ := q4.form
      subst eov
      have hB3 : Below w.heap.size w W3 := by
        refine ⟨q3.keep.os.trans HA.out.2.1.os, q3.keep.tape.trans HA.out.2.1.tape, q3.keep.output.trans HA.out.2.1.output, Nat.le_trans HA.out.2.1.size q3.keep.size, fun k hk => ?_⟩
        rw [q3.keep.block k (fun ho => by have := (HA.out.1.own_lt ho).2; omega) (Nat.lt_of_lt_of_le hk HA.out.2.1.size)]
        exact HA.out.2.1.block k hk
      have H3 : Hid (RdA w.heap.size r x xs d (M0 2 last) v3 false (s.data.toList.take (i + 1)) fv3 W3 ∧ Below w.heap.size w W3 ∧ Tol (Own r x xs d (Mc.feeds false (tld (s.data.toList.take (i + 1))) (M0 2 last)).2 v3 fv3) ao3 T3 W3 ∧ (Mc.feeds false (tld (s.data.toList.take (i + 1))) (M0 2 last)).1 = (Mc.feeds false (tld (s.data.toList.take i)) (M0 2 last)).1 ++ T3.map ptOf) := by
        refine ⟨q2, hB3, q4.tol, ?_⟩
        have h5 := (ts_app (s.data.toList.take i) t.data.toList).2
        rw [← HTT.out.1] at h5
        rw [h5, feeds_app, q1]
      obtain ⟨n3, hn3⟩ : ∃ n3, T3.length = n3 := ⟨_, rfl⟩
      have HN3 : Hid (T3.length = n3) := hn3
      have hn3l : n3 ≤ 1000000000000 := by
        have h1 := feedsA_len false (s.data.toList.take (i + 1)) HG.out hn0 (by
          rw [HTT.out.1, List.length_append]
          have a2 : t.data.toList.length = t.size := Array.length_toList
          have a3 := HTT.out
          omega)
        rw [H3.out.2.2.2, List.length_append, List.length_map] at h1
        omega
      rw [hn3] at hc3 ⊢
      clear q1 q2 q3 q4 hB3 hn3
      go_wp2_with fail
      go_loopw [30] (fun jv wq => ∃ j : Nat, jv = .int .i64 j ∧ j ≤ n3 ∧ Below W3.heap.size W3 wq ∧ ∀ k (u : TL), k < j → T3[k]? = some u → u.1.k ≠ 3) (fun jv _ => n3 - (intOf jv).toNat)
      case atStart => exact ⟨0, rfl, Nat.zero_le _, Below.refl _ _, fun k u hk => by omega⟩
      case round =>
        obtain ⟨j, rfl, hjn, hbq, hall⟩ := hrel
        have HQ : Hid (Below W3.heap.size W3 wr ∧ ∀ k (u : TL), k < j → T3[k]? = some u → u.1.k ≠ 3) := ⟨hbq, hall⟩
        by_cases hj : j < n3
        · have hj' : decide ((j : Int) < (n3 : Int)) = true := decide_eq_true (by omega)
          obtain ⟨tk, htk⟩ : ∃ tk, T3[j]? = some tk := ⟨_, List.getElem?_eq_getElem (by rw [HN3.out]; exact hj)⟩
          obtain ⟨g, off, rfl, hgw, hcl, _⟩ := (H3.out.2.2.1.row.1.below hbq).at htk
          have HTK : Hid (T3[j]? = some tk) := htk
          obtain ⟨z0, z1, z2, z3, z4, z5, z6, z7⟩ := hcl
          clear hbq hall htk
          obtain ⟨⟨tkk, tkr, tknm, tktx, tkao, tkn, tkcap, tks, tkf, tkt⟩, tkL⟩ := tk
          simp only at z0 z1 z2 z3 z4 z5 z6 z7
          obtain ⟨W0, hW0⟩ : ∃ W0, wr.alloc (.cells #[.int .i64 tkk, .int .i64 tkr, .string tknm, .string tktx, .slice tkao tkn tkcap, .bool tks, .int .i64 tkf, .int .i64 tkt] 42) = W0 := ⟨_, rfl⟩
          have B0 : Below wr.heap.size wr W0 := by rw [← hW0]; exact (Below.refl _ _).alloc (Nat.le_refl _) _
          have hnew : W0.heap[wr.heap.size]? = some (.cells #[.int .i64 tkk, .int .i64 tkr, .string tknm, .string tktx, .slice tkao tkn tkcap, .bool tks, .int .i64 tkf, .int .i64 tkt] 42 (0, 0)) := by rw [← hW0]; exact heap_alloc_new _ _
          have hqw : wr.heap.size < W0.heap.size := (Array.getElem?_eq_some_iff.1 hnew).1
          have d0 : W0.cell? ⟨wr.heap.size, 0, none⟩ = some (.int .i64 tkk) := by simp [World.cell?, hnew]
          have d6 : W0.cell? ⟨wr.heap.size, 6, none⟩ = some (.int .i64 tkf) := by simp [World.cell?, hnew]
          have HB0 : Hid (Below wr.heap.size wr W0) := B0
          clear B0 hnew
          by_cases hk : tkk = 3
          · subst hk
            have HZ : Hid (ep = (tkf, true) ∧ Below w.heap.size w W0) := by
              refine ⟨?_, H3.out.2.1.trans ((HQ.out.1.mono H3.out.2.1.size).trans (HB0.out.mono (Nat.le_trans H3.out.2.1.size HQ.out.1.size)))⟩
              have hf := find_at HQ.out.2 HTK.out rfl
              obtain ⟨R, hR⟩ := feeds_pre false s.data.toList (i + 1) (M0 2 last)
              rw [← HEP.out, hR, H3.out.2.2.2]
              unfold endP
              rw [List.find?_append, List.find?_append, HA.out.2.2, Option.none_or, hf]
              rfl
            go_wp2_with fail
            go_ret2
            rw [HZ.out.1]
            exact ⟨rfl, HZ.out.2⟩
          · have hk' : (tkk == 3) = false := by simpa using hk
            have HZ : Hid (Below W3.heap.size W3 W0 ∧ ∀ (k : Nat) (u : TL), k < j + 1 → T3[k]? = some u → u.1.k ≠ 3) := by
              refine ⟨HQ.out.1.trans (HB0.out.mono HQ.out.1.size), fun k u' hk2 hu => ?_⟩
              by_cases e : k = j
              · rw [e, HTK.out] at hu
                cases hu
                exact hk
              · exact HQ.out.2 k u' (by omega) hu
            go_wp2_with fail
            go_roundw
            case rel => exact ⟨j + 1, by go_num, by omega, HZ.out⟩
            case measure => simp [intOf]; omega
        · have hj' : decide ((j : Int) < (n3 : Int)) = false := decide_eq_false (by omega)
          have HZ : Hid (RdA w.heap.size r x xs d (M0 2 last) v3 false (s.data.toList.take (i + 1)) fv3 wr ∧ Below w.heap.size w wr ∧ (Mc.feeds false (tld (s.data.toList.take (i + 1))) (M0 2 last)).1.find? isEnd = none) := by
            refine ⟨H3.out.1.below hbq, H3.out.2.1.trans (hbq.mono H3.out.2.1.size), ?_⟩
            rw [H3.out.2.2.2, List.find?_append, HA.out.2.2, Option.none_or]
            exact find_none fun k u hk hu => hall k u (by rw [HN3.out] at hk; omega) hu
          clear hbq hall
          go_wp2_with fail
          go_roundw
          case rel => exact ⟨i + 1, v3, fv3, by go_num, by omega, HZ.out⟩
          case measure => simp [intOf]; omega
    · have hlt' : decide ((i : Int) < (s.size : Int)) = false := decide_eq_false (by omega)
      have ei : s.data.toList.take i = s.data.toList := List.take_of_length_le (by rw [Array.length_toList]; have h3 : s.data.size = s.size := rfl; omega)
      have HZ : Hid (ep = (0, false) ∧ Below w.heap.size w wr) := by
        have h := HA.out
        rw [ei] at h
        exact ⟨by rw [← HEP.out]; exact endP_no h.2.2, h.2.1⟩
      go_wp2_with fail
      go_ret2
      rw [HZ.out.1]
      exact ⟨rfl, HZ.out.2⟩
end Go.Proofs.YtdiealijjhfhjaaGreatDoor
namespace Go.Proofs.YtdiealijjhfhjaaGreatDoor
open Go.RowKit
def keyT (t : Pt) : Int × List UInt8 := (t.k, t.nm.data.toList)
theorem exA : (tkP ⟨#[97, 60, 47, 98, 62, 60, 47, 105, 62]⟩ 2 ⟨#[105]⟩).map keyT = [(1, []), (1, []), (1, []), (1, []), (1, []), (3, [105]), (6, [])] ∧ ftP ⟨#[97, 60, 47, 98, 62, 60, 47, 105, 62]⟩ 2 ⟨#[105]⟩ = [] := by decide +kernel
theorem exB : endP (Mc.feeds false (tld (ByteArray.mk #[97, 60, 47, 98, 62, 60, 47, 105, 62]).data.toList) (M0 2 ⟨#[105]⟩)).1 = (5, true) := by decide +kernel
theorem exC : endP (Mc.feeds false (tld (ByteArray.mk #[97]).data.toList) (M0 2 ⟨#[105]⟩)).1 = (0, false) := by decide +kernel
theorem tok_A {w : World} (H : G6.Hi w) : Calls Tryz.prog 9 #[.string ⟨#[97, 60, 47, 98, 62, 60, 47, 105, 62]⟩, .int .i64 2, .string ⟨#[105]⟩] w fun e w' => ∃ g oc fo fc, e = .returned (.tuple #[.slice (some ⟨g, 0, none⟩) 7 oc, .slice fo 0 fc]) ∧ 7 ≤ oc ∧ g < w'.heap.size ∧ w'.cell? ⟨g, 40, none⟩ = some (.int .i64 3) ∧ w'.cell? ⟨g, 42, none⟩ = some (.string ⟨#[105]⟩) ∧ Below w.heap.size w w' := by
  refine (tokens_any H _ 2 _ (by decide) (by decide)).mono ?_
  rintro e w' ⟨oo, T, oc, fo, L', fc, rfl, h1, h2, h3, h4, h5, h6⟩
  obtain ⟨x1, x2⟩ := exA
  rw [← h1, List.map_map] at x1
  rw [x2] at h4
  have hl := stb_len h4
  simp only [List.length_nil] at hl
  have hT : T.length = 7 := by rw [← List.length_map, x1]; rfl
  obtain ⟨t, ht⟩ : ∃ t, T[5]? = some t := ⟨_, List.getElem?_eq_getElem (by omega)⟩
  have hk : keyT (ptOf t) = (3, [105]) := by
    have := congrArg (·[5]?) x1
    simp [ht] at this
    exact this
  obtain ⟨_, oc', e2, hc, _⟩ := own_form h3.own
  simp only [Value.slice.injEq] at e2
  obtain ⟨_, _, rfl⟩ := e2
  obtain ⟨g, rfl, hg, hcl, _⟩ := h3.at rfl ht
  rw [hl, hT]
  have k1 : t.1.k = 3 := congrArg Prod.fst hk
  have k2 : t.1.nm = ⟨#[105]⟩ := by
    have := congrArg Prod.snd hk
    have e : t.1.nm.data.toList = [105] := this
    apply ByteArray.ext
    apply Array.ext'
    rw [e]
  refine ⟨g, oc, fo, fc, rfl, by simp only at hc; omega, hg, ?_, ?_, h6⟩
  · have := hcl.c0
    rw [k1] at this
    exact this
  · have := hcl.c2
    rw [k2] at this
    exact this
set_option maxHeartbeats 2000000 in
set_option maxRecDepth 20000 in
theorem awake_any {w : World} (H : G6.Hi w) : Calls Tryz.prog 8 #[] w fun e w' => e = .returned (.bool true) ∧ Below w.heap.size w w' := by
  have hw0 := H.lt
  have HH : Hid (G6.Hi w) := H
  clear H
  go_enter Tryz.func8, Tryz.ntmps8
  go_wp2_with fail
  refine (tok_A HH.out).mono ?_
  rintro e w1 ⟨g, oc, fo, fc, rfl, hoc, hg, z0, z2, b1⟩
  have H1 : Hid (w1.cell? ⟨g, 40, none⟩ = some (.int .i64 3) ∧ w1.cell? ⟨g, 42, none⟩ = some (.string ⟨#[105]⟩) ∧ Below w.heap.size w w1 ∧ g < w1.heap.size) := ⟨z0, z2, b1, hg⟩
  clear z0 z2 b1 hg
  go_wp2_with fail
  refine (ends_any (HH.out.below H1.out.2.2.1 hw0) _ _ (by decide) (by decide)).mono ?_
  rw [exB]
  rintro e w2 ⟨rfl, b2⟩
  have H2 : Hid (Below w1.heap.size w1 w2 ∧ Below w.heap.size w w2) := ⟨b2, H1.out.2.2.1.trans (b2.mono H1.out.2.2.1.size)⟩
  clear b2
  go_wp2_with fail
  refine (ends_any (HH.out.below H2.out.2 hw0) _ _ (by decide) (by decide)).mono ?_
  rw [exC]
  rintro e w3 ⟨rfl, b3⟩
  have H3 : Hid (Below w.heap.size w w3) := H2.out.2.trans (b3.mono H2.out.2.size)
  have bb : Below w1.heap.size w1 w3 := H2.out.1.trans (b3.mono H2.out.1.size)
  have z0 : w3.cell? ⟨g, 40, none⟩ = some (.int .i64 3) := (bb.cell (p := ⟨g, 40, none⟩) H1.out.2.2.2).trans H1.out.1
  have z2 : w3.cell? ⟨g, 42, none⟩ = some (.string ⟨#[105]⟩) := (bb.cell (p := ⟨g, 42, none⟩) H1.out.2.2.2).trans H1.out.2.1
  have hg3 : g < w3.heap.size := Nat.lt_of_lt_of_le H1.out.2.2.2 bb.size
  clear b3 bb H1 H2
  go_wp2_with fail
  go_ret
  exact ⟨rfl, H3.out⟩
end Go.Proofs.YtdiealijjhfhjaaGreatDoor
