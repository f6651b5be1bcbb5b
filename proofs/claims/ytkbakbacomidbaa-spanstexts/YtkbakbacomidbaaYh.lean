/- The scanner at a mark within raw text. -/
import Derived.Test.YtkbakbacomidbaaProg
import Derived.Below
import Derived.BigCall
import Derived.BigQuiet
import Derived.BigRegion
import Derived.Deep.DeepCutAuto
import Derived.Deep.LoopGhost
import Derived.Deep.QuietTactic
import Derived.Deep.RegionHeld3
import Derived.Deep.RegionLaw
import Derived.Deep.RegionWith
import Derived.Deep.Upon
import Derived.Laws.AppendOwn
import Derived.Laws.BytesArg
import Derived.Laws.EntriesVeiled
import Derived.Laws.IdiomStrings
import Derived.Laws.StructEq
import Derived.Lib.AppendStr
import Derived.Lib.RuneBytes
import Derived.Maps.AppendAt
import Derived.Maps.OwnSet
import Derived.OwnWalk
import Derived.ScopeJumps
import Derived.Shelf.Abstract
import Derived.Shelf.Small.Strs
import Derived.Shelf.Strings.Builder1
import Derived.Shelf.Strings.BuilderF
import Derived.Shelf.Strings.BuilderK
import Derived.Shelf.Strings.BuilderRune
import Derived.Shelf.Strings.Prefix
import Derived.StillTailTactics
import Derived.StringKeys
import Derived.WalkArith
import Derived.WalkKit
import Derived.WalkLawsBesides
import Derived.WalkMore
import Derived.WalkSpells
import Derived.Test.YtkbakbacomidbaaYg
namespace Go.Proofs.Ytkbakbacomidbaa
open Go.RowKit
theorem empty_is {v : ByteArray} (h : v.toList = []) : (v.toList == ([] : List UInt8)) = true ∧ v.toList.isEmpty = true := by rw [h]; exact ⟨rfl, rfl⟩
theorem empty_is_not {v : ByteArray} (h : v.toList ≠ []) : (v.toList == ([] : List UInt8)) = false ∧ v.toList.isEmpty = false := by
  refine ⟨beq_false_of_ne h, ?_⟩
  cases e : v.toList with
  | nil => exact absurd e h
  | cons a b => rfl
theorem enc_ne (r : Int) : enc r ≠ [] := by
  by_cases h0 : 0 ≤ r ∧ r < 128
  · rw [enc_low h0.1 h0.2]; simp
  · exact (enc_all h0).1
theorem lows_nil {l : List Ch} : lows l = [] ↔ l = [] := by
  constructor
  · intro h
    cases l with
    | nil => rfl
    | cons c t =>
      unfold lows at h
      rw [List.flatMap_cons, List.append_eq_nil_iff] at h
      exact absurd h.1 (enc_ne _)
  · rintro rfl
    rfl
set_option maxHeartbeats 4000000 in
set_option maxRecDepth 20000 in
theorem raw_any' (htag : TagAny) {S : Nat → Prop} {x : Nat} {E : Env} {c0 : Ch} {r : List Ch} {sc : Sc} {dn : Bool} {w : World} (h : Tm S x E (c0 :: r) sc dn w) (hpos : ∀ d ∈ r, 0 ≤ d.r) (hB : sc.fs.length + 8 * r.length + 16 ≤ 1000000000) : Calls Try.prog 39 #[mp x] w (Tokd S x E (rawR E.N (c0 :: r) sc r) dn w) := by
  have K0 : Hid (TW S x E (c0 :: r) sc dn w w) := TW.start h
  have hxw := h.lt
  obtain ⟨T, hT⟩ : ∃ T, rawR E.N (c0 :: r) sc r = T := ⟨_, rfl⟩
  have HT : Hid (rawR E.N (c0 :: r) sc r = T) := hT
  rw [hT]
  have HFr : Hid (c0 :: r <:+ E.L ∧ r <:+ r ∧ (∀ d ∈ r, 0 ≤ d.r)) := ⟨K0.out.facts.2.1, List.suffix_refl _, hpos⟩
  have HL5 : Hid (r.length ≤ 100000) := by have h1 := K0.out.facts; have h2 := h1.2.1.length_le; simp only [List.length_cons] at h2; show _ ≤ _; omega
  have HB : Hid (sc.fs.length + 8 * r.length + 16 ≤ 1000000000) := hB
  have HD : Hid TagAny := @htag
  obtain ⟨cv, hcv⟩ : ∃ cv, hd r = cv := ⟨_, rfl⟩
  have HCV : Hid (hd r = cv) := hcv
  obtain ⟨a1, a2, a3, a4, _⟩ := K0.out.at
  obtain ⟨pF, hpF⟩ : ∃ pF, pos E (c0 :: r) = pF := ⟨_, rfl⟩
  have HPF : Hid (pos E (c0 :: r) = pF) := hpF
  have KA0 : TW S x E r sc dn w (w.setCell ⟨x, 1, none⟩ (.int .i64 (pos E (c0 :: r) + 1))) := K0.out.adv
  rw [hpF] at a1 a3 a4 KA0
  obtain ⟨W0, hW0⟩ : ∃ W0, w.setCell ⟨x, 1, none⟩ (.int .i64 (pF + 1)) = W0 := ⟨_, rfl⟩
  have HW0 : Hid (w.setCell ⟨x, 1, none⟩ (.int .i64 (pF + 1)) = W0) := hW0
  rw [hW0] at KA0
  clear K0
  have K0 : Hid (TW S x E r sc dn w W0) := KA0
  have hx0 := KA0.lt
  have hpf0 : 0 ≤ pF := a3
  have hpf1 : pF ≤ 100000 := a4
  clear h hpos hpF hT hB htag KA0 hW0
  by_cases h47 : cv = 47
  · have g47 : (cv != 47) = false := by simp [h47]
    cases r with
    | nil => rw [← hcv] at h47; exact absurd h47 (by decide)
    | cons c t =>
      obtain ⟨Q, hQ⟩ : ∃ Q, lows (t.takeWhile isL) = Q := ⟨_, rfl⟩
      obtain ⟨R, hR⟩ : ∃ R, t.dropWhile isL = R := ⟨_, rfl⟩
      have HTT : Hid ((if Q ≠ [] ∧ Q = sc.last.data.toList ∧ (blk (hd R) = true ∨ hd R = 47 ∨ hd R = 62) then tagR E.N (c0 :: c :: t) 3 sc t else (toldR (c0 :: c :: t) R, sc, R)) = T) := by
        show _ = T
        rw [← HT.out]
        unfold rawR
        rw [hcv, if_pos h47]
        subst hQ hR
        by_cases hh : t.takeWhile isL ≠ [] ∧ lows (t.takeWhile isL) = sc.last.data.toList ∧ (blk (hd (t.dropWhile isL)) = true ∨ hd (t.dropWhile isL) = 47 ∨ hd (t.dropWhile isL) = 62)
        · have hh' : lows (t.takeWhile isL) ≠ [] ∧ lows (t.takeWhile isL) = sc.last.data.toList ∧ (blk (hd (t.dropWhile isL)) = true ∨ hd (t.dropWhile isL) = 47 ∨ hd (t.dropWhile isL) = 62) := ⟨fun e => hh.1 (lows_nil.1 e), hh.2⟩
          rw [if_pos hh']
          exact (if_pos hh).symm
        · have hh' : ¬ (lows (t.takeWhile isL) ≠ [] ∧ lows (t.takeWhile isL) = sc.last.data.toList ∧ (blk (hd (t.dropWhile isL)) = true ∨ hd (t.dropWhile isL) = 47 ∨ hd (t.dropWhile isL) = 62)) := fun h => hh ⟨fun e => h.1 (lows_nil.2 e), h.2⟩
          rw [if_neg hh']
          exact (if_neg hh).symm
      have HQ : Hid (([] : List UInt8) ++ lows (t.takeWhile isL) = Q ∧ t.dropWhile isL = R) := ⟨hQ, hR⟩
      have HRt : Hid (R <:+ t) := by show _ <:+ _; rw [← hR]; exact List.dropWhile_suffix _
      have HSU : Hid (t <:+ c :: t) := List.suffix_cons _ _
      have HPS : Hid (pos E (c :: t) + 1 = pos E t) := pos_cons.symm
      have HP2 : Hid (pF + 2 = pos E t) := by
        show _ = _
        rw [← HPF.out]
        exact pos_drop (n := 2) (r := c0 :: c :: t) (by simp)
      have gm : ltr (-1) = false := by decide
      clear hcv h47 hQ hR
      go_enter Try.func39, Try.ntmps39
      go_wp2_with fail
      rw [HW0.out]
      go_wp2_with fail
      refine K0.out.c.mono ?_
      rintro e W1 ⟨rfl, k'⟩
      have K1 : Hid (TW S x E (c :: t) sc dn w W1) := k'
      have hx1 := k'.lt
      clear k'
      rw [HCV.out]
      obtain ⟨a1, a2, a3, a4, _⟩ := K1.out.at
      have KA0 := K1.out.go (r' := t) (HSU.out.trans ((List.suffix_cons _ _).trans HFr.out.1)) (pos E (c :: t) + 1) (HPS.out)
      obtain ⟨pq, hpq⟩ : ∃ p, pos E (c :: t) = p := ⟨_, rfl⟩
      rw [hpq] at a1 a3 a4 KA0
      have KA : Hid (TW S x E t sc dn w (W1.setCell ⟨x, 1, none⟩ (.int .i64 (pq + 1)))) := KA0
      clear hpq KA0
      obtain ⟨WQ, hWQ⟩ : ∃ WQ, W1.setCell ⟨x, 1, none⟩ (.int .i64 (pq + 1)) = WQ := ⟨_, rfl⟩
      have HWQ : Hid (W1.setCell ⟨x, 1, none⟩ (.int .i64 (pq + 1)) = WQ) := hWQ
      rw [hWQ] at KA
      have hxq := KA.out.lt
      clear hWQ
      go_wp2_with fail
      rw [HWQ.out]
      go_wp2_with fail
      go_loopw [4] (fun sv wr => ∃ (q : List UInt8) (r' : List Ch), sv = .string (bs q) ∧ q ++ lows (r'.takeWhile isL) = Q ∧ r'.dropWhile isL = R ∧ r' <:+ t ∧ q.length ≤ 4 * (t.length - r'.length) ∧ TW S x E r' sc dn w wr) (fun _ wr => E.L.length - atOf x wr)
      case atStart => exact ⟨[], t, rfl, HQ.out.1, HQ.out.2, List.suffix_refl _, Nat.zero_le _, KA.out⟩
      case round =>
        obtain ⟨q, r', rfl, hq, hR, hsr, hql, hk⟩ := hrel
        clear K0 K1 KA
        have K0 : Hid (TW S x E r' sc dn w wr) := hk
        have hxr := hk.lt
        obtain ⟨sv, hsv⟩ : ∃ sv, bs q = sv := ⟨_, rfl⟩
        have hsz : sv.size ≤ 400000 := by
          rw [← hsv, bs_size]
          have := HL5.out
          simp only [List.length_cons] at this
          omega
        have HV : Hid (bs q = sv) := hsv
        rw [hsv]
        by_cases hl : ∃ d u, r' = d :: u ∧ ltr d.r = true
        · obtain ⟨⟨cr, ca, cz⟩, u, rfl, hl⟩ := hl
          have hl' : ltr cr = true := hl
          have HN : Hid ((q ++ enc (lowr cr)) ++ lows (u.takeWhile isL) = Q ∧ u.dropWhile isL = R ∧ u <:+ t ∧ (q ++ enc (lowr cr)).length ≤ 4 * (t.length - u.length)) := by
            have hg : isL ⟨cr, ca, cz⟩ = true := hl
            rw [List.takeWhile_cons, hg] at hq
            rw [List.dropWhile_cons, hg] at hR
            refine ⟨?_, by simpa using hR, (List.suffix_cons _ _).trans hsr, ?_⟩
            · rw [← hq]
              simp [lows]
            · have := enc_len (lowr cr)
              have h5 := hsr.length_le
              simp only [List.length_cons, List.length_append] at h5 hql ⊢
              omega
          have HM : Hid (E.L.length - atOf x wr = u.length + 1) := hk.meas
          have HSU2 : Hid (u <:+ E.L) := ((List.suffix_cons _ _).trans hsr).trans ((HSU.out.trans (List.suffix_cons _ _)).trans HFr.out.1)
          clear hk hq hR hsr hql hsv hl
          go_wp2_with fail
          refine K0.out.cc.mono ?_
          rintro e W1 ⟨rfl, k'⟩
          have K1 : Hid (TW S x E (⟨cr, ca, cz⟩ :: u) sc dn w W1) := k'
          have hx1 := k'.lt
          clear k'
          go_wp2_with fail
          refine (letter_any' cr _).mono ?_
          rintro e w0 ⟨rfl, hw0⟩
          rw [hw0]
          clear hw0
          go_wp2_with fail
          refine K1.out.cc.mono ?_
          rintro e W2 ⟨rfl, k'⟩
          have K2 : Hid (TW S x E (⟨cr, ca, cz⟩ :: u) sc dn w W2) := k'
          have hx2 := k'.lt
          clear k'
          go_wp2_with fail
          refine (lower_any' cr _).mono ?_
          rintro e W3 ⟨rfl, b4⟩
          have K3 : Hid (TW S x E (⟨cr, ca, cz⟩ :: u) sc dn w W3) := K2.out.below b4
          have hx3 := K3.out.lt
          obtain ⟨ev, hev⟩ : ∃ ev, bs (enc (lowr cr)) = ev := ⟨_, rfl⟩
          have hez : ev.size ≤ 4 := by rw [← hev, bs_size]; exact enc_len _
          have HEV : Hid (bs (enc (lowr cr)) = ev) := hev
          rw [hev]
          clear b4 hev
          obtain ⟨e1, e2, e3, e4, _⟩ := K3.out.at
          obtain ⟨p3, hp3⟩ : ∃ p, pos E (⟨cr, ca, cz⟩ :: u) = p := ⟨_, rfl⟩
          have KB : Hid (TW S x E u sc dn w (W3.setCell ⟨x, 1, none⟩ (.int .i64 (p3 + 1)))) := by rw [← hp3]; exact K3.out.adv
          rw [hp3] at e1 e3 e4
          clear hp3
          go_wp2_with fail
          go_roundw
          case rel => exact ⟨q ++ enc (lowr cr), u, by rw [← bs_app, HV.out, HEV.out], HN.out.1, HN.out.2.1, HN.out.2.2.1, HN.out.2.2.2, KB.out⟩
          case measure => rw [KB.out.meas, HM.out]; omega
        · have HRR : Hid (r' = R ∧ q = Q) := by
            cases r' with
            | nil => exact ⟨by simpa using hR, by simpa [lows] using hq⟩
            | cons d u =>
              have hg : isL d = false := by
                cases hh : isL d with
                | false => rfl
                | true => exact absurd ⟨d, u, rfl, hh⟩ hl
              rw [List.takeWhile_cons, hg] at hq
              rw [List.dropWhile_cons, hg] at hR
              exact ⟨by simpa using hR, by simpa [lows] using hq⟩
          have hlv : ltr (hd r') = false := by
            cases r' with
            | nil => decide
            | cons d u =>
              cases hh : ltr d.r with
              | false => exact hh
              | true => exact absurd ⟨d, u, rfl, hh⟩ hl
          clear hl hk hq hR hsr hql hsv
          obtain ⟨dv, hdv⟩ : ∃ dv, hd r' = dv := ⟨_, rfl⟩
          have HDV : Hid (hd r' = dv) := hdv
          rw [hdv] at hlv
          obtain ⟨lv, hlvv⟩ : ∃ lv, sc.last = lv := ⟨_, rfl⟩
          have HLV : Hid (sc.last = lv) := hlvv
          have hsvq : sv.toList = q := by rw [← HV.out, ByteArray.toList_eq, bs_list]
          have HCQ : Hid ((if sv.toList ≠ [] ∧ sv.toList = lv.toList ∧ (blk dv = true ∨ dv = 47 ∨ dv = 62) then tagR E.N (c0 :: c :: t) 3 sc t else (toldR (c0 :: c :: t) r', sc, r')) = T) := by
            have h0 := HTT.out
            rw [← HRR.out.1, ← HRR.out.2, hdv, hlvv] at h0
            show _ = T
            rw [hsvq, ByteArray.toList_eq lv]
            exact h0
          have HR3 : Hid (r' <:+ c0 :: c :: t) := by
            show _ <:+ _
            rw [HRR.out.1]
            exact (HRt.out.trans HSU.out).trans (List.suffix_cons _ _)
          clear hdv hlvv hsvq HTT HQ
          by_cases hne : sv.toList = []
          · have n1 := (empty_is hne).1
            have n2 := (empty_is hne).2
            have HTE : Hid (T = (toldR (c0 :: c :: t) r', sc, r')) := by
              show T = _
              rw [← HCQ.out, if_neg (fun h => h.1 hne)]
            clear hne HCQ
            go_wp2_with fail
            refine K0.out.c.mono ?_
            rintro e W1 ⟨rfl, k'⟩
            have K1 : Hid (TW S x E r' sc dn w W1) := k'
            have hx1 := k'.lt
            clear k'
            rw [HDV.out]
            go_wp2_with fail
            refine (letter_any' dv _).mono ?_
            rintro e w0 ⟨rfl, hw0⟩
            rw [hw0]
            clear hw0
            go_wp2_with fail
            refine K1.out.c.mono ?_
            rintro e W2 ⟨rfl, k'⟩
            have K2 : Hid (TW S x E r' sc dn w W2) := k'
            have hx2 := k'.lt
            clear k'
            rw [HDV.out]
            have c4 : W2.cell? ⟨x, 4, none⟩ = some (.string lv) := by obtain ⟨fv, h1⟩ := K2.out.tm; rw [← HLV.out]; exact h1.cells 4 _ rfl
            have kcm := told_any K2.out.tm (F := c0 :: c :: t) HR3.out HFr.out.1
            rw [HPF.out] at kcm
            go_wp2_with fail
            refine kcm.mono ?_
            rintro e w9 h9
            have H9 : Hid (Tokd S x E T dn w e w9) := by
              show Tokd _ _ _ _ _ _ _ _
              rw [HTE.out]
              exact Tokd.from K2.out h9
            obtain ⟨ao, T9, cap, rfl, _⟩ := h9
            clear kcm
            go_wp2_with fail
            go_ret
            exact H9.out
          · have n1 := (empty_is_not hne).1
            have n2 := (empty_is_not hne).2
            by_cases heq : sv.toList = lv.toList
            · have n3 : (sv.toList == lv.toList) = true := by rw [heq]; exact beq_self_eq_true _
              by_cases hb : blk dv = true
              · have HTE : Hid (T = tagR E.N (c0 :: c :: t) 3 sc t) := by
                  show T = _
                  rw [← HCQ.out, if_pos ⟨hne, heq, .inl hb⟩]
                clear hne heq HCQ
                go_wp2_with fail
                refine K0.out.c.mono ?_
                rintro e W1 ⟨rfl, k'⟩
                have K1 : Hid (TW S x E r' sc dn w W1) := k'
                have hx1 := k'.lt
                clear k'
                rw [HDV.out]
                go_wp2_with fail
                refine (letter_any' dv _).mono ?_
                rintro e w0 ⟨rfl, hw0⟩
                rw [hw0]
                clear hw0
                go_wp2_with fail
                refine K1.out.c.mono ?_
                rintro e W2 ⟨rfl, k'⟩
                have K2 : Hid (TW S x E r' sc dn w W2) := k'
                have hx2 := k'.lt
                clear k'
                rw [HDV.out]
                have c4 : W2.cell? ⟨x, 4, none⟩ = some (.string lv) := by obtain ⟨fv, h1⟩ := K2.out.tm; rw [← HLV.out]; exact h1.cells 4 _ rfl
                go_wp2_with fail
                refine (G7.rblank_any dv _).mono ?_
                rintro e w0 ⟨rfl, hw0⟩
                rw [hw0]
                clear hw0
                obtain ⟨b1, b2, _, _, _⟩ := K2.out.at
                have KT : Hid (TW S x E t sc dn w (W2.setCell ⟨x, 1, none⟩ (.int .i64 (pF + 2)))) := K2.out.go (HSU.out.trans ((List.suffix_cons _ _).trans HFr.out.1)) (pF + 2) HP2.out
                have kcm := HD.out KT.out.tm HFr.out.1 HSU.out (suf_pos (List.suffix_cons _ _) HFr.out.2.2) (by have := HB.out; simp only [List.length_cons] at this; omega) 3 (.inr rfl)
                rw [HPF.out] at kcm
                go_wp2_with fail
                refine kcm.mono ?_
                rintro e w9 h9
                have H9 : Hid (Tokd S x E T dn w e w9) := by
                  show Tokd _ _ _ _ _ _ _ _
                  rw [HTE.out]
                  exact Tokd.from KT.out h9
                obtain ⟨ao, T9, cap, rfl, _⟩ := h9
                clear kcm
                go_wp2_with fail
                go_ret
                exact H9.out
              · have hb' : blk dv = false := by simpa using hb
                by_cases h7 : dv = 47
                · have g7 : (dv == 47) = true := by simp [h7]
                  have HTE : Hid (T = tagR E.N (c0 :: c :: t) 3 sc t) := by
                    show T = _
                    rw [← HCQ.out, if_pos ⟨hne, heq, .inr (.inl h7)⟩]
                  clear hne heq HCQ hb h7
                  go_wp2_with fail
                  refine K0.out.c.mono ?_
                  rintro e W1 ⟨rfl, k'⟩
                  have K1 : Hid (TW S x E r' sc dn w W1) := k'
                  have hx1 := k'.lt
                  clear k'
                  rw [HDV.out]
                  go_wp2_with fail
                  refine (letter_any' dv _).mono ?_
                  rintro e w0 ⟨rfl, hw0⟩
                  rw [hw0]
                  clear hw0
                  go_wp2_with fail
                  refine K1.out.c.mono ?_
                  rintro e W2 ⟨rfl, k'⟩
                  have K2 : Hid (TW S x E r' sc dn w W2) := k'
                  have hx2 := k'.lt
                  clear k'
                  rw [HDV.out]
                  have c4 : W2.cell? ⟨x, 4, none⟩ = some (.string lv) := by obtain ⟨fv, h1⟩ := K2.out.tm; rw [← HLV.out]; exact h1.cells 4 _ rfl
                  go_wp2_with fail
                  refine (G7.rblank_any dv _).mono ?_
                  rintro e w0 ⟨rfl, hw0⟩
                  rw [hw0]
                  clear hw0
                  obtain ⟨b1, b2, _, _, _⟩ := K2.out.at
                  have KT : Hid (TW S x E t sc dn w (W2.setCell ⟨x, 1, none⟩ (.int .i64 (pF + 2)))) := K2.out.go (HSU.out.trans ((List.suffix_cons _ _).trans HFr.out.1)) (pF + 2) HP2.out
                  have kcm := HD.out KT.out.tm HFr.out.1 HSU.out (suf_pos (List.suffix_cons _ _) HFr.out.2.2) (by have := HB.out; simp only [List.length_cons] at this; omega) 3 (.inr rfl)
                  rw [HPF.out] at kcm
                  go_wp2_with fail
                  refine kcm.mono ?_
                  rintro e w9 h9
                  have H9 : Hid (Tokd S x E T dn w e w9) := by
                    show Tokd _ _ _ _ _ _ _ _
                    rw [HTE.out]
                    exact Tokd.from KT.out h9
                  obtain ⟨ao, T9, cap, rfl, _⟩ := h9
                  clear kcm
                  go_wp2_with fail
                  go_ret
                  exact H9.out
                · have g7 : (dv == 47) = false := by simp [h7]
                  by_cases h2 : dv = 62
                  · have g2 : (dv == 62) = true := by simp [h2]
                    have HTE : Hid (T = tagR E.N (c0 :: c :: t) 3 sc t) := by
                      show T = _
                      rw [← HCQ.out, if_pos ⟨hne, heq, .inr (.inr h2)⟩]
                    clear hne heq HCQ hb h7 h2
                    go_wp2_with fail
                    refine K0.out.c.mono ?_
                    rintro e W1 ⟨rfl, k'⟩
                    have K1 : Hid (TW S x E r' sc dn w W1) := k'
                    have hx1 := k'.lt
                    clear k'
                    rw [HDV.out]
                    go_wp2_with fail
                    refine (letter_any' dv _).mono ?_
                    rintro e w0 ⟨rfl, hw0⟩
                    rw [hw0]
                    clear hw0
                    go_wp2_with fail
                    refine K1.out.c.mono ?_
                    rintro e W2 ⟨rfl, k'⟩
                    have K2 : Hid (TW S x E r' sc dn w W2) := k'
                    have hx2 := k'.lt
                    clear k'
                    rw [HDV.out]
                    have c4 : W2.cell? ⟨x, 4, none⟩ = some (.string lv) := by obtain ⟨fv, h1⟩ := K2.out.tm; rw [← HLV.out]; exact h1.cells 4 _ rfl
                    go_wp2_with fail
                    refine (G7.rblank_any dv _).mono ?_
                    rintro e w0 ⟨rfl, hw0⟩
                    rw [hw0]
                    clear hw0
                    obtain ⟨b1, b2, _, _, _⟩ := K2.out.at
                    have KT : Hid (TW S x E t sc dn w (W2.setCell ⟨x, 1, none⟩ (.int .i64 (pF + 2)))) := K2.out.go (HSU.out.trans ((List.suffix_cons _ _).trans HFr.out.1)) (pF + 2) HP2.out
                    have kcm := HD.out KT.out.tm HFr.out.1 HSU.out (suf_pos (List.suffix_cons _ _) HFr.out.2.2) (by have := HB.out; simp only [List.length_cons] at this; omega) 3 (.inr rfl)
                    rw [HPF.out] at kcm
                    go_wp2_with fail
                    refine kcm.mono ?_
                    rintro e w9 h9
                    have H9 : Hid (Tokd S x E T dn w e w9) := by
                      show Tokd _ _ _ _ _ _ _ _
                      rw [HTE.out]
                      exact Tokd.from KT.out h9
                    obtain ⟨ao, T9, cap, rfl, _⟩ := h9
                    clear kcm
                    go_wp2_with fail
                    go_ret
                    exact H9.out
                  · have g2 : (dv == 62) = false := by simp [h2]
                    have HTE : Hid (T = (toldR (c0 :: c :: t) r', sc, r')) := by
                      show T = _
                      rw [← HCQ.out, if_neg (fun h => h.2.2.elim hb fun h => h.elim h7 h2)]
                    clear hne heq HCQ hb h7 h2
                    go_wp2_with fail
                    refine K0.out.c.mono ?_
                    rintro e W1 ⟨rfl, k'⟩
                    have K1 : Hid (TW S x E r' sc dn w W1) := k'
                    have hx1 := k'.lt
                    clear k'
                    rw [HDV.out]
                    go_wp2_with fail
                    refine (letter_any' dv _).mono ?_
                    rintro e w0 ⟨rfl, hw0⟩
                    rw [hw0]
                    clear hw0
                    go_wp2_with fail
                    refine K1.out.c.mono ?_
                    rintro e W2 ⟨rfl, k'⟩
                    have K2 : Hid (TW S x E r' sc dn w W2) := k'
                    have hx2 := k'.lt
                    clear k'
                    rw [HDV.out]
                    have c4 : W2.cell? ⟨x, 4, none⟩ = some (.string lv) := by obtain ⟨fv, h1⟩ := K2.out.tm; rw [← HLV.out]; exact h1.cells 4 _ rfl
                    go_wp2_with fail
                    refine (G7.rblank_any dv _).mono ?_
                    rintro e w0 ⟨rfl, hw0⟩
                    rw [hw0]
                    clear hw0
                    have kcm := told_any K2.out.tm (F := c0 :: c :: t) HR3.out HFr.out.1
                    rw [HPF.out] at kcm
                    go_wp2_with fail
                    refine kcm.mono ?_
                    rintro e w9 h9
                    have H9 : Hid (Tokd S x E T dn w e w9) := by
                      show Tokd _ _ _ _ _ _ _ _
                      rw [HTE.out]
                      exact Tokd.from K2.out h9
                    obtain ⟨ao, T9, cap, rfl, _⟩ := h9
                    clear kcm
                    go_wp2_with fail
                    go_ret
                    exact H9.out
            · have n3 : (sv.toList == lv.toList) = false := beq_false_of_ne heq
              have HTE : Hid (T = (toldR (c0 :: c :: t) r', sc, r')) := by
                show T = _
                rw [← HCQ.out, if_neg (fun h => heq h.2.1)]
              clear hne heq HCQ
              go_wp2_with fail
              refine K0.out.c.mono ?_
              rintro e W1 ⟨rfl, k'⟩
              have K1 : Hid (TW S x E r' sc dn w W1) := k'
              have hx1 := k'.lt
              clear k'
              rw [HDV.out]
              go_wp2_with fail
              refine (letter_any' dv _).mono ?_
              rintro e w0 ⟨rfl, hw0⟩
              rw [hw0]
              clear hw0
              go_wp2_with fail
              refine K1.out.c.mono ?_
              rintro e W2 ⟨rfl, k'⟩
              have K2 : Hid (TW S x E r' sc dn w W2) := k'
              have hx2 := k'.lt
              clear k'
              rw [HDV.out]
              have c4 : W2.cell? ⟨x, 4, none⟩ = some (.string lv) := by obtain ⟨fv, h1⟩ := K2.out.tm; rw [← HLV.out]; exact h1.cells 4 _ rfl
              have kcm := told_any K2.out.tm (F := c0 :: c :: t) HR3.out HFr.out.1
              rw [HPF.out] at kcm
              go_wp2_with fail
              refine kcm.mono ?_
              rintro e w9 h9
              have H9 : Hid (Tokd S x E T dn w e w9) := by
                show Tokd _ _ _ _ _ _ _ _
                rw [HTE.out]
                exact Tokd.from K2.out h9
              obtain ⟨ao, T9, cap, rfl, _⟩ := h9
              clear kcm
              go_wp2_with fail
              go_ret
              exact H9.out
  · have g47 : (cv != 47) = true := by simp [h47]
    have HTT : Hid (T = (toldR (c0 :: r) r, sc, r)) := by
      show T = _
      rw [← HT.out]
      unfold rawR
      rw [hcv, if_neg h47]
    clear hcv h47
    go_enter Try.func39, Try.ntmps39
    go_wp2_with fail
    rw [HW0.out]
    go_wp2_with fail
    refine K0.out.c.mono ?_
    rintro e W1 ⟨rfl, k'⟩
    have K1 : Hid (TW S x E r sc dn w W1) := k'
    have hx1 := k'.lt
    clear k'
    rw [HCV.out]
    have kcm := told_any K1.out.tm (F := c0 :: r) (List.suffix_cons _ _) HFr.out.1
    rw [HPF.out] at kcm
    go_wp2_with fail
    refine kcm.mono ?_
    rintro e w9 h9
    have H9 : Hid (Tokd S x E T dn w e w9) := by
      show Tokd _ _ _ _ _ _ _ _
      rw [HTT.out]
      exact Tokd.from K1.out h9
    obtain ⟨ao, T9, cap, rfl, _⟩ := h9
    clear kcm
    go_wp2_with fail
    go_ret
    exact H9.out
end Go.Proofs.Ytkbakbacomidbaa
