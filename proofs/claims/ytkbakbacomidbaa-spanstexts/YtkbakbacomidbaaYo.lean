/- The scanner reads a doctype. -/
import Derived.Test.YtkbakbacomidbaaProg
import Derived.Below
import Derived.BigCall
import Derived.BigQuiet
import Derived.BigRegion
import Derived.Deep.DeepCutAuto
import Derived.Deep.LoopGhost
import Derived.Deep.QuietTactic
import Derived.Deep.RegionHeld3
import Derived.Deep.RegionLaw
import Derived.Deep.RegionWith
import Derived.Deep.Upon
import Derived.Laws.AppendOwn
import Derived.Laws.BytesArg
import Derived.Laws.EntriesVeiled
import Derived.Laws.IdiomStrings
import Derived.Laws.StructEq
import Derived.Lib.AppendStr
import Derived.Lib.RuneBytes
import Derived.Maps.AppendAt
import Derived.Maps.OwnSet
import Derived.OwnWalk
import Derived.ScopeJumps
import Derived.Shelf.Abstract
import Derived.Shelf.Small.Strs
import Derived.Shelf.Strings.Builder1
import Derived.Shelf.Strings.BuilderF
import Derived.Shelf.Strings.BuilderK
import Derived.Shelf.Strings.BuilderRune
import Derived.Shelf.Strings.Prefix
import Derived.StillTailTactics
import Derived.StringKeys
import Derived.WalkArith
import Derived.WalkKit
import Derived.WalkLawsBesides
import Derived.WalkMore
import Derived.WalkSpells
import Derived.Test.YtkbakbacomidbaaYg
import Derived.Test.YtkbakbacomidbaaYl
namespace Go.Proofs.Ytkbakbacomidbaa
open Go.RowKit
theorem isG_yes {r : List Ch} : tst isG r = true ↔ r ≠ [] ∧ hd r ≠ 62 := by
  cases r with
  | nil => simp [tst]
  | cons c t =>
    show isG c = true ↔ _
    unfold isG
    simp [hd]
set_option maxHeartbeats 4000000 in
set_option maxRecDepth 20000 in
theorem doc_any : DocAny := by
  intro S x E r sc dn w h c0 F hF hr hpos hB
  have k00 := TW.start h
  obtain ⟨hfew, hsuf, hlow⟩ := k00.facts
  obtain ⟨b, off, qo, hq, hqL, hLc, hL5, hrow⟩ := k00.row1 hF
  rw [hq]
  obtain ⟨R1, hR1⟩ : ∃ R1, skipB r = R1 := ⟨_, rfl⟩
  obtain ⟨f1, hf1⟩ : ∃ f1 : Bool × Fs, (if hd R1 = 62 then (true, sc.fs ++ [(17, frN E.N R1)]) else (false, sc.fs)) = f1 := ⟨_, rfl⟩
  obtain ⟨Q, hQ⟩ : ∃ Q, lows (R1.takeWhile dnC) = Q := ⟨_, rfl⟩
  obtain ⟨R9, hR9⟩ : ∃ R9, R1.dropWhile dnC = R9 := ⟨_, rfl⟩
  obtain ⟨R2, hR2⟩ : ∃ R2, skipB R9 = R2 := ⟨_, rfl⟩
  obtain ⟨f2, hf2⟩ : ∃ f2 : Bool × Fs, (if R2 ≠ [] ∧ hd R2 ≠ 62 then (true, f1.2 ++ [(17, frN E.N R2)]) else f1) = f2 := ⟨_, rfl⟩
  obtain ⟨R3, hR3⟩ : ∃ R3, R2.dropWhile isG = R3 := ⟨_, rfl⟩
  obtain ⟨f3, hf3⟩ : ∃ f3 : Bool × Fs, (if R3 = [] then (true, f2.2 ++ [(17, E.N)]) else f2) = f3 := ⟨_, rfl⟩
  obtain ⟨T, hT⟩ : ∃ T, docR E.N (c0 :: F) sc r = T := ⟨_, rfl⟩
  have hT2 : (docT (c0 :: F) Q f3.1 R3.tail, sc.fsd f3.2, R3.tail) = T := by
    rw [← hT]
    subst hR1 hf1 hQ hR9 hR2 hf2 hR3 hf3
    rfl
  rw [hT]
  have s1 : R1 <:+ r := by rw [← hR1]; exact skip_suf _
  have s9 : R9 <:+ R1 := by rw [← hR9]; exact List.dropWhile_suffix _
  have s2 : R2 <:+ R9 := by rw [← hR2]; exact skip_suf _
  have s3 : R3 <:+ R2 := by rw [← hR3]; exact List.dropWhile_suffix _
  obtain ⟨a, ha⟩ : ∃ a, c0.a = a := ⟨_, rfl⟩
  rw [ha] at hrow
  obtain ⟨z, hz⟩ : ∃ z, endZ E.L R3.tail = z := ⟨_, rfl⟩
  have hl3 : R3.tail.length ≤ F.length := Nat.le_trans (List.tail_suffix R3).length_le ((s3.trans (s2.trans (s9.trans (s1.trans hr)))).length_le)
  have hz2 : endZ (c0 :: F) R3.tail = z := by rw [endZ_suf hF (by simp only [List.length_cons]; omega)]; exact hz
  have hlt : R3.tail.length < E.L.length := by have h1 := hF.length_le; simp only [List.length_cons] at h1; omega
  have hR15 : R1.length ≤ 100000 := by have h1 := s1.length_le; have h2 := hsuf.length_le; omega
  have HPO1 : Hid (∀ d ∈ R1, 0 ≤ d.r) := suf_pos s1 hpos
  have HPO2 : Hid (∀ d ∈ R2, 0 ≤ d.r) := suf_pos (s2.trans (s9.trans s1)) hpos
  have HPO3 : Hid (∀ d ∈ R3, 0 ≤ d.r) := suf_pos (s3.trans (s2.trans (s9.trans s1))) hpos
  obtain ⟨b1, F1⟩ := f1
  obtain ⟨b2, F2⟩ := f2
  obtain ⟨b3, F3⟩ := f3
  clear s1 s2 s3 s9
  have HF1 : Hid ((if hd R1 = 62 then (true, sc.fs ++ [(17, frN E.N R1)]) else (false, sc.fs)) = (b1, F1)) := hf1
  have HF2 : Hid ((if R2 ≠ [] ∧ hd R2 ≠ 62 then (true, F1 ++ [(17, frN E.N R2)]) else (b1, F1)) = (b2, F2)) := hf2
  have HF3 : Hid ((if R3 = [] then (true, F2 ++ [(17, E.N)]) else (b2, F2)) = (b3, F3)) := hf3
  have l1 : F1.length ≤ sc.fs.length + 1 := by
    have h0 := hf1
    split at h0 <;> (simp only [Prod.mk.injEq] at h0; rw [← h0.2]; simp)
  have l2 : F2.length ≤ F1.length + 1 := by
    have h0 := hf2
    split at h0 <;> (simp only [Prod.mk.injEq] at h0; rw [← h0.2]; simp)
  have HBD : Hid ((sc.fs.length + 8 ≤ 1000000000 ∧ F1.length + 7 ≤ 1000000000 ∧ F2.length + 6 ≤ 1000000000) ∧ R1.length ≤ 100000) := ⟨⟨hB, by omega, by omega⟩, hR15⟩
  have HT : Hid ((docT (c0 :: F) Q b3 R3.tail, sc.fsd F3, R3.tail) = T) := hT2
  have HQ : Hid (([] : List UInt8) ++ lows (R1.takeWhile dnC) = Q ∧ R1.dropWhile dnC = R9) := ⟨hQ, hR9⟩
  have HR3 : Hid (R2.dropWhile isG = R3 ∧ skipB R9 = R2) := ⟨hR3, hR2⟩
  have HZ : Hid (endZ E.L R3.tail = z ∧ R3.tail.length < E.L.length) := ⟨hz, hlt⟩
  have HZ2 : Hid (endZ (c0 :: F) R3.tail = z ∧ c0.a = a) := ⟨hz2, ha⟩
  obtain ⟨L0, hL0⟩ : ∃ L0, E.L.length = L0 := ⟨_, rfl⟩
  rw [hL0] at hqL hLc hL5 hrow
  have HRW : Hid (∀ (S' : Nat → Prop) (r' : List Ch) (sc' : Sc) (dn' : Bool) (w' W' : World), TW S' x E r' sc' dn' w' W' → W'.cell? ⟨x, 0, none⟩ = some (.slice (some ⟨b, off, none⟩) L0 E.cap) ∧ W'.cell? ⟨b, off + qo * 3 + 1, none⟩ = some (.int .i64 a) ∧ b < W'.heap.size) := hrow
  obtain ⟨W0, hW0⟩ : ∃ W0, w.alloc (.cells (tkA 5 ⟨#[]⟩ (.slice none 0 0) false 0 0) 39) = W0 := ⟨_, rfl⟩
  have HW0 : Hid (w.alloc (.cells (tkA 5 ⟨#[]⟩ (.slice none 0 0) false 0 0) 39) = W0) := hW0
  have k0 : TY S x E r sc dn w w.heap.size (tkA 5 ⟨#[]⟩ (.slice none 0 0) false 0 0) 39 W0 := by
    rw [← hW0]
    exact TY.new k00 _ 39 (by decide) (by decide)
  have KI : Hid (TY S x E r sc dn w w.heap.size (tkA 5 ⟨#[]⟩ (.slice none 0 0) false 0 0) 39 W0) := k0
  have HSK : Hid (skipB r = R1) := hR1
  have hx0 := k0.tw.lt
  have hy0 := k0.lt
  have hne : w.heap.size ≠ x := k0.ne
  have hqi : (qo : Int) < (L0 : Int) := by omega
  clear h hF hr hpos hB k00 hfew hsuf hlow hq hrow hL0 ha hz hz2 hlt hl3 hT hT2 hR1 hf1 hf2 hf3 hQ hR9 hR2 hR3 l1 l2 hR15 hW0 k0
  go_enter Try.func62, Try.ntmps62
  go_wp2_with fail
  rw [HW0.out]
  clear HW0
  go_loopg [9] (r).length (fun g _ wr => ∃ r2 : List Ch, r2.length ≤ g ∧ skipB r2 = R1 ∧ TY S x E r2 sc dn w w.heap.size (tkA 5 ⟨#[]⟩ (.slice none 0 0) false 0 0) 39 wr)
  case atStart => exact ⟨_, Nat.le_refl _, HSK.out, KI.out⟩
  case round =>
    obtain ⟨r2, hgl, hr2, hk⟩ := hrel
    have K0 : Hid (TY S x E r2 sc dn w w.heap.size (tkA 5 ⟨#[]⟩ (.slice none 0 0) false 0 0) 39 wr) := hk
    have hxr := hk.tw.lt
    have hyr := hk.lt
    clear KI
    by_cases hb : ∃ c t, r2 = c :: t ∧ blk c.r = true
    · obtain ⟨⟨er, ea, ez⟩, t2, rfl, hb⟩ := hb
      have HNX : Hid (skipB t2 = R1 ∧ t2.length + 1 ≤ gk) := by
        rw [skipB_cons, if_pos hb] at hr2
        exact ⟨hr2, hgl⟩
      have hb' : blk er = true := hb
      clear hk hr2 hb hgl
      go_wp2_with fail
      refine K0.out.cc.mono ?_
      rintro e W1 ⟨rfl, k'⟩
      have K1 : Hid (TY S x E (⟨er, ea, ez⟩ :: t2) sc dn w w.heap.size (tkA 5 ⟨#[]⟩ (.slice none 0 0) false 0 0) 39 W1) := k'
      have hx1 := k'.tw.lt
      have hy1 := k'.lt
      clear k'
      go_wp2_with fail
      refine (G7.rblank_any er _).mono ?_
      rintro e w0 ⟨rfl, hw0⟩
      rw [hw0]
      clear hw0
      obtain ⟨c1, c2, c3, c4, _⟩ := K1.out.tw.at
      obtain ⟨pq, hpq⟩ : ∃ p, pos E (⟨er, ea, ez⟩ :: t2) = p := ⟨_, rfl⟩
      have KN : Hid (TY S x E t2 sc dn w w.heap.size (tkA 5 ⟨#[]⟩ (.slice none 0 0) false 0 0) 39 (W1.setCell ⟨x, 1, none⟩ (.int .i64 (pq + 1)))) := by
        show TY _ _ _ _ _ _ _ _ _ _ _
        rw [← hpq]
        exact K1.out.adv
      rw [hpq] at c1 c3 c4
      clear hpq
      go_wp2_with fail
      go_roundg (gk - 1)
      case measure => have := HNX.out.2; omega
      case rel => exact ⟨t2, by have := HNX.out.2; omega, HNX.out.1, KN.out⟩
    · have HRR : Hid (r2 = R1) := by
        show r2 = R1
        cases r2 with
        | nil => exact hr2
        | cons c t =>
          rw [skipB_cons, if_neg fun h => hb ⟨c, t, rfl, h⟩] at hr2
          exact hr2
      have hbv : blk (hd r2) = false := by
        cases r2 with
        | nil => decide
        | cons c t =>
          cases hbb : blk c.r with
          | false => exact hbb
          | true => exact absurd ⟨c, t, rfl, hbb⟩ hb
      clear hb hk hr2 hgl
      have HRE : Hid (r2 = R1) := HRR.out
      obtain ⟨cv, hcv⟩ : ∃ cv, hd r2 = cv := ⟨_, rfl⟩
      have HCV : Hid (hd r2 = cv) := hcv
      rw [hcv] at hbv
      clear hcv
      go_wp2_with fail
      refine K0.out.c.mono ?_
      rintro e W1 ⟨rfl, k'⟩
      have K1 : Hid (TY S x E r2 sc dn w w.heap.size (tkA 5 ⟨#[]⟩ (.slice none 0 0) false 0 0) 39 W1) := k'
      have hx1 := k'.tw.lt
      have hy1 := k'.lt
      clear k'
      rw [HCV.out]
      go_wp2_with fail
      refine (G7.rblank_any cv _).mono ?_
      rintro e w0 ⟨rfl, hw0⟩
      rw [hw0]
      clear hw0
      have KS : Hid (TY S x E R1 sc dn w w.heap.size (tkA 5 ⟨#[]⟩ (.slice none 0 0) false 0 0) 39 W1) := by
        show TY _ _ _ _ _ _ _ _ _ _ _
        rw [← HRE.out]
        exact K1.out
      have HCW : Hid (hd R1 = cv) := by
        show _ = _
        rw [← HRE.out]
        exact HCV.out
      clear K0 K1 HCV HRR
      go_wp2_with fail
      refine KS.out.c.mono ?_
      rintro e W2 ⟨rfl, k'⟩
      have K2 : Hid (TY S x E R1 sc dn w w.heap.size (tkA 5 ⟨#[]⟩ (.slice none 0 0) false 0 0) 39 W2) := k'
      have hx2 := k'.tw.lt
      have hy2 := k'.lt
      clear k'
      rw [HCW.out]
      go_upto_if 19 with fail
      go_cut [] (fun wc => TY S x E R1 (sc.fsd F1) dn w w.heap.size (tkA 5 ⟨#[]⟩ (.slice none 0 0) b1 0 0) 39 wc)
      case first =>
        by_cases h62 : cv = 62
        · have g62 : (cv == 62) = true := by simp [h62]
          have H3 : Hid (b1 = true ∧ F1 = sc.fs ++ [(17, frN E.N R1)]) := by
            have h0 := HF1.out
            rw [HCW.out, if_pos h62] at h0
            simp only [Prod.mk.injEq] at h0
            exact ⟨h0.1.symm, h0.2.symm⟩
          clear h62
          go_wp2_with fail
          refine K2.out.byteAt.mono ?_
          rintro e W3 ⟨rfl, k'⟩
          have K3 : Hid (TY S x E R1 sc dn w w.heap.size (tkA 5 ⟨#[]⟩ (.slice none 0 0) false 0 0) 39 W3) := k'
          have hx3 := k'.tw.lt
          have hy3 := k'.lt
          clear k'
          obtain ⟨fv, hfv⟩ : ∃ fv, frN E.N R1 = fv := ⟨_, rfl⟩
          rw [hfv]
          rw [hfv] at H3
          clear hfv
          go_wp2_with fail
          refine (K3.out.tfl 17 fv (by have := HBD.out; show sc.fs.length ≤ _; omega)).mono ?_
          rintro e W4 ⟨rfl, k'⟩
          have K4 : Hid (TY S x E R1 (sc.fsd (sc.fs ++ [(17, fv)])) dn w w.heap.size (tkA 5 ⟨#[]⟩ (.slice none 0 0) false 0 0) 39 W4) := k'
          have hx4 := k'.tw.lt
          have hy4 := k'.lt
          obtain ⟨s5, s6⟩ := k'.cell 5 rfl
          clear k'
          go_wp2_with fail
          go_meet
          case rel =>
            rw [H3.out.1, H3.out.2]
            exact K4.out.put 5 (.bool true) rfl
        · have g62 : (cv == 62) = false := by simp [h62]
          have H3 : Hid (b1 = false ∧ F1 = sc.fs) := by
            have h0 := HF1.out
            rw [HCW.out, if_neg h62] at h0
            simp only [Prod.mk.injEq] at h0
            exact ⟨h0.1.symm, h0.2.symm⟩
          clear h62
          go_wp2_with fail
          go_meet
          case rel =>
            rw [H3.out.1, H3.out.2]
            exact K2.out
      case rest =>
        clear KS K2
        have KD : Hid (TY S x E R1 (sc.fsd F1) dn w w.heap.size (tkA 5 ⟨#[]⟩ (.slice none 0 0) b1 0 0) 39 wc) := hcut
        have hxc := hcut.tw.lt
        have hyc := hcut.lt
        clear hcut
        go_wp2_with fail
        go_loopg [38] R1.length (fun g _ wr => ∃ (q : List UInt8) (r1 : List Ch), r1.length ≤ g ∧ q ++ lows (r1.takeWhile dnC) = Q ∧ r1.dropWhile dnC = R9 ∧ r1 <:+ R1 ∧ q.length + 4 * r1.length ≤ 4 * R1.length ∧ TY S x E r1 (sc.fsd F1) dn w w.heap.size (tkA 5 (bs q) (.slice none 0 0) b1 0 0) 39 wr)
        case atStart => exact ⟨[], R1, Nat.le_refl _, HQ.out.1, HQ.out.2, List.suffix_refl _, by simp, KD.out⟩
        case round =>
          obtain ⟨q, r1, hgl, hq1, hq2, hq3, hq4, hk⟩ := hrel
          have HNM : Hid (q ++ lows (r1.takeWhile dnC) = Q ∧ r1.dropWhile dnC = R9 ∧ r1 <:+ R1 ∧ q.length + 4 * r1.length ≤ 4 * R1.length ∧ r1.length ≤ gk) := ⟨hq1, hq2, hq3, hq4, hgl⟩
          have HPR : Hid (∀ d ∈ r1, 0 ≤ d.r) := suf_pos hq3 HPO1.out
          clear KD
          have K0 : Hid (TY S x E r1 (sc.fsd F1) dn w w.heap.size (tkA 5 (bs q) (.slice none 0 0) b1 0 0) 39 wr) := hk
          have hxr := hk.tw.lt
          have hyr := hk.lt
          clear hgl hq1 hq2 hq3 hq4 hk
          go_upto_region 7 with fail
          go_cut [38] (fun s wc => s = .bool (tst dnC r1) ∧ TY S x E r1 (sc.fsd F1) dn w w.heap.size (tkA 5 (bs q) (.slice none 0 0) b1 0 0) 39 wc)
          case first =>
            cases r1 with
            | nil =>
              have HTS : Hid (tst dnC [] = false) := rfl
              go_wp2_with fail
              refine K0.out.c0.mono ?_
              rintro e W1 ⟨rfl, k'⟩
              have K1 : Hid (TY S x E [] (sc.fsd F1) dn w w.heap.size (tkA 5 (bs q) (.slice none 0 0) b1 0 0) 39 W1) := k'
              have hx1 := k'.tw.lt
              have hy1 := k'.lt
              clear k'
              go_wp2_with fail
              go_meet
              case rel => exact ⟨by rw [HTS.out], K1.out⟩
            | cons d t1 =>
              obtain ⟨dr, da, dz⟩ := d
              have hd0 : 0 ≤ dr := HPR.out ⟨dr, da, dz⟩ (by simp)
              have gd0 : decide (dr ≥ 0) = true := decide_eq_true (by omega)
              clear hd0
              by_cases h62 : dr = 62
              · have g62 : (dr != 62) = false := by simp [h62]
                have HTS : Hid (tst dnC (⟨dr, da, dz⟩ :: t1) = false) := by
                  show dnC _ = _
                  unfold dnC
                  simp [h62]
                clear h62
                go_wp2_with fail
                refine K0.out.cc.mono ?_
                rintro e W1 ⟨rfl, k'⟩
                have K1 : Hid (TY S x E (⟨dr, da, dz⟩ :: t1) (sc.fsd F1) dn w w.heap.size (tkA 5 (bs q) (.slice none 0 0) b1 0 0) 39 W1) := k'
                have hx1 := k'.tw.lt
                have hy1 := k'.lt
                clear k'
                go_wp2_with fail
                refine K1.out.cc.mono ?_
                rintro e W2 ⟨rfl, k'⟩
                have K2 : Hid (TY S x E (⟨dr, da, dz⟩ :: t1) (sc.fsd F1) dn w w.heap.size (tkA 5 (bs q) (.slice none 0 0) b1 0 0) 39 W2) := k'
                have hx2 := k'.tw.lt
                have hy2 := k'.lt
                clear k'
                go_wp2_with fail
                go_meet
                case rel => exact ⟨by rw [HTS.out], K2.out⟩
              · have g62 : (dr != 62) = true := by simp [h62]
                by_cases hbk : blk dr = true
                · have HTS : Hid (tst dnC (⟨dr, da, dz⟩ :: t1) = false) := by
                    show dnC _ = _
                    unfold dnC
                    simp [hbk]
                  go_wp2_with fail
                  refine K0.out.cc.mono ?_
                  rintro e W1 ⟨rfl, k'⟩
                  have K1 : Hid (TY S x E (⟨dr, da, dz⟩ :: t1) (sc.fsd F1) dn w w.heap.size (tkA 5 (bs q) (.slice none 0 0) b1 0 0) 39 W1) := k'
                  have hx1 := k'.tw.lt
                  have hy1 := k'.lt
                  clear k'
                  go_wp2_with fail
                  refine K1.out.cc.mono ?_
                  rintro e W2 ⟨rfl, k'⟩
                  have K2 : Hid (TY S x E (⟨dr, da, dz⟩ :: t1) (sc.fsd F1) dn w w.heap.size (tkA 5 (bs q) (.slice none 0 0) b1 0 0) 39 W2) := k'
                  have hx2 := k'.tw.lt
                  have hy2 := k'.lt
                  clear k'
                  go_wp2_with fail
                  refine K2.out.cc.mono ?_
                  rintro e W3 ⟨rfl, k'⟩
                  have K3 : Hid (TY S x E (⟨dr, da, dz⟩ :: t1) (sc.fsd F1) dn w w.heap.size (tkA 5 (bs q) (.slice none 0 0) b1 0 0) 39 W3) := k'
                  have hx3 := k'.tw.lt
                  have hy3 := k'.lt
                  clear k'
                  go_wp2_with fail
                  refine (G7.rblank_any dr _).mono ?_
                  rintro e w0 ⟨rfl, hw0⟩
                  rw [hw0]
                  clear hw0
                  go_wp2_with fail
                  go_meet
                  case rel => exact ⟨by rw [HTS.out], K3.out⟩
                · have hbk' : blk dr = false := by simpa using hbk
                  have HTS : Hid (tst dnC (⟨dr, da, dz⟩ :: t1) = true) := by
                    show dnC _ = _
                    unfold dnC
                    simp [h62, hbk']
                  go_wp2_with fail
                  refine K0.out.cc.mono ?_
                  rintro e W1 ⟨rfl, k'⟩
                  have K1 : Hid (TY S x E (⟨dr, da, dz⟩ :: t1) (sc.fsd F1) dn w w.heap.size (tkA 5 (bs q) (.slice none 0 0) b1 0 0) 39 W1) := k'
                  have hx1 := k'.tw.lt
                  have hy1 := k'.lt
                  clear k'
                  go_wp2_with fail
                  refine K1.out.cc.mono ?_
                  rintro e W2 ⟨rfl, k'⟩
                  have K2 : Hid (TY S x E (⟨dr, da, dz⟩ :: t1) (sc.fsd F1) dn w w.heap.size (tkA 5 (bs q) (.slice none 0 0) b1 0 0) 39 W2) := k'
                  have hx2 := k'.tw.lt
                  have hy2 := k'.lt
                  clear k'
                  go_wp2_with fail
                  refine K2.out.cc.mono ?_
                  rintro e W3 ⟨rfl, k'⟩
                  have K3 : Hid (TY S x E (⟨dr, da, dz⟩ :: t1) (sc.fsd F1) dn w w.heap.size (tkA 5 (bs q) (.slice none 0 0) b1 0 0) 39 W3) := k'
                  have hx3 := k'.tw.lt
                  have hy3 := k'.lt
                  clear k'
                  go_wp2_with fail
                  refine (G7.rblank_any dr _).mono ?_
                  rintro e w0 ⟨rfl, hw0⟩
                  rw [hw0]
                  clear hw0
                  go_wp2_with fail
                  go_meet
                  case rel => exact ⟨by rw [HTS.out], K3.out⟩
          case rest =>
            obtain ⟨hu, k0⟩ := hcut
            clear K0
            have K0 : Hid (TY S x E r1 (sc.fsd F1) dn w w.heap.size (tkA 5 (bs q) (.slice none 0 0) b1 0 0) 39 wc) := k0
            have hxc := k0.tw.lt
            have hyc := k0.lt
            clear k0
            obtain ⟨nv, hnv⟩ : ∃ nv, bs q = nv := ⟨_, rfl⟩
            have hnz : nv.size ≤ 400005 := by
              have h1 := HNM.out.2.2.2.1
              have h2 := HBD.out.2
              rw [← hnv, bs_size]
              omega
            have HNV : Hid (bs q = nv) := hnv
            rw [hnv] at K0
            clear hnv
            cases ht : tst dnC r1 with
            | true =>
              rw [ht] at hu
              subst hu
              obtain ⟨⟨dr, da, dz⟩, t1, rfl, hdc, e1, e2⟩ := tst_yes ht
              have HST : Hid ((q ++ enc (lowr dr)) ++ lows (t1.takeWhile dnC) = Q ∧ t1.length + 1 ≤ gk ∧ t1.dropWhile dnC = R9 ∧ t1 <:+ R1 ∧ (q ++ enc (lowr dr)).length + 4 * t1.length ≤ 4 * R1.length) := by
                obtain ⟨h1, h2, h3, h4, h5⟩ := HNM.out
                rw [e1] at h1
                rw [e2] at h2
                refine ⟨?_, h5, h2, (List.suffix_cons _ _).trans h3, ?_⟩
                · rw [← h1]
                  simp [lows]
                · have := enc_len (lowr dr)
                  simp only [List.length_append, List.length_cons] at h4 ⊢
                  omega
              clear ht hdc e1 e2
              obtain ⟨b0, f0⟩ := K0.out.cell 2 rfl
              go_upto_region 8 with fail
              go_cut [] (fun wc => TY S x E (⟨dr, da, dz⟩ :: t1) (sc.fsd F1) dn w w.heap.size (tkA 5 (bs (q ++ enc (lowr dr))) (.slice none 0 0) b1 0 0) 39 wc)
              case first =>
                have hev : (bs (enc (lowr dr))).size ≤ 4 := by rw [bs_size]; exact enc_len _
                obtain ⟨ev, hev2⟩ : ∃ ev, bs (enc (lowr dr)) = ev := ⟨_, rfl⟩
                have HEV : Hid (bs (enc (lowr dr)) = ev) := hev2
                rw [hev2] at hev
                clear hev2
                go_region_with (first
                  | (go_at_call 32; refine ((K0.out.below ((Below.refl _ _).drew)).cc).mono ?_; rintro e wa ⟨rfl, ka⟩; have KA : Hid (TY S x E (⟨dr, da, dz⟩ :: t1) (sc.fsd F1) dn w w.heap.size (tkA 5 nv (.slice none 0 0) b1 0 0) 39 wa) := ka; obtain ⟨ba, fa⟩ := ka.cell 2 rfl; have hxa := ka.tw.lt; have hya := ka.lt; clear ka)
                  | (go_at_call 50; refine (KA.out.lower dr).mono ?_; rintro e wb ⟨rfl, kb⟩; rw [HEV.out]; have KB : Hid (TY S x E (⟨dr, da, dz⟩ :: t1) (sc.fsd F1) dn w w.heap.size (tkA 5 nv (.slice none 0 0) b1 0 0) 39 wb) := kb; obtain ⟨bb, fb⟩ := kb.cell 2 rfl; have hxb := kb.tw.lt; have hyb := kb.lt; clear kb))
                all_goals
                  go_wp2_with fail
                  go_meet
                  case rel =>
                    rw [show bs (q ++ enc (lowr dr)) = nv ++ ev by rw [← bs_app, HNV.out, HEV.out]]
                    exact KB.out.put 2 (.string (nv ++ ev)) rfl
              case rest =>
                have KC : Hid (TY S x E (⟨dr, da, dz⟩ :: t1) (sc.fsd F1) dn w w.heap.size (tkA 5 (bs (q ++ enc (lowr dr))) (.slice none 0 0) b1 0 0) 39 wc) := hcut
                have hxd := hcut.tw.lt
                have hyd := hcut.lt
                obtain ⟨a1, a2, a3, a4, _⟩ := hcut.tw.at
                obtain ⟨pq, hpq⟩ : ∃ p, pos E (⟨dr, da, dz⟩ :: t1) = p := ⟨_, rfl⟩
                have KN : Hid (TY S x E t1 (sc.fsd F1) dn w w.heap.size (tkA 5 (bs (q ++ enc (lowr dr))) (.slice none 0 0) b1 0 0) 39 (wc.setCell ⟨x, 1, none⟩ (.int .i64 (pq + 1)))) := by
                  show TY _ _ _ _ _ _ _ _ _ _ _
                  rw [← hpq]
                  exact hcut.adv
                rw [hpq] at a1 a3 a4
                clear hcut hpq
                go_wp2_with fail
                go_roundg (gk - 1)
                case measure => have := HST.out.2.1; omega
                case rel => exact ⟨q ++ enc (lowr dr), t1, by have := HST.out.2.1; omega, HST.out.1, HST.out.2.2.1, HST.out.2.2.2.1, HST.out.2.2.2.2, KN.out⟩
            | false =>
              rw [ht] at hu
              subst hu
              have HNS : Hid (q = Q ∧ r1 = R9) := by
                obtain ⟨h1, h2, _⟩ := HNM.out
                obtain ⟨e1, e2⟩ := tst_no ht
                rw [e1] at h1
                rw [e2] at h2
                simp [lows] at h1
                exact ⟨h1, h2⟩
              clear ht HNM
              have HTT : Hid (T.1 = [(⟨5, 0, nv, ⟨#[]⟩, [], b3, a, z⟩ : Pt)] ∧ T.2 = (sc.fsd F3, R3.tail)) := by
                have h0 := HT.out
                rw [← h0, ← HNS.out.1]
                unfold docT
                rw [HZ2.out.1, HNV.out]
                show ([(⟨5, 0, nv, ByteArray.empty, [], b3, c0.a, z⟩ : Pt)] = _) ∧ _
                rw [HZ2.out.2]
                exact ⟨rfl, rfl⟩
              have KB : Hid (TY S x E R9 (sc.fsd F1) dn w w.heap.size (tkA 5 nv (.slice none 0 0) b1 0 0) 39 wc) := by
                show TY _ _ _ _ _ _ _ _ _ _ _
                rw [← HNS.out.2]
                exact K0.out
              clear K0
              go_wp2_with fail
              go_loopg [55] (R9).length (fun g _ wr => ∃ r2 : List Ch, r2.length ≤ g ∧ skipB r2 = R2 ∧ TY S x E r2 (sc.fsd F1) dn w w.heap.size (tkA 5 nv (.slice none 0 0) b1 0 0) 39 wr)
              case atStart => exact ⟨_, Nat.le_refl _, HR3.out.2, KB.out⟩
              case round =>
                obtain ⟨r2, hgl, hr2, hk⟩ := hrel
                have K0 : Hid (TY S x E r2 (sc.fsd F1) dn w w.heap.size (tkA 5 nv (.slice none 0 0) b1 0 0) 39 wr) := hk
                have hxr := hk.tw.lt
                have hyr := hk.lt
                clear KB
                by_cases hb : ∃ c t, r2 = c :: t ∧ blk c.r = true
                · obtain ⟨⟨er, ea, ez⟩, t2, rfl, hb⟩ := hb
                  have HNX : Hid (skipB t2 = R2 ∧ t2.length + 1 ≤ gk) := by
                    rw [skipB_cons, if_pos hb] at hr2
                    exact ⟨hr2, hgl⟩
                  have hb' : blk er = true := hb
                  clear hk hr2 hb hgl
                  go_wp2_with fail
                  refine K0.out.cc.mono ?_
                  rintro e W1 ⟨rfl, k'⟩
                  have K1 : Hid (TY S x E (⟨er, ea, ez⟩ :: t2) (sc.fsd F1) dn w w.heap.size (tkA 5 nv (.slice none 0 0) b1 0 0) 39 W1) := k'
                  have hx1 := k'.tw.lt
                  have hy1 := k'.lt
                  clear k'
                  go_wp2_with fail
                  refine (G7.rblank_any er _).mono ?_
                  rintro e w0 ⟨rfl, hw0⟩
                  rw [hw0]
                  clear hw0
                  obtain ⟨c1, c2, c3, c4, _⟩ := K1.out.tw.at
                  obtain ⟨pq, hpq⟩ : ∃ p, pos E (⟨er, ea, ez⟩ :: t2) = p := ⟨_, rfl⟩
                  have KN : Hid (TY S x E t2 (sc.fsd F1) dn w w.heap.size (tkA 5 nv (.slice none 0 0) b1 0 0) 39 (W1.setCell ⟨x, 1, none⟩ (.int .i64 (pq + 1)))) := by
                    show TY _ _ _ _ _ _ _ _ _ _ _
                    rw [← hpq]
                    exact K1.out.adv
                  rw [hpq] at c1 c3 c4
                  clear hpq
                  go_wp2_with fail
                  go_roundg (gk - 1)
                  case measure => have := HNX.out.2; omega
                  case rel => exact ⟨t2, by have := HNX.out.2; omega, HNX.out.1, KN.out⟩
                · have HRR : Hid (r2 = R2) := by
                    show r2 = R2
                    cases r2 with
                    | nil => exact hr2
                    | cons c t =>
                      rw [skipB_cons, if_neg fun h => hb ⟨c, t, rfl, h⟩] at hr2
                      exact hr2
                  have hbv : blk (hd r2) = false := by
                    cases r2 with
                    | nil => decide
                    | cons c t =>
                      cases hbb : blk c.r with
                      | false => exact hbb
                      | true => exact absurd ⟨c, t, rfl, hbb⟩ hb
                  clear hb hk hr2 hgl
                  have HRE : Hid (r2 = R2) := HRR.out
                  obtain ⟨cv, hcv⟩ : ∃ cv, hd r2 = cv := ⟨_, rfl⟩
                  have HCV : Hid (hd r2 = cv) := hcv
                  rw [hcv] at hbv
                  clear hcv
                  go_wp2_with fail
                  refine K0.out.c.mono ?_
                  rintro e W1 ⟨rfl, k'⟩
                  have K1 : Hid (TY S x E r2 (sc.fsd F1) dn w w.heap.size (tkA 5 nv (.slice none 0 0) b1 0 0) 39 W1) := k'
                  have hx1 := k'.tw.lt
                  have hy1 := k'.lt
                  clear k'
                  rw [HCV.out]
                  go_wp2_with fail
                  refine (G7.rblank_any cv _).mono ?_
                  rintro e w0 ⟨rfl, hw0⟩
                  rw [hw0]
                  clear hw0
                  have KS : Hid (TY S x E R2 (sc.fsd F1) dn w w.heap.size (tkA 5 nv (.slice none 0 0) b1 0 0) 39 W1) := by
                    show TY _ _ _ _ _ _ _ _ _ _ _
                    rw [← HRE.out]
                    exact K1.out
                  have HCW : Hid (hd R2 = cv) := by
                    show _ = _
                    rw [← HRE.out]
                    exact HCV.out
                  clear K0 K1 HCV HRR
                  go_upto_region 12 with fail
                  go_cut [70] (fun s wc => s = .bool (tst isG R2) ∧ TY S x E R2 (sc.fsd F1) dn w w.heap.size (tkA 5 nv (.slice none 0 0) b1 0 0) 39 wc)
                  case first =>
                    have HPR : Hid (∀ d ∈ R2, 0 ≤ d.r) := HPO2.out
                    have K0 : Hid (TY S x E R2 (sc.fsd F1) dn w w.heap.size (tkA 5 nv (.slice none 0 0) b1 0 0) 39 W1) := KS.out
                    clear KS HPO2 HF2 HR3 HRE HCW
                    cases R2 with
                    | nil =>
                      have HTS : Hid (tst isG [] = false) := rfl
                      go_wp2_with fail
                      refine K0.out.c0.mono ?_
                      rintro e W1 ⟨rfl, k'⟩
                      have K1 : Hid (TY S x E [] (sc.fsd F1) dn w w.heap.size (tkA 5 nv (.slice none 0 0) b1 0 0) 39 W1) := k'
                      have hx1 := k'.tw.lt
                      have hy1 := k'.lt
                      clear k'
                      go_wp2_with fail
                      go_meet
                      case rel => exact ⟨by rw [HTS.out], K1.out⟩
                    | cons d t1 =>
                      obtain ⟨dr, da, dz⟩ := d
                      have hd0 : 0 ≤ dr := HPR.out ⟨dr, da, dz⟩ (by simp)
                      have gd0 : decide (dr ≥ 0) = true := decide_eq_true (by omega)
                      clear hd0
                      by_cases h62 : dr = 62
                      · have g62 : (dr != 62) = false := by simp [h62]
                        have HTS : Hid (tst isG (⟨dr, da, dz⟩ :: t1) = false) := by
                          show isG _ = _
                          unfold isG
                          simp [h62]
                        clear h62
                        go_wp2_with fail
                        refine K0.out.cc.mono ?_
                        rintro e W1 ⟨rfl, k'⟩
                        have K1 : Hid (TY S x E (⟨dr, da, dz⟩ :: t1) (sc.fsd F1) dn w w.heap.size (tkA 5 nv (.slice none 0 0) b1 0 0) 39 W1) := k'
                        have hx1 := k'.tw.lt
                        have hy1 := k'.lt
                        clear k'
                        go_wp2_with fail
                        refine K1.out.cc.mono ?_
                        rintro e W2 ⟨rfl, k'⟩
                        have K2 : Hid (TY S x E (⟨dr, da, dz⟩ :: t1) (sc.fsd F1) dn w w.heap.size (tkA 5 nv (.slice none 0 0) b1 0 0) 39 W2) := k'
                        have hx2 := k'.tw.lt
                        have hy2 := k'.lt
                        clear k'
                        go_wp2_with fail
                        go_meet
                        case rel => exact ⟨by rw [HTS.out], K2.out⟩
                      · have g62 : (dr != 62) = true := by simp [h62]
                        have HTS : Hid (tst isG (⟨dr, da, dz⟩ :: t1) = true) := by
                          show isG _ = _
                          unfold isG
                          simp [h62]
                        clear h62
                        go_wp2_with fail
                        refine K0.out.cc.mono ?_
                        rintro e W1 ⟨rfl, k'⟩
                        have K1 : Hid (TY S x E (⟨dr, da, dz⟩ :: t1) (sc.fsd F1) dn w w.heap.size (tkA 5 nv (.slice none 0 0) b1 0 0) 39 W1) := k'
                        have hx1 := k'.tw.lt
                        have hy1 := k'.lt
                        clear k'
                        go_wp2_with fail
                        refine K1.out.cc.mono ?_
                        rintro e W2 ⟨rfl, k'⟩
                        have K2 : Hid (TY S x E (⟨dr, da, dz⟩ :: t1) (sc.fsd F1) dn w w.heap.size (tkA 5 nv (.slice none 0 0) b1 0 0) 39 W2) := k'
                        have hx2 := k'.tw.lt
                        have hy2 := k'.lt
                        clear k'
                        go_wp2_with fail
                        go_meet
                        case rel => exact ⟨by rw [HTS.out], K2.out⟩
                  case rest =>
                    obtain ⟨hu, k0⟩ := hcut
                    have K0 : Hid (TY S x E R2 (sc.fsd F1) dn w w.heap.size (tkA 5 nv (.slice none 0 0) b1 0 0) 39 wc) := k0
                    have hxc := k0.tw.lt
                    have hyc := k0.lt
                    clear k0 KS
                    obtain ⟨tb, htb⟩ : ∃ tb, tst isG R2 = tb := ⟨_, rfl⟩
                    have HTB : Hid (tst isG R2 = tb) := htb
                    rw [htb] at hu
                    subst hu
                    clear htb
                    go_upto_if 70 with fail
                    go_cut [] (fun wc => TY S x E R2 (sc.fsd F2) dn w w.heap.size (tkA 5 nv (.slice none 0 0) b2 0 0) 39 wc)
                    case first =>
                      cases tb with
                      | true =>
                        have hy62 := isG_yes.1 HTB.out
                        have H3 : Hid (b2 = true ∧ F2 = F1 ++ [(17, frN E.N R2)]) := by
                          have h0 := HF2.out
                          rw [if_pos hy62] at h0
                          simp only [Prod.mk.injEq] at h0
                          exact ⟨h0.1.symm, h0.2.symm⟩
                        clear hy62
                        go_wp2_with fail
                        refine K0.out.byteAt.mono ?_
                        rintro e W1 ⟨rfl, k'⟩
                        have K1 : Hid (TY S x E R2 (sc.fsd F1) dn w w.heap.size (tkA 5 nv (.slice none 0 0) b1 0 0) 39 W1) := k'
                        have hx1 := k'.tw.lt
                        have hy1 := k'.lt
                        clear k'
                        obtain ⟨fv, hfv⟩ : ∃ fv, frN E.N R2 = fv := ⟨_, rfl⟩
                        rw [hfv]
                        rw [hfv] at H3
                        clear hfv
                        go_wp2_with fail
                        refine (K1.out.tfl 17 fv (by have := HBD.out; show F1.length ≤ _; omega)).mono ?_
                        rintro e W2 ⟨rfl, k'⟩
                        have K2 : Hid (TY S x E R2 (sc.fsd (F1 ++ [(17, fv)])) dn w w.heap.size (tkA 5 nv (.slice none 0 0) b1 0 0) 39 W2) := k'
                        have hx2 := k'.tw.lt
                        have hy2 := k'.lt
                        obtain ⟨s5, s6⟩ := k'.cell 5 rfl
                        clear k'
                        go_wp2_with fail
                        go_meet
                        case rel =>
                          rw [H3.out.1, H3.out.2]
                          exact K2.out.put 5 (.bool true) rfl
                      | false =>
                        have hy62 : ¬ (R2 ≠ [] ∧ hd R2 ≠ 62) := fun h => by
                          have h1 := isG_yes.2 h
                          rw [HTB.out] at h1
                          cases h1
                        have H3 : Hid (b2 = b1 ∧ F2 = F1) := by
                          have h0 := HF2.out
                          rw [if_neg hy62] at h0
                          simp only [Prod.mk.injEq] at h0
                          exact ⟨h0.1.symm, h0.2.symm⟩
                        clear hy62
                        go_wp2_with fail
                        go_meet
                        case rel =>
                          rw [H3.out.1, H3.out.2]
                          exact K0.out
                    case rest =>
                      clear K0
                      have KD : Hid (TY S x E R2 (sc.fsd F2) dn w w.heap.size (tkA 5 nv (.slice none 0 0) b2 0 0) 39 wc) := hcut
                      have hxc := hcut.tw.lt
                      have hyc := hcut.lt
                      clear hcut
                      go_wp2_with fail
                      go_loopg [83] R2.length (fun g _ wr => ∃ r4 : List Ch, r4.length ≤ g ∧ r4.dropWhile isG = R3 ∧ r4 <:+ R2 ∧ TY S x E r4 (sc.fsd F2) dn w w.heap.size (tkA 5 nv (.slice none 0 0) b2 0 0) 39 wr)
                      case atStart => exact ⟨_, Nat.le_refl _, HR3.out.1, List.suffix_refl _, KD.out⟩
                      case round =>
                        obtain ⟨r4, hgl, hr4, hs4, hk⟩ := hrel
                        have H4 : Hid (r4.length ≤ gk ∧ r4.dropWhile isG = R3 ∧ r4 <:+ R2) := ⟨hgl, hr4, hs4⟩
                        have HPR : Hid (∀ d ∈ r4, 0 ≤ d.r) := suf_pos hs4 HPO2.out
                        have K0 : Hid (TY S x E r4 (sc.fsd F2) dn w w.heap.size (tkA 5 nv (.slice none 0 0) b2 0 0) 39 wr) := hk
                        have hxr := hk.tw.lt
                        have hyr := hk.lt
                        clear KD hgl hr4 hs4 hk
                        go_upto_region 15 with fail
                        go_cut [83] (fun s wc => s = .bool (tst isG r4) ∧ TY S x E r4 (sc.fsd F2) dn w w.heap.size (tkA 5 nv (.slice none 0 0) b2 0 0) 39 wc)
                        case first =>
                          cases r4 with
                          | nil =>
                            have HTS : Hid (tst isG [] = false) := rfl
                            go_wp2_with fail
                            refine K0.out.c0.mono ?_
                            rintro e W1 ⟨rfl, k'⟩
                            have K1 : Hid (TY S x E [] (sc.fsd F2) dn w w.heap.size (tkA 5 nv (.slice none 0 0) b2 0 0) 39 W1) := k'
                            have hx1 := k'.tw.lt
                            have hy1 := k'.lt
                            clear k'
                            go_wp2_with fail
                            go_meet
                            case rel => exact ⟨by rw [HTS.out], K1.out⟩
                          | cons d t1 =>
                            obtain ⟨dr, da, dz⟩ := d
                            have hd0 : 0 ≤ dr := HPR.out ⟨dr, da, dz⟩ (by simp)
                            have gd0 : decide (dr ≥ 0) = true := decide_eq_true (by omega)
                            clear hd0
                            by_cases h62 : dr = 62
                            · have g62 : (dr != 62) = false := by simp [h62]
                              have HTS : Hid (tst isG (⟨dr, da, dz⟩ :: t1) = false) := by
                                show isG _ = _
                                unfold isG
                                simp [h62]
                              clear h62
                              go_wp2_with fail
                              refine K0.out.cc.mono ?_
                              rintro e W1 ⟨rfl, k'⟩
                              have K1 : Hid (TY S x E (⟨dr, da, dz⟩ :: t1) (sc.fsd F2) dn w w.heap.size (tkA 5 nv (.slice none 0 0) b2 0 0) 39 W1) := k'
                              have hx1 := k'.tw.lt
                              have hy1 := k'.lt
                              clear k'
                              go_wp2_with fail
                              refine K1.out.cc.mono ?_
                              rintro e W2 ⟨rfl, k'⟩
                              have K2 : Hid (TY S x E (⟨dr, da, dz⟩ :: t1) (sc.fsd F2) dn w w.heap.size (tkA 5 nv (.slice none 0 0) b2 0 0) 39 W2) := k'
                              have hx2 := k'.tw.lt
                              have hy2 := k'.lt
                              clear k'
                              go_wp2_with fail
                              go_meet
                              case rel => exact ⟨by rw [HTS.out], K2.out⟩
                            · have g62 : (dr != 62) = true := by simp [h62]
                              have HTS : Hid (tst isG (⟨dr, da, dz⟩ :: t1) = true) := by
                                show isG _ = _
                                unfold isG
                                simp [h62]
                              clear h62
                              go_wp2_with fail
                              refine K0.out.cc.mono ?_
                              rintro e W1 ⟨rfl, k'⟩
                              have K1 : Hid (TY S x E (⟨dr, da, dz⟩ :: t1) (sc.fsd F2) dn w w.heap.size (tkA 5 nv (.slice none 0 0) b2 0 0) 39 W1) := k'
                              have hx1 := k'.tw.lt
                              have hy1 := k'.lt
                              clear k'
                              go_wp2_with fail
                              refine K1.out.cc.mono ?_
                              rintro e W2 ⟨rfl, k'⟩
                              have K2 : Hid (TY S x E (⟨dr, da, dz⟩ :: t1) (sc.fsd F2) dn w w.heap.size (tkA 5 nv (.slice none 0 0) b2 0 0) 39 W2) := k'
                              have hx2 := k'.tw.lt
                              have hy2 := k'.lt
                              clear k'
                              go_wp2_with fail
                              go_meet
                              case rel => exact ⟨by rw [HTS.out], K2.out⟩
                        case rest =>
                          obtain ⟨hu, k0⟩ := hcut
                          clear K0
                          have K0 : Hid (TY S x E r4 (sc.fsd F2) dn w w.heap.size (tkA 5 nv (.slice none 0 0) b2 0 0) 39 wc) := k0
                          have hxc := k0.tw.lt
                          have hyc := k0.lt
                          clear k0
                          cases ht : tst isG r4 with
                          | true =>
                            rw [ht] at hu
                            subst hu
                            obtain ⟨⟨dr, da, dz⟩, t1, rfl, _, _, e2⟩ := tst_yes ht
                            have HST : Hid (t1.length + 1 ≤ gk ∧ t1.dropWhile isG = R3 ∧ t1 <:+ R2) := by
                              obtain ⟨h1, h2, h3⟩ := H4.out
                              rw [e2] at h2
                              exact ⟨h1, h2, (List.suffix_cons _ _).trans h3⟩
                            clear ht e2
                            obtain ⟨c1, c2, c3, c4, _⟩ := K0.out.tw.at
                            obtain ⟨pq, hpq⟩ : ∃ p, pos E (⟨dr, da, dz⟩ :: t1) = p := ⟨_, rfl⟩
                            have KN : Hid (TY S x E t1 (sc.fsd F2) dn w w.heap.size (tkA 5 nv (.slice none 0 0) b2 0 0) 39 (wc.setCell ⟨x, 1, none⟩ (.int .i64 (pq + 1)))) := by
                              show TY _ _ _ _ _ _ _ _ _ _ _
                              rw [← hpq]
                              exact K0.out.adv
                            rw [hpq] at c1 c3 c4
                            clear hpq
                            go_wp2_with fail
                            go_roundg (gk - 1)
                            case measure => have := HST.out.1; omega
                            case rel => exact ⟨t1, by have := HST.out.1; omega, HST.out.2.1, HST.out.2.2, KN.out⟩
                          | false =>
                            rw [ht] at hu
                            subst hu
                            have HRE : Hid (r4 = R3) := by
                              have h2 := H4.out.2.1
                              rw [(tst_no ht).2] at h2
                              exact h2
                            clear ht
                            obtain ⟨cv, hcv⟩ : ∃ cv, hd r4 = cv := ⟨_, rfl⟩
                            have HCV : Hid (hd r4 = cv) := hcv
                            clear hcv
                            go_wp2_with fail
                            refine K0.out.c.mono ?_
                            rintro e W1 ⟨rfl, k'⟩
                            have K1 : Hid (TY S x E r4 (sc.fsd F2) dn w w.heap.size (tkA 5 nv (.slice none 0 0) b2 0 0) 39 W1) := k'
                            have hx1 := k'.tw.lt
                            have hy1 := k'.lt
                            clear k'
                            rw [HCV.out]
                            go_upto_if 93 with fail
                            go_cut [] (fun wc => TY S x E R3.tail (sc.fsd F3) dn w w.heap.size (tkA 5 nv (.slice none 0 0) b3 0 0) 39 wc)
                            case first =>
                              obtain rfl := HRE.out
                              cases r4 with
                              | nil =>
                                have hc : cv = -1 := HCV.out.symm
                                have gp : cv < 0 := by omega
                                have gcv : decide (cv < 0) = true := decide_eq_true gp
                                have H3 : Hid (b3 = true ∧ F3 = F2 ++ [(17, E.N)]) := by
                                  have h0 := HF3.out
                                  rw [if_pos rfl] at h0
                                  simp only [Prod.mk.injEq] at h0
                                  exact ⟨h0.1.symm, h0.2.symm⟩
                                obtain ⟨_, _, _, _, d2⟩ := K1.out.tw.c3
                                obtain ⟨N, hN⟩ : ∃ N, E.N = N := ⟨_, rfl⟩
                                rw [hN] at d2
                                rw [hN] at H3
                                clear hN hc
                                go_wp2_with fail
                                refine (K1.out.tfl 17 N (by have := HBD.out; show F2.length ≤ _; omega)).mono ?_
                                rintro e W2 ⟨rfl, k'⟩
                                have K2 : Hid (TY S x E [] (sc.fsd (F2 ++ [(17, N)])) dn w w.heap.size (tkA 5 nv (.slice none 0 0) b2 0 0) 39 W2) := k'
                                have hx2 := k'.tw.lt
                                have hy2 := k'.lt
                                obtain ⟨s5, s6⟩ := k'.cell 5 rfl
                                clear k'
                                go_wp2_with fail
                                go_meet
                                case rel =>
                                  rw [H3.out.1, H3.out.2]
                                  exact K2.out.put 5 (.bool true) rfl
                              | cons d t4 =>
                                obtain ⟨dr, da, dz⟩ := d
                                have hc : dr = cv := HCV.out
                                have hc0 : 0 ≤ dr := HPO3.out ⟨dr, da, dz⟩ (by simp)
                                have gp : ¬ cv < 0 := by omega
                                have gp2 : 0 ≤ cv := by omega
                                have gcv : decide (cv < 0) = false := decide_eq_false gp
                                have H3 : Hid (b3 = b2 ∧ F3 = F2) := by
                                  have h0 := HF3.out
                                  rw [if_neg (by simp)] at h0
                                  simp only [Prod.mk.injEq] at h0
                                  exact ⟨h0.1.symm, h0.2.symm⟩
                                obtain ⟨c1, c2, c3, c4, _⟩ := K1.out.tw.at
                                obtain ⟨pq, hpq⟩ : ∃ p, pos E (⟨dr, da, dz⟩ :: t4) = p := ⟨_, rfl⟩
                                have KN : Hid (TY S x E t4 (sc.fsd F2) dn w w.heap.size (tkA 5 nv (.slice none 0 0) b2 0 0) 39 (W1.setCell ⟨x, 1, none⟩ (.int .i64 (pq + 1)))) := by
                                  show TY _ _ _ _ _ _ _ _ _ _ _
                                  rw [← hpq]
                                  exact K1.out.adv
                                rw [hpq] at c1 c3 c4
                                clear hpq hc hc0
                                go_wp2_with fail
                                go_meet
                                case rel =>
                                  rw [H3.out.1, H3.out.2]
                                  exact KN.out
                            case rest =>
                              clear K0 K1
                              have KE : Hid (TY S x E R3.tail (sc.fsd F3) dn w w.heap.size (tkA 5 nv (.slice none 0 0) b3 0 0) 39 wc) := hcut
                              have hxc := hcut.tw.lt
                              have hyc := hcut.lt
                              clear hcut
                              go_upto_region 21 with fail
                              go_cut [] (fun wc => TY S x E R3.tail (sc.fsd F3) dn w w.heap.size (tkA 5 nv (.slice none 0 0) b3 a z) 39 wc)
                              case first =>
                                obtain ⟨c0a, c1a, c2a⟩ := HRW.out _ _ _ _ _ _ KE.out.tw
                                obtain ⟨f6, g6⟩ := KE.out.cell 6 rfl
                                obtain ⟨f7, g7⟩ := KE.out.cell 7 rfl
                                go_region_with (first
                                  | (go_at_call 36; refine ((KE.out.below ((Below.refl _ _).drew)).endz HZ.out.2).mono ?_; rintro e wa ⟨rfl, ka⟩; rw [HZ.out.1]; have KA : Hid (TY S x E R3.tail (sc.fsd F3) dn w w.heap.size (tkA 5 nv (.slice none 0 0) b3 0 0) 39 wa) := ka; obtain ⟨c0b, c1b, c2b⟩ := HRW.out _ _ _ _ _ _ ka.tw; obtain ⟨f6a, g6a⟩ := ka.cell 6 rfl; obtain ⟨f7a, g7a⟩ := ka.cell 7 rfl; have hxa := ka.tw.lt; have hya := ka.lt; clear ka))
                                all_goals
                                  go_wp2_with fail
                                  go_meet
                                  case rel => exact (KA.out.put 6 (.int .i64 a) rfl).put 7 (.int .i64 z) rfl
                              case rest =>
                                have HR : Hid (Tokd S x E T dn w (.returned (.slice (some ⟨wc.heap.size, 0, none⟩) 1 1)) (wc.alloc (.cells (tkA 5 nv (.slice none 0 0) b3 a z) 39))) := by
                                  refine ⟨some ⟨wc.heap.size, 0, none⟩, [(⟨5, 0, nv, ⟨#[]⟩, none, 0, 0, b3, a, z⟩, [])], 1, rfl, HTT.out.1.symm, Nat.le_refl _, TokR.tok (⟨5, 0, nv, ⟨#[]⟩, none, 0, 0, b3, a, z⟩, []) ⟨rfl, G9.AtRow.nil _ _, Nat.zero_le _⟩ hcut.tw.keep.size (fun hne => absurd rfl hne), ?_⟩
                                  rw [HTT.out.2]
                                  exact hcut.tw.below ((Below.refl _ _).alloc (Nat.le_refl _) _)
                                obtain ⟨e0, _⟩ := hcut.cell 0 rfl
                                obtain ⟨e1, _⟩ := hcut.cell 1 rfl
                                obtain ⟨e2, _⟩ := hcut.cell 2 rfl
                                obtain ⟨e3, _⟩ := hcut.cell 3 rfl
                                obtain ⟨e4, _⟩ := hcut.cell 4 rfl
                                obtain ⟨e5, _⟩ := hcut.cell 5 rfl
                                obtain ⟨e6, _⟩ := hcut.cell 6 rfl
                                obtain ⟨e7, _⟩ := hcut.cell 7 rfl
                                have hyl := hcut.lt
                                clear hcut
                                go_wp2_with fail
                                go_ret
                                exact HR.out
end Go.Proofs.Ytkbakbacomidbaa
