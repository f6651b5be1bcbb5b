/- The scanner at a mark that opens. What is told of tags and doctypes is asked for. -/
import Derived.Test.YtkbakbacomidbaaProg
import Derived.Below
import Derived.BigCall
import Derived.BigQuiet
import Derived.BigRegion
import Derived.Deep.DeepCutAuto
import Derived.Deep.LoopGhost
import Derived.Deep.QuietTactic
import Derived.Deep.RegionHeld3
import Derived.Deep.RegionLaw
import Derived.Deep.RegionWith
import Derived.Deep.Upon
import Derived.Laws.AppendOwn
import Derived.Laws.BytesArg
import Derived.Laws.EntriesVeiled
import Derived.Laws.IdiomStrings
import Derived.Laws.StructEq
import Derived.Lib.AppendStr
import Derived.Lib.RuneBytes
import Derived.Maps.AppendAt
import Derived.Maps.OwnSet
import Derived.OwnWalk
import Derived.ScopeJumps
import Derived.Shelf.Abstract
import Derived.Shelf.Small.Strs
import Derived.Shelf.Strings.Builder1
import Derived.Shelf.Strings.BuilderF
import Derived.Shelf.Strings.BuilderK
import Derived.Shelf.Strings.BuilderRune
import Derived.Shelf.Strings.Prefix
import Derived.StillTailTactics
import Derived.StringKeys
import Derived.WalkArith
import Derived.WalkKit
import Derived.WalkLawsBesides
import Derived.WalkMore
import Derived.WalkSpells
import Derived.Test.YtkbakbacomidbaaYf
namespace Go.Proofs.Ytkbakbacomidbaa
open Go.RowKit
def DocAny : Prop := ∀ {S : Nat → Prop} {x : Nat} {E : Env} {r : List Ch} {sc : Sc} {dn : Bool} {w : World} (_ : Tm S x E r sc dn w) {c0 : Ch} {F : List Ch} (_ : c0 :: F <:+ E.L) (_ : r <:+ F) (_ : ∀ d ∈ r, 0 ≤ d.r) (_ : sc.fs.length + 8 ≤ 1000000000), Calls Try.prog 62 #[mp x, .int .i64 (pos E (c0 :: F))] w (Tokd S x E (docR E.N (c0 :: F) sc r) dn w)
def TagAny : Prop := ∀ {S : Nat → Prop} {x : Nat} {E : Env} {r : List Ch} {sc : Sc} {dn : Bool} {w : World} (_ : Tm S x E r sc dn w) {c0 : Ch} {F : List Ch} (_ : c0 :: F <:+ E.L) (_ : r <:+ F) (_ : ∀ d ∈ r, 0 ≤ d.r) (_ : sc.fs.length + 8 * r.length + 16 ≤ 1000000000) (kind : Int) (_ : kind = 2 ∨ kind = 3), Calls Try.prog 48 #[mp x, .int .i64 (pos E (c0 :: F)), .int .i64 kind] w (Tokd S x E (tagR E.N (c0 :: F) kind sc r) dn w)
theorem TW.setcd {S : Nat → Prop} {x : Nat} {E : Env} {r : List Ch} {sc : Sc} {dn : Bool} {w W : World} (h : TW S x E r sc dn w W) (b : Bool) : TW S x E r { sc with cd := b } dn w (W.setCell ⟨x, 7, none⟩ (.bool b)) := by
  obtain ⟨fv, h1⟩ := h.tm
  obtain ⟨q1, q2⟩ := h1.set (r' := r) (sc' := { sc with cd := b }) (dn' := dn) 7 (.bool b) (by simp [Env.cells]) h1.suf rfl
  exact ⟨⟨fv, q1⟩, h.keep.trans q2⟩
theorem suf_tail {r t : List Ch} (h : r <:+ t) (n : Nat) : r.drop n <:+ t := (List.drop_suffix _ _).trans h
set_option maxHeartbeats 4000000 in
set_option maxRecDepth 20000 in
theorem markup_any' (hdoc : DocAny) {S : Nat → Prop} {x : Nat} {E : Env} {r : List Ch} {sc : Sc} {dn : Bool} {w : World} (h : Tm S x E r sc dn w) {c0 : Ch} {F : List Ch} (hF : c0 :: F <:+ E.L) (hr : r <:+ F) (hpos : ∀ d ∈ r, 0 ≤ d.r) (hB : sc.fs.length + 8 ≤ 1000000000) : Calls Try.prog 45 #[mp x, .int .i64 (pos E (c0 :: F))] w (Tokd S x E (markupR E.N E.fo (c0 :: F) sc r) dn w) := by
  have K0 : Hid (TW S x E r sc dn w w) := TW.start h
  have hxw := h.lt
  obtain ⟨T, hT⟩ : ∃ T, markupR E.N E.fo (c0 :: F) sc r = T := ⟨_, rfl⟩
  have HT : Hid (markupR E.N E.fo (c0 :: F) sc r = T) := hT
  rw [hT]
  have HFr : Hid (c0 :: F <:+ E.L ∧ r <:+ F ∧ (∀ d ∈ r, 0 ≤ d.r)) := ⟨hF, hr, hpos⟩
  have HB : Hid (sc.fs.length + 8 ≤ 1000000000) := hB
  obtain ⟨pF, hpF⟩ : ∃ pF, pos E (c0 :: F) = pF := ⟨_, rfl⟩
  have HPF : Hid (pos E (c0 :: F) = pF) := hpF
  rw [hpF]
  clear h hF hr hpos hpF hT hB
  have HD : Hid DocAny := @hdoc
  clear hdoc
  cases hw1 : isW false Mc.dashW r with
  | true =>
    have HW1 : Hid (isW false Mc.dashW r = true) := hw1
    have HTT : Hid (T = textR E.N (c0 :: F) sc (r.drop 2)) := by
      show T = _
      rw [← HT.out]
      unfold markupR
      rw [if_pos hw1]
    have HSU : Hid (r.drop 2 <:+ F) := suf_tail HFr.out.2.1 2
    have HPS : Hid (pos E r + 2 = pos E (r.drop 2)) := pos_drop (n := 2) (isw_len hw1)
    clear hw1
    go_enter Try.func45, Try.ntmps45
    go_wp2_with fail
    refine (K0.out.isw Mc.dashW false (by decide)).mono ?_
    rintro e W1 ⟨rfl, k'⟩
    have K1 : Hid (TW S x E r sc dn w W1) := k'
    have hx1 := k'.lt
    clear k'
    rw [HW1.out]
    obtain ⟨a1, a2, a3, a4, _⟩ := K1.out.at
    have KA0 := K1.out.go (r' := (r.drop 2)) (HSU.out.trans ((List.suffix_cons _ _).trans HFr.out.1)) (pos E r + 2) (HPS.out)
    obtain ⟨pq, hpq⟩ : ∃ p, pos E r = p := ⟨_, rfl⟩
    rw [hpq] at a1 a3 a4 KA0
    have KA : Hid (TW S x E (r.drop 2) sc dn w (W1.setCell ⟨x, 1, none⟩ (.int .i64 (pq + 2)))) := KA0
    clear hpq KA0
    have kcm := text_any KA.out.tm HFr.out.1 HSU.out (suf_pos (List.drop_suffix _ _) HFr.out.2.2) (by have := HB.out; omega)
    rw [HPF.out] at kcm
    go_wp2_with fail
    refine kcm.mono ?_
    rintro e w9 h9
    have H9 : Hid (Tokd S x E T dn w e w9) := by
      show Tokd _ _ _ _ _ _ _ _
      rw [HTT.out]
      exact Tokd.from KA.out h9
    obtain ⟨ao, T9, cap, rfl, _⟩ := h9
    clear kcm
    go_wp2_with fail
    go_ret
    exact H9.out
  | false =>
    have HW1 : Hid (isW false Mc.dashW r = false) := hw1
    cases hw2 : isW true Mc.docW r with
    | true =>
      have HW2 : Hid (isW true Mc.docW r = true) := hw2
      have HTT : Hid (T = docR E.N (c0 :: F) sc (r.drop 7)) := by
        show T = _
        rw [← HT.out]
        unfold markupR
        rw [if_neg (by rw [hw1]; decide), if_pos hw2]
      have HSU : Hid (r.drop 7 <:+ F) := suf_tail HFr.out.2.1 7
      have HPS : Hid (pos E r + 7 = pos E (r.drop 7)) := pos_drop (n := 7) (isw_len hw2)
      clear hw1 hw2
      go_enter Try.func45, Try.ntmps45
      go_wp2_with fail
      refine (K0.out.isw Mc.dashW false (by decide)).mono ?_
      rintro e W1 ⟨rfl, k'⟩
      have K1 : Hid (TW S x E r sc dn w W1) := k'
      have hx1 := k'.lt
      clear k'
      rw [HW1.out]
      go_wp2_with fail
      refine (K1.out.isw Mc.docW true (by decide)).mono ?_
      rintro e W2 ⟨rfl, k'⟩
      have K2 : Hid (TW S x E r sc dn w W2) := k'
      have hx2 := k'.lt
      clear k'
      rw [HW2.out]
      obtain ⟨a1, a2, a3, a4, _⟩ := K2.out.at
      have KA0 := K2.out.go (r' := (r.drop 7)) (HSU.out.trans ((List.suffix_cons _ _).trans HFr.out.1)) (pos E r + 7) (HPS.out)
      obtain ⟨pq, hpq⟩ : ∃ p, pos E r = p := ⟨_, rfl⟩
      rw [hpq] at a1 a3 a4 KA0
      have KA : Hid (TW S x E (r.drop 7) sc dn w (W2.setCell ⟨x, 1, none⟩ (.int .i64 (pq + 7)))) := KA0
      clear hpq KA0
      have kcm := HD.out KA.out.tm HFr.out.1 HSU.out (suf_pos (List.drop_suffix _ _) HFr.out.2.2) HB.out
      rw [HPF.out] at kcm
      go_wp2_with fail
      refine kcm.mono ?_
      rintro e w9 h9
      have H9 : Hid (Tokd S x E T dn w e w9) := by
        show Tokd _ _ _ _ _ _ _ _
        rw [HTT.out]
        exact Tokd.from KA.out h9
      obtain ⟨ao, T9, cap, rfl, _⟩ := h9
      clear kcm
      go_wp2_with fail
      go_ret
      exact H9.out
    | false =>
      have HW2 : Hid (isW true Mc.docW r = false) := hw2
      cases hw3 : isW false Mc.cdW r with
      | true =>
        have HW3 : Hid (isW false Mc.cdW r = true) := hw3
        cases hfo : E.fo with
        | true =>
          have HTT : Hid (T = ([], { sc with cd := true }, r.drop 7)) := by
            show T = _
            rw [← HT.out]
            unfold markupR
            rw [if_neg (by rw [hw1]; decide), if_neg (by rw [hw2]; decide), if_pos hw3, if_pos hfo]
          have HSU : Hid (r.drop 7 <:+ F) := suf_tail HFr.out.2.1 7
          have HPS : Hid (pos E r + 7 = pos E (r.drop 7)) := pos_drop (n := 7) (isw_len hw3)
          have HFO : Hid (E.fo = true) := hfo
          clear hw1 hw2 hw3 hfo
          go_enter Try.func45, Try.ntmps45
          go_wp2_with fail
          refine (K0.out.isw Mc.dashW false (by decide)).mono ?_
          rintro e W1 ⟨rfl, k'⟩
          have K1 : Hid (TW S x E r sc dn w W1) := k'
          have hx1 := k'.lt
          clear k'
          rw [HW1.out]
          go_wp2_with fail
          refine (K1.out.isw Mc.docW true (by decide)).mono ?_
          rintro e W2 ⟨rfl, k'⟩
          have K2 : Hid (TW S x E r sc dn w W2) := k'
          have hx2 := k'.lt
          clear k'
          rw [HW2.out]
          go_wp2_with fail
          refine (K2.out.isw Mc.cdW false (by decide)).mono ?_
          rintro e W3 ⟨rfl, k'⟩
          have K3 : Hid (TW S x E r sc dn w W3) := k'
          have hx3 := k'.lt
          clear k'
          rw [HW3.out]
          have c5 : W3.cell? ⟨x, 5, none⟩ = some (.bool true) := by obtain ⟨fv, h1⟩ := K3.out.tm; rw [← HFO.out]; exact h1.cells 5 _ rfl
          obtain ⟨a1, a2, a3, a4, _⟩ := K3.out.at
          have KA0 := K3.out.go (r' := (r.drop 7)) (HSU.out.trans ((List.suffix_cons _ _).trans HFr.out.1)) (pos E r + 7) (HPS.out)
          obtain ⟨pq, hpq⟩ : ∃ p, pos E r = p := ⟨_, rfl⟩
          rw [hpq] at a1 a3 a4 KA0
          have KA : Hid (TW S x E (r.drop 7) sc dn w (W3.setCell ⟨x, 1, none⟩ (.int .i64 (pq + 7)))) := KA0
          clear hpq KA0
          have KB : Hid (TW S x E (r.drop 7) { sc with cd := true } dn w ((W3.setCell ⟨x, 1, none⟩ (.int .i64 (pq + 7))).setCell ⟨x, 7, none⟩ (.bool true))) := KA.out.setcd true
          have f7 : W3.cell? ⟨x, 7, none⟩ = some (.bool sc.cd) ∧ W3.frozen? ⟨x, 7, none⟩ = false := by obtain ⟨fv, h1⟩ := K3.out.tm; exact ⟨h1.cells 7 _ rfl, h1.free 7⟩
          obtain ⟨f7, f7'⟩ := f7
          go_wp2_with fail
          go_ret
          rw [HTT.out]
          exact ⟨none, [], 0, rfl, rfl, Nat.le_refl _, TokR.nil _ _ _, KB.out⟩
        | false =>
          have HTT : Hid (T = bogusR (c0 :: F) (sc.fsd (sc.fs ++ [(21, frN E.N r)])) r) := by
            show T = _
            rw [← HT.out]
            unfold markupR
            rw [if_neg (by rw [hw1]; decide), if_neg (by rw [hw2]; decide), if_pos hw3, if_neg (by rw [hfo]; decide)]
            rfl
          have HFO : Hid (E.fo = false) := hfo
          clear hw1 hw2 hw3 hfo
          go_enter Try.func45, Try.ntmps45
          go_wp2_with fail
          refine (K0.out.isw Mc.dashW false (by decide)).mono ?_
          rintro e W1 ⟨rfl, k'⟩
          have K1 : Hid (TW S x E r sc dn w W1) := k'
          have hx1 := k'.lt
          clear k'
          rw [HW1.out]
          go_wp2_with fail
          refine (K1.out.isw Mc.docW true (by decide)).mono ?_
          rintro e W2 ⟨rfl, k'⟩
          have K2 : Hid (TW S x E r sc dn w W2) := k'
          have hx2 := k'.lt
          clear k'
          rw [HW2.out]
          go_wp2_with fail
          refine (K2.out.isw Mc.cdW false (by decide)).mono ?_
          rintro e W3 ⟨rfl, k'⟩
          have K3 : Hid (TW S x E r sc dn w W3) := k'
          have hx3 := k'.lt
          clear k'
          rw [HW3.out]
          have c5 : W3.cell? ⟨x, 5, none⟩ = some (.bool false) := by obtain ⟨fv, h1⟩ := K3.out.tm; rw [← HFO.out]; exact h1.cells 5 _ rfl
          go_wp2_with fail
          refine K3.out.byteAt.mono ?_
          rintro e W4 ⟨rfl, k'⟩
          have K4 : Hid (TW S x E r sc dn w W4) := k'
          have hx4 := k'.lt
          clear k'
          obtain ⟨av, hav⟩ : ∃ av, frN E.N r = av := ⟨_, rfl⟩
          have HAV : Hid (frN E.N r = av) := hav
          rw [hav]
          clear hav
          go_wp2_with fail
          refine (K4.out.tfl 21 av (by have := HB.out; omega)).mono ?_
          rintro e W5 ⟨rfl, k'⟩
          have K5 : Hid (TW S x E r (sc.fsd (sc.fs ++ [(21, av)])) dn w W5) := k'
          have hx5 := k'.lt
          clear k'
          have kcm := bogus_any' K5.out.tm HFr.out.1 HFr.out.2.1 HFr.out.2.2
          rw [HPF.out] at kcm
          go_wp2_with fail
          refine kcm.mono ?_
          rintro e w9 h9
          have H9 : Hid (Tokd S x E T dn w e w9) := by
            show Tokd _ _ _ _ _ _ _ _
            rw [HTT.out, HAV.out]
            exact Tokd.from K5.out h9
          obtain ⟨ao, T9, cap, rfl, _⟩ := h9
          clear kcm
          go_wp2_with fail
          go_ret
          exact H9.out
      | false =>
        have HW3 : Hid (isW false Mc.cdW r = false) := hw3
        have HTT : Hid (T = bogusR (c0 :: F) (sc.fsd (sc.fs ++ [(14, frN E.N r)])) r) := by
          show T = _
          rw [← HT.out]
          unfold markupR
          rw [if_neg (by rw [hw1]; decide), if_neg (by rw [hw2]; decide), if_neg (by rw [hw3]; decide)]
          rfl
        clear hw1 hw2 hw3
        go_enter Try.func45, Try.ntmps45
        go_wp2_with fail
        refine (K0.out.isw Mc.dashW false (by decide)).mono ?_
        rintro e W1 ⟨rfl, k'⟩
        have K1 : Hid (TW S x E r sc dn w W1) := k'
        have hx1 := k'.lt
        clear k'
        rw [HW1.out]
        go_wp2_with fail
        refine (K1.out.isw Mc.docW true (by decide)).mono ?_
        rintro e W2 ⟨rfl, k'⟩
        have K2 : Hid (TW S x E r sc dn w W2) := k'
        have hx2 := k'.lt
        clear k'
        rw [HW2.out]
        go_wp2_with fail
        refine (K2.out.isw Mc.cdW false (by decide)).mono ?_
        rintro e W3 ⟨rfl, k'⟩
        have K3 : Hid (TW S x E r sc dn w W3) := k'
        have hx3 := k'.lt
        clear k'
        rw [HW3.out]
        go_wp2_with fail
        refine K3.out.byteAt.mono ?_
        rintro e W4 ⟨rfl, k'⟩
        have K4 : Hid (TW S x E r sc dn w W4) := k'
        have hx4 := k'.lt
        clear k'
        obtain ⟨av, hav⟩ : ∃ av, frN E.N r = av := ⟨_, rfl⟩
        have HAV : Hid (frN E.N r = av) := hav
        rw [hav]
        clear hav
        go_wp2_with fail
        refine (K4.out.tfl 14 av (by have := HB.out; omega)).mono ?_
        rintro e W5 ⟨rfl, k'⟩
        have K5 : Hid (TW S x E r (sc.fsd (sc.fs ++ [(14, av)])) dn w W5) := k'
        have hx5 := k'.lt
        clear k'
        have kcm := bogus_any' K5.out.tm HFr.out.1 HFr.out.2.1 HFr.out.2.2
        rw [HPF.out] at kcm
        go_wp2_with fail
        refine kcm.mono ?_
        rintro e w9 h9
        have H9 : Hid (Tokd S x E T dn w e w9) := by
          show Tokd _ _ _ _ _ _ _ _
          rw [HTT.out, HAV.out]
          exact Tokd.from K5.out h9
        obtain ⟨ao, T9, cap, rfl, _⟩ := h9
        clear kcm
        go_wp2_with fail
        go_ret
        exact H9.out
end Go.Proofs.Ytkbakbacomidbaa
namespace Go.Proofs.Ytkbakbacomidbaa
open Go.RowKit
set_option maxHeartbeats 4000000 in
set_option maxRecDepth 20000 in
theorem endOpen_any' (htag : TagAny) {S : Nat → Prop} {x : Nat} {E : Env} {r : List Ch} {sc : Sc} {dn : Bool} {w : World} (h : Tm S x E r sc dn w) {c0 : Ch} {F : List Ch} (hF : c0 :: F <:+ E.L) (hr : r <:+ F) (hpos : ∀ d ∈ r, 0 ≤ d.r) (hB : sc.fs.length + 8 * r.length + 16 ≤ 1000000000) : Calls Try.prog 46 #[mp x, .int .i64 (pos E (c0 :: F))] w (Tokd S x E (endOpenR E.N (c0 :: F) sc r) dn w) := by
  have K0 : Hid (TW S x E r sc dn w w) := TW.start h
  have hxw := h.lt
  obtain ⟨T, hT⟩ : ∃ T, endOpenR E.N (c0 :: F) sc r = T := ⟨_, rfl⟩
  have HT : Hid (endOpenR E.N (c0 :: F) sc r = T) := hT
  rw [hT]
  have HFr : Hid (c0 :: F <:+ E.L ∧ r <:+ F ∧ (∀ d ∈ r, 0 ≤ d.r)) := ⟨hF, hr, hpos⟩
  have HB : Hid (sc.fs.length + 8 * r.length + 16 ≤ 1000000000) := hB
  obtain ⟨pF, hpF⟩ : ∃ pF, pos E (c0 :: F) = pF := ⟨_, rfl⟩
  have HPF : Hid (pos E (c0 :: F) = pF) := hpF
  rw [hpF]
  clear h hF hr hpos hpF hT hB
  have HD : Hid TagAny := @htag
  clear htag
  obtain ⟨cv, hcv⟩ : ∃ cv, hd r = cv := ⟨_, rfl⟩
  have HCV : Hid (hd r = cv) := hcv
  cases hlt : ltr cv with
  | true =>
    have HTT : Hid (T = tagR E.N (c0 :: F) 3 sc r) := by
      show T = _
      rw [← HT.out]
      unfold endOpenR
      rw [if_pos (by rw [hcv]; exact hlt)]
    clear hcv
    go_enter Try.func46, Try.ntmps46
    go_wp2_with fail
    refine K0.out.c.mono ?_
    rintro e W1 ⟨rfl, k'⟩
    have K1 : Hid (TW S x E r sc dn w W1) := k'
    have hx1 := k'.lt
    clear k'
    rw [HCV.out]
    go_wp2_with fail
    refine (letter_any' cv _).mono ?_
    rintro e w0 ⟨rfl, hw0⟩
    rw [hw0]
    clear hw0
    have kcm := HD.out K1.out.tm HFr.out.1 HFr.out.2.1 HFr.out.2.2 HB.out 3 (.inr rfl)
    rw [HPF.out] at kcm
    go_wp2_with fail
    refine kcm.mono ?_
    rintro e w9 h9
    have H9 : Hid (Tokd S x E T dn w e w9) := by
      show Tokd _ _ _ _ _ _ _ _
      rw [HTT.out]
      exact Tokd.from K1.out h9
    obtain ⟨ao, T9, cap, rfl, _⟩ := h9
    clear kcm
    go_wp2_with fail
    go_ret
    exact H9.out
  | false =>
    by_cases h62 : cv = 62
    · cases r with
      | nil => rw [← hcv] at h62; exact absurd h62 (by decide)
      | cons c t =>
        have g62 : (cv == 62) = true := by simp [h62]
        have HTT : Hid (T = ([], sc.fsd (sc.fs ++ [(6, frN E.N (c :: t))]), t)) := by
          show T = _
          rw [← HT.out]
          unfold endOpenR
          rw [hcv, if_neg (by rw [hlt]; decide), if_pos h62]
          rfl
        have HSU : Hid (t <:+ F) := (List.suffix_cons _ _).trans HFr.out.2.1
        have HPS : Hid (pos E (c :: t) + 1 = pos E t) := pos_cons.symm
        clear hcv h62
        go_enter Try.func46, Try.ntmps46
        go_wp2_with fail
        refine K0.out.c.mono ?_
        rintro e W1 ⟨rfl, k'⟩
        have K1 : Hid (TW S x E (c :: t) sc dn w W1) := k'
        have hx1 := k'.lt
        clear k'
        rw [HCV.out]
        go_wp2_with fail
        refine (letter_any' cv _).mono ?_
        rintro e w0 ⟨rfl, hw0⟩
        rw [hw0]
        clear hw0
        go_wp2_with fail
        refine K1.out.byteAt.mono ?_
        rintro e W2 ⟨rfl, k'⟩
        have K2 : Hid (TW S x E (c :: t) sc dn w W2) := k'
        have hx2 := k'.lt
        clear k'
        obtain ⟨av, hav⟩ : ∃ av, frN E.N (c :: t) = av := ⟨_, rfl⟩
        have HAV : Hid (frN E.N (c :: t) = av) := hav
        rw [hav]
        clear hav
        go_wp2_with fail
        refine (K2.out.tfl 6 av (by have := HB.out; omega)).mono ?_
        rintro e W3 ⟨rfl, k'⟩
        have K3 : Hid (TW S x E (c :: t) (sc.fsd (sc.fs ++ [(6, av)])) dn w W3) := k'
        have hx3 := k'.lt
        clear k'
        obtain ⟨a1, a2, a3, a4, _⟩ := K3.out.at
        have KA0 := K3.out.go (r' := t) (HSU.out.trans ((List.suffix_cons _ _).trans HFr.out.1)) (pos E (c :: t) + 1) (HPS.out)
        obtain ⟨pq, hpq⟩ : ∃ p, pos E (c :: t) = p := ⟨_, rfl⟩
        rw [hpq] at a1 a3 a4 KA0
        have KA : Hid (TW S x E t (sc.fsd (sc.fs ++ [(6, av)])) dn w (W3.setCell ⟨x, 1, none⟩ (.int .i64 (pq + 1)))) := KA0
        clear hpq KA0
        go_wp2_with fail
        go_ret
        rw [HTT.out, HAV.out]
        exact ⟨none, [], 0, rfl, rfl, Nat.le_refl _, TokR.nil _ _ _, KA.out⟩
    · have g62 : (cv == 62) = false := by simp [h62]
      cases r with
      | nil =>
        have HTT : Hid (T = (toldR (c0 :: F) [], sc.fsd (sc.fs ++ [(6, E.N)]), [])) := by
          show T = _
          rw [← HT.out]
          unfold endOpenR
          rw [hcv, if_neg (by rw [hlt]; decide), if_neg h62, if_pos rfl]
          rfl
        have g0 : decide (cv < 0) = true := decide_eq_true (by rw [← hcv]; decide)
        clear hcv h62
        go_enter Try.func46, Try.ntmps46
        go_wp2_with fail
        refine K0.out.c.mono ?_
        rintro e W1 ⟨rfl, k'⟩
        have K1 : Hid (TW S x E [] sc dn w W1) := k'
        have hx1 := k'.lt
        clear k'
        rw [HCV.out]
        go_wp2_with fail
        refine (letter_any' cv _).mono ?_
        rintro e w0 ⟨rfl, hw0⟩
        rw [hw0]
        clear hw0
        have c2 : W1.cell? ⟨x, 2, none⟩ = some (.int .i64 E.N) := by obtain ⟨fv, h1⟩ := K1.out.tm; exact h1.cells 2 _ rfl
        go_wp2_with fail
        refine (K1.out.tfl 6 E.N (by have := HB.out; omega)).mono ?_
        rintro e W2 ⟨rfl, k'⟩
        have K2 : Hid (TW S x E [] (sc.fsd (sc.fs ++ [(6, E.N)])) dn w W2) := k'
        have hx2 := k'.lt
        clear k' c2
        have kcm := told_any K2.out.tm (F := c0 :: F) List.nil_suffix HFr.out.1
        rw [HPF.out] at kcm
        go_wp2_with fail
        refine kcm.mono ?_
        rintro e w9 h9
        have H9 : Hid (Tokd S x E T dn w e w9) := by
          show Tokd _ _ _ _ _ _ _ _
          rw [HTT.out]
          exact Tokd.from K2.out h9
        obtain ⟨ao, T9, cap, rfl, _⟩ := h9
        clear kcm
        go_wp2_with fail
        go_ret
        exact H9.out
      | cons c t =>
        have hc0 : 0 ≤ cv := by rw [← hcv]; exact HFr.out.2.2 c (by simp)
        have g0 : decide (cv < 0) = false := decide_eq_false (by omega)
        have HTT : Hid (T = bogusR (c0 :: F) (sc.fsd (sc.fs ++ [(14, frN E.N (c :: t))])) (c :: t)) := by
          show T = _
          rw [← HT.out]
          unfold endOpenR
          rw [hcv, if_neg (by rw [hlt]; decide), if_neg h62, if_neg (by simp)]
          rfl
        clear hcv h62 hc0
        go_enter Try.func46, Try.ntmps46
        go_wp2_with fail
        refine K0.out.c.mono ?_
        rintro e W1 ⟨rfl, k'⟩
        have K1 : Hid (TW S x E (c :: t) sc dn w W1) := k'
        have hx1 := k'.lt
        clear k'
        rw [HCV.out]
        go_wp2_with fail
        refine (letter_any' cv _).mono ?_
        rintro e w0 ⟨rfl, hw0⟩
        rw [hw0]
        clear hw0
        go_wp2_with fail
        refine K1.out.byteAt.mono ?_
        rintro e W2 ⟨rfl, k'⟩
        have K2 : Hid (TW S x E (c :: t) sc dn w W2) := k'
        have hx2 := k'.lt
        clear k'
        obtain ⟨av, hav⟩ : ∃ av, frN E.N (c :: t) = av := ⟨_, rfl⟩
        have HAV : Hid (frN E.N (c :: t) = av) := hav
        rw [hav]
        clear hav
        go_wp2_with fail
        refine (K2.out.tfl 14 av (by have := HB.out; omega)).mono ?_
        rintro e W3 ⟨rfl, k'⟩
        have K3 : Hid (TW S x E (c :: t) (sc.fsd (sc.fs ++ [(14, av)])) dn w W3) := k'
        have hx3 := k'.lt
        clear k'
        have kcm := bogus_any' K3.out.tm HFr.out.1 HFr.out.2.1 HFr.out.2.2
        rw [HPF.out] at kcm
        go_wp2_with fail
        refine kcm.mono ?_
        rintro e w9 h9
        have H9 : Hid (Tokd S x E T dn w e w9) := by
          show Tokd _ _ _ _ _ _ _ _
          rw [HTT.out, HAV.out]
          exact Tokd.from K3.out h9
        obtain ⟨ao, T9, cap, rfl, _⟩ := h9
        clear kcm
        go_wp2_with fail
        go_ret
        exact H9.out
end Go.Proofs.Ytkbakbacomidbaa
namespace Go.Proofs.Ytkbakbacomidbaa
open Go.RowKit
set_option maxHeartbeats 4000000 in
set_option maxRecDepth 20000 in
theorem open_any' (hdoc : DocAny) (htag : TagAny) {S : Nat → Prop} {x : Nat} {E : Env} {c0 : Ch} {r : List Ch} {sc : Sc} {dn : Bool} {w : World} (h : Tm S x E (c0 :: r) sc dn w) (hpos : ∀ d ∈ r, 0 ≤ d.r) (hB : sc.fs.length + 8 * r.length + 16 ≤ 1000000000) : Calls Try.prog 38 #[mp x] w (Tokd S x E (openR E.N E.fo (c0 :: r) sc r) dn w) := by
  have K0 : Hid (TW S x E (c0 :: r) sc dn w w) := TW.start h
  have hxw := h.lt
  obtain ⟨T, hT⟩ : ∃ T, openR E.N E.fo (c0 :: r) sc r = T := ⟨_, rfl⟩
  have HT : Hid (openR E.N E.fo (c0 :: r) sc r = T) := hT
  rw [hT]
  have HFr : Hid (c0 :: r <:+ E.L ∧ r <:+ r ∧ (∀ d ∈ r, 0 ≤ d.r)) := ⟨K0.out.facts.2.1, List.suffix_refl _, hpos⟩
  have HB : Hid (sc.fs.length + 8 * r.length + 16 ≤ 1000000000) := hB
  have HDD : Hid DocAny := @hdoc
  have HD : Hid TagAny := @htag
  obtain ⟨cv, hcv⟩ : ∃ cv, hd r = cv := ⟨_, rfl⟩
  have HCV : Hid (hd r = cv) := hcv
  obtain ⟨a1, a2, a3, a4, _⟩ := K0.out.at
  obtain ⟨pF, hpF⟩ : ∃ pF, pos E (c0 :: r) = pF := ⟨_, rfl⟩
  have HPF : Hid (pos E (c0 :: r) = pF) := hpF
  have KA0 : TW S x E r sc dn w (w.setCell ⟨x, 1, none⟩ (.int .i64 (pos E (c0 :: r) + 1))) := K0.out.adv
  rw [hpF] at a1 a3 a4 KA0
  obtain ⟨W0, hW0⟩ : ∃ W0, w.setCell ⟨x, 1, none⟩ (.int .i64 (pF + 1)) = W0 := ⟨_, rfl⟩
  have HW0 : Hid (w.setCell ⟨x, 1, none⟩ (.int .i64 (pF + 1)) = W0) := hW0
  rw [hW0] at KA0
  clear K0
  have K0 : Hid (TW S x E r sc dn w W0) := KA0
  have hx0 := KA0.lt
  clear h hpos hpF hT hB hdoc htag KA0 hW0
  have hcase : cv = 33 ∨ cv = 47 ∨ (cv ≠ 33 ∧ cv ≠ 47) := by omega
  rcases hcase with h33 | h47 | hno
  · have g33 : (cv == 33) = true := by simp [h33]
    cases r with
    | nil => rw [← hcv] at h33; exact absurd h33 (by decide)
    | cons c t =>
      have HTT : Hid (T = markupR E.N E.fo (c0 :: c :: t) sc t) := by
        show T = _
        rw [← HT.out]
        unfold openR
        rw [hcv, if_pos h33]
        rfl
      have HSU : Hid (t <:+ c :: t) := List.suffix_cons _ _
      have HPS : Hid (pos E (c :: t) + 1 = pos E t) := pos_cons.symm
      clear hcv h33
      go_enter Try.func38, Try.ntmps38
      go_wp2_with fail
      rw [HW0.out]
      go_wp2_with fail
      refine K0.out.c.mono ?_
      rintro e W1 ⟨rfl, k'⟩
      have K1 : Hid (TW S x E (c :: t) sc dn w W1) := k'
      have hx1 := k'.lt
      clear k'
      rw [HCV.out]
      obtain ⟨a1, a2, a3, a4, _⟩ := K1.out.at
      have KA0 := K1.out.go (r' := t) (HSU.out.trans ((List.suffix_cons _ _).trans HFr.out.1)) (pos E (c :: t) + 1) (HPS.out)
      obtain ⟨pq, hpq⟩ : ∃ p, pos E (c :: t) = p := ⟨_, rfl⟩
      rw [hpq] at a1 a3 a4 KA0
      have KA : Hid (TW S x E t sc dn w (W1.setCell ⟨x, 1, none⟩ (.int .i64 (pq + 1)))) := KA0
      clear hpq KA0
      have kcm := markup_any' HDD.out KA.out.tm HFr.out.1 HSU.out (suf_pos (List.suffix_cons _ _) HFr.out.2.2) (by have := HB.out; omega)
      rw [HPF.out] at kcm
      go_wp2_with fail
      refine kcm.mono ?_
      rintro e w9 h9
      have H9 : Hid (Tokd S x E T dn w e w9) := by
        show Tokd _ _ _ _ _ _ _ _
        rw [HTT.out]
        exact Tokd.from KA.out h9
      obtain ⟨ao, T9, cap, rfl, _⟩ := h9
      clear kcm
      go_wp2_with fail
      go_ret
      exact H9.out
  · have g33 : (cv == 33) = false := by simp [h47]
    have g47 : (cv == 47) = true := by simp [h47]
    cases r with
    | nil => rw [← hcv] at h47; exact absurd h47 (by decide)
    | cons c t =>
      have HTT : Hid (T = endOpenR E.N (c0 :: c :: t) sc t) := by
        show T = _
        rw [← HT.out]
        unfold openR
        rw [hcv, if_neg (by omega), if_pos h47]
        rfl
      have HSU : Hid (t <:+ c :: t) := List.suffix_cons _ _
      have HPS : Hid (pos E (c :: t) + 1 = pos E t) := pos_cons.symm
      clear hcv h47
      go_enter Try.func38, Try.ntmps38
      go_wp2_with fail
      rw [HW0.out]
      go_wp2_with fail
      refine K0.out.c.mono ?_
      rintro e W1 ⟨rfl, k'⟩
      have K1 : Hid (TW S x E (c :: t) sc dn w W1) := k'
      have hx1 := k'.lt
      clear k'
      rw [HCV.out]
      obtain ⟨a1, a2, a3, a4, _⟩ := K1.out.at
      have KA0 := K1.out.go (r' := t) (HSU.out.trans ((List.suffix_cons _ _).trans HFr.out.1)) (pos E (c :: t) + 1) (HPS.out)
      obtain ⟨pq, hpq⟩ : ∃ p, pos E (c :: t) = p := ⟨_, rfl⟩
      rw [hpq] at a1 a3 a4 KA0
      have KA : Hid (TW S x E t sc dn w (W1.setCell ⟨x, 1, none⟩ (.int .i64 (pq + 1)))) := KA0
      clear hpq KA0
      have kcm := endOpen_any' HD.out KA.out.tm HFr.out.1 HSU.out (suf_pos (List.suffix_cons _ _) HFr.out.2.2) (by have := HB.out; simp only [List.length_cons] at this; omega)
      rw [HPF.out] at kcm
      go_wp2_with fail
      refine kcm.mono ?_
      rintro e w9 h9
      have H9 : Hid (Tokd S x E T dn w e w9) := by
        show Tokd _ _ _ _ _ _ _ _
        rw [HTT.out]
        exact Tokd.from KA.out h9
      obtain ⟨ao, T9, cap, rfl, _⟩ := h9
      clear kcm
      go_wp2_with fail
      go_ret
      exact H9.out
  · have g33 : (cv == 33) = false := by simp; omega
    have g47 : (cv == 47) = false := by simp; omega
    cases hlt : ltr cv with
    | true =>
      have HTT : Hid (T = tagR E.N (c0 :: r) 2 sc r) := by
        show T = _
        rw [← HT.out]
        unfold openR
        rw [hcv, if_neg (by omega), if_neg (by omega), if_pos hlt]
      clear hcv hno
      go_enter Try.func38, Try.ntmps38
      go_wp2_with fail
      rw [HW0.out]
      go_wp2_with fail
      refine K0.out.c.mono ?_
      rintro e W1 ⟨rfl, k'⟩
      have K1 : Hid (TW S x E r sc dn w W1) := k'
      have hx1 := k'.lt
      clear k'
      rw [HCV.out]
      go_wp2_with fail
      refine (letter_any' cv _).mono ?_
      rintro e w0 ⟨rfl, hw0⟩
      rw [hw0]
      clear hw0
      have kcm := HD.out K1.out.tm HFr.out.1 HFr.out.2.1 HFr.out.2.2 HB.out 2 (.inl rfl)
      rw [HPF.out] at kcm
      go_wp2_with fail
      refine kcm.mono ?_
      rintro e w9 h9
      have H9 : Hid (Tokd S x E T dn w e w9) := by
        show Tokd _ _ _ _ _ _ _ _
        rw [HTT.out]
        exact Tokd.from K1.out h9
      obtain ⟨ao, T9, cap, rfl, _⟩ := h9
      clear kcm
      go_wp2_with fail
      go_ret
      exact H9.out
    | false =>
      by_cases h63 : cv = 63
      · have g63 : (cv == 63) = true := by simp [h63]
        have HTT : Hid (T = bogusR (c0 :: r) (sc.fsd (sc.fs ++ [(14, frN E.N r)])) r) := by
          show T = _
          rw [← HT.out]
          unfold openR
          rw [hcv, if_neg (by omega), if_neg (by omega), if_neg (by rw [hlt]; decide), if_pos h63]
          rfl
        clear hcv hno h63
        go_enter Try.func38, Try.ntmps38
        go_wp2_with fail
        rw [HW0.out]
        go_wp2_with fail
        refine K0.out.c.mono ?_
        rintro e W1 ⟨rfl, k'⟩
        have K1 : Hid (TW S x E r sc dn w W1) := k'
        have hx1 := k'.lt
        clear k'
        rw [HCV.out]
        go_wp2_with fail
        refine (letter_any' cv _).mono ?_
        rintro e w0 ⟨rfl, hw0⟩
        rw [hw0]
        clear hw0
        go_wp2_with fail
        refine K1.out.byteAt.mono ?_
        rintro e W2 ⟨rfl, k'⟩
        have K2 : Hid (TW S x E r sc dn w W2) := k'
        have hx2 := k'.lt
        clear k'
        obtain ⟨av, hav⟩ : ∃ av, frN E.N r = av := ⟨_, rfl⟩
        have HAV : Hid (frN E.N r = av) := hav
        rw [hav]
        clear hav
        go_wp2_with fail
        refine (K2.out.tfl 14 av (by have := HB.out; omega)).mono ?_
        rintro e W3 ⟨rfl, k'⟩
        have K3 : Hid (TW S x E r (sc.fsd (sc.fs ++ [(14, av)])) dn w W3) := k'
        have hx3 := k'.lt
        clear k'
        have kcm := bogus_any' K3.out.tm HFr.out.1 HFr.out.2.1 HFr.out.2.2
        rw [HPF.out] at kcm
        go_wp2_with fail
        refine kcm.mono ?_
        rintro e w9 h9
        have H9 : Hid (Tokd S x E T dn w e w9) := by
          show Tokd _ _ _ _ _ _ _ _
          rw [HTT.out, HAV.out]
          exact Tokd.from K3.out h9
        obtain ⟨ao, T9, cap, rfl, _⟩ := h9
        clear kcm
        go_wp2_with fail
        go_ret
        exact H9.out
      · have g63 : (cv == 63) = false := by simp [h63]
        have HTT : Hid (T = (toldR (c0 :: r) r, sc.fsd (sc.fs ++ [(5, frN E.N r)]), r)) := by
          show T = _
          rw [← HT.out]
          unfold openR
          rw [hcv, if_neg (by omega), if_neg (by omega), if_neg (by rw [hlt]; decide), if_neg h63]
          rfl
        clear hcv hno h63
        go_enter Try.func38, Try.ntmps38
        go_wp2_with fail
        rw [HW0.out]
        go_wp2_with fail
        refine K0.out.c.mono ?_
        rintro e W1 ⟨rfl, k'⟩
        have K1 : Hid (TW S x E r sc dn w W1) := k'
        have hx1 := k'.lt
        clear k'
        rw [HCV.out]
        go_wp2_with fail
        refine (letter_any' cv _).mono ?_
        rintro e w0 ⟨rfl, hw0⟩
        rw [hw0]
        clear hw0
        go_wp2_with fail
        refine K1.out.byteAt.mono ?_
        rintro e W2 ⟨rfl, k'⟩
        have K2 : Hid (TW S x E r sc dn w W2) := k'
        have hx2 := k'.lt
        clear k'
        obtain ⟨av, hav⟩ : ∃ av, frN E.N r = av := ⟨_, rfl⟩
        have HAV : Hid (frN E.N r = av) := hav
        rw [hav]
        clear hav
        go_wp2_with fail
        refine (K2.out.tfl 5 av (by have := HB.out; omega)).mono ?_
        rintro e W3 ⟨rfl, k'⟩
        have K3 : Hid (TW S x E r (sc.fsd (sc.fs ++ [(5, av)])) dn w W3) := k'
        have hx3 := k'.lt
        clear k'
        have kcm := told_any K3.out.tm (F := c0 :: r) (List.suffix_cons _ _) HFr.out.1
        rw [HPF.out] at kcm
        go_wp2_with fail
        refine kcm.mono ?_
        rintro e w9 h9
        have H9 : Hid (Tokd S x E T dn w e w9) := by
          show Tokd _ _ _ _ _ _ _ _
          rw [HTT.out, HAV.out]
          exact Tokd.from K3.out h9
        obtain ⟨ao, T9, cap, rfl, _⟩ := h9
        clear kcm
        go_wp2_with fail
        go_ret
        exact H9.out
end Go.Proofs.Ytkbakbacomidbaa
