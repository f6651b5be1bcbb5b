/- What comes next, of characters that are not none, and where no reference is met. -/
import Derived.Test.YtkbakbacomidbaaProg
import Derived.Below
import Derived.BigCall
import Derived.BigQuiet
import Derived.BigRegion
import Derived.Deep.DeepCutAuto
import Derived.Deep.LoopGhost
import Derived.Deep.QuietTactic
import Derived.Deep.RegionHeld3
import Derived.Deep.RegionLaw
import Derived.Deep.RegionWith
import Derived.Deep.Upon
import Derived.Laws.AppendOwn
import Derived.Laws.BytesArg
import Derived.Laws.EntriesVeiled
import Derived.Laws.IdiomStrings
import Derived.Laws.StructEq
import Derived.Lib.AppendStr
import Derived.Lib.RuneBytes
import Derived.Maps.AppendAt
import Derived.Maps.OwnSet
import Derived.OwnWalk
import Derived.ScopeJumps
import Derived.Shelf.Abstract
import Derived.Shelf.Small.Strs
import Derived.Shelf.Strings.Builder1
import Derived.Shelf.Strings.BuilderF
import Derived.Shelf.Strings.BuilderK
import Derived.Shelf.Strings.BuilderRune
import Derived.Shelf.Strings.Prefix
import Derived.StillTailTactics
import Derived.StringKeys
import Derived.WalkArith
import Derived.WalkKit
import Derived.WalkLawsBesides
import Derived.WalkMore
import Derived.WalkSpells
import Derived.Test.YtkbakbacomidbaaYh
namespace Go.Proofs.Ytkbakbacomidbaa
open Go.RowKit
def CdAny : Prop := ∀ {S : Nat → Prop} {x : Nat} {E : Env} {c : Ch} {t : List Ch} {sc : Sc} {dn : Bool} {w : World} (_ : Tm S x E (c :: t) sc dn w), Calls Try.prog 33 #[mp x] w (Tokd S x E (cdR sc (c :: t)) dn w)
set_option maxHeartbeats 4000000 in
set_option maxRecDepth 20000 in
theorem next_any' (hcd : CdAny) (hdoc : DocAny) (htag : TagAny) {S : Nat → Prop} {x : Nat} {E : Env} {cr ca cz : Int} {t : List Ch} {sc : Sc} {w : World} (h : Tm S x E (⟨cr, ca, cz⟩ :: t) sc false w) (hpos : ∀ d ∈ (⟨cr, ca, cz⟩ : Ch) :: t, 0 ≤ d.r) (hB : sc.fs.length + 8 * t.length + 16 ≤ 1000000000) (hno : sc.cd = true ∨ ¬ (cr = 38 ∧ (sc.text = 0 ∨ sc.text = 1))) : Calls Try.prog 27 #[mp x] w (Tokd S x E (nextR E.N E.fo sc (⟨cr, ca, cz⟩ :: t)) false w) := by
  obtain ⟨dn, hdn⟩ : ∃ dn, false = dn := ⟨_, rfl⟩
  rw [hdn] at h ⊢
  have K0 : Hid (TW S x E (⟨cr, ca, cz⟩ :: t) sc dn w w) := TW.start h
  have hxw := h.lt
  have c8 : w.cell? ⟨x, 8, none⟩ = some (.bool false) := by obtain ⟨fv, h1⟩ := h; rw [hdn]; exact h1.cells 8 _ rfl
  obtain ⟨T, hT⟩ : ∃ T, nextR E.N E.fo sc (⟨cr, ca, cz⟩ :: t) = T := ⟨_, rfl⟩
  have HT : Hid (nextR E.N E.fo sc (⟨cr, ca, cz⟩ :: t) = T) := hT
  rw [hT]
  have HFr : Hid (⟨cr, ca, cz⟩ :: t <:+ E.L ∧ ∀ d ∈ t, 0 ≤ d.r) := ⟨K0.out.facts.2.1, fun d hd => hpos d (List.mem_cons_of_mem _ hd)⟩
  have HB : Hid (sc.fs.length + 8 * t.length + 16 ≤ 1000000000) := hB
  have HCD : Hid CdAny := @hcd
  have HDD : Hid DocAny := @hdoc
  have HD : Hid TagAny := @htag
  have hc0 : 0 ≤ cr := hpos ⟨cr, ca, cz⟩ (by simp)
  have gc0 : decide (cr < 0) = false := decide_eq_false (by omega)
  obtain ⟨tx, htx⟩ : ∃ tx, sc.text = tx := ⟨_, rfl⟩
  have HTX : Hid (sc.text = tx) := htx
  obtain ⟨pF, hpF⟩ : ∃ pF, pos E (⟨cr, ca, cz⟩ :: t) = pF := ⟨_, rfl⟩
  have HPF : Hid (pos E (⟨cr, ca, cz⟩ :: t) = pF) := hpF
  clear h hpos hT hB hcd hdoc htag hdn hpF
  go_enter Try.func27, Try.ntmps27
  go_wp2_with fail
  refine K0.out.cc.mono ?_
  rintro e W1 ⟨rfl, k'⟩
  have K1 : Hid (TW S x E (⟨cr, ca, cz⟩ :: t) sc dn w W1) := k'
  have hx1 := k'.lt
  obtain ⟨a1, a2, a3, a4, _⟩ := k'.at
  rw [HPF.out] at a1 a3 a4
  have c3 : W1.cell? ⟨x, 3, none⟩ = some (.int .i64 tx) := by obtain ⟨fv, h1⟩ := k'.tm; rw [← htx]; exact h1.cells 3 _ rfl
  have KA : Hid (TW S x E t sc dn w (W1.setCell ⟨x, 1, none⟩ (.int .i64 (pF + 1)))) := by rw [← HPF.out]; exact k'.adv
  cases hcdv : sc.cd with
  | true =>
    have c7 : W1.cell? ⟨x, 7, none⟩ = some (.bool true) := by obtain ⟨fv, h1⟩ := k'.tm; rw [← hcdv]; exact h1.cells 7 _ rfl
    have HTT : Hid (T = cdR sc (⟨cr, ca, cz⟩ :: t)) := by
      show T = _
      rw [← HT.out]
      unfold nextR
      rw [if_pos hcdv]
    clear k' htx hno hcdv hc0
    have kcm := HCD.out K1.out.tm
    go_wp2_with fail
    refine kcm.mono ?_
    rintro e w9 h9
    have H9 : Hid (Tokd S x E T dn w e w9) := by
      show Tokd _ _ _ _ _ _ _ _
      rw [HTT.out]
      exact Tokd.from K1.out h9
    obtain ⟨ao, T9, cap, rfl, _⟩ := h9
    clear kcm
    go_wp2_with fail
    go_ret
    exact H9.out
  | false =>
    have c7 : W1.cell? ⟨x, 7, none⟩ = some (.bool false) := by obtain ⟨fv, h1⟩ := k'.tm; rw [← hcdv]; exact h1.cells 7 _ rfl
    have hn38 : ¬ (cr = 38 ∧ (sc.text = 0 ∨ sc.text = 1)) := hno.elim (fun h => absurd h (by rw [hcdv]; decide)) id
    have HT1 : Hid ((if cr = 60 ∧ sc.text = 0 then openR E.N E.fo (⟨cr, ca, cz⟩ :: t) sc t else if cr = 60 ∧ sc.text ≠ 3 then rawR E.N (⟨cr, ca, cz⟩ :: t) sc t else (toldR (⟨cr, ca, cz⟩ :: t) t, sc, t)) = T) := by
      show _ = T
      rw [← HT.out]
      unfold nextR
      rw [if_neg (show ¬ sc.cd = true by rw [hcdv]; decide), if_neg (show ¬ (hd (⟨cr, ca, cz⟩ :: t) = 38 ∧ (sc.text = 0 ∨ sc.text = 1)) from hn38)]
      rfl
    rw [htx] at hn38
    by_cases h60 : cr = 60
    · have g38 : (cr == 38) = false := by simp [h60]
      have g60 : (cr == 60) = true := by simp [h60]
      by_cases ht0 : tx = 0
      · have gt0 : (tx == 0) = true := by simp [ht0]
        have HTT : Hid (T = openR E.N E.fo (⟨cr, ca, cz⟩ :: t) sc t) := by
          show T = _
          rw [← HT1.out, if_pos ⟨h60, by rw [htx]; exact ht0⟩]
        clear k' htx hno hcdv hc0 hn38 h60 ht0
        have kcm := open_any' HDD.out HD.out K1.out.tm HFr.out.2 HB.out
        go_wp2_with fail
        refine kcm.mono ?_
        rintro e w9 h9
        have H9 : Hid (Tokd S x E T dn w e w9) := by
          show Tokd _ _ _ _ _ _ _ _
          rw [HTT.out]
          exact Tokd.from K1.out h9
        obtain ⟨ao, T9, cap, rfl, _⟩ := h9
        clear kcm
        go_wp2_with fail
        go_ret
        exact H9.out
      · have gt0 : (tx == 0) = false := by simp [ht0]
        by_cases ht3 : tx = 3
        · have gt3 : (tx != 3) = false := by simp [ht3]
          have HTT : Hid (T = (toldR (⟨cr, ca, cz⟩ :: t) t, sc, t)) := by
            show T = _
            rw [← HT1.out, if_neg (fun h => ht0 (by rw [← htx]; exact h.2)), if_neg (fun h => h.2 (by rw [htx]; exact ht3))]
          clear k' htx hno hcdv hc0 hn38 h60 ht0 ht3
          have kcm := told_any KA.out.tm (F := ⟨cr, ca, cz⟩ :: t) (List.suffix_cons _ _) HFr.out.1
          rw [HPF.out] at kcm
          go_wp2_with fail
          refine kcm.mono ?_
          rintro e w9 h9
          have H9 : Hid (Tokd S x E T dn w e w9) := by
            show Tokd _ _ _ _ _ _ _ _
            rw [HTT.out]
            exact Tokd.from KA.out h9
          obtain ⟨ao, T9, cap, rfl, _⟩ := h9
          clear kcm
          go_wp2_with fail
          go_ret
          exact H9.out
        · have gt3 : (tx != 3) = true := by simp [ht3]
          have HTT : Hid (T = rawR E.N (⟨cr, ca, cz⟩ :: t) sc t) := by
            show T = _
            rw [← HT1.out, if_neg (fun h => ht0 (by rw [← htx]; exact h.2)), if_pos ⟨h60, fun h => ht3 (by rw [← htx]; exact h)⟩]
          clear k' htx hno hcdv hc0 hn38 h60 ht0 ht3
          have kcm := raw_any' HD.out K1.out.tm HFr.out.2 HB.out
          go_wp2_with fail
          refine kcm.mono ?_
          rintro e w9 h9
          have H9 : Hid (Tokd S x E T dn w e w9) := by
            show Tokd _ _ _ _ _ _ _ _
            rw [HTT.out]
            exact Tokd.from K1.out h9
          obtain ⟨ao, T9, cap, rfl, _⟩ := h9
          clear kcm
          go_wp2_with fail
          go_ret
          exact H9.out
    · have g60 : (cr == 60) = false := by simp [h60]
      have HTT : Hid (T = (toldR (⟨cr, ca, cz⟩ :: t) t, sc, t)) := by
        show T = _
        rw [← HT1.out, if_neg (fun h => h60 h.1), if_neg (fun h => h60 h.1)]
      by_cases h38 : cr = 38
      · have g38 : (cr == 38) = true := by simp [h38]
        have gt0 : (tx == 0) = false := by simp; exact fun h => hn38 ⟨h38, .inl h⟩
        have gt1 : (tx == 1) = false := by simp; exact fun h => hn38 ⟨h38, .inr h⟩
        clear k' htx hno hcdv hc0 hn38 h60 h38
        have kcm := told_any KA.out.tm (F := ⟨cr, ca, cz⟩ :: t) (List.suffix_cons _ _) HFr.out.1
        rw [HPF.out] at kcm
        go_wp2_with fail
        refine kcm.mono ?_
        rintro e w9 h9
        have H9 : Hid (Tokd S x E T dn w e w9) := by
          show Tokd _ _ _ _ _ _ _ _
          rw [HTT.out]
          exact Tokd.from KA.out h9
        obtain ⟨ao, T9, cap, rfl, _⟩ := h9
        clear kcm
        go_wp2_with fail
        go_ret
        exact H9.out
      · have g38 : (cr == 38) = false := by simp [h38]
        clear k' htx hno hcdv hc0 hn38 h60 h38
        have kcm := told_any KA.out.tm (F := ⟨cr, ca, cz⟩ :: t) (List.suffix_cons _ _) HFr.out.1
        rw [HPF.out] at kcm
        go_wp2_with fail
        refine kcm.mono ?_
        rintro e w9 h9
        have H9 : Hid (Tokd S x E T dn w e w9) := by
          show Tokd _ _ _ _ _ _ _ _
          rw [HTT.out]
          exact Tokd.from KA.out h9
        obtain ⟨ao, T9, cap, rfl, _⟩ := h9
        clear kcm
        go_wp2_with fail
        go_ret
        exact H9.out
end Go.Proofs.Ytkbakbacomidbaa
namespace Go.Proofs.Ytkbakbacomidbaa
open Go.RowKit
set_option maxHeartbeats 4000000 in
set_option maxRecDepth 20000 in
theorem next_ref {S : Nat → Prop} {x : Nat} {E : Env} {cr ca cz : Int} {t : List Ch} {sc : Sc} {w : World} (h : Tm S x E (⟨cr, ca, cz⟩ :: t) sc false w) (hpos : ∀ d ∈ (⟨cr, ca, cz⟩ : Ch) :: t, 0 ≤ d.r) (hB : sc.fs.length + 8 * t.length + 16 ≤ 1000000000) (hcd : sc.cd = false) (h38 : cr = 38) (htt : sc.text = 0 ∨ sc.text = 1) : Calls Try.prog 27 #[mp x] w (Tokd S x E (nextR E.N E.fo sc (⟨cr, ca, cz⟩ :: t)) false w) := by
  obtain ⟨dn, hdn⟩ : ∃ dn, false = dn := ⟨_, rfl⟩
  rw [hdn] at h ⊢
  have K0 : Hid (TW S x E (⟨cr, ca, cz⟩ :: t) sc dn w w) := TW.start h
  have hxw := h.lt
  have c8 : w.cell? ⟨x, 8, none⟩ = some (.bool false) := by obtain ⟨fv, h1⟩ := h; rw [hdn]; exact h1.cells 8 _ rfl
  obtain ⟨T, hT⟩ : ∃ T, nextR E.N E.fo sc (⟨cr, ca, cz⟩ :: t) = T := ⟨_, rfl⟩
  have HT : Hid ((if (refR false (⟨cr, ca, cz⟩ :: t)).2.1 = 0 then (toldR (⟨cr, ca, cz⟩ :: t) t, sc.fsd (sc.fs ++ Mc.refFaults (⟨cr, ca, cz⟩ :: t) (refR false (⟨cr, ca, cz⟩ :: t)).2.1 (refR false (⟨cr, ca, cz⟩ :: t)).2.2), t) else ([chT true ⟨(refR false (⟨cr, ca, cz⟩ :: t)).1, ca, Mc.toAt (⟨cr, ca, cz⟩ :: t) ((refR false (⟨cr, ca, cz⟩ :: t)).2.1 - 1)⟩], sc.fsd (sc.fs ++ Mc.refFaults (⟨cr, ca, cz⟩ :: t) (refR false (⟨cr, ca, cz⟩ :: t)).2.1 (refR false (⟨cr, ca, cz⟩ :: t)).2.2), (⟨cr, ca, cz⟩ :: t : List Ch).drop (refR false (⟨cr, ca, cz⟩ :: t)).2.1)) = T) := by
    show _ = T
    rw [← hT]
    unfold nextR
    rw [if_neg (show ¬ sc.cd = true by rw [hcd]; decide), if_pos (show hd (⟨cr, ca, cz⟩ :: t) = 38 ∧ (sc.text = 0 ∨ sc.text = 1) from ⟨h38, htt⟩)]
    rfl
  rw [hT]
  have HFr : Hid (⟨cr, ca, cz⟩ :: t <:+ E.L ∧ ∀ d ∈ (⟨cr, ca, cz⟩ : Ch) :: t, 0 ≤ d.r) := ⟨K0.out.facts.2.1, hpos⟩
  have HB : Hid (sc.fs.length + 3 ≤ 1000000000) := by show _ ≤ _; omega
  have hc0 : 0 ≤ cr := by omega
  have gc0 : decide (cr < 0) = false := decide_eq_false (by omega)
  have g38 : (cr == 38) = true := by simp [h38]
  obtain ⟨tx, htx⟩ : ∃ tx, sc.text = tx := ⟨_, rfl⟩
  have HTX : Hid (sc.text = tx ∧ sc.cd = false) := ⟨htx, hcd⟩
  rw [htx] at htt
  obtain ⟨pF, hpF⟩ : ∃ pF, pos E (⟨cr, ca, cz⟩ :: t) = pF := ⟨_, rfl⟩
  have HPF : Hid (pos E (⟨cr, ca, cz⟩ :: t) = pF) := hpF
  have hnn := refR_nn false (⟨cr, ca, cz⟩ :: t)
  have kr := fun W (hW : TW S x E (⟨cr, ca, cz⟩ :: t) sc dn w W) => hW.tref HFr.out.2 false HB.out
  have hrl := refR_len false (⟨cr, ca, cz⟩ :: t)
  obtain ⟨FF, hFF⟩ : ∃ FF, sc.faults (Mc.refFaults (⟨cr, ca, cz⟩ :: t) (refR false (⟨cr, ca, cz⟩ :: t)).2.1 (refR false (⟨cr, ca, cz⟩ :: t)).2.2) = FF := ⟨_, rfl⟩
  have HFF : Hid (sc.fsd (sc.fs ++ Mc.refFaults (⟨cr, ca, cz⟩ :: t) (refR false (⟨cr, ca, cz⟩ :: t)).2.1 (refR false (⟨cr, ca, cz⟩ :: t)).2.2) = FF) := hFF
  simp only [hFF] at kr
  clear h hpos hT hB hdn hpF hcd h38 htx hc0
  by_cases hn0 : (refR false (⟨cr, ca, cz⟩ :: t)).2.1 = 0
  · have HTT : Hid (T = (toldR (⟨cr, ca, cz⟩ :: t) t, FF, t)) := by
      show T = _
      rw [← HT.out, if_pos hn0, HFF.out]
    simp only [if_pos hn0] at kr
    simp only [hn0, List.drop_zero] at kr
    clear hn0 hFF hnn hrl
    rcases htt with ht | ht
    · have gt0 : (tx == 0) = true := by simp [ht]
      clear ht
      go_enter Try.func27, Try.ntmps27
      go_wp2_with fail
      refine K0.out.cc.mono ?_
      rintro e W1 ⟨rfl, k'⟩
      have K1 : Hid (TW S x E (⟨cr, ca, cz⟩ :: t) sc dn w W1) := k'
      have hx1 := k'.lt
      obtain ⟨a1, _, _, _, _⟩ := k'.at
      rw [HPF.out] at a1
      have c3 : W1.cell? ⟨x, 3, none⟩ = some (.int .i64 tx) := by obtain ⟨fv, h1⟩ := k'.tm; rw [← HTX.out.1]; exact h1.cells 3 _ rfl
      have c7 : W1.cell? ⟨x, 7, none⟩ = some (.bool false) := by obtain ⟨fv, h1⟩ := k'.tm; rw [← HTX.out.2]; exact h1.cells 7 _ rfl
      clear k'
      go_wp2_with fail
      refine K1.out.ba.mono ?_
      rintro e W2 ⟨rfl, k'⟩
      have K2 : Hid (TW S x E (⟨cr, ca, cz⟩ :: t) sc dn w W2) := k'
      have hx2 := k'.lt
      clear k' a1 c3 c7
      go_wp2_with fail
      refine (kr _ K2.out).mono ?_
      rintro e W3 ⟨rfl, k'⟩
      have K3 : Hid (TW S x E (⟨cr, ca, cz⟩ :: t) FF dn w W3) := k'
      have hx3 := k'.lt
      clear k' kr
      obtain ⟨a1, a2, a3, a4, _⟩ := K3.out.at
      rw [HPF.out] at a1 a3 a4
      have KA : Hid (TW S x E t FF dn w (W3.setCell ⟨x, 1, none⟩ (.int .i64 (pF + 1)))) := by rw [← HPF.out]; exact K3.out.adv
      have kcm := told_any KA.out.tm (F := ⟨cr, ca, cz⟩ :: t) (List.suffix_cons _ _) HFr.out.1
      rw [HPF.out] at kcm
      go_wp2_with fail
      refine kcm.mono ?_
      rintro e w9 h9
      have H9 : Hid (Tokd S x E T dn w e w9) := by
        show Tokd _ _ _ _ _ _ _ _
        rw [HTT.out]
        exact Tokd.from KA.out h9
      obtain ⟨ao, T9, cap, rfl, _⟩ := h9
      clear kcm
      go_wp2_with fail
      go_ret
      exact H9.out
    · have gt0 : (tx == 0) = false := by simp [ht]
      have gt1 : (tx == 1) = true := by simp [ht]
      clear ht
      go_enter Try.func27, Try.ntmps27
      go_wp2_with fail
      refine K0.out.cc.mono ?_
      rintro e W1 ⟨rfl, k'⟩
      have K1 : Hid (TW S x E (⟨cr, ca, cz⟩ :: t) sc dn w W1) := k'
      have hx1 := k'.lt
      obtain ⟨a1, _, _, _, _⟩ := k'.at
      rw [HPF.out] at a1
      have c3 : W1.cell? ⟨x, 3, none⟩ = some (.int .i64 tx) := by obtain ⟨fv, h1⟩ := k'.tm; rw [← HTX.out.1]; exact h1.cells 3 _ rfl
      have c7 : W1.cell? ⟨x, 7, none⟩ = some (.bool false) := by obtain ⟨fv, h1⟩ := k'.tm; rw [← HTX.out.2]; exact h1.cells 7 _ rfl
      clear k'
      go_wp2_with fail
      refine K1.out.ba.mono ?_
      rintro e W2 ⟨rfl, k'⟩
      have K2 : Hid (TW S x E (⟨cr, ca, cz⟩ :: t) sc dn w W2) := k'
      have hx2 := k'.lt
      clear k' a1 c3 c7
      go_wp2_with fail
      refine (kr _ K2.out).mono ?_
      rintro e W3 ⟨rfl, k'⟩
      have K3 : Hid (TW S x E (⟨cr, ca, cz⟩ :: t) FF dn w W3) := k'
      have hx3 := k'.lt
      clear k' kr
      obtain ⟨a1, a2, a3, a4, _⟩ := K3.out.at
      rw [HPF.out] at a1 a3 a4
      have KA : Hid (TW S x E t FF dn w (W3.setCell ⟨x, 1, none⟩ (.int .i64 (pF + 1)))) := by rw [← HPF.out]; exact K3.out.adv
      have kcm := told_any KA.out.tm (F := ⟨cr, ca, cz⟩ :: t) (List.suffix_cons _ _) HFr.out.1
      rw [HPF.out] at kcm
      go_wp2_with fail
      refine kcm.mono ?_
      rintro e w9 h9
      have H9 : Hid (Tokd S x E T dn w e w9) := by
        show Tokd _ _ _ _ _ _ _ _
        rw [HTT.out]
        exact Tokd.from KA.out h9
      obtain ⟨ao, T9, cap, rfl, _⟩ := h9
      clear kcm
      go_wp2_with fail
      go_ret
      exact H9.out
  · obtain ⟨rr, hrr⟩ : ∃ rr, (⟨cr, ca, cz⟩ :: t : List Ch).drop (refR false (⟨cr, ca, cz⟩ :: t)).2.1 = rr := ⟨_, rfl⟩
    obtain ⟨ro, hro⟩ : ∃ ro, (refR false (⟨cr, ca, cz⟩ :: t)).1 = ro := ⟨_, rfl⟩
    obtain ⟨z, hz⟩ : ∃ z, Mc.toAt (⟨cr, ca, cz⟩ :: t) ((refR false (⟨cr, ca, cz⟩ :: t)).2.1 - 1) = z := ⟨_, rfl⟩
    have HTT : Hid (T = ([chT true ⟨ro, ca, z⟩], FF, rr)) := by
      show T = _
      rw [← HT.out, if_neg hn0, HFF.out, hrr, hro, hz]
    have HEZ : Hid (rr.length < E.L.length ∧ endZ E.L rr = z) := by
      have h1 := HFr.out.1.length_le
      refine ⟨?_, ?_⟩
      · rw [← hrr, List.length_drop]
        simp only [List.length_cons] at h1 ⊢
        omega
      · rw [← hrr, ← hz]
        exact endZ_drop HFr.out.1 hn0 hrl
    simp only [if_neg hn0, hrr, hro] at kr
    rw [hro] at hnn
    clear hn0 hFF hrl hrr hro hz
    rcases htt with ht | ht
    · have gt0 : (tx == 0) = true := by simp [ht]
      clear ht
      go_enter Try.func27, Try.ntmps27
      go_wp2_with fail
      refine K0.out.cc.mono ?_
      rintro e W1 ⟨rfl, k'⟩
      have K1 : Hid (TW S x E (⟨cr, ca, cz⟩ :: t) sc dn w W1) := k'
      have hx1 := k'.lt
      obtain ⟨a1, _, _, _, _⟩ := k'.at
      rw [HPF.out] at a1
      have c3 : W1.cell? ⟨x, 3, none⟩ = some (.int .i64 tx) := by obtain ⟨fv, h1⟩ := k'.tm; rw [← HTX.out.1]; exact h1.cells 3 _ rfl
      have c7 : W1.cell? ⟨x, 7, none⟩ = some (.bool false) := by obtain ⟨fv, h1⟩ := k'.tm; rw [← HTX.out.2]; exact h1.cells 7 _ rfl
      clear k'
      go_wp2_with fail
      refine K1.out.ba.mono ?_
      rintro e W2 ⟨rfl, k'⟩
      have K2 : Hid (TW S x E (⟨cr, ca, cz⟩ :: t) sc dn w W2) := k'
      have hx2 := k'.lt
      clear k' a1 c3 c7
      go_wp2_with fail
      refine (kr _ K2.out).mono ?_
      rintro e W3 ⟨rfl, k'⟩
      have K3 : Hid (TW S x E rr FF dn w W3) := k'
      have hx3 := k'.lt
      clear k' kr
      go_wp2_with fail
      refine (K3.out.endz HEZ.out.1).mono ?_
      rintro e W4 ⟨rfl, k'⟩
      have K4 : Hid (TW S x E rr FF dn w W4) := k'
      have hx4 := k'.lt
      clear k'
      rw [HEZ.out.2]
      have H2 : Hid (Tokd S x E T dn w (.returned (.slice (some ⟨W4.heap.size, 0, none⟩) 1 1)) (W4.alloc (.cells #[.int .i64 1, .int .i64 ro, .string ⟨#[]⟩, .string ⟨#[]⟩, .slice none 0 0, .bool true, .int .i64 ca, .int .i64 z] 39))) := by
        show Tokd _ _ _ _ _ _ _ _
        rw [HTT.out]
        exact ⟨some ⟨W4.heap.size, 0, none⟩, [(⟨1, ro, ⟨#[]⟩, ⟨#[]⟩, none, 0, 0, true, ca, z⟩, [])], 1, rfl, rfl, Nat.le_refl _, TokR.one (w := w) (⟨1, ro, ⟨#[]⟩, ⟨#[]⟩, none, 0, 0, true, ca, z⟩, []) ⟨rfl, rfl⟩ K4.out.keep.size, K4.out.below ((Below.refl _ _).alloc (Nat.le_refl _) _)⟩
      go_wp2_with fail
      go_ret
      exact H2.out
    · have gt0 : (tx == 0) = false := by simp [ht]
      have gt1 : (tx == 1) = true := by simp [ht]
      clear ht
      go_enter Try.func27, Try.ntmps27
      go_wp2_with fail
      refine K0.out.cc.mono ?_
      rintro e W1 ⟨rfl, k'⟩
      have K1 : Hid (TW S x E (⟨cr, ca, cz⟩ :: t) sc dn w W1) := k'
      have hx1 := k'.lt
      obtain ⟨a1, _, _, _, _⟩ := k'.at
      rw [HPF.out] at a1
      have c3 : W1.cell? ⟨x, 3, none⟩ = some (.int .i64 tx) := by obtain ⟨fv, h1⟩ := k'.tm; rw [← HTX.out.1]; exact h1.cells 3 _ rfl
      have c7 : W1.cell? ⟨x, 7, none⟩ = some (.bool false) := by obtain ⟨fv, h1⟩ := k'.tm; rw [← HTX.out.2]; exact h1.cells 7 _ rfl
      clear k'
      go_wp2_with fail
      refine K1.out.ba.mono ?_
      rintro e W2 ⟨rfl, k'⟩
      have K2 : Hid (TW S x E (⟨cr, ca, cz⟩ :: t) sc dn w W2) := k'
      have hx2 := k'.lt
      clear k' a1 c3 c7
      go_wp2_with fail
      refine (kr _ K2.out).mono ?_
      rintro e W3 ⟨rfl, k'⟩
      have K3 : Hid (TW S x E rr FF dn w W3) := k'
      have hx3 := k'.lt
      clear k' kr
      go_wp2_with fail
      refine (K3.out.endz HEZ.out.1).mono ?_
      rintro e W4 ⟨rfl, k'⟩
      have K4 : Hid (TW S x E rr FF dn w W4) := k'
      have hx4 := k'.lt
      clear k'
      rw [HEZ.out.2]
      have H2 : Hid (Tokd S x E T dn w (.returned (.slice (some ⟨W4.heap.size, 0, none⟩) 1 1)) (W4.alloc (.cells #[.int .i64 1, .int .i64 ro, .string ⟨#[]⟩, .string ⟨#[]⟩, .slice none 0 0, .bool true, .int .i64 ca, .int .i64 z] 39))) := by
        show Tokd _ _ _ _ _ _ _ _
        rw [HTT.out]
        exact ⟨some ⟨W4.heap.size, 0, none⟩, [(⟨1, ro, ⟨#[]⟩, ⟨#[]⟩, none, 0, 0, true, ca, z⟩, [])], 1, rfl, rfl, Nat.le_refl _, TokR.one (w := w) (⟨1, ro, ⟨#[]⟩, ⟨#[]⟩, none, 0, 0, true, ca, z⟩, []) ⟨rfl, rfl⟩ K4.out.keep.size, K4.out.below ((Below.refl _ _).alloc (Nat.le_refl _) _)⟩
      go_wp2_with fail
      go_ret
      exact H2.out
end Go.Proofs.Ytkbakbacomidbaa
namespace Go.Proofs.Ytkbakbacomidbaa
open Go.RowKit
theorem TW.setdn {S : Nat → Prop} {x : Nat} {E : Env} {r : List Ch} {sc : Sc} {dn : Bool} {w W : World} (h : TW S x E r sc dn w W) (b : Bool) : TW S x E r sc b w (W.setCell ⟨x, 8, none⟩ (.bool b)) := by
  obtain ⟨fv, h1⟩ := h.tm
  obtain ⟨q1, q2⟩ := h1.set (r' := r) (sc' := sc) (dn' := b) 8 (.bool b) (by simp [Env.cells]) h1.suf rfl
  exact ⟨⟨fv, q1⟩, h.keep.trans q2⟩
set_option maxHeartbeats 4000000 in
set_option maxRecDepth 20000 in
theorem next_end {S : Nat → Prop} {x : Nat} {E : Env} {sc : Sc} {w : World} (h : Tm S x E [] sc false w) : Calls Try.prog 27 #[mp x] w (Tokd S x E ([eofP6 E.N], sc, []) true w) := by
  have K0 : Hid (TW S x E [] sc false w w) := TW.start h
  have hxw := h.lt
  have c8 : w.cell? ⟨x, 8, none⟩ = some (.bool false) := by obtain ⟨fv, h1⟩ := h; exact h1.cells 8 _ rfl
  clear h
  go_enter Try.func27, Try.ntmps27
  go_wp2_with fail
  refine K0.out.c0.mono ?_
  rintro e W1 ⟨rfl, k'⟩
  have K1 : Hid (TW S x E [] sc false w W1) := k'
  have hx1 := k'.lt
  obtain ⟨d8, d9⟩ : W1.cell? ⟨x, 8, none⟩ = some (.bool false) ∧ W1.frozen? ⟨x, 8, none⟩ = false := by obtain ⟨fv, h1⟩ := k'.tm; exact ⟨h1.cells 8 _ rfl, h1.free 8⟩
  obtain ⟨W2, hW2⟩ : ∃ W2, W1.setCell ⟨x, 8, none⟩ (.bool true) = W2 := ⟨_, rfl⟩
  have HW2 : Hid (W1.setCell ⟨x, 8, none⟩ (.bool true) = W2) := hW2
  have K2 : Hid (TW S x E [] sc true w W2) := by rw [← hW2]; exact k'.setdn true
  have hx2 := K2.out.lt
  have c2 : W2.cell? ⟨x, 2, none⟩ = some (.int .i64 E.N) := by obtain ⟨fv, h1⟩ := K2.out.tm; exact h1.cells 2 _ rfl
  obtain ⟨N, hN⟩ : ∃ N, E.N = N := ⟨_, rfl⟩
  rw [hN] at c2
  have HN : Hid (E.N = N) := hN
  have hin : Cn ⟨x, 2, none⟩ (.int .i64 N) ⟨x, 2, none⟩ (.int .i64 N) W2 W2 := ⟨c2, c2, Below.refl _ _⟩
  clear k' hW2 hN
  go_wp2_with fail
  rw [HW2.out]
  go_wp2_with fail
  go_region_held3 (fun w' => w'.cell? ⟨x, 2, none⟩ = some (.int .i64 N) ∧ w'.cell? ⟨x, 2, none⟩ = some (.int .i64 N) ∧ Below W2.heap.size W2 w')
    (first | assumption | exact cn_keep (by assumption) hx2 hx2 | exact cn_alloc (by assumption) hx2 hx2 | go_keep)
    (fail)
  have H2 : Hid (Tokd S x E ([eofP6 E.N], sc, []) true w (.returned (.slice (some ⟨W2.heap.size, 0, none⟩) 1 1)) (W2.alloc (.cells #[.int .i64 6, .int .i64 0, .string ⟨#[]⟩, .string ⟨#[]⟩, .slice none 0 0, .bool false, .int .i64 N, .int .i64 N] 39)).drew) :=
    ⟨some ⟨W2.heap.size, 0, none⟩, [(⟨6, 0, ⟨#[]⟩, ⟨#[]⟩, none, 0, 0, false, N, N⟩, [])], 1, rfl, by rw [HN.out]; rfl, Nat.le_refl _, (TokR.one (w := w) (⟨6, 0, ⟨#[]⟩, ⟨#[]⟩, none, 0, 0, false, N, N⟩, []) ⟨rfl, rfl⟩ K2.out.keep.size).below ((Below.refl _ _).drew), (K2.out.below ((Below.refl _ _).alloc (Nat.le_refl _) _)).below ((Below.refl _ _).drew)⟩
  clear hin
  go_wp2_with fail
  go_ret
  exact H2.out
end Go.Proofs.Ytkbakbacomidbaa
namespace Go.Proofs.Ytkbakbacomidbaa
open Go.RowKit
set_option maxHeartbeats 4000000 in
set_option maxRecDepth 20000 in
theorem cd_short {S : Nat → Prop} {x : Nat} {E : Env} {cr ca cz : Int} {t : List Ch} {sc : Sc} {dn : Bool} {w : World} (h : Tm S x E (⟨cr, ca, cz⟩ :: t) sc dn w) (hl : t.length < 2) : Calls Try.prog 33 #[mp x] w (Tokd S x E (toldR (⟨cr, ca, cz⟩ :: t) t, sc, t) dn w) := by
  have K0 : Hid (TW S x E (⟨cr, ca, cz⟩ :: t) sc dn w w) := TW.start h
  have hxw := h.lt
  obtain ⟨a1, a2, a3, a4, a5⟩ := K0.out.at
  obtain ⟨hfew, hsuf, _⟩ := K0.out.facts
  have hrl := hsuf.length_le
  obtain ⟨pF, hpF⟩ : ∃ pF, pos E (⟨cr, ca, cz⟩ :: t) = pF := ⟨_, rfl⟩
  have HPF : Hid (pos E (⟨cr, ca, cz⟩ :: t) = pF ∧ ⟨cr, ca, cz⟩ :: t <:+ E.L) := ⟨hpF, hsuf⟩
  have hge : ¬ pF + 2 < (E.L.length : Int) := by
    rw [← hpF]
    unfold pos
    simp only [List.length_cons] at hrl ⊢
    omega
  rw [hpF] at a1 a3 a4
  obtain ⟨L0, hL0⟩ : ∃ L0, E.L.length = L0 := ⟨_, rfl⟩
  rw [hL0] at a5 hge hfew
  have g1 : decide (pF + 2 < (L0 : Int)) = false := decide_eq_false hge
  have hwp : IntKind.i64.wrap (pF + 2) = pF + 2 := by rw [IntKind.wrap_i64]; omega
  clear h hl hsuf hrl hpF hge hL0
  go_enter Try.func33, Try.ntmps33
  go_wp2_with fail
  go_quiet (fail)
  have K1 : Hid (TW S x E (⟨cr, ca, cz⟩ :: t) sc dn w (w.drewN nq)) := K0.out.below (G9.below_drewN (Below.refl _ _) nq)
  have KA : Hid (TW S x E t sc dn w ((w.drewN nq).setCell ⟨x, 1, none⟩ (.int .i64 (pF + 1)))) := by rw [← HPF.out.1]; exact K1.out.adv
  have hws : IntKind.i64.wrap (pF + 1 - 1) = pF := by rw [IntKind.wrap_i64]; omega
  have hs2 : pF + 1 - 1 = pF := by omega
  have kcm := told_any KA.out.tm (F := ⟨cr, ca, cz⟩ :: t) (List.suffix_cons _ _) HPF.out.2
  rw [HPF.out.1] at kcm
  go_wp2_with fail
  refine kcm.mono ?_
  rintro e w9 h9
  have H9 : Hid (Tokd S x E (toldR (⟨cr, ca, cz⟩ :: t) t, sc, t) dn w e w9) := Tokd.from KA.out h9
  obtain ⟨ao, T9, cap, rfl, _⟩ := h9
  clear kcm
  go_wp2_with fail
  go_ret
  exact H9.out
end Go.Proofs.Ytkbakbacomidbaa
