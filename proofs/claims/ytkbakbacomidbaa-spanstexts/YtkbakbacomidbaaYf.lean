/- The scanner reads a comment. -/
import Derived.Test.YtkbakbacomidbaaProg
import Derived.Below
import Derived.BigCall
import Derived.BigQuiet
import Derived.BigRegion
import Derived.Deep.DeepCutAuto
import Derived.Deep.LoopGhost
import Derived.Deep.QuietTactic
import Derived.Deep.RegionHeld3
import Derived.Deep.RegionLaw
import Derived.Deep.RegionWith
import Derived.Deep.Upon
import Derived.Laws.AppendOwn
import Derived.Laws.BytesArg
import Derived.Laws.EntriesVeiled
import Derived.Laws.IdiomStrings
import Derived.Laws.StructEq
import Derived.Lib.AppendStr
import Derived.Lib.RuneBytes
import Derived.Maps.AppendAt
import Derived.Maps.OwnSet
import Derived.OwnWalk
import Derived.ScopeJumps
import Derived.Shelf.Abstract
import Derived.Shelf.Small.Strs
import Derived.Shelf.Strings.Builder1
import Derived.Shelf.Strings.BuilderF
import Derived.Shelf.Strings.BuilderK
import Derived.Shelf.Strings.BuilderRune
import Derived.Shelf.Strings.Prefix
import Derived.StillTailTactics
import Derived.StringKeys
import Derived.WalkArith
import Derived.WalkKit
import Derived.WalkLawsBesides
import Derived.WalkMore
import Derived.WalkSpells
import Derived.Test.YtkbakbacomidbaaYd
import Derived.Test.YtkbakbacomidbaaYe
namespace Go.Proofs.Ytkbakbacomidbaa
open Go.RowKit
theorem TW.isw {S : Nat → Prop} {x : Nat} {E : Env} {r : List Ch} {sc : Sc} {dn : Bool} {w W : World} (h : TW S x E r sc dn w W) (word : List UInt8) (fold : Bool) (hwl : word.length ≤ 1000) : Calls Try.prog 60 #[mp x, .string (bs word), .bool fold] W fun e w' => e = .returned (.bool (isW fold word r)) ∧ TW S x E r sc dn w w' := by
  refine (is_any h.tm word fold hwl).mono ?_
  rintro e w' ⟨rfl, k'⟩
  exact ⟨rfl, h.trans k'⟩
theorem isw_len {fold : Bool} : ∀ {wd : List UInt8} {r : List Ch}, isW fold wd r = true → wd.length ≤ r.length
  | [], _, _ => Nat.zero_le _
  | _ :: _, [], h => by simp [isW] at h
  | b :: s, c :: t, h => by
    unfold isW at h
    rw [Bool.and_eq_true] at h
    have := isw_len h.2
    simp only [List.length_cons]
    omega
theorem pos_drop {E : Env} {r : List Ch} {n : Nat} (h : n ≤ r.length) : pos E r + n = pos E (r.drop n) := by
  unfold pos
  rw [List.length_drop]
  omega
/-- The character some places on lies in the row, whatever is told. -/
theorem TW.nth {S : Nat → Prop} {x : Nat} {E : Env} {r : List Ch} {sc : Sc} {dn : Bool} {w W : World} (h : TW S x E r sc dn w W) {k : Nat} {c : Ch} (hk : r[k]? = some c) : ∃ (bb off k1 : Nat), IntKind.i64.wrap (pos E r + k) = (k1 : Int) ∧ k1 < E.L.length ∧ E.L.length ≤ 100000 ∧ E.L.length ≤ E.cap ∧ ∀ (sc' : Sc) (w' W' : World), TW S x E r sc' dn w' W' → W'.cell? ⟨x, 0, none⟩ = some (.slice (some ⟨bb, off, none⟩) E.L.length E.cap) ∧ W'.cell? ⟨x, 1, none⟩ = some (.int .i64 (pos E r)) ∧ W'.cell? ⟨bb, off + k1 * 3 + 1, none⟩ = some (.int .i64 c.a) := by
  obtain ⟨fv, h1⟩ := h.tm
  have hrl := h1.suf.length_le
  have hkl := (List.getElem?_eq_some_iff.1 hk).1
  have hfew := h1.few
  have hLc : E.L[E.L.length - r.length + k]? = some c := by
    obtain ⟨q, hq⟩ := h1.suf
    have : q.length = E.L.length - r.length := by rw [← hq]; simp
    rw [← this]
    rw [← hq, List.getElem?_append_right (by omega), show q.length + k - q.length = k by omega]
    exact hk
  obtain ⟨bb, off, elo, _⟩ := h1.row.now _ _ hLc
  refine ⟨bb, off, E.L.length - r.length + k, ?_, by omega, hfew, h1.cap, fun sc' w' W' h' => ?_⟩
  · rw [IntKind.wrap_i64]
    unfold pos
    omega
  · obtain ⟨a1, _, _, _, a5⟩ := h'.at
    obtain ⟨fv', h2⟩ := h'.tm
    obtain ⟨bb', off', elo', _, _, q2, _⟩ := h2.row.now _ _ hLc
    rw [elo] at elo' a5
    simp at elo'
    obtain ⟨rfl, rfl⟩ := elo'
    exact ⟨a5, a1, q2⟩
set_option maxHeartbeats 4000000 in
set_option maxRecDepth 20000 in
theorem text_any {S : Nat → Prop} {x : Nat} {E : Env} {r : List Ch} {sc : Sc} {dn : Bool} {w : World} (h : Tm S x E r sc dn w) {c0 : Ch} {F : List Ch} (hF : c0 :: F <:+ E.L) (hr : r <:+ F) (hpos : ∀ d ∈ r, 0 ≤ d.r) (hB : sc.fs.length ≤ 1000000000) : Calls Try.prog 61 #[mp x, .int .i64 (pos E (c0 :: F))] w (Tokd S x E (textR E.N (c0 :: F) sc r) dn w) := by
  have K0 : Hid (TW S x E r sc dn w w) := TW.start h
  have hxw := h.lt
  obtain ⟨T, hT⟩ : ∃ T, textR E.N (c0 :: F) sc r = T := ⟨_, rfl⟩
  have HT : Hid (textR E.N (c0 :: F) sc r = T) := hT
  rw [hT]
  have HFr : Hid (c0 :: F <:+ E.L ∧ r <:+ F ∧ (∀ d ∈ r, 0 ≤ d.r) ∧ r.length ≤ 100000 ∧ sc.fs.length ≤ 1000000000 ∧ r <:+ E.L) := ⟨hF, hr, hpos, by have := K0.out.facts; have := this.2.1.length_le; omega, hB, K0.out.facts.2.1⟩
  obtain ⟨pF, hpF⟩ : ∃ pF, pos E (c0 :: F) = pF := ⟨_, rfl⟩
  have HPF : Hid (pos E (c0 :: F) = pF) := hpF
  rw [hpF]
  have HE0 : Hid (bs [] = ⟨#[]⟩) := rfl
  clear h hF hr hpos hpF hT hB
  cases hw1 : isW false [62] r with
  | true =>
    have HW1 : Hid (isW false [62] r = true) := hw1
    cases r with
    | nil => simp [isW] at hw1
    | cons c t =>
      obtain ⟨cr, ca, cz⟩ := c
      have HTT : Hid (T = (comT (c0 :: F) [] t, sc.fsd (sc.fs ++ [(15, ca)]), t)) := by
        show T = _
        rw [← HT.out]
        unfold textR
        rw [if_pos hw1]
        rfl
      have HSU : Hid (t <:+ E.L) := (List.suffix_cons _ _).trans HFr.out.2.2.2.2.2
      have HPS : Hid (pos E (⟨cr, ca, cz⟩ :: t) + 1 = pos E t) := pos_cons.symm
      clear hw1
      go_enter Try.func61, Try.ntmps61
      go_wp2_with fail
      refine (K0.out.isw [62] false (by decide)).mono ?_
      rintro e W1 ⟨rfl, k'⟩
      have K1 : Hid (TW S x E (⟨cr, ca, cz⟩ :: t) sc dn w W1) := k'
      have hx1 := k'.lt
      clear k'
      rw [HW1.out]
      go_wp2_with fail
      refine K1.out.ba.mono ?_
      rintro e W2 ⟨rfl, k'⟩
      have K2 : Hid (TW S x E (⟨cr, ca, cz⟩ :: t) sc dn w W2) := k'
      have hx2 := k'.lt
      clear k'
      go_wp2_with fail
      refine (K2.out.tfl 15 ca HFr.out.2.2.2.2.1).mono ?_
      rintro e W3 ⟨rfl, k'⟩
      have K3 : Hid (TW S x E (⟨cr, ca, cz⟩ :: t) (sc.fsd (sc.fs ++ [(15, ca)])) dn w W3) := k'
      have hx3 := k'.lt
      clear k'
      obtain ⟨a1, a2, a3, a4, _⟩ := K3.out.at
      have KA0 := K3.out.go (r' := t) (HSU.out) (pos E (⟨cr, ca, cz⟩ :: t) + 1) (HPS.out)
      obtain ⟨pq, hpq⟩ : ∃ p, pos E (⟨cr, ca, cz⟩ :: t) = p := ⟨_, rfl⟩
      rw [hpq] at a1 a3 a4 KA0
      have KA : Hid (TW S x E t (sc.fsd (sc.fs ++ [(15, ca)])) dn w (W3.setCell ⟨x, 1, none⟩ (.int .i64 (pq + 1)))) := KA0
      clear hpq KA0
      have kcm := comment_any' KA.out.tm HFr.out.1 (by have h2 := HFr.out.2.1.length_le; simp only [List.length_cons] at h2; omega) []
      rw [HPF.out, HE0.out] at kcm
      go_wp2_with fail
      refine kcm.mono ?_
      rintro e w9 h9
      have H9 : Hid (Tokd S x E T dn w e w9) := by
        show Tokd _ _ _ _ _ _ _ _
        rw [HTT.out]
        exact Tokd.from KA.out h9
      obtain ⟨ao, T9, cap, rfl, _⟩ := h9
      clear kcm
      go_wp2_with fail
      go_ret
      exact H9.out
  | false =>
    have HW1 : Hid (isW false [62] r = false) := hw1
    cases hw2 : isW false [45, 62] r with
    | true =>
      have HW2 : Hid (isW false [45, 62] r = true) := hw2
      have hl2 := isw_len hw2
      cases r with
      | nil => simp at hl2
      | cons c t1 => cases t1 with
        | nil => simp at hl2
        | cons d t =>
          obtain ⟨cr, ca, cz⟩ := c
          obtain ⟨dr, da, dz⟩ := d
          have HTT : Hid (T = (comT (c0 :: F) [] t, sc.fsd (sc.fs ++ [(15, da)]), t)) := by
            show T = _
            rw [← HT.out]
            unfold textR
            rw [if_neg (by rw [hw1]; decide), if_pos hw2]
            rfl
          have HSU : Hid (t <:+ E.L) := ((List.suffix_cons _ _).trans (List.suffix_cons _ _)).trans HFr.out.2.2.2.2.2
          have HPS : Hid (pos E (⟨cr, ca, cz⟩ :: ⟨dr, da, dz⟩ :: t) + 2 = pos E t) := pos_drop (n := 2) (by simp)
          clear hw1 hw2 hl2
          go_enter Try.func61, Try.ntmps61
          go_wp2_with fail
          refine (K0.out.isw [62] false (by decide)).mono ?_
          rintro e W1 ⟨rfl, k'⟩
          have K1 : Hid (TW S x E (⟨cr, ca, cz⟩ :: ⟨dr, da, dz⟩ :: t) sc dn w W1) := k'
          have hx1 := k'.lt
          clear k'
          rw [HW1.out]
          go_wp2_with fail
          refine (K1.out.isw [45, 62] false (by decide)).mono ?_
          rintro e W2 ⟨rfl, k'⟩
          have K2 : Hid (TW S x E (⟨cr, ca, cz⟩ :: ⟨dr, da, dz⟩ :: t) sc dn w W2) := k'
          have hx2 := k'.lt
          clear k'
          rw [HW2.out]
          obtain ⟨bb, off, k1, hwk, hk1, hL5, hLc, hcel⟩ := K2.out.nth (k := 1) (c := ⟨dr, da, dz⟩) rfl
          obtain ⟨L0, hL0⟩ : ∃ L0, E.L.length = L0 := ⟨_, rfl⟩
          obtain ⟨pk, hpk⟩ : ∃ pk, pos E (⟨cr, ca, cz⟩ :: ⟨dr, da, dz⟩ :: t) = pk := ⟨_, rfl⟩
          simp only [hL0, hpk] at hk1 hL5 hLc hcel hwk
          have HPK : Hid (pos E (⟨cr, ca, cz⟩ :: ⟨dr, da, dz⟩ :: t) = pk) := hpk
          have HCel : Hid (∀ (sc' : Sc) (w' W' : World), TW S x E (⟨cr, ca, cz⟩ :: ⟨dr, da, dz⟩ :: t) sc' dn w' W' → W'.cell? ⟨x, 0, none⟩ = some (.slice (some ⟨bb, off, none⟩) L0 E.cap) ∧ W'.cell? ⟨x, 1, none⟩ = some (.int .i64 pk) ∧ W'.cell? ⟨bb, off + k1 * 3 + 1, none⟩ = some (.int .i64 da)) := hcel
          have q0 := hcel _ _ _ K2.out
          obtain ⟨_, _, b3, b4, _⟩ := K2.out.at
          rw [hpk] at b3 b4
          have hk0 := K2.out.below ((Below.refl _ _).drew)
          have hwe : pk + 1 = (k1 : Int) := by rw [IntKind.wrap_i64] at hwk; omega
          have hki : pk + 1 < (L0 : Int) := by omega
          have h0i : (0 : Int) ≤ pk + 1 := by omega
          have htn : (pk + 1).toNat = k1 := by omega
          have hng : ¬ pk + 1 < 0 := by omega
          have hwp : IntKind.i64.wrap (pk + 1) = pk + 1 := by rw [IntKind.wrap_i64]; omega
          have HFt : Hid (∀ W, TW S x E (⟨cr, ca, cz⟩ :: ⟨dr, da, dz⟩ :: t) sc dn w W → Calls Try.prog 44 #[mp x, .int .i64 15, .int .i64 da] W fun e w' => e = .returned (.tuple #[]) ∧ TW S x E (⟨cr, ca, cz⟩ :: ⟨dr, da, dz⟩ :: t) (sc.fsd (sc.fs ++ [(15, da)])) dn w w') := fun W hW => hW.tfl 15 da HFr.out.2.2.2.2.1
          clear hcel hL0 hpk hwk hwe b3 b4
          go_wp2_with fail
          go_region_held3 (fun w' => w'.cell? ⟨x, 0, none⟩ = some (.slice (some ⟨bb, off, none⟩) L0 E.cap) ∧ w'.cell? ⟨x, 1, none⟩ = some (.int .i64 pk) ∧ w'.cell? ⟨bb, off + k1 * 3 + 1, none⟩ = some (.int .i64 da))
            (first | assumption | go_keep)
            (first
              | (go_at_call 44; refine (HFt.out _ (by assumption)).mono ?_; rintro e w'' ⟨rfl, hkk2⟩; have hcc2 := HCel.out _ _ _ hkk2))
          have K3 : Hid (TW S x E (⟨cr, ca, cz⟩ :: ⟨dr, da, dz⟩ :: t) (sc.fsd (sc.fs ++ [(15, da)])) dn w w'') := by assumption
          have hx3 := K3.out.lt
          clear hkk2 hcc2 hk0 q0
          obtain ⟨a1, a2, a3, a4, _⟩ := K3.out.at
          have KA0 := K3.out.go (r' := t) (HSU.out) (pos E (⟨cr, ca, cz⟩ :: ⟨dr, da, dz⟩ :: t) + 2) (HPS.out)
          have hpq := HPK.out
          rw [hpq] at a1 a3 a4 KA0
          have KA : Hid (TW S x E t (sc.fsd (sc.fs ++ [(15, da)])) dn w (w''.setCell ⟨x, 1, none⟩ (.int .i64 (pk + 2)))) := KA0
          clear hpq KA0
          have kcm := comment_any' KA.out.tm HFr.out.1 (by have h2 := HFr.out.2.1.length_le; simp only [List.length_cons] at h2; omega) []
          rw [HPF.out, HE0.out] at kcm
          go_wp2_with fail
          refine kcm.mono ?_
          rintro e w9 h9
          have H9 : Hid (Tokd S x E T dn w e w9) := by
            show Tokd _ _ _ _ _ _ _ _
            rw [HTT.out]
            exact Tokd.from KA.out h9
          obtain ⟨ao, T9, cap, rfl, _⟩ := h9
          clear kcm
          go_wp2_with fail
          go_ret
          exact H9.out
    | false =>
      have HW2 : Hid (isW false [45, 62] r = false) := hw2
      have HTT : Hid (comR E.N (c0 :: F) sc [] r = T) := by
        show _ = T
        rw [← HT.out]
        unfold textR
        rw [if_neg (by rw [hw1]; decide), if_neg (by rw [hw2]; decide)]
      clear hw1 hw2
      go_enter Try.func61, Try.ntmps61
      go_wp2_with fail
      refine (K0.out.isw [62] false (by decide)).mono ?_
      rintro e W1 ⟨rfl, k'⟩
      have K1 : Hid (TW S x E r sc dn w W1) := k'
      have hx1 := k'.lt
      clear k'
      rw [HW1.out]
      go_wp2_with fail
      refine (K1.out.isw [45, 62] false (by decide)).mono ?_
      rintro e W2 ⟨rfl, k'⟩
      have K2 : Hid (TW S x E r sc dn w W2) := k'
      have hx2 := k'.lt
      clear k'
      rw [HW2.out]
      go_wp2_with fail
      go_loopw [5] (fun sv wr => ∃ (q : List UInt8) (r' : List Ch), sv = .string (bs q) ∧ comR E.N (c0 :: F) sc q r' = T ∧ r' <:+ r ∧ q.length ≤ 4 * (r.length - r'.length) ∧ TW S x E r' sc dn w wr) (fun _ wr => E.L.length - atOf x wr)
      case atStart => exact ⟨[], r, rfl, HTT.out, List.suffix_refl _, Nat.zero_le _, K2.out⟩
      case round =>
        obtain ⟨q, r', rfl, hq, hsr, hql, hk⟩ := hrel
        clear K0 K1 K2 HW1 HW2
        have K0 : Hid (TW S x E r' sc dn w wr) := hk
        have hxr := hk.lt
        obtain ⟨sv, hsv⟩ : ∃ sv, bs q = sv := ⟨_, rfl⟩
        have hsz : sv.size ≤ 400000 := by
          rw [← hsv, bs_size]
          have := HFr.out.2.2.2.1
          omega
        have HV : Hid (bs q = sv) := hsv
        have HSR : Hid (r' <:+ r ∧ q.length ≤ 400000) := ⟨hsr, by have := HFr.out.2.2.2.1; omega⟩
        rw [hsv]
        cases r' with
        | nil =>
          have HTE : Hid (T = (comT (c0 :: F) (cutR q) [], sc.fsd (sc.fs ++ [(16, E.N)]), [])) := by
            show T = _
            rw [← hq]
            rfl
          clear hk hq hsr hql hsv
          go_wp2_with fail
          refine K0.out.c0.mono ?_
          rintro e W1 ⟨rfl, k'⟩
          have K1 : Hid (TW S x E [] sc dn w W1) := k'
          have hx1 := k'.lt
          clear k'
          have c2 : W1.cell? ⟨x, 2, none⟩ = some (.int .i64 E.N) := by obtain ⟨fv, h1⟩ := K1.out.tm; exact h1.cells 2 _ rfl
          go_wp2_with fail
          refine (K1.out.tfl 16 E.N HFr.out.2.2.2.2.1).mono ?_
          rintro e W2 ⟨rfl, k'⟩
          have K2 : Hid (TW S x E [] (sc.fsd (sc.fs ++ [(16, E.N)])) dn w W2) := k'
          have hx2 := k'.lt
          clear k' c2
          have kct := cut_any q W2 (by have := HSR.out.2; omega)
          rw [HV.out] at kct
          go_wp2_with fail
          refine kct.mono ?_
          rintro e W3 ⟨rfl, b3⟩
          have K3 : Hid (TW S x E [] (sc.fsd (sc.fs ++ [(16, E.N)])) dn w W3) := K2.out.below b3
          have hx3 := K3.out.lt
          clear b3 kct
          obtain ⟨cv, hcv⟩ : ∃ cv, bs (cutR q) = cv := ⟨_, rfl⟩
          have HCV : Hid (bs (cutR q) = cv) := hcv
          rw [hcv]
          clear hcv
          have kcm := comment_any' K3.out.tm HFr.out.1 (by simp) (cutR q)
          rw [HPF.out, HCV.out] at kcm
          go_wp2_with fail
          refine kcm.mono ?_
          rintro e w9 h9
          have H9 : Hid (Tokd S x E T dn w e w9) := by
            show Tokd _ _ _ _ _ _ _ _
            rw [HTE.out]
            exact Tokd.from K3.out h9
          obtain ⟨ao, T9, cap, rfl, _⟩ := h9
          clear kcm
          go_wp2_with fail
          go_ret
          exact H9.out
        | cons c t =>
          obtain ⟨cr, ca, cz⟩ := c
          have hc0 : 0 ≤ cr := HFr.out.2.2.1 ⟨cr, ca, cz⟩ (hsr.subset (by simp))
          have gc0 : decide (cr ≥ 0) = true := decide_eq_true (by omega)
          have hsE := hsr.trans HFr.out.2.2.2.2.2
          unfold comR at hq
          cases hw3 : isW false [45, 45, 62] (⟨cr, ca, cz⟩ :: t) with
          | true =>
            have HW3 : Hid (isW false [45, 45, 62] (⟨cr, ca, cz⟩ :: t) = true) := hw3
            rw [if_pos hw3] at hq
            have hl := isw_len hw3
            have HTE : Hid (T = (comT (c0 :: F) q ((⟨cr, ca, cz⟩ :: t : List Ch).drop 3), sc, (⟨cr, ca, cz⟩ :: t : List Ch).drop 3)) := hq.symm
            have HSU : Hid ((⟨cr, ca, cz⟩ :: t : List Ch).drop 3 <:+ E.L) := (List.drop_suffix _ _).trans hsE
            have HPS : Hid (pos E (⟨cr, ca, cz⟩ :: t) + 3 = pos E ((⟨cr, ca, cz⟩ :: t : List Ch).drop 3)) := pos_drop (n := 3) hl
            clear hk hq hsr hql hsv hw3 hl hc0 hsE
            go_wp2_with fail
            refine K0.out.cc.mono ?_
            rintro e W1 ⟨rfl, k'⟩
            have K1 : Hid (TW S x E (⟨cr, ca, cz⟩ :: t) sc dn w W1) := k'
            have hx1 := k'.lt
            clear k'
            go_wp2_with fail
            refine (K1.out.isw [45, 45, 62] false (by decide)).mono ?_
            rintro e W2 ⟨rfl, k'⟩
            have K2 : Hid (TW S x E (⟨cr, ca, cz⟩ :: t) sc dn w W2) := k'
            have hx2 := k'.lt
            clear k'
            rw [HW3.out]
            obtain ⟨a1, a2, a3, a4, _⟩ := K2.out.at
            have KA0 := K2.out.go (r' := ((⟨cr, ca, cz⟩ :: t : List Ch).drop 3)) (HSU.out) (pos E (⟨cr, ca, cz⟩ :: t) + 3) (HPS.out)
            obtain ⟨pq, hpq⟩ : ∃ p, pos E (⟨cr, ca, cz⟩ :: t) = p := ⟨_, rfl⟩
            rw [hpq] at a1 a3 a4 KA0
            have KA : Hid (TW S x E ((⟨cr, ca, cz⟩ :: t : List Ch).drop 3) sc dn w (W2.setCell ⟨x, 1, none⟩ (.int .i64 (pq + 3)))) := KA0
            clear hpq KA0
            have kcm := comment_any' KA.out.tm HFr.out.1 (by have h1 := HSR.out.1.length_le; have h2 := HFr.out.2.1.length_le; rw [List.length_drop]; omega) q
            rw [HPF.out, HV.out] at kcm
            go_wp2_with fail
            refine kcm.mono ?_
            rintro e w9 h9
            have H9 : Hid (Tokd S x E T dn w e w9) := by
              show Tokd _ _ _ _ _ _ _ _
              rw [HTE.out]
              exact Tokd.from KA.out h9
            obtain ⟨ao, T9, cap, rfl, _⟩ := h9
            clear kcm
            go_wp2_with fail
            go_ret
            exact H9.out
          | false =>
            have HW3 : Hid (isW false [45, 45, 62] (⟨cr, ca, cz⟩ :: t) = false) := hw3
            rw [if_neg (by rw [hw3]; decide)] at hq
            cases hw4 : isW false [45, 45, 33, 62] (⟨cr, ca, cz⟩ :: t) with
            | true =>
              have HW4 : Hid (isW false [45, 45, 33, 62] (⟨cr, ca, cz⟩ :: t) = true) := hw4
              rw [if_pos hw4] at hq
              have hl := isw_len hw4
              simp only [List.length_cons, List.length_nil] at hl
              match t, hl with
              | t1 :: t2 :: ⟨dr, da, dz⟩ :: t', _ =>
                have HTE : Hid (T = (comT (c0 :: F) q t', sc.fsd (sc.fs ++ [(15, da)]), t')) := hq.symm
                have HSU : Hid (t' <:+ E.L) := (List.drop_suffix 4 (⟨cr, ca, cz⟩ :: t1 :: t2 :: ⟨dr, da, dz⟩ :: t' : List Ch)).trans hsE
                have HPS : Hid (pos E (⟨cr, ca, cz⟩ :: t1 :: t2 :: ⟨dr, da, dz⟩ :: t') + 4 = pos E t') := pos_drop (n := 4) (by simp)
                clear hk hq hsr hql hsv hw3 hw4 hl hc0 hsE
                go_wp2_with fail
                refine K0.out.cc.mono ?_
                rintro e W1 ⟨rfl, k'⟩
                have K1 : Hid (TW S x E (⟨cr, ca, cz⟩ :: t1 :: t2 :: ⟨dr, da, dz⟩ :: t') sc dn w W1) := k'
                have hx1 := k'.lt
                clear k'
                go_wp2_with fail
                refine (K1.out.isw [45, 45, 62] false (by decide)).mono ?_
                rintro e W2 ⟨rfl, k'⟩
                have K2 : Hid (TW S x E (⟨cr, ca, cz⟩ :: t1 :: t2 :: ⟨dr, da, dz⟩ :: t') sc dn w W2) := k'
                have hx2 := k'.lt
                clear k'
                rw [HW3.out]
                go_wp2_with fail
                refine (K2.out.isw [45, 45, 33, 62] false (by decide)).mono ?_
                rintro e W3 ⟨rfl, k'⟩
                have K3 : Hid (TW S x E (⟨cr, ca, cz⟩ :: t1 :: t2 :: ⟨dr, da, dz⟩ :: t') sc dn w W3) := k'
                have hx3 := k'.lt
                clear k'
                rw [HW4.out]
                obtain ⟨bb, off, k1, hwk, hk1, hL5, hLc, hcel⟩ := K3.out.nth (k := 3) (c := ⟨dr, da, dz⟩) rfl
                obtain ⟨L0, hL0⟩ : ∃ L0, E.L.length = L0 := ⟨_, rfl⟩
                obtain ⟨pk, hpk⟩ : ∃ pk, pos E (⟨cr, ca, cz⟩ :: t1 :: t2 :: ⟨dr, da, dz⟩ :: t') = pk := ⟨_, rfl⟩
                simp only [hL0, hpk] at hk1 hL5 hLc hcel hwk
                have HPK : Hid (pos E (⟨cr, ca, cz⟩ :: t1 :: t2 :: ⟨dr, da, dz⟩ :: t') = pk) := hpk
                have HCel : Hid (∀ (sc' : Sc) (w' W' : World), TW S x E (⟨cr, ca, cz⟩ :: t1 :: t2 :: ⟨dr, da, dz⟩ :: t') sc' dn w' W' → W'.cell? ⟨x, 0, none⟩ = some (.slice (some ⟨bb, off, none⟩) L0 E.cap) ∧ W'.cell? ⟨x, 1, none⟩ = some (.int .i64 pk) ∧ W'.cell? ⟨bb, off + k1 * 3 + 1, none⟩ = some (.int .i64 da)) := hcel
                have q0 := hcel _ _ _ K3.out
                obtain ⟨_, _, b3, b4, _⟩ := K3.out.at
                rw [hpk] at b3 b4
                have hk0 := K3.out.below ((Below.refl _ _).drew)
                have hwe : pk + 3 = (k1 : Int) := by rw [IntKind.wrap_i64] at hwk; omega
                have hki : pk + 3 < (L0 : Int) := by omega
                have h0i : (0 : Int) ≤ pk + 3 := by omega
                have htn : (pk + 3).toNat = k1 := by omega
                have hng : ¬ pk + 3 < 0 := by omega
                have hwp : IntKind.i64.wrap (pk + 3) = pk + 3 := by rw [IntKind.wrap_i64]; omega
                have HFt : Hid (∀ W, TW S x E (⟨cr, ca, cz⟩ :: t1 :: t2 :: ⟨dr, da, dz⟩ :: t') sc dn w W → Calls Try.prog 44 #[mp x, .int .i64 15, .int .i64 da] W fun e w' => e = .returned (.tuple #[]) ∧ TW S x E (⟨cr, ca, cz⟩ :: t1 :: t2 :: ⟨dr, da, dz⟩ :: t') (sc.fsd (sc.fs ++ [(15, da)])) dn w w') := fun W hW => hW.tfl 15 da HFr.out.2.2.2.2.1
                clear hcel hL0 hpk hwk hwe b3 b4
                go_wp2_with fail
                go_region_held3 (fun w' => w'.cell? ⟨x, 0, none⟩ = some (.slice (some ⟨bb, off, none⟩) L0 E.cap) ∧ w'.cell? ⟨x, 1, none⟩ = some (.int .i64 pk) ∧ w'.cell? ⟨bb, off + k1 * 3 + 1, none⟩ = some (.int .i64 da))
                  (first | assumption | go_keep)
                  (first
                    | (go_at_call 44; refine (HFt.out _ (by assumption)).mono ?_; rintro e w'' ⟨rfl, hkk2⟩; have hcc2 := HCel.out _ _ _ hkk2))
                have K4 : Hid (TW S x E (⟨cr, ca, cz⟩ :: t1 :: t2 :: ⟨dr, da, dz⟩ :: t') (sc.fsd (sc.fs ++ [(15, da)])) dn w w'') := by assumption
                have hx4 := K4.out.lt
                clear hkk2 hcc2 hk0 q0
                obtain ⟨a1, a2, a3, a4, _⟩ := K4.out.at
                have KA0 := K4.out.go (r' := t') (HSU.out) (pos E (⟨cr, ca, cz⟩ :: t1 :: t2 :: ⟨dr, da, dz⟩ :: t') + 4) (HPS.out)
                have hpq := HPK.out
                rw [hpq] at a1 a3 a4 KA0
                have KA : Hid (TW S x E t' (sc.fsd (sc.fs ++ [(15, da)])) dn w (w''.setCell ⟨x, 1, none⟩ (.int .i64 (pk + 4)))) := KA0
                clear hpq KA0
                have kcm := comment_any' KA.out.tm HFr.out.1 (by have h1 := HSR.out.1.length_le; have h2 := HFr.out.2.1.length_le; simp only [List.length_cons] at h1; omega) q
                rw [HPF.out, HV.out] at kcm
                go_wp2_with fail
                refine kcm.mono ?_
                rintro e w9 h9
                have H9 : Hid (Tokd S x E T dn w e w9) := by
                  show Tokd _ _ _ _ _ _ _ _
                  rw [HTE.out]
                  exact Tokd.from KA.out h9
                obtain ⟨ao, T9, cap, rfl, _⟩ := h9
                clear kcm
                go_wp2_with fail
                go_ret
                exact H9.out
            | false =>
              have HW4 : Hid (isW false [45, 45, 33, 62] (⟨cr, ca, cz⟩ :: t) = false) := hw4
              rw [if_neg (by rw [hw4]; decide)] at hq
              have HN : Hid (comR E.N (c0 :: F) sc (q ++ enc cr) t = T ∧ t <:+ r ∧ (q ++ enc cr).length ≤ 4 * (r.length - t.length)) := by
                refine ⟨hq, (List.suffix_cons _ _).trans hsr, ?_⟩
                have := enc_len cr
                have h5 := hsr.length_le
                simp only [List.length_cons, List.length_append] at h5 hql ⊢
                omega
              have HM : Hid (E.L.length - atOf x wr = t.length + 1) := hk.meas
              have HSU : Hid (t <:+ E.L) := (List.suffix_cons _ _).trans hsE
              have HPS : Hid (pos E (⟨cr, ca, cz⟩ :: t) + 1 = pos E t) := pos_cons.symm
              clear hk hq hsr hql hsv hw3 hw4 hc0 hsE
              go_wp2_with fail
              refine K0.out.cc.mono ?_
              rintro e W1 ⟨rfl, k'⟩
              have K1 : Hid (TW S x E (⟨cr, ca, cz⟩ :: t) sc dn w W1) := k'
              have hx1 := k'.lt
              clear k'
              go_wp2_with fail
              refine (K1.out.isw [45, 45, 62] false (by decide)).mono ?_
              rintro e W2 ⟨rfl, k'⟩
              have K2 : Hid (TW S x E (⟨cr, ca, cz⟩ :: t) sc dn w W2) := k'
              have hx2 := k'.lt
              clear k'
              rw [HW3.out]
              go_wp2_with fail
              refine (K2.out.isw [45, 45, 33, 62] false (by decide)).mono ?_
              rintro e W3 ⟨rfl, k'⟩
              have K3 : Hid (TW S x E (⟨cr, ca, cz⟩ :: t) sc dn w W3) := k'
              have hx3 := k'.lt
              clear k'
              rw [HW4.out]
              go_wp2_with fail
              refine K3.out.cc.mono ?_
              rintro e W4 ⟨rfl, k'⟩
              have K4 : Hid (TW S x E (⟨cr, ca, cz⟩ :: t) sc dn w W4) := k'
              have hx4 := k'.lt
              clear k'
              go_wp2_with fail
              refine (enc_any' cr _).mono ?_
              rintro e W5 ⟨rfl, b4⟩
              have K5 : Hid (TW S x E (⟨cr, ca, cz⟩ :: t) sc dn w W5) := K4.out.below b4
              have hx5 := K5.out.lt
              obtain ⟨ev, hev⟩ : ∃ ev, bs (enc cr) = ev := ⟨_, rfl⟩
              have hez : ev.size ≤ 4 := by rw [← hev, bs_size]; exact enc_len cr
              have HEV : Hid (bs (enc cr) = ev) := hev
              rw [hev]
              clear b4 hev
              obtain ⟨a1, a2, a3, a4, _⟩ := K5.out.at
              have KA0 := K5.out.go (r' := t) (HSU.out) (pos E (⟨cr, ca, cz⟩ :: t) + 1) (HPS.out)
              obtain ⟨pq, hpq⟩ : ∃ p, pos E (⟨cr, ca, cz⟩ :: t) = p := ⟨_, rfl⟩
              rw [hpq] at a1 a3 a4 KA0
              have KA : Hid (TW S x E t sc dn w (W5.setCell ⟨x, 1, none⟩ (.int .i64 (pq + 1)))) := KA0
              clear hpq KA0
              go_wp2_with fail
              go_roundw
              case rel => exact ⟨q ++ enc cr, t, by rw [← bs_app, HV.out, HEV.out], HN.out.1, HN.out.2.1, HN.out.2.2, KA.out⟩
              case measure => rw [KA.out.meas, HM.out]; omega
end Go.Proofs.Ytkbakbacomidbaa
