/- cdata: three characters and more. -/
import Derived.Test.YtkbakbacomidbaaProg
import Derived.Below
import Derived.BigCall
import Derived.BigQuiet
import Derived.BigRegion
import Derived.Deep.DeepCutAuto
import Derived.Deep.LoopGhost
import Derived.Deep.QuietTactic
import Derived.Deep.RegionHeld3
import Derived.Deep.RegionLaw
import Derived.Deep.RegionWith
import Derived.Deep.Upon
import Derived.Laws.AppendOwn
import Derived.Laws.BytesArg
import Derived.Laws.EntriesVeiled
import Derived.Laws.IdiomStrings
import Derived.Laws.StructEq
import Derived.Lib.AppendStr
import Derived.Lib.RuneBytes
import Derived.Maps.AppendAt
import Derived.Maps.OwnSet
import Derived.OwnWalk
import Derived.ScopeJumps
import Derived.Shelf.Abstract
import Derived.Shelf.Small.Strs
import Derived.Shelf.Strings.Builder1
import Derived.Shelf.Strings.BuilderF
import Derived.Shelf.Strings.BuilderK
import Derived.Shelf.Strings.BuilderRune
import Derived.Shelf.Strings.Prefix
import Derived.StillTailTactics
import Derived.StringKeys
import Derived.WalkArith
import Derived.WalkKit
import Derived.WalkLawsBesides
import Derived.WalkMore
import Derived.WalkSpells
import Derived.Test.YtkbakbacomidbaaYi
import Derived.Test.YtkbakbacomidbaaYn
import Derived.Test.YtkbakbacomidbaaYo
import Derived.Test.YtkbakbacomidbaaYm
namespace Go.Proofs.Ytkbakbacomidbaa
open Go.RowKit
theorem enc_is' {r : Int} {b : UInt8} (hb : b.toNat < 128) : enc r = [b] ↔ r = (b.toNat : Int) := by
  by_cases h0 : 0 ≤ r
  · exact enc_is h0 hb
  · constructor
    · intro h
      have h1 := (enc_all (r := r) (fun h => h0 h.1)).2 b (by rw [h]; simp)
      omega
    · intro h
      omega
theorem isW_any {b : UInt8} {w : List UInt8} {c : Ch} {t : List Ch} (hb : b.toNat < 128) : isW false (b :: w) (c :: t) = (decide (c.r = (b.toNat : Int)) && isW false w t) := by
  rw [isW_step]
  congr 1
  exact decide_eq_decide.2 (show enc c.r = [b] ↔ c.r = (b.toNat : Int) from enc_is' hb)
set_option maxHeartbeats 4000000 in
set_option maxRecDepth 20000 in
theorem cd_any : CdAny := by
  intro S x E c t0 sc dn w h
  obtain ⟨cr, ca, cz⟩ := c
  match t0, h with
  | [], h =>
    have e : cdR sc [⟨cr, ca, cz⟩] = (toldR [⟨cr, ca, cz⟩] [], sc, []) := by
      unfold cdR
      rw [if_neg (fun hw => by have := isw_len hw; simp at this)]
      rfl
    rw [e]
    exact cd_short h (by simp)
  | [d], h =>
    have e : cdR sc [⟨cr, ca, cz⟩, d] = (toldR [⟨cr, ca, cz⟩, d] [d], sc, [d]) := by
      unfold cdR
      rw [if_neg (fun hw => by have := isw_len hw; simp at this)]
      rfl
    rw [e]
    exact cd_short h (by simp)
  | ⟨dr, da, dz⟩ :: ⟨er, ea, ez⟩ :: t, h =>
    have K0 : Hid (TW S x E (⟨cr, ca, cz⟩ :: ⟨dr, da, dz⟩ :: ⟨er, ea, ez⟩ :: t) sc dn w w) := TW.start h
    have hxw := h.lt
    obtain ⟨fv, h1⟩ := h
    have hsuf := h1.suf
    have hfew := h1.few
    have hcap := h1.cap
    obtain ⟨p, hp⟩ : ∃ p : Nat, E.L.length - (⟨cr, ca, cz⟩ :: ⟨dr, da, dz⟩ :: ⟨er, ea, ez⟩ :: t).length = p := ⟨_, rfl⟩
    have hrl := hsuf.length_le
    have hpp : pos E (⟨cr, ca, cz⟩ :: ⟨dr, da, dz⟩ :: ⟨er, ea, ez⟩ :: t) = (p : Int) := by unfold pos; simp only [List.length_cons] at hrl hp ⊢; omega
    have hat : ∀ (k : Nat) (c : Ch), (⟨cr, ca, cz⟩ :: ⟨dr, da, dz⟩ :: ⟨er, ea, ez⟩ :: t)[k]? = some c → E.L[p + k]? = some c := fun k c hk => by
      obtain ⟨q, hq⟩ := hsuf
      have e1 : q.length = p := by rw [← hp, ← hq]; simp only [List.length_append, List.length_cons]; omega
      rw [← hq, List.getElem?_append_right (by omega), show p + k - q.length = k by omega]
      exact hk
    obtain ⟨bb, off, elo, hbb, q1, _⟩ := h1.row.now _ _ (hat 1 _ rfl)
    obtain ⟨bb', off', elo', _, q2, _⟩ := h1.row.now _ _ (hat 2 _ rfl)
    rw [elo] at elo'
    simp at elo'
    obtain ⟨rfl, rfl⟩ := elo'
    have q1 : w.cell? ⟨bb, off + (p + 1) * 3, none⟩ = some (.int .i64 dr) := q1
    have q2 : w.cell? ⟨bb, off + (p + 2) * 3, none⟩ = some (.int .i64 er) := q2
    obtain ⟨a1, a2, a3, a4, a5⟩ := K0.out.at
    rw [hpp] at a1 a3 a4
    rw [elo] at a5
    obtain ⟨L0, hL0⟩ : ∃ L0, E.L.length = L0 := ⟨_, rfl⟩
    rw [hL0] at a5 hfew hcap hrl hp
    have hpl : p + 2 < L0 := by simp only [List.length_cons] at hrl hp; omega
    have g1 : decide ((p : Int) + 2 < (L0 : Int)) = true := decide_eq_true (by omega)
    have i1 : (p : Int) + 1 < (L0 : Int) := by omega
    have i2 : (p : Int) + 2 < (L0 : Int) := by omega
    have j1 : (0 : Int) ≤ (p : Int) + 1 := by omega
    have j2 : (0 : Int) ≤ (p : Int) + 2 := by omega
    have n1 : ((p : Int) + 1).toNat = p + 1 := by omega
    have n2 : ((p : Int) + 2).toNat = p + 2 := by omega
    have m1 : ¬ (p : Int) + 1 < 0 := by omega
    have m2 : ¬ (p : Int) + 2 < 0 := by omega
    have w1 : IntKind.i64.wrap ((p : Int) + 1) = (p : Int) + 1 := by rw [IntKind.wrap_i64]; omega
    have w2 : IntKind.i64.wrap ((p : Int) + 2) = (p : Int) + 2 := by rw [IntKind.wrap_i64]; omega
    have HC : Hid (∀ n, Calls Try.prog 32 #[mp x] (w.drewN n) fun e w' => e = .returned (.int .i64 cr) ∧ ∃ m, w' = w.drewN m) := fun n => by
      refine (c_any (K0.out.below (G9.below_drewN (Below.refl _ _) n)).tm).mono ?_
      rintro e w' ⟨rfl, m, rfl⟩
      exact ⟨rfl, _, World.drewN_drewN _ _ _⟩
    obtain ⟨v, hv⟩ : ∃ v, isW false [93, 93, 62] (⟨cr, ca, cz⟩ :: ⟨dr, da, dz⟩ :: ⟨er, ea, ez⟩ :: t) = v := ⟨_, rfl⟩
    have HV : Hid ((decide (cr = 93) && (decide (dr = 93) && (decide (er = 62) && true))) = v) := by
      show _ = v
      rw [← hv, isW_any (by decide), isW_any (by decide), isW_any (by decide)]
      rfl
    obtain ⟨T, hT⟩ : ∃ T, cdR sc (⟨cr, ca, cz⟩ :: ⟨dr, da, dz⟩ :: ⟨er, ea, ez⟩ :: t) = T := ⟨_, rfl⟩
    have HT : Hid ((if v = true then ([], { sc with cd := false }, t) else (toldR (⟨cr, ca, cz⟩ :: ⟨dr, da, dz⟩ :: ⟨er, ea, ez⟩ :: t) (⟨dr, da, dz⟩ :: ⟨er, ea, ez⟩ :: t), sc, ⟨dr, da, dz⟩ :: ⟨er, ea, ez⟩ :: t)) = T ∧ (⟨cr, ca, cz⟩ :: ⟨dr, da, dz⟩ :: ⟨er, ea, ez⟩ :: t) <:+ E.L ∧ pos E (⟨cr, ca, cz⟩ :: ⟨dr, da, dz⟩ :: ⟨er, ea, ez⟩ :: t) = (p : Int)) := by
      refine ⟨?_, hsuf, hpp⟩
      rw [← hT, ← hv]
      rfl
    rw [hT]
    clear h1 hsuf hp hrl hpp hat elo hL0 hv hT
    go_enter Try.func33, Try.ntmps33
    go_upto_region 1 with fail
    go_cut [48] (fun s wc => ∃ m, s = .bool v ∧ wc = w.drewN m)
    case first =>
      by_cases h1 : cr = 93
      · have g93 : (cr == 93) = true := by simp [h1]
        by_cases h2 : dr = 93
        · have e93 : (dr == 93) = true := by simp [h2]
          by_cases h3 : er = 62
          · have e62 : (er == 62) = true := by simp [h3]
            have HV2 : Hid (v = true) := by
              show v = _
              rw [← HV.out]
              simp [*]
            clear h1 h2 h3
            go_quiet (first | (go_at_call 32; exact HC.out _))
            go_wp2_with fail
            go_meet
            case rel => exact ⟨_, by rw [HV2.out], rfl⟩
          · have e62 : (er == 62) = false := by simp [h3]
            have HV2 : Hid (v = false) := by
              show v = _
              rw [← HV.out]
              simp [*]
            clear h1 h2 h3
            go_quiet (first | (go_at_call 32; exact HC.out _))
            go_wp2_with fail
            go_meet
            case rel => exact ⟨_, by rw [HV2.out], rfl⟩
        · have e93 : (dr == 93) = false := by simp [h2]
          have h3 : True := trivial
          have HV2 : Hid (v = false) := by
            show v = _
            rw [← HV.out]
            simp [*]
          clear h1 h2 h3
          go_quiet (first | (go_at_call 32; exact HC.out _))
          go_wp2_with fail
          go_meet
          case rel => exact ⟨_, by rw [HV2.out], rfl⟩
      · have g93 : (cr == 93) = false := by simp [h1]
        have h2 : True := trivial
        have h3 : True := trivial
        have HV2 : Hid (v = false) := by
          show v = _
          rw [← HV.out]
          simp [*]
        clear h1 h2 h3
        go_quiet (first | (go_at_call 32; exact HC.out _))
        go_wp2_with fail
        go_meet
        case rel => exact ⟨_, by rw [HV2.out], rfl⟩
    case rest =>
      obtain ⟨m, hu, hw⟩ := hcut
      obtain rfl := hw.symm
      have b1 : Below w.heap.size w (w.drewN m) := G9.below_drewN (Below.refl _ _) m
      have K1 : Hid (TW S x E (⟨cr, ca, cz⟩ :: ⟨dr, da, dz⟩ :: ⟨er, ea, ez⟩ :: t) sc dn w (w.drewN m)) := K0.out.below b1
      obtain ⟨W1, hW1⟩ : ∃ W1, w.drewN m = W1 := ⟨_, rfl⟩
      rw [hW1] at K1
      rw [hW1]
      clear hW1 a1 a2 a5 q1 q2 HC hw b1
      obtain ⟨a1, a2, b3, b4, _⟩ := K1.out.at
      rw [HT.out.2.2] at a1
      have hx1 := K1.out.lt
      cases v with
      | true =>
        subst hu
        have HTT : Hid (([], { sc with cd := false }, t) = T) := by
          have h0 := HT.out.1
          rw [if_pos rfl] at h0
          exact h0
        obtain ⟨fv, k1⟩ := K1.out.tm
        have f7 := k1.cells 7 _ rfl
        have f8 := k1.free 7
        have KA : Hid (TW S x E t { sc with cd := false } dn w ((W1.setCell ⟨x, 1, none⟩ (.int .i64 ((p : Int) + 3))).setCell ⟨x, 7, none⟩ (.bool false))) := (K1.out.go (((List.suffix_cons _ _).trans ((List.suffix_cons _ _).trans (List.suffix_cons _ _))).trans HT.out.2.1) ((p : Int) + 3) (by have := HT.out.2.2; unfold pos at this ⊢; simp only [List.length_cons] at this; omega)).setcd false
        clear k1 b3 b4
        go_wp2_with fail
        go_ret
        rw [← HTT.out]
        exact ⟨none, [], 0, rfl, rfl, Nat.le_refl _, TokR.nil _ _ _, KA.out⟩
      | false =>
        subst hu
        have HTT : Hid ((toldR (⟨cr, ca, cz⟩ :: ⟨dr, da, dz⟩ :: ⟨er, ea, ez⟩ :: t) (⟨dr, da, dz⟩ :: ⟨er, ea, ez⟩ :: t), sc, ⟨dr, da, dz⟩ :: ⟨er, ea, ez⟩ :: t) = T) := by
          have h0 := HT.out.1
          rw [if_neg (by decide)] at h0
          exact h0
        have KA : Hid (TW S x E (⟨dr, da, dz⟩ :: ⟨er, ea, ez⟩ :: t) sc dn w (W1.setCell ⟨x, 1, none⟩ (.int .i64 ((p : Int) + 1)))) := by rw [← HT.out.2.2]; exact K1.out.adv
        have hws : IntKind.i64.wrap ((p : Int) + 1 - 1) = (p : Int) := by rw [IntKind.wrap_i64]; omega
        have hs2 : (p : Int) + 1 - 1 = (p : Int) := by omega
        have kcm := told_any KA.out.tm (F := (⟨cr, ca, cz⟩ :: ⟨dr, da, dz⟩ :: ⟨er, ea, ez⟩ :: t)) (List.suffix_cons _ _) HT.out.2.1
        rw [HT.out.2.2] at kcm
        clear b3 b4
        go_wp2_with fail
        refine kcm.mono ?_
        rintro e w9 h9
        have H9 : Hid (Tokd S x E T dn w e w9) := by
          show Tokd _ _ _ _ _ _ _ _
          rw [← HTT.out]
          exact Tokd.from KA.out h9
        obtain ⟨ao, T9, cap, rfl, _⟩ := h9
        clear kcm
        go_wp2_with fail
        go_ret
        exact H9.out
end Go.Proofs.Ytkbakbacomidbaa
namespace Go.Proofs.Ytkbakbacomidbaa
open Go.RowKit
/-- What is told, and how much is left and found, is within these. -/
def Few (a k : Nat) (p : List Pt × Sc × List Ch) : Prop := p.1.length ≤ a ∧ p.2.1.fs.length + 8 * p.2.2.length ≤ k
theorem Few.mono {a k a' k' : Nat} {p : List Pt × Sc × List Ch} (h : Few a k p) (ha : a ≤ a') (hk : k ≤ k') : Few a' k' p := ⟨Nat.le_trans h.1 ha, Nat.le_trans h.2 hk⟩
theorem toldR_len (F r : List Ch) : (toldR F r).length ≤ F.length := by
  unfold toldR
  rw [List.length_map, List.length_take]
  omega
theorem bogus_few (F : List Ch) (sc : Sc) (r : List Ch) : Few 1 (sc.fs.length + 8 * r.length) (bogusR F sc r) := by
  have := (bogusR_suf F sc r).length_le
  exact ⟨Nat.le_refl _, by show sc.fs.length + _ ≤ _; omega⟩
theorem comR_few {N : Int} {F : List Ch} {sc : Sc} : ∀ (r : List Ch) (s : List UInt8), Few 1 (sc.fs.length + 8 * r.length + 1) (comR N F sc s r)
  | [], s => ⟨Nat.le_refl _, by simp [comR]⟩
  | c :: t, s => by
    unfold comR
    split
    · refine ⟨Nat.le_refl _, ?_⟩
      simp only [List.length_drop, List.length_cons]
      omega
    · split
      · refine ⟨Nat.le_refl _, ?_⟩
        simp only [List.length_drop, List.length_cons, List.length_append, List.length_nil]
        omega
      · refine (comR_few t _).mono (Nat.le_refl _) ?_
        simp only [List.length_cons]
        omega
theorem text_few (N : Int) (F : List Ch) (sc : Sc) (r : List Ch) : Few 1 (sc.fs.length + 8 * r.length + 1) (textR N F sc r) := by
  unfold textR
  split
  · refine ⟨Nat.le_refl _, ?_⟩
    simp only [List.length_tail, List.length_cons, List.length_append, List.length_nil]
    omega
  · split
    · refine ⟨Nat.le_refl _, ?_⟩
      simp only [List.length_drop, List.length_cons, List.length_append, List.length_nil]
      omega
    · exact comR_few r []
theorem doc_few (N : Int) (F : List Ch) (sc : Sc) (r : List Ch) : Few 1 (sc.fs.length + 8 * r.length + 3) (docR N F sc r) := by
  have h1 := (docR_suf N F sc r).length_le
  have h2 : (docR N F sc r).2.1.fs.length ≤ sc.fs.length + 3 := by
    unfold docR
    dsimp only
    split <;> split <;> split <;> simp
  exact ⟨Nat.le_refl _, by omega⟩
theorem markup_few (N : Int) (fo : Bool) (F : List Ch) (sc : Sc) (r : List Ch) : Few 1 (sc.fs.length + 8 * r.length + 3) (markupR N fo F sc r) := by
  unfold markupR
  split
  · refine (text_few N F sc (r.drop 2)).mono (Nat.le_refl _) ?_
    rw [List.length_drop]
    omega
  · split
    · refine (doc_few N F sc (r.drop 7)).mono (Nat.le_refl _) ?_
      rw [List.length_drop]
      omega
    · split
      · split
        · refine ⟨Nat.zero_le _, ?_⟩
          simp only [List.length_drop]
          omega
        · refine (bogus_few F _ r).mono (Nat.le_refl _) ?_
          simp only [List.length_append, List.length_cons, List.length_nil]
          omega
      · refine (bogus_few F _ r).mono (Nat.le_refl _) ?_
        simp only [List.length_append, List.length_cons, List.length_nil]
        omega
theorem skip_hd : ∀ {r : List Ch} {c : Ch} {t : List Ch}, skipB r = c :: t → blk c.r = false
  | [], c, t, h => by cases h
  | d :: u, c, t, h => by
    rw [skipB_cons] at h
    split at h
    · exact skip_hd h
    · next hb =>
      simp only [List.cons.injEq] at h
      rw [← h.1]
      simpa using hb
theorem tagL_few {N : Int} : ∀ (n : Nat) (A : List At) (sf : Bool) (fs : Fs) (r : List Ch), Once A → (tagL N n A sf fs r).2.1.length + 8 * (tagL N n A sf fs r).2.2.length ≤ fs.length + 8 * r.length + 1
  | 0, A, sf, fs, r, _ => by unfold tagL; dsimp only; omega
  | n + 1, A, sf, fs, r, hO => by
    have hl := skip_len r
    cases hr : skipB r with
    | nil =>
      rw [tagL_nil hr]
      simp
    | cons c t =>
      rw [hr] at hl
      simp only [List.length_cons] at hl
      by_cases h62 : c.r = 62
      · rw [tagL_gt hr h62]
        dsimp only
        omega
      · by_cases h47 : c.r = 47
        · rw [tagL_sl hr h47]
          split
          · have := tagL_few (N := N) n A true fs t hO
            omega
          · split
            · have := tagL_few (N := N) n A sf (fs ++ [(12, frN N t)]) t hO
              rw [List.length_append] at this
              simp only [List.length_cons, List.length_nil] at this
              omega
            · have := tagL_few (N := N) n A sf fs t hO
              omega
        · rw [tagL_at hr h62 h47]
          have h1 := tagL_few (N := N) n (addA A (attrR N A fs (c :: t))) sf (attrR N A fs (c :: t)).2.2.1 (attrR N A fs (c :: t)).2.2.2 (once_addA hO N fs _)
          have h2 := attrR_few (N := N) hO (fs := fs) (t := t) (skip_hd hr) h47 h62
          simp only [List.length_cons] at h2
          omega
theorem tag_few (N : Int) (F : List Ch) (kind : Int) (sc : Sc) (r : List Ch) : Few 1 (sc.fs.length + 8 * r.length + 2) (tagR N F kind sc r) := by
  unfold tagR
  have h1 := tagL_few (N := N) ((r.dropWhile nmC).length + 1) [] false sc.fs (r.dropWhile nmC) Once.nil
  have h2 : (r.dropWhile nmC).length ≤ r.length := (List.dropWhile_suffix _).length_le
  obtain ⟨p, hp⟩ : ∃ p, tagL N ((r.dropWhile nmC).length + 1) [] false sc.fs (r.dropWhile nmC) = p := ⟨_, rfl⟩
  rw [hp] at h1 ⊢
  obtain ⟨o, fs, r'⟩ := p
  dsimp only at h1
  cases o with
  | none => exact ⟨Nat.zero_le _, by show fs.length + 8 * r'.length ≤ _; omega⟩
  | some q =>
    obtain ⟨A, sf⟩ := q
    show Few _ _ (doneR F kind _ sc A sf fs r')
    unfold doneR
    split
    · exact ⟨Nat.le_refl _, by show fs.length + 8 * r'.length ≤ _; omega⟩
    · refine ⟨Nat.le_refl _, ?_⟩
      dsimp only
      split
      · rw [List.length_append]
        simp only [List.length_cons, List.length_nil]
        omega
      · omega
theorem endOpen_few (N : Int) (F : List Ch) (sc : Sc) (r : List Ch) : Few (F.length + 1) (sc.fs.length + 8 * r.length + 2) (endOpenR N F sc r) := by
  unfold endOpenR
  split
  · exact (tag_few N F 3 sc r).mono (by omega) (Nat.le_refl _)
  · split
    · refine ⟨Nat.zero_le _, ?_⟩
      simp only [List.length_tail, List.length_cons, List.length_append, List.length_nil]
      omega
    · split
      · refine ⟨Nat.le_trans (toldR_len _ _) (Nat.le_succ _), ?_⟩
        simp only [List.length_cons, List.length_append, List.length_nil]
        omega
      · refine (bogus_few F _ r).mono (by omega) ?_
        simp only [List.length_append, List.length_cons, List.length_nil]
        omega
theorem open_few (N : Int) (fo : Bool) (F : List Ch) (sc : Sc) (r : List Ch) : Few (F.length + 1) (sc.fs.length + 8 * r.length + 3) (openR N fo F sc r) := by
  unfold openR
  split
  · refine (markup_few N fo F sc r.tail).mono (by omega) ?_
    rw [List.length_tail]
    omega
  · split
    · refine (endOpen_few N F sc r.tail).mono (Nat.le_refl _) ?_
      rw [List.length_tail]
      omega
    · split
      · exact (tag_few N F 2 sc r).mono (by omega) (by omega)
      · split
        · refine (bogus_few F _ r).mono (by omega) ?_
          simp only [List.length_append, List.length_cons, List.length_nil]
          omega
        · refine ⟨Nat.le_trans (toldR_len _ _) (Nat.le_succ _), ?_⟩
          simp only [List.length_cons, List.length_append, List.length_nil]
          omega
theorem raw_few (N : Int) (F : List Ch) (sc : Sc) (r : List Ch) : Few (F.length + 1) (sc.fs.length + 8 * r.length + 2) (rawR N F sc r) := by
  unfold rawR
  split
  · dsimp only
    split
    · refine (tag_few N F 3 sc r.tail).mono (by omega) ?_
      rw [List.length_tail]
      omega
    · refine ⟨Nat.le_trans (toldR_len _ _) (Nat.le_succ _), ?_⟩
      have h1 : (r.tail.dropWhile isL).length ≤ r.tail.length := (List.dropWhile_suffix _).length_le
      rw [List.length_tail] at h1
      dsimp only
      omega
  · exact ⟨Nat.le_trans (toldR_len _ _) (Nat.le_succ _), by dsimp only; omega⟩
theorem next_few (N : Int) (fo : Bool) (sc : Sc) (c : Ch) (t : List Ch) : Few (t.length + 2) (sc.fs.length + 8 * t.length + 8) (nextR N fo sc (c :: t)) := by
  have ht := toldR_len (c :: t) t
  simp only [List.length_cons] at ht
  unfold nextR
  split
  · unfold cdR
    split
    · refine ⟨Nat.zero_le _, ?_⟩
      simp only [List.length_drop, List.length_cons]
      omega
    · exact ⟨Nat.le_trans ht (by omega), by show sc.fs.length + 8 * t.length ≤ _; omega⟩
  · split
    · have h1 := refP_codes G6.refs false (ahead (c :: t))
      have h2 : (refR false (c :: t)).2.2.length ≤ 3 := h1
      split
      · refine ⟨Nat.le_trans ht (by omega), ?_⟩
        dsimp only
        rw [List.length_append, refFaults_len, List.tail_cons]
        omega
      · refine ⟨by show 1 ≤ _; omega, ?_⟩
        dsimp only
        rw [List.length_append, refFaults_len, List.length_drop, List.length_cons]
        omega
    · split
      · exact (open_few N fo (c :: t) sc t).mono (by simp) (by omega)
      · split
        · exact (raw_few N (c :: t) sc t).mono (by simp) (by omega)
        · exact ⟨Nat.le_trans ht (by omega), by show sc.fs.length + 8 * t.length ≤ _; omega⟩
/-- What comes next, wherever the scanner is. -/
theorem next_all {S : Nat → Prop} {x : Nat} {E : Env} {c : Ch} {t : List Ch} {sc : Sc} {w : World} (h : Tm S x E (c :: t) sc false w) (hpos : ∀ d ∈ c :: t, 0 ≤ d.r) (hB : sc.fs.length + 8 * t.length + 16 ≤ 1000000000) : Calls Try.prog 27 #[mp x] w (Tokd S x E (nextR E.N E.fo sc (c :: t)) false w) := by
  obtain ⟨cr, ca, cz⟩ := c
  by_cases hno : sc.cd = true ∨ ¬ (cr = 38 ∧ (sc.text = 0 ∨ sc.text = 1))
  · exact next_any' cd_any doc_any tag_any h hpos hB hno
  · have h1 : sc.cd = false := by
      cases e : sc.cd with
      | false => rfl
      | true => exact absurd (.inl e) hno
    have h2 : cr = 38 ∧ (sc.text = 0 ∨ sc.text = 1) := Classical.byContradiction fun h => hno (.inr h)
    exact next_ref h hpos hB h1 h2.1 h2.2
end Go.Proofs.Ytkbakbacomidbaa
namespace Go.Proofs.Ytkbakbacomidbaa
open Go.RowKit
theorem tks_mu {w w' : World} {T : Tk} {L : List At} (H : TkS NoZ w T L) (hk : ∀ (d : Nat) (cur : Array Value) (z : Nat × Nat), w.heap[d]? = some (.cells cur 96 z) → w'.heap[d]? = w.heap[d]?) : TkS NoZ w' T L := by
  obtain ⟨⟨h1, h2, h3⟩, h4⟩ := H
  by_cases hL : L = []
  · subst hL
    exact ⟨⟨h1, G9.AtRow.nil _ _, h3⟩, fun e => absurd rfl e⟩
  · obtain ⟨d, cur, z, e1, e2, e3⟩ := h4 hL
    have e := hk d cur z e2
    refine ⟨⟨h1, fun i x hx => ?_, h3⟩, fun _ => ⟨d, cur, z, e1, e.trans e2, e3⟩⟩
    obtain ⟨b', off, r1, r2, r3, r4⟩ := h2 i x hx
    rw [e1] at r1
    cases r1
    refine ⟨d, 0, e1, ?_, ?_, ?_⟩
    · have := e.trans e2
      exact (Array.getElem?_eq_some_iff.1 this).1
    · rw [← r3]; simp [World.cell?, e]
    · rw [← r4]; simp [World.cell?, e]
/-- The scanner, and the tokens that were gathered. -/
structure WS (B x : Nat) (E : Env) (r : List Ch) (sc : Sc) (dn : Bool) (w : World) (ov : Value) (T : List TL) (W : World) : Prop where
  tw : TW (fun k => k < B) x E r sc dn w W
  own : Rw.own W (rwT ov T)
  out : ∀ g, ov.ownBlock = some g → B ≤ g
  toks : ∀ t ∈ T, TkS NoZ W t.1 t.2
theorem WS.low {B x : Nat} {E : Env} {r : List Ch} {sc : Sc} {dn : Bool} {w : World} {ov : Value} {T : List TL} {W : World} (h : WS B x E r sc dn w ov T W) : B ≤ W.heap.size := by
  apply Classical.byContradiction
  intro hlt
  exact Nat.lt_irrefl _ (h.tw.facts.2.2 W.heap.size (by omega))
theorem WS.next {B x : Nat} {E : Env} {r : List Ch} {sc : Sc} {dn : Bool} {w : World} {ov : Value} {T : List TL} {W : World} (h : WS B x E r sc dn w ov T W) {p : List Pt × Sc × List Ch} {dn' : Bool} (hc : ∀ S' : Nat → Prop, Tm S' x E r sc dn W → Calls Try.prog 27 #[mp x] W (Tokd S' x E p dn' W)) :
    Calls Try.prog 27 #[mp x] W fun e w' => ∃ ao T' cap, e = .returned (.slice ao T'.length cap) ∧ T'.map ptOf = p.1 ∧ T'.length ≤ cap ∧ WS B x E p.2.2 p.2.1 dn' w ov T w' ∧ TokR W.heap.size ao T' w' ∧ ∀ g, ov.ownBlock = some g → g < W.heap.size := by
  have hl : ∀ k : Nat, (∃ (cur : Array Value) (e : TypeId) (z : Nat × Nat), W.heap[k]? = some (.cells cur e z) ∧ e ≠ 56 ∧ e ≠ 64) → k < W.heap.size := fun k hk => by
    obtain ⟨cur, e, z, h1, _⟩ := hk
    exact (Array.getElem?_eq_some_iff.1 h1).1
  have hm := h.tw.more (fun k => ∃ (cur : Array Value) (e : TypeId) (z : Nat × Nat), W.heap[k]? = some (.cells cur e z) ∧ e ≠ 56 ∧ e ≠ 64) hl (fun k hk => hk)
  refine (hc _ hm.tm).mono ?_
  rintro e w' ⟨ao, T', cap, h1, h2, h3, h4, h5⟩
  have hb : ∀ k : Nat, (∃ (cur : Array Value) (e : TypeId) (z : Nat × Nat), W.heap[k]? = some (.cells cur e z) ∧ e ≠ 56 ∧ e ≠ 64) → w'.heap[k]? = W.heap[k]? := fun k hk => h5.keep.block k (.inr hk) (hl k hk)
  refine ⟨ao, T', cap, h1, h2, h3, ⟨h.tw.less h5 fun _ => .inl, own_mv h.own fun g hg => ?_, h.out, fun t ht => tks_mu (h.toks t ht) fun d cur z hd => hb d ⟨cur, 96, z, hd, by decide, by decide⟩⟩, h4, fun g hg => (own_blk h.own hg).1⟩
  obtain ⟨_, cur, z, hgb⟩ := own_blk h.own hg
  exact hb g ⟨cur, 39, z, hgb, by decide, by decide⟩
theorem WS.app {B x : Nat} {E : Env} {r : List Ch} {sc : Sc} {dn : Bool} {w : World} {ov : Value} {T : List TL} {W : World} (h : WS B x E r sc dn w ov T W) {W0 : Nat} {ao : Option Addr} {T' : List TL} (ht : TokR W0 ao T' W) (hg0 : ∀ g, ov.ownBlock = some g → g < W0) (hn : T.length + T'.length ≤ 1000000000000) (c : Nat) :
    ∃ ov' W', (Builtin.append_ #[22, 22] 22 #[ov, .slice ao T'.length c]).run Try.prog W = .ok ov' W' ∧ WS B x E r sc dn w ov' (T ++ T') W' ∧ G9.TkRow W' ao T' := by
  have hk : ∀ t ∈ T', TkS NoZ W t.1 t.2 := fun t htm => by
    obtain ⟨i, hi⟩ := List.mem_iff_getElem?.1 htm
    refine ⟨(ht.row i t hi).2, fun hL => ?_⟩
    obtain ⟨g, cur, z, h1, _, h3⟩ := ht.ab t htm hL
    exact ⟨g, cur, z, h1, h3, id⟩
  obtain ⟨ov', W', hrun, q1, q2, q3, _⟩ := out_app h.own ao c (Z := NoZ) ⟨ht.row, hk⟩ hn
  have hb : ∀ k : Nat, k < W.heap.size → ov.ownBlock ≠ some k → W'.heap[k]? = W.heap[k]? := fun k hk hne => q2.block k hk fun e => hne e.symm
  have hb49 : ∀ (d : Nat) (cur : Array Value) (z : Nat × Nat), W.heap[d]? = some (.cells cur 96 z) → W'.heap[d]? = W.heap[d]? := fun d cur z hd => hb d (Array.getElem?_eq_some_iff.1 hd).1 fun e => by
    obtain ⟨_, cur', z', h2⟩ := own_blk h.own e
    rw [hd] at h2
    simp at h2
  refine ⟨ov', W', hrun, ⟨h.tw.grown q2 fun g hg => ?_, q1, fun g hg => ?_, fun t htm => ?_⟩, fun i t hi => ?_⟩
  · obtain ⟨_, cur, z, hgb⟩ := own_blk h.own hg
    exact ⟨fun hlt => by have := h.out g hg; have hlt : g < B := hlt; omega, cur, 39, z, hgb, by decide, by decide⟩
  · rcases q3 with e | e
    · rw [e] at hg
      exact h.out g hg
    · rw [hg] at e
      have e := Option.some.inj e
      have := h.low
      omega
  · rcases List.mem_append.1 htm with htm | htm
    · exact tks_mu (h.toks t htm) hb49
    · exact tks_mu (hk t htm) hb49
  · obtain ⟨⟨b, off, e1, hbl, hc⟩, _⟩ := ht.row i t hi
    refine ⟨⟨b, off, e1, Nat.lt_of_lt_of_le hbl q2.size, fun j u hj => ?_⟩, (tks_mu (hk t (List.mem_of_getElem? hi)) hb49).1⟩
    rw [← hc j u hj]
    have hne : T' ≠ [] := fun e => by rw [e] at hi; simp at hi
    obtain ⟨g', cur, z, e2, hg', _⟩ := ht.rb hne
    rw [e1] at e2
    cases e2
    have := hb b hbl fun e => by have := hg0 b e; omega
    simp [World.cell?, this]
theorem WS.settext {B x : Nat} {E : Env} {r : List Ch} {sc : Sc} {dn : Bool} {w : World} {ov : Value} {T : List TL} {W : World} (h : WS B x E r sc dn w ov T W) (b : Int) : WS B x E r { sc with text := b } dn w ov T (W.setCell ⟨x, 3, none⟩ (.int .i64 b)) := by
  obtain ⟨fv, h1⟩ := h.tw.tm
  have hne : ∀ (k : Nat) (cur : Array Value) (e : TypeId) (z : Nat × Nat), W.heap[k]? = some (.cells cur e z) → e ≠ 56 → (W.setCell ⟨x, 3, none⟩ (.int .i64 b)).heap[k]? = W.heap[k]? := fun k cur e z hk he => Below.heap_setCell _ _ _ _ fun e2 => by
    have e2 : k = x := e2
    subst e2
    rw [h1.blk] at hk
    simp at hk
    exact he hk.2.1.symm
  refine ⟨h.tw.settext b, own_mv h.own fun g hg => ?_, h.out, fun t ht => tks_mu (h.toks t ht) fun d cur z hd => hne d cur 96 z hd (by decide)⟩
  obtain ⟨_, cur, z, hgb⟩ := own_blk h.own hg
  exact hne g cur 39 z hgb (by decide)
theorem WS.below {B x : Nat} {E : Env} {r : List Ch} {sc : Sc} {dn : Bool} {w : World} {ov : Value} {T : List TL} {W : World} {W' : World} (h : WS B x E r sc dn w ov T W) (b : Below W.heap.size W W') : WS B x E r sc dn w ov T W' := ⟨h.tw.below b, own_mv h.own fun g hg => b.block g (own_blk h.own hg).1, h.out, fun t ht => (h.toks t ht).below b⟩
theorem autoSc_fs (auto : Bool) (L : List Pt) (sc : Sc) : (autoSc auto L sc).fs = sc.fs := by
  unfold autoSc
  split
  · split <;> rfl
  · rfl
/-- What is still to be gathered. -/
def WR (auto fo : Bool) (N : Int) (L : List Pt) (F : Fs) (m g : Nat) (T : List TL) (sc : Sc) (r : List Ch) (dn : Bool) : Prop :=
  (dn = false ∧ r.length < g ∧ T.map ptOf ++ (refT auto fo N g sc r).1 = L ∧ (refT auto fo N g sc r).2 = F ∧ sc.fs.length + 8 * r.length ≤ 8 * m ∧ T.length + 200000 * r.length ≤ 200000 * m) ∨ (dn = true ∧ T.map ptOf = L ∧ sc.fs = F ∧ T.length ≤ 200000 * m + 1 ∧ sc.fs.length ≤ 8 * m)
theorem WR.last {auto fo : Bool} {N : Int} {L : List Pt} {F : Fs} {m g : Nat} {T : List TL} {sc : Sc} (h : WR auto fo N L F m (g + 1) T sc [] false) {T' : List TL} (hT : T'.map ptOf = [eofP6 N]) : WR auto fo N L F m g (T ++ T') (autoSc auto [eofP6 N] sc) [] true := by
  rcases h with ⟨_, h1, h2, h3, h4, h5⟩ | ⟨h, _⟩
  · have e1 : refT auto fo N (g + 1) sc [] = ([eofP6 N], sc.fs) := by unfold refT; rw [if_pos rfl]
    rw [e1] at h2 h3
    have l1 : T'.length = 1 := by have := congrArg List.length hT; simpa using this
    refine .inr ⟨rfl, ?_, ?_, ?_, ?_⟩
    · rw [List.map_append, hT]
      exact h2
    · rw [autoSc_fs]
      exact h3
    · rw [List.length_append, l1]
      simp only [List.length_nil] at h5
      omega
    · rw [autoSc_fs]
      simp only [List.length_nil] at h4
      omega
  · cases h
theorem WR.step {auto fo : Bool} {N : Int} {L : List Pt} {F : Fs} {m g : Nat} {T : List TL} {sc : Sc} {c : Ch} {t : List Ch} (h : WR auto fo N L F m (g + 1) T sc (c :: t) false) (_ : m ≤ 100000) (hpos : ∀ d ∈ t, 0 ≤ d.r) {T' : List TL} (hT : T'.map ptOf = (nextR N fo sc (c :: t)).1) (hl : T'.length ≤ 200000) : WR auto fo N L F m g (T ++ T') (autoSc auto (nextR N fo sc (c :: t)).1 (nextR N fo sc (c :: t)).2.1) (nextR N fo sc (c :: t)).2.2 false := by
  rcases h with ⟨_, h1, h2, h3, h4, h5⟩ | ⟨h, _⟩
  · have hs := (nextR_suf (N := N) (fo := fo) (sc := sc) (c := c) (t := t) hpos).length_le
    have hf := (next_few N fo sc c t).2
    have e1 : refT auto fo N (g + 1) sc (c :: t) = ((nextR N fo sc (c :: t)).1 ++ (refT auto fo N g (autoSc auto (nextR N fo sc (c :: t)).1 (nextR N fo sc (c :: t)).2.1) (nextR N fo sc (c :: t)).2.2).1, (refT auto fo N g (autoSc auto (nextR N fo sc (c :: t)).1 (nextR N fo sc (c :: t)).2.1) (nextR N fo sc (c :: t)).2.2).2) := by
      conv => lhs; unfold refT
      rw [if_neg (by simp)]
    rw [e1] at h2 h3
    simp only [List.length_cons] at h1 h4 h5
    refine .inl ⟨rfl, by omega, ?_, h3, ?_, ?_⟩
    · rw [List.map_append, hT, List.append_assoc]
      exact h2
    · rw [autoSc_fs]
      omega
    · rw [List.length_append]
      omega
  · cases h
theorem WR.few {auto fo : Bool} {N : Int} {L : List Pt} {F : Fs} {m g : Nat} {T : List TL} {sc : Sc} {r : List Ch} (h : WR auto fo N L F m g T sc r false) : r.length < g ∧ sc.fs.length + 8 * r.length ≤ 8 * m ∧ T.length ≤ 200000 * m := by
  rcases h with ⟨_, h1, h2, h3, h4, h5⟩ | ⟨h, _⟩
  · exact ⟨h1, h4, by omega⟩
  · cases h
theorem WR.done {auto fo : Bool} {N : Int} {L : List Pt} {F : Fs} {m g : Nat} {T : List TL} {sc : Sc} {r : List Ch} (h : WR auto fo N L F m g T sc r true) : T.map ptOf = L ∧ sc.fs = F ∧ T.length ≤ 200000 * m + 1 ∧ sc.fs.length ≤ 8 * m := by
  rcases h with ⟨h, _⟩ | ⟨_, h⟩
  · cases h
  · exact h
/-- A round of the gathering: what comes next, and what is left then. -/
theorem WR.go {auto : Bool} {E : Env} {L : List Pt} {F : Fs} {m g : Nat} {T : List TL} {sc : Sc} {r : List Ch} (h : WR auto E.fo E.N L F m (g + 1) T sc r false) (hm : m ≤ 100000) (hpos : ∀ d ∈ r, 0 ≤ d.r) :
    ∃ (p : List Pt × Sc × List Ch) (dn' : Bool), (∀ (x : Nat) (W : World) (S' : Nat → Prop), Tm S' x E r sc false W → Calls Try.prog 27 #[mp x] W (Tokd S' x E p dn' W)) ∧ p.1.length ≤ 200000 ∧ ∀ T' : List TL, T'.map ptOf = p.1 → WR auto E.fo E.N L F m g (T ++ T') (autoSc auto p.1 p.2.1) p.2.2 dn' := by
  obtain ⟨f1, f2, f3⟩ := h.few
  cases r with
  | nil => exact ⟨([eofP6 E.N], sc, []), true, fun x W S' hk => next_end hk, by show 1 ≤ _; decide, fun T' hT => h.last hT⟩
  | cons c t =>
    simp only [List.length_cons] at f1 f2
    have hl := (next_few E.N E.fo sc c t).1
    refine ⟨nextR E.N E.fo sc (c :: t), false, fun x W S' hk => next_all hk hpos (by omega), by omega, fun T' hT => h.step hm (fun d hd => hpos d (List.mem_cons_of_mem _ hd)) hT ?_⟩
    have := congrArg List.length hT
    rw [List.length_map] at this
    omega
end Go.Proofs.Ytkbakbacomidbaa
