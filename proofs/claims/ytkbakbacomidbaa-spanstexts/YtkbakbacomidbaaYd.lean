/- The scanner reads an attribute's value. -/
import Derived.Test.YtkbakbacomidbaaProg
import Derived.Below
import Derived.BigCall
import Derived.BigQuiet
import Derived.BigRegion
import Derived.Deep.DeepCutAuto
import Derived.Deep.LoopGhost
import Derived.Deep.QuietTactic
import Derived.Deep.RegionHeld3
import Derived.Deep.RegionLaw
import Derived.Deep.RegionWith
import Derived.Deep.Upon
import Derived.Laws.AppendOwn
import Derived.Laws.BytesArg
import Derived.Laws.EntriesVeiled
import Derived.Laws.IdiomStrings
import Derived.Laws.StructEq
import Derived.Lib.AppendStr
import Derived.Lib.RuneBytes
import Derived.Maps.AppendAt
import Derived.Maps.OwnSet
import Derived.OwnWalk
import Derived.ScopeJumps
import Derived.Shelf.Abstract
import Derived.Shelf.Small.Strs
import Derived.Shelf.Strings.Builder1
import Derived.Shelf.Strings.BuilderF
import Derived.Shelf.Strings.BuilderK
import Derived.Shelf.Strings.BuilderRune
import Derived.Shelf.Strings.Prefix
import Derived.StillTailTactics
import Derived.StringKeys
import Derived.WalkArith
import Derived.WalkKit
import Derived.WalkLawsBesides
import Derived.WalkMore
import Derived.WalkSpells
import Derived.Test.YtkbakbacomidbaaYb
import Derived.Test.YtkbakbacomidbaaYc
namespace Go.Proofs.Ytkbakbacomidbaa
open Go.RowKit
theorem piece_len (r : List Ch) (fs : Fs) : (pieceR r fs).1.length ≤ 4 := by
  unfold pieceR
  split
  · exact Nat.zero_le _
  · split
    · split <;> exact enc_len _
    · exact enc_len _
theorem refFaults_len (r : List Ch) (n : Nat) (codes : List Int) : (Mc.refFaults r n codes).length = codes.length := by
  unfold Mc.refFaults
  rw [List.length_map]
theorem piece_few (r : List Ch) (fs : Fs) : (pieceR r fs).2.1.length ≤ fs.length + 3 := by
  have := refP_codes G6.refs true (ahead r)
  have h2 : (refR true r).2.2.length ≤ 3 := this
  unfold pieceR
  split
  · simp
  · split
    · split <;> (dsimp only; rw [List.length_append, refFaults_len]; omega)
    · simp
theorem oddF_few (r : List Ch) (fs : Fs) : (oddF r fs).length ≤ fs.length + 1 := by
  unfold oddF
  split
  · omega
  · split
    · simp
    · omega
theorem TW.tfl {S : Nat → Prop} {x : Nat} {E : Env} {r : List Ch} {sc : Sc} {dn : Bool} {w W : World} (h : TW S x E r sc dn w W) (code at' : Int) (hn : sc.fs.length ≤ 1000000000) : Calls Try.prog 44 #[mp x, .int .i64 code, .int .i64 at'] W fun e w' => e = .returned (.tuple #[]) ∧ TW S x E r (sc.fsd (sc.fs ++ [(code, at')])) dn w w' := by
  refine (tfault_any h.tm code at' hn).mono ?_
  rintro e w' ⟨rfl, k'⟩
  exact ⟨rfl, h.trans k'⟩
theorem TW.piece {S : Nat → Prop} {x : Nat} {E : Env} {cr ca cz : Int} {t : List Ch} {sc : Sc} {dn : Bool} {w W : World} (h : TW S x E (⟨cr, ca, cz⟩ :: t) sc dn w W) (hpos : ∀ d ∈ (⟨cr, ca, cz⟩ : Ch) :: t, 0 ≤ d.r) (hB : sc.fs.length + 3 ≤ 1000000000) :
    Calls Try.prog 74 #[mp x] W fun e w' => e = .returned (.string (bs (pieceR (⟨cr, ca, cz⟩ :: t) sc.fs).1)) ∧ TW S x E (pieceR (⟨cr, ca, cz⟩ :: t) sc.fs).2.2 (sc.fsd (pieceR (⟨cr, ca, cz⟩ :: t) sc.fs).2.1) dn w w' := by
  refine (piece_any h.tm hpos hB).mono ?_
  rintro e w' ⟨rfl, k'⟩
  exact ⟨rfl, h.trans k'⟩
theorem skipB_cons (c : Ch) (t : List Ch) : skipB (c :: t) = if blk c.r = true then skipB t else c :: t := by
  unfold skipB
  rw [List.dropWhile_cons]
  rfl
theorem bareR_more : ∀ (n : Nat) (s : List UInt8) (fs : Fs) (r : List Ch), r.length ≤ n → bareR (n + 1) s fs r = bareR n s fs r
  | 0, s, fs, [], _ => by
    unfold bareR
    rw [if_pos (.inl rfl)]
  | 0, s, fs, c :: t, h => by simp at h
  | n + 1, s, fs, r, h => by
    conv => lhs; unfold bareR
    conv => rhs; unfold bareR
    split
    · rfl
    · next hne =>
      cases r with
      | nil => exact absurd (.inl rfl) hne
      | cons c t =>
        refine bareR_more n _ _ _ ?_
        have h1 := (piece_suf (c := c) (t := t) (oddF (c :: t) fs)).length_le
        simp only [List.length_cons] at h
        omega
def tst' (p : Ch → Bool) (r : List Ch) : Bool := match r with
  | [] => false
  | c :: _ => p c
def neC (q : Int) (c : Ch) : Bool := c.r != q
def vaC (c : Ch) : Bool := !(blk c.r || c.r == 62)
def bwC (c : Ch) : Bool := !(blk c.r || c.r == 47 || c.r == 62)
theorem between_tst (fs : Fs) (r : List Ch) (N : Int) : between fs r = if tst' bwC r = true then fs ++ [(11, frN N r)] else fs := by
  cases r with
  | nil => rfl
  | cons c t =>
    show (if blk c.r = true ∨ c.r = 47 ∨ c.r = 62 then fs else fs ++ [(11, c.a)]) = if bwC c = true then fs ++ [(11, c.a)] else fs
    unfold bwC
    by_cases h : blk c.r = true ∨ c.r = 47 ∨ c.r = 62
    · rw [if_pos h, if_neg]
      rcases h with h | h | h <;> simp [h]
    · rw [if_neg h, if_pos]
      simp only [not_or] at h
      simp [h.1, h.2.1, h.2.2]
set_option maxHeartbeats 4000000 in
set_option maxRecDepth 20000 in
theorem value_any {S : Nat → Prop} {x : Nat} {E : Env} {r : List Ch} {sc : Sc} {dn : Bool} {w : World} (h : Tm S x E r sc dn w) (hpos : ∀ d ∈ r, 0 ≤ d.r) (hB : sc.fs.length + 8 * r.length + 8 ≤ 1000000000) :
    Calls Try.prog 72 #[mp x] w fun e w' => e = .returned (.string (bs (valueR E.N sc.fs r).1)) ∧ TW S x E (valueR E.N sc.fs r).2.2 (sc.fsd (valueR E.N sc.fs r).2.1) dn w w' := by
  have K0 : Hid (TW S x E r sc dn w w) := TW.start h
  have hxw := h.lt
  obtain ⟨V, hV⟩ : ∃ V, valueR E.N sc.fs r = V := ⟨_, rfl⟩
  obtain ⟨R, hR⟩ : ∃ R, skipB r = R := ⟨_, rfl⟩
  rw [hV]
  unfold valueR at hV
  rw [hR] at hV
  have hRr : R <:+ r := by rw [← hR]; exact skip_suf r
  have hfew : r.length ≤ 100000 := by
    have h1 := K0.out.facts
    have h2 := h1.2.1.length_le
    omega
  have HV : Hid ((if hd R = 34 ∨ hd R = 39 then (let p := quoR (hd R) R.length [] sc.fs R.tail; if p.2.2 = [] then p else (p.1, between p.2.1 p.2.2.tail, p.2.2.tail)) else if hd R = 62 then ([], sc.fs ++ [(10, frN E.N R)], R) else bareR R.length [] sc.fs R) = V) := hV
  have HR : Hid (skipB r = R) := hR
  have HPO : Hid ((∀ d ∈ R, 0 ≤ d.r) ∧ sc.fs.length + 8 * R.length + 8 ≤ 1000000000 ∧ R.length ≤ 100000) := ⟨suf_pos hRr hpos, by have := hRr.length_le; omega, by have := hRr.length_le; omega⟩
  clear hV hR h hRr hpos hB hfew
  go_enter Try.func72, Try.ntmps72
  go_wp2_with fail
  go_loopg [10] r.length (fun g _ wr => ∃ r2 : List Ch, r2.length ≤ g ∧ skipB r2 = R ∧ TW S x E r2 sc dn w wr)
  case atStart => exact ⟨r, Nat.le_refl _, HR.out, K0.out⟩
  case round =>
    obtain ⟨r', hgl, hr2, hk⟩ := hrel
    clear K0
    have K0 : Hid (TW S x E r' sc dn w wr) := hk
    have hxr := hk.lt
    by_cases hb : ∃ c t, r' = c :: t ∧ blk c.r = true
    · obtain ⟨⟨er, ea, ez⟩, t2, rfl, hb⟩ := hb
      have HNX : Hid (skipB t2 = R ∧ t2.length + 1 ≤ gk) := by
        rw [skipB_cons, if_pos hb] at hr2
        exact ⟨hr2, hgl⟩
      have hb' : blk er = true := hb
      clear hk hr2 hb hgl
      go_wp2_with fail
      refine twx K0.out.cc fun W1 K1 hx1 => ?_
      go_wp2_with fail
      refine rbx er _ ?_
      obtain ⟨pq, c1, c2, c3, c4, KN⟩ := K1.out.advx
      go_wp2_with fail
      go_roundg (gk - 1)
      case measure => have := HNX.out.2; omega
      case rel => exact ⟨t2, by have := HNX.out.2; omega, HNX.out.1, KN.out⟩
    · have HRR : Hid (r' = R) := by
        show r' = R
        cases r' with
        | nil => exact hr2
        | cons c t =>
          rw [skipB_cons, if_neg fun h => hb ⟨c, t, rfl, h⟩] at hr2
          exact hr2
      have hbv : blk (hd r') = false := by
        cases r' with
        | nil => decide
        | cons c t =>
          cases hbb : blk c.r with
          | false => exact hbb
          | true => exact absurd ⟨c, t, rfl, hbb⟩ hb
      clear hb hk hr2 hgl
      obtain rfl := HRR.out
      clear HRR HR
      obtain ⟨cv, hcv⟩ : ∃ cv, hd r' = cv := ⟨_, rfl⟩
      have HCV : Hid (hd r' = cv) := hcv
      rw [hcv] at hbv
      go_wp2_with fail
      refine twx K0.out.c fun W1 K1 hx1 => ?_
      rw [HCV.out]
      go_wp2_with fail
      refine rbx cv _ ?_
      go_wp2_with fail
      refine twx K1.out.c fun W2 K2 hx2 => ?_
      rw [HCV.out]
      clear K0 K1
      have K0 := K2
      by_cases hq : cv = 34 ∨ cv = 39
      · cases r' with
        | nil => rw [← hcv] at hq; exact absurd hq (by decide)
        | cons c0 t0 =>
          obtain ⟨qr, qa, qz⟩ := c0
          have hcq : qr = cv := hcv
          subst hcq
          obtain ⟨P, hP⟩ : ∃ P, quoR qr (t0.length + 1) [] sc.fs t0 = P := ⟨_, rfl⟩
          have HP : Hid (quoR qr (t0.length + 1) [] sc.fs t0 = P) := hP
          have HVP : Hid ((if P.2.2 = [] then P else (P.1, between P.2.1 P.2.2.tail, P.2.2.tail)) = V) := by
            have h0 := HV.out
            rw [if_pos (show hd (⟨qr, qa, qz⟩ :: t0) = 34 ∨ hd (⟨qr, qa, qz⟩ :: t0) = 39 from hq)] at h0
            show _ = _
            rw [← hP]
            exact h0
          clear hP HV hcv
          go_upto_if 21 with fail
          go_cut [21] (fun s wc => s = .bool true ∧ W2 = wc)
          case first =>
            rcases hq with h | h
            · have gq1 : (qr == 34) = true := by simp [h]
              clear h
              go_wp2_with fail
              go_meet
              case rel => exact ⟨by rw [gq1], rfl⟩
            · have gq1 : (qr == 34) = false := by simp [h]
              have gq2 : (qr == 39) = true := by simp [h]
              clear h
              go_wp2_with fail
              go_meet
              case rel => exact ⟨rfl, rfl⟩
          case rest =>
            obtain ⟨rfl, rfl⟩ := hcut
            obtain ⟨pq, c1, c2, c3, c4, KN⟩ := K0.out.advx
            obtain ⟨W3, hW3⟩ : ∃ W3, W2.setCell ⟨x, 1, none⟩ (.int .i64 (pq + 1)) = W3 := ⟨_, rfl⟩
            have HW3 : Hid (W2.setCell ⟨x, 1, none⟩ (.int .i64 (pq + 1)) = W3) := hW3
            rw [hW3] at KN
            have hx3 := KN.out.lt
            clear hW3
            go_upto_region 8 with fail
            rw [HW3.out]
            clear c1 c2 c3 c4 HW3
            go_wp2_with fail
            go_loopg [4] (t0.length + 1) (fun g sv wr => ∃ (q : List UInt8) (fs : Fs) (r2 : List Ch), sv = .string (bs q) ∧ quoR qr g q fs r2 = P ∧ r2.length < g ∧ r2 <:+ t0 ∧ q.length ≤ 4 * ((t0).length - r2.length) ∧ fs.length + 8 * r2.length ≤ sc.fs.length + 8 * (t0).length ∧ TW S x E r2 (sc.fsd fs) dn w wr)
            case atStart => exact ⟨[], sc.fs, t0, rfl, HP.out, Nat.lt_succ_self _, List.suffix_refl _, Nat.zero_le _, Nat.le_refl _, KN.out⟩
            case round =>
              obtain ⟨q, fs, r2, rfl, hqr, hgl, hsr, hql, hfl, hk⟩ := hrel
              obtain ⟨n, rfl⟩ : ∃ n, gk = n + 1 := ⟨gk - 1, by omega⟩
              clear K0
              have K0 : Hid (TW S x E r2 (sc.fsd fs) dn w wr) := hk
              have hxr := hk.lt
              have HL : Hid (quoR qr (n + 1) q fs r2 = P ∧ r2.length ≤ n ∧ r2 <:+ t0 ∧ q.length ≤ 4 * ((t0).length - r2.length) ∧ fs.length + 8 * r2.length ≤ sc.fs.length + 8 * (t0).length ∧ r2.length ≤ (t0).length) := ⟨hqr, by omega, hsr, hql, hfl, hsr.length_le⟩
              have HPR : Hid (∀ d ∈ r2, 0 ≤ d.r) := suf_pos hsr (fun d hd => HPO.out.1 d (List.mem_cons_of_mem _ hd))
              have HB3 : Hid (fs.length + 7 ≤ 1000000000 ∧ q.length ≤ 400000) := by
                have h1 := HPO.out.2
                have h2 := hsr.length_le
                simp only [List.length_cons] at h1
                exact ⟨by omega, by omega⟩
              clear hk hqr hgl hsr hql hfl
              go_upto_region 9 with fail
              go_cut [39] (fun s wc => s = .bool (tst' (neC qr) r2) ∧ TW S x E r2 (sc.fsd fs) dn w wc)
              case first =>
                cases r2 with
                | nil =>
                  have HTS : Hid (tst' (neC qr) [] = false) := rfl
                  go_wp2_with fail
                  refine twx K0.out.c0 fun W1 K1 hx1 => ?_
                  go_wp2_with fail
                  go_meet
                  case rel => exact ⟨by rw [HTS.out], K1.out⟩
                | cons d t1 =>
                  obtain ⟨dr, da, dz⟩ := d
                  have hd0 : 0 ≤ dr := HPR.out ⟨dr, da, dz⟩ (by simp)
                  have gd0 : decide (dr ≥ 0) = true := decide_eq_true (by omega)
                  clear hd0
                  by_cases h0 : dr = qr
                  · have g0 : (dr != qr) = false := by simp [h0]
                    have HTS : Hid (tst' (neC qr) (⟨dr, da, dz⟩ :: t1) = false) := by
                      show neC qr _ = _
                      unfold neC
                      simp [h0]
                    clear h0
                    go_wp2_with fail
                    refine twx K0.out.cc fun W1 K1 hx1 => ?_
                    go_wp2_with fail
                    refine twx K1.out.cc fun W2 K2 hx2 => ?_
                    go_wp2_with fail
                    go_meet
                    case rel => exact ⟨by rw [HTS.out], K2.out⟩
                  · have g0 : (dr != qr) = true := by simp [h0]
                    have HTS : Hid (tst' (neC qr) (⟨dr, da, dz⟩ :: t1) = true) := by
                      show neC qr _ = _
                      unfold neC
                      simp [h0]
                    go_wp2_with fail
                    refine twx K0.out.cc fun W1 K1 hx1 => ?_
                    go_wp2_with fail
                    refine twx K1.out.cc fun W2 K2 hx2 => ?_
                    go_wp2_with fail
                    go_meet
                    case rel => exact ⟨by rw [HTS.out], K2.out⟩
              case rest =>
                obtain ⟨hu, k0⟩ := hcut
                clear K0
                have K0 : Hid (TW S x E r2 (sc.fsd fs) dn w wc) := k0
                have hxc := k0.lt
                obtain ⟨sv0, hsv⟩ : ∃ sv0, bs q = sv0 := ⟨_, rfl⟩
                have hsz : sv0.size ≤ 400000 := by rw [← hsv, bs_size]; exact HB3.out.2
                have HSV : Hid (bs q = sv0) := hsv
                rw [hsv]
                clear k0 hsv
                cases ht : tst' (neC qr) r2 with
                | true =>
                  rw [ht] at hu
                  subst hu
                  obtain ⟨⟨dr, da, dz⟩, t1, rfl⟩ : ∃ c t, r2 = c :: t := by
                    cases r2 with
                    | nil => cases ht
                    | cons c t => exact ⟨c, t, rfl⟩
                  have hne : dr ≠ qr := by
                    have h0 : (dr != qr) = true := ht
                    simpa using h0
                  clear ht
                  have HN : Hid (quoR qr n (q ++ (pieceR (⟨dr, da, dz⟩ :: t1) fs).1) (pieceR (⟨dr, da, dz⟩ :: t1) fs).2.1 (pieceR (⟨dr, da, dz⟩ :: t1) fs).2.2 = P ∧ (pieceR (⟨dr, da, dz⟩ :: t1) fs).2.2.length < n ∧ (pieceR (⟨dr, da, dz⟩ :: t1) fs).2.2 <:+ t0 ∧ (q ++ (pieceR (⟨dr, da, dz⟩ :: t1) fs).1).length ≤ 4 * ((t0).length - (pieceR (⟨dr, da, dz⟩ :: t1) fs).2.2.length) ∧ (pieceR (⟨dr, da, dz⟩ :: t1) fs).2.1.length + 8 * (pieceR (⟨dr, da, dz⟩ :: t1) fs).2.2.length ≤ sc.fs.length + 8 * (t0).length) := by
                    obtain ⟨e1, e2, e3, e4, e5, e6⟩ := HL.out
                    have s1 : (pieceR (⟨dr, da, dz⟩ :: t1) fs).2.2 <:+ t1 := piece_suf _
                    have s2 := s1.length_le
                    have s3 := piece_len (⟨dr, da, dz⟩ :: t1) fs
                    have s4 := piece_few (⟨dr, da, dz⟩ :: t1) fs
                    simp only [List.length_cons] at e2 e4 e5 e6
                    refine ⟨?_, by omega, s1.trans ((List.suffix_cons _ _).trans e3), ?_, by omega⟩
                    · rw [← e1]
                      conv => rhs; unfold quoR
                      rw [if_neg]
                      intro h
                      rcases h with h | h
                      · cases h
                      · exact hne h
                    · rw [List.length_append]
                      omega
                  go_wp2_with fail
                  refine twx (K0.out.piece HPR.out (by have := HB3.out.1; show List.length fs + 3 ≤ _; omega)) fun WP KP hxp => ?_
                  obtain ⟨pv, hpv⟩ : ∃ pv, bs (pieceR (⟨dr, da, dz⟩ :: t1) fs).1 = pv := ⟨_, rfl⟩
                  have hpz : pv.size ≤ 4 := by rw [← hpv, bs_size]; exact piece_len _ _
                  have HPV : Hid (bs (pieceR (⟨dr, da, dz⟩ :: t1) fs).1 = pv) := hpv
                  rw [show bs (pieceR (⟨dr, da, dz⟩ :: t1) (sc.fsd fs).fs).1 = pv from hpv]
                  clear hpv
                  go_wp2_with fail
                  go_roundg n
                  case measure => exact Nat.lt_succ_self _
                  case rel => exact ⟨_, _, _, by rw [← bs_app, HSV.out, HPV.out], HN.out.1, HN.out.2.1, HN.out.2.2.1, HN.out.2.2.2.1, HN.out.2.2.2.2, KP.out⟩
                | false =>
                  rw [ht] at hu
                  subst hu
                  have HVF0 : Hid (P = (q, fs, r2)) := by
                    show P = _
                    rw [← HL.out.1]
                    unfold quoR
                    rw [if_pos]
                    cases r2 with
                    | nil => exact .inl rfl
                    | cons c t =>
                      have h0 : (c.r != qr) = false := ht
                      exact .inr (show c.r = qr by simpa using h0)
                  clear ht
                  cases r2 with
                  | nil =>
                    have HVF : Hid (V = (q, fs, [])) := by
                      show V = _
                      rw [← HVP.out, HVF0.out, if_pos rfl]
                    go_wp2_with fail
                    refine twx K0.out.c0 fun W1 K1 hx1 => ?_
                    go_wp2_with fail
                    go_ret
                    rw [HVF.out]
                    exact ⟨by rw [HSV.out]; rfl, K1.out⟩
                  | cons d t1 =>
                    obtain ⟨dr, da, dz⟩ := d
                    have hd0 : 0 ≤ dr := HPR.out ⟨dr, da, dz⟩ (by simp)
                    have gd1 : decide (dr < 0) = false := decide_eq_false (by omega)
                    have HVE : Hid (V = (q, if tst' bwC t1 = true then fs ++ [(11, frN E.N t1)] else fs, t1)) := by
                      show V = _
                      rw [← HVP.out, HVF0.out, ← between_tst fs t1 E.N]
                      rfl
                    have HPT : Hid (∀ d ∈ t1, 0 ≤ d.r) := fun d hd => HPR.out d (List.mem_cons_of_mem _ hd)
                    clear hd0
                    go_wp2_with fail
                    refine twx K0.out.cc fun W1 K1 hx1 => ?_
                    obtain ⟨pq, c1, c2, c3, c4, KN⟩ := K1.out.advx
                    obtain ⟨W2, hW2⟩ : ∃ W2, W1.setCell ⟨x, 1, none⟩ (.int .i64 (pq + 1)) = W2 := ⟨_, rfl⟩
                    have HW2 : Hid (W1.setCell ⟨x, 1, none⟩ (.int .i64 (pq + 1)) = W2) := hW2
                    rw [hW2] at KN
                    have hx2 := KN.out.lt
                    clear hW2
                    go_upto_region 14 with fail
                    rw [HW2.out]
                    clear c1 c2 c3 c4
                    go_wp2_with fail
                    refine twx KN.out.c fun W3 K3 hx3 => ?_
                    obtain ⟨dv, hdv⟩ : ∃ dv, hd t1 = dv := ⟨_, rfl⟩
                    have HDV : Hid (hd t1 = dv) := hdv
                    rw [hdv]
                    clear hdv
                    go_upto_region 15 with fail
                    go_cut [71] (fun s wc => s = .bool (tst' bwC t1) ∧ W3 = wc)
                    case first =>
                      cases t1 with
                      | nil =>
                        have hv : dv = -1 := HDV.out.symm
                        have g0 : decide (dv ≥ 0) = false := decide_eq_false (by omega)
                        clear hv
                        go_wp2_with fail
                        go_meet
                        case rel => exact ⟨rfl, rfl⟩
                      | cons e t2 =>
                        obtain ⟨er, ea, ez⟩ := e
                        have hv : er = dv := HDV.out
                        subst hv
                        have he0 : 0 ≤ er := HPT.out ⟨er, ea, ez⟩ (by simp)
                        have g0 : decide (er ≥ 0) = true := decide_eq_true (by omega)
                        clear he0
                        by_cases hbk : blk er = true
                        · have HTS : Hid (tst' bwC (⟨er, ea, ez⟩ :: t2) = false) := by
                            show bwC _ = _
                            unfold bwC
                            simp [hbk]
                          go_wp2_with fail
                          refine rbx er _ ?_
                          go_wp2_with fail
                          go_meet
                          case rel => exact ⟨by rw [HTS.out], rfl⟩
                        · have hbk' : blk er = false := by simpa using hbk
                          by_cases h1 : er = 47
                          · have g1 : (er != 47) = false := by simp [h1]
                            have HTS : Hid (tst' bwC (⟨er, ea, ez⟩ :: t2) = false) := by
                              show bwC _ = _
                              unfold bwC
                              simp [h1]
                            clear h1
                            go_wp2_with fail
                            refine rbx er _ ?_
                            go_wp2_with fail
                            go_meet
                            case rel => exact ⟨by rw [HTS.out], rfl⟩
                          · have g1 : (er != 47) = true := by simp [h1]
                            by_cases h2 : er = 62
                            · have g2 : (er != 62) = false := by simp [h2]
                              have HTS : Hid (tst' bwC (⟨er, ea, ez⟩ :: t2) = false) := by
                                show bwC _ = _
                                unfold bwC
                                simp [h2]
                              clear h2
                              go_wp2_with fail
                              refine rbx er _ ?_
                              go_wp2_with fail
                              go_meet
                              case rel => exact ⟨by rw [HTS.out], rfl⟩
                            · have g2 : (er != 62) = true := by simp [h2]
                              have HTS : Hid (tst' bwC (⟨er, ea, ez⟩ :: t2) = true) := by
                                show bwC _ = _
                                unfold bwC
                                simp [hbk', h1, h2]
                              go_wp2_with fail
                              refine rbx er _ ?_
                              go_wp2_with fail
                              go_meet
                              case rel => exact ⟨by rw [HTS.out], rfl⟩
                    case rest =>
                      obtain ⟨hu, rfl⟩ := hcut
                      cases hb : tst' bwC t1 with
                      | true =>
                        rw [hb] at hu
                        subst hu
                        have HVF : Hid (V = (q, fs ++ [(11, frN E.N t1)], t1)) := by
                          have h0 := HVE.out
                          rw [hb, if_pos rfl] at h0
                          exact h0
                        clear hb
                        go_wp2_with fail
                        refine twx K3.out.byteAt fun W4 K4 hx4 => ?_
                        obtain ⟨av, hav⟩ : ∃ av, frN E.N t1 = av := ⟨_, rfl⟩
                        rw [hav]
                        rw [hav] at HVF
                        clear hav
                        go_wp2_with fail
                        refine twx (K4.out.tfl 11 av (by have := HB3.out.1; show fs.length ≤ _; omega)) fun W5 K5 hx5 => ?_
                        go_wp2_with fail
                        go_ret
                        rw [HVF.out]
                        exact ⟨by rw [HSV.out]; rfl, K5.out⟩
                      | false =>
                        rw [hb] at hu
                        subst hu
                        have HVF : Hid (V = (q, fs, t1)) := by
                          have h0 := HVE.out
                          rw [hb, if_neg (by decide)] at h0
                          exact h0
                        clear hb
                        go_wp2_with fail
                        go_ret
                        rw [HVF.out]
                        exact ⟨by rw [HSV.out]; rfl, K3.out⟩
      · by_cases h62 : cv = 62
        · cases r' with
          | nil => rw [← hcv] at h62; exact absurd h62 (by decide)
          | cons c0 t0 =>
            obtain ⟨qr, qa, qz⟩ := c0
            have HVG : Hid (([], sc.fs ++ [(10, qa)], (⟨qr, qa, qz⟩ :: t0 : List Ch)) = V) := by
              have h0 := HV.out
              rw [hcv, if_neg hq, if_pos h62] at h0
              exact h0
            have gq1 : (cv == 34) = false := by simp [h62]
            have gq2 : (cv == 39) = false := by simp [h62]
            have g62 : (cv == 62) = true := by simp [h62]
            clear hq h62 hcv HV
            go_wp2_with fail
            refine twx K2.out.ba fun W3 K3 hx3 => ?_
            go_wp2_with fail
            refine twx (K3.out.tfl 10 qa (by have := HPO.out.2.1; omega)) fun W4 K4 hx4 => ?_
            go_wp2_with fail
            go_ret
            rw [← HVG.out]
            exact ⟨rfl, K4.out⟩
        · have HVB : Hid (bareR r'.length [] sc.fs r' = V) := by
            have h0 := HV.out
            rw [hcv, if_neg hq, if_neg h62] at h0
            exact h0
          have gq1 : (cv == 34) = false := by simp; omega
          have gq2 : (cv == 39) = false := by simp; omega
          have g62 : (cv == 62) = false := by simp [h62]
          clear hq h62 hcv HV
          go_wp2_with fail
          go_loopg [6, 7] (r'.length + 1) (fun g sv _ wr => ∃ (q : List UInt8) (fs : Fs) (r2 : List Ch), sv = .string (bs q) ∧ bareR g q fs r2 = V ∧ r2.length < g ∧ r2 <:+ r' ∧ q.length ≤ 4 * ((r').length - r2.length) ∧ fs.length + 8 * r2.length ≤ sc.fs.length + 8 * (r').length ∧ TW S x E r2 (sc.fsd fs) dn w wr)
          case atStart => exact ⟨[], sc.fs, r', rfl, (bareR_more _ _ _ _ (Nat.le_refl _)).trans HVB.out, Nat.lt_succ_self _, List.suffix_refl _, Nat.zero_le _, Nat.le_refl _, K2.out⟩
          case round =>
            obtain ⟨q, fs, r2, rfl, hqr, hgl, hsr, hql, hfl, hk⟩ := hrel
            obtain ⟨n, rfl⟩ : ∃ n, gk = n + 1 := ⟨gk - 1, by omega⟩
            clear K0
            have K0 : Hid (TW S x E r2 (sc.fsd fs) dn w wr) := hk
            have hxr := hk.lt
            have HL : Hid (bareR (n + 1) q fs r2 = V ∧ r2.length ≤ n ∧ r2 <:+ r' ∧ q.length ≤ 4 * ((r').length - r2.length) ∧ fs.length + 8 * r2.length ≤ sc.fs.length + 8 * (r').length ∧ r2.length ≤ (r').length) := ⟨hqr, by omega, hsr, hql, hfl, hsr.length_le⟩
            have HPR : Hid (∀ d ∈ r2, 0 ≤ d.r) := suf_pos hsr HPO.out.1
            have HB3 : Hid (fs.length + 7 ≤ 1000000000 ∧ q.length ≤ 400000) := by
              have h1 := HPO.out.2
              have h2 := hsr.length_le
              skip
              exact ⟨by omega, by omega⟩
            clear hk hqr hgl hsr hql hfl
            go_upto_region 22 with fail
            go_cut [96] (fun s wc => s = .bool (tst' (vaC) r2) ∧ TW S x E r2 (sc.fsd fs) dn w wc)
            case first =>
              cases r2 with
              | nil =>
                have HTS : Hid (tst' (vaC) [] = false) := rfl
                go_wp2_with fail
                refine twx K0.out.c0 fun W1 K1 hx1 => ?_
                go_wp2_with fail
                go_meet
                case rel => exact ⟨by rw [HTS.out], K1.out⟩
              | cons d t1 =>
                obtain ⟨dr, da, dz⟩ := d
                have hd0 : 0 ≤ dr := HPR.out ⟨dr, da, dz⟩ (by simp)
                have gd0 : decide (dr ≥ 0) = true := decide_eq_true (by omega)
                clear hd0
                by_cases hbk : blk dr = true
                · have HTS : Hid (tst' (vaC) (⟨dr, da, dz⟩ :: t1) = false) := by
                    show vaC  _ = _
                    unfold vaC
                    simp [hbk]
                  go_wp2_with fail
                  refine twx K0.out.cc fun W1 K1 hx1 => ?_
                  go_wp2_with fail
                  refine twx K1.out.cc fun W2 K2 hx2 => ?_
                  go_wp2_with fail
                  refine rbx dr _ ?_
                  go_wp2_with fail
                  go_meet
                  case rel => exact ⟨by rw [HTS.out], K2.out⟩
                · have hbk' : blk dr = false := by simpa using hbk
                  by_cases h1 : dr = 62
                  · have g1 : (dr != 62) = false := by simp [h1]
                    have HTS : Hid (tst' (vaC) (⟨dr, da, dz⟩ :: t1) = false) := by
                      show vaC  _ = _
                      unfold vaC
                      simp [h1]
                    clear h1
                    go_wp2_with fail
                    refine twx K0.out.cc fun W1 K1 hx1 => ?_
                    go_wp2_with fail
                    refine twx K1.out.cc fun W2 K2 hx2 => ?_
                    go_wp2_with fail
                    refine rbx dr _ ?_
                    go_wp2_with fail
                    refine twx K2.out.cc fun W3 K3 hx3 => ?_
                    go_wp2_with fail
                    go_meet
                    case rel => exact ⟨by rw [HTS.out], K3.out⟩
                  · have g1 : (dr != 62) = true := by simp [h1]
                    have HTS : Hid (tst' (vaC) (⟨dr, da, dz⟩ :: t1) = true) := by
                      show vaC  _ = _
                      unfold vaC
                      simp [hbk', h1]
                    go_wp2_with fail
                    refine twx K0.out.cc fun W1 K1 hx1 => ?_
                    go_wp2_with fail
                    refine twx K1.out.cc fun W2 K2 hx2 => ?_
                    go_wp2_with fail
                    refine rbx dr _ ?_
                    go_wp2_with fail
                    refine twx K2.out.cc fun W3 K3 hx3 => ?_
                    go_wp2_with fail
                    go_meet
                    case rel => exact ⟨by rw [HTS.out], K3.out⟩
            case rest =>
              obtain ⟨hu, k0⟩ := hcut
              clear K0
              have K0 : Hid (TW S x E r2 (sc.fsd fs) dn w wc) := k0
              have hxc := k0.lt
              obtain ⟨sv0, hsv⟩ : ∃ sv0, bs q = sv0 := ⟨_, rfl⟩
              have hsz : sv0.size ≤ 400000 := by rw [← hsv, bs_size]; exact HB3.out.2
              have HSV : Hid (bs q = sv0) := hsv
              rw [hsv]
              clear k0 hsv
              cases ht : tst' (vaC) r2 with
              | true =>
                rw [ht] at hu
                subst hu
                obtain ⟨⟨dr, da, dz⟩, t1, rfl⟩ : ∃ c t, r2 = c :: t := by
                  cases r2 with
                  | nil => cases ht
                  | cons c t => exact ⟨c, t, rfl⟩
                have hva : blk dr = false ∧ dr ≠ 62 := by
                  have h0 : vaC ⟨dr, da, dz⟩ = true := ht
                  unfold vaC at h0
                  simpa using h0
                clear ht
                go_wp2_with fail
                refine twx K0.out.cc fun W1 K1 hx1 => ?_
                go_upto_region 24 with fail
                go_cut [116] (fun s wc => s = .bool (odd5 dr) ∧ W1 = wc)
                case first =>
                  have hodd : dr = 34 ∨ dr = 39 ∨ dr = 60 ∨ dr = 61 ∨ dr = 96 ∨ (dr ≠ 34 ∧ dr ≠ 39 ∧ dr ≠ 60 ∧ dr ≠ 61 ∧ dr ≠ 96) := by omega
                  rcases hodd with hodd | hodd | hodd | hodd | hodd | hodd
                  · have o34 : (dr == 34) = true := by simp; omega
                    have HO : Hid (odd5 dr = true) := by
                      show _ = _
                      unfold odd5
                      simp; omega
                    clear hodd
                    go_wp2_with fail
                    go_meet
                    case rel => exact ⟨by rw [HO.out], rfl⟩
                  · have o34 : (dr == 34) = false := by simp; omega
                    have o39 : (dr == 39) = true := by simp; omega
                    have HO : Hid (odd5 dr = true) := by
                      show _ = _
                      unfold odd5
                      simp; omega
                    clear hodd
                    go_wp2_with fail
                    go_meet
                    case rel => exact ⟨by rw [HO.out], rfl⟩
                  · have o34 : (dr == 34) = false := by simp; omega
                    have o39 : (dr == 39) = false := by simp; omega
                    have o60 : (dr == 60) = true := by simp; omega
                    have HO : Hid (odd5 dr = true) := by
                      show _ = _
                      unfold odd5
                      simp; omega
                    clear hodd
                    go_wp2_with fail
                    go_meet
                    case rel => exact ⟨by rw [HO.out], rfl⟩
                  · have o34 : (dr == 34) = false := by simp; omega
                    have o39 : (dr == 39) = false := by simp; omega
                    have o60 : (dr == 60) = false := by simp; omega
                    have o61 : (dr == 61) = true := by simp; omega
                    have HO : Hid (odd5 dr = true) := by
                      show _ = _
                      unfold odd5
                      simp; omega
                    clear hodd
                    go_wp2_with fail
                    go_meet
                    case rel => exact ⟨by rw [HO.out], rfl⟩
                  · have o34 : (dr == 34) = false := by simp; omega
                    have o39 : (dr == 39) = false := by simp; omega
                    have o60 : (dr == 60) = false := by simp; omega
                    have o61 : (dr == 61) = false := by simp; omega
                    have o96 : (dr == 96) = true := by simp; omega
                    have HO : Hid (odd5 dr = true) := by
                      show _ = _
                      unfold odd5
                      simp; omega
                    clear hodd
                    go_wp2_with fail
                    go_meet
                    case rel => exact ⟨by rw [HO.out], rfl⟩
                  · have o34 : (dr == 34) = false := by simp; omega
                    have o39 : (dr == 39) = false := by simp; omega
                    have o60 : (dr == 60) = false := by simp; omega
                    have o61 : (dr == 61) = false := by simp; omega
                    have o96 : (dr == 96) = false := by simp; omega
                    have HO : Hid (odd5 dr = false) := by
                      show _ = _
                      unfold odd5
                      simp; omega
                    clear hodd
                    go_wp2_with fail
                    go_meet
                    case rel => exact ⟨by rw [HO.out], rfl⟩
                case rest =>
                  obtain ⟨hu, rfl⟩ := hcut
                  cases ho : odd5 dr with
                  | true =>
                    rw [ho] at hu
                    subst hu
                    have HO : Hid (oddF (⟨dr, da, dz⟩ :: t1) fs = fs ++ [(8, da)]) := if_pos ho
                    clear ho
                    go_wp2_with fail
                    refine twx K1.out.ba fun W2 K2 hx2 => ?_
                    go_wp2_with fail
                    refine twx (K2.out.tfl 8 da (by have := HB3.out.1; show fs.length ≤ _; omega)) fun W3 K3 hx3 => ?_
                    have K4 : Hid (TW S x E (⟨dr, da, dz⟩ :: t1) (sc.fsd (oddF (⟨dr, da, dz⟩ :: t1) fs)) dn w W3) := by
                      show TW _ _ _ _ _ _ _ _
                      rw [HO.out]
                      exact K3.out
                    have HN : Hid (bareR n (q ++ (pieceR (⟨dr, da, dz⟩ :: t1) (oddF (⟨dr, da, dz⟩ :: t1) fs)).1) (pieceR (⟨dr, da, dz⟩ :: t1) (oddF (⟨dr, da, dz⟩ :: t1) fs)).2.1 (pieceR (⟨dr, da, dz⟩ :: t1) (oddF (⟨dr, da, dz⟩ :: t1) fs)).2.2 = V ∧ (pieceR (⟨dr, da, dz⟩ :: t1) (oddF (⟨dr, da, dz⟩ :: t1) fs)).2.2.length < n ∧ (pieceR (⟨dr, da, dz⟩ :: t1) (oddF (⟨dr, da, dz⟩ :: t1) fs)).2.2 <:+ r' ∧ (q ++ (pieceR (⟨dr, da, dz⟩ :: t1) (oddF (⟨dr, da, dz⟩ :: t1) fs)).1).length ≤ 4 * ((r').length - (pieceR (⟨dr, da, dz⟩ :: t1) (oddF (⟨dr, da, dz⟩ :: t1) fs)).2.2.length) ∧ (pieceR (⟨dr, da, dz⟩ :: t1) (oddF (⟨dr, da, dz⟩ :: t1) fs)).2.1.length + 8 * (pieceR (⟨dr, da, dz⟩ :: t1) (oddF (⟨dr, da, dz⟩ :: t1) fs)).2.2.length ≤ sc.fs.length + 8 * (r').length) := by
                      obtain ⟨e1, e2, e3, e4, e5, e6⟩ := HL.out
                      have s1 : (pieceR (⟨dr, da, dz⟩ :: t1) (oddF (⟨dr, da, dz⟩ :: t1) fs)).2.2 <:+ t1 := piece_suf _
                      have s2 := s1.length_le
                      have s3 := piece_len (⟨dr, da, dz⟩ :: t1) (oddF (⟨dr, da, dz⟩ :: t1) fs)
                      have s4 := piece_few (⟨dr, da, dz⟩ :: t1) (oddF (⟨dr, da, dz⟩ :: t1) fs)
                      have s6 := oddF_few (⟨dr, da, dz⟩ :: t1) fs
                      simp only [List.length_cons] at e2 e4 e5 e6
                      refine ⟨?_, by omega, s1.trans ((List.suffix_cons _ _).trans e3), ?_, by omega⟩
                      · rw [← e1]
                        conv => rhs; unfold bareR
                        rw [if_neg]
                        intro h
                        rcases h with h | h | h
                        · cases h
                        · rw [show hd (⟨dr, da, dz⟩ :: t1) = dr from rfl, hva.1] at h
                          cases h
                        · exact hva.2 h
                      · rw [List.length_append]
                        omega
                    go_wp2_with fail
                    refine twx (K4.out.piece HPR.out (by have := HB3.out.1; show List.length (oddF (⟨dr, da, dz⟩ :: t1) fs) + 3 ≤ _; have h2 := oddF_few (⟨dr, da, dz⟩ :: t1) fs; omega)) fun WP KP hxp => ?_
                    obtain ⟨pv, hpv⟩ : ∃ pv, bs (pieceR (⟨dr, da, dz⟩ :: t1) (oddF (⟨dr, da, dz⟩ :: t1) fs)).1 = pv := ⟨_, rfl⟩
                    have hpz : pv.size ≤ 4 := by rw [← hpv, bs_size]; exact piece_len _ _
                    have HPV : Hid (bs (pieceR (⟨dr, da, dz⟩ :: t1) (oddF (⟨dr, da, dz⟩ :: t1) fs)).1 = pv) := hpv
                    rw [show bs (pieceR (⟨dr, da, dz⟩ :: t1) (sc.fsd (oddF (⟨dr, da, dz⟩ :: t1) fs)).fs).1 = pv from hpv]
                    clear hpv
                    go_wp2_with fail
                    go_roundg n
                    case measure => exact Nat.lt_succ_self _
                    case rel => exact ⟨_, _, _, by rw [← bs_app, HSV.out, HPV.out], HN.out.1, HN.out.2.1, HN.out.2.2.1, HN.out.2.2.2.1, HN.out.2.2.2.2, KP.out⟩
                  | false =>
                    rw [ho] at hu
                    subst hu
                    have HO : Hid (oddF (⟨dr, da, dz⟩ :: t1) fs = fs) := if_neg (by rw [ho]; decide)
                    clear ho
                    have K4 : Hid (TW S x E (⟨dr, da, dz⟩ :: t1) (sc.fsd (oddF (⟨dr, da, dz⟩ :: t1) fs)) dn w W1) := by
                      show TW _ _ _ _ _ _ _ _
                      rw [HO.out]
                      exact K1.out
                    have HN : Hid (bareR n (q ++ (pieceR (⟨dr, da, dz⟩ :: t1) (oddF (⟨dr, da, dz⟩ :: t1) fs)).1) (pieceR (⟨dr, da, dz⟩ :: t1) (oddF (⟨dr, da, dz⟩ :: t1) fs)).2.1 (pieceR (⟨dr, da, dz⟩ :: t1) (oddF (⟨dr, da, dz⟩ :: t1) fs)).2.2 = V ∧ (pieceR (⟨dr, da, dz⟩ :: t1) (oddF (⟨dr, da, dz⟩ :: t1) fs)).2.2.length < n ∧ (pieceR (⟨dr, da, dz⟩ :: t1) (oddF (⟨dr, da, dz⟩ :: t1) fs)).2.2 <:+ r' ∧ (q ++ (pieceR (⟨dr, da, dz⟩ :: t1) (oddF (⟨dr, da, dz⟩ :: t1) fs)).1).length ≤ 4 * ((r').length - (pieceR (⟨dr, da, dz⟩ :: t1) (oddF (⟨dr, da, dz⟩ :: t1) fs)).2.2.length) ∧ (pieceR (⟨dr, da, dz⟩ :: t1) (oddF (⟨dr, da, dz⟩ :: t1) fs)).2.1.length + 8 * (pieceR (⟨dr, da, dz⟩ :: t1) (oddF (⟨dr, da, dz⟩ :: t1) fs)).2.2.length ≤ sc.fs.length + 8 * (r').length) := by
                      obtain ⟨e1, e2, e3, e4, e5, e6⟩ := HL.out
                      have s1 : (pieceR (⟨dr, da, dz⟩ :: t1) (oddF (⟨dr, da, dz⟩ :: t1) fs)).2.2 <:+ t1 := piece_suf _
                      have s2 := s1.length_le
                      have s3 := piece_len (⟨dr, da, dz⟩ :: t1) (oddF (⟨dr, da, dz⟩ :: t1) fs)
                      have s4 := piece_few (⟨dr, da, dz⟩ :: t1) (oddF (⟨dr, da, dz⟩ :: t1) fs)
                      have s6 := oddF_few (⟨dr, da, dz⟩ :: t1) fs
                      simp only [List.length_cons] at e2 e4 e5 e6
                      refine ⟨?_, by omega, s1.trans ((List.suffix_cons _ _).trans e3), ?_, by omega⟩
                      · rw [← e1]
                        conv => rhs; unfold bareR
                        rw [if_neg]
                        intro h
                        rcases h with h | h | h
                        · cases h
                        · rw [show hd (⟨dr, da, dz⟩ :: t1) = dr from rfl, hva.1] at h
                          cases h
                        · exact hva.2 h
                      · rw [List.length_append]
                        omega
                    go_wp2_with fail
                    refine twx (K4.out.piece HPR.out (by have := HB3.out.1; show List.length (oddF (⟨dr, da, dz⟩ :: t1) fs) + 3 ≤ _; have h2 := oddF_few (⟨dr, da, dz⟩ :: t1) fs; omega)) fun WP KP hxp => ?_
                    obtain ⟨pv, hpv⟩ : ∃ pv, bs (pieceR (⟨dr, da, dz⟩ :: t1) (oddF (⟨dr, da, dz⟩ :: t1) fs)).1 = pv := ⟨_, rfl⟩
                    have hpz : pv.size ≤ 4 := by rw [← hpv, bs_size]; exact piece_len _ _
                    have HPV : Hid (bs (pieceR (⟨dr, da, dz⟩ :: t1) (oddF (⟨dr, da, dz⟩ :: t1) fs)).1 = pv) := hpv
                    rw [show bs (pieceR (⟨dr, da, dz⟩ :: t1) (sc.fsd (oddF (⟨dr, da, dz⟩ :: t1) fs)).fs).1 = pv from hpv]
                    clear hpv
                    go_wp2_with fail
                    go_roundg n
                    case measure => exact Nat.lt_succ_self _
                    case rel => exact ⟨_, _, _, by rw [← bs_app, HSV.out, HPV.out], HN.out.1, HN.out.2.1, HN.out.2.2.1, HN.out.2.2.2.1, HN.out.2.2.2.2, KP.out⟩
              | false =>
                rw [ht] at hu
                subst hu
                have HVF : Hid (V = (q, fs, r2)) := by
                  show V = _
                  rw [← HL.out.1]
                  unfold bareR
                  rw [if_pos]
                  cases r2 with
                  | nil => exact .inl rfl
                  | cons c t =>
                    have h0 : vaC c = false := ht
                    unfold vaC at h0
                    cases hb : blk c.r with
                    | true => exact .inr (.inl hb)
                    | false =>
                      rw [hb] at h0
                      simp at h0
                      exact .inr (.inr h0)
                clear ht
                go_wp2_with fail
                go_ret
                rw [HVF.out]
                exact ⟨by rw [HSV.out]; rfl, K0.out⟩
end Go.Proofs.Ytkbakbacomidbaa
