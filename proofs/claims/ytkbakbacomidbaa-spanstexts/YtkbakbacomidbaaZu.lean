/- The scanner tells a comment; what stands at hand may be a word; bogus comments. -/
import Derived.Test.YtkbakbacomidbaaProg
import Derived.Below
import Derived.BigCall
import Derived.BigQuiet
import Derived.BigRegion
import Derived.Deep.DeepCutAuto
import Derived.Deep.LoopGhost
import Derived.Deep.QuietTactic
import Derived.Deep.RegionHeld3
import Derived.Deep.RegionLaw
import Derived.Deep.RegionWith
import Derived.Deep.Upon
import Derived.Laws.AppendOwn
import Derived.Laws.BytesArg
import Derived.Laws.EntriesVeiled
import Derived.Laws.IdiomStrings
import Derived.Laws.StructEq
import Derived.Lib.AppendStr
import Derived.Lib.RuneBytes
import Derived.Maps.AppendAt
import Derived.Maps.OwnSet
import Derived.OwnWalk
import Derived.ScopeJumps
import Derived.Shelf.Abstract
import Derived.Shelf.Small.Strs
import Derived.Shelf.Strings.Builder1
import Derived.Shelf.Strings.BuilderF
import Derived.Shelf.Strings.BuilderK
import Derived.Shelf.Strings.BuilderRune
import Derived.Shelf.Strings.Prefix
import Derived.StillTailTactics
import Derived.StringKeys
import Derived.WalkArith
import Derived.WalkKit
import Derived.WalkLawsBesides
import Derived.WalkMore
import Derived.WalkSpells
import Derived.Test.YtkbakbacomidbaaZs
import Derived.Test.YtkbakbacomidbaaZt
namespace Go.Proofs.Ytkbakbacomidbaa
open Go.RowKit
theorem endZ_suf {L F r : List Ch} (hF : F <:+ L) (hl : r.length < F.length) : endZ F r = endZ L r := by
  obtain ⟨p, rfl⟩ := hF
  unfold endZ Mc.toAt
  rw [List.getElem?_append_right (by simp; omega)]
  have : (p ++ F).length - r.length - 1 - p.length = F.length - r.length - 1 := by simp; omega
  rw [this]
theorem TokR.one {w W : World} (t : TL) (ht : t.2 = [] ∧ t.1.n = 0) (hw : w.heap.size ≤ W.heap.size) : TokR w.heap.size (some ⟨W.heap.size, 0, none⟩) [t] (W.alloc (.cells t.1.arr 39)) := by
  refine TokR.of (w := w) (ov := .slice (some ⟨W.heap.size, 0, none⟩) 1 1) (cap := 1) ⟨rfl, .inr ⟨W.heap.size, 1, t.1.arr, (0, 0), rfl, heap_alloc_new W _, .inl rfl, Nat.le_refl _, by unfold maxLen; decide, rfl, ?_⟩⟩ rfl (fun g hg => ?_) (fun u hu => ?_)
  · show List.take (1 * 8) t.1.arr.toList = ([t] : List TL).flatMap tkCells
    simp [tkCells]
  · simp [Value.ownBlock] at hg
    omega
  · simp at hu
    subst hu
    exact ht
/-- Two cells that a walk reads, and that all is as it was. -/
abbrev Cn (p1 : Addr) (u1 : Value) (p2 : Addr) (u2 : Value) (W0 w' : World) : Prop := w'.cell? p1 = some u1 ∧ w'.cell? p2 = some u2 ∧ Below W0.heap.size W0 w'
theorem cn_below {p1 : Addr} {u1 : Value} {p2 : Addr} {u2 : Value} {W0 w' : World} (h : Cn p1 u1 p2 u2 W0 w') : Below W0.heap.size W0 w' := h.2.2
theorem cn_step {p1 : Addr} {u1 : Value} {p2 : Addr} {u2 : Value} {W0 w' w2 : World} (h : Cn p1 u1 p2 u2 W0 w') (b : Below w'.heap.size w' w2) (h1 : p1.block < W0.heap.size) (h2 : p2.block < W0.heap.size) : Cn p1 u1 p2 u2 W0 w2 := by
  have hs := h.2.2.size
  exact ⟨(b.cell (p := p1) (by omega)).trans h.1, (b.cell (p := p2) (by omega)).trans h.2.1, h.2.2.trans (b.mono hs)⟩
theorem cn_keep {p1 : Addr} {u1 : Value} {p2 : Addr} {u2 : Value} {W0 w' : World} (h : Cn p1 u1 p2 u2 W0 w') (h1 : p1.block < W0.heap.size) (h2 : p2.block < W0.heap.size) : Cn p1 u1 p2 u2 W0 w'.drew := cn_step h ((Below.refl _ _).drew) h1 h2
theorem cn_alloc {p1 : Addr} {u1 : Value} {p2 : Addr} {u2 : Value} {W0 w' : World} {o : Obj} (h : Cn p1 u1 p2 u2 W0 w') (h1 : p1.block < W0.heap.size) (h2 : p2.block < W0.heap.size) : Cn p1 u1 p2 u2 W0 (w'.alloc o) := cn_step h ((Below.refl _ _).alloc (Nat.le_refl _) _) h1 h2
/-- Three cells that a walk reads, and that all is as it was. -/
abbrev Cn3 (p1 : Addr) (u1 : Value) (p2 : Addr) (u2 : Value) (p3 : Addr) (u3 : Value) (W0 w' : World) : Prop := w'.cell? p1 = some u1 ∧ w'.cell? p2 = some u2 ∧ w'.cell? p3 = some u3 ∧ Below W0.heap.size W0 w'
theorem cn3_step {p1 : Addr} {u1 : Value} {p2 : Addr} {u2 : Value} {p3 : Addr} {u3 : Value} {W0 w' w2 : World} (h : Cn3 p1 u1 p2 u2 p3 u3 W0 w') (b : Below w'.heap.size w' w2) (h1 : p1.block < W0.heap.size) (h2 : p2.block < W0.heap.size) (h3 : p3.block < W0.heap.size) : Cn3 p1 u1 p2 u2 p3 u3 W0 w2 := by
  have hs := h.2.2.2.size
  exact ⟨(b.cell (p := p1) (by omega)).trans h.1, (b.cell (p := p2) (by omega)).trans h.2.1, (b.cell (p := p3) (by omega)).trans h.2.2.1, h.2.2.2.trans (b.mono hs)⟩
theorem cn3_keep {p1 : Addr} {u1 : Value} {p2 : Addr} {u2 : Value} {p3 : Addr} {u3 : Value} {W0 w' : World} (h : Cn3 p1 u1 p2 u2 p3 u3 W0 w') (h1 : p1.block < W0.heap.size) (h2 : p2.block < W0.heap.size) (h3 : p3.block < W0.heap.size) : Cn3 p1 u1 p2 u2 p3 u3 W0 w'.drew := cn3_step h ((Below.refl _ _).drew) h1 h2 h3
theorem cn3_drewN {p1 : Addr} {u1 : Value} {p2 : Addr} {u2 : Value} {p3 : Addr} {u3 : Value} {W0 : World} (h : Cn3 p1 u1 p2 u2 p3 u3 W0 W0) (h1 : p1.block < W0.heap.size) (h2 : p2.block < W0.heap.size) (h3 : p3.block < W0.heap.size) (m : Nat) : Cn3 p1 u1 p2 u2 p3 u3 W0 (W0.drewN m) := cn3_step h (G9.below_drewN (Below.refl _ _) m) h1 h2 h3
set_option maxHeartbeats 4000000 in
set_option maxRecDepth 20000 in
theorem comment_any' {S : Nat → Prop} {x : Nat} {E : Env} {r : List Ch} {sc : Sc} {dn : Bool} {w : World} (h : Tm S x E r sc dn w) {c0 : Ch} {F : List Ch} (hF : c0 :: F <:+ E.L) (hl : r.length ≤ F.length) (s : List UInt8) : Calls Try.prog 66 #[mp x, .int .i64 (pos E (c0 :: F)), .string (bs s)] w (Tokd S x E (comT (c0 :: F) s r, sc, r) dn w) := by
  have HE : Hid (∀ W, Below w.heap.size w W → Calls Try.prog 36 #[mp x] W fun e w' => e = .returned (.int .i64 (endZ (c0 :: F) r)) ∧ Below W.heap.size W w') := fun W b => by
    rw [endZ_suf hF (by simp; omega)]
    refine (end_any' (h.below b) (by have := hF.length_le; simp at this; omega)).mono ?_
    rintro e w' ⟨rfl, m, rfl⟩
    exact ⟨rfl, G9.below_drewN (Below.refl _ _) m⟩
  have HS : Hid (TW S x E r sc dn w w) := TW.start h
  obtain ⟨fv, h⟩ := h
  have hxw := h.lt
  have c0' : w.cell? ⟨x, 0, none⟩ = some (.slice E.lo E.L.length E.cap) := h.cells 0 _ rfl
  obtain ⟨p, hp⟩ := hF
  have hLc : E.L[p.length]? = some c0 := by rw [← hp, List.getElem?_append_right (Nat.le_refl _), Nat.sub_self]; rfl
  obtain ⟨b, off, elo, hb, _, q1, _⟩ := h.row.now _ _ hLc
  have hpl := (List.getElem?_eq_some_iff.1 hLc).1
  have hpos : pos E (c0 :: F) = (p.length : Int) := by unfold pos; rw [← hp]; simp
  rw [hpos]
  have hcap := h.cap
  rw [elo] at c0'
  obtain ⟨n, hn⟩ : ∃ n, E.L.length = n := ⟨_, rfl⟩
  obtain ⟨q, hq⟩ : ∃ q, p.length = q := ⟨_, rfl⟩
  rw [hn] at c0' hpl hcap
  rw [hq] at q1 hpl ⊢
  obtain ⟨z, hz⟩ : ∃ z, endZ (c0 :: F) r = z := ⟨_, rfl⟩
  obtain ⟨sv, hsv⟩ : ∃ sv, bs s = sv := ⟨_, rfl⟩
  obtain ⟨a, ha⟩ : ∃ a, c0.a = a := ⟨_, rfl⟩
  have HP : Hid (comT (c0 :: F) s r = [ptOf (⟨4, 0, ⟨#[]⟩, sv, none, 0, 0, false, a, z⟩, [])]) := by
    show comT (c0 :: F) s r = _
    unfold comT
    rw [hz, hsv]
    show [(⟨4, 0, ByteArray.empty, sv, [], false, c0.a, z⟩ : Pt)] = _
    rw [ha]
    rfl
  rw [hz] at HE
  rw [ha] at q1
  rw [hsv]
  have hqi : (q : Int) < (n : Int) := by omega
  have hin : Cn ⟨x, 0, none⟩ (.slice (some ⟨b, off, none⟩) n E.cap) ⟨b, off + q * 3 + 1, none⟩ (.int .i64 a) w w := ⟨c0', q1, Below.refl _ _⟩
  clear h hp hLc elo hpos hn hq hz hsv ha hl
  go_enter Try.func66, Try.ntmps66
  go_wp2_with fail
  go_region_held3 (fun w' => w'.cell? ⟨x, 0, none⟩ = some (.slice (some ⟨b, off, none⟩) n E.cap) ∧ w'.cell? ⟨b, off + q * 3 + 1, none⟩ = some (.int .i64 a) ∧ Below w.heap.size w w')
    (first | assumption | exact cn_keep (by assumption) hxw hb | exact cn_alloc (by assumption) hxw hb | go_keep)
    (first
      | (go_at_call 36; refine (HE.out _ (cn_below (by assumption))).mono ?_; rintro e w' ⟨rfl, hbw⟩; have hkk := cn_step (by assumption) hbw hxw hb))
  have H2 : Hid (Tokd S x E (comT (c0 :: F) s r, sc, r) dn w (.returned (.slice (some ⟨w'.heap.size, 0, none⟩) 1 1)) (w'.alloc (.cells #[.int .i64 4, .int .i64 0, .string ⟨#[]⟩, .string sv, .slice none 0 0, .bool false, .int .i64 a, .int .i64 z] 39))) :=
    ⟨some ⟨w'.heap.size, 0, none⟩, [(⟨4, 0, ⟨#[]⟩, sv, none, 0, 0, false, a, z⟩, [])], 1, rfl, HP.out.symm, Nat.le_refl _, TokR.one (w := w) (⟨4, 0, ⟨#[]⟩, sv, none, 0, 0, false, a, z⟩, []) ⟨rfl, rfl⟩ hkk.2.2.size, (HS.out.below hkk.2.2).below ((Below.refl _ _).alloc (Nat.le_refl _) _)⟩
  clear hkk hbw HE HP HS hin
  go_wp2_with fail
  go_ret
  exact H2.out
theorem cmp_is {word : List UInt8} {i : Nat} {b : UInt8} (hb : word[i]? = some b) (X : ByteArray) : (!X.toList == ((bs word).extract i (i + 1)).toList) = !decide (X.data.toList = [b]) := by
  have e : ((bs word).extract i (i + 1)).data.toList = [b] := by
    obtain ⟨h, rfl⟩ := List.getElem?_eq_some_iff.1 hb
    simp [bs, ByteArray.extract, ByteArray.copySlice]
    rw [List.drop_eq_getElem_cons h]
    rfl
  rw [ByteArray.toList_eq, ByteArray.toList_eq, e]
  congr 1
  rw [Bool.eq_iff_iff]
  simp
set_option maxHeartbeats 4000000 in
set_option maxRecDepth 20000 in
theorem is_any {S : Nat → Prop} {x : Nat} {E : Env} {r : List Ch} {sc : Sc} {dn : Bool} {w : World} (h : Tm S x E r sc dn w) (word : List UInt8) (fold : Bool) (hwl : word.length ≤ 1000) : Calls Try.prog 60 #[mp x, .string (bs word), .bool fold] w fun e w' => e = .returned (.bool (isW fold word r)) ∧ TW S x E r sc dn w w' := by
  have HS : Hid (TW S x E r sc dn w w) := TW.start h
  have hxw := h.lt
  obtain ⟨g, hg⟩ : ∃ g, isW fold word r = g := ⟨_, rfl⟩
  rw [hg]
  obtain ⟨n, hn⟩ : ∃ n, word.length = n := ⟨_, rfl⟩
  have hsz : (bs word).size = n := by rw [bs_size]; exact hn
  have HG : Hid (isW fold word r = g ∧ word.length = n) := ⟨hg, hn⟩
  obtain ⟨sv, hsv⟩ : ∃ sv, bs word = sv := ⟨_, rfl⟩
  rw [hsv] at hsz ⊢
  have HV : Hid (bs word = sv) := hsv
  rw [hn] at hwl
  clear h hg hn hsv
  go_enter Try.func60, Try.ntmps60
  go_wp2_with fail
  go_loopw [7, 8] (fun iv _ wr => ∃ i : Nat, iv = .int .i64 i ∧ i ≤ n ∧ isW fold (word.drop i) (r.drop i) = g ∧ TW S x E r sc dn w wr) (fun iv _ _ => n - (intOf iv).toNat)
  case atStart => exact ⟨0, rfl, Nat.zero_le _, HG.out.1, HS.out⟩
  case round =>
    obtain ⟨i, rfl, hin, hgi, hk⟩ := hrel
    have hxr := hk.lt
    obtain ⟨c1, f1, hp0, hp1, c0⟩ := hk.at
    have hfew : E.L.length ≤ 100000 ∧ E.L.length ≤ E.cap ∧ r <:+ E.L := by obtain ⟨fv, h1⟩ := hk.tm; exact ⟨h1.few, h1.cap, h1.suf⟩
    obtain ⟨p, hp⟩ : ∃ p : Nat, E.L.length - r.length = p := ⟨_, rfl⟩
    have hrl := hfew.2.2.length_le
    have hpp : pos E r = (p : Int) := by unfold pos; omega
    rw [hpp] at c1
    have HK : Hid (TW S x E r sc dn w wr) := hk
    by_cases hlt : i < n
    · obtain ⟨b, hb⟩ : ∃ b, word[i]? = some b := ⟨_, List.getElem?_eq_getElem (by rw [HG.out.2]; exact hlt)⟩
      have hwd : word.drop i = b :: word.drop (i + 1) := by
        obtain ⟨h1, rfl⟩ := List.getElem?_eq_some_iff.1 hb
        exact List.drop_eq_getElem_cons h1
      rw [hwd] at hgi
      have hlt' : decide ((i : Int) < (n : Int)) = true := decide_eq_true (by omega)
      cases hr : r.drop i with
      | nil =>
        rw [hr] at hgi
        have hg0 : g = false := by rw [← hgi]; rfl
        have hlen : r.length ≤ i := by
          have := congrArg List.length hr
          simp at this
          omega
        obtain ⟨L0, hL0⟩ : ∃ L0, E.L.length = L0 := ⟨_, rfl⟩
        rw [hL0] at c0 hfew hp hrl
        have g1 : decide ((p : Int) + (i : Int) ≥ (L0 : Int)) = true := decide_eq_true (by omega)
        have hpi : p ≤ 100000 := by omega
        subst hg0
        clear hk hgi hwd hb hr hlen hL0 hpp hp0 hp1 hp
        go_wp2_with fail
        go_quiet (fail)
        go_wp2_with fail
        go_ret
        exact ⟨rfl, HK.out.below (G9.below_drewN (Below.refl _ _) _)⟩
      | cons c t =>
        rw [hr] at hgi
        have hri : r[i]? = some c := by
          have : (r.drop i)[0]? = some c := by rw [hr]; rfl
          rw [List.getElem?_drop] at this
          simpa using this
        have hLc : E.L[p + i]? = some c := by
          obtain ⟨q, hq⟩ := hfew.2.2
          have : q.length = p := by rw [← hp, ← hq]; simp
          rw [← hq, List.getElem?_append_right (by omega)]
          rw [show p + i - q.length = i by omega]
          exact hri
        obtain ⟨bb, off, elo, hbb, q0⟩ : ∃ bb off, E.lo = some ⟨bb, off, none⟩ ∧ bb < wr.heap.size ∧ wr.cell? ⟨bb, off + (p + i) * 3, none⟩ = some (.int .i64 c.r) := by
          obtain ⟨fv, h1⟩ := hk.tm
          obtain ⟨bb, off, e, h2, h3, _⟩ := h1.row.now _ _ hLc
          exact ⟨bb, off, e, h2, h3⟩
        have hpl := (List.getElem?_eq_some_iff.1 hLc).1
        rw [elo] at c0
        obtain ⟨L0, hL0⟩ : ∃ L0, E.L.length = L0 := ⟨_, rfl⟩
        rw [hL0] at c0 hfew hp hrl hpl
        have g1 : decide ((p : Int) + (i : Int) ≥ (L0 : Int)) = false := decide_eq_false (by omega)
        have hkl : (p : Int) + (i : Int) < (L0 : Int) := by omega
        obtain ⟨cr, hcr⟩ : ∃ cr, c.r = cr := ⟨_, rfl⟩
        rw [hcr] at q0
        have HC : Hid (isW fold (b :: word.drop (i + 1)) (c :: t) = g ∧ c.r = cr ∧ word[i]? = some b ∧ r.drop i = c :: t) := ⟨hgi, hcr, hb, hr⟩
        have hcap := hfew.2.1
        have hL5 : L0 ≤ 100000 := hfew.1
        have hpi : p ≤ 100000 := by omega
        have h0i : (0 : Int) ≤ (p : Int) + (i : Int) := by omega
        have htn : ((p : Int) + (i : Int)).toNat = p + i := by omega
        have hng : ¬ (p : Int) + (i : Int) < 0 := by omega
        have hwp : IntKind.i64.wrap ((p : Int) + (i : Int)) = (p : Int) + (i : Int) := by rw [IntKind.wrap_i64]; omega
        clear hk hgi hwd hb hr hri hLc elo hL0 hpp hp0 hp1 hp hcr hrl hfew
        go_wp2_with fail
        go_quiet (fail)
        go_wp2_with fail
        have hin := cn3_drewN (p1 := ⟨x, 0, none⟩) (p2 := ⟨x, 1, none⟩) (p3 := ⟨bb, off + (p + i) * 3, none⟩) (W0 := wr) ⟨c0, c1, q0, Below.refl _ _⟩ hxr hxr hbb nq
        go_region_held3 (fun w' => w'.cell? ⟨x, 0, none⟩ = some (.slice (some ⟨bb, off, none⟩) L0 E.cap) ∧ w'.cell? ⟨x, 1, none⟩ = some (.int .i64 p) ∧ w'.cell? ⟨bb, off + (p + i) * 3, none⟩ = some (.int .i64 cr) ∧ Below wr.heap.size wr w')
          (first | assumption | exact cn3_keep (by assumption) hxr hxr hbb | go_keep)
          (first
            | (go_at_call 65; refine (enc_any' cr _).mono ?_; rintro e w' ⟨rfl, hbw⟩; have hkk := cn3_step (by assumption) hbw hxr hxr hbb))
        have K1 : Hid (TW S x E r sc dn w w') := HK.out.below hkk.2.2.2
        have hx1 := K1.out.lt
        obtain ⟨ev, hev⟩ : ∃ ev, bs (enc cr) = ev := ⟨_, rfl⟩
        have HEV : Hid (bs (enc cr) = ev) := hev
        rw [hev]
        clear hkk hbw HK c0 c1 q0 g1 hev hin
        cases fold with
        | false =>
          have hcm : (!ev.toList == (sv.extract i (i + 1)).toList) = !decide (gB false c = [b]) := by
            rw [← HV.out, cmp_is HC.out.2.2.1, ← HEV.out, bs_list, ← HC.out.2.1]
            rfl
          cases hd : decide (gB false c = [b]) with
          | false =>
            rw [hd] at hcm
            have hg0 : g = false := by
              have := HC.out.1
              rw [isW_step, hd] at this
              exact this.symm
            subst hg0
            have hcm : (!ev.toList == (sv.extract i (i + 1)).toList) = true := hcm
            go_wp2_with fail
            go_ret
            exact ⟨rfl, K1.out⟩
          | true =>
            rw [hd] at hcm
            have HN : Hid (isW false (word.drop (i + 1)) (r.drop (i + 1)) = g) := by
              have := HC.out.1
              rw [isW_step, hd] at this
              have e : r.drop (i + 1) = t := by
                have h2 := congrArg (List.drop 1) HC.out.2.2.2
                rw [List.drop_drop] at h2
                exact h2
              show isW false (word.drop (i + 1)) (r.drop (i + 1)) = g
              rw [e]
              exact this
            have hcm : (!ev.toList == (sv.extract i (i + 1)).toList) = false := hcm
            go_wp2_with fail
            go_roundw
            case rel => exact ⟨i + 1, by go_num, by omega, HN.out, K1.out⟩
            case measure => simp [intOf]; omega
        | true =>
          have hes : ev.size ≤ 100000 := by
            rw [← HEV.out, bs_size]
            have := enc_len cr
            omega
          go_wp2_with fail
          refine (G7.rlower_any ev _ hes).mono ?_
          rintro e w2 ⟨rfl, b2⟩
          have K2 : Hid (TW S x E r sc dn w w2) := K1.out.below b2
          have hx2 := K2.out.lt
          obtain ⟨lv, hlv⟩ : ∃ lv, G7.lowP ev = lv := ⟨_, rfl⟩
          rw [hlv]
          have hcm : (!lv.toList == (sv.extract i (i + 1)).toList) = !decide (gB true c = [b]) := by
            rw [← HV.out, cmp_is HC.out.2.2.1, ← hlv, ← HEV.out, ← HC.out.2.1]
            rfl
          clear b2 hlv hes
          cases hd : decide (gB true c = [b]) with
          | false =>
            rw [hd] at hcm
            have hg0 : g = false := by
              have := HC.out.1
              rw [isW_step, hd] at this
              exact this.symm
            subst hg0
            have hcm : (!lv.toList == (sv.extract i (i + 1)).toList) = true := hcm
            go_wp2_with fail
            go_ret
            exact ⟨rfl, K2.out⟩
          | true =>
            rw [hd] at hcm
            have HN : Hid (isW true (word.drop (i + 1)) (r.drop (i + 1)) = g) := by
              have := HC.out.1
              rw [isW_step, hd] at this
              have e : r.drop (i + 1) = t := by
                have h2 := congrArg (List.drop 1) HC.out.2.2.2
                rw [List.drop_drop] at h2
                exact h2
              show isW true (word.drop (i + 1)) (r.drop (i + 1)) = g
              rw [e]
              exact this
            have hcm : (!lv.toList == (sv.extract i (i + 1)).toList) = false := hcm
            go_wp2_with fail
            go_roundw
            case rel => exact ⟨i + 1, by go_num, by omega, HN.out, K2.out⟩
            case measure => simp [intOf]; omega
    · obtain rfl : i = n := by omega
      have hlt' : decide ((i : Int) < (i : Int)) = false := decide_eq_false (by omega)
      have hg1 : g = true := by
        rw [← hgi, List.drop_of_length_le (by rw [HG.out.2]; exact Nat.le_refl _)]
        rfl
      subst hg1
      clear hk hgi hp0 hp1
      go_wp2_with fail
      go_ret
      exact ⟨rfl, HK.out⟩
end Go.Proofs.Ytkbakbacomidbaa
namespace Go.Proofs.Ytkbakbacomidbaa
open Go.RowKit
theorem TW.cc {S : Nat → Prop} {x : Nat} {E : Env} {cr ca cz : Int} {t : List Ch} {sc : Sc} {dn : Bool} {w W : World} (h : TW S x E (⟨cr, ca, cz⟩ :: t) sc dn w W) : Calls Try.prog 32 #[mp x] W fun e w' => e = .returned (.int .i64 cr) ∧ TW S x E (⟨cr, ca, cz⟩ :: t) sc dn w w' := h.c
theorem TW.c0 {S : Nat → Prop} {x : Nat} {E : Env} {sc : Sc} {dn : Bool} {w W : World} (h : TW S x E [] sc dn w W) : Calls Try.prog 32 #[mp x] W fun e w' => e = .returned (.int .i64 (-1)) ∧ TW S x E [] sc dn w w' := h.c
theorem TW.ba {S : Nat → Prop} {x : Nat} {E : Env} {cr ca cz : Int} {t : List Ch} {sc : Sc} {dn : Bool} {w W : World} (h : TW S x E (⟨cr, ca, cz⟩ :: t) sc dn w W) : Calls Try.prog 34 #[mp x] W fun e w' => e = .returned (.int .i64 ca) ∧ TW S x E (⟨cr, ca, cz⟩ :: t) sc dn w w' := h.byteAt
/-- Where the scanner is, out of memory. -/
def atOf (x : Nat) (w : World) : Nat := match w.cell? ⟨x, 1, none⟩ with
  | some v => (intOf v).toNat
  | none => 0
theorem TW.meas {S : Nat → Prop} {x : Nat} {E : Env} {r : List Ch} {sc : Sc} {dn : Bool} {w W : World} (h : TW S x E r sc dn w W) : E.L.length - atOf x W = r.length := by
  obtain ⟨c1, _, _, _, _⟩ := h.at
  obtain ⟨fv, h1⟩ := h.tm
  have := h1.suf.length_le
  unfold atOf
  rw [c1]
  show E.L.length - (pos E r).toNat = _
  unfold pos
  omega
theorem TW.facts {S : Nat → Prop} {x : Nat} {E : Env} {r : List Ch} {sc : Sc} {dn : Bool} {w W : World} (h : TW S x E r sc dn w W) : E.L.length ≤ 100000 ∧ r <:+ E.L ∧ ∀ k, S k → k < W.heap.size := by
  obtain ⟨fv, h1⟩ := h.tm
  exact ⟨h1.few, h1.suf, h1.low⟩
theorem bs_app (a b : List UInt8) : bs a ++ bs b = bs (a ++ b) := by
  apply G9.bytes_eq
  simp [bs]
theorem Tokd.from {S : Nat → Prop} {x : Nat} {E : Env} {p : List Pt × Sc × List Ch} {dn : Bool} {r : List Ch} {sc : Sc} {w W : World} {e : Ending} {w' : World} (k : TW S x E r sc dn w W) (h : Tokd S x E p dn W e w') : Tokd S x E p dn w e w' := by
  obtain ⟨ao, T, cap, h1, h2, h3, h4, h5⟩ := h
  exact ⟨ao, T, cap, h1, h2, h3, h4.mono k.keep.size, k.trans h5⟩
set_option maxHeartbeats 4000000 in
set_option maxRecDepth 20000 in
theorem bogus_any' {S : Nat → Prop} {x : Nat} {E : Env} {r : List Ch} {sc : Sc} {dn : Bool} {w : World} (h : Tm S x E r sc dn w) {c0 : Ch} {F : List Ch} (hF : c0 :: F <:+ E.L) (hr : r <:+ F) (hpos : ∀ d ∈ r, 0 ≤ d.r) : Calls Try.prog 49 #[mp x, .int .i64 (pos E (c0 :: F)), .string ⟨#[]⟩] w (Tokd S x E (bogusR (c0 :: F) sc r) dn w) := by
  have HS : Hid (TW S x E r sc dn w w) := TW.start h
  have hxw := h.lt
  obtain ⟨Q, hQ⟩ : ∃ Q, encs (r.takeWhile isG) = Q := ⟨_, rfl⟩
  obtain ⟨R, hR⟩ : ∃ R, r.dropWhile isG = R := ⟨_, rfl⟩
  have HQ : Hid (bogusR (c0 :: F) sc r = (comT (c0 :: F) Q R.tail, sc, R.tail) ∧ R <:+ r) := ⟨by unfold bogusR; rw [hQ, hR], by rw [← hR]; exact List.dropWhile_suffix _⟩
  have H0 : Hid (([] : List UInt8) ++ encs (r.takeWhile isG) = Q ∧ r.dropWhile isG = R) := ⟨hQ, hR⟩
  have HFr : Hid (c0 :: F <:+ E.L ∧ r <:+ F ∧ (∀ d ∈ r, 0 ≤ d.r) ∧ r.length ≤ 100000) := ⟨hF, hr, hpos, by have := HS.out.facts; have := this.2.1.length_le; omega⟩
  obtain ⟨pF, hpF⟩ : ∃ pF, pos E (c0 :: F) = pF := ⟨_, rfl⟩
  have HPF : Hid (pos E (c0 :: F) = pF) := hpF
  rw [hpF]
  clear h hQ hR hF hr hpos hpF
  go_enter Try.func49, Try.ntmps49
  go_wp2_with fail
  go_loopw [2] (fun sv wr => ∃ (q : List UInt8) (r' : List Ch), sv = .string (bs q) ∧ q ++ encs (r'.takeWhile isG) = Q ∧ r'.dropWhile isG = R ∧ r' <:+ r ∧ q.length ≤ 4 * (r.length - r'.length) ∧ TW S x E r' sc dn w wr) (fun _ wr => E.L.length - atOf x wr)
  case atStart => exact ⟨[], r, rfl, H0.out.1, H0.out.2, List.suffix_refl _, Nat.zero_le _, HS.out⟩
  case round =>
    obtain ⟨q, r', rfl, hq, hR, hsr, hql, hk⟩ := hrel
    have K0 : Hid (TW S x E r' sc dn w wr) := hk
    have hxr := hk.lt
    obtain ⟨sv, hsv⟩ : ∃ sv, bs q = sv := ⟨_, rfl⟩
    have hsz : sv.size ≤ 400000 := by
      rw [← hsv, bs_size]
      have := HFr.out.2.2.2
      omega
    have HV : Hid (bs q = sv) := hsv
    rw [hsv]
    cases r' with
    | nil =>
      have HE : Hid (q = Q ∧ R = []) := by
        simp [encs] at hq
        simp at hR
        exact ⟨hq, hR⟩
      clear hk hq hR hsr hql hsv
      go_wp2_with fail
      refine K0.out.c0.mono ?_
      rintro e W1 ⟨rfl, k'⟩
      have K1 : Hid (TW S x E [] sc dn w W1) := k'
      have hx1 := k'.lt
      clear k'
      go_wp2_with fail
      refine K1.out.c0.mono ?_
      rintro e W2 ⟨rfl, k'⟩
      have K2 : Hid (TW S x E [] sc dn w W2) := k'
      have hx2 := k'.lt
      clear k'
      have kcm := comment_any' K2.out.tm HFr.out.1 (by simp) Q
      rw [HPF.out, ← HE.out.1, HV.out] at kcm
      go_wp2_with fail
      refine kcm.mono ?_
      rintro e w9 h9
      have H9 : Hid (Tokd S x E (bogusR (c0 :: F) sc r) dn w e w9) := by
        rw [HQ.out.1, HE.out.2, ← HE.out.1]
        exact Tokd.from K2.out h9
      obtain ⟨ao, T, cap, rfl, _⟩ := h9
      clear kcm
      go_wp2_with fail
      go_ret
      exact H9.out
    | cons c t =>
      obtain ⟨cr, ca, cz⟩ := c
      have hc0 : 0 ≤ cr := HFr.out.2.2.1 ⟨cr, ca, cz⟩ (hsr.subset (by simp))
      have g0 : decide (cr ≥ 0) = true := decide_eq_true (by omega)
      by_cases h62 : cr = 62
      · have g1 : (cr != 62) = false := by simp [h62]
        have g2 : (cr == 62) = true := by simp [h62]
        have hg : isG ⟨cr, ca, cz⟩ = false := by unfold isG; simp [h62]
        have HE : Hid (q = Q ∧ R = ⟨cr, ca, cz⟩ :: t) := by
          rw [List.takeWhile_cons, hg] at hq
          rw [List.dropWhile_cons, hg] at hR
          simp [encs] at hq hR
          exact ⟨hq, hR.symm⟩
        clear hk hq hR hsr hql hsv hg h62 hc0
        go_wp2_with fail
        refine K0.out.cc.mono ?_
        rintro e W1 ⟨rfl, k'⟩
        have K1 : Hid (TW S x E (⟨cr, ca, cz⟩ :: t) sc dn w W1) := k'
        have hx1 := k'.lt
        clear k'
        go_wp2_with fail
        refine K1.out.cc.mono ?_
        rintro e W2 ⟨rfl, k'⟩
        have K2 : Hid (TW S x E (⟨cr, ca, cz⟩ :: t) sc dn w W2) := k'
        have hx2 := k'.lt
        clear k'
        go_wp2_with fail
        refine K2.out.cc.mono ?_
        rintro e W3 ⟨rfl, k'⟩
        have K3 : Hid (TW S x E (⟨cr, ca, cz⟩ :: t) sc dn w W3) := k'
        have hx3 := k'.lt
        clear k'
        obtain ⟨a1, a2, a3, a4, _⟩ := K3.out.at
        obtain ⟨p3, hp3⟩ : ∃ p, pos E (⟨cr, ca, cz⟩ :: t) = p := ⟨_, rfl⟩
        have KA : Hid (TW S x E t sc dn w (W3.setCell ⟨x, 1, none⟩ (.int .i64 (p3 + 1)))) := by rw [← hp3]; exact K3.out.adv
        rw [hp3] at a1 a3 a4
        clear hp3
        have kcm := comment_any' KA.out.tm HFr.out.1 (by have h1 := HQ.out.2.length_le; have h2 := HFr.out.2.1.length_le; rw [HE.out.2] at h1; simp at h1; omega) Q
        rw [HPF.out, ← HE.out.1, HV.out] at kcm
        go_wp2_with fail
        refine kcm.mono ?_
        rintro e w9 h9
        have H9 : Hid (Tokd S x E (bogusR (c0 :: F) sc r) dn w e w9) := by
          rw [HQ.out.1, HE.out.2, ← HE.out.1]
          exact Tokd.from KA.out h9
        obtain ⟨ao, T, cap, rfl, _⟩ := h9
        clear kcm
        go_wp2_with fail
        go_ret
        exact H9.out
      · have g1 : (cr != 62) = true := by simp [h62]
        have hg : isG ⟨cr, ca, cz⟩ = true := by unfold isG; simp [h62]
        have HN : Hid ((q ++ enc cr) ++ encs (t.takeWhile isG) = Q ∧ t.dropWhile isG = R ∧ t <:+ r ∧ (q ++ enc cr).length ≤ 4 * (r.length - t.length)) := by
          rw [List.takeWhile_cons, hg] at hq
          rw [List.dropWhile_cons, hg] at hR
          refine ⟨?_, by simpa using hR, (List.suffix_cons _ _).trans hsr, ?_⟩
          · rw [← hq]
            simp [encs]
          · have := enc_len cr
            have h5 := hsr.length_le
            simp only [List.length_cons, List.length_append] at h5 hql ⊢
            omega
        have HM : Hid (E.L.length - atOf x wr = t.length + 1) := hk.meas
        clear hk hq hR hsr hql hsv hg h62 hc0
        go_wp2_with fail
        refine K0.out.cc.mono ?_
        rintro e W1 ⟨rfl, k'⟩
        have K1 : Hid (TW S x E (⟨cr, ca, cz⟩ :: t) sc dn w W1) := k'
        have hx1 := k'.lt
        clear k'
        go_wp2_with fail
        refine K1.out.cc.mono ?_
        rintro e W2 ⟨rfl, k'⟩
        have K2 : Hid (TW S x E (⟨cr, ca, cz⟩ :: t) sc dn w W2) := k'
        have hx2 := k'.lt
        clear k'
        go_wp2_with fail
        refine K2.out.cc.mono ?_
        rintro e W3 ⟨rfl, k'⟩
        have K3 : Hid (TW S x E (⟨cr, ca, cz⟩ :: t) sc dn w W3) := k'
        have hx3 := k'.lt
        clear k'
        go_wp2_with fail
        refine (enc_any' cr _).mono ?_
        rintro e W4 ⟨rfl, b4⟩
        have K4 : Hid (TW S x E (⟨cr, ca, cz⟩ :: t) sc dn w W4) := K3.out.below b4
        have hx4 := K4.out.lt
        obtain ⟨ev, hev⟩ : ∃ ev, bs (enc cr) = ev := ⟨_, rfl⟩
        have hez : ev.size ≤ 4 := by rw [← hev, bs_size]; exact enc_len cr
        have HEV : Hid (bs (enc cr) = ev) := hev
        rw [hev]
        clear b4 hev
        obtain ⟨a1, a2, a3, a4, _⟩ := K4.out.at
        obtain ⟨p4, hp4⟩ : ∃ p, pos E (⟨cr, ca, cz⟩ :: t) = p := ⟨_, rfl⟩
        have KA : Hid (TW S x E t sc dn w (W4.setCell ⟨x, 1, none⟩ (.int .i64 (p4 + 1)))) := by rw [← hp4]; exact K4.out.adv
        rw [hp4] at a1 a3 a4
        clear hp4
        go_wp2_with fail
        go_roundw
        case rel => exact ⟨q ++ enc cr, t, by rw [← bs_app, HV.out, HEV.out], HN.out.1, HN.out.2.1, HN.out.2.2.1, HN.out.2.2.2, KA.out⟩
        case measure => rw [KA.out.meas, HM.out]; omega
end Go.Proofs.Ytkbakbacomidbaa
