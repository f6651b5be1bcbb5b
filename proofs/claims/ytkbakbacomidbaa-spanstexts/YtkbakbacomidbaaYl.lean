/- The scanner tells a tag. -/
import Derived.Test.YtkbakbacomidbaaProg
import Derived.Below
import Derived.BigCall
import Derived.BigQuiet
import Derived.BigRegion
import Derived.Deep.DeepCutAuto
import Derived.Deep.LoopGhost
import Derived.Deep.QuietTactic
import Derived.Deep.RegionHeld3
import Derived.Deep.RegionLaw
import Derived.Deep.RegionWith
import Derived.Deep.Upon
import Derived.Laws.AppendOwn
import Derived.Laws.BytesArg
import Derived.Laws.EntriesVeiled
import Derived.Laws.IdiomStrings
import Derived.Laws.StructEq
import Derived.Lib.AppendStr
import Derived.Lib.RuneBytes
import Derived.Maps.AppendAt
import Derived.Maps.OwnSet
import Derived.OwnWalk
import Derived.ScopeJumps
import Derived.Shelf.Abstract
import Derived.Shelf.Small.Strs
import Derived.Shelf.Strings.Builder1
import Derived.Shelf.Strings.BuilderF
import Derived.Shelf.Strings.BuilderK
import Derived.Shelf.Strings.BuilderRune
import Derived.Shelf.Strings.Prefix
import Derived.StillTailTactics
import Derived.StringKeys
import Derived.WalkArith
import Derived.WalkKit
import Derived.WalkLawsBesides
import Derived.WalkMore
import Derived.WalkSpells
import Derived.Test.YtkbakbacomidbaaYj
namespace Go.Proofs.Ytkbakbacomidbaa
open Go.RowKit
/-- Where the character that a token begins with lies, whatever the scanner does. -/
theorem TW.row1 {S : Nat → Prop} {x : Nat} {E : Env} {r : List Ch} {sc : Sc} {dn : Bool} {w W : World} (h : TW S x E r sc dn w W) {c0 : Ch} {F : List Ch} (hF : c0 :: F <:+ E.L) : ∃ b off q : Nat, pos E (c0 :: F) = (q : Int) ∧ q < E.L.length ∧ E.L.length ≤ E.cap ∧ E.L.length ≤ 100000 ∧ ∀ (S' : Nat → Prop) (r' : List Ch) (sc' : Sc) (dn' : Bool) (w' W' : World), TW S' x E r' sc' dn' w' W' → W'.cell? ⟨x, 0, none⟩ = some (.slice (some ⟨b, off, none⟩) E.L.length E.cap) ∧ W'.cell? ⟨b, off + q * 3 + 1, none⟩ = some (.int .i64 c0.a) ∧ b < W'.heap.size := by
  obtain ⟨fv, h1⟩ := h.tm
  obtain ⟨p, hp⟩ := hF
  have hLc : E.L[p.length]? = some c0 := by rw [← hp, List.getElem?_append_right (Nat.le_refl _), Nat.sub_self]; rfl
  obtain ⟨b, off, elo, _⟩ := h1.row.now _ _ hLc
  refine ⟨b, off, p.length, by unfold pos; rw [← hp]; simp, (List.getElem?_eq_some_iff.1 hLc).1, h1.cap, h1.few, fun S' r' sc' dn' w' W' h' => ?_⟩
  obtain ⟨_, _, _, _, a5⟩ := h'.at
  obtain ⟨fv', h2⟩ := h'.tm
  obtain ⟨b', off', elo', hb', _, q1, _⟩ := h2.row.now _ _ hLc
  rw [elo] at elo' a5
  simp at elo'
  obtain ⟨rfl, rfl⟩ := elo'
  exact ⟨a5, q1, hb'⟩
theorem TokR.tok {B : Nat} {W : World} (t : TL) (hok : G9.TkOk W t.1 t.2) (hb : B ≤ W.heap.size) (ha : t.2 ≠ [] → ∃ g cur z, t.1.ao = some ⟨g, 0, none⟩ ∧ B ≤ g ∧ W.heap[g]? = some (.cells cur 96 z)) : TokR B (some ⟨W.heap.size, 0, none⟩) [t] (W.alloc (.cells t.1.arr 39)) := by
  have bl : Below W.heap.size W (W.alloc (.cells t.1.arr 39)) := (Below.refl _ _).alloc (Nat.le_refl _) _
  have hn : (W.alloc (.cells t.1.arr 39)).heap[W.heap.size]? = some (.cells t.1.arr 39 (0, 0)) := heap_alloc_new _ _
  refine ⟨fun i u hu => ?_, fun _ => ⟨_, _, _, rfl, hb, hn⟩, fun u hu hL => ?_⟩
  · cases i with
    | zero =>
      simp only [List.getElem?_cons_zero, Option.some.injEq] at hu
      subst hu
      refine ⟨⟨W.heap.size, 0, rfl, (Array.getElem?_eq_some_iff.1 hn).1, fun j u hj => ?_⟩, hok.below bl⟩
      rw [show 0 + 0 * 8 + j = j by omega]
      simp only [World.cell?, hn]
      exact hj
    | succ i => simp at hu
  · simp at hu
    subst hu
    obtain ⟨g, cur, z, h1, h2, h3⟩ := ha hL
    exact ⟨g, cur, z, h1, h2, (bl.block g (Array.getElem?_eq_some_iff.1 h3).1).trans h3⟩
/-- What a call gives that tells tokens: they lie behind B. -/
def TokB (B : Nat) (S : Nat → Prop) (x : Nat) (E : Env) (p : List Pt × Sc × List Ch) (dn : Bool) (w : World) (e : Ending) (w' : World) : Prop :=
  ∃ ao T cap, e = .returned (.slice ao T.length cap) ∧ T.map ptOf = p.1 ∧ T.length ≤ cap ∧ TokR B ao T w' ∧ TW S x E p.2.2 p.2.1 dn w w'
theorem TW.settext {S : Nat → Prop} {x : Nat} {E : Env} {r : List Ch} {sc : Sc} {dn : Bool} {w W : World} (h : TW S x E r sc dn w W) (b : Int) : TW S x E r { sc with text := b } dn w (W.setCell ⟨x, 3, none⟩ (.int .i64 b)) := by
  obtain ⟨fv, h1⟩ := h.tm
  obtain ⟨q1, q2⟩ := h1.set (r' := r) (sc' := { sc with text := b }) (dn' := dn) 3 (.int .i64 b) (by simp [Env.cells]) h1.suf rfl
  exact ⟨⟨fv, q1⟩, h.keep.trans q2⟩
theorem TW.setlast {S : Nat → Prop} {x : Nat} {E : Env} {r : List Ch} {sc : Sc} {dn : Bool} {w W : World} (h : TW S x E r sc dn w W) (b : ByteArray) : TW S x E r { sc with last := b } dn w (W.setCell ⟨x, 4, none⟩ (.string b)) := by
  obtain ⟨fv, h1⟩ := h.tm
  obtain ⟨q1, q2⟩ := h1.set (r' := r) (sc' := { sc with last := b }) (dn' := dn) 4 (.string b) (by simp [Env.cells]) h1.suf rfl
  exact ⟨⟨fv, q1⟩, h.keep.trans q2⟩
theorem TW.c3 {S : Nat → Prop} {x : Nat} {E : Env} {r : List Ch} {sc : Sc} {dn : Bool} {w W : World} (h : TW S x E r sc dn w W) : W.cell? ⟨x, 3, none⟩ = some (.int .i64 sc.text) ∧ W.frozen? ⟨x, 3, none⟩ = false ∧ W.cell? ⟨x, 4, none⟩ = some (.string sc.last) ∧ W.frozen? ⟨x, 4, none⟩ = false ∧ W.cell? ⟨x, 2, none⟩ = some (.int .i64 E.N) := by
  obtain ⟨fv, h1⟩ := h.tm
  exact ⟨h1.cells 3 _ rfl, h1.free 3, h1.cells 4 _ rfl, h1.free 4, h1.cells 2 _ rfl⟩
/-- A token's cells. -/
abbrev tkA (kind : Int) (nm : ByteArray) (av : Value) (sf : Bool) (f t : Int) : Array Value := #[.int .i64 kind, .int .i64 0, .string nm, .string ⟨#[]⟩, av, .bool sf, .int .i64 f, .int .i64 t]
set_option maxHeartbeats 4000000 in
set_option maxRecDepth 20000 in
theorem done_any {S : Nat → Prop} {x : Nat} {E : Env} {r : List Ch} {sc : Sc} {dn : Bool} {w : World} (h : Tm S x E r sc dn w) {c0 : Ch} {F : List Ch} (hF : c0 :: F <:+ E.L) (hl : r.length ≤ F.length) {kind : Int} (hk : kind = 2 ∨ kind = 3) (nm : List UInt8) {ao : Option Addr} {n cap : Nat} {A : List At} (sf : Bool) (hA : Stays S w fun w => G9.AtRow w ao A) (hn : A.length = n) (hn2 : n ≤ 100000) {B : Nat} (hB : B ≤ w.heap.size) (hAb : A ≠ [] → ∃ g cur z, ao = some ⟨g, 0, none⟩ ∧ B ≤ g ∧ S g ∧ w.heap[g]? = some (.cells cur 96 z)) (hf : sc.fs.length ≤ 1000000000) :
    Calls Try.prog 63 #[mp x, .int .i64 (pos E (c0 :: F)), .agg (tkA kind (bs nm) (.slice ao n cap) sf 0 0)] w (TokB B S x E (doneR (c0 :: F) kind nm sc A sf sc.fs r) dn w) := by
  have k00 := TW.start h
  obtain ⟨b, off, q, hq, hqL, hLc, hL5, hrow⟩ := k00.row1 hF
  rw [hq]
  obtain ⟨L0, hL0⟩ : ∃ L0, E.L.length = L0 := ⟨_, rfl⟩
  rw [hL0] at hqL hLc hL5 hrow
  obtain ⟨a, ha⟩ : ∃ a, c0.a = a := ⟨_, rfl⟩
  rw [ha] at hrow
  obtain ⟨z, hz⟩ : ∃ z, endZ E.L r = z := ⟨_, rfl⟩
  have hz2 : endZ (c0 :: F) r = z := by rw [endZ_suf hF (by simp; omega)]; exact hz
  have hlt : r.length < E.L.length := by have := hF.length_le; simp at this; omega
  have HZ : Hid (endZ E.L r = z ∧ r.length < E.L.length) := ⟨hz, hlt⟩
  have HRW : Hid (∀ (S' : Nat → Prop) (r' : List Ch) (sc' : Sc) (dn' : Bool) (w' W' : World), TW S' x E r' sc' dn' w' W' → W'.cell? ⟨x, 0, none⟩ = some (.slice (some ⟨b, off, none⟩) L0 E.cap) ∧ W'.cell? ⟨b, off + q * 3 + 1, none⟩ = some (.int .i64 a) ∧ b < W'.heap.size) := hrow
  obtain ⟨P, hP⟩ : ∃ P, doneR (c0 :: F) kind nm sc A sf sc.fs r = P := ⟨_, rfl⟩
  rw [hP]
  obtain ⟨nv, hnv⟩ : ∃ nv, bs nm = nv := ⟨_, rfl⟩
  rw [hnv]
  have HP : Hid ((if kind = 2 then ([(⟨2, 0, nv, ByteArray.empty, A, sf, a, z⟩ : Pt)], { sc with text := 0, last := nv }, r) else ([(⟨kind, 0, nv, ByteArray.empty, [], false, a, z⟩ : Pt)], { sc with text := 0, fs := if A ≠ [] ∨ sf = true then sc.fs ++ [(13, a)] else sc.fs }, r)) = P) := by
    show _ = P
    rw [← hP]
    unfold doneR
    rw [hz2, hnv]
    show _ = if kind = 2 then ([(⟨2, 0, nv, ByteArray.empty, A, sf, c0.a, z⟩ : Pt)], { sc with text := 0, last := nv, fs := sc.fs }, r) else ([(⟨kind, 0, nv, ByteArray.empty, [], false, c0.a, z⟩ : Pt)], { sc with text := 0, fs := if A ≠ [] ∨ sf = true then sc.fs ++ [(13, c0.a)] else sc.fs }, r)
    rw [ha]
  have HA : Hid ((Stays S w fun w => G9.AtRow w ao A) ∧ A.length = n ∧ B ≤ w.heap.size ∧ (A ≠ [] → ∃ g cur z, ao = some ⟨g, 0, none⟩ ∧ B ≤ g ∧ S g ∧ w.heap[g]? = some (.cells cur 96 z)) ∧ sc.fs.length ≤ 1000000000) := ⟨hA, hn, hB, hAb, hf⟩
  obtain ⟨W0, hW0⟩ : ∃ W0, w.alloc (.cells (tkA kind nv (.slice ao n cap) sf 0 0) 39) = W0 := ⟨_, rfl⟩
  have HW0 : Hid (w.alloc (.cells (tkA kind nv (.slice ao n cap) sf 0 0) 39) = W0) := hW0
  have k0 : TY S x E r sc dn w w.heap.size (tkA kind nv (.slice ao n cap) sf 0 0) 39 W0 := by
    rw [← hW0]
    exact TY.new k00 _ 39 (by decide) (by decide)
  have K0 : Hid (TY S x E r sc dn w w.heap.size (tkA kind nv (.slice ao n cap) sf 0 0) 39 W0) := k0
  have hx0 := k0.tw.lt
  have hy0 := k0.lt
  have hne : w.heap.size ≠ x := k0.ne
  have hqi : (q : Int) < (L0 : Int) := by omega
  clear h hF hl hA hn hB hAb hf k00 hq hrow hL0 ha hz hz2 hlt hP hnv hW0 k0
  go_enter Try.func63, Try.ntmps63
  go_upto_region 1 with fail
  rw [HW0.out]
  go_cut [] (fun wc => TY S x E r sc dn w w.heap.size (tkA kind nv (.slice ao n cap) sf a z) 39 wc)
  case first =>
    obtain ⟨c0a, c1a, c2a⟩ := HRW.out _ _ _ _ _ _ K0.out.tw
    obtain ⟨f6, g6⟩ := K0.out.cell 6 rfl
    obtain ⟨f7, g7⟩ := K0.out.cell 7 rfl
    go_region_with (first
      | (go_at_call 36; refine ((K0.out.below ((Below.refl _ _).drew)).endz HZ.out.2).mono ?_; rintro e wa ⟨rfl, ka⟩; rw [HZ.out.1]; have KA : Hid (TY S x E r sc dn w w.heap.size (tkA kind nv (.slice ao n cap) sf 0 0) 39 wa) := ka; obtain ⟨c0b, c1b, c2b⟩ := HRW.out _ _ _ _ _ _ ka.tw; obtain ⟨f6a, g6a⟩ := ka.cell 6 rfl; obtain ⟨f7a, g7a⟩ := ka.cell 7 rfl; have hxa := ka.tw.lt; have hya := ka.lt; clear ka))
    all_goals
      go_wp2_with fail
      go_meet
      case rel => exact (KA.out.put 6 (.int .i64 a) rfl).put 7 (.int .i64 z) rfl
  case rest =>
    have K1 : Hid (TY S x E r sc dn w w.heap.size (tkA kind nv (.slice ao n cap) sf a z) 39 wc) := hcut
    have hxc := hcut.tw.lt
    have hyc := hcut.lt
    obtain ⟨d3, d4, _, _, _⟩ := hcut.tw.c3
    obtain ⟨W2, hW2⟩ : ∃ W2, wc.setCell ⟨x, 3, none⟩ (.int .i64 0) = W2 := ⟨_, rfl⟩
    have HW2 : Hid (wc.setCell ⟨x, 3, none⟩ (.int .i64 0) = W2) := hW2
    have k2 : TY S x E r { sc with text := 0 } dn w w.heap.size (tkA kind nv (.slice ao n cap) sf a z) 39 W2 := by
      rw [← hW2]
      exact hcut.hop (hcut.tw.settext 0)
    have K2 : Hid (TY S x E r { sc with text := 0 } dn w w.heap.size (tkA kind nv (.slice ao n cap) sf a z) 39 W2) := k2
    clear hW2 hcut K0 K1 hx0 hy0
    go_upto_region 3 with fail
    rw [HW2.out]
    clear d3 d4 hxc hyc HW2
    have hx2 := k2.tw.lt
    have hy2 := k2.lt
    obtain ⟨e0, _⟩ := k2.cell 0 rfl
    obtain ⟨e2, _⟩ := k2.cell 2 rfl
    rcases hk with rfl | rfl
    · obtain ⟨_, _, d5, d6, _⟩ := k2.tw.c3
      obtain ⟨W3, hW3⟩ : ∃ W3, W2.setCell ⟨x, 4, none⟩ (.string nv) = W3 := ⟨_, rfl⟩
      have HW3 : Hid (W2.setCell ⟨x, 4, none⟩ (.string nv) = W3) := hW3
      have k3 : TY S x E r { sc with text := 0, last := nv } dn w w.heap.size (tkA 2 nv (.slice ao n cap) sf a z) 39 W3 := by
        rw [← hW3]
        exact k2.hop (k2.tw.setlast nv)
      have HR : Hid (TokB B S x E P dn w (.returned (.slice (some ⟨W3.heap.size, 0, none⟩) 1 1)) (W3.alloc (.cells (tkA 2 nv (.slice ao n cap) sf a z) 39))) := by
        have hP := HP.out
        rw [if_pos rfl] at hP
        refine ⟨some ⟨W3.heap.size, 0, none⟩, [(⟨2, 0, nv, ⟨#[]⟩, ao, n, cap, sf, a, z⟩, A)], 1, rfl, by rw [← hP]; rfl, Nat.le_refl _, TokR.tok (⟨2, 0, nv, ⟨#[]⟩, ao, n, cap, sf, a, z⟩, A) ⟨HA.out.2.1, (HA.out.1.keep k3.tw.keep).now, by show n ≤ _; omega⟩ (Nat.le_trans HA.out.2.2.1 k3.tw.keep.size) (fun hne => ?_), ?_⟩
        · obtain ⟨g, cur, z', h1, h2, h3, h4⟩ := HA.out.2.2.2.1 hne
          exact ⟨g, cur, z', h1, h2, (k3.tw.keep.block g h3 (Array.getElem?_eq_some_iff.1 h4).1).trans h4⟩
        · rw [← hP]
          exact k3.tw.below ((Below.refl _ _).alloc (Nat.le_refl _) _)
      clear hW3 k2
      go_upto_region 5 with fail
      rw [HW3.out]
      clear d5 d6 e0 e2 HW3
      obtain ⟨e0, _⟩ := k3.cell 0 rfl
      obtain ⟨e1, _⟩ := k3.cell 1 rfl
      obtain ⟨e2, _⟩ := k3.cell 2 rfl
      obtain ⟨e3, _⟩ := k3.cell 3 rfl
      obtain ⟨e4, _⟩ := k3.cell 4 rfl
      obtain ⟨e5, _⟩ := k3.cell 5 rfl
      obtain ⟨e6, _⟩ := k3.cell 6 rfl
      obtain ⟨e7, _⟩ := k3.cell 7 rfl
      have hy3 := k3.lt
      clear k3
      go_wp2_with fail
      go_ret
      exact HR.out
    · obtain ⟨e4, _⟩ := k2.cell 4 rfl
      obtain ⟨e5, _⟩ := k2.cell 5 rfl
      obtain ⟨e6, _⟩ := k2.cell 6 rfl
      obtain ⟨e7, _⟩ := k2.cell 7 rfl
      have HFIN : Hid (∀ (fs : Fs) (W : World), P = ([(⟨3, 0, nv, ByteArray.empty, [], false, a, z⟩ : Pt)], { sc with text := 0, fs := fs }, r) → TY S x E r { sc with text := 0, fs := fs } dn w w.heap.size (tkA 3 nv (.slice ao n cap) sf a z) 39 W → TokB B S x E P dn w (.returned (.slice (some ⟨W.heap.size, 0, none⟩) 1 1)) (W.alloc (.cells (tkA 3 nv (.slice none 0 0) false a z) 39))) := fun fs W hP k => by
        refine ⟨some ⟨W.heap.size, 0, none⟩, [(⟨3, 0, nv, ⟨#[]⟩, none, 0, 0, false, a, z⟩, [])], 1, rfl, by rw [hP]; rfl, Nat.le_refl _, TokR.tok (⟨3, 0, nv, ⟨#[]⟩, none, 0, 0, false, a, z⟩, []) ⟨rfl, G9.AtRow.nil _ _, Nat.zero_le _⟩ (Nat.le_trans HA.out.2.2.1 k.tw.keep.size) (fun hne => absurd rfl hne), ?_⟩
        rw [hP]
        exact k.tw.below ((Below.refl _ _).alloc (Nat.le_refl _) _)
      have HP3 : Hid (([(⟨3, 0, nv, ByteArray.empty, [], false, a, z⟩ : Pt)], { sc with text := 0, fs := if A ≠ [] ∨ sf = true then sc.fs ++ [(13, a)] else sc.fs }, r) = P) := by
        have hP := HP.out
        rw [if_neg (by decide)] at hP
        exact hP
      clear k2 HW0 HP
      by_cases hn0 : n = 0
      · have hA0 : A = [] := List.eq_nil_of_length_eq_zero (by rw [HA.out.2.1]; exact hn0)
        subst hn0
        cases sf with
        | true =>
          have HPT : Hid (P = ([(⟨3, 0, nv, ByteArray.empty, [], false, a, z⟩ : Pt)], { sc with text := 0, fs := sc.fs ++ [(13, a)] }, r)) := by
            have hP := HP3.out
            rw [if_pos (.inr rfl)] at hP
            exact hP.symm
          clear hA0
          go_wp2_with fail
          refine (K2.out.tfl 13 a HA.out.2.2.2.2).mono ?_
          rintro e W3 ⟨rfl, k3⟩
          have HR' : Hid (TokB B S x E P dn w (.returned (.slice (some ⟨W3.heap.size, 0, none⟩) 1 1)) (W3.alloc (.cells (tkA 3 nv (.slice none 0 0) false a z) 39))) := HFIN.out (sc.fs ++ [(13, a)]) W3 HPT.out k3
          clear e0 e2 e4 e5 e6 e7
          obtain ⟨e0, _⟩ := k3.cell 0 rfl
          obtain ⟨e2, _⟩ := k3.cell 2 rfl
          obtain ⟨e6, _⟩ := k3.cell 6 rfl
          obtain ⟨e7, _⟩ := k3.cell 7 rfl
          have hy3 := k3.lt
          clear k3
          go_wp2_with fail
          go_ret
          exact HR'.out
        | false =>
          have HPT : Hid (P = ([(⟨3, 0, nv, ByteArray.empty, [], false, a, z⟩ : Pt)], { sc with text := 0, fs := sc.fs }, r)) := by
            have hP := HP3.out
            rw [if_neg (by simp [hA0])] at hP
            exact hP.symm
          clear hA0
          have HR := HFIN.out sc.fs W2 HPT.out K2.out
          have HR' : Hid (TokB B S x E P dn w (.returned (.slice (some ⟨W2.heap.size, 0, none⟩) 1 1)) (W2.alloc (.cells (tkA 3 nv (.slice none 0 0) false a z) 39))) := HR
          clear HR
          go_wp2_with fail
          go_ret
          exact HR'.out
      · have hgt : decide ((n : Int) > 0) = true := decide_eq_true (by omega)
        have HPT : Hid (P = ([(⟨3, 0, nv, ByteArray.empty, [], false, a, z⟩ : Pt)], { sc with text := 0, fs := sc.fs ++ [(13, a)] }, r)) := by
          have hP := HP3.out
          rw [if_pos (.inl fun e => hn0 (by rw [← HA.out.2.1, e]; rfl))] at hP
          exact hP.symm
        go_wp2_with fail
        refine (K2.out.tfl 13 a HA.out.2.2.2.2).mono ?_
        rintro e W3 ⟨rfl, k3⟩
        have HR' : Hid (TokB B S x E P dn w (.returned (.slice (some ⟨W3.heap.size, 0, none⟩) 1 1)) (W3.alloc (.cells (tkA 3 nv (.slice none 0 0) false a z) 39))) := HFIN.out (sc.fs ++ [(13, a)]) W3 HPT.out k3
        clear e0 e2 e4 e5 e6 e7
        obtain ⟨e0, _⟩ := k3.cell 0 rfl
        obtain ⟨e2, _⟩ := k3.cell 2 rfl
        obtain ⟨e6, _⟩ := k3.cell 6 rfl
        obtain ⟨e7, _⟩ := k3.cell 7 rfl
        have hy3 := k3.lt
        clear k3
        go_wp2_with fail
        go_ret
        exact HR'.out
end Go.Proofs.Ytkbakbacomidbaa
