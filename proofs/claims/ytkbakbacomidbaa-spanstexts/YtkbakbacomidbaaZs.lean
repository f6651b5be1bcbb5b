/- The scanner tells characters. -/
import Derived.Test.YtkbakbacomidbaaProg
import Derived.Below
import Derived.BigCall
import Derived.BigQuiet
import Derived.BigRegion
import Derived.Deep.DeepCutAuto
import Derived.Deep.LoopGhost
import Derived.Deep.QuietTactic
import Derived.Deep.RegionHeld3
import Derived.Deep.RegionLaw
import Derived.Deep.RegionWith
import Derived.Deep.Upon
import Derived.Laws.AppendOwn
import Derived.Laws.BytesArg
import Derived.Laws.EntriesVeiled
import Derived.Laws.IdiomStrings
import Derived.Laws.StructEq
import Derived.Lib.AppendStr
import Derived.Lib.RuneBytes
import Derived.Maps.AppendAt
import Derived.Maps.OwnSet
import Derived.OwnWalk
import Derived.ScopeJumps
import Derived.Shelf.Abstract
import Derived.Shelf.Small.Strs
import Derived.Shelf.Strings.Builder1
import Derived.Shelf.Strings.BuilderF
import Derived.Shelf.Strings.BuilderK
import Derived.Shelf.Strings.BuilderRune
import Derived.Shelf.Strings.Prefix
import Derived.StillTailTactics
import Derived.StringKeys
import Derived.WalkArith
import Derived.WalkKit
import Derived.WalkLawsBesides
import Derived.WalkMore
import Derived.WalkSpells
import Derived.Test.YtkbakbacomidbaaZj
import Derived.Test.YtkbakbacomidbaaZr
namespace Go.Proofs.Ytkbakbacomidbaa
open Go.RowKit
/-- Tokens that a call has made: they lie behind all that was there. -/
structure TokR (B : Nat) (ao : Option Addr) (T : List TL) (w : World) : Prop where
  row : G9.TkRow w ao T
  rb : T ≠ [] → ∃ g cur z, ao = some ⟨g, 0, none⟩ ∧ B ≤ g ∧ w.heap[g]? = some (.cells cur 39 z)
  ab : ∀ t ∈ T, t.2 ≠ [] → ∃ g cur z, t.1.ao = some ⟨g, 0, none⟩ ∧ B ≤ g ∧ w.heap[g]? = some (.cells cur 96 z)
theorem TokR.nil (B : Nat) (w : World) (ao : Option Addr) : TokR B ao [] w := ⟨G9.TkRow.nil _ _, fun h => absurd rfl h, fun t ht => by cases ht⟩
theorem TokR.mono {B B' : Nat} {ao : Option Addr} {T : List TL} {w : World} (h : TokR B ao T w) (hB : B' ≤ B) : TokR B' ao T w := by
  refine ⟨h.row, fun hT => ?_, fun t ht hL => ?_⟩
  · obtain ⟨g, cur, z, h1, h2, h3⟩ := h.rb hT
    exact ⟨g, cur, z, h1, Nat.le_trans hB h2, h3⟩
  · obtain ⟨g, cur, z, h1, h2, h3⟩ := h.ab t ht hL
    exact ⟨g, cur, z, h1, Nat.le_trans hB h2, h3⟩
theorem TokR.below {B : Nat} {ao : Option Addr} {T : List TL} {w w' : World} (h : TokR B ao T w) (b : Below w.heap.size w w') : TokR B ao T w' := by
  refine ⟨h.row.below b, fun hT => ?_, fun t ht hL => ?_⟩
  · obtain ⟨g, cur, z, h1, h2, h3⟩ := h.rb hT
    exact ⟨g, cur, z, h1, h2, (b.block g (Array.getElem?_eq_some_iff.1 h3).1).trans h3⟩
  · obtain ⟨g, cur, z, h1, h2, h3⟩ := h.ab t ht hL
    exact ⟨g, cur, z, h1, h2, (b.block g (Array.getElem?_eq_some_iff.1 h3).1).trans h3⟩
/-- What a call gives that tells tokens. -/
def Tokd (S : Nat → Prop) (x : Nat) (E : Env) (p : List Pt × Sc × List Ch) (dn : Bool) (w : World) (e : Ending) (w' : World) : Prop :=
  ∃ ao T cap, e = .returned (.slice ao T.length cap) ∧ T.map ptOf = p.1 ∧ T.length ≤ cap ∧ TokR w.heap.size ao T w' ∧ TW S x E p.2.2 p.2.1 dn w w'
theorem TW.grown {S : Nat → Prop} {x : Nat} {E : Env} {r : List Ch} {sc : Sc} {dn : Bool} {w W W' : World} {o : Option Nat} (h : TW S x E r sc dn w W) (hg : W.grownBy W' o) (ho : ∀ g, o = some g → ¬ S g ∧ ∃ cur e z, W.heap[g]? = some (.cells cur e z) ∧ e ≠ 56 ∧ e ≠ 64) : TW S x E r sc dn w W' := by
  obtain ⟨fv, h1⟩ := h.tm
  have hk : Keep S W W' := Keep.grown hg fun g e => (ho g e).1
  have hx : o ≠ some x := fun e => by
    obtain ⟨_, cur, e2, z, h2, h3, _⟩ := ho x e
    rw [h1.blk] at h2
    simp at h2
    exact h3 h2.2.1.symm
  have hf : ∀ g, fv.ownBlock = some g → o ≠ some g := fun g hg e => by
    obtain ⟨_, cur, e2, z, h2, _, h4⟩ := ho g e
    obtain ⟨_, cur', z', h5⟩ := own_blk h1.fo hg
    rw [h5] at h2
    simp at h2
    exact h4 h2.2.1.symm
  exact ⟨⟨fv, fun k hS => Nat.lt_of_lt_of_le (h1.low k hS) hk.size, h1.hx, h1.suf, h1.few, h1.cap, h1.row.keep hk, (hg.block x h1.lt (fun e => hx e.symm)).trans h1.blk, own_mv h1.fo fun g hg2 => hg.block g (own_blk h1.fo hg2).1 (fun e => hf g hg2 e.symm), h1.fout⟩, h.keep.trans hk⟩
/-- A character as a token. -/
def chTk (c : Ch) : TL := (⟨1, c.r, ByteArray.empty, ByteArray.empty, none, 0, 0, false, c.a, c.z⟩, [])
theorem chTk_pt (l : List Ch) : (l.map chTk).map ptOf = l.map (chT false) := by
  rw [List.map_map]
  rfl
theorem TokR.of {w W : World} {ov : Value} {ao : Option Addr} {cap : Nat} {T : List TL} (h : Rw.own W (rwT ov T)) (e : ov = .slice ao T.length cap) (hB : ∀ g, ov.ownBlock = some g → w.heap.size ≤ g) (hT : ∀ t ∈ T, t.2 = [] ∧ t.1.n = 0) : TokR w.heap.size ao T W := by
  rcases h.2 with ⟨e1, h0⟩ | ⟨g, cap', cur, z, e1, hg, _, _, _, _, h4⟩
  · have : T = [] := List.eq_nil_of_length_eq_zero h0
    subst this
    exact TokR.nil _ _ _
  · simp only at e1
    have e2 := e1
    rw [e] at e1
    simp only [Value.slice.injEq] at e1
    obtain ⟨rfl, _, _⟩ := e1
    have hgB := hB g (by rw [e2]; rfl)
    have hk : ∀ t ∈ T, TkS NoZ W t.1 t.2 := fun t ht => by
      have := hT t ht
      refine ⟨⟨by rw [this.1, this.2]; rfl, by rw [this.1]; exact G9.AtRow.nil _ _, by rw [this.2]; decide⟩, fun hL => absurd this.1 hL⟩
    exact ⟨(own_row hg h4 hk).1, fun _ => ⟨g, cur, z, rfl, hgB, hg⟩, fun t ht hL => absurd (hT t ht).1 hL⟩
theorem chTk_plain (l : List Ch) : ∀ t ∈ l.map chTk, t.2 = [] ∧ t.1.n = 0 := fun t ht => by
  obtain ⟨c, _, rfl⟩ := List.mem_map.1 ht
  exact ⟨rfl, rfl⟩
set_option maxHeartbeats 4000000 in
set_option maxRecDepth 20000 in
theorem told_any {S : Nat → Prop} {x : Nat} {E : Env} {r : List Ch} {sc : Sc} {dn : Bool} {w : World} (h : Tm S x E r sc dn w) {F : List Ch} (hrF : r <:+ F) (hF : F <:+ E.L) : Calls Try.prog 37 #[mp x, .int .i64 (pos E F)] w (Tokd S x E (toldR F r, sc, r) dn w) := by
  have hlow : ∀ k, S k → k < w.heap.size := by obtain ⟨fv, h⟩ := h; exact h.low
  have hfew : E.L.length ≤ 100000 := by obtain ⟨fv, h⟩ := h; exact h.few
  have hcap : E.L.length ≤ E.cap := by obtain ⟨fv, h⟩ := h; exact h.cap
  have HS : Hid (TW S x E r sc dn w w) := TW.start h
  have hlF := hF.length_le
  have hlr := hrF.length_le
  obtain ⟨q, hq⟩ : ∃ q : Nat, E.L.length - F.length = q := ⟨_, rfl⟩
  obtain ⟨n, hn⟩ : ∃ n : Nat, F.length - r.length = n := ⟨_, rfl⟩
  have hpF : pos E F = (q : Int) := by unfold pos; omega
  obtain ⟨M, hM⟩ : ∃ M, q + n = M := ⟨_, rfl⟩
  have hpr : pos E r = (M : Int) := by unfold pos; omega
  have HP : Hid (pos E r = (M : Int) ∧ q + n = M) := ⟨hpr, hM⟩
  have HF : Hid (toldR F r = (F.take n).map (chT false) ∧ n ≤ F.length ∧ ∀ j, j < n → E.L[q + j]? = F[j]?) := by
    refine ⟨by unfold toldR; rw [hn], by omega, fun j hj => ?_⟩
    obtain ⟨p, hp⟩ := hF
    have : p.length = q := by rw [← hq, ← hp]; simp
    rw [← hp, List.getElem?_append_right (by omega)]
    congr 1
    omega
  have hqn : M ≤ E.L.length := by omega
  rw [hpF]
  have hxw := h.lt
  have HL : Hid (∀ k, S k → k < w.heap.size) := hlow
  clear h hlF hlr hq hn hpF hpr hrF hF hlow hM
  go_enter Try.func37, Try.ntmps37
  go_wp2_with fail
  go_loopw [5, 6] (fun ov iv wr => ∃ k : Nat, iv = .int .i64 k ∧ q ≤ k ∧ k ≤ M ∧ Rw.own wr (rwT ov ((F.take (k - q)).map chTk)) ∧ (∀ g, ov.ownBlock = some g → w.heap.size ≤ g) ∧ TW S x E r sc dn w wr) (fun _ iv _ => M - (intOf iv).toNat)
  case atStart => exact ⟨q, rfl, Nat.le_refl _, by have := HP.out.2; omega, by rw [Nat.sub_self]; exact ⟨rfl, .inl ⟨rfl, rfl⟩⟩, fun g hg => (by simp [Value.ownBlock] at hg), HS.out⟩
  case round =>
    obtain ⟨i, rfl, hqi0, hjn, ho, hB, hk⟩ := hrel
    obtain ⟨j, hj⟩ : ∃ j, i - q = j := ⟨_, rfl⟩
    rw [hj] at ho
    obtain ⟨c1, f1, _, _, c0⟩ := hk.at
    rw [HP.out.1] at c1
    have hxr := hk.lt
    have hMq := HP.out.2
    by_cases hlt : i < M
    · obtain ⟨c, hc⟩ : ∃ c, F[j]? = some c := ⟨_, List.getElem?_eq_getElem (by have := HF.out.2.1; omega)⟩
      have hLc : E.L[i]? = some c := by
        have := HF.out.2.2 j (by omega)
        rw [show q + j = i by omega] at this
        exact this.trans hc
      obtain ⟨b, off, elo, hb, g0, g1, g2⟩ : ∃ b off, E.lo = some ⟨b, off, none⟩ ∧ b < wr.heap.size ∧ wr.cell? ⟨b, off + i * 3, none⟩ = some (.int .i64 c.r) ∧ wr.cell? ⟨b, off + i * 3 + 1, none⟩ = some (.int .i64 c.a) ∧ wr.cell? ⟨b, off + i * 3 + 2, none⟩ = some (.int .i64 c.z) := by
        obtain ⟨fv, h1⟩ := hk.tm
        exact h1.row.now _ _ hLc
      rw [elo] at c0
      obtain ⟨L0, hL0⟩ : ∃ L0, E.L.length = L0 := ⟨_, rfl⟩
      rw [hL0] at c0 hcap hfew hqn
      obtain ⟨cr, hcr⟩ : ∃ cr, c.r = cr := ⟨_, rfl⟩
      obtain ⟨ca, hca⟩ : ∃ ca, c.a = ca := ⟨_, rfl⟩
      obtain ⟨cz, hcz⟩ : ∃ cz, c.z = cz := ⟨_, rfl⟩
      have htk : (F.take (j + 1)).map chTk = (F.take j).map chTk ++ [chTk ⟨cr, ca, cz⟩] := by
        obtain ⟨hl, rfl⟩ := List.getElem?_eq_some_iff.1 hc
        rw [← List.take_append_getElem hl, List.map_append, ← hcr, ← hca, ← hcz]
        rfl
      rw [hcr] at g0
      rw [hca] at g1
      rw [hcz] at g2
      have b0 : Below wr.heap.size wr ((wr.alloc (.cells (tkCells (chTk ⟨cr, ca, cz⟩)).toArray 39)).drew) := ((Below.refl _ _).alloc (Nat.le_refl _) _).drew
      have hnew : ((wr.alloc (.cells (tkCells (chTk ⟨cr, ca, cz⟩)).toArray 39)).drew).heap[wr.heap.size]? = some (.cells (tkCells (chTk ⟨cr, ca, cz⟩)).toArray 39 (0, 0)) := heap_alloc_new wr _
      obtain ⟨W0, hW0⟩ : ∃ W0, (wr.alloc (.cells (tkCells (chTk ⟨cr, ca, cz⟩)).toArray 39)).drew = W0 := ⟨_, rfl⟩
      rw [hW0] at b0 hnew
      have hlen : ((F.take j).map chTk).length = j := by rw [List.length_map, List.length_take]; have := HF.out.2.1; omega
      have ho2 : OwnQ wr false 39 8 u5 j (((F.take j).map chTk).flatMap tkCells) := by
        have ho3 : OwnQ wr false 39 8 u5 ((F.take j).map chTk).length (((F.take j).map chTk).flatMap tkCells) := ho
        rw [hlen] at ho3
        exact ho3
      obtain ⟨v', W', hrun, ho', hg', hat⟩ := row_app Try.underlying22 info45 rfl (by decide) (by decide) (own_mv ho2 fun g hg => b0.block g (own_blk ho2 hg).1) wr.heap.size 0 1 1 (tkCells (chTk ⟨cr, ca, cz⟩)) rfl (fun i u hi => by rw [Nat.zero_add]; simp [World.cell?, hnew]; exact hi) (tk_one _) (by omega)
      obtain ⟨ao', c', rfl, hc'1, hc'2⟩ := own_form ho'
      have hj1 : i + 1 - q = j + 1 := by omega
      have H2 : Hid (Rw.own W' (rwT (.slice ao' (j + 1) c') ((F.take (i + 1 - q)).map chTk)) ∧ (∀ g, (Value.slice ao' (j + 1) c').ownBlock = some g → w.heap.size ≤ g) ∧ TW S x E r sc dn w W') := by
        refine ⟨?_, fun g hg => ?_, ?_⟩
        · rw [hj1, htk]
          show OwnQ W' false 39 8 _ (((F.take j).map chTk) ++ [chTk ⟨cr, ca, cz⟩]).length ((((F.take j).map chTk) ++ [chTk ⟨cr, ca, cz⟩]).flatMap tkCells)
          rw [List.length_append, List.flatMap_append, hlen]
          simpa using ho'
        · rcases hat with hat | hat
          · rw [hat] at hg; exact hB g hg
          · rw [hg] at hat
            have := Option.some.inj hat
            have := b0.size
            have := hk.keep.size
            omega
        · refine (hk.below b0).grown hg' fun g hg => ?_
          obtain ⟨_, cur, z, hgb⟩ := own_blk ho2 hg
          refine ⟨fun hS => ?_, cur, 39, z, ?_, by decide, by decide⟩
          · have := hB g hg
            have := HL.out g hS
            omega
          · rw [b0.block g (own_blk ho2 hg).1]; exact hgb
      have hin' : W'.cell? ⟨x, 0, none⟩ = some (.slice (some ⟨b, off, none⟩) L0 E.cap) ∧ W'.cell? ⟨b, off + i * 3, none⟩ = some (.int .i64 cr) ∧ W'.cell? ⟨b, off + i * 3 + 1, none⟩ = some (.int .i64 ca) ∧ W'.cell? ⟨b, off + i * 3 + 2, none⟩ = some (.int .i64 cz) := by
        obtain ⟨_, _, _, _, d0⟩ := H2.out.2.2.at
        obtain ⟨fv, h1⟩ := H2.out.2.2.tm
        obtain ⟨b', off', e', _, p0, p1, p2⟩ := h1.row.now _ _ hLc
        rw [elo] at e' d0
        cases e'
        rw [hL0] at d0
        rw [hcr] at p0
        rw [hca] at p1
        rw [hcz] at p2
        exact ⟨d0, p0, p1, p2⟩
      rw [← hW0] at hrun
      obtain ⟨ao, ca', eov, _, _⟩ := own_form ho2
      subst eov
      have hlt' : decide ((i : Int) < (M : Int)) = true := decide_eq_true (by omega)
      have hqi : (i : Int) < (L0 : Int) := by omega
      clear hk hc hLc elo hL0 hcr hca hcz htk b0 hnew hW0 ho' hg' hat ho hB hc'1 hc'2 ho2 hlen hj1 hj hMq
      have hqj : i < L0 := by omega
      have hqc : i < 100000 := by omega
      have hcapi : (L0 : Int) ≤ (E.cap : Int) := by omega
      go_wp2_with fail
      go_region_held3 (fun w' => w'.cell? ⟨x, 0, none⟩ = some (.slice (some ⟨b, off, none⟩) L0 E.cap) ∧ w'.cell? ⟨b, off + i * 3, none⟩ = some (.int .i64 cr) ∧ w'.cell? ⟨b, off + i * 3 + 1, none⟩ = some (.int .i64 ca) ∧ w'.cell? ⟨b, off + i * 3 + 2, none⟩ = some (.int .i64 cz))
        (first | assumption | go_keep)
        (first
          | (refine step_append_eq rfl _ _ 22 22 rfl _ _ (by simp [Act.eval]) (by simp [Act.eval]) hrun ?_))
      go_wp2_with fail
      go_roundw
      case rel => exact ⟨i + 1, by go_num, by omega, by omega, H2.out⟩
      case measure => simp [intOf]; omega
    · obtain rfl : i = M := by omega
      obtain rfl : j = n := by omega
      have hlt' : decide ((i : Int) < (i : Int)) = false := decide_eq_false (by omega)
      obtain ⟨ao, ca', eov, hc1, _⟩ := own_form ho
      simp only at eov hc1
      have H3 : Hid (Tokd S x E (toldR F r, sc, r) dn w (.returned u5) wr) := ⟨ao, (F.take j).map chTk, ca', by rw [eov], by rw [chTk_pt]; exact HF.out.1.symm, hc1, TokR.of ho eov hB (chTk_plain _), hk⟩
      clear hk ho hB eov hc1 hj hMq
      go_wp2_with fail
      go_ret
      exact H3.out
end Go.Proofs.Ytkbakbacomidbaa
