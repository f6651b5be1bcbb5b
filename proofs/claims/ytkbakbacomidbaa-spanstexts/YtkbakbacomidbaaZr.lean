/- The scanner's small functions: byteAt, end, letter, lower, fault. -/
import Derived.Test.YtkbakbacomidbaaProg
import Derived.Below
import Derived.BigCall
import Derived.BigQuiet
import Derived.BigRegion
import Derived.Deep.DeepCutAuto
import Derived.Deep.LoopGhost
import Derived.Deep.QuietTactic
import Derived.Deep.RegionHeld3
import Derived.Deep.RegionLaw
import Derived.Deep.RegionWith
import Derived.Deep.Upon
import Derived.Laws.AppendOwn
import Derived.Laws.BytesArg
import Derived.Laws.EntriesVeiled
import Derived.Laws.IdiomStrings
import Derived.Laws.StructEq
import Derived.Lib.AppendStr
import Derived.Lib.RuneBytes
import Derived.Maps.AppendAt
import Derived.Maps.OwnSet
import Derived.OwnWalk
import Derived.ScopeJumps
import Derived.Shelf.Abstract
import Derived.Shelf.Small.Strs
import Derived.Shelf.Strings.Builder1
import Derived.Shelf.Strings.BuilderF
import Derived.Shelf.Strings.BuilderK
import Derived.Shelf.Strings.BuilderRune
import Derived.Shelf.Strings.Prefix
import Derived.StillTailTactics
import Derived.StringKeys
import Derived.WalkArith
import Derived.WalkKit
import Derived.WalkLawsBesides
import Derived.WalkMore
import Derived.WalkSpells
import Derived.Test.YtkbakbacomidbaaZq
namespace Go.Proofs.Ytkbakbacomidbaa
open Go.RowKit
set_option maxHeartbeats 2000000 in
set_option maxRecDepth 20000 in
theorem letter_any' (r : Int) (w : World) : Calls Try.prog 47 #[.int .i64 r] w fun e w' => e = .returned (.bool (ltr r)) ∧ w' = w := by
  go_enter Try.func47, Try.ntmps47
  go_wp2
  all_goals
    go_ret
    refine ⟨G7.ret_bool ?_, rfl⟩
    unfold ltr
    first | (symm; apply decide_eq_true; omega) | (rw [Bool.eq_iff_iff]; simp; omega)
theorem utf_enc (r : Int) : Utf8.encode (G9.chr r) = bs (enc r) := by
  have hv : Utf8.valid (G9.chr r) = true ∧ 0 ≤ G9.chr r ∧ G9.chr r ≤ 1114111 ∧ (G9.chr r < 55296 ∨ 57343 < G9.chr r) := by
    unfold G9.chr
    split
    · next h =>
      unfold G9.mayB at h
      simp at h
      refine ⟨?_, by omega, by omega, by omega⟩
      unfold Utf8.valid
      simp
      omega
    · exact ⟨by decide, by decide, by decide, by decide⟩
  obtain ⟨h1, h2, h3, h4⟩ := hv
  unfold enc bs Lib.encodeRune
  generalize G9.chr r = q at h1 h2 h3 h4
  obtain ⟨c, rfl⟩ : ∃ c : Nat, q = (c : Int) := ⟨q.toNat, by omega⟩
  rw [G9.val_enc _ h1 c rfl]
  by_cases k1 : c < 128
  · rw [if_pos k1, Lib.encodeRuneZ_one (by omega) (by omega)]
    rfl
  · rw [if_neg k1]
    by_cases k2 : c < 2048
    · rw [if_pos k2, Lib.encodeRuneZ_two (by omega) (by omega)]
      simp only [List.map_cons, List.map_nil]
      rw [show ((192 : Int) + (c : Int) / 64).toNat = 192 + c / 64 by omega, show ((128 : Int) + (c : Int) % 64).toNat = 128 + c % 64 by omega]
    · rw [if_neg k2]
      by_cases k3 : c < 65536
      · rw [if_pos k3, Lib.encodeRuneZ_three (by omega)]
        simp only [List.map_cons, List.map_nil]
        rw [show ((224 : Int) + (c : Int) / 4096).toNat = 224 + c / 4096 by omega, show ((128 : Int) + (c : Int) / 64 % 64).toNat = 128 + c / 64 % 64 by omega, show ((128 : Int) + (c : Int) % 64).toNat = 128 + c % 64 by omega]
      · rw [if_neg k3, Lib.encodeRuneZ_four (by omega) (by omega)]
        simp only [List.map_cons, List.map_nil]
        rw [show ((240 : Int) + (c : Int) / 262144).toNat = 240 + c / 262144 by omega, show ((128 : Int) + (c : Int) / 4096 % 64).toNat = 128 + c / 4096 % 64 by omega, show ((128 : Int) + (c : Int) / 64 % 64).toNat = 128 + c / 64 % 64 by omega, show ((128 : Int) + (c : Int) % 64).toNat = 128 + c % 64 by omega]
theorem enc_any' (r : Int) (w : World) : Calls Try.prog 65 #[.int .i64 r] w fun e w' => e = .returned (.string (bs (enc r))) ∧ Below w.heap.size w w' := by
  rw [← utf_enc]
  exact G9.renc_any r w
set_option maxHeartbeats 2000000 in
set_option maxRecDepth 20000 in
theorem lower_any' (r : Int) (w : World) : Calls Try.prog 50 #[.int .i64 r] w fun e w' => e = .returned (.string (bs (enc (lowr r)))) ∧ Below w.heap.size w w' := by
  obtain ⟨q, hq⟩ : ∃ q, lowr r = q := ⟨_, rfl⟩
  have k := fun w => enc_any' q w
  rw [hq]
  unfold lowr at hq
  go_enter Try.func50, Try.ntmps50
  by_cases h : 65 ≤ r ∧ r ≤ 90
  · rw [if_pos h] at hq
    subst hq
    obtain ⟨h1, h2⟩ := h
    go_wp2_with fail
    refine (k _).mono ?_
    rintro e w1 ⟨rfl, b1⟩
    have B1 : Hid (Below w.heap.size w w1) := b1
    clear b1
    go_wp2_with fail
    go_ret
    exact ⟨rfl, B1.out⟩
  · rw [if_neg h] at hq
    subst hq
    by_cases h1 : 65 ≤ r
    · have h2 : ¬ r ≤ 90 := by omega
      clear h
      go_wp2_with fail
      refine (k _).mono ?_
      rintro e w1 ⟨rfl, b1⟩
      have B1 : Hid (Below w.heap.size w w1) := b1
      clear b1
      go_wp2_with fail
      go_ret
      exact ⟨rfl, B1.out⟩
    · clear h
      go_wp2_with fail
      refine (k _).mono ?_
      rintro e w1 ⟨rfl, b1⟩
      have B1 : Hid (Below w.heap.size w w1) := b1
      clear b1
      go_wp2_with fail
      go_ret
      exact ⟨rfl, B1.out⟩
set_option maxHeartbeats 2000000 in
set_option maxRecDepth 20000 in
theorem byteAt_any {S : Nat → Prop} {x : Nat} {E : Env} {r : List Ch} {sc : Sc} {dn : Bool} {w : World} (h : Tm S x E r sc dn w) : Calls Try.prog 34 #[mp x] w fun e w' => e = .returned (.int .i64 (frN E.N r)) ∧ ∃ m, w' = w.drewN m := by
  obtain ⟨fv, h⟩ := h
  have hxw := h.lt
  have c0 : w.cell? ⟨x, 0, none⟩ = some (.slice E.lo E.L.length E.cap) := h.cells 0 _ rfl
  have c1 : w.cell? ⟨x, 1, none⟩ = some (.int .i64 (pos E r)) := h.cells 1 _ rfl
  have c2 : w.cell? ⟨x, 2, none⟩ = some (.int .i64 E.N) := h.cells 2 _ rfl
  cases r with
  | nil =>
    have hp : pos E [] = (E.L.length : Int) := by unfold pos; simp
    rw [hp] at c1
    obtain ⟨n, hn⟩ : ∃ n, E.L.length = n := ⟨_, rfl⟩
    rw [hn] at c0 c1
    have g1 : decide ((n : Int) ≥ (n : Int)) = true := decide_eq_true (by omega)
    clear h hp hn
    go_enter Try.func34, Try.ntmps34
    go_wp2_with fail
    go_quiet (fail)
    go_wp2_with fail
    go_ret
    exact ⟨rfl, _, rfl⟩
  | cons c t =>
    obtain ⟨b, off, p, elo, hp, hpl, hb, _, q0, _⟩ := h.char
    rw [hp] at c1
    rw [elo] at c0
    have hcap := h.cap
    obtain ⟨n, hn⟩ : ∃ n, E.L.length = n := ⟨_, rfl⟩
    rw [hn] at c0 hpl hcap
    obtain ⟨cr, hcr⟩ : ∃ cr, c.a = cr := ⟨_, rfl⟩
    have e : frN E.N (c :: t) = cr := hcr
    rw [e]
    rw [hcr] at q0
    have g1 : decide ((p : Int) ≥ (n : Int)) = false := decide_eq_false (by omega)
    have hpi : (p : Int) < (n : Int) := by omega
    clear h hp hn elo hcr e
    go_enter Try.func34, Try.ntmps34
    go_wp2_with fail
    go_quiet (fail)
    go_wp2_with fail
    go_quiet (fail)
    go_wp2_with fail
    go_ret
    exact ⟨rfl, _, World.drewN_drewN _ _ _⟩
theorem TW.byteAt {S : Nat → Prop} {x : Nat} {E : Env} {r : List Ch} {sc : Sc} {dn : Bool} {w W : World} (h : TW S x E r sc dn w W) : Calls Try.prog 34 #[mp x] W fun e w' => e = .returned (.int .i64 (frN E.N r)) ∧ TW S x E r sc dn w w' := by
  refine (byteAt_any h.tm).mono ?_
  rintro e w' ⟨rfl, m, rfl⟩
  exact ⟨rfl, h.below (G9.below_drewN (Below.refl _ _) m)⟩
/-- What is ahead of the place lies in the row. -/
theorem TmV.prev {S : Nat → Prop} {x : Nat} {E : Env} {r : List Ch} {sc : Sc} {dn : Bool} {fv : Value} {w : World} (h : TmV S x E r sc dn fv w) (hl : r.length < E.L.length) : ∃ b off p : Nat, E.lo = some ⟨b, off, none⟩ ∧ pos E r = (p : Int) + 1 ∧ p < E.L.length ∧ b < w.heap.size ∧ w.cell? ⟨b, off + p * 3 + 2, none⟩ = some (.int .i64 (endZ E.L r)) := by
  obtain ⟨c, hc⟩ : ∃ c, E.L[E.L.length - r.length - 1]? = some c := ⟨_, List.getElem?_eq_getElem (by omega)⟩
  obtain ⟨b, off, e, hb, _, _, q2⟩ := h.row.now _ _ hc
  refine ⟨b, off, E.L.length - r.length - 1, e, ?_, (List.getElem?_eq_some_iff.1 hc).1, hb, ?_⟩
  · unfold pos
    omega
  · rw [q2]
    unfold endZ Mc.toAt
    rw [hc]
set_option maxHeartbeats 2000000 in
set_option maxRecDepth 20000 in
theorem end_any' {S : Nat → Prop} {x : Nat} {E : Env} {r : List Ch} {sc : Sc} {dn : Bool} {w : World} (h : Tm S x E r sc dn w) (hl : r.length < E.L.length) : Calls Try.prog 36 #[mp x] w fun e w' => e = .returned (.int .i64 (endZ E.L r)) ∧ ∃ m, w' = w.drewN m := by
  obtain ⟨fv, h⟩ := h
  have hxw := h.lt
  have c0 : w.cell? ⟨x, 0, none⟩ = some (.slice E.lo E.L.length E.cap) := h.cells 0 _ rfl
  have c1 : w.cell? ⟨x, 1, none⟩ = some (.int .i64 (pos E r)) := h.cells 1 _ rfl
  have c2 : w.cell? ⟨x, 2, none⟩ = some (.int .i64 E.N) := h.cells 2 _ rfl
  obtain ⟨b, off, p, elo, hp, hpl, hb, q0⟩ := h.prev hl
  rw [hp] at c1
  rw [elo] at c0
  have hcap := h.cap
  have hfew := h.few
  obtain ⟨n, hn⟩ : ∃ n, E.L.length = n := ⟨_, rfl⟩
  rw [hn] at c0 hpl hcap hfew
  obtain ⟨cr, hcr⟩ : ∃ cr, endZ E.L r = cr := ⟨_, rfl⟩
  rw [hcr] at q0 ⊢
  have g1 : decide ((p : Int) + 1 > (n : Int)) = false := decide_eq_false (by omega)
  have g2 : ((p : Int) + 1 == 0) = false := by simp; omega
  have hpi : (p : Int) < (n : Int) := by omega
  clear h hp hn elo hcr hl
  go_enter Try.func36, Try.ntmps36
  go_wp2_with fail
  go_quiet (fail)
  go_wp2_with fail
  go_quiet (fail)
  go_wp2_with fail
  go_ret
  exact ⟨rfl, _, World.drewN_drewN _ _ _⟩
theorem TW.endz {S : Nat → Prop} {x : Nat} {E : Env} {r : List Ch} {sc : Sc} {dn : Bool} {w W : World} (h : TW S x E r sc dn w W) (hl : r.length < E.L.length) : Calls Try.prog 36 #[mp x] W fun e w' => e = .returned (.int .i64 (endZ E.L r)) ∧ TW S x E r sc dn w w' := by
  refine (end_any' h.tm hl).mono ?_
  rintro e w' ⟨rfl, m, rfl⟩
  exact ⟨rfl, h.below (G9.below_drewN (Below.refl _ _) m)⟩
def Sc.fault (sc : Sc) (code at' : Int) : Sc := { sc with fs := sc.fs ++ [(code, at')] }
set_option maxHeartbeats 2000000 in
set_option maxRecDepth 20000 in
theorem tfault_any {S : Nat → Prop} {x : Nat} {E : Env} {r : List Ch} {sc : Sc} {dn : Bool} {w : World} (h : Tm S x E r sc dn w) (code at' : Int) (hn : sc.fs.length ≤ 1000000000) : Calls Try.prog 44 #[mp x, .int .i64 code, .int .i64 at'] w fun e w' => e = .returned (.tuple #[]) ∧ TW S x E r (sc.fault code at') dn w w' := by
  obtain ⟨fv, h⟩ := h
  have hxw := h.lt
  have c6 : w.cell? ⟨x, 6, none⟩ = some fv := h.cells 6 _ rfl
  have b0 : Below w.heap.size w (w.alloc (.cells (gcells (code, at')).toArray 64)) := (Below.refl _ _).alloc (Nat.le_refl _) _
  have hnew : (w.alloc (.cells (gcells (code, at')).toArray 64)).heap[w.heap.size]? = some (.cells (gcells (code, at')).toArray 64 (0, 0)) := heap_alloc_new w (.cells (gcells (code, at')).toArray 64)
  obtain ⟨W0, hW0⟩ : ∃ W0, w.alloc (.cells (gcells (code, at')).toArray 64) = W0 := ⟨_, rfl⟩
  rw [hW0] at b0 hnew
  have h0 := h.below b0
  obtain ⟨v', W', hrun, ho, hg, hat⟩ := row_app Try.underlying31 info58 rfl (by decide) (by decide) h0.fo w.heap.size 0 1 1 (gcells (code, at')) rfl (fun j u hj => by rw [Nat.zero_add]; simp [World.cell?, hnew]; exact hj) (by simp [gcells, G4.gcells, Value.oneCell']) (by show sc.fs.length + 1 ≤ _; omega)
  obtain ⟨ao', c', rfl, _, _⟩ := own_form ho
  have hfx : ∀ g, fv.ownBlock = some g → g ≠ x := fun g hg e => by
    subst e
    obtain ⟨_, cur, z, hg2⟩ := own_blk h.fo hg
    rw [h.blk] at hg2
    simp at hg2
  have hWx : W'.heap[x]? = some (.cells (E.cells (pos E r) sc fv dn) 56 (0, 0)) := (hg.block x h0.lt (fun e => hfx x e.symm rfl)).trans h0.blk
  have hk0 : Keep S w W' := (Keep.old b0).trans (Keep.grown hg h.fout)
  have hk : Keep S w (W'.setCell ⟨x, 6, none⟩ (.slice ao' (sc.fs.length + 1) c')) := hk0.setCell (p := ⟨x, 6, none⟩) h.hx _
  have HP : Hid (TW S x E r (sc.fault code at') dn w (W'.setCell ⟨x, 6, none⟩ (.slice ao' (sc.fs.length + 1) c'))) := by
    refine ⟨⟨.slice ao' (sc.fs.length + 1) c', fun k hS => Nat.lt_of_lt_of_le (h.low k hS) hk.size, h.hx, h.suf, h.few, h.cap, h.row.keep hk, ?_, ?_, fun g hg2 hS => ?_⟩, hk⟩
    · simp [World.setCell, Array.getElem?_modify, hWx, Env.cells, Sc.fault]
    · have e1 : (sc.fault code at').fs.length = sc.fs.length + 1 := by simp [Sc.fault]
      have e2 : (sc.fault code at').fs.flatMap gcells = sc.fs.flatMap gcells ++ gcells (code, at') := by simp [Sc.fault]
      show OwnQ _ false 64 2 _ (sc.fault code at').fs.length ((sc.fault code at').fs.flatMap gcells)
      rw [e1, e2]
      refine own_mv ho fun g hg2 => Below.heap_setCell _ _ _ _ fun e => ?_
      have e : g = x := e
      subst e
      rcases hat with hat | hat
      · rw [hat] at hg2
        exact hfx g hg2 rfl
      · rw [hg2] at hat
        have hat := Option.some.inj hat
        have := b0.size
        omega
    · rcases hat with hat | hat
      · rw [hat] at hg2
        exact h.fout g hg2 hS
      · rw [hg2] at hat
        have hat := Option.some.inj hat
        have := h.low g hS
        have := b0.size
        omega
  have q3 : W'.cell? ⟨x, 6, none⟩ = some fv := by simp [World.cell?, hWx]; rfl
  have q4 : W'.frozen? ⟨x, 6, none⟩ = false := by simp [World.frozen?, hWx]
  obtain ⟨k, hk2⟩ : ∃ k, sc.fs.length = k := ⟨_, rfl⟩
  obtain ⟨ao, ca, e5, _, _⟩ := own_form h.fo
  simp only at e5
  have hxW : x < W'.heap.size := (Array.getElem?_eq_some_iff.1 hWx).1
  rw [e5, hk2] at c6 q3 hrun
  rw [← hW0] at hrun
  clear h h0 ho hg hat hWx hk0 hk e5 hk2 hfx b0 hnew hW0
  go_enter Try.func44, Try.ntmps44
  go_wp2_with (at_builtin; refine list_append_eq rfl _ _ 31 31 rfl _ _ rfl rfl hrun ?_)
  refine bodyPost_end (results_none rfl _ _ _) rfl ?_
  exact ⟨rfl, HP.out⟩
end Go.Proofs.Ytkbakbacomidbaa
