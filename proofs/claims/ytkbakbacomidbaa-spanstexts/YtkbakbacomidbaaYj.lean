/- The scanner with a record of the caller's own beside it. -/
import Derived.Test.YtkbakbacomidbaaProg
import Derived.Below
import Derived.BigCall
import Derived.BigQuiet
import Derived.BigRegion
import Derived.Deep.DeepCutAuto
import Derived.Deep.LoopGhost
import Derived.Deep.QuietTactic
import Derived.Deep.RegionHeld3
import Derived.Deep.RegionLaw
import Derived.Deep.RegionWith
import Derived.Deep.Upon
import Derived.Laws.AppendOwn
import Derived.Laws.BytesArg
import Derived.Laws.EntriesVeiled
import Derived.Laws.IdiomStrings
import Derived.Laws.StructEq
import Derived.Lib.AppendStr
import Derived.Lib.RuneBytes
import Derived.Maps.AppendAt
import Derived.Maps.OwnSet
import Derived.OwnWalk
import Derived.ScopeJumps
import Derived.Shelf.Abstract
import Derived.Shelf.Small.Strs
import Derived.Shelf.Strings.Builder1
import Derived.Shelf.Strings.BuilderF
import Derived.Shelf.Strings.BuilderK
import Derived.Shelf.Strings.BuilderRune
import Derived.Shelf.Strings.Prefix
import Derived.StillTailTactics
import Derived.StringKeys
import Derived.WalkArith
import Derived.WalkKit
import Derived.WalkLawsBesides
import Derived.WalkMore
import Derived.WalkSpells
import Derived.Test.YtkbakbacomidbaaYd
import Derived.Test.YtkbakbacomidbaaZt
namespace Go.Proofs.Ytkbakbacomidbaa
open Go.RowKit
/-- A call of the scanner; blocks that are no scanner's stand. -/
theorem TW.lift {S : Nat → Prop} {x : Nat} {E : Env} {r r' : List Ch} {sc sc' : Sc} {dn dn' : Bool} {w W : World} (h : TW S x E r sc dn w W) (P : Nat → Prop) (hP : ∀ k, P k → ∃ cur e z, W.heap[k]? = some (.cells cur e z) ∧ e ≠ 56 ∧ e ≠ 64) {F : Nat} {args : Array Value} {Q : Ending → Prop}
    (hc : ∀ S', (∀ k, S k → S' k) → (∀ k, P k → S' k) → Tm S' x E r sc dn W → Calls Try.prog F args W fun e w' => Q e ∧ TW S' x E r' sc' dn' W w') : Calls Try.prog F args W fun e w' => Q e ∧ TW S x E r' sc' dn' w w' ∧ ∀ k, P k → w'.heap[k]? = W.heap[k]? := by
  have hl : ∀ k, P k → k < W.heap.size := fun k hk => by
    obtain ⟨cur, e, z, h1, _⟩ := hP k hk
    exact (Array.getElem?_eq_some_iff.1 h1).1
  have hm := h.more P hl hP
  refine (hc _ (fun _ => .inl) (fun _ => .inr) hm.tm).mono ?_
  rintro e w' ⟨hq, k'⟩
  exact ⟨hq, h.less k' fun _ => .inl, fun k hk => k'.keep.block k (.inr hk) (hl k hk)⟩
/-- The scanner, and a record in block y. -/
structure TY (S : Nat → Prop) (x : Nat) (E : Env) (r : List Ch) (sc : Sc) (dn : Bool) (w : World) (y : Nat) (cur : Array Value) (ty : Nat) (W : World) : Prop where
  tw : TW S x E r sc dn w W
  blk : W.heap[y]? = some (.cells cur ty (0, 0))
  ns : ¬ S y
  ty1 : ty ≠ 56
  ty2 : ty ≠ 64
theorem TY.lt {S : Nat → Prop} {x : Nat} {E : Env} {r : List Ch} {sc : Sc} {dn : Bool} {w : World} {y : Nat} {cur : Array Value} {ty : Nat} {W : World} (h : TY S x E r sc dn w y cur ty W) : y < W.heap.size := (Array.getElem?_eq_some_iff.1 h.blk).1
theorem TY.ne {S : Nat → Prop} {x : Nat} {E : Env} {r : List Ch} {sc : Sc} {dn : Bool} {w : World} {y : Nat} {cur : Array Value} {ty : Nat} {W : World} (h : TY S x E r sc dn w y cur ty W) : y ≠ x := fun e => by
  obtain ⟨fv, h1⟩ := h.tw.tm
  have h2 := h.blk
  rw [e, h1.blk] at h2
  simp at h2
  exact h.ty1 h2.2.symm
theorem TY.lift {S : Nat → Prop} {x : Nat} {E : Env} {r r' : List Ch} {sc sc' : Sc} {dn dn' : Bool} {w : World} {y : Nat} {cur : Array Value} {ty : Nat} {W : World} (h : TY S x E r sc dn w y cur ty W) {F : Nat} {args : Array Value} {Q : Ending → Prop}
    (hc : ∀ S', (∀ k, S k → S' k) → Tm S' x E r sc dn W → Calls Try.prog F args W fun e w' => Q e ∧ TW S' x E r' sc' dn' W w') : Calls Try.prog F args W fun e w' => Q e ∧ TY S x E r' sc' dn' w y cur ty w' := by
  refine (h.tw.lift (fun k => k = y) (fun k hk => ⟨cur, ty, (0, 0), by rw [hk]; exact h.blk, h.ty1, h.ty2⟩) (fun S' h1 _ => hc S' h1)).mono ?_
  rintro e w' ⟨hq, k', hb⟩
  exact ⟨hq, k', (hb y rfl).trans h.blk, h.ns, h.ty1, h.ty2⟩
theorem TY.below {S : Nat → Prop} {x : Nat} {E : Env} {r : List Ch} {sc : Sc} {dn : Bool} {w : World} {y : Nat} {cur : Array Value} {ty : Nat} {W W' : World} (h : TY S x E r sc dn w y cur ty W) (b : Below W.heap.size W W') : TY S x E r sc dn w y cur ty W' := ⟨h.tw.below b, (b.block y h.lt).trans h.blk, h.ns, h.ty1, h.ty2⟩
theorem TY.cell {S : Nat → Prop} {x : Nat} {E : Env} {r : List Ch} {sc : Sc} {dn : Bool} {w : World} {y : Nat} {cur : Array Value} {ty : Nat} {W : World} (h : TY S x E r sc dn w y cur ty W) (i : Nat) {u : Value} (hu : cur[i]? = some u) : W.cell? ⟨y, i, none⟩ = some u ∧ W.frozen? ⟨y, i, none⟩ = false := by
  constructor
  · simp only [World.cell?, h.blk]
    exact hu
  · simp [World.frozen?, h.blk]
/-- A cell of the record is another. -/
theorem TY.put {S : Nat → Prop} {x : Nat} {E : Env} {r : List Ch} {sc : Sc} {dn : Bool} {w : World} {y : Nat} {cur : Array Value} {ty : Nat} {W : World} (h : TY S x E r sc dn w y cur ty W) (i : Nat) (u : Value) {cur' : Array Value} (hc : cur.set! i u = cur') : TY S x E r sc dn w y cur' ty (W.setCell ⟨y, i, none⟩ u) := by
  have hk : Keep S W (W.setCell ⟨y, i, none⟩ u) := (Keep.refl S W).setCell (p := ⟨y, i, none⟩) h.ns u
  have hne : ∀ g, g ≠ y → (W.setCell ⟨y, i, none⟩ u).heap[g]? = W.heap[g]? := fun g hg => Below.heap_setCell _ _ _ _ hg
  obtain ⟨fv, h1⟩ := h.tw.tm
  refine ⟨⟨⟨fv, fun k hS => Nat.lt_of_lt_of_le (h1.low k hS) hk.size, h1.hx, h1.suf, h1.few, h1.cap, h1.row.keep hk, (hne x (fun e => h.ne e.symm)).trans h1.blk, ?_, h1.fout⟩, h.tw.keep.trans hk⟩, ?_, h.ns, h.ty1, h.ty2⟩
  · refine own_mv h1.fo fun g hg => hne g fun e => ?_
    subst e
    obtain ⟨_, cur', z, hg2⟩ := own_blk h1.fo hg
    rw [h.blk] at hg2
    simp at hg2
    exact h.ty2 hg2.2.1
  · rw [← hc]
    simp [World.setCell, Array.getElem?_modify, h.blk]
theorem TY.hop {S : Nat → Prop} {x : Nat} {E : Env} {r r' : List Ch} {sc sc' : Sc} {dn dn' : Bool} {w : World} {y : Nat} {cur : Array Value} {ty : Nat} {W : World} (h : TY S x E r sc dn w y cur ty W) {i : Nat} {u : Value} (k : TW S x E r' sc' dn' w (W.setCell ⟨x, i, none⟩ u)) : TY S x E r' sc' dn' w y cur ty (W.setCell ⟨x, i, none⟩ u) :=
  ⟨k, (Below.heap_setCell _ _ _ _ h.ne).trans h.blk, h.ns, h.ty1, h.ty2⟩
/-- Its calls. -/
theorem TY.c {S : Nat → Prop} {x : Nat} {E : Env} {r : List Ch} {sc : Sc} {dn : Bool} {w : World} {y : Nat} {cur : Array Value} {ty : Nat} {W : World} (h : TY S x E r sc dn w y cur ty W) : Calls Try.prog 32 #[mp x] W fun e w' => e = .returned (.int .i64 (hd r)) ∧ TY S x E r sc dn w y cur ty w' := h.lift fun _ _ k => (TW.start k).c
theorem TY.cc {S : Nat → Prop} {x : Nat} {E : Env} {cr ca cz : Int} {t : List Ch} {sc : Sc} {dn : Bool} {w : World} {y : Nat} {cur : Array Value} {ty : Nat} {W : World} (h : TY S x E (⟨cr, ca, cz⟩ :: t) sc dn w y cur ty W) : Calls Try.prog 32 #[mp x] W fun e w' => e = .returned (.int .i64 cr) ∧ TY S x E (⟨cr, ca, cz⟩ :: t) sc dn w y cur ty w' := h.c
theorem TY.c0 {S : Nat → Prop} {x : Nat} {E : Env} {sc : Sc} {dn : Bool} {w : World} {y : Nat} {cur : Array Value} {ty : Nat} {W : World} (h : TY S x E [] sc dn w y cur ty W) : Calls Try.prog 32 #[mp x] W fun e w' => e = .returned (.int .i64 (-1)) ∧ TY S x E [] sc dn w y cur ty w' := h.c
theorem TY.byteAt {S : Nat → Prop} {x : Nat} {E : Env} {r : List Ch} {sc : Sc} {dn : Bool} {w : World} {y : Nat} {cur : Array Value} {ty : Nat} {W : World} (h : TY S x E r sc dn w y cur ty W) : Calls Try.prog 34 #[mp x] W fun e w' => e = .returned (.int .i64 (frN E.N r)) ∧ TY S x E r sc dn w y cur ty w' := h.lift fun _ _ k => (TW.start k).byteAt
theorem TY.ba {S : Nat → Prop} {x : Nat} {E : Env} {cr ca cz : Int} {t : List Ch} {sc : Sc} {dn : Bool} {w : World} {y : Nat} {cur : Array Value} {ty : Nat} {W : World} (h : TY S x E (⟨cr, ca, cz⟩ :: t) sc dn w y cur ty W) : Calls Try.prog 34 #[mp x] W fun e w' => e = .returned (.int .i64 ca) ∧ TY S x E (⟨cr, ca, cz⟩ :: t) sc dn w y cur ty w' := h.byteAt
theorem TY.tfl {S : Nat → Prop} {x : Nat} {E : Env} {r : List Ch} {sc : Sc} {dn : Bool} {w : World} {y : Nat} {cur : Array Value} {ty : Nat} {W : World} (h : TY S x E r sc dn w y cur ty W) (code at' : Int) (hn : sc.fs.length ≤ 1000000000) : Calls Try.prog 44 #[mp x, .int .i64 code, .int .i64 at'] W fun e w' => e = .returned (.tuple #[]) ∧ TY S x E r (sc.fsd (sc.fs ++ [(code, at')])) dn w y cur ty w' := h.lift fun _ _ k => (TW.start k).tfl code at' hn
theorem TY.endz {S : Nat → Prop} {x : Nat} {E : Env} {r : List Ch} {sc : Sc} {dn : Bool} {w : World} {y : Nat} {cur : Array Value} {ty : Nat} {W : World} (h : TY S x E r sc dn w y cur ty W) (hl : r.length < E.L.length) : Calls Try.prog 36 #[mp x] W fun e w' => e = .returned (.int .i64 (endZ E.L r)) ∧ TY S x E r sc dn w y cur ty w' := h.lift fun _ _ k => (TW.start k).endz hl
theorem TY.lower {S : Nat → Prop} {x : Nat} {E : Env} {r : List Ch} {sc : Sc} {dn : Bool} {w : World} {y : Nat} {cur : Array Value} {ty : Nat} {W : World} (h : TY S x E r sc dn w y cur ty W) (c : Int) : Calls Try.prog 50 #[.int .i64 c] W fun e w' => e = .returned (.string (bs (enc (lowr c)))) ∧ TY S x E r sc dn w y cur ty w' := by
  refine (lower_any' c W).mono ?_
  rintro e w' ⟨rfl, b⟩
  exact ⟨rfl, h.below b⟩
theorem TY.adv {S : Nat → Prop} {x : Nat} {E : Env} {c : Ch} {t : List Ch} {sc : Sc} {dn : Bool} {w : World} {y : Nat} {cur : Array Value} {ty : Nat} {W : World} (h : TY S x E (c :: t) sc dn w y cur ty W) : TY S x E t sc dn w y cur ty (W.setCell ⟨x, 1, none⟩ (.int .i64 (pos E (c :: t) + 1))) := h.hop h.tw.adv
/-- A new record. -/
theorem TY.new {S : Nat → Prop} {x : Nat} {E : Env} {r : List Ch} {sc : Sc} {dn : Bool} {w W : World} (h : TW S x E r sc dn w W) (cur : Array Value) (ty : Nat) (h1 : ty ≠ 56) (h2 : ty ≠ 64) : TY S x E r sc dn w W.heap.size cur ty (W.alloc (.cells cur ty)) :=
  ⟨h.below ((Below.refl _ _).alloc (Nat.le_refl _) _), heap_alloc_new W _, fun hS => Nat.lt_irrefl _ (h.facts.2.2 _ hS), h1, h2⟩
end Go.Proofs.Ytkbakbacomidbaa
namespace Go.Proofs.Ytkbakbacomidbaa
open Go.RowKit
theorem quoR_few (q : Int) : ∀ (n : Nat) (s : List UInt8) (fs : Fs) (r : List Ch), (quoR q n s fs r).2.1.length + 8 * (quoR q n s fs r).2.2.length ≤ fs.length + 8 * r.length
  | 0, s, fs, r => Nat.le_refl _
  | n + 1, s, fs, r => by
    unfold quoR
    split
    · exact Nat.le_refl _
    · next h =>
      cases r with
      | nil => exact absurd (.inl rfl) h
      | cons c t =>
        have h1 := quoR_few q n (s ++ (pieceR (c :: t) fs).1) (pieceR (c :: t) fs).2.1 (pieceR (c :: t) fs).2.2
        have h2 := piece_few (c :: t) fs
        have h3 := (piece_suf (c := c) (t := t) fs).length_le
        simp only [List.length_cons]
        omega
theorem bareR_few : ∀ (n : Nat) (s : List UInt8) (fs : Fs) (r : List Ch), (bareR n s fs r).2.1.length + 8 * (bareR n s fs r).2.2.length ≤ fs.length + 8 * r.length
  | 0, s, fs, r => Nat.le_refl _
  | n + 1, s, fs, r => by
    unfold bareR
    split
    · exact Nat.le_refl _
    · next h =>
      cases r with
      | nil => exact absurd (.inl rfl) h
      | cons c t =>
        have h1 := bareR_few n (s ++ (pieceR (c :: t) (oddF (c :: t) fs)).1) (pieceR (c :: t) (oddF (c :: t) fs)).2.1 (pieceR (c :: t) (oddF (c :: t) fs)).2.2
        have h2 := piece_few (c :: t) (oddF (c :: t) fs)
        have h3 := (piece_suf (c := c) (t := t) (oddF (c :: t) fs)).length_le
        have h4 := oddF_few (c :: t) fs
        simp only [List.length_cons]
        omega
theorem between_few (fs : Fs) (r : List Ch) : (between fs r).length ≤ fs.length + 1 := by
  unfold between
  split
  · omega
  · split
    · omega
    · simp
theorem quoE_few (p : List UInt8 × Fs × List Ch) {k : Nat} (h : p.2.1.length + 8 * p.2.2.length ≤ k) : (if p.2.2 = [] then p else (p.1, between p.2.1 p.2.2.tail, p.2.2.tail)).2.1.length + 8 * (if p.2.2 = [] then p else (p.1, between p.2.1 p.2.2.tail, p.2.2.tail)).2.2.length ≤ k := by
  by_cases hne : p.2.2 = []
  · rw [if_pos hne]
    exact h
  · rw [if_neg hne]
    have h2 := between_few p.2.1 p.2.2.tail
    have h3 : p.2.2.tail.length + 1 = p.2.2.length := by
      cases hx : p.2.2 with
      | nil => exact absurd hx hne
      | cons a b => rfl
    dsimp only
    omega
theorem skip_len (r : List Ch) : (skipB r).length ≤ r.length := (skip_suf r).length_le
theorem valueR_few (N : Int) (fs : Fs) (r : List Ch) : (valueR N fs r).2.1.length + 8 * (valueR N fs r).2.2.length ≤ fs.length + 8 * r.length + 1 := by
  have hs := skip_len r
  unfold valueR
  split
  · next hq =>
    cases hr : skipB r with
    | nil =>
      rw [hr] at hq
      exact absurd hq (by decide)
    | cons c t =>
      rw [hr] at hs
      simp only [List.length_cons] at hs
      have h1 := quoR_few (hd (c :: t)) (c :: t).length [] fs (c :: t).tail
      have h2 : (c :: t).tail.length = t.length := rfl
      refine Nat.le_trans (quoE_few _ h1) ?_
      omega
  · split
    · simp only [List.length_append, List.length_cons, List.length_nil]
      omega
    · have := bareR_few (skipB r).length [] fs (skipB r)
      omega
theorem odds_len (l : List Ch) : (odds l).length ≤ l.length := by
  unfold odds
  rw [List.length_map]
  exact List.length_filter_le _ _
theorem tw_len (p : Ch → Bool) (l : List Ch) : (l.takeWhile p).length + (l.dropWhile p).length = l.length := by
  rw [← List.length_append, List.takeWhile_append_dropWhile]
theorem aname_few (fs : Fs) (r : List Ch) : (anameR fs r).2.1.length + (anameR fs r).2.2.length ≤ fs.length + r.length := by
  unfold anameR
  split
  · simp
  · next c t =>
    split
    · have h1 := odds_len (t.takeWhile anC)
      have h2 := tw_len anC t
      simp only [List.length_append, List.length_cons, List.length_nil]
      omega
    · have h1 := odds_len ((c :: t).takeWhile anC)
      have h2 := tw_len anC (c :: t)
      simp only [List.length_append]
      omega
def Once (A : List At) : Prop := ∀ nm : List UInt8, (A.filter fun a => decide (a.nm = nm)).length ≤ 1
theorem Once.nil : Once [] := fun _ => Nat.zero_le _
theorem dups_few {A : List At} (h : Once A) (nm : List UInt8) (a : Int) : (dups A nm a).length ≤ 1 := by
  unfold dups
  rw [List.length_map]
  exact h nm
theorem attrR_few {N : Int} {A : List At} (hA : Once A) {fs : Fs} {c : Ch} {t : List Ch} (hb : blk c.r = false) (h47 : c.r ≠ 47) (h62 : c.r ≠ 62) : (attrR N A fs (c :: t)).2.2.1.length + 8 * (attrR N A fs (c :: t)).2.2.2.length ≤ fs.length + 8 * (c :: t).length := by
  have h1 := aname_few fs (c :: t)
  have h2 := (aname_suf (c := c) (t := t) fs hb h47 h62).length_le
  have h3 := dups_few hA (anameR fs (c :: t)).1 (frN N (c :: t))
  have h4 := skip_len (anameR fs (c :: t)).2.2
  simp only [List.length_cons] at h1 ⊢
  unfold attrR
  dsimp only
  split
  · dsimp only
    simp only [List.length_nil]
    omega
  · split
    · next hq =>
      have h5 := valueR_few N ((anameR fs (c :: t)).2.1 ++ dups A (anameR fs (c :: t)).1 (frN N (c :: t))) (skipB (anameR fs (c :: t)).2.2).tail
      have h6 : (skipB (anameR fs (c :: t)).2.2).tail.length + 1 = (skipB (anameR fs (c :: t)).2.2).length := by
        cases hx : skipB (anameR fs (c :: t)).2.2 with
        | nil => rw [hx] at hq; exact absurd hq (by decide)
        | cons a b => rfl
      rw [List.length_append] at h5
      dsimp only
      omega
    · dsimp only
      rw [List.length_append]
      omega
theorem dup_none {A : List At} {nm : List UInt8} (h : dup A nm = false) : (A.filter fun a => decide (a.nm = nm)) = [] := by
  unfold dup at h
  rw [List.any_eq_false] at h
  rw [List.filter_eq_nil_iff]
  exact h
theorem dup_cons (a : At) (A : List At) (nm : List UInt8) : dup (A ++ [a]) nm = (dup A nm || decide (a.nm = nm)) := by
  unfold dup
  rw [List.any_append]
  simp
theorem dups_app (A B : List At) (nm : List UInt8) (a : Int) : dups (A ++ B) nm a = dups A nm a ++ dups B nm a := by
  unfold dups
  rw [List.filter_append, List.map_append]
theorem once_add {A : List At} (h : Once A) {nm vl : List UInt8} (hd : dup A nm = false) : Once (A ++ [⟨bs nm, bs vl⟩]) := fun k => by
  rw [List.filter_append, List.length_append]
  by_cases e : nm = k
  · subst e
    rw [dup_none hd]
    have := List.length_filter_le (fun a : At => decide (a.nm = nm)) [⟨bs nm, bs vl⟩]
    simp only [List.length_cons, List.length_nil] at this ⊢
    omega
  · have := h k
    rw [List.filter_cons_of_neg]
    · simpa using this
    · simp only [decide_eq_true_eq]
      show ¬ (bs nm).data.toList = k
      rw [bs_list]
      exact e
theorem attrR_keep (N : Int) (A : List At) (fs : Fs) (r : List Ch) (h : (attrR N A fs r).2.1 = true) : dup A (attrR N A fs r).1.1 = false := by
  unfold attrR at h ⊢
  dsimp only at h ⊢
  split at h
  · cases h
  · next h1 =>
    rw [if_neg h1]
    split at h
    · next h2 =>
      rw [if_pos h2]
      simpa using h
    · next h2 =>
      rw [if_neg h2]
      simpa using h
theorem once_addA {A : List At} (h : Once A) (N : Int) (fs : Fs) (r : List Ch) : Once (addA A (attrR N A fs r)) := by
  unfold addA
  split
  · next hk => exact once_add h (attrR_keep N A fs r hk)
  · exact h
theorem addA_len (A : List At) (p : (List UInt8 × List UInt8) × Bool × Fs × List Ch) : (addA A p).length ≤ A.length + 1 := by
  unfold addA
  split
  · simp
  · omega
/-- Whether the character at hand is one of these. -/
def tst (p : Ch → Bool) (r : List Ch) : Bool := match r with
  | [] => false
  | c :: _ => p c
theorem tst_no {p : Ch → Bool} {r : List Ch} (h : tst p r = false) : r.takeWhile p = [] ∧ r.dropWhile p = r := by
  cases r with
  | nil => exact ⟨rfl, rfl⟩
  | cons c t =>
    have h : p c = false := h
    rw [List.takeWhile_cons, List.dropWhile_cons, h]
    exact ⟨rfl, rfl⟩
theorem tst_yes {p : Ch → Bool} {r : List Ch} (h : tst p r = true) : ∃ c t, r = c :: t ∧ p c = true ∧ r.takeWhile p = c :: t.takeWhile p ∧ r.dropWhile p = t.dropWhile p := by
  cases r with
  | nil => cases h
  | cons c t =>
    have h : p c = true := h
    refine ⟨c, t, rfl, h, ?_, ?_⟩
    · rw [List.takeWhile_cons, h]; rfl
    · rw [List.dropWhile_cons, h]; rfl
end Go.Proofs.Ytkbakbacomidbaa
