/- What the reader has read so far, pure; tokens and faults as a caller has them. -/
import Derived.Test.YtkbakbacomidbaaProg
import Derived.Below
import Derived.BigCall
import Derived.BigQuiet
import Derived.BigRegion
import Derived.Deep.DeepCutAuto
import Derived.Deep.LoopGhost
import Derived.Deep.QuietTactic
import Derived.Deep.RegionHeld3
import Derived.Deep.RegionLaw
import Derived.Deep.RegionWith
import Derived.Deep.Upon
import Derived.Laws.AppendOwn
import Derived.Laws.BytesArg
import Derived.Laws.EntriesVeiled
import Derived.Laws.IdiomStrings
import Derived.Laws.StructEq
import Derived.Lib.AppendStr
import Derived.Lib.RuneBytes
import Derived.Maps.AppendAt
import Derived.Maps.OwnSet
import Derived.OwnWalk
import Derived.ScopeJumps
import Derived.Shelf.Abstract
import Derived.Shelf.Small.Strs
import Derived.Shelf.Strings.Builder1
import Derived.Shelf.Strings.BuilderF
import Derived.Shelf.Strings.BuilderK
import Derived.Shelf.Strings.BuilderRune
import Derived.Shelf.Strings.Prefix
import Derived.StillTailTactics
import Derived.StringKeys
import Derived.WalkArith
import Derived.WalkKit
import Derived.WalkLawsBesides
import Derived.WalkMore
import Derived.WalkSpells
import Derived.Test.YtkbakbacomidbaaZk
import Derived.Test.YtkbakbacomidbaaZl
import Derived.Test.YtkbakbacomidbaaZt
namespace Go.Proofs.Ytkbakbacomidbaa
open Go.RowKit
theorem items_le (s : List UInt8) : (G4.items s).length ≤ s.length := by
  have key : ∀ (k : Nat) (s : List UInt8), (G4.itemsF k s).length ≤ k := by
    intro k
    induction k with
    | zero => intro s; exact Nat.le_refl _
    | succ k ih =>
      intro s
      cases s with
      | nil => simp [G4.itemsF]
      | cons a t => simp only [G4.itemsF, List.length_cons]; have := ih ((a :: t).drop (G4.one (a :: t)).2.1); omega
  exact key s.length s
theorem rfs_le : ∀ (l : List Ch), (G4.rfs l).length ≤ l.length
  | [] => Nat.le_refl _
  | [c] => Nat.le_refl _
  | c :: d :: l => by
    unfold G4.rfs
    split
    · have := rfs_le l
      simp only [List.length_cons]
      omega
    · have := rfs_le (d :: l)
      simp only [List.length_cons] at this ⊢
      omega
theorem outc_le (s : List UInt8) : (G4.outc s).length ≤ s.length := by
  have h1 := rfs_le (G4.chs 0 (G4.items s))
  rw [G4.chs_length] at h1
  have h2 := items_le s
  unfold G4.outc
  omega
/-- The characters of a text. -/
abbrev chars (s : ByteArray) : List Ch := G4.outc s.data.toList
/-- Tokens in memory of the call's own. -/
structure Toks (B : Nat) (ov : Value) (T : List TL) (w : World) : Prop where
  own : Rw.own w (rwT ov T)
  high : ∀ g, ov.ownBlock = some g → B ≤ g
  toks : ∀ t ∈ T, TkS NoZ w t.1 t.2
theorem TkS.below {Z : Nat → Prop} {w w' : World} {T : Tk} {L : List At} (h : TkS Z w T L) (b : Below w.heap.size w w') : TkS Z w' T L := by
  refine ⟨h.1.below b, fun hL => ?_⟩
  obtain ⟨d, cur, z, e1, e2, e3⟩ := h.2 hL
  exact ⟨d, cur, z, e1, (b.block d (Array.getElem?_eq_some_iff.1 e2).1).trans e2, e3⟩
theorem Toks.below {B : Nat} {ov : Value} {T : List TL} {w w' : World} (h : Toks B ov T w) (b : Below w.heap.size w w') : Toks B ov T w' :=
  ⟨own_mv h.own fun g hg => b.block g (own_blk h.own hg).1, h.high, fun t ht => (h.toks t ht).below b⟩
/-- What all gives. -/
def Alled (L : List Pt) (F : List (Int × Int)) (w : World) (e : Ending) (w' : World) : Prop :=
  ∃ oo T oc fo fc, e = .returned (.tuple #[.slice oo T.length oc, .slice fo F.length fc]) ∧ T.map ptOf = L ∧ T.length ≤ 100000000000 ∧ Toks w.heap.size (.slice oo T.length oc) T w' ∧ G4.FaultsC w.heap.size (.slice fo F.length fc) F w' ∧ Below w.heap.size w w'
/-- The tokens of a row, by their cells. -/
theorem Toks.at {B : Nat} {oo : Option Addr} {n oc : Nat} {T : List TL} {w : World} (h : Toks B (.slice oo n oc) T w) (hn : T.length = n) {i : Nat} {t : TL} (ht : T[i]? = some t) : ∃ g, oo = some ⟨g, 0, none⟩ ∧ g < w.heap.size ∧ G9.TkCells w g (i * 8) t.1 ∧ TkS NoZ w t.1 t.2 := by
  subst hn
  rcases h.own.2 with ⟨e, h0⟩ | ⟨g, cap, cur, z, e, hg, _, _, _, _, h4⟩
  · have : T = [] := List.eq_nil_of_length_eq_zero h0
    rw [this] at ht
    simp at ht
  · simp only [Value.slice.injEq] at e
    obtain ⟨rfl, _, _⟩ := e
    have hr := own_row hg h4 h.toks
    obtain ⟨b, off, e2, hb, hc, _⟩ := hr.1.at ht
    cases e2
    rw [Nat.zero_add] at hc
    exact ⟨g, rfl, hb, hc, h.toks t (List.mem_of_getElem? ht)⟩
end Go.Proofs.Ytkbakbacomidbaa
namespace Go.Proofs.Ytkbakbacomidbaa
open Go.RowKit
/-- What is left is the end of what there was. -/
theorem value_suf (N : Int) (fs : Fs) (r : List Ch) (hpos : ∀ d ∈ r, 0 ≤ d.r) : (valueR N fs r).2.2 <:+ r :=
  (value_eq (auto := false) (fo := false) (sc := ⟨0, ByteArray.empty, false, []⟩) (f := 0) (nm := []) (Or.inl rfl) r fs [] 0 [] false hpos).2
theorem attr_suf {N : Int} {A : List At} {fs : Fs} {c : Ch} {t : List Ch} (hb : blk c.r = false) (h47 : c.r ≠ 47) (h62 : c.r ≠ 62) (hpos : ∀ d ∈ t, 0 ≤ d.r) : (attrR N A fs (c :: t)).2.2.2 <:+ t := by
  have hs := aname_suf (t := t) fs hb h47 h62
  unfold attrR
  dsimp only
  obtain ⟨p, hp⟩ : ∃ p, anameR fs (c :: t) = p := ⟨_, rfl⟩
  rw [hp] at hs ⊢
  cases hp2 : p.2.2 with
  | nil => simp only [if_true]; exact List.nil_suffix
  | cons d u =>
    rw [hp2] at hs
    simp only [reduceCtorEq, if_false]
    by_cases h61 : hd (skipB (d :: u)) = 61
    · simp only [if_pos h61]
      have h2 : (skipB (d :: u)).tail <:+ t := ((List.tail_suffix _).trans (skip_suf _)).trans hs
      exact (value_suf N _ _ (suf_pos h2 hpos)).trans h2
    · simp only [if_neg h61]
      exact hs
theorem tagL_suf {N : Int} : ∀ (n : Nat) (A : List At) (sf : Bool) (fs : Fs) (r : List Ch), (∀ d ∈ r, 0 ≤ d.r) → (tagL N n A sf fs r).2.2 <:+ r
  | 0, _, _, _, _, _ => List.suffix_refl _
  | n + 1, A, sf, fs, r, hpos => by
    have hsk := skip_suf r
    unfold tagL
    cases hr : skipB r with
    | nil => exact List.nil_suffix
    | cons c t =>
      rw [hr] at hsk
      have hct : t <:+ r := (List.suffix_cons _ _).trans hsk
      have htp := suf_pos hct hpos
      dsimp only
      by_cases h62 : c.r = 62
      · rw [if_pos h62]; exact hct
      · rw [if_neg h62]
        by_cases h47 : c.r = 47
        · rw [if_pos h47]
          split
          · exact (tagL_suf n A true fs t htp).trans hct
          · split
            · exact (tagL_suf n A sf _ t htp).trans hct
            · exact (tagL_suf n A sf fs t htp).trans hct
        · rw [if_neg h47]
          have ha := attr_suf (N := N) (A := A) (fs := fs) (skipB_hd hr) h47 h62 htp
          exact ((tagL_suf n _ sf _ _ (suf_pos ha htp)).trans ha).trans hct
theorem tagE_rest (F : List Ch) (kind : Int) (nm : List UInt8) (sc : Sc) (p : Option (List At × Bool) × Fs × List Ch) : (tagE F kind nm sc p).2.2 = p.2.2 := by
  obtain ⟨o, fs, r⟩ := p
  cases o with
  | none => rfl
  | some a =>
    obtain ⟨A, sf⟩ := a
    show (doneR F kind nm sc A sf fs r).2.2 = r
    unfold doneR
    split <;> rfl
theorem tagR_suf {N : Int} {F : List Ch} {kind : Int} {sc : Sc} {r : List Ch} (hpos : ∀ d ∈ r, 0 ≤ d.r) : (tagR N F kind sc r).2.2 <:+ r := by
  unfold tagR
  rw [tagE_rest]
  have hs : r.dropWhile nmC <:+ r := List.dropWhile_suffix _
  exact (tagL_suf _ _ _ _ _ (suf_pos hs hpos)).trans hs
theorem bogusR_suf (F : List Ch) (sc : Sc) (r : List Ch) : (bogusR F sc r).2.2 <:+ r := (List.tail_suffix _).trans (List.dropWhile_suffix _)
theorem comR_suf {N : Int} {F : List Ch} {sc : Sc} : ∀ (r : List Ch) (s : List UInt8), (comR N F sc s r).2.2 <:+ r
  | [], _ => List.suffix_refl _
  | c :: t, s => by
    unfold comR
    split
    · exact List.drop_suffix _ _
    · split
      · exact List.drop_suffix _ _
      · exact (comR_suf t _).trans (List.suffix_cons _ _)
theorem textR_suf (N : Int) (F : List Ch) (sc : Sc) (r : List Ch) : (textR N F sc r).2.2 <:+ r := by
  unfold textR
  split
  · exact List.tail_suffix _
  · split
    · exact List.drop_suffix _ _
    · exact comR_suf r []
theorem docR_suf (N : Int) (F : List Ch) (sc : Sc) (r : List Ch) : (docR N F sc r).2.2 <:+ r := by
  unfold docR
  dsimp only
  exact (((((List.tail_suffix _).trans (List.dropWhile_suffix _)).trans (skip_suf _)).trans (List.dropWhile_suffix _)).trans (skip_suf _))
theorem markupR_suf (N : Int) (fo : Bool) (F : List Ch) (sc : Sc) (r : List Ch) : (markupR N fo F sc r).2.2 <:+ r := by
  unfold markupR
  split
  · exact (textR_suf _ _ _ _).trans (List.drop_suffix _ _)
  · split
    · exact (docR_suf _ _ _ _).trans (List.drop_suffix _ _)
    · split
      · split
        · exact List.drop_suffix _ _
        · exact bogusR_suf _ _ _
      · exact bogusR_suf _ _ _
theorem endOpenR_suf {N : Int} {F : List Ch} {sc : Sc} {r : List Ch} (hpos : ∀ d ∈ r, 0 ≤ d.r) : (endOpenR N F sc r).2.2 <:+ r := by
  unfold endOpenR
  split
  · exact tagR_suf hpos
  · split
    · exact List.tail_suffix _
    · split
      · exact List.suffix_refl _
      · exact bogusR_suf _ _ _
theorem openR_suf {N : Int} {fo : Bool} {F : List Ch} {sc : Sc} {r : List Ch} (hpos : ∀ d ∈ r, 0 ≤ d.r) : (openR N fo F sc r).2.2 <:+ r := by
  unfold openR
  split
  · exact (markupR_suf _ _ _ _ _).trans (List.tail_suffix _)
  · split
    · exact (endOpenR_suf (suf_pos (List.tail_suffix _) hpos)).trans (List.tail_suffix _)
    · split
      · exact tagR_suf hpos
      · split
        · exact bogusR_suf _ _ _
        · exact List.suffix_refl _
theorem rawR_suf {N : Int} {F : List Ch} {sc : Sc} {r : List Ch} (hpos : ∀ d ∈ r, 0 ≤ d.r) : (rawR N F sc r).2.2 <:+ r := by
  unfold rawR
  split
  · dsimp only
    split
    · exact (tagR_suf (suf_pos (List.tail_suffix _) hpos)).trans (List.tail_suffix _)
    · exact (List.dropWhile_suffix _).trans (List.tail_suffix _)
  · exact List.suffix_refl _
theorem drop_suf {c : Ch} {t : List Ch} {n : Nat} (h : n ≠ 0) : (c :: t).drop n <:+ t := by
  obtain ⟨k, rfl⟩ : ∃ k, n = k + 1 := ⟨n - 1, by omega⟩
  rw [List.drop_succ_cons]
  exact List.drop_suffix _ _
theorem nextR_suf {N : Int} {fo : Bool} {sc : Sc} {c : Ch} {t : List Ch} (hpos : ∀ d ∈ t, 0 ≤ d.r) : (nextR N fo sc (c :: t)).2.2 <:+ t := by
  unfold nextR
  rw [List.tail_cons]
  split
  · unfold cdR
    split
    · exact drop_suf (by decide)
    · exact List.suffix_refl _
  · split
    · split
      · exact List.suffix_refl _
      · next h => exact drop_suf h
    · split
      · exact openR_suf hpos
      · split
        · exact rawR_suf hpos
        · exact List.suffix_refl _
/-- Characters of a text of N bytes, or its end. -/
def Ends (N : Int) (r : List Ch) : Prop := (∀ d ∈ r, 0 ≤ d.r) ∧ ∀ c, r.getLast? = some c → c.z = N
theorem Ends.suf {N : Int} {r t : List Ch} (h : Ends N t) (hs : r <:+ t) : Ends N r := by
  refine ⟨suf_pos hs h.1, fun c hc => h.2 c ?_⟩
  obtain ⟨p, rfl⟩ := hs
  rw [List.getLast?_append, hc]
  rfl
theorem chars_tot (s : List UInt8) : G4.tot (G4.items s) = s.length := by
  obtain ⟨_, r2, _, r4⟩ := G4.run_ok s [] trivial
  rw [List.nil_append] at r2
  rw [r2, G4.tot_append]
  have : G4.tot (G4.fin (G4.run [] s).1) = (G4.run [] s).1.length := by
    unfold G4.fin
    split
    · next h => rw [h]; rfl
    · simp [G4.tot]
  rw [this]
  simpa using r4
theorem chars_ends (s : ByteArray) : Ends s.size (chars s) := by
  have hr : ∀ (l : List (Int × Nat)) (p : Int), (∀ x ∈ l, x.1 = -1 ∨ (0 ≤ x.1 ∧ x.1 ≤ 1000000000)) → ∀ c ∈ G4.chs p l, 0 ≤ c.r := by
    intro l
    induction l with
    | nil => intro p _ c hc; cases hc
    | cons x l ih =>
      intro p h c hc
      unfold G4.chs at hc
      rcases List.mem_cons.1 hc with rfl | hc
      · have := h x (by simp)
        dsimp only
        split <;> omega
      · exact ih _ (fun y hy => h y (by simp [hy])) c hc
  have hz : ∀ (l : List (Int × Nat)) (p : Int) (c : Ch), (G4.chs p l).getLast? = some c → c.z = p + (G4.tot l : Nat) := by
    intro l
    induction l with
    | nil => intro p c hc; cases hc
    | cons x l ih =>
      intro p c hc
      unfold G4.chs at hc
      rw [G4.tot_cons]
      cases l with
      | nil =>
        simp [G4.chs] at hc
        subst hc
        simp [G4.tot]
      | cons y l =>
        have hne : G4.chs (p + x.2) (y :: l) ≠ [] := by unfold G4.chs; simp
        rw [List.getLast?_cons, List.getLast?_eq_some_getLast hne] at hc
        have := ih (p + x.2) c (by rw [List.getLast?_eq_some_getLast hne]; simpa using hc)
        rw [this]
        omega
  have fr : ∀ l : List Ch, (∀ c ∈ l, 0 ≤ c.r) → ∀ c ∈ G4.rfs l, 0 ≤ c.r := by
    intro l
    have fx : ∀ c : Ch, 0 ≤ c.r → 0 ≤ (G4.fix c).r := fun c h => by
      unfold G4.fix
      dsimp only
      split
      · decide
      · split
        · decide
        · exact h
    induction l using G4.rfs.induct with
    | case1 => intro _ c hc; cases hc
    | case2 c => intro h d hd; simp [G4.rfs] at hd; subst hd; exact fx c (h c (by simp))
    | case3 c d l hcd ih =>
      intro h e he
      unfold G4.rfs at he
      rw [if_pos hcd] at he
      rcases List.mem_cons.1 he with rfl | he
      · simp
      · exact ih (fun x hx => h x (by simp [hx])) e he
    | case4 c d l hcd ih =>
      intro h e he
      unfold G4.rfs at he
      rw [if_neg hcd] at he
      rcases List.mem_cons.1 he with rfl | he
      · exact fx c (h c (by simp))
      · exact ih (fun x hx => h x (by simp at hx ⊢; exact .inr hx)) e he
  have fz : ∀ l : List Ch, ∀ c, (G4.rfs l).getLast? = some c → ∃ d, l.getLast? = some d ∧ c.z = d.z := by
    intro l
    induction l using G4.rfs.induct with
    | case1 => intro c hc; cases hc
    | case2 c => intro d hd; simp [G4.rfs] at hd; exact ⟨c, rfl, by rw [← hd]; rfl⟩
    | case3 c d l hcd ih =>
      intro e he
      unfold G4.rfs at he
      rw [if_pos hcd] at he
      cases l with
      | nil =>
        simp [G4.rfs] at he
        exact ⟨d, rfl, by rw [← he]⟩
      | cons x l =>
        have hne : G4.rfs (x :: l) ≠ [] := by
          cases l with
          | nil => simp [G4.rfs]
          | cons y l => unfold G4.rfs; split <;> simp
        rw [List.getLast?_cons, List.getLast?_eq_some_getLast hne] at he
        obtain ⟨y, h1, h2⟩ := ih e (by rw [List.getLast?_eq_some_getLast hne]; simpa using he)
        exact ⟨y, by rw [List.getLast?_cons_cons, List.getLast?_cons_cons]; exact h1, h2⟩
    | case4 c d l hcd ih =>
      intro e he
      unfold G4.rfs at he
      rw [if_neg hcd] at he
      have hne : G4.rfs (d :: l) ≠ [] := by
        cases l with
        | nil => simp [G4.rfs]
        | cons y l => unfold G4.rfs; split <;> simp
      rw [List.getLast?_cons, List.getLast?_eq_some_getLast hne] at he
      obtain ⟨y, h1, h2⟩ := ih e (by rw [List.getLast?_eq_some_getLast hne]; simpa using he)
      exact ⟨y, by rw [List.getLast?_cons_cons]; exact h1, h2⟩
  have hit := G4.items_range s.data.toList.length s.data.toList (Nat.le_refl _)
  refine ⟨fr _ (hr _ 0 hit), fun c hc => ?_⟩
  obtain ⟨d, h1, h2⟩ := fz _ c hc
  have := hz _ 0 d h1
  rw [h2, this, chars_tot, show s.data.toList.length = s.size from Array.length_toList, Int.zero_add]
end Go.Proofs.Ytkbakbacomidbaa
