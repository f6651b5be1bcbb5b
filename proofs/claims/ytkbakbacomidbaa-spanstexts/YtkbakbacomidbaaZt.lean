/- A tag: the machine reads it as the scanner does. -/
import Derived.Test.YtkbakbacomidbaaProg
import Derived.Below
import Derived.BigQuiet
import Derived.BigRegion
import Derived.Deep.DeepCutAuto
import Derived.Deep.LoopGhost
import Derived.Deep.QuietTactic
import Derived.Deep.RegionHeld3
import Derived.Deep.RegionLaw
import Derived.Deep.RegionWith
import Derived.Deep.Upon
import Derived.Laws.AppendOwn
import Derived.Laws.BytesArg
import Derived.Laws.EntriesVeiled
import Derived.Laws.IdiomStrings
import Derived.Laws.StructEq
import Derived.Lib.RuneBytes
import Derived.Maps.AppendAt
import Derived.Maps.OwnSet
import Derived.OwnWalk
import Derived.ScopeJumps
import Derived.Shelf.Small.Strs
import Derived.Shelf.Strings.Builder1
import Derived.Shelf.Strings.BuilderF
import Derived.Shelf.Strings.BuilderK
import Derived.Shelf.Strings.BuilderRune
import Derived.Shelf.Strings.Prefix
import Derived.WalkArith
import Derived.WalkKit
import Derived.WalkLawsBesides
import Derived.WalkMore
import Derived.WalkSpells
import Derived.Test.YtkbakbacomidbaaZq
namespace Go.Proofs.Ytkbakbacomidbaa
open Go.RowKit
/-- A machine within a tag. -/
def tm (fo : Bool) (sc : Sc) (kind f : Int) (nm : List UInt8) (st : Nat) (fs : Fs) (A : List At) (a : Int) (an av : List UInt8) (cnt : Bool) : Mc :=
  ⟨st, 106, sc.text, fo, sc.last, [], [], kind, f, nm, [], false, A, a, an, av, cnt, [], fs⟩
theorem tellTag_st (m : Mc) (s : Nat) (c : Ch) : ({ m with st := s } : Mc).tellTag c = m.tellTag c := by
  by_cases h : m.kind = 2
  · simp [Mc.tellTag, Mc.keep, h, Mc.tell, Mc.toData, Mc.noMade, Mc.tagPt]
  · have hk : ∀ q : Nat, ¬ ({ m with st := q } : Mc).keep.kind = 2 := fun _ => h
    by_cases h2 : m.keep.attrs ≠ [] ∨ m.keep.self = true
    · have h3 : ({ m with st := s } : Mc).keep.attrs ≠ [] ∨ ({ m with st := s } : Mc).keep.self = true := h2
      unfold Mc.tellTag
      simp only [if_neg (hk s), if_neg (show ¬ m.keep.kind = 2 from h), if_pos h2, if_pos h3]
      rfl
    · have h3 : ¬ (({ m with st := s } : Mc).keep.attrs ≠ [] ∨ ({ m with st := s } : Mc).keep.self = true) := h2
      unfold Mc.tellTag
      simp only [if_neg (hk s), if_neg (show ¬ m.keep.kind = 2 from h), if_neg h2, if_neg h3]
      rfl
theorem tot_nil {auto fo : Bool} {N : Int} {sc : Sc} {kind f : Int} {nm : List UInt8} (st : Nat) (fs : Fs) (A : List At) (a : Int) (an av : List UInt8) (cnt : Bool) : tot auto N [] (tm fo sc kind f nm st fs A a an av cnt) = ([eofP6 N], fs ++ [(7, N)]) := by
  rw [tot_end rfl]
  rfl
theorem head183 {auto fo : Bool} {N : Int} {sc : Sc} {kind f : Int} {nm : List UInt8} {c : Ch} (t : List Ch) (fs : Fs) (A : List At) (a : Int) (an av : List UInt8) (cnt : Bool) (h : blk c.r = true ∨ c.r = 62) : tot auto N (c :: t) (tm fo sc kind f nm 222 fs A a an av cnt) = tot auto N (c :: t) (tm fo sc kind f nm 151 fs A a an av cnt) := by
  refine tot_same rfl rfl ?_
  show Mc.bare _ c = Mc.beforeName _ c
  unfold Mc.bare Mc.beforeName
  by_cases hb : blk c.r = true
  · rw [if_pos hb, if_pos hb]; rfl
  · rw [if_neg hb, if_neg hb]
    rcases h with h | h
    · exact absurd h hb
    · rw [if_neg (by omega), if_pos h, if_pos (.inr h)]
      unfold Mc.afterName
      rw [if_neg hb, if_neg (by omega), if_neg (by omega), if_pos h]
      exact tellTag_st (tm fo sc kind f nm 151 fs A a an av cnt) 222 c |>.trans (tellTag_st (tm fo sc kind f nm 151 fs A a an av cnt) 181 c).symm
theorem head187 {auto fo : Bool} {N : Int} {sc : Sc} {kind f : Int} {nm : List UInt8} (r : List Ch) (fs : Fs) (A : List At) (a : Int) (an av : List UInt8) (cnt : Bool) : tot auto N r (tm fo sc kind f nm 226 fs A a an av cnt) = tot auto N r (tm fo sc kind f nm 151 (between fs r) A a an av cnt) := by
  cases r with
  | nil => rw [tot_nil, tot_nil]; rfl
  | cons c t =>
    refine tot_same rfl rfl ?_
    show Mc.afterValue _ c = Mc.beforeName _ c
    unfold Mc.afterValue between
    by_cases hb : blk c.r = true
    · rw [if_pos hb]
      simp only [hb, true_or, if_true]
      unfold Mc.beforeName
      rw [if_pos hb]
      rfl
    · rw [if_neg hb]
      by_cases h : c.r = 47
      · rw [if_pos h]
        simp only [h, true_or, or_true, if_true]
        unfold Mc.beforeName Mc.afterName
        rw [if_neg hb, if_pos (.inl h), if_neg hb, if_pos h]
        rfl
      · rw [if_neg h]
        by_cases h2 : c.r = 62
        · rw [if_pos h2]
          simp only [h2, or_true, if_true]
          unfold Mc.beforeName Mc.afterName
          rw [if_neg hb, if_pos (.inr h2), if_neg hb, if_neg h, if_neg (by omega), if_pos h2]
          exact tellTag_st (tm fo sc kind f nm 151 fs A a an av cnt) 226 c |>.trans (tellTag_st (tm fo sc kind f nm 151 fs A a an av cnt) 181 c).symm
        · rw [if_neg h2]
          have hn : ¬ (blk c.r = true ∨ c.r = 47 ∨ c.r = 62) := fun e => by
            rcases e with e | e | e
            · exact hb e
            · exact h e
            · exact h2 e
          simp only [if_neg hn]
          rfl
theorem skip170 {auto fo : Bool} {N : Int} {sc : Sc} {kind f : Int} {nm : List UInt8} (fs : Fs) (A : List At) (a : Int) (an av : List UInt8) (cnt : Bool) : ∀ r : List Ch, tot auto N r (tm fo sc kind f nm 209 fs A a an av cnt) = tot auto N (skipB r) (tm fo sc kind f nm 209 fs A a an av cnt)
  | [] => rfl
  | c :: t => by
    unfold skipB
    cases hc : isB c with
    | false => rw [List.dropWhile_cons, hc]; simp
    | true =>
      have hb : blk c.r = true := hc
      have ht : (tm fo sc kind f nm 209 fs A a an av cnt).take c = tm fo sc kind f nm 209 fs A a an av cnt := by
        show Mc.beforeValue _ c = _
        unfold Mc.beforeValue
        rw [if_pos hb]
      rw [tot_go rfl ht rfl, skip170 fs A a an av cnt t, List.dropWhile_cons, hc]
      rfl
theorem skipB_hd {r : List Ch} {c : Ch} {t : List Ch} (h : skipB r = c :: t) : blk c.r = false := by
  unfold skipB at h
  have := List.head?_dropWhile_not isB r
  rw [h] at this
  simpa [isB] using this
/-- A machine in a value: an open reference. -/
theorem amp_eq {auto fo : Bool} {N : Int} {sc : Sc} {kind f : Int} {nm : List UInt8} {st : Nat} (hst : st = 220 ∨ st = 221 ∨ st = 222) (hk : kind = 2 ∨ kind = 3) {c : Ch} {t : List Ch} (h38 : c.r = 38) (hpos : ∀ d ∈ t, 0 ≤ d.r) (fs : Fs) (A : List At) (a : Int) (an av : List UInt8) (cnt : Bool) :
    tot auto N (c :: t) (tm fo sc kind f nm st fs A a an av cnt) = tot auto N (pieceR (c :: t) fs).2.2 (tm fo sc kind f nm st (pieceR (c :: t) fs).2.1 A a an (av ++ (pieceR (c :: t) fs).1) cnt) := by
  have ht : (tm fo sc kind f nm st fs A a an av cnt).take c = { tm fo sc kind f nm st fs A a an av cnt with ref := [c] } := by
    rcases hst with rfl | rfl | rfl
    · show Mc.quoted _ c 34 = _
      unfold Mc.quoted
      rw [if_neg (by omega), if_pos h38]
    · show Mc.quoted _ c 39 = _
      unfold Mc.quoted
      rw [if_neg (by omega), if_pos h38]
    · show Mc.bare _ c = _
      unfold Mc.bare
      rw [if_neg (by rw [h38]; decide), if_pos h38]
  have hk0 : kind ≠ 0 := by omega
  have hS : Reads (tm fo sc kind f nm st fs A a an av cnt) := .inr ⟨hst, rfl, hk0⟩
  rw [tot_go rfl ht rfl, ref_eq hS rfl rfl h38 t [] (.inr ⟨fun c hc => (by cases hc), fun h => absurd rfl h⟩) hpos, List.nil_append]
  unfold refGo
  have hd1 : decide ((tm fo sc kind f nm st fs A a an av cnt).kind ≠ 0) = true := decide_eq_true hk0
  rw [hd1]
  dsimp only
  unfold pieceR
  simp only [if_pos h38]
  obtain ⟨o, ho⟩ : ∃ o, refR true (c :: t) = o := ⟨_, rfl⟩
  rw [ho]
  unfold refB refK
  by_cases h0 : o.2.1 = 0
  · simp only [if_pos h0]
    have e : ({ tm fo sc kind f nm st fs A a an av cnt with ref := [], fs := (tm fo sc kind f nm st fs A a an av cnt).fs ++ Mc.refFaults (c :: t) o.2.1 o.2.2 } : Mc).put c false = tm fo sc kind f nm st (fs ++ Mc.refFaults (c :: t) o.2.1 o.2.2) A a an (av ++ enc c.r) cnt := by
      show (if kind ≠ 0 then _ else _) = _
      rw [if_pos hk0]
      rfl
    rw [e]
    rfl
  · simp only [if_neg h0]
    have e : ({ tm fo sc kind f nm st fs A a an av cnt with ref := [], fs := (tm fo sc kind f nm st fs A a an av cnt).fs ++ Mc.refFaults (c :: t) o.2.1 o.2.2 } : Mc).put ⟨o.1, Mc.frAt (c :: t), Mc.toAt (c :: t) (o.2.1 - 1)⟩ true = tm fo sc kind f nm st (fs ++ Mc.refFaults (c :: t) o.2.1 o.2.2) A a an (av ++ enc o.1) cnt := by
      show (if kind ≠ 0 then _ else _) = _
      rw [if_pos hk0]
      rfl
    rw [e]
    rfl
/-- What a piece leaves. -/
theorem piece_suf {c : Ch} {t : List Ch} (fs : Fs) : (pieceR (c :: t) fs).2.2 <:+ t := by
  unfold pieceR
  dsimp only
  by_cases h38 : c.r = 38
  · rw [if_pos h38]
    by_cases h0 : (refR true (c :: t)).2.1 = 0
    · rw [if_pos h0]
      exact List.suffix_refl _
    · rw [if_neg h0]
      obtain ⟨k, hk⟩ : ∃ k, (refR true (c :: t)).2.1 = k + 1 := ⟨(refR true (c :: t)).2.1 - 1, by omega⟩
      rw [hk, List.drop_succ_cons]
      exact List.drop_suffix _ _
  · rw [if_neg h38]
    exact List.suffix_refl _
theorem suf_pos {r t : List Ch} (h : r <:+ t) (hp : ∀ d ∈ t, 0 ≤ d.r) : ∀ d ∈ r, 0 ≤ d.r := fun d hd => hp d (h.subset hd)
theorem quo_eq {auto fo : Bool} {N : Int} {sc : Sc} {kind f : Int} {nm : List UInt8} {st : Nat} {q : Int} (hst : (st = 220 ∧ q = 34) ∨ (st = 221 ∧ q = 39)) (hk : kind = 2 ∨ kind = 3) (A : List At) (a : Int) (an : List UInt8) (cnt : Bool) : ∀ (n : Nat) (r : List Ch) (av : List UInt8) (fs : Fs), r.length ≤ n → (∀ d ∈ r, 0 ≤ d.r) →
    tot auto N r (tm fo sc kind f nm st fs A a an av cnt) = tot auto N (quoR q n av fs r).2.2 (tm fo sc kind f nm st (quoR q n av fs r).2.1 A a an (quoR q n av fs r).1 cnt) ∧ ((quoR q n av fs r).2.2 = [] ∨ hd (quoR q n av fs r).2.2 = q) ∧ (quoR q n av fs r).2.2 <:+ r
  | 0, r, av, fs, hl, _ => by
    have : r = [] := List.eq_nil_of_length_eq_zero (by omega)
    subst this
    exact ⟨rfl, .inl rfl, List.suffix_refl _⟩
  | n + 1, r, av, fs, hl, hpos => by
    unfold quoR
    by_cases h : r = [] ∨ hd r = q
    · rw [if_pos h]
      exact ⟨rfl, h, List.suffix_refl _⟩
    · rw [if_neg h]
      cases r with
      | nil => exact absurd (.inl rfl) h
      | cons c t =>
        have hq : ¬ c.r = q := fun e => h (.inr e)
        have hs := piece_suf (c := c) (t := t) fs
        have htp : ∀ d ∈ t, 0 ≤ d.r := fun d hd => hpos d (by simp [hd])
        have step : tot auto N (c :: t) (tm fo sc kind f nm st fs A a an av cnt) = tot auto N (pieceR (c :: t) fs).2.2 (tm fo sc kind f nm st (pieceR (c :: t) fs).2.1 A a an (av ++ (pieceR (c :: t) fs).1) cnt) := by
          by_cases h38 : c.r = 38
          · exact amp_eq (by omega) hk h38 htp fs A a an av cnt
          · have ht : (tm fo sc kind f nm st fs A a an av cnt).take c = tm fo sc kind f nm st fs A a an (av ++ enc c.r) cnt := by
              rcases hst with ⟨rfl, rfl⟩ | ⟨rfl, rfl⟩
              · show Mc.quoted _ c 34 = _
                unfold Mc.quoted
                rw [if_neg hq, if_neg h38]
                rfl
              · show Mc.quoted _ c 39 = _
                unfold Mc.quoted
                rw [if_neg hq, if_neg h38]
                rfl
            rw [tot_go rfl ht rfl]
            unfold pieceR
            simp only [if_neg h38]
        obtain ⟨i1, i2, i3⟩ := quo_eq (auto := auto) (fo := fo) (N := N) (sc := sc) (f := f) (nm := nm) hst hk A a an cnt n (pieceR (c :: t) fs).2.2 (av ++ (pieceR (c :: t) fs).1) (pieceR (c :: t) fs).2.1 (by have := hs.length_le; simp at hl; omega) (suf_pos hs htp)
        exact ⟨step.trans i1, i2, i3.trans (hs.trans (List.suffix_cons _ _))⟩
theorem bare_eq {auto fo : Bool} {N : Int} {sc : Sc} {kind f : Int} {nm : List UInt8} (hk : kind = 2 ∨ kind = 3) (A : List At) (a : Int) (an : List UInt8) (cnt : Bool) : ∀ (n : Nat) (r : List Ch) (av : List UInt8) (fs : Fs), r.length ≤ n → (∀ d ∈ r, 0 ≤ d.r) →
    tot auto N r (tm fo sc kind f nm 222 fs A a an av cnt) = tot auto N (bareR n av fs r).2.2 (tm fo sc kind f nm 151 (bareR n av fs r).2.1 A a an (bareR n av fs r).1 cnt) ∧ (bareR n av fs r).2.2 <:+ r
  | 0, r, av, fs, hl, _ => by
    have : r = [] := List.eq_nil_of_length_eq_zero (by omega)
    subst this
    refine ⟨?_, List.suffix_refl _⟩
    rw [tot_nil]
    show _ = tot auto N [] _
    rw [tot_nil]
    rfl
  | n + 1, r, av, fs, hl, hpos => by
    unfold bareR
    by_cases h : r = [] ∨ blk (hd r) = true ∨ hd r = 62
    · rw [if_pos h]
      refine ⟨?_, List.suffix_refl _⟩
      cases r with
      | nil => rw [tot_nil, tot_nil]
      | cons c t => exact head183 t fs A a an av cnt (h.resolve_left (by simp))
    · rw [if_neg h]
      cases r with
      | nil => exact absurd (.inl rfl) h
      | cons c t =>
        have hb : ¬ blk c.r = true := fun e => h (.inr (.inl e))
        have h62 : ¬ c.r = 62 := fun e => h (.inr (.inr e))
        have hs := piece_suf (c := c) (t := t) (oddF (c :: t) fs)
        have htp : ∀ d ∈ t, 0 ≤ d.r := fun d hd => hpos d (by simp [hd])
        have step : tot auto N (c :: t) (tm fo sc kind f nm 222 fs A a an av cnt) = tot auto N (pieceR (c :: t) (oddF (c :: t) fs)).2.2 (tm fo sc kind f nm 222 (pieceR (c :: t) (oddF (c :: t) fs)).2.1 A a an (av ++ (pieceR (c :: t) (oddF (c :: t) fs)).1) cnt) := by
          by_cases h38 : c.r = 38
          · have : oddF (c :: t) fs = fs := by unfold oddF odd5; simp [h38]
            rw [this]
            exact amp_eq (.inr (.inr rfl)) hk h38 htp fs A a an av cnt
          · have ht : (tm fo sc kind f nm 222 fs A a an av cnt).take c = tm fo sc kind f nm 222 (oddF (c :: t) fs) A a an (av ++ enc c.r) cnt := by
              show Mc.bare _ c = _
              unfold Mc.bare oddF
              rw [if_neg hb, if_neg h38, if_neg h62]
              by_cases h5 : c.r = 34 ∨ c.r = 39 ∨ c.r = 60 ∨ c.r = 61 ∨ c.r = 96
              · have h5' : odd5 c.r = true := by unfold odd5; simp; omega
                rw [if_pos h5]
                simp only [h5', if_true]
                rfl
              · have h5' : odd5 c.r = false := by unfold odd5; simp; omega
                rw [if_neg h5]
                simp only [h5', Bool.false_eq_true, if_false]
                rfl
            rw [tot_go rfl ht rfl]
            unfold pieceR
            simp only [if_neg h38]
        obtain ⟨i1, i2⟩ := bare_eq (auto := auto) (fo := fo) (N := N) (sc := sc) (f := f) (nm := nm) hk A a an cnt n (pieceR (c :: t) (oddF (c :: t) fs)).2.2 (av ++ (pieceR (c :: t) (oddF (c :: t) fs)).1) (pieceR (c :: t) (oddF (c :: t) fs)).2.1 (by have := hs.length_le; simp at hl; omega) (suf_pos hs htp)
        exact ⟨step.trans i1, i2.trans (hs.trans (List.suffix_cons _ _))⟩
theorem skip_suf (r : List Ch) : skipB r <:+ r := List.dropWhile_suffix _
theorem value_eq {auto fo : Bool} {N : Int} {sc : Sc} {kind f : Int} {nm : List UInt8} (hk : kind = 2 ∨ kind = 3) (r : List Ch) (fs : Fs) (A : List At) (a : Int) (an : List UInt8) (cnt : Bool) (hpos : ∀ d ∈ r, 0 ≤ d.r) :
    tot auto N r (tm fo sc kind f nm 209 fs A a an [] cnt) = tot auto N (valueR N fs r).2.2 (tm fo sc kind f nm 151 (valueR N fs r).2.1 A a an (valueR N fs r).1 cnt) ∧ (valueR N fs r).2.2 <:+ r := by
  have hsk := skip_suf r
  have hpos1 := suf_pos hsk hpos
  rw [skip170]
  unfold valueR
  obtain ⟨r1, hr1⟩ : ∃ r1, skipB r = r1 := ⟨_, rfl⟩
  rw [hr1] at hsk hpos1 ⊢
  have quo : ∀ (st : Nat) (q : Int), ((st = 220 ∧ q = 34) ∨ (st = 221 ∧ q = 39)) → hd r1 = q → (tot auto N r1 (tm fo sc kind f nm 209 fs A a an [] cnt) = tot auto N (if (quoR q r1.length [] fs r1.tail).2.2 = [] then quoR q r1.length [] fs r1.tail else ((quoR q r1.length [] fs r1.tail).1, between (quoR q r1.length [] fs r1.tail).2.1 (quoR q r1.length [] fs r1.tail).2.2.tail, (quoR q r1.length [] fs r1.tail).2.2.tail)).2.2 (tm fo sc kind f nm 151 (if (quoR q r1.length [] fs r1.tail).2.2 = [] then quoR q r1.length [] fs r1.tail else ((quoR q r1.length [] fs r1.tail).1, between (quoR q r1.length [] fs r1.tail).2.1 (quoR q r1.length [] fs r1.tail).2.2.tail, (quoR q r1.length [] fs r1.tail).2.2.tail)).2.1 A a an (if (quoR q r1.length [] fs r1.tail).2.2 = [] then quoR q r1.length [] fs r1.tail else ((quoR q r1.length [] fs r1.tail).1, between (quoR q r1.length [] fs r1.tail).2.1 (quoR q r1.length [] fs r1.tail).2.2.tail, (quoR q r1.length [] fs r1.tail).2.2.tail)).1 cnt)) ∧ (if (quoR q r1.length [] fs r1.tail).2.2 = [] then quoR q r1.length [] fs r1.tail else ((quoR q r1.length [] fs r1.tail).1, between (quoR q r1.length [] fs r1.tail).2.1 (quoR q r1.length [] fs r1.tail).2.2.tail, (quoR q r1.length [] fs r1.tail).2.2.tail)).2.2 <:+ r1 := fun st q hst hq => by
    cases r1 with
    | nil => exfalso; have : (-1 : Int) = q := hq; omega
    | cons c t =>
      have hcq : c.r = q := hq
      have ht : (tm fo sc kind f nm 209 fs A a an [] cnt).take c = tm fo sc kind f nm st fs A a an [] cnt := by
        show Mc.beforeValue _ c = _
        unfold Mc.beforeValue
        rcases hst with ⟨rfl, rfl⟩ | ⟨rfl, rfl⟩
        · rw [if_neg (by rw [hcq]; decide), if_pos hcq]; rfl
        · rw [if_neg (by rw [hcq]; decide), if_neg (by omega), if_pos hcq]; rfl
      obtain ⟨i1, i2, i3⟩ := quo_eq (auto := auto) (fo := fo) (N := N) (sc := sc) (f := f) (nm := nm) hst hk A a an cnt (c :: t).length t [] fs (by simp) (fun d hd => hpos1 d (by simp [hd]))
      rw [tot_go rfl ht rfl, i1, List.tail_cons]
      obtain ⟨p, hp⟩ : ∃ p, quoR q (c :: t).length [] fs t = p := ⟨_, rfl⟩
      rw [hp] at i2 i3 ⊢
      by_cases h0 : p.2.2 = []
      · simp only [if_pos h0]
        refine ⟨?_, i3.trans (List.suffix_cons _ _)⟩
        rw [h0, tot_nil, tot_nil]
      · simp only [if_neg h0]
        cases hp2 : p.2.2 with
        | nil => exact absurd hp2 h0
        | cons d u =>
          rw [hp2] at i2 i3
          have hdq : d.r = q := i2.resolve_left (by simp)
          have ht2 : (tm fo sc kind f nm st p.2.1 A a an p.1 cnt).take d = tm fo sc kind f nm 226 p.2.1 A a an p.1 cnt := by
            rcases hst with ⟨rfl, rfl⟩ | ⟨rfl, rfl⟩
            · show Mc.quoted _ d 34 = _
              unfold Mc.quoted
              rw [if_pos hdq]
              rfl
            · show Mc.quoted _ d 39 = _
              unfold Mc.quoted
              rw [if_pos hdq]
              rfl
          rw [tot_go rfl ht2 rfl, head187, List.tail_cons]
          exact ⟨rfl, ((List.suffix_cons _ _).trans i3).trans (List.suffix_cons _ _)⟩
  by_cases h34 : hd r1 = 34 ∨ hd r1 = 39
  · rw [if_pos h34]
    rcases h34 with h | h
    · obtain ⟨j1, j2⟩ := quo 220 34 (.inl ⟨rfl, rfl⟩) h
      rw [h]
      exact ⟨j1, j2.trans hsk⟩
    · obtain ⟨j1, j2⟩ := quo 221 39 (.inr ⟨rfl, rfl⟩) h
      rw [h]
      exact ⟨j1, j2.trans hsk⟩
  · rw [if_neg h34]
    by_cases h62 : hd r1 = 62
    · rw [if_pos h62]
      refine ⟨?_, hsk⟩
      cases r1 with
      | nil => exact absurd h62 (by decide)
      | cons c t =>
        have h : c.r = 62 := h62
        refine tot_same rfl rfl ?_
        show Mc.beforeValue _ c = Mc.beforeName _ c
        unfold Mc.beforeValue Mc.beforeName Mc.afterName
        rw [if_neg (by rw [h]; decide), if_neg (by omega), if_neg (by omega), if_pos h, if_neg (by rw [h]; decide), if_pos (.inr h), if_neg (by rw [h]; decide), if_neg (by omega), if_neg (by omega), if_pos h]
        exact tellTag_st (tm fo sc kind f nm 151 (fs ++ [(10, c.a)]) A a an [] cnt) 209 c |>.trans (tellTag_st (tm fo sc kind f nm 151 (fs ++ [(10, c.a)]) A a an [] cnt) 181 c).symm
    · rw [if_neg h62]
      obtain ⟨i1, i2⟩ := bare_eq (auto := auto) (fo := fo) (N := N) (sc := sc) (f := f) (nm := nm) hk A a an cnt r1.length r1 [] fs (Nat.le_refl _) hpos1
      rw [← i1]
      refine ⟨?_, i2.trans hsk⟩
      cases r1 with
      | nil => rw [tot_nil, tot_nil]
      | cons c t =>
        have hb : ¬ blk c.r = true := by rw [skipB_hd hr1]; decide
        have g1 : ¬ c.r = 34 := fun e => h34 (.inl e)
        have g2 : ¬ c.r = 39 := fun e => h34 (.inr e)
        have g3 : ¬ c.r = 62 := h62
        refine tot_same rfl rfl ?_
        show Mc.beforeValue _ c = Mc.bare _ c
        unfold Mc.beforeValue
        rw [if_neg hb, if_neg g1, if_neg g2, if_neg g3]
        rfl
end Go.Proofs.Ytkbakbacomidbaa
namespace Go.Proofs.Ytkbakbacomidbaa
open Go.RowKit
theorem aname_suf {c : Ch} {t : List Ch} (fs : Fs) (hb : blk c.r = false) (h47 : c.r ≠ 47) (h62 : c.r ≠ 62) : (anameR fs (c :: t)).2.2 <:+ t := by
  unfold anameR
  dsimp only
  by_cases h61 : c.r = 61
  · rw [if_pos h61]
    exact List.dropWhile_suffix _
  · rw [if_neg h61]
    have hc : anC c = true := by unfold anC; simp [hb, h47, h62, h61]
    show List.dropWhile anC (c :: t) <:+ t
    rw [List.dropWhile_cons, hc]
    exact List.dropWhile_suffix _
end Go.Proofs.Ytkbakbacomidbaa
namespace Go.Proofs.Ytkbakbacomidbaa
open Go.RowKit
/-- The bytes of a character that is no plain one are high. -/
theorem enc_all {r : Int} (h : ¬ (0 ≤ r ∧ r < 128)) : enc r ≠ [] ∧ ∀ b ∈ enc r, 128 ≤ b.toNat := by
  have hc : 128 ≤ G9.chr r ∧ G9.chr r ≤ 1114111 ∧ (G9.chr r < 55296 ∨ 57343 < G9.chr r) := by
    unfold G9.chr
    split
    · next hm =>
      unfold G9.mayB at hm
      simp at hm
      omega
    · omega
  unfold enc Lib.encodeRune
  generalize G9.chr r = q at hc
  have key : ∀ x : Int, 128 ≤ x → x < 256 → 128 ≤ (x.toNat.toUInt8).toNat := fun x h1 h2 => by
    have : x.toNat % 256 = x.toNat := Nat.mod_eq_of_lt (by omega)
    simp only [Nat.toUInt8, UInt8.toNat_ofNat']
    omega
  have all : ∀ l : List Int, l ≠ [] → (∀ x ∈ l, 128 ≤ x ∧ x < 256) → l.map (fun x => x.toNat.toUInt8) ≠ [] ∧ ∀ b ∈ l.map (fun x => x.toNat.toUInt8), 128 ≤ b.toNat := fun l h0 h => ⟨by simpa using h0, fun b hb => by
    obtain ⟨x, hx, rfl⟩ := List.mem_map.1 hb
    exact key x (h x hx).1 (h x hx).2⟩
  by_cases h2 : q ≤ 2047
  · rw [Lib.encodeRuneZ_two hc.1 h2]
    exact all _ (by simp) fun x hx => by simp at hx; rcases hx with rfl | rfl <;> omega
  · by_cases h3 : q ≤ 65535
    · rw [Lib.encodeRuneZ_three (by omega)]
      exact all _ (by simp) fun x hx => by simp at hx; rcases hx with rfl | rfl | rfl <;> omega
    · rw [Lib.encodeRuneZ_four (by omega) hc.2.1]
      exact all _ (by simp) fun x hx => by simp at hx; rcases hx with rfl | rfl | rfl | rfl <;> omega
theorem enc_is {r : Int} {b : UInt8} (h0 : 0 ≤ r) (hb : b.toNat < 128) : enc r = [b] ↔ r = (b.toNat : Int) := by
  constructor
  · intro h
    by_cases hr : r < 128
    · rw [enc_low h0 hr] at h
      have h := (List.cons.inj h).1
      have e := (wc_byte (c := ⟨r, 0, 0⟩) h0 hr).2
      unfold byt at e
      simp only at e
      rw [h] at e
      omega
    · obtain ⟨_, h2⟩ := enc_all (r := r) (by omega)
      have := h2 b (by rw [h]; simp)
      omega
  · intro h
    rw [enc_low h0 (by omega), h]
    simp
end Go.Proofs.Ytkbakbacomidbaa
namespace Go.Proofs.Ytkbakbacomidbaa
open Go.RowKit
/-- A character's bytes, or those of its lower form. -/
def gB (fold : Bool) (c : Ch) : List UInt8 := if fold = true then Mc.lowL (enc c.r) else enc c.r
theorem isW_step (fold : Bool) (b : UInt8) (w : List UInt8) (c : Ch) (t : List Ch) : isW fold (b :: w) (c :: t) = (decide (gB fold c = [b]) && isW fold w t) := rfl
end Go.Proofs.Ytkbakbacomidbaa
