/- api's names, and sure without a trie. -/
import Derived.Test.YtkbakbacomidbaaProg
import Derived.Below
import Derived.BigCall
import Derived.BigQuiet
import Derived.BigRegion
import Derived.Deep.DeepCutAuto
import Derived.Deep.LoopGhost
import Derived.Deep.QuietTactic
import Derived.Deep.RegionHeld3
import Derived.Deep.RegionLaw
import Derived.Deep.RegionWith
import Derived.Deep.Upon
import Derived.Laws.AppendOwn
import Derived.Laws.BytesArg
import Derived.Laws.EntriesVeiled
import Derived.Laws.IdiomStrings
import Derived.Laws.StructEq
import Derived.Lib.AppendStr
import Derived.Lib.RuneBytes
import Derived.Maps.AppendAt
import Derived.Maps.OwnSet
import Derived.OwnWalk
import Derived.ScopeJumps
import Derived.Shelf.Abstract
import Derived.Shelf.Small.Strs
import Derived.Shelf.Strings.Builder1
import Derived.Shelf.Strings.BuilderF
import Derived.Shelf.Strings.BuilderK
import Derived.Shelf.Strings.BuilderRune
import Derived.Shelf.Strings.Prefix
import Derived.StillTailTactics
import Derived.StringKeys
import Derived.WalkArith
import Derived.WalkKit
import Derived.WalkLawsBesides
import Derived.WalkMore
import Derived.WalkSpells
import Derived.Test.YtkbakbacomidbaaZi
namespace Go.Proofs.Ytkbakbacomidbaa
open Go.RowKit
theorem refs_any (w : World) : Calls Try.prog 56 #[] w fun e w' => e = .returned (.slice (some ⟨w.heap.size, 0, none⟩) 78 78) ∧ G6.RefRow w' (some ⟨w.heap.size, 0, none⟩) G6.refs ∧ Below w.heap.size w w' ∧ w'.heap.size = w.heap.size + 1 := by
  refine (G6.refs_walk w).mono ?_
  rintro e w' ⟨rfl, rfl⟩
  obtain ⟨L, hL⟩ : ∃ L, L = G6.refs := ⟨_, rfl⟩
  rw [← hL]
  clear hL
  refine ⟨rfl, fun i x hx => ?_, (Below.refl _ _).alloc (Nat.le_refl _) _, by simp⟩
  have e := heap_alloc_new w (.cells (L.flatMap G6.Rf.cells).toArray 102)
  obtain ⟨W, hW⟩ : ∃ W, W = w.alloc (.cells (L.flatMap G6.Rf.cells).toArray 102) := ⟨_, rfl⟩
  rw [← hW] at e ⊢
  obtain ⟨h1, h2⟩ := G6.rf_at L i x hx
  refine ⟨w.heap.size, 0, rfl, by rw [hW]; simp, ?_, ?_⟩
  · simp [World.cell?, e, h1]
  · simp [World.cell?, e, h2]
theorem api_refs : G6.Api G6.refs where
  refs := refs_any
  len := G6.refs_len
  fine := by unfold G6.Fine; decide +kernel
end Go.Proofs.Ytkbakbacomidbaa
namespace Go.Proofs.Ytkbakbacomidbaa
open Go.RowKit
theorem chr_low {r : Int} (h0 : 0 ≤ r) (h1 : r < 128) : G9.chr r = r := by
  unfold G9.chr G9.mayB
  rw [if_pos (by simp; omega)]
theorem enc_low {r : Int} (h0 : 0 ≤ r) (h1 : r < 128) : enc r = [r.toNat.toUInt8] := by
  unfold enc Lib.encodeRune
  rw [chr_low h0 h1, Lib.encodeRuneZ_one h0 (by omega)]
  rfl
theorem enc_high {r : Int} (h : ¬ (0 ≤ r ∧ r < 128)) : ∃ b t, enc r = b :: t ∧ 128 ≤ b.toNat := by
  have hc : 128 ≤ G9.chr r ∧ G9.chr r ≤ 1114111 ∧ (G9.chr r < 55296 ∨ 57343 < G9.chr r) := by
    unfold G9.chr
    split
    · next hm =>
      unfold G9.mayB at hm
      simp at hm
      omega
    · omega
  unfold enc Lib.encodeRune
  generalize G9.chr r = q at hc
  have key : ∀ x : Int, 128 ≤ x → x < 256 → 128 ≤ (x.toNat.toUInt8).toNat := fun x h1 h2 => by
    have : x.toNat % 256 = x.toNat := Nat.mod_eq_of_lt (by omega)
    simp only [Nat.toUInt8, UInt8.toNat_ofNat']
    omega
  by_cases h2 : q ≤ 2047
  · rw [Lib.encodeRuneZ_two hc.1 h2]
    exact ⟨_, _, rfl, key _ (by omega) (by omega)⟩
  · by_cases h3 : q ≤ 65535
    · rw [Lib.encodeRuneZ_three (by omega)]
      exact ⟨_, _, rfl, key _ (by omega) (by omega)⟩
    · rw [Lib.encodeRuneZ_four (by omega) hc.2.1]
      exact ⟨_, _, rfl, key _ (by omega) (by omega)⟩
/-- A character that may stand in a reference behind its &. -/
def RcOk (c : Ch) : Prop := 0 ≤ c.r ∧ c.r < 128 ∧ c.r ≠ 38
theorem rc_of {c : Ch} (h : ∀ b ∈ enc c.r, b.toNat < 128 ∧ b.toNat ≠ 38) : RcOk c := by
  by_cases hr : 0 ≤ c.r ∧ c.r < 128
  · refine ⟨hr.1, hr.2, fun e => ?_⟩
    have := (h 38 (by rw [e]; decide +kernel)).2
    exact this rfl
  · obtain ⟨b, t, e, hb⟩ := enc_high hr
    have := (h b (by rw [e]; simp)).1
    omega
/-- An open reference. -/
def RefOk (l : List Ch) : Prop := ∃ c t, l = c :: t ∧ c.r = 38 ∧ ∀ d ∈ t, RcOk d
/-- An open reference, whatever its last character is. -/
def RefW (l : List Ch) : Prop := RefOk l ∨ ∃ a c, l = a ++ [c] ∧ RefOk a
theorem RefOk.ne {l : List Ch} (h : RefOk l) : l ≠ [] := by
  obtain ⟨c, t, rfl, _⟩ := h
  simp
theorem RefW.ne {l : List Ch} (h : RefW l) : l ≠ [] := by
  rcases h with h | ⟨a, c, rfl, _⟩
  · exact h.ne
  · simp
theorem names_ok : ∀ x ∈ G6.refs, ∀ b ∈ x.nm, b.toNat < 128 ∧ b.toNat ≠ 38 := by decide +kernel
theorem pre_ok {p : List UInt8} (h : G6.pre G6.refs p = true) : ∀ b ∈ p, b.toNat < 128 ∧ b.toNat ≠ 38 := fun b hb => by
  unfold G6.pre at h
  obtain ⟨x, hx, h2⟩ := List.any_eq_true.1 h
  simp only [Bool.and_eq_true, List.isPrefixOf_iff_prefix] at h2
  exact names_ok x hx b (h2.2.subset hb)
theorem val_ok {p : List UInt8} {v : Int} : ∀ {L : List G6.Rf}, G6.val L p = some v → ∃ x ∈ L, x.nm = p := by
  intro L
  induction L with
  | nil => intro h; cases h
  | cons x L ih =>
    intro h
    unfold G6.val at h
    split at h
    · next h1 => exact ⟨x, by simp, h1.2⟩
    · obtain ⟨y, h1, h2⟩ := ih h
      exact ⟨y, by simp [h1], h2⟩
theorem sureNum_ok (f : Ch) (t : List Ch) (r : Int) (hl : Mc.lastR (f :: t) = r) (h : Mc.sureNum (f :: t) = false) : (48 ≤ r ∧ r ≤ 57) ∨ (97 ≤ r ∧ r ≤ 102) ∨ (65 ≤ r ∧ r ≤ 70) ∨ (t = [] ∧ (f.r = 120 ∨ f.r = 88)) := by
  unfold Mc.sureNum at h
  simp only [hl] at h
  by_cases h1 : 48 ≤ r ∧ r ≤ 57
  · exact .inl h1
  rw [if_neg h1] at h
  by_cases h2 : f.r = 120 ∨ f.r = 88
  · rw [if_neg (not_not_intro h2)] at h
    cases t with
    | nil => exact .inr (.inr (.inr ⟨rfl, h2⟩))
    | cons g t =>
      simp at h
      omega
  · rw [if_pos h2] at h
    cases h
/-- What is matched of a reference is of low bytes. -/
def LowTo (k : Nat) (l : List UInt8) : Prop := k ≤ l.length ∧ ∀ b ∈ l.take k, b.toNat < 128
theorem low_take {a l : List UInt8} (h : a <+: l) (ha : ∀ b ∈ a, b.toNat < 128) : LowTo a.length l :=
  ⟨h.length_le, by rw [← List.prefix_iff_eq_take.1 h]; exact ha⟩
theorem lowTo_len {l : List Ch} {k : Nat} (h : RefW l) (hk : LowTo k (encs l)) : k ≤ l.length := by
  have one : ∀ a : List Ch, (∀ d ∈ a, 0 ≤ d.r ∧ d.r < 128) → (encs a).length = a.length := by
    intro a
    induction a with
    | nil => intro _; rfl
    | cons d a ih =>
      intro hd
      have h1 := hd d (by simp)
      have h2 := ih fun e he => hd e (by simp [he])
      show (List.flatMap _ (d :: a)).length = _
      rw [List.flatMap_cons, List.length_append, enc_low h1.1 h1.2]
      have h3 : (List.flatMap (fun c => enc c.r) a).length = a.length := h2
      simp [h3]
      omega
  have lowAll : ∀ a : List Ch, RefOk a → ∀ d ∈ a, 0 ≤ d.r ∧ d.r < 128 := by
    rintro a ⟨c, t, rfl, h0, ht⟩ d hd
    rcases List.mem_cons.1 hd with rfl | hd
    · omega
    · exact ⟨(ht d hd).1, (ht d hd).2.1⟩
  rcases h with h | ⟨a, c, rfl, h⟩
  · rw [← one l (lowAll l h)]
    exact hk.1
  · have ha := one a (lowAll a h)
    have e : encs (a ++ [c]) = encs a ++ enc c.r := by simp [encs]
    rw [e] at hk
    by_cases hc : 0 ≤ c.r ∧ c.r < 128
    · have := hk.1
      rw [enc_low hc.1 hc.2, List.length_append, ha] at this
      simpa using this
    · obtain ⟨b, t, eb, hb⟩ := enc_high hc
      apply Classical.byContradiction
      intro hlt
      simp at hlt
      have : b ∈ (encs a ++ enc c.r).take k := by
        rw [List.take_append, eb]
        obtain ⟨j, hj⟩ : ∃ j, k - (encs a).length = j + 1 := ⟨k - (encs a).length - 1, by omega⟩
        rw [hj]
        simp
      have := hk.2 b this
      omega
theorem dig_low {b : UInt8} {base : Nat} (hb : base ≤ 16) (h : decide (G6.dig b.toNat < base) = true) : b.toNat < 128 := by
  have := of_decide_eq_true h
  unfold G6.dig at this
  split at this
  · omega
  · split at this
    · omega
    · split at this <;> omega
theorem digs_pre (base : Nat) (hb : base ≤ 16) (l : List UInt8) : G6.digs base l <+: l ∧ ∀ b ∈ G6.digs base l, b.toNat < 128 :=
  ⟨List.takeWhile_prefix _, fun b h => dig_low hb (List.all_eq_true.1 (List.all_takeWhile (p := fun b : UInt8 => decide (G6.dig b.toNat < base)) (l := l)) b h)⟩
theorem numB_low {k base : Nat} (hb : base ≤ 16) {l : List UInt8} (hk : k ≤ l.length) (h : ∀ b ∈ l.take k, b.toNat < 128) : LowTo (G6.numB k base l).2.1 l := by
  obtain ⟨p1, p2⟩ := digs_pre base hb (l.drop k)
  have hl : l.take k ++ l.drop k = l := List.take_append_drop k l
  have h0 : l.take k ++ G6.digs base (l.drop k) <+: l := by
    conv => rhs; rw [← hl]
    exact (List.prefix_append_right_inj _).2 p1
  have hlow : ∀ b ∈ l.take k ++ G6.digs base (l.drop k), b.toNat < 128 := fun b hb => by
    rcases List.mem_append.1 hb with hb | hb
    · exact h b hb
    · exact p2 b hb
  have hlen : (l.take k ++ G6.digs base (l.drop k)).length = k + (G6.digs base (l.drop k)).length := by
    rw [List.length_append, List.length_take]
    omega
  unfold G6.numB
  split
  · exact ⟨Nat.zero_le _, fun b hb => by simp at hb⟩
  · split
    · next h59 =>
      obtain ⟨t, ht⟩ := h0
      have hd : l.drop (k + (G6.digs base (l.drop k)).length) = t := by
        rw [← hlen]
        have := congrArg (List.drop (l.take k ++ G6.digs base (l.drop k)).length) ht
        rw [List.drop_left] at this
        exact this.symm
      rw [hd, List.isPrefixOf_iff_prefix] at h59
      have h1 : (l.take k ++ G6.digs base (l.drop k)) ++ [59] <+: l := by
        conv => rhs; rw [← ht]
        exact (List.prefix_append_right_inj _).2 h59
      have := low_take h1 (fun b hb => by
        rcases List.mem_append.1 hb with hb | hb
        · exact hlow b hb
        · simp at hb; subst hb; decide)
      rw [List.length_append, hlen] at this
      exact this
    · have := low_take h0 hlow
      rw [hlen] at this
      exact this
theorem best_low (l : List UInt8) (n : Nat) : ∀ b ∈ l.take (G6.best G6.refs l n).2, b.toNat < 128 := by
  induction n with
  | zero => intro b hb; simp [G6.best] at hb
  | succ n ih =>
    unfold G6.best
    split
    · next r h =>
      intro b hb
      obtain ⟨x, hx, e⟩ := val_ok h
      rw [← e] at hb
      exact (names_ok x hx b hb).1
    · exact ih
theorem refP_low (attr : Bool) (l : List UInt8) : LowTo (G6.refP G6.refs attr l).2.1 l := by
  unfold G6.refP
  split
  · next h =>
    rw [List.isPrefixOf_iff_prefix] at h
    obtain ⟨t, rfl⟩ := h
    unfold G6.numbP
    split
    · next hx =>
      cases t with
      | nil => simp at hx
      | cons y t =>
        simp at hx
        refine numB_low (by decide) (by simp) fun b hb => ?_
        simp at hb
        rcases hb with rfl | rfl | rfl
        · decide
        · decide
        · rcases hx with rfl | rfl <;> decide
    · refine numB_low (by decide) (by simp) fun b hb => ?_
      simp at hb
      rcases hb with rfl | rfl <;> decide
  · split
    · next h =>
      rw [List.isPrefixOf_iff_prefix] at h
      obtain ⟨t, rfl⟩ := h
      have hd : ([38] ++ t).drop 1 = t := rfl
      rw [hd]
      have hlow : LowTo (1 + (G6.best G6.refs t t.length).2) ([38] ++ t) := by
        have := G6.best_le G6.refs t t.length
        refine ⟨by simp; omega, fun b hb => ?_⟩
        rw [Nat.add_comm, List.cons_append, List.nil_append, List.take_succ_cons] at hb
        rcases List.mem_cons.1 hb with rfl | hb
        · decide
        · exact best_low t t.length b hb
      have h0 : LowTo 0 ([38] ++ t) := ⟨Nat.zero_le _, fun b hb => by simp at hb⟩
      unfold G6.namedP
      split
      · split <;> exact h0
      · split
        · exact hlow
        · split
          · exact h0
          · exact hlow
    · exact ⟨Nat.zero_le _, fun b hb => by simp at hb⟩
theorem oneR_len {m : Mc} (h : RefW m.ref) : m.oneR.2.1 ≤ m.ref.length := lowTo_len h (refP_low _ _)
theorem numB_codes (k base : Nat) (l : List UInt8) : (G6.numB k base l).2.2.length ≤ 3 := by
  unfold G6.numB
  split
  · decide
  · split
    · dsimp only
      split <;> simp
    · dsimp only
      split <;> simp
theorem refP_codes (L : List G6.Rf) (attr : Bool) (l : List UInt8) : (G6.refP L attr l).2.2.length ≤ 3 := by
  unfold G6.refP
  split
  · unfold G6.numbP
    split <;> exact numB_codes _ _ _
  · split
    · unfold G6.namedP
      split
      · split <;> simp
      · split
        · simp
        · split <;> simp
    · simp
/-- Where a code asks for the character ahead of the end, there is one. -/
theorem numB_18 (k base : Nat) (l : List UInt8) (h : (G6.numB k base l).2.1 = 0) (hk : 0 < k) : (18 : Int) ∉ (G6.numB k base l).2.2 := by
  unfold G6.numB at h ⊢
  split
  · simp
  · next h0 =>
    rw [if_neg h0] at h
    split at h
    · simp at h
    · dsimp only at h
      omega
theorem refP_18 (L : List G6.Rf) (attr : Bool) (l : List UInt8) (h : (G6.refP L attr l).2.1 = 0) : (18 : Int) ∉ (G6.refP L attr l).2.2 := by
  unfold G6.refP at h ⊢
  split
  · next h1 =>
    rw [if_pos h1] at h
    unfold G6.numbP at h ⊢
    split
    · next h2 => rw [if_pos h2] at h; exact numB_18 _ _ _ h (by decide)
    · next h2 => rw [if_neg h2] at h; exact numB_18 _ _ _ h (by decide)
  · next h1 =>
    rw [if_neg h1] at h
    split
    · next h2 =>
      rw [if_pos h2] at h
      unfold G6.namedP at h ⊢
      split
      · split <;> simp
      · next h3 =>
        rw [if_neg h3] at h
        split
        · simp
        · next h4 =>
          rw [if_neg h4] at h
          split
          · simp
          · next h5 =>
            rw [if_neg h5] at h
            dsimp only at h
            omega
    · simp
end Go.Proofs.Ytkbakbacomidbaa
namespace Go.Proofs.Ytkbakbacomidbaa
open Go.RowKit
def Mc.left (m : Mc) : List Ch := m.ref.drop (if m.oneR.2.1 = 0 then 1 else m.oneR.2.1)
end Go.Proofs.Ytkbakbacomidbaa
namespace Go.Proofs.Ytkbakbacomidbaa
open Go.RowKit
/-- One more in the open reference. -/
def Mc.more (m : Mc) (c : Ch) : Mc := { m with ref := m.ref ++ [c] }
end Go.Proofs.Ytkbakbacomidbaa
namespace Go.Proofs.Ytkbakbacomidbaa
open Go.RowKit
/-- The machine with the faults of the first i codes told. -/
def Mc.fl (m : Mc) (i : Nat) : Mc := { m with ref := [], fs := m.fs ++ Mc.refFaults m.ref m.oneR.2.1 (m.oneR.2.2.take i) }
end Go.Proofs.Ytkbakbacomidbaa
namespace Go.Proofs.Ytkbakbacomidbaa
open Go.RowKit
end Go.Proofs.Ytkbakbacomidbaa
namespace Go.Proofs.Ytkbakbacomidbaa
open Go.RowKit
theorem tk_cell : ∀ (T : List TL) (i j : Nat) (t : TL), T[i]? = some t → j < 8 → (T.flatMap tkCells)[i * 8 + j]? = t.1.arr[j]?
  | [], i, j, t, h, _ => by simp at h
  | y :: T, 0, j, t, h, hj => by
    simp at h
    subst h
    rw [List.flatMap_cons, List.getElem?_append_left (by rw [tk_len]; omega)]
    simp [tkCells]
  | y :: T, i + 1, j, t, h, hj => by
    rw [List.flatMap_cons, List.getElem?_append_right (by rw [tk_len]; omega), tk_len, show (i + 1) * 8 + j - 8 = i * 8 + j by omega]
    exact tk_cell T i j t (by simpa using h) hj
/-- A row of tokens that lies in memory, each one's attributes in a block of attributes. -/
def TkRowS (Z : Nat → Prop) (w : World) (ao : Option Addr) (T : List TL) : Prop := G9.TkRow w ao T ∧ ∀ t ∈ T, TkS Z w t.1 t.2
theorem TkRowS.nil {Z : Nat → Prop} (w : World) (ao : Option Addr) : TkRowS Z w ao [] := ⟨G9.TkRow.nil _ _, fun t h => by cases h⟩
theorem own_row {Z : Nat → Prop} {w : World} {g : Nat} {cur : Array Value} {z : Nat × Nat} {T : List TL} (hg : w.heap[g]? = some (.cells cur 39 z)) (h4 : cur.toList.take (T.length * 8) = T.flatMap tkCells) (hk : ∀ t ∈ T, TkS Z w t.1 t.2) : TkRowS Z w (some ⟨g, 0, none⟩) T := by
  refine ⟨fun i t ht => ⟨⟨g, 0, rfl, (Array.getElem?_eq_some_iff.1 hg).1, fun j u hj => ?_⟩, (hk t (List.mem_of_getElem? ht)).1⟩, hk⟩
  have hi := (List.getElem?_eq_some_iff.1 ht).1
  have hj8 : j < 8 := by
    have := (Array.getElem?_eq_some_iff.1 hj).1
    simpa using this
  have q := tk_cell T i j t ht hj8
  rw [hj, ← h4, List.getElem?_take_of_lt (by omega), Array.getElem?_toList] at q
  simp [World.cell?, hg, q]
end Go.Proofs.Ytkbakbacomidbaa
namespace Go.Proofs.Ytkbakbacomidbaa
open Go.RowKit
theorem fl_one (fs : List (Int × Int)) : ∀ u ∈ fs.flatMap gcells, u.oneCell' = true := fun u hu => by
  rw [List.mem_flatMap] at hu
  obtain ⟨x, _, hu⟩ := hu
  simp only [gcells, G4.gcells, List.mem_cons, List.not_mem_nil, or_false] at hu
  rcases hu with rfl | rfl <;> rfl
end Go.Proofs.Ytkbakbacomidbaa
namespace Go.Proofs.Ytkbakbacomidbaa
open Go.RowKit
/-- Tokens of a row behind a row of one's own. -/
theorem out_app {Z : Nat → Prop} {W : World} {ov : Value} {T T' : List TL} (ho : Rw.own W (rwT ov T)) (ao : Option Addr) (c : Nat) (hr : TkRowS Z W ao T') (hn : T.length + T'.length ≤ 1000000000000) :
    ∃ ov' W', (Builtin.append_ #[22, 22] 22 #[ov, .slice ao T'.length c]).run Try.prog W = .ok ov' W' ∧ Rw.own W' (rwT ov' (T ++ T')) ∧ W.grownBy W' ov.ownBlock ∧ (ov'.ownBlock = ov.ownBlock ∨ ov'.ownBlock = some W.heap.size) ∧ (T' = [] → ov' = ov ∧ W' = W) := by
  obtain ⟨i0, hi, hz0, hz1, hz2⟩ := info_parts info45
  by_cases h0 : T' = []
  · subst h0
    obtain ⟨bo, cap, e, hc, _⟩ := own_form ho
    simp only at e hc
    have hs : Src Try.prog i0.size 22 (.slice ao 0 c) 0 [] W := by
      cases ao with
      | none => exact Src.ofNil W Try.underlying22 c
      | some a => exact Src.ofSlice W Try.underlying22 a 0 c [] (by simp) (by simp) (by simp)
    have hrun := run_append_nothing (P := Try.prog) W 22 22 22 39 i0 Try.underlying22 hi bo T.length cap hc _ hs
    rw [← e] at hrun
    exact ⟨ov, W, hrun, by rw [List.append_nil]; exact ho, ⟨rfl, rfl, rfl, Nat.le_refl _, fun _ _ _ => rfl⟩, .inl rfl, fun _ => ⟨rfl, rfl⟩⟩
  · obtain ⟨y, hy⟩ : ∃ y, T'[0]? = some y := by
      cases T' with
      | nil => exact absurd rfl h0
      | cons y T' => exact ⟨y, rfl⟩
    obtain ⟨⟨b, off, rfl, _, _⟩, _⟩ := hr.1 0 y hy
    have hlen : (T'.flatMap tkCells).length = T'.length * 8 := by
      clear hy h0 hr hn
      induction T' with
      | nil => rfl
      | cons z l ih => rw [List.flatMap_cons, List.length_append, ih, tk_len, List.length_cons]; omega
    obtain ⟨ov', W', hrun, q1, q2, q3⟩ := row_app Try.underlying22 info45 rfl (by decide) (by decide) ho b off T'.length c (T'.flatMap tkCells) hlen (fun j u hj => by
      have hjl := (List.getElem?_eq_some_iff.1 hj).1
      rw [hlen] at hjl
      obtain ⟨t, ht⟩ : ∃ t, T'[j / 8]? = some t := ⟨_, List.getElem?_eq_getElem (by omega)⟩
      have hc := tk_cell T' (j / 8) (j % 8) t ht (by omega)
      rw [show j / 8 * 8 + j % 8 = j by omega, hj] at hc
      obtain ⟨⟨b', off', e, _, hcell⟩, _⟩ := hr.1 (j / 8) t ht
      cases e
      have := hcell (j % 8) u hc.symm
      rw [show off + j = off + j / 8 * 8 + j % 8 by omega]
      exact this) (fun u hu => by
      rw [List.mem_flatMap] at hu
      obtain ⟨t, _, hu⟩ := hu
      exact tk_one t u hu) (by simp only; omega)
    refine ⟨ov', W', hrun, ?_, q2, q3, fun e => absurd e h0⟩
    show OwnQ W' false 39 8 ov' (T ++ T').length ((T ++ T').flatMap tkCells)
    rw [List.length_append, List.flatMap_append]
    exact q1
end Go.Proofs.Ytkbakbacomidbaa
