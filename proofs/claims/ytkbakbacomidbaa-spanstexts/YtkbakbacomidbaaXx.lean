/- The scanner's tokens: their spans rise within the text. -/
import Derived.Test.YtkbakbacomidbaaYx
namespace Go.Proofs.Ytkbakbacomidbaa.Sp
open Go.RowKit
/-- Tokens whose spans rise from lo to hi; each has a class. -/
def Rise : Int → List Pt → Int → Prop
  | lo, [], hi => lo ≤ hi
  | lo, t :: L, hi => lo ≤ t.f ∧ t.f < t.t ∧ (1 ≤ t.k ∧ t.k ≤ 5) ∧ Rise t.t L hi
/-- Characters whose spans rise from lo to hi. -/
def CRise : Int → List Ch → Int → Prop
  | lo, [], hi => lo ≤ hi
  | lo, c :: l, hi => lo ≤ c.a ∧ c.a < c.z ∧ CRise c.z l hi
theorem CRise.le : ∀ {l : List Ch} {lo hi : Int}, CRise lo l hi → lo ≤ hi
  | [], _, _, h => h
  | c :: l, lo, hi, h => by have := CRise.le h.2.2; have := h.1; have := h.2.1; omega
theorem Rise.app : ∀ {L M : List Pt} {lo mid hi : Int}, Rise lo L mid → Rise mid M hi → Rise lo (L ++ M) hi
  | [], [], lo, mid, hi, h, k => (show lo ≤ hi from by have h1 : lo ≤ mid := h; have h2 : mid ≤ hi := k; omega)
  | [], t :: M, lo, mid, hi, h, k => ⟨by have := k.1; unfold Rise at h; omega, k.2.1, k.2.2.1, k.2.2.2⟩
  | t :: L, M, lo, mid, hi, h, k => ⟨h.1, h.2.1, h.2.2.1, Rise.app h.2.2.2 k⟩
theorem CRise.low : ∀ {l : List Ch} {lo lo' hi : Int}, CRise lo l hi → lo' ≤ lo → CRise lo' l hi
  | [], lo, lo', hi, h, k => by unfold CRise at h ⊢; omega
  | c :: l, lo, lo', hi, h, k => ⟨by have := h.1; omega, h.2⟩
theorem CRise.toks (s : Bool) : ∀ {l : List Ch} {lo hi : Int}, CRise lo l hi → Rise lo (l.map (chT s)) hi
  | [], _, _, h => h
  | c :: l, lo, hi, h => ⟨h.1, h.2.1, by simp [chT], CRise.toks s h.2.2⟩
/-- Up to a character: its end. -/
theorem CRise.cut : ∀ (p : List Ch) (c : Ch) {r : List Ch} {lo hi : Int}, CRise lo (c :: p ++ r) hi → ∃ z, ((c :: p).getLast?).map (·.z) = some z ∧ CRise lo (c :: p) z ∧ lo ≤ c.a ∧ c.a < z ∧ CRise z r hi
  | [], c, r, lo, hi, h => ⟨c.z, rfl, ⟨h.1, h.2.1, Int.le_refl _⟩, h.1, h.2.1, h.2.2⟩
  | d :: p, c, r, lo, hi, h => by
    obtain ⟨z, h1, h2, h3, h4, h5⟩ := CRise.cut p d h.2.2
    have e1 := h.2.1
    exact ⟨z, by rw [List.getLast?_cons_cons]; exact h1, ⟨h.1, h.2.1, h2⟩, h.1, by omega, h5⟩
/-- What is told of what was read: nothing, one token over all of it, or its characters. -/
def Frm (F : List Ch) (p : List Pt × Sc × List Ch) : Prop := p.1 = [] ∨ (∃ x, p.1 = [x] ∧ x.f = Mc.frAt F ∧ x.t = endZ F p.2.2 ∧ 1 ≤ x.k ∧ x.k ≤ 5) ∨ p.1 = toldR F p.2.2
theorem frm_rise {c : Ch} {t : List Ch} {p : List Pt × Sc × List Ch} {lo N : Int} (h : Frm (c :: t) p) (hs : p.2.2 <:+ t) (hr : CRise lo (c :: t) N) : ∃ mid, Rise lo p.1 mid ∧ CRise mid p.2.2 N := by
  obtain ⟨T, sc, r⟩ := p
  simp only [Frm] at h hs ⊢
  obtain ⟨q, rfl⟩ := hs
  obtain ⟨z, h1, h2, h3, h4, h5⟩ := CRise.cut q c (r := r) hr
  rcases h with h | ⟨x, h, e1, e2, e3, e4⟩ | h
  · refine ⟨lo, by rw [h]; exact Int.le_refl _, h5.low (by omega)⟩
  · have ez : x.t = z := by
      rw [e2]
      unfold endZ Mc.toAt
      rw [show (c :: (q ++ r)).length - r.length - 1 = q.length by simp; omega, show c :: (q ++ r) = (c :: q) ++ r from rfl, List.getElem?_append_left (by simp)]
      rw [List.getLast?_eq_getElem?, List.length_cons, Nat.add_sub_cancel] at h1
      cases hc : (c :: q)[q.length]? with
      | none => rw [hc] at h1; simp at h1
      | some d => rw [hc] at h1; simpa using h1
    have ef : x.f = c.a := e1
    refine ⟨z, ?_, h5⟩
    rw [h]
    exact ⟨by omega, by omega, ⟨e3, e4⟩, by show x.t ≤ z; omega⟩
  · refine ⟨z, ?_, h5⟩
    rw [h]
    unfold toldR
    rw [show (c :: (q ++ r)).length - r.length = (c :: q).length by simp; omega, show c :: (q ++ r) = (c :: q) ++ r from rfl, List.take_left]
    exact h2.toks false
theorem frm_done (F : List Ch) {kind : Int} (hk : kind = 2 ∨ kind = 3) (nm : List UInt8) (sc : Sc) (A : List At) (sf : Bool) (fs : Fs) (t : List Ch) : Frm F (doneR F kind nm sc A sf fs t) := by
  unfold doneR
  split
  · exact .inr (.inl ⟨_, rfl, rfl, rfl, (by decide : (1 : Int) ≤ 2), (by decide : (2 : Int) ≤ 5)⟩)
  · exact .inr (.inl ⟨_, rfl, rfl, rfl, by show 1 ≤ kind; omega, by show kind ≤ 5; omega⟩)
theorem frm_tagE (F : List Ch) {kind : Int} (hk : kind = 2 ∨ kind = 3) (nm : List UInt8) (sc : Sc) (p : Option (List At × Bool) × Fs × List Ch) : Frm F (tagE F kind nm sc p) := by
  unfold tagE
  split
  · exact .inl rfl
  · exact frm_done F hk _ _ _ _ _ _
theorem frm_tag (N : Int) (F : List Ch) {kind : Int} (hk : kind = 2 ∨ kind = 3) (sc : Sc) (r : List Ch) : Frm F (tagR N F kind sc r) := frm_tagE F hk _ _ _
theorem frm_com {F : List Ch} {s : List UInt8} {r : List Ch} (sc : Sc) : Frm F (comT F s r, sc, r) := .inr (.inl ⟨_, rfl, rfl, rfl, (by decide : (1 : Int) ≤ 4), (by decide : (4 : Int) ≤ 5)⟩)
theorem frm_bogus (F : List Ch) (sc : Sc) (r : List Ch) : Frm F (bogusR F sc r) := frm_com _
theorem frm_comR (N : Int) (F : List Ch) (sc : Sc) : ∀ (r : List Ch) (s : List UInt8), Frm F (comR N F sc s r)
  | [], s => by unfold comR; exact frm_com _
  | c :: t, s => by
    unfold comR
    split
    · exact frm_com _
    · split
      · exact frm_com _
      · exact frm_comR N F sc t _
theorem frm_text (N : Int) (F : List Ch) (sc : Sc) (r : List Ch) : Frm F (textR N F sc r) := by
  unfold textR
  split
  · exact frm_com _
  · split
    · exact frm_com _
    · exact frm_comR N F sc r _
theorem frm_doc (N : Int) (F : List Ch) (sc : Sc) (r : List Ch) : Frm F (docR N F sc r) := .inr (.inl ⟨_, rfl, rfl, rfl, (by decide : (1 : Int) ≤ 5), (by decide : (5 : Int) ≤ 5)⟩)
theorem frm_markup (N : Int) (fo : Bool) (F : List Ch) (sc : Sc) (r : List Ch) : Frm F (markupR N fo F sc r) := by
  unfold markupR
  split
  · exact frm_text _ _ _ _
  · split
    · exact frm_doc _ _ _ _
    · split
      · split
        · exact .inl rfl
        · exact frm_bogus _ _ _
      · exact frm_bogus _ _ _
theorem frm_endOpen (N : Int) (F : List Ch) (sc : Sc) (r : List Ch) : Frm F (endOpenR N F sc r) := by
  unfold endOpenR
  split
  · exact frm_tag _ _ (.inr rfl) _ _
  · split
    · exact .inl rfl
    · split
      · exact .inr (.inr rfl)
      · exact frm_bogus _ _ _
theorem frm_open (N : Int) (fo : Bool) (F : List Ch) (sc : Sc) (r : List Ch) : Frm F (openR N fo F sc r) := by
  unfold openR
  split
  · exact frm_markup _ _ _ _ _
  · split
    · exact frm_endOpen _ _ _ _
    · split
      · exact frm_tag _ _ (.inl rfl) _ _
      · split
        · exact frm_bogus _ _ _
        · exact .inr (.inr rfl)
theorem frm_raw (N : Int) (F : List Ch) (sc : Sc) (r : List Ch) : Frm F (rawR N F sc r) := by
  unfold rawR
  split
  · dsimp only
    split
    · exact frm_tag _ _ (.inr rfl) _ _
    · exact .inr (.inr rfl)
  · exact .inr (.inr rfl)
theorem frm_next (N : Int) (fo : Bool) (sc : Sc) (c : Ch) (t : List Ch) : Frm (c :: t) (nextR N fo sc (c :: t)) := by
  unfold nextR
  split
  · unfold cdR
    split
    · exact .inl rfl
    · exact .inr (.inr rfl)
  · split
    · split
      · exact .inr (.inr rfl)
      · next h => exact .inr (.inl ⟨_, rfl, rfl, (endZ_drop (List.suffix_refl _) h (refR_len false _)).symm, (by decide : (1 : Int) ≤ 1), (by decide : (1 : Int) ≤ 5)⟩)
    · split
      · exact frm_open _ _ _ _ _
      · split
        · exact frm_raw _ _ _ _
        · exact .inr (.inr rfl)
theorem refT_rise (auto fo : Bool) (N : Int) : ∀ (n : Nat) (sc : Sc) (r : List Ch) (lo : Int), (∀ d ∈ r, 0 ≤ d.r) → CRise lo r N → ∃ L, Rise lo L N ∧ ((refT auto fo N n sc r).1 = L ∨ (refT auto fo N n sc r).1 = L ++ [eofP6 N])
  | 0, sc, r, lo, _, h => ⟨[], h.le, .inl rfl⟩
  | n + 1, sc, [], lo, _, h => ⟨[], h.le, .inr rfl⟩
  | n + 1, sc, c :: t, lo, hp, h => by
    have hs := nextR_suf (N := N) (fo := fo) (sc := sc) (c := c) (t := t) fun d hd => hp d (by simp [hd])
    obtain ⟨mid, h1, h2⟩ := frm_rise (frm_next N fo sc c t) hs h
    obtain ⟨L, h3, h4⟩ := refT_rise auto fo N n (autoSc auto (nextR N fo sc (c :: t)).1 (nextR N fo sc (c :: t)).2.1) (nextR N fo sc (c :: t)).2.2 mid (suf_pos hs fun d hd => hp d (by simp [hd])) h2
    refine ⟨(nextR N fo sc (c :: t)).1 ++ L, h1.app h3, ?_⟩
    rw [refT, if_neg (by simp)]
    rcases h4 with h4 | h4
    · left
      rw [h4]
    · right
      rw [h4, List.append_assoc]
theorem chs_rise : ∀ (I : List (Int × Nat)) (p : Int), (∀ x ∈ I, 1 ≤ x.2) → CRise p (G4.chs p I) (p + (G4.tot I : Nat))
  | [], p, _ => by show p ≤ p + ((0 : Nat) : Int); omega
  | (r, n) :: I, p, h => by
    have h1 : 1 ≤ n := h (r, n) (by simp)
    have ih := chs_rise I (p + (n : Int)) fun x hx => h x (by simp [hx])
    refine ⟨Int.le_refl _, by show p < p + (n : Int); omega, ?_⟩
    rw [G4.tot_cons]
    have e : p + (n : Int) + (G4.tot I : Nat) = p + ((n + G4.tot I : Nat) : Int) := by omega
    rw [← e]
    exact ih
theorem rfs_rise : ∀ (l : List Ch) (lo hi : Int), CRise lo l hi → CRise lo (G4.rfs l) hi
  | [], _, _, h => h
  | [c], _, _, h => h
  | c :: d :: l, lo, hi, h => by
    unfold G4.rfs
    split
    · have h1 := h.2.1
      have h2 := h.2.2.1
      have h3 := h.2.2.2.1
      exact ⟨h.1, by show c.a < d.z; omega, rfs_rise l d.z hi h.2.2.2.2⟩
    · exact ⟨h.1, h.2.1, rfs_rise (d :: l) c.z hi h.2.2⟩
theorem chars_rise (s : ByteArray) : CRise 0 (chars s) s.size := by
  have h := rfs_rise _ _ _ (chs_rise (G4.items s.data.toList) 0 (G4.items_pos _))
  rw [chars_tot, show s.data.toList.length = s.size from Array.length_toList, Int.zero_add] at h
  exact h
/-- The tokens of a text, by Data. -/
theorem toks_rise (s : ByteArray) : ∃ L, Rise 0 L s.size ∧ (toksOf s = L ∨ toksOf s = L ++ [eofP6 s.size]) :=
  refT_rise true false s.size _ _ _ 0 (chars_ends s).1 (chars_rise s)
end Go.Proofs.Ytkbakbacomidbaa.Sp
namespace Go.Proofs.Ytkbakbacomidbaa.Sp
open Go.RowKit
def hit (C : List Pc) (a : Int) : Bool := C.any fun p => decide (p.f ≤ a ∧ a < p.t)
theorem at_app (D : List Pc) (a : Int) : ∀ C : List Pc, atP (C ++ D) a = if hit C a = true then atP C a else atP D a
  | [] => by simp [hit]
  | p :: C => by
    rw [List.cons_append, atP, atP, at_app D a C]
    by_cases h : p.f ≤ a ∧ a < p.t
    · rw [if_pos h, if_pos h, if_pos (by simp [hit, h])]
    · rw [if_neg h, if_neg h]
      have e : hit (p :: C) a = hit C a := by unfold hit; rw [List.any_cons, decide_eq_false h, Bool.false_or]
      rw [e]
theorem at_no (a : Int) : ∀ C : List Pc, hit C a = false → atP C a = 0
  | [], _ => rfl
  | p :: C, h => by
    unfold hit at h
    rw [List.any_cons, Bool.or_eq_false_iff] at h
    rw [atP, if_neg (of_decide_eq_false h.1)]
    exact at_no a C h.2
theorem fine_le : ∀ (C : List Pc) (b s e z : Int), Fine C b s e z → b ≤ e
  | [], b, s, e, z, h => by have := h.1; omega
  | p :: C, b, s, e, z, h => by
    have h1 := h.1
    have h2 := h.2.1
    have h3 := fine_le C _ _ e z h.2.2.2.2.2
    omega
theorem fine_hit (a : Int) : ∀ (C : List Pc) (b s e z : Int), Fine C b s e z → b ≤ a → hit C a = decide (a < e)
  | [], b, s, e, z, h, hb => by
    have h1 := h.1
    symm
    exact decide_eq_false (by omega)
  | p :: C, b, s, e, z, h, hb => by
    have h1 := h.1
    have h2 := h.2.1
    have h3 := fine_le C _ _ e z h.2.2.2.2.2
    unfold hit
    rw [List.any_cons]
    by_cases hp : a < p.t
    · rw [decide_eq_true (⟨by omega, hp⟩ : p.f ≤ a ∧ a < p.t), Bool.true_or]
      symm
      exact decide_eq_true (by omega)
    · rw [decide_eq_false (fun k : p.f ≤ a ∧ a < p.t => hp k.2), Bool.false_or]
      exact fine_hit a C _ _ e z h.2.2.2.2.2 (by omega)
theorem fineL_hit {C : List Pc} (h : FineL C) {a : Int} (ha : 0 ≤ a) : hit C a = decide (a < ends C) := by
  obtain ⟨z, hz⟩ := h
  exact fine_hit a C _ _ _ z hz ha
theorem fineL_ge {C : List Pc} (h : FineL C) : 0 ≤ ends C := by
  obtain ⟨z, hz⟩ := h
  exact fine_le C _ _ _ z hz
theorem at_snoc {C : List Pc} (h : FineL C) (p : Pc) {a : Int} (ha : 0 ≤ a) : atP (C ++ [p]) a = if a < ends C then atP C a else if p.f ≤ a ∧ a < p.t then p.c else 0 := by
  rw [at_app, fineL_hit h ha]
  by_cases k : a < ends C
  · rw [if_pos (decide_eq_true k), if_pos k]
  · rw [if_neg (by rw [decide_eq_false k]; simp), if_neg k]
    rfl
theorem at_fill {C : List Pc} (h : FineL C) (z : Int) {a : Int} (ha : 0 ≤ a) : atP (fillP C z) a = if a < ends C then atP C a else if a < z then 2 else 0 := by
  unfold fillP
  split
  · next hz =>
    by_cases k : a < ends C
    · rw [if_pos k]
    · rw [if_neg k, if_neg (by omega)]
      exact at_no a C (by rw [fineL_hit h ha]; exact decide_eq_false k)
  · next hz =>
    rw [at_snoc h _ ha]
    by_cases k : a < ends C
    · rw [if_pos k, if_pos k]
    · rw [if_neg k, if_neg k]
      by_cases k2 : a < z
      · rw [if_pos k2, if_pos ⟨by simp only; omega, k2⟩]
      · rw [if_neg k2, if_neg (fun k3 => k2 k3.2)]
theorem fine_mem : ∀ (C : List Pc) (b s e z : Int), Fine C b s e z → ∀ q ∈ C, q.f < q.t
  | [], _, _, _, _, _, q, hq => by simp at hq
  | p :: C, b, s, e, z, h, q, hq => by
    rcases List.mem_cons.1 hq with rfl | hq
    · exact h.2.1
    · exact fine_mem C _ _ e z h.2.2.2.2.2 q hq
theorem at_put {C : List Pc} (h : FineL C) {p : Pc} (h1 : p.f = ends C) (h2 : p.f < p.t) {a : Int} (ha : 0 ≤ a) : atP (putP C p) a = if a < ends C then atP C a else if a < p.t then p.c else 0 := by
  have hs : (if a < ends C then atP C a else if p.f ≤ a ∧ a < p.t then p.c else 0) = if a < ends C then atP C a else if a < p.t then p.c else 0 := by
    by_cases k : a < ends C
    · rw [if_pos k, if_pos k]
    · rw [if_neg k, if_neg k]
      by_cases k2 : a < p.t
      · rw [if_pos k2, if_pos ⟨by omega, k2⟩]
      · rw [if_neg k2, if_neg (fun k3 => k2 k3.2)]
  rw [← hs]
  unfold putP
  split
  · next q hq =>
    split
    · next hc =>
      have hL : C = C.dropLast ++ [q] := by
        have hne : C ≠ [] := by rintro rfl; simp at hq
        have := List.dropLast_concat_getLast hne
        rw [List.getLast?_eq_some_getLast hne] at hq
        rw [Option.some.inj hq] at this
        exact this.symm
      obtain ⟨z, hz⟩ := h
      have he : q.t = ends C := ((fine_last C 0 0 _ z hz).1 q hq).1
      have hsn := at_snoc ⟨z, hz⟩ p ha
      rw [← hsn]
      obtain ⟨D, hD⟩ : ∃ D, C.dropLast = D := ⟨_, rfl⟩
      rw [hD] at hL ⊢
      rw [show C ++ [p] = D ++ [q, p] by rw [hL]; simp, at_app, at_app]
      by_cases k : hit D a = true
      · rw [if_pos k, if_pos k]
      · rw [if_neg k, if_neg k]
        simp only [atP]
        have hc1 := hc.1
        have hc2 := hc.2
        by_cases k1 : q.f ≤ a ∧ a < p.t
        · rw [if_pos k1]
          by_cases k2 : q.f ≤ a ∧ a < q.t
          · rw [if_pos k2]
          · rw [if_neg k2, if_pos ⟨by omega, k1.2⟩]
            omega
        · rw [if_neg k1]
          by_cases k2 : q.f ≤ a ∧ a < q.t
          · omega
          · rw [if_neg k2]
            by_cases k3 : p.f ≤ a ∧ a < p.t
            · exfalso
              apply k1
              refine ⟨?_, k3.2⟩
              have hqf : q.f < q.t := by
                have hm : q ∈ C := List.mem_of_getLast? hq
                exact fine_mem C 0 0 _ z hz q hm
              omega
            · rw [if_neg k3]
    · exact at_snoc h p ha
  · next hq => exact at_snoc h p ha
/-- What the law wants of a byte. -/
def want1 (a : Int) (v : Int) (x : Sn) : Int := if x.f ≤ a ∧ a < x.t then (if x.k = 1 then (if x.s = true then 5 else 1) else if x.k = 4 then 3 else if x.k = 5 then 4 else v) else v
theorem want_cls (x : Sn) (h1 : 1 ≤ x.k) (h2 : x.k ≤ 5) : (if x.k = 1 then (if x.s = true then 5 else 1) else if x.k = 4 then 3 else if x.k = 5 then 4 else 2 : Int) = clsP x.k x.s := by
  unfold clsP
  by_cases e1 : x.k = 1
  · rw [if_pos e1, if_pos e1]
  · rw [if_neg e1, if_neg e1]
    by_cases e2 : x.k = 2
    · rw [if_pos e2, if_neg (by omega), if_neg (by omega)]
    · rw [if_neg e2]
      by_cases e3 : x.k = 3
      · rw [if_pos e3, if_neg (by omega), if_neg (by omega)]
      · rw [if_neg e3]
        by_cases e4 : x.k = 4
        · rw [if_pos e4, if_pos e4]
        · rw [if_neg e4, if_neg e4, if_pos (by omega), if_pos (by omega)]
theorem cls_pos {x : Sn} (h1 : 1 ≤ x.k) (h2 : x.k ≤ 5) : clsP x.k x.s ≠ 0 := by
  rw [← want_cls x h1 h2]
  repeat' split
  all_goals omega
/-- Up to here: what is covered has its class, what is not is as it was at first. -/
def Right (a : Int) (C : List Pc) (v : Int) : Prop := FineL C ∧ v = if a < ends C then atP C a else 2
theorem right_one {a n lo : Int} (ha : 0 ≤ a) {C : List Pc} {v : Int} (h : Right a C v) (x : Sn) (he : ends C ≤ lo) (h1 : lo ≤ x.f) (h2 : x.f < x.t) (h3 : x.t ≤ n) (h4 : 1 ≤ x.k ∧ x.k ≤ 5) : Right a (cov1 n C x) (want1 a v x) ∧ ends (cov1 n C x) = x.t := by
  obtain ⟨hf, hv⟩ := h
  have hm : max x.f (ends C) = x.f := Int.max_eq_left (by omega)
  have hz : min x.t n = x.t := Int.min_eq_left h3
  have hc : cov1 n C x = putP (fillP C x.f) ⟨x.f, x.t, clsP x.k x.s⟩ := by
    unfold cov1
    rw [hm, hz, if_neg (by rintro (e | e); exact cls_pos h4.1 h4.2 e; omega)]
  have hfe : ends (fillP C x.f) = x.f := ends_fill _ _ (by omega)
  have hff := fineL_fill hf x.f
  have hcl := clsP_le x.k x.s
  have hcp := cls_pos h4.1 h4.2 (x := x)
  rw [hc]
  refine ⟨⟨fineL_put hff _ hfe.symm h2 (by show 1 ≤ clsP x.k x.s; omega) hcl.2, ?_⟩, ends_put _ _⟩
  rw [ends_put, at_put hff (p := ⟨x.f, x.t, clsP x.k x.s⟩) hfe.symm h2 ha, hfe, at_fill hf _ ha]
  simp only
  unfold want1
  by_cases k1 : a < x.f
  · rw [if_neg (by omega), if_pos (by omega), if_pos k1, hv]
    by_cases k2 : a < ends C
    · rw [if_pos k2, if_pos k2]
    · rw [if_neg k2, if_neg k2, if_pos k1]
  · have hv2 : v = 2 := by rw [hv, if_neg (by omega)]
    by_cases k2 : a < x.t
    · rw [if_pos ⟨by omega, k2⟩, if_pos k2, if_neg k1, if_pos k2, hv2, want_cls x h4.1 h4.2]
    · rw [if_neg (by omega), if_neg k2, hv2]
theorem right_all {a n : Int} (ha : 0 ≤ a) : ∀ (L : List Pt) (lo hi : Int) (C : List Pc) (v : Int), Rise lo L hi → hi ≤ n → ends C ≤ lo → Right a C v → Right a ((L.map snP).foldl (cov1 n) C) ((L.map snP).foldl (want1 a) v)
  | [], _, _, _, _, _, _, _, h => h
  | x :: L, lo, hi, C, v, hr, hn, he, h => by
    have hle : ∀ (M : List Pt) (b c : Int), Rise b M c → b ≤ c := by
      intro M
      induction M with
      | nil => intro b c hh; exact hh
      | cons y M ih => intro b c hh; have := ih _ _ hh.2.2.2; have := hh.1; have := hh.2.1; omega
    have h5 := hle _ _ _ hr.2.2.2
    obtain ⟨h1, h2⟩ := right_one (n := n) ha h (snP x) he hr.1 hr.2.1 (by show x.t ≤ n; omega) hr.2.2.1
    exact right_all ha L x.t hi _ _ hr.2.2.2 hn (by rw [h2]; exact Int.le_refl _) h1
/-- Each byte of a text has the class of the token that has it. -/
theorem texts_at (s : ByteArray) (a : Int) (ha : 0 ≤ a) (hn : a < s.size) : atP (coverP ((toksOf s).map snP) s.size) a = ((toksOf s).map snP).foldl (want1 a) 2 := by
  obtain ⟨L, hL, hT⟩ := toks_rise s
  have hR := right_all ha L 0 s.size [] 2 hL (Int.le_refl _) (Int.le_refl _) ⟨fineL_nil, by rw [if_neg (by show ¬ a < 0; omega)]⟩
  have key : ∀ C v, Right a C v → atP (fillP C s.size) a = v := fun C v h => by
    rw [at_fill h.1 _ ha, h.2]
    by_cases k : a < ends C
    · rw [if_pos k, if_pos k]
    · rw [if_neg k, if_neg k, if_pos hn]
  have h6 : ∀ C v, cov1 s.size C (snP (eofP6 s.size)) = C ∧ want1 a v (snP (eofP6 s.size)) = v := fun C v => by
    constructor
    · unfold cov1
      rw [if_pos (.inl rfl)]
    · unfold want1
      rw [if_neg (by show ¬ ((s.size : Int) ≤ a ∧ a < s.size); omega)]
  unfold coverP
  rcases hT with hT | hT
  · rw [hT]
    exact key _ _ hR
  · rw [hT, List.map_append, List.foldl_append, List.foldl_append, List.map_cons, List.map_nil, List.foldl_cons, List.foldl_cons, List.foldl_nil, List.foldl_nil, (h6 _ 0).1, (h6 [] _).2]
    exact key _ _ hR
theorem rise_len : ∀ (L : List Pt) (lo hi : Int), Rise lo L hi → lo + (L.length : Int) ≤ hi
  | [], lo, hi, h => by have h1 : lo ≤ hi := h; simp only [List.length_nil]; omega
  | x :: L, lo, hi, h => by
    have h1 := h.1
    have h2 := h.2.1
    have h3 := rise_len L _ _ h.2.2.2
    rw [List.length_cons]
    omega
theorem toks_len (s : ByteArray) : (toksOf s).length ≤ s.size + 1 := by
  obtain ⟨L, hL, hT⟩ := toks_rise s
  have := rise_len L _ _ hL
  rcases hT with hT | hT
  · rw [hT]; omega
  · rw [hT, List.length_append, List.length_singleton]; omega
end Go.Proofs.Ytkbakbacomidbaa.Sp
