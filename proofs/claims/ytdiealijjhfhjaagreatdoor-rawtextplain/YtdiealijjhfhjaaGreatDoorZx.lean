/- An open reference, pure: which characters it holds, and that what is matched of it is no longer than it. -/
import Derived.Test.YtdiealijjhfhjaaGreatDoorZj
import Derived.Test.YtdiealijjhfhjaaGreatDoorZu
namespace Go.Proofs.YtdiealijjhfhjaaGreatDoor
open Go.RowKit
theorem chr_low {r : Int} (h0 : 0 ≤ r) (h1 : r < 128) : G9.chr r = r := by
  unfold G9.chr G9.mayB
  rw [if_pos (by simp; omega)]
theorem enc_low {r : Int} (h0 : 0 ≤ r) (h1 : r < 128) : enc r = [r.toNat.toUInt8] := by
  unfold enc Lib.encodeRune
  rw [chr_low h0 h1, Lib.encodeRuneZ_one h0 (by omega)]
  rfl
theorem enc_high {r : Int} (h : ¬ (0 ≤ r ∧ r < 128)) : ∃ b t, enc r = b :: t ∧ 128 ≤ b.toNat := by
  have hc : 128 ≤ G9.chr r ∧ G9.chr r ≤ 1114111 ∧ (G9.chr r < 55296 ∨ 57343 < G9.chr r) := by
    unfold G9.chr
    split
    · next hm =>
      unfold G9.mayB at hm
      simp at hm
      omega
    · omega
  unfold enc Lib.encodeRune
  generalize G9.chr r = q at hc
  have key : ∀ x : Int, 128 ≤ x → x < 256 → 128 ≤ (x.toNat.toUInt8).toNat := fun x h1 h2 => by
    have : x.toNat % 256 = x.toNat := Nat.mod_eq_of_lt (by omega)
    simp only [Nat.toUInt8, UInt8.toNat_ofNat']
    omega
  by_cases h2 : q ≤ 2047
  · rw [Lib.encodeRuneZ_two hc.1 h2]
    exact ⟨_, _, rfl, key _ (by omega) (by omega)⟩
  · by_cases h3 : q ≤ 65535
    · rw [Lib.encodeRuneZ_three (by omega)]
      exact ⟨_, _, rfl, key _ (by omega) (by omega)⟩
    · rw [Lib.encodeRuneZ_four (by omega) hc.2.1]
      exact ⟨_, _, rfl, key _ (by omega) (by omega)⟩
def RcOk (c : Ch) : Prop := 0 ≤ c.r ∧ c.r < 128 ∧ c.r ≠ 38
theorem rc_of {c : Ch} (h : ∀ b ∈ enc c.r, b.toNat < 128 ∧ b.toNat ≠ 38) : RcOk c := by
  by_cases hr : 0 ≤ c.r ∧ c.r < 128
  · refine ⟨hr.1, hr.2, fun e => ?_⟩
    have := (h 38 (by rw [e]; decide +kernel)).2
    exact this rfl
  · obtain ⟨b, t, e, hb⟩ := enc_high hr
    have := (h b (by rw [e]; simp)).1
    omega
def RefOk (l : List Ch) : Prop := ∃ c t, l = c :: t ∧ c.r = 38 ∧ ∀ d ∈ t, RcOk d
def RefW (l : List Ch) : Prop := RefOk l ∨ ∃ a c, l = a ++ [c] ∧ RefOk a
theorem RefOk.ne {l : List Ch} (h : RefOk l) : l ≠ [] := by
  obtain ⟨c, t, rfl, _⟩ := h
  simp
theorem RefW.ne {l : List Ch} (h : RefW l) : l ≠ [] := by
  rcases h with h | ⟨a, c, rfl, _⟩
  · exact h.ne
  · simp
theorem names_ok : ∀ x ∈ G6.refs, ∀ b ∈ x.nm, b.toNat < 128 ∧ b.toNat ≠ 38 := by decide +kernel
theorem pre_ok {p : List UInt8} (h : G6.pre G6.refs p = true) : ∀ b ∈ p, b.toNat < 128 ∧ b.toNat ≠ 38 := fun b hb => by
  unfold G6.pre at h
  obtain ⟨x, hx, h2⟩ := List.any_eq_true.1 h
  simp only [Bool.and_eq_true, List.isPrefixOf_iff_prefix] at h2
  exact names_ok x hx b (h2.2.subset hb)
theorem val_ok {p : List UInt8} {v : Int} : ∀ {L : List G6.Rf}, G6.val L p = some v → ∃ x ∈ L, x.nm = p := by
  intro L
  induction L with
  | nil => intro h; cases h
  | cons x L ih =>
    intro h
    unfold G6.val at h
    split at h
    · next h1 => exact ⟨x, by simp, h1.2⟩
    · obtain ⟨y, h1, h2⟩ := ih h
      exact ⟨y, by simp [h1], h2⟩
theorem sureNum_ok (f : Ch) (t : List Ch) (r : Int) (hl : Mc.lastR (f :: t) = r) (h : Mc.sureNum (f :: t) = false) : (48 ≤ r ∧ r ≤ 57) ∨ (97 ≤ r ∧ r ≤ 102) ∨ (65 ≤ r ∧ r ≤ 70) ∨ (t = [] ∧ (f.r = 120 ∨ f.r = 88)) := by
  unfold Mc.sureNum at h
  simp only [hl] at h
  by_cases h1 : 48 ≤ r ∧ r ≤ 57
  · exact .inl h1
  rw [if_neg h1] at h
  by_cases h2 : f.r = 120 ∨ f.r = 88
  · rw [if_neg (not_not_intro h2)] at h
    cases t with
    | nil => exact .inr (.inr (.inr ⟨rfl, h2⟩))
    | cons g t =>
      simp at h
      omega
  · rw [if_pos h2] at h
    cases h
theorem sure_ok {l : List Ch} {c : Ch} (h : RefOk l) (hs : Mc.sure (l ++ [c]) = false) : RefOk (l ++ [c]) := by
  obtain ⟨c0, t, rfl, h0, ht⟩ := h
  refine ⟨c0, t ++ [c], rfl, h0, fun d hd => ?_⟩
  rcases List.mem_append.1 hd with hd | hd
  · exact ht d hd
  rw [List.mem_singleton] at hd
  subst hd
  have key : ∀ q : List Ch, G6.goes G6.refs (encs (q ++ [d])) = true → RcOk d := fun q hg => by
    unfold G6.goes at hg
    rw [Bool.and_eq_true] at hg
    refine rc_of fun b hb => pre_ok hg.2 b ?_
    unfold encs
    rw [List.flatMap_append]
    simp [hb]
  cases t with
  | nil =>
    simp only [List.cons_append, List.nil_append, Mc.sure] at hs
    split at hs
    · next e => exact ⟨by omega, by omega, by omega⟩
    · split at hs
      · cases hs
      · exact key [] (by simpa using hs)
  | cons b t =>
    simp only [List.cons_append, Mc.sure] at hs
    split at hs
    · next e =>
      have hl : Mc.lastR (t ++ [d]) = d.r := by simp [Mc.lastR]
      cases t with
      | nil =>
        rcases sureNum_ok d [] d.r hl hs with h | h | h | ⟨_, h⟩ <;> exact ⟨by omega, by omega, by omega⟩
      | cons f t =>
        rcases sureNum_ok f (t ++ [d]) d.r hl hs with h | h | h | ⟨h, _⟩
        · exact ⟨by omega, by omega, by omega⟩
        · exact ⟨by omega, by omega, by omega⟩
        · exact ⟨by omega, by omega, by omega⟩
        · simp at h
    · split at hs
      · cases hs
      · exact key (b :: t) (by simpa using hs)
def LowTo (k : Nat) (l : List UInt8) : Prop := k ≤ l.length ∧ ∀ b ∈ l.take k, b.toNat < 128
theorem low_take {a l : List UInt8} (h : a <+: l) (ha : ∀ b ∈ a, b.toNat < 128) : LowTo a.length l :=
  ⟨h.length_le, by rw [← List.prefix_iff_eq_take.1 h]; exact ha⟩
theorem lowTo_len {l : List Ch} {k : Nat} (h : RefW l) (hk : LowTo k (encs l)) : k ≤ l.length := by
  have one : ∀ a : List Ch, (∀ d ∈ a, 0 ≤ d.r ∧ d.r < 128) → (encs a).length = a.length := by
    intro a
    induction a with
    | nil => intro _; rfl
    | cons d a ih =>
      intro hd
      have h1 := hd d (by simp)
      have h2 := ih fun e he => hd e (by simp [he])
      show (List.flatMap _ (d :: a)).length = _
      rw [List.flatMap_cons, List.length_append, enc_low h1.1 h1.2]
      have h3 : (List.flatMap (fun c => enc c.r) a).length = a.length := h2
      simp [h3]
      omega
  have lowAll : ∀ a : List Ch, RefOk a → ∀ d ∈ a, 0 ≤ d.r ∧ d.r < 128 := by
    rintro a ⟨c, t, rfl, h0, ht⟩ d hd
    rcases List.mem_cons.1 hd with rfl | hd
    · omega
    · exact ⟨(ht d hd).1, (ht d hd).2.1⟩
  rcases h with h | ⟨a, c, rfl, h⟩
  · rw [← one l (lowAll l h)]
    exact hk.1
  · have ha := one a (lowAll a h)
    have e : encs (a ++ [c]) = encs a ++ enc c.r := by simp [encs]
    rw [e] at hk
    by_cases hc : 0 ≤ c.r ∧ c.r < 128
    · have := hk.1
      rw [enc_low hc.1 hc.2, List.length_append, ha] at this
      simpa using this
    · obtain ⟨b, t, eb, hb⟩ := enc_high hc
      apply Classical.byContradiction
      intro hlt
      simp at hlt
      have : b ∈ (encs a ++ enc c.r).take k := by
        rw [List.take_append, eb]
        obtain ⟨j, hj⟩ : ∃ j, k - (encs a).length = j + 1 := ⟨k - (encs a).length - 1, by omega⟩
        rw [hj]
        simp
      have := hk.2 b this
      omega
theorem dig_low {b : UInt8} {base : Nat} (hb : base ≤ 16) (h : decide (G6.dig b.toNat < base) = true) : b.toNat < 128 := by
  have := of_decide_eq_true h
  unfold G6.dig at this
  split at this
  · omega
  · split at this
    · omega
    · split at this <;> omega
theorem digs_pre (base : Nat) (hb : base ≤ 16) (l : List UInt8) : G6.digs base l <+: l ∧ ∀ b ∈ G6.digs base l, b.toNat < 128 :=
  ⟨List.takeWhile_prefix _, fun b h => dig_low hb (List.all_eq_true.1 (List.all_takeWhile (p := fun b : UInt8 => decide (G6.dig b.toNat < base)) (l := l)) b h)⟩
theorem numB_low {k base : Nat} (hb : base ≤ 16) {l : List UInt8} (hk : k ≤ l.length) (h : ∀ b ∈ l.take k, b.toNat < 128) : LowTo (G6.numB k base l).2.1 l := by
  obtain ⟨p1, p2⟩ := digs_pre base hb (l.drop k)
  have hl : l.take k ++ l.drop k = l := List.take_append_drop k l
  have h0 : l.take k ++ G6.digs base (l.drop k) <+: l := by
    conv => rhs; rw [← hl]
    exact (List.prefix_append_right_inj _).2 p1
  have hlow : ∀ b ∈ l.take k ++ G6.digs base (l.drop k), b.toNat < 128 := fun b hb => by
    rcases List.mem_append.1 hb with hb | hb
    · exact h b hb
    · exact p2 b hb
  have hlen : (l.take k ++ G6.digs base (l.drop k)).length = k + (G6.digs base (l.drop k)).length := by
    rw [List.length_append, List.length_take]
    omega
  unfold G6.numB
  split
  · exact ⟨Nat.zero_le _, fun b hb => by simp at hb⟩
  · split
    · next h59 =>
      obtain ⟨t, ht⟩ := h0
      have hd : l.drop (k + (G6.digs base (l.drop k)).length) = t := by
        rw [← hlen]
        have := congrArg (List.drop (l.take k ++ G6.digs base (l.drop k)).length) ht
        rw [List.drop_left] at this
        exact this.symm
      rw [hd, List.isPrefixOf_iff_prefix] at h59
      have h1 : (l.take k ++ G6.digs base (l.drop k)) ++ [59] <+: l := by
        conv => rhs; rw [← ht]
        exact (List.prefix_append_right_inj _).2 h59
      have := low_take h1 (fun b hb => by
        rcases List.mem_append.1 hb with hb | hb
        · exact hlow b hb
        · simp at hb; subst hb; decide)
      rw [List.length_append, hlen] at this
      exact this
    · have := low_take h0 hlow
      rw [hlen] at this
      exact this
theorem best_low (l : List UInt8) (n : Nat) : ∀ b ∈ l.take (G6.best G6.refs l n).2, b.toNat < 128 := by
  induction n with
  | zero => intro b hb; simp [G6.best] at hb
  | succ n ih =>
    unfold G6.best
    split
    · next r h =>
      intro b hb
      obtain ⟨x, hx, e⟩ := val_ok h
      rw [← e] at hb
      exact (names_ok x hx b hb).1
    · exact ih
theorem refP_low (attr : Bool) (l : List UInt8) : LowTo (G6.refP G6.refs attr l).2.1 l := by
  unfold G6.refP
  split
  · next h =>
    rw [List.isPrefixOf_iff_prefix] at h
    obtain ⟨t, rfl⟩ := h
    unfold G6.numbP
    split
    · next hx =>
      cases t with
      | nil => simp at hx
      | cons y t =>
        simp at hx
        refine numB_low (by decide) (by simp) fun b hb => ?_
        simp at hb
        rcases hb with rfl | rfl | rfl
        · decide
        · decide
        · rcases hx with rfl | rfl <;> decide
    · refine numB_low (by decide) (by simp) fun b hb => ?_
      simp at hb
      rcases hb with rfl | rfl <;> decide
  · split
    · next h =>
      rw [List.isPrefixOf_iff_prefix] at h
      obtain ⟨t, rfl⟩ := h
      have hd : ([38] ++ t).drop 1 = t := rfl
      rw [hd]
      have hlow : LowTo (1 + (G6.best G6.refs t t.length).2) ([38] ++ t) := by
        have := G6.best_le G6.refs t t.length
        refine ⟨by simp; omega, fun b hb => ?_⟩
        rw [Nat.add_comm, List.cons_append, List.nil_append, List.take_succ_cons] at hb
        rcases List.mem_cons.1 hb with rfl | hb
        · decide
        · exact best_low t t.length b hb
      have h0 : LowTo 0 ([38] ++ t) := ⟨Nat.zero_le _, fun b hb => by simp at hb⟩
      unfold G6.namedP
      split
      · split <;> exact h0
      · split
        · exact hlow
        · split
          · exact h0
          · exact hlow
    · exact ⟨Nat.zero_le _, fun b hb => by simp at hb⟩
theorem oneR_len {m : Mc} (h : RefW m.ref) : m.oneR.2.1 ≤ m.ref.length := lowTo_len h (refP_low _ _)
theorem numB_codes (k base : Nat) (l : List UInt8) : (G6.numB k base l).2.2.length ≤ 3 := by
  unfold G6.numB
  split
  · decide
  · split
    · dsimp only
      split <;> simp
    · dsimp only
      split <;> simp
theorem refP_codes (L : List G6.Rf) (attr : Bool) (l : List UInt8) : (G6.refP L attr l).2.2.length ≤ 3 := by
  unfold G6.refP
  split
  · unfold G6.numbP
    split <;> exact numB_codes _ _ _
  · split
    · unfold G6.namedP
      split
      · split <;> simp
      · split
        · simp
        · split <;> simp
    · simp
theorem numB_18 (k base : Nat) (l : List UInt8) (h : (G6.numB k base l).2.1 = 0) (hk : 0 < k) : (18 : Int) ∉ (G6.numB k base l).2.2 := by
  unfold G6.numB at h ⊢
  split
  · simp
  · next h0 =>
    rw [if_neg h0] at h
    split at h
    · simp at h
    · dsimp only at h
      omega
theorem refP_18 (L : List G6.Rf) (attr : Bool) (l : List UInt8) (h : (G6.refP L attr l).2.1 = 0) : (18 : Int) ∉ (G6.refP L attr l).2.2 := by
  unfold G6.refP at h ⊢
  split
  · next h1 =>
    rw [if_pos h1] at h
    unfold G6.numbP at h ⊢
    split
    · next h2 => rw [if_pos h2] at h; exact numB_18 _ _ _ h (by decide)
    · next h2 => rw [if_neg h2] at h; exact numB_18 _ _ _ h (by decide)
  · next h1 =>
    rw [if_neg h1] at h
    split
    · next h2 =>
      rw [if_pos h2] at h
      unfold G6.namedP at h ⊢
      split
      · split <;> simp
      · next h3 =>
        rw [if_neg h3] at h
        split
        · simp
        · next h4 =>
          rw [if_neg h4] at h
          split
          · simp
          · next h5 =>
            rw [if_neg h5] at h
            dsimp only at h
            omega
    · simp
end Go.Proofs.YtdiealijjhfhjaaGreatDoor
namespace Go.Proofs.YtdiealijjhfhjaaGreatDoor
open Go.RowKit
structure GoodW (n : Nat) (m : Mc) : Prop where
  inv : Inv m
  few : m.wait.length + m.ref.length ≤ n
  mu : m.mu ≤ 12 * n
  last : m.last.size ≤ 12 * n
structure Good (n : Nat) (m : Mc) : Prop where
  w : GoodW n m
  ref : m.ref = [] ∨ RefOk m.ref
theorem good_new : Good 0 Mc.new := ⟨⟨inv_new, by simp [Mc.new], by simp [Mc.new, Mc.mu], by simp [Mc.new]⟩, .inl rfl⟩
theorem GoodW.gr {n a : Nat} {m m' : Mc} (h : GoodW n m) (hi : Inv m') (g : Gr a (12 * a) m m') : GoodW (n + a) m' := by
  obtain ⟨g1, g2, g3⟩ := g
  have h2 := h.few
  have h3 := h.mu
  have h4 := h.last
  exact ⟨hi, by omega, by omega, by omega⟩
theorem GoodW.wl {n : Nat} {m : Mc} (h : GoodW n m) (hn : n ≤ 20000) : m.wait.length ≤ 20000 ∧ m.last.size ≤ 1000000 ∧ m.tot ≤ 400000000 := by
  have h2 := h.few
  have h3 := h.mu
  have h4 := h.last
  have := tot_mu m
  omega
theorem GoodW.same {n : Nat} {m m' : Mc} (h : GoodW n m) (h1 : m'.st = m.st) (h2 : m'.en = m.en) (h3 : m'.wait = m.wait) (h4 : m'.ref = m.ref) (h5 : m'.mu ≤ m.mu) (h6 : m'.last = m.last) : GoodW n m' :=
  ⟨inv_of h.inv h1 h2 h3, by rw [h3, h4]; exact h.few, Nat.le_trans h5 h.mu, by rw [h6]; exact h.last⟩
def Mc.mid (m : Mc) : Mc :=
  let a : Mc := { m with ref := [], fs := m.fs ++ Mc.refFaults m.ref m.oneR.2.1 m.oneR.2.2 }
  if m.oneR.2.1 = 0 then (match m.ref with | [] => a | c :: _ => a.put c false) else a.put ⟨m.oneR.1, Mc.frAt m.ref, Mc.toAt m.ref (m.oneR.2.1 - 1)⟩ true
def Mc.left (m : Mc) : List Ch := m.ref.drop (if m.oneR.2.1 = 0 then 1 else m.oneR.2.1)
theorem resolve_eq (m : Mc) : m.resolve = m.left.foldl Mc.take m.mid := rfl
theorem put_ctl (m : Mc) (c : Ch) (b : Bool) : (m.put c b).st = m.st ∧ (m.put c b).en = m.en ∧ (m.put c b).wait = m.wait ∧ (m.put c b).ref = m.ref ∧ (m.put c b).last = m.last ∧ (m.put c b).mu ≤ m.mu + 4 := by
  unfold Mc.put
  split
  · exact ⟨rfl, rfl, rfl, rfl, rfl, (gr_addValue m c.r).2.1⟩
  · exact ⟨rfl, rfl, rfl, rfl, rfl, by have := (gr_tell m (chT b c)).2.1; omega⟩
theorem codes_len (m : Mc) : m.oneR.2.2.length ≤ 3 := refP_codes _ _ _
theorem mid_ctl (m : Mc) : m.mid.st = m.st ∧ m.mid.en = m.en ∧ m.mid.wait = m.wait ∧ m.mid.ref = [] ∧ m.mid.last = m.last ∧ m.mid.mu + 12 * m.ref.length ≤ m.mu + 7 := by
  have h3 := codes_len m
  have ha : ({ m with ref := [], fs := m.fs ++ Mc.refFaults m.ref m.oneR.2.1 m.oneR.2.2 } : Mc).mu + 12 * m.ref.length ≤ m.mu + 3 := by
    simp [Mc.mu, Mc.refFaults]
    omega
  unfold Mc.mid
  dsimp only
  split
  · split
    · exact ⟨rfl, rfl, rfl, rfl, rfl, by omega⟩
    · next c t e =>
      rw [e] at ha ⊢
      have := put_ctl ({ m with ref := [], fs := m.fs ++ Mc.refFaults (c :: t) m.oneR.2.1 m.oneR.2.2 } : Mc) c false
      refine ⟨this.1, this.2.1, this.2.2.1, this.2.2.2.1, this.2.2.2.2.1, ?_⟩
      have h6 := this.2.2.2.2.2
      omega
  · have := put_ctl ({ m with ref := [], fs := m.fs ++ Mc.refFaults m.ref m.oneR.2.1 m.oneR.2.2 } : Mc) ⟨m.oneR.1, Mc.frAt m.ref, Mc.toAt m.ref (m.oneR.2.1 - 1)⟩ true
    refine ⟨this.1, this.2.1, this.2.2.1, this.2.2.2.1, this.2.2.2.2.1, ?_⟩
    have h6 := this.2.2.2.2.2
    omega
theorem mid_inv {m : Mc} (h : Inv m) : Inv m.mid := inv_of h (mid_ctl m).1 (mid_ctl m).2.1 (mid_ctl m).2.2.1
theorem left_len {m : Mc} (h : m.ref ≠ []) : m.left.length + 1 ≤ m.ref.length := by
  have : 0 < m.ref.length := List.length_pos_iff.2 h
  unfold Mc.left
  rw [List.length_drop]
  split <;> omega
theorem left_38 {m : Mc} (h : RefW m.ref) : ∀ i c, i + 1 < m.left.length → m.left[i]? = some c → c.r ≠ 38 := fun i c hi hc => by
  have hp := left_len h.ne
  obtain ⟨k, hk1, hk⟩ : ∃ k, 1 ≤ k ∧ m.left = m.ref.drop k := ⟨if m.oneR.2.1 = 0 then 1 else m.oneR.2.1, by split <;> omega, rfl⟩
  rw [hk] at hc hi
  rw [List.getElem?_drop] at hc
  rw [List.length_drop] at hi
  rcases h with ⟨d, t, e, _, ht⟩ | ⟨a, d, e, ⟨f, t, rfl, _, ht⟩⟩
  · rw [e] at hc
    obtain ⟨j, hj⟩ : ∃ j, k + i = j + 1 := ⟨k + i - 1, by omega⟩
    rw [hj, List.getElem?_cons_succ] at hc
    exact (ht c (List.mem_of_getElem? hc)).2.2
  · rw [e] at hc hi
    obtain ⟨j, hj⟩ : ∃ j, k + i = j + 1 := ⟨k + i - 1, by omega⟩
    simp only [List.length_append, List.length_cons, List.length_nil] at hi
    rw [hj, List.cons_append, List.getElem?_cons_succ, List.getElem?_append_left (by omega)] at hc
    exact (ht c (List.mem_of_getElem? hc)).2.2
theorem run_ok (q : List Ch) (hq : ∀ i c, i + 1 < q.length → q[i]? = some c → c.r ≠ 38) (b : Mc) (hi : Inv b) (hr : b.ref = []) : ∀ i, i ≤ q.length → Inv ((q.take i).foldl Mc.take b) ∧ Gr i (12 * i) b ((q.take i).foldl Mc.take b) ∧ (i < q.length → ((q.take i).foldl Mc.take b).ref = []) ∧ (((q.take i).foldl Mc.take b).ref = [] ∨ RefOk ((q.take i).foldl Mc.take b).ref) := by
  intro i
  induction i with
  | zero => intro _; exact ⟨hi, gr_refl b, fun _ => hr, .inl hr⟩
  | succ i ih =>
    intro h
    obtain ⟨h1, h2, h3, _⟩ := ih (by omega)
    have h4 := h3 (by omega)
    have e : q.take (i + 1) = q.take i ++ [q[i]] := (List.take_append_getElem (by omega)).symm
    rw [e, List.foldl_append]
    simp only [List.foldl_cons, List.foldl_nil]
    generalize (q.take i).foldl Mc.take b = M at h1 h2 h4
    have hf := rf_take h1 q[i]
    refine ⟨inv_take h1 _, ?_, fun hlt => ?_, ?_⟩
    · exact h2.trans (gr_take h1 _)
    · rcases hf with hf | ⟨hf, _⟩
      · rw [hf]; exact h4
      · exact absurd hf (hq i _ hlt (List.getElem?_eq_getElem _))
    · rcases hf with hf | ⟨hf, hf2⟩
      · left; rw [hf]; exact h4
      · right; rw [hf2]; exact ⟨_, [], rfl, hf, fun d hd => by cases hd⟩
theorem mid_good {n : Nat} {m : Mc} (h : GoodW n m) (hr : m.ref ≠ []) : ∀ M : Mc, ∀ i, i ≤ m.left.length → Inv M → Gr i (12 * i) m.mid M → GoodW n M := fun M i hil hi g => by
  obtain ⟨g1, g2, g3⟩ := g
  obtain ⟨c1, c2, c3, c4, c5, c6⟩ := mid_ctl m
  have hl := left_len hr
  have h2 := h.few
  have h3 := h.mu
  have h4 := h.last
  rw [c3, c4, List.length_nil] at g1
  rw [c5] at g3
  exact ⟨hi, by omega, by omega, by omega⟩
theorem resolve_good {n : Nat} {m : Mc} (h : GoodW n m) (hr : RefW m.ref) : Good n m.resolve := by
  obtain ⟨h1, h2, _, h4⟩ := run_ok m.left (left_38 hr) m.mid (mid_inv h.inv) (mid_ctl m).2.2.2.1 m.left.length (Nat.le_refl _)
  rw [List.take_length] at h1 h2 h4
  rw [resolve_eq]
  exact ⟨mid_good h hr.ne _ _ (Nat.le_refl _) h1 h2, h4⟩
theorem app_good {n : Nat} {m : Mc} (h : Good n m) (c : Ch) : GoodW (n + 1) { m with ref := m.ref ++ [c] } := by
  have h2 := h.w.few
  have h3 := h.w.mu
  have h4 := h.w.last
  refine ⟨inv_of h.w.inv rfl rfl rfl, ?_, ?_, ?_⟩
  · simp; omega
  · unfold Mc.mu at h3 ⊢; simp; omega
  · show m.last.size ≤ _
    omega
theorem step_good {n : Nat} {m : Mc} (h : Good n m) (c : Ch) : Good (n + 1) (m.step c) := by
  unfold Mc.step
  split
  · next hr =>
    have hro := h.ref.resolve_left hr
    unfold Mc.refer
    dsimp only
    split
    · exact resolve_good (app_good h c) (.inr ⟨_, _, rfl, hro⟩)
    · next hs => exact ⟨app_good h c, .inr (sure_ok hro (by simpa using hs))⟩
  · next hr =>
    have hr : m.ref = [] := by simpa using hr
    refine ⟨h.w.gr (inv_take h.w.inv c) (gr_take h.w.inv c), ?_⟩
    rcases rf_take h.w.inv c with hf | ⟨hf, hf2⟩
    · left; rw [hf]; exact hr
    · right; rw [hf2]; exact ⟨_, [], rfl, hf, fun d hd => by cases hd⟩
theorem out_good {n : Nat} {m : Mc} (h : Good n m) : Good n { m with out := [] } :=
  ⟨h.w.same rfl rfl rfl rfl (by simp [Mc.mu]) rfl, h.ref⟩
theorem feed_good {n : Nat} {m : Mc} (h : Good n m) (c : Ch) : Good (n + 1) (m.feed c).2 := out_good (step_good h c)
theorem set_good {n : Nat} {m : Mc} (h : Good n m) (t : Int) : Good n (m.set t) := ⟨h.w.same rfl rfl rfl rfl (Nat.le_refl _) rfl, h.ref⟩
theorem gr_endS (m : Mc) (at' : Int) : Gr 0 3 m (m.endS at') := by
  unfold Mc.endS
  split
  · exact (gr_release m).mono (by omega) (by omega)
  · exact ((gr_fault m 5 at').trans (gr_release _)).mono (by omega) (by omega)
  · exact ((gr_fault m 6 at').trans (gr_release _)).mono (by omega) (by omega)
  · exact (gr_fault m 7 at').mono (by omega) (by omega)
  · exact (gr_made m at').mono (by omega) (by omega)
  · unfold Mc.endMarkup
    exact (((gr_fault m 14 _).trans (gr_bogus _ _ (by simp [Mc.fault]))).trans (gr_made _ at')).mono (by omega) (by omega)
  · exact ((gr_fault m 16 at').trans (gr_made _ at')).mono (by omega) (by omega)
  · exact ((gr_wrong m at').trans (gr_made _ at')).mono (by omega) (by omega)
  · exact (gr_refl m).mono (by omega) (by omega)
end Go.Proofs.YtdiealijjhfhjaaGreatDoor
