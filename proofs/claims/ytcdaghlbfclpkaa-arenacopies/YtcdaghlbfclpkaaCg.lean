/- The document's arena: what Insert refuses. -/
import Derived.Test.YtcdaghlbfclpkaaCf
namespace Go.Proofs.Ytcdaghlbfclpkaa
open Go.RowKit

/-- Not all are there. -/
theorem rins_no {S : Nat → Prop} {w : World} {x g n c : Nat} {L : List RN} (o : RO S w x g n c L) {p i b : Int} (hb : insNo n p i b = true) : Calls Try.prog 33 #[ptr x, iv p, iv i, iv b] w (Rd (iv 4) w) := by
  have k1 := is_any o p
  have k2 := is_any o i
  have k3 := is_any o b
  clear o
  cases h1 : isN n p with
  | false =>
    rw [h1] at k1
    clear hb k2 k3 h1
    go_enter Try.func33, Try.ntmps33
    go_wp2_with fail
    refine k1.mono ?_
    rintro e w' ⟨rfl, rfl⟩
    go_wp2_with fail
    go_ret
    exact ⟨rfl, rfl⟩
  | true =>
    rw [h1] at k1
    cases h2 : isN n i with
    | false =>
      rw [h2] at k2
      clear hb k3 h1 h2
      go_enter Try.func33, Try.ntmps33
      go_wp2_with fail
      refine k1.mono ?_
      rintro e w' ⟨rfl, hw'⟩
      rw [hw']
      clear hw'
      go_wp2_with fail
      refine k2.mono ?_
      rintro e w' ⟨rfl, rfl⟩
      go_wp2_with fail
      go_ret
      exact ⟨rfl, rfl⟩
    | true =>
      rw [h2] at k2
      by_cases h0 : i = 0
      · subst h0
        clear hb k3 h1 h2
        go_enter Try.func33, Try.ntmps33
        go_wp2_with fail
        refine k1.mono ?_
        rintro e w' ⟨rfl, hw'⟩
        rw [hw']
        clear hw'
        go_wp2_with fail
        refine k2.mono ?_
        rintro e w' ⟨rfl, rfl⟩
        go_wp2_with fail
        go_ret
        exact ⟨rfl, rfl⟩
      · have hz : (i == 0) = false := by simp [h0]
        have hb1 : (b == -1) = false := by
          by_cases h : b = -1
          · simp [insNo, h1, h2, h0, h] at hb
          · simp [h]
        have hb2 : isN n b = false := by
          cases h : isN n b with
          | false => rfl
          | true => simp [insNo, h1, h2, h0, h] at hb
        rw [hb2] at k3
        have hbn : ¬ b = -1 := by
          intro h
          simp [h] at hb1
        clear hb h1 h2 hb2 h0
        go_enter Try.func33, Try.ntmps33
        go_wp2_with fail
        refine k1.mono ?_
        rintro e w' ⟨rfl, hw'⟩
        rw [hw']
        clear hw'
        go_wp2_with fail
        refine k2.mono ?_
        rintro e w' ⟨rfl, hw'⟩
        rw [hw']
        clear hw'
        go_wp2_with fail
        refine k3.mono ?_
        rintro e w' ⟨rfl, rfl⟩
        go_wp2_with fail
        go_ret
        exact ⟨rfl, rfl⟩
/-- All are there. -/
structure RAsk (w : World) (x g n c : Nat) (L : List RN) (p i : Nat) (b : Int) (r rp : RN) (S : Nat → Prop) : Prop where
  o : RO S w x g n c L
  i0 : i ≠ 0
  hr : L[i]? = some r
  hrp : L[p]? = some rp
  hb : b = -1 ∨ isN n b = true
  hf : rp.ks.length ≤ 1000000000
/-- Where it belongs: the place. -/
def atP (rp : RN) (b : Int) : Int := if b = -1 then (rp.ks.length : Int) else plP rp.ks b 0
/-- The first part of the walk, up to region 7: what it needs. -/
theorem RAsk.calls {w : World} {x g n c : Nat} {L : List RN} {p i : Nat} {b : Int} {r rp : RN} {S : Nat → Prop} (h : RAsk w x g n c L p i b r rp S) :
    Calls Try.prog 40 #[ptr x, iv (p : Int)] w (Rd (.bool true) w) ∧ Calls Try.prog 40 #[ptr x, iv (i : Int)] w (Rd (.bool true) w) ∧ (b ≠ -1 → Calls Try.prog 40 #[ptr x, iv b] w (Rd (.bool true) w)) ∧ Calls Try.prog 51 #[ptr x, iv (p : Int), iv b] w (Rd (iv (plP rp.ks b 0)) w) := by
  have k1 := is_any h.o (p : Int)
  rw [isN_lt (h.o.lt h.hrp)] at k1
  have k2 := is_any h.o (i : Int)
  rw [isN_lt (h.o.lt h.hr)] at k2
  refine ⟨k1, k2, fun hb => ?_, place_any h.o h.hrp h.hf b⟩
  have k3 := is_any h.o b
  rcases h.hb with h1 | h1
  · exact absurd h1 hb
  · rw [h1] at k3
    exact k3
/-- Going up by the document's parents: m steps. -/
inductive URp (L : List RN) (t : Nat) : Nat → Int → Bool → Prop
  | out : URp L t 0 (-1) false
  | here : URp L t 0 (t : Int) true
  | up {m k : Nat} {r : RN} {b : Bool} (h : k ≠ t) (hr : L[k]? = some r) (u : URp L t m r.p b) : URp L t (m + 1) (k : Int) b
theorem URp.way {L : List RN} {t m : Nat} {q : Int} {b : Bool} (h : URp L t m q b) : (q = -1 ∧ b = false) ∨ (q = (t : Int) ∧ b = true) ∨ (∃ (m' k : Nat) (r : RN), m = m' + 1 ∧ q = (k : Int) ∧ k ≠ t ∧ L[k]? = some r ∧ URp L t m' r.p b) := by
  cases h with
  | out => exact .inl ⟨rfl, rfl⟩
  | here => exact .inr (.inl ⟨rfl, rfl⟩)
  | up h1 h2 h3 => exact .inr (.inr ⟨_, _, _, rfl, rfl, h1, h2, h3⟩)
/-- What the arena refuses before it goes up. -/
def badP (r rp : RN) (b : Int) : Bool := !decide (r.p = -1) || !hold rp.d.kind || decide (atP rp b < 0)
set_option maxHeartbeats 2000000 in
set_option maxRecDepth 20000 in
theorem rins_has {w : World} {x g n c : Nat} {L : List RN} {p i : Nat} {b : Int} {r rp : RN} {S : Nat → Prop} (h : RAsk w x g n c L p i b r rp S) (hp1 : r.p ≠ -1) :
    Calls Try.prog 33 #[ptr x, iv (p : Int), iv (i : Int), iv b] w (Rd (iv 3) w) := by
  obtain ⟨k1, k2, k3, k4⟩ := h.calls
  have c0 := h.o.c
  have hi2 : (i : Int) < (n : Int) := by have := h.o.lt h.hr; omega
  have hp2 : (p : Int) < (n : Int) := by have := h.o.lt h.hrp; omega
  have d12 : w.cell? ⟨g, p * 13 + 12, none⟩ = some rp.kv := h.o.nd (j := 12) h.hrp (by decide)
  have d1 : w.cell? ⟨g, p * 13 + 1, none⟩ = some (iv rp.d.kind) := h.o.nd (j := 1) h.hrp (by decide)
  have d11 : w.cell? ⟨g, i * 13 + 11, none⟩ = some (iv r.p) := h.o.nd (j := 11) h.hr (by decide)
  obtain ⟨ko, kc, hkv, _⟩ := (h.o.kds h.hrp).slice
  rw [hkv] at d12
  have hi0 : ((i : Int) == 0) = false := by have := h.i0; simp; omega
  obtain ⟨kl, hkl⟩ : ∃ kl, rp.ks.length = kl := ⟨_, rfl⟩
  obtain ⟨pl, hpl⟩ : ∃ pl, plP rp.ks b 0 = pl := ⟨_, rfl⟩
  rw [hkl] at d12
  rw [hpl] at k4
  obtain ⟨kd, hkd⟩ : ∃ kd, rp.d.kind = kd := ⟨_, rfl⟩
  obtain ⟨pp, hpp⟩ : ∃ pp, r.p = pp := ⟨_, rfl⟩
  rw [hkd] at d1
  rw [hpp] at d11
  obtain ⟨at_, hat⟩ : ∃ at_ : Int, (if b = -1 then (kl : Int) else pl) = at_ := ⟨_, rfl⟩
  rw [hpp] at hp1
  have hpb : (pp == -1) = false := by simp [hp1]
  clear h hkv hkl hpl hkd hpp
  by_cases hb : b = -1
  · subst hb
    simp only [if_true] at hat
    clear k3 k4
    go_enter Try.func33, Try.ntmps33
    go_wp2_with fail
    refine k1.mono ?_
    rintro e w' ⟨rfl, hw'⟩
    rw [hw']
    clear hw'
    go_wp2_with fail
    refine k2.mono ?_
    rintro e w' ⟨rfl, hw'⟩
    rw [hw']
    clear hw'
    go_wp2_with fail
    go_ret
    exact ⟨rfl, rfl⟩
  · have hat : pl = at_ := by rw [if_neg hb] at hat; exact hat
    subst hat
    have k3 := k3 hb
    have hbb : (b == -1) = false := by simp [hb]
    go_enter Try.func33, Try.ntmps33
    go_wp2_with fail
    refine k1.mono ?_
    rintro e w' ⟨rfl, hw'⟩
    rw [hw']
    clear hw'
    go_wp2_with fail
    refine k2.mono ?_
    rintro e w' ⟨rfl, hw'⟩
    rw [hw']
    clear hw'
    go_wp2_with fail
    refine k3.mono ?_
    rintro e w' ⟨rfl, hw'⟩
    rw [hw']
    clear hw'
    go_wp2_with fail
    refine k4.mono ?_
    rintro e w' ⟨rfl, hw'⟩
    rw [hw']
    clear hw'
    go_wp2_with fail
    go_ret
    exact ⟨rfl, rfl⟩
set_option maxHeartbeats 2000000 in
set_option maxRecDepth 20000 in
theorem rins_kind {w : World} {x g n c : Nat} {L : List RN} {p i : Nat} {b : Int} {r rp : RN} {S : Nat → Prop} (h : RAsk w x g n c L p i b r rp S) (hp1 : r.p = -1) (hk1 : hold rp.d.kind = false) (hbad : badP r rp b = true) :
    Calls Try.prog 33 #[ptr x, iv (p : Int), iv (i : Int), iv b] w (Rd (iv 3) w) := by
  obtain ⟨k1, k2, k3, k4⟩ := h.calls
  have c0 := h.o.c
  have hi2 : (i : Int) < (n : Int) := by have := h.o.lt h.hr; omega
  have hp2 : (p : Int) < (n : Int) := by have := h.o.lt h.hrp; omega
  have d12 : w.cell? ⟨g, p * 13 + 12, none⟩ = some rp.kv := h.o.nd (j := 12) h.hrp (by decide)
  have d1 : w.cell? ⟨g, p * 13 + 1, none⟩ = some (iv rp.d.kind) := h.o.nd (j := 1) h.hrp (by decide)
  have d11 : w.cell? ⟨g, i * 13 + 11, none⟩ = some (iv r.p) := h.o.nd (j := 11) h.hr (by decide)
  obtain ⟨ko, kc, hkv, _⟩ := (h.o.kds h.hrp).slice
  rw [hkv] at d12
  have hi0 : ((i : Int) == 0) = false := by have := h.i0; simp; omega
  obtain ⟨kl, hkl⟩ : ∃ kl, rp.ks.length = kl := ⟨_, rfl⟩
  obtain ⟨pl, hpl⟩ : ∃ pl, plP rp.ks b 0 = pl := ⟨_, rfl⟩
  unfold badP atP at hbad
  rw [hkl, hpl] at hbad
  rw [hkl] at d12
  rw [hpl] at k4
  obtain ⟨kd, hkd⟩ : ∃ kd, rp.d.kind = kd := ⟨_, rfl⟩
  obtain ⟨pp, hpp⟩ : ∃ pp, r.p = pp := ⟨_, rfl⟩
  rw [hkd, hpp] at hbad
  rw [hkd] at d1
  rw [hpp] at d11
  obtain ⟨at_, hat⟩ : ∃ at_ : Int, (if b = -1 then (kl : Int) else pl) = at_ := ⟨_, rfl⟩
  rw [hat] at hbad
  rw [hpp] at hp1
  rw [hkd] at hk1
  subst hp1
  have hk2 : (kd == 0) = false := by
    by_cases q : kd = 0
    · simp [hold, q] at hk1
    · simp [q]
  have hk3 : (kd == 1) = false := by
    by_cases q : kd = 1
    · simp [hold, q] at hk1
    · simp [q]
  have hk4 : ¬ kd = 0 := fun q => by simp [hold, q] at hk1
  have hk5 : ¬ kd = 1 := fun q => by simp [hold, q] at hk1
  clear h hkv hkl hpl hkd hpp hbad hk1
  by_cases hb : b = -1
  · subst hb
    simp only [if_true] at hat
    clear k3 k4
    go_enter Try.func33, Try.ntmps33
    go_wp2_with fail
    refine k1.mono ?_
    rintro e w' ⟨rfl, hw'⟩
    rw [hw']
    clear hw'
    go_wp2_with fail
    refine k2.mono ?_
    rintro e w' ⟨rfl, hw'⟩
    rw [hw']
    clear hw'
    go_wp2_with fail
    go_ret
    exact ⟨rfl, rfl⟩
  · have hat : pl = at_ := by rw [if_neg hb] at hat; exact hat
    subst hat
    have k3 := k3 hb
    have hbb : (b == -1) = false := by simp [hb]
    go_enter Try.func33, Try.ntmps33
    go_wp2_with fail
    refine k1.mono ?_
    rintro e w' ⟨rfl, hw'⟩
    rw [hw']
    clear hw'
    go_wp2_with fail
    refine k2.mono ?_
    rintro e w' ⟨rfl, hw'⟩
    rw [hw']
    clear hw'
    go_wp2_with fail
    refine k3.mono ?_
    rintro e w' ⟨rfl, hw'⟩
    rw [hw']
    clear hw'
    go_wp2_with fail
    refine k4.mono ?_
    rintro e w' ⟨rfl, hw'⟩
    rw [hw']
    clear hw'
    go_wp2_with fail
    go_ret
    exact ⟨rfl, rfl⟩
set_option maxHeartbeats 2000000 in
set_option maxRecDepth 20000 in
theorem rins_at0 {w : World} {x g n c : Nat} {L : List RN} {p i : Nat} {b : Int} {r rp : RN} {S : Nat → Prop} (h : RAsk w x g n c L p i b r rp S) (hp1 : r.p = -1) (hk1 : rp.d.kind = 0) (hbad : badP r rp b = true) :
    Calls Try.prog 33 #[ptr x, iv (p : Int), iv (i : Int), iv b] w (Rd (iv 3) w) := by
  obtain ⟨k1, k2, k3, k4⟩ := h.calls
  have c0 := h.o.c
  have hi2 : (i : Int) < (n : Int) := by have := h.o.lt h.hr; omega
  have hp2 : (p : Int) < (n : Int) := by have := h.o.lt h.hrp; omega
  have d12 : w.cell? ⟨g, p * 13 + 12, none⟩ = some rp.kv := h.o.nd (j := 12) h.hrp (by decide)
  have d1 : w.cell? ⟨g, p * 13 + 1, none⟩ = some (iv rp.d.kind) := h.o.nd (j := 1) h.hrp (by decide)
  have d11 : w.cell? ⟨g, i * 13 + 11, none⟩ = some (iv r.p) := h.o.nd (j := 11) h.hr (by decide)
  obtain ⟨ko, kc, hkv, _⟩ := (h.o.kds h.hrp).slice
  rw [hkv] at d12
  have hi0 : ((i : Int) == 0) = false := by have := h.i0; simp; omega
  obtain ⟨kl, hkl⟩ : ∃ kl, rp.ks.length = kl := ⟨_, rfl⟩
  obtain ⟨pl, hpl⟩ : ∃ pl, plP rp.ks b 0 = pl := ⟨_, rfl⟩
  unfold badP atP at hbad
  rw [hkl, hpl] at hbad
  rw [hkl] at d12
  rw [hpl] at k4
  obtain ⟨kd, hkd⟩ : ∃ kd, rp.d.kind = kd := ⟨_, rfl⟩
  obtain ⟨pp, hpp⟩ : ∃ pp, r.p = pp := ⟨_, rfl⟩
  rw [hkd, hpp] at hbad
  rw [hkd] at d1
  rw [hpp] at d11
  obtain ⟨at_, hat⟩ : ∃ at_ : Int, (if b = -1 then (kl : Int) else pl) = at_ := ⟨_, rfl⟩
  rw [hat] at hbad
  rw [hpp] at hp1
  rw [hkd] at hk1
  subst hp1 hk1
  have ha : at_ < 0 := by simpa [hold] using hbad
  clear h hkv hkl hpl hkd hpp hbad
  by_cases hb : b = -1
  · subst hb
    simp only [if_true] at hat
    exact absurd ha (by omega)
  · have hat : pl = at_ := by rw [if_neg hb] at hat; exact hat
    subst hat
    have k3 := k3 hb
    have hbb : (b == -1) = false := by simp [hb]
    go_enter Try.func33, Try.ntmps33
    go_wp2_with fail
    refine k1.mono ?_
    rintro e w' ⟨rfl, hw'⟩
    rw [hw']
    clear hw'
    go_wp2_with fail
    refine k2.mono ?_
    rintro e w' ⟨rfl, hw'⟩
    rw [hw']
    clear hw'
    go_wp2_with fail
    refine k3.mono ?_
    rintro e w' ⟨rfl, hw'⟩
    rw [hw']
    clear hw'
    go_wp2_with fail
    refine k4.mono ?_
    rintro e w' ⟨rfl, hw'⟩
    rw [hw']
    clear hw'
    go_wp2_with fail
    go_ret
    exact ⟨rfl, rfl⟩
set_option maxHeartbeats 2000000 in
set_option maxRecDepth 20000 in
theorem rins_at1 {w : World} {x g n c : Nat} {L : List RN} {p i : Nat} {b : Int} {r rp : RN} {S : Nat → Prop} (h : RAsk w x g n c L p i b r rp S) (hp1 : r.p = -1) (hk1 : rp.d.kind = 1) (hbad : badP r rp b = true) :
    Calls Try.prog 33 #[ptr x, iv (p : Int), iv (i : Int), iv b] w (Rd (iv 3) w) := by
  obtain ⟨k1, k2, k3, k4⟩ := h.calls
  have c0 := h.o.c
  have hi2 : (i : Int) < (n : Int) := by have := h.o.lt h.hr; omega
  have hp2 : (p : Int) < (n : Int) := by have := h.o.lt h.hrp; omega
  have d12 : w.cell? ⟨g, p * 13 + 12, none⟩ = some rp.kv := h.o.nd (j := 12) h.hrp (by decide)
  have d1 : w.cell? ⟨g, p * 13 + 1, none⟩ = some (iv rp.d.kind) := h.o.nd (j := 1) h.hrp (by decide)
  have d11 : w.cell? ⟨g, i * 13 + 11, none⟩ = some (iv r.p) := h.o.nd (j := 11) h.hr (by decide)
  obtain ⟨ko, kc, hkv, _⟩ := (h.o.kds h.hrp).slice
  rw [hkv] at d12
  have hi0 : ((i : Int) == 0) = false := by have := h.i0; simp; omega
  obtain ⟨kl, hkl⟩ : ∃ kl, rp.ks.length = kl := ⟨_, rfl⟩
  obtain ⟨pl, hpl⟩ : ∃ pl, plP rp.ks b 0 = pl := ⟨_, rfl⟩
  unfold badP atP at hbad
  rw [hkl, hpl] at hbad
  rw [hkl] at d12
  rw [hpl] at k4
  obtain ⟨kd, hkd⟩ : ∃ kd, rp.d.kind = kd := ⟨_, rfl⟩
  obtain ⟨pp, hpp⟩ : ∃ pp, r.p = pp := ⟨_, rfl⟩
  rw [hkd, hpp] at hbad
  rw [hkd] at d1
  rw [hpp] at d11
  obtain ⟨at_, hat⟩ : ∃ at_ : Int, (if b = -1 then (kl : Int) else pl) = at_ := ⟨_, rfl⟩
  rw [hat] at hbad
  rw [hpp] at hp1
  rw [hkd] at hk1
  subst hp1 hk1
  have ha : at_ < 0 := by simpa [hold] using hbad
  clear h hkv hkl hpl hkd hpp hbad
  by_cases hb : b = -1
  · subst hb
    simp only [if_true] at hat
    exact absurd ha (by omega)
  · have hat : pl = at_ := by rw [if_neg hb] at hat; exact hat
    subst hat
    have k3 := k3 hb
    have hbb : (b == -1) = false := by simp [hb]
    go_enter Try.func33, Try.ntmps33
    go_wp2_with fail
    refine k1.mono ?_
    rintro e w' ⟨rfl, hw'⟩
    rw [hw']
    clear hw'
    go_wp2_with fail
    refine k2.mono ?_
    rintro e w' ⟨rfl, hw'⟩
    rw [hw']
    clear hw'
    go_wp2_with fail
    refine k3.mono ?_
    rintro e w' ⟨rfl, hw'⟩
    rw [hw']
    clear hw'
    go_wp2_with fail
    refine k4.mono ?_
    rintro e w' ⟨rfl, hw'⟩
    rw [hw']
    clear hw'
    go_wp2_with fail
    go_ret
    exact ⟨rfl, rfl⟩
theorem rins_bad {w : World} {x g n c : Nat} {L : List RN} {p i : Nat} {b : Int} {r rp : RN} {S : Nat → Prop} (h : RAsk w x g n c L p i b r rp S) (hbad : badP r rp b = true) :
    Calls Try.prog 33 #[ptr x, iv (p : Int), iv (i : Int), iv b] w (Rd (iv 3) w) := by
  by_cases h1 : r.p = -1
  · cases h2 : hold rp.d.kind with
    | false => exact rins_kind h h1 h2 hbad
    | true =>
      have h3 : rp.d.kind = 0 ∨ rp.d.kind = 1 := by simpa [hold] using h2
      rcases h3 with h3 | h3
      · exact rins_at0 h h1 h3 hbad
      · exact rins_at1 h h1 h3 hbad
  · exact rins_has h h1
end Go.Proofs.Ytcdaghlbfclpkaa
