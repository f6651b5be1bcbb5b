/- The document's arena: Insert goes up; it refuses what stands below. -/
import Derived.Test.YtcdaghlbfclpkaaCg
namespace Go.Proofs.Ytcdaghlbfclpkaa
open Go.RowKit

set_option maxHeartbeats 2000000 in
set_option maxRecDepth 20000 in
theorem rins_up {w : World} {x g n c : Nat} {L : List RN} {p i : Nat} {b : Int} {r rp : RN} {S : Nat → Prop} (h : RAsk w x g n c L p i b r rp S) (hp1 : r.p = -1) (hk1 : hold rp.d.kind = true) {m : Nat} (hu : URp L i m (p : Int) true) (hbad : badP r rp b = false) :
    Calls Try.prog 33 #[ptr x, iv (p : Int), iv (i : Int), iv b] w (Rd (iv 3) w) := by
  obtain ⟨k1, k2, k3, k4⟩ := h.calls
  have c0 := h.o.c
  have hi2 : (i : Int) < (n : Int) := by have := h.o.lt h.hr; omega
  have hp2 : (p : Int) < (n : Int) := by have := h.o.lt h.hrp; omega
  have d12 : w.cell? ⟨g, p * 13 + 12, none⟩ = some rp.kv := h.o.nd (j := 12) h.hrp (by decide)
  have d1 : w.cell? ⟨g, p * 13 + 1, none⟩ = some (iv rp.d.kind) := h.o.nd (j := 1) h.hrp (by decide)
  have d11 : w.cell? ⟨g, i * 13 + 11, none⟩ = some (iv r.p) := h.o.nd (j := 11) h.hr (by decide)
  obtain ⟨ko, kc, hkv, _⟩ := (h.o.kds h.hrp).slice
  rw [hkv] at d12
  have hi0 : ((i : Int) == 0) = false := by have := h.i0; simp; omega
  obtain ⟨kl, hkl⟩ : ∃ kl, rp.ks.length = kl := ⟨_, rfl⟩
  obtain ⟨pl, hpl⟩ : ∃ pl, plP rp.ks b 0 = pl := ⟨_, rfl⟩
  unfold badP atP at hbad
  rw [hkl, hpl] at hbad
  rw [hkl] at d12
  rw [hpl] at k4
  obtain ⟨kd, hkd⟩ : ∃ kd, rp.d.kind = kd := ⟨_, rfl⟩
  obtain ⟨pp, hpp⟩ : ∃ pp, r.p = pp := ⟨_, rfl⟩
  rw [hkd, hpp] at hbad
  rw [hkd] at d1
  rw [hpp] at d11
  obtain ⟨at_, hat⟩ : ∃ at_ : Int, (if b = -1 then (kl : Int) else pl) = at_ := ⟨_, rfl⟩
  rw [hat] at hbad
  rw [hpp] at hp1
  rw [hkd] at hk1
  subst hp1
  have ha : ¬ at_ < 0 := by
    intro q
    simp [q] at hbad
  have hkk : kd = 0 ∨ kd = 1 := by simpa [hold] using hk1
  have had : Hid (decide (at_ < 0) = false) := decide_eq_false ha
  have HU : Hid (RO S w x g n c L ∧ URp L i m (p : Int) true) := ⟨h.o, hu⟩
  clear h hkv hkl hpl hkd hpp hbad hk1 hu ha
  by_cases hb : b = -1
  · subst hb
    simp only [if_true] at hat
    clear k3 k4
    go_enter Try.func33, Try.ntmps33
    go_wp2_with fail
    refine k1.mono ?_
    rintro e w' ⟨rfl, hw'⟩
    rw [hw']
    clear hw'
    go_wp2_with fail
    refine k2.mono ?_
    rintro e w' ⟨rfl, hw'⟩
    rw [hw']
    clear hw'
    go_upto_region 7 with fail
    go_cut [81] (fun s wc => s = .bool false ∧ w = wc)
    case first =>
      rcases hkk with rfl | rfl
      · go_wp2_with fail
        go_meet
        exact ⟨by rw [had.out], rfl⟩
      · go_wp2_with fail
        go_meet
        exact ⟨by rw [had.out], rfl⟩
    case rest =>
      obtain ⟨rfl, rfl⟩ := hcut
      clear hkk d1 d11
      go_wp2_with fail
      go_loopg [11] m (fun g2 qv wr => ∃ q : Int, qv = iv q ∧ URp L i g2 q true ∧ w = wr)
      case atStart => exact ⟨_, rfl, HU.out.2, rfl⟩
      case round =>
        obtain ⟨q, rfl, hq, rfl⟩ := hrel
        rcases hq.way with ⟨hq1, hB⟩ | ⟨hq1, hB⟩ | ⟨m', k, r', hm', hq1, hkt, hr', hu'⟩
        · cases hB
        · subst hq1
          have hne : ((i : Int) == -1) = false := by simp
          clear hq hB
          go_wp2_with fail
          go_ret
          exact ⟨rfl, rfl⟩
        · subst hq1 hm'
          have hkn := HU.out.1.lt hr'
          have hk2 : (k : Int) < (n : Int) := by omega
          have hkt2 : ((k : Int) == (i : Int)) = false := by simp; omega
          have hkt3 : ¬ (k : Int) = (i : Int) := by omega
          have d0 : w.cell? ⟨g, k * 13 + 11, none⟩ = some (iv r'.p) := HU.out.1.nd (j := 11) hr' (by decide)
          have HV : Hid (URp L i m' r'.p true) := hu'
          obtain ⟨sp, hsp⟩ : ∃ sp, r'.p = sp := ⟨_, rfl⟩
          rw [hsp] at d0 HV
          clear hq hkt hr' hu' hsp
          go_wp2_with fail
          go_roundg m'
          case measure => omega
          case rel => exact ⟨sp, rfl, HV.out, rfl⟩
  · have hat : pl = at_ := by rw [if_neg hb] at hat; exact hat
    subst hat
    have k3 := k3 hb
    have hbb : (b == -1) = false := by simp [hb]
    go_enter Try.func33, Try.ntmps33
    go_wp2_with fail
    refine k1.mono ?_
    rintro e w' ⟨rfl, hw'⟩
    rw [hw']
    clear hw'
    go_wp2_with fail
    refine k2.mono ?_
    rintro e w' ⟨rfl, hw'⟩
    rw [hw']
    clear hw'
    go_wp2_with fail
    refine k3.mono ?_
    rintro e w' ⟨rfl, hw'⟩
    rw [hw']
    clear hw'
    go_wp2_with fail
    refine k4.mono ?_
    rintro e w' ⟨rfl, hw'⟩
    rw [hw']
    clear hw'
    go_upto_region 7 with fail
    go_cut [81] (fun s wc => s = .bool false ∧ w = wc)
    case first =>
      rcases hkk with rfl | rfl
      · go_wp2_with fail
        go_meet
        exact ⟨by rw [had.out], rfl⟩
      · go_wp2_with fail
        go_meet
        exact ⟨by rw [had.out], rfl⟩
    case rest =>
      obtain ⟨rfl, rfl⟩ := hcut
      clear hkk d1 d11
      go_wp2_with fail
      go_loopg [11] m (fun g2 qv wr => ∃ q : Int, qv = iv q ∧ URp L i g2 q true ∧ w = wr)
      case atStart => exact ⟨_, rfl, HU.out.2, rfl⟩
      case round =>
        obtain ⟨q, rfl, hq, rfl⟩ := hrel
        rcases hq.way with ⟨hq1, hB⟩ | ⟨hq1, hB⟩ | ⟨m', k, r', hm', hq1, hkt, hr', hu'⟩
        · cases hB
        · subst hq1
          have hne : ((i : Int) == -1) = false := by simp
          clear hq hB
          go_wp2_with fail
          go_ret
          exact ⟨rfl, rfl⟩
        · subst hq1 hm'
          have hkn := HU.out.1.lt hr'
          have hk2 : (k : Int) < (n : Int) := by omega
          have hkt2 : ((k : Int) == (i : Int)) = false := by simp; omega
          have hkt3 : ¬ (k : Int) = (i : Int) := by omega
          have d0 : w.cell? ⟨g, k * 13 + 11, none⟩ = some (iv r'.p) := HU.out.1.nd (j := 11) hr' (by decide)
          have HV : Hid (URp L i m' r'.p true) := hu'
          obtain ⟨sp, hsp⟩ : ∃ sp, r'.p = sp := ⟨_, rfl⟩
          rw [hsp] at d0 HV
          clear hq hkt hr' hu' hsp
          go_wp2_with fail
          go_roundg m'
          case measure => omega
          case rel => exact ⟨sp, rfl, HV.out, rfl⟩
end Go.Proofs.Ytcdaghlbfclpkaa
