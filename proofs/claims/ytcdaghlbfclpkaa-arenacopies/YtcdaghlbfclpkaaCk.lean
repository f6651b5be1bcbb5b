/- The document's arena: Insert behind all kids, where their row is full. -/
import Derived.Test.YtcdaghlbfclpkaaCi
namespace Go.Proofs.Ytcdaghlbfclpkaa
open Go.RowKit

set_option maxHeartbeats 2000000 in
set_option maxRecDepth 20000 in
theorem rins_good2 {w : World} {x g n c : Nat} {L : List RN} {p i : Nat} {b : Int} {r rp : RN} {S : Nat → Prop} (h : RAsk w x g n c L p i b r rp S) (hp1 : r.p = -1) (hk1 : hold rp.d.kind = true) {m : Nat} (hu : URp L i m (p : Int) false) (hip : i ≠ p) {D T : List Nat} (hK : rp.ks = D ++ T) {md t : Nat} (hmd : D.length = md) (ht : T.length = t) (hat0 : atP rp b = (md : Int)) {kg : Nat} (hko : rp.kv = .slice (some ⟨kg, 0, none⟩) rp.ks.length md) (hbad : badP r rp b = false) :
    Calls Try.prog 33 #[ptr x, iv (p : Int), iv (i : Int), iv b] w (fun e w' => ∃ kv, e = .returned (iv 0) ∧ RO S w' x g n c ((L.set p (rp.kids kv (D ++ i :: T))).set i (r.par (p : Int))) ∧ Keep S w w') := by
  obtain ⟨k1, k2, k3, k4⟩ := h.calls
  have c0 := h.o.c
  have hi2 : (i : Int) < (n : Int) := by have := h.o.lt h.hr; omega
  have hp2 : (p : Int) < (n : Int) := by have := h.o.lt h.hrp; omega
  have d12 : w.cell? ⟨g, p * 13 + 12, none⟩ = some rp.kv := h.o.nd (j := 12) h.hrp (by decide)
  have d1 : w.cell? ⟨g, p * 13 + 1, none⟩ = some (iv rp.d.kind) := h.o.nd (j := 1) h.hrp (by decide)
  have d11 : w.cell? ⟨g, i * 13 + 11, none⟩ = some (iv r.p) := h.o.nd (j := 11) h.hr (by decide)
  obtain ⟨ko, kc, hkv, hkc1, _⟩ := (h.o.kds h.hrp).slice
  rw [hkv] at d12
  have hi0 : ((i : Int) == 0) = false := by have := h.i0; simp; omega
  obtain ⟨kl, hkl⟩ : ∃ kl, rp.ks.length = kl := ⟨_, rfl⟩
  obtain ⟨pl, hpl⟩ : ∃ pl, plP rp.ks b 0 = pl := ⟨_, rfl⟩
  unfold badP atP at hbad
  rw [hkl, hpl] at hbad
  rw [hkl] at d12
  rw [hpl] at k4
  obtain ⟨kd, hkd⟩ : ∃ kd, rp.d.kind = kd := ⟨_, rfl⟩
  obtain ⟨pp, hpp⟩ : ∃ pp, r.p = pp := ⟨_, rfl⟩
  rw [hkd, hpp] at hbad
  rw [hkd] at d1
  rw [hpp] at d11
  obtain ⟨at_, hat⟩ : ∃ at_ : Int, (if b = -1 then (kl : Int) else pl) = at_ := ⟨_, rfl⟩
  rw [hat] at hbad
  have hatm : at_ = (md : Int) := by rw [← hat, ← hat0]; unfold atP; rw [hkl, hpl]
  have hklt : md + t = kl := by rw [← hkl, hK, List.length_append, hmd, ht]
  have hklf : kl ≤ 1000000000 := by rw [← hkl]; exact h.hf
  have hkd0 := h.o.kds h.hrp
  have hxl : x < w.heap.size := (Array.getElem?_eq_some_iff.1 h.o.v.blk).1
  rw [hkv] at hkd0
  rw [hkl] at hkd0 hkc1 hkv
  have hpr : r.p = -1 := hp1
  rw [hpp] at hp1
  rw [hkd] at hk1
  subst hp1 hatm
  have had : Hid (decide ((md : Int) < 0) = false) := decide_eq_false (by omega)
  have hkk : kd = 0 ∨ kd = 1 := by simpa [hold] using hk1
  have HU : Hid (RO S w x g n c L ∧ URp L i m (p : Int) false) := ⟨h.o, hu⟩
  rw [hkl, hkv] at hko
  simp only [Value.slice.injEq, true_and] at hko
  obtain ⟨rfl, rfl⟩ := hko
  obtain rfl : kl = kc := by omega
  obtain rfl : t = 0 := by omega
  have hins := ins_runs h.o h.hr hpr h.hrp hip hkv (hkd0.inr hK).1 (D := D) (T := T) (so := some ⟨kg, 0, none⟩) 0 (by intro j k hk; have := (List.getElem?_eq_some_iff.1 hk).1; omega) (by omega) hmd ht
  obtain ⟨⟨v1, W1, v2, W2, vo, vn, vc, W3, a1, a2, a3, e1, e2, e3, f1, f2, f3, f4, f5, f6, z⟩, ⟨v1', W1', v2', W2', vo', vn', vc', W3', a1', a2', a3', e1', e2', e3', f1', f2', f3', f4', f5', f6', z'⟩⟩ := hins
  have HT : Hid ((if b = -1 then ((kl : Nat) : Int) else pl) = ((kl : Nat) : Int)) := hat
  clear h hkv hkl hpl hkd hpp hbad hk1 hu hat hat0 hpr hklf hkd0 hK hmd ht hkc1 hklt
  go_enter Try.func33, Try.ntmps33
  go_upto_region 1 with fail
  go_cut [36] (fun s wc => s = .bool false ∧ w = wc)
  case first =>
    by_cases hb : b = -1
    · subst hb
      clear k3 k4
      go_wp2_with fail
      refine k1.mono ?_
      rintro e w' ⟨rfl, hw'⟩
      rw [hw']
      clear hw'
      go_wp2_with fail
      refine k2.mono ?_
      rintro e w' ⟨rfl, hw'⟩
      rw [hw']
      clear hw'
      go_wp2_with fail
      go_meet
      first | exact ⟨rfl, rfl⟩ | exact ⟨by rw [hi0]; rfl, rfl⟩
    · have k3 := k3 hb
      have hbb : (b == -1) = false := by simp [hb]
      go_wp2_with fail
      refine k1.mono ?_
      rintro e w' ⟨rfl, hw'⟩
      rw [hw']
      clear hw'
      go_wp2_with fail
      refine k2.mono ?_
      rintro e w' ⟨rfl, hw'⟩
      rw [hw']
      clear hw'
      go_wp2_with fail
      refine k3.mono ?_
      rintro e w' ⟨rfl, hw'⟩
      rw [hw']
      clear hw'
      go_wp2_with fail
      go_meet
      first | exact ⟨rfl, rfl⟩ | exact ⟨by rw [hi0]; rfl, rfl⟩
  case rest =>
  obtain ⟨rfl, rfl⟩ := hcut
  clear k1 k2 k3
  go_upto_if 47 with fail
  go_cut [9] (fun av wc => av = iv ((kl : Nat) : Int) ∧ w = wc)
  case first =>
    have HTT := HT.out
    by_cases hb : b = -1
    · subst hb
      simp only [if_true] at HTT
      have HTQ : Hid _ := HTT
      clear k4 HTT
      go_wp2_with fail
      go_meet
      exact ⟨rfl, rfl⟩
    · rw [if_neg hb] at HTT
      subst HTT
      have hbb : (b == -1) = false := by simp [hb]
      go_wp2_with fail
      refine k4.mono ?_
      rintro e w' ⟨rfl, hw'⟩
      rw [hw']
      clear hw'
      go_wp2_with fail
      go_meet
      exact ⟨rfl, rfl⟩
  case rest =>
  obtain ⟨rfl, rfl⟩ := hcut
  clear k4 HT
  go_upto_region 7 with fail
  go_cut [81] (fun s wc => s = .bool false ∧ w = wc)
  case first =>
    rcases hkk with rfl | rfl
    · go_wp2_with fail
      go_meet
      first | exact ⟨rfl, rfl⟩ | exact ⟨by rw [had.out], rfl⟩
    · go_wp2_with fail
      go_meet
      first | exact ⟨rfl, rfl⟩ | exact ⟨by rw [had.out], rfl⟩
  case rest =>
  obtain ⟨rfl, rfl⟩ := hcut
  clear hkk d1 d11
  go_wp2_with fail
  go_loopg [11] m (fun g2 qv wr => ∃ q : Int, qv = iv q ∧ URp L i g2 q false ∧ w = wr)
  case atStart => exact ⟨_, rfl, HU.out.2, rfl⟩
  case round =>
    obtain ⟨q, rfl, hq, rfl⟩ := hrel
    rcases hq.way with ⟨hq1, hB⟩ | ⟨hq1, hB⟩ | ⟨m', k, r', hm', hq1, hkt, hr', hu'⟩
    · subst hq1
      clear hq hB
      go_wp2_with fail
      go_upto_region 15 with fail
      go_cut [] (fun wc => wc.cell? ⟨x, 0, none⟩ = some (.slice (some ⟨g, 0, none⟩) n c) ∧ wc.cell? ⟨g, i * 13 + 11, none⟩ = some (iv (-1)) ∧ wc.frozen? ⟨g, i * 13 + 11, none⟩ = false ∧ Hid (∃ kv, RO S (wc.setCell ⟨g, i * 13 + 11, none⟩ (iv (p : Int))) x g n c ((L.set p (rp.kids kv (D ++ i :: T))).set i (r.par (p : Int))) ∧ Keep S w (wc.setCell ⟨g, i * 13 + 11, none⟩ (iv (p : Int)))))
      case first =>
        go_region_law (first
        | (refine step_append_eq rfl (Operand.const (Value.slice none 0 0)) (Operand.tmp 111) 44 44 rfl _ _ (by simp [Act.eval]) (by first | (simp [Act.eval]; done) | simp [Act.eval, Act.put]) a1 ?_)
        | (refine step_append_eq rfl (Operand.const (Value.slice none 0 0)) (Operand.tmp 111) 44 44 rfl _ _ (by simp [Act.eval]) (by simp [Act.eval]) a1' ?_)
        | (refine step_append_eq rfl (Operand.tmp 112) (Operand.tmp 114) 44 44 rfl _ _ (by simp [Act.eval]) (by simp [Act.eval]) a2 ?_)
        | (refine step_append_eq rfl (Operand.tmp 112) (Operand.tmp 114) 44 44 rfl _ _ (by simp [Act.eval]) (by simp [Act.eval]) a2' ?_)
        | (refine step_append_eq rfl (Operand.tmp 115) (Operand.tmp 118) 44 44 rfl _ _ (by simp [Act.eval]) (by simp [Act.eval]) a3 ?_)
        | (refine step_append_eq rfl (Operand.tmp 115) (Operand.tmp 118) 44 44 rfl _ _ (by first | (simp [Act.eval]; done) | simp [Act.eval, Act.put]) (by first | (simp [Act.eval]; done) | simp [Act.eval, Act.put]) a3' ?_))
        all_goals
          go_wp2_with fail
          go_meet
          first | with_reducible exact ⟨f4, f5, f6, z⟩ | with_reducible exact ⟨f4', f5', f6', z'⟩
      case rest =>
        clear a1 a2 a3 a1' a2' a3' e1 e2 e3 f1 f2 f3 f4 f5 f6 e1' e2' e3' f1' f2' f3' f4' f5' f6' z z' c0 d12
        obtain ⟨g4, g5, g6, gz⟩ := hcut
        go_wp2_with fail
        go_ret
        obtain ⟨kv, z1, z2⟩ := gz.out
        exact ⟨kv, rfl, z1, z2⟩
    · cases hB
    · subst hq1 hm'
      have hkn := HU.out.1.lt hr'
      have hk2 : (k : Int) < (n : Int) := by omega
      have hkt2 : ((k : Int) == (i : Int)) = false := by simp; omega
      have hkt3 : ¬ (k : Int) = (i : Int) := by omega
      have d0 : w.cell? ⟨g, k * 13 + 11, none⟩ = some (iv r'.p) := HU.out.1.nd (j := 11) hr' (by decide)
      have HV : Hid (URp L i m' r'.p false) := hu'
      obtain ⟨sp, hsp⟩ : ∃ sp, r'.p = sp := ⟨_, rfl⟩
      rw [hsp] at d0 HV
      clear hq hkt hr' hu' hsp
      go_wp2_with fail
      go_roundg m'
      case measure => omega
      case rel => exact ⟨sp, rfl, HV.out, rfl⟩
end Go.Proofs.Ytcdaghlbfclpkaa
