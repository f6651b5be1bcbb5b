/- A deed on both arenas: Insert. -/
import Derived.Test.YtcdaghlbfclpkaaDf
import Derived.Test.YtcdaghlbfclpkaaAq
namespace Go.Proofs.Ytcdaghlbfclpkaa
open Go.RowKit

/-- Whether one stands below the other: as the program finds it. -/
theorem within_rel {S : Nat → Prop} {w : World} {x g n cn h cs k ce : Nat} {N : List Nd} {P : List Sp} {E : List En} {L : List RN} (o : Op3 S w x g n cn h cs k ce N P E) (hR : Rel N P E L) {p i m m' : Nat} {b : Bool} (hi : i < L.length) (hu : URp L i m (p : Int) b) (hv : Up P i m' p b) :
    Calls Try.prog 46 #[ptr x, iv (p : Int), iv (i : Int)] w (Rd (.bool b) w) := by
  obtain ⟨_, _, e, r, _, _, he, hr⟩ := hR.atL hi
  by_cases hf : e.f = 0
  · have hb : b = decide (p = i) := by
      cases hb : b with
      | false =>
        symm
        refine decide_eq_false fun e' => ?_
        subst e'
        have := hu.det .here
        rw [hb] at this
        cases this
      | true =>
        symm
        refine decide_eq_true ?_
        rcases hu.kid hb with q | ⟨k, rk, q1, q2⟩
        · omega
        · obtain ⟨p2, rp, a1, a2, a3⟩ := hR.kp k rk q1 (by rw [q2]; omega)
          have e2 : p2 = i := by omega
          subst e2
          have hkd := hR.kd p2 e rp he a2
          have hh := hkd.1.head
          rw [hf] at hh
          have : rp.ks ≠ [] := fun z => by rw [z] at a3; simp at a3
          exact absurd hh.symm (headOr0 hkd.1 this)
    rw [hb]
    exact within_new o he hf
  · exact within_up o he hf hv
theorem insNo_false {n p i : Nat} {b : Int} (h : insNo n (p : Int) (i : Int) b = false) : p < n ∧ i < n ∧ i ≠ 0 ∧ (b = -1 ∨ isN n b = true) := by
  unfold insNo at h
  simp only [Bool.or_eq_false_iff, Bool.not_eq_false', Bool.and_eq_true, Bool.and_eq_false_iff, Bool.not_eq_true', decide_eq_false_iff_not] at h
  obtain ⟨⟨h1, h2, h3⟩, h4⟩ := h
  obtain ⟨j1, e1, q1⟩ := isN_nat h1
  obtain ⟨j2, e2, q2⟩ := isN_nat h3
  refine ⟨by omega, by omega, fun z => h2 (by omega), ?_⟩
  by_cases hb : b = -1
  · exact .inl hb
  · right
    rcases h4 with q | q
    · exact absurd (by simpa using q) hb
    · simpa using q
theorem insNo_nat {n : Nat} {p i b : Int} (h : insNo n p i b = false) : ∃ p' i' : Nat, p = (p' : Int) ∧ i = (i' : Int) := by
  unfold insNo at h
  simp only [Bool.or_eq_false_iff, Bool.not_eq_false', Bool.and_eq_true] at h
  obtain ⟨⟨h1, h2, h3⟩, h4⟩ := h
  obtain ⟨j1, e1, q1⟩ := isN_nat h1
  obtain ⟨j2, e2, q2⟩ := isN_nat h3
  exact ⟨j1, j2, e1, e2⟩
theorem parP_at {P : List Sp} {j : Nat} {s : Sp} (hs : P[j]? = some s) : parP P (j : Int) = if s.i then (s.p : Int) else -1 := by
  unfold parP
  rw [if_pos (by omega), Int.toNat_natCast, hs]

theorem deal_ins {Z : Nat → Prop} {w : World} {x y : Nat} {N : List Nd} {P : List Sp} {E : List En} {L : List RN} (h : Rel N P E L) {n : Nat} (hn : L.length = n) (hn2 : n ≤ 900000000) (p0 i0 b : Int) :
    ∃ v : Int, Deal Z w x y N P E L 24 #[ptr x, iv p0, iv i0, iv b] 33 #[ptr y, iv p0, iv i0, iv b] (iv v) := by
  cases hno : insNo n p0 i0 b with
  | true => exact ⟨4, deal_same h hn (fun S w' g1 cn k1 cs k2 ce o => rd_below (ins_no o hno)) (fun S w' g1 c o => rd_below (rins_no o hno))⟩
  | false =>
    obtain ⟨p, i, rfl, rfl⟩ := insNo_nat hno
    obtain ⟨hp, hi, hi0, hb⟩ := insNo_false hno
    obtain ⟨d, sp, ep, rp, hd, hsp, hep, hrp⟩ := h.atL (show p < L.length by rw [hn]; exact hp)
    obtain ⟨di, s, ei, r, hdi, hs, hei, hr⟩ := h.atL (show i < L.length by rw [hn]; exact hi)
    have hup := h.up i s r hs hr
    have hnd := h.ap p rp hrp
    have hkd := h.kd p ep rp hep hrp
    have hKf : rp.ks.length ≤ 1000000000 := by
      have := hkd.1.chain.len hnd
      rw [h.pl, hn] at this
      omega
    have hA := (h.nd p d rp hd hrp).2
    have ask : ∀ S w' g1 c, RO S w' y g1 n c L → RAsk w' y g1 n c L p i b r rp S := fun S w' g1 c o => ⟨o, hi0, hr, hrp, hb, hKf⟩
    have hin : ∀ k ∈ rp.ks, k < n := fun k hk => by
      obtain ⟨_, r', q, _⟩ := h.pk hrp hk
      rw [← hn]
      exact lt_of q
    -- is 'before' a kid?
    have hkid : ∀ j : Nat, b = (j : Int) → j < n → (parP P b = (p : Int) ↔ j ∈ rp.ks) := fun j hj hjn => by
      obtain ⟨_, sj, _, rj, _, hsj, _, hrj⟩ := h.atL (show j < L.length by rw [hn]; exact hjn)
      rw [hj, parP_at hsj, ← h.up j sj rj hsj hrj]
      constructor
      · intro e
        obtain ⟨q, rq, a1, a2, a3⟩ := h.kp j rj hrj (by rw [e]; omega)
        have e2 : q = p := by omega
        subst e2
        rw [hrp] at a2
        simp at a2
        subst a2
        exact a3
      · intro hm
        obtain ⟨_, r', a1, a2⟩ := h.pk hrp hm
        rw [hrj] at a1
        simp at a1
        subst a1
        exact a2
    by_cases hpr : r.p = -1
    · have hsi : s.i = false := by
        cases hq : s.i with
        | false => rfl
        | true => rw [hq, hpr] at hup; simp at hup
      cases hk : hold d.kind with
      | false =>
        have hbad : badP r rp b = true := by simp [badP, ← hA.kind, hk]
        exact ⟨3, deal_same h hn (fun S w' g1 cn k1 cs k2 ce o => rd_below (ins_kind o hp hi hi0 hb hs hsi hd hk)) (fun S w' g1 c o => rd_below (rins_bad (ask S w' g1 c o) hbad))⟩
      | true =>
        by_cases hbk : b = -1 ∨ ∃ j : Nat, b = (j : Int) ∧ j ∈ rp.ks
        · obtain ⟨m, m', bb, hu, hv⟩ := h.ups i p (by rw [hn]; exact hp)
          -- where it belongs
          have hpos : ∃ D T : List Nat, rp.ks = D ++ T ∧ atP rp b = (D.length : Int) ∧ ((b = -1 ∧ T = []) ∨ ∃ (j : Nat) (T' : List Nat), b = (j : Int) ∧ T = j :: T') := by
            rcases hbk with hb1 | ⟨j, hb1, hj⟩
            · exact ⟨rp.ks, [], by simp, by simp [atP, hb1], .inl ⟨hb1, rfl⟩⟩
            · obtain ⟨D, T, hK⟩ := List.append_of_mem hj
              have hD : j ∉ D := fun hm => by
                rw [hK] at hnd
                exact (List.nodup_append.1 hnd).2.2 j hm j (by simp) rfl
              refine ⟨D, j :: T, hK, ?_, .inr ⟨j, T, hb1, rfl⟩⟩
              unfold atP
              rw [if_neg (by omega), hb1, hK, plP_mem hD, Nat.zero_add]
          obtain ⟨D, T, hK, hat, hT⟩ := hpos
          have hgood : badP r rp b = false := by
            have : ¬ atP rp b < 0 := by rw [hat]; omega
            simp [badP, hpr, ← hA.kind, hk, this]
          have hrk : hold rp.d.kind = true := by rw [← hA.kind]; exact hk
          cases bb with
          | true =>
            refine ⟨3, deal_same h hn (fun S w' g1 cn k1 cs k2 ce o => rd_below (ins_below o hp hi hi0 ?_ hs hsi hd hk (within_rel o h (by rw [hn]; exact hi) hu hv))) (fun S w' g1 c o => rd_below (rins_up (ask S w' g1 c o) hpr hrk hu hgood))⟩
            rcases hT with ⟨hb1, _⟩ | ⟨j, T', hb1, hT1⟩
            · exact .inl hb1
            · have hj : j ∈ rp.ks := by rw [hK, hT1]; simp
              exact .inr ⟨by rw [hb1]; exact isN_lt (hin j hj), (hkid j hb1 (hin j hj)).2 hj⟩
          | false =>
            have hip : i ≠ p := fun e => by
              subst e
              have := hu.det .here
              cases this
            rw [hK] at hkd
            obtain ⟨mm, s1, s2⟩ := hkd.1.app
            refine ⟨0, deal_turn h hn (fun N' P' E' => N' = N ∧ P' = linkS P p i (lastOr 0 D) (headOr 0 T) ∧ E' = linkE E p i (lastOr 0 D) (headOr 0 T)) (fun L' => ∃ kv, L' = (L.set p (rp.kids kv (D ++ i :: T))).set i (r.par (p : Int))) (fun S w' g1 cn k1 cs k2 ce hz o => ?_) (fun S w' g1 c hz o => ?_) ?_ ⟨_, _, _, rfl, rfl, rfl⟩ ⟨_, iv 0, rfl⟩⟩
            · have hw := within_rel o h (by rw [hn]; exact hi) hu hv
              have hln : lastOr 0 D < n := by
                rcases lastOr_mem 0 D with z | z
                · rw [z]; omega
                · exact hin _ (by rw [hK]; exact List.mem_append_left _ z)
              rcases hT with ⟨rfl, rfl⟩ | ⟨j, T', rfl, rfl⟩
              · have hl : ep.l = lastOr 0 D := by rw [hkd.2, List.append_nil]
                refine (ins_last o hp hi hi0 hs hsi hd hk hw hep (by rw [hl]; exact hln)).mono ?_
                rintro e w2 ⟨rfl, o2, k2⟩
                rw [hl] at o2
                exact ⟨rfl, _, _, _, ⟨rfl, rfl, rfl⟩, o2.ar, k2⟩
              · have hj : j ∈ rp.ks := by rw [hK]; simp
                obtain ⟨e1, _, sj, hsj, _, _, hsa, _⟩ := s2
                refine (ins_at o hp hi hi0 hs hsi hd hk (hin j hj) hsj ((hkid j rfl (hin j hj)).2 hj) hw (by rw [hsa]; exact hln)).mono ?_
                rintro e w2 ⟨rfl, o2, k2⟩
                rw [hsa] at o2
                exact ⟨rfl, _, _, _, ⟨rfl, rfl, rfl⟩, o2.ar, k2⟩
            · have hfin : Calls Try.prog 33 #[ptr y, iv (p : Int), iv (i : Int), iv b] w' (fun e w'' => ∃ kv, e = .returned (iv 0) ∧ RO S w'' y g1 n c ((L.set p (rp.kids kv (D ++ i :: T))).set i (r.par (p : Int))) ∧ Keep S w' w'') := by
                have q := ask S w' g1 c o
                obtain ⟨ko, kc, hkv, hkc, _⟩ := (o.kds hrp).slice
                rcases (o.kds hrp).own.2 with ⟨q1, q2⟩ | ⟨kg, cap, cur, q1, _⟩
                · exact rins_good1 q hpr hrk hu hip hK rfl rfl hat q1 hgood
                · by_cases hcap : cap = D.length
                  · subst hcap
                    exact rins_good2 q hpr hrk hu hip hK rfl rfl hat q1 hgood
                  · exact rins_good3 q hpr hrk hu hip hK rfl rfl hat q1 hcap hgood
              refine hfin.mono ?_
              rintro e w2 ⟨kv, rfl, o2, k2⟩
              exact ⟨rfl, _, ⟨kv, rfl⟩, o2.ra, k2⟩
            · rintro N' P' E' L' ⟨rfl, rfl, rfl⟩ ⟨kv, rfl⟩
              exact ⟨rel_link h hrp hr hK hpr hi0 hu kv, by simp⟩
        · have hb2 : isN n b = true := by
            rcases hb with z | z
            · exact absurd (.inl z) hbk
            · exact z
          obtain ⟨j, hj, hjn⟩ := isN_nat hb2
          have hjk : j ∉ rp.ks := fun z => hbk (.inr ⟨j, hj, z⟩)
          have hbad : badP r rp b = true := by
            have h1 : atP rp b = -1 := by
              unfold atP
              rw [if_neg (by omega), plP_not (fun k hk e => hjk (by have : k = j := by omega
                                                                    rw [← this]; exact hk))]
            simp [badP, h1]
          exact ⟨3, deal_same h hn (fun S w' g1 cn k1 cs k2 ce o => rd_below (ins_other o hp hi hi0 hb2 hs hsi hd hk (fun e => hjk ((hkid j hj hjn).1 e)))) (fun S w' g1 c o => rd_below (rins_bad (ask S w' g1 c o) hbad))⟩
    · have hsi : s.i = true := by
        cases hq : s.i with
        | true => rfl
        | false => rw [hq] at hup; exact absurd hup hpr
      have hbad : badP r rp b = true := by simp [badP, hpr]
      exact ⟨3, deal_same h hn (fun S w' g1 cn k1 cs k2 ce o => rd_below (ins_in o hp hi hi0 hb hs hsi)) (fun S w' g1 c o => rd_below (rins_bad (ask S w' g1 c o) hbad))⟩
end Go.Proofs.Ytcdaghlbfclpkaa
