/- The law ArenaFamilies: its walk. -/
import Derived.Test.YtcdaghlbfclpkaaDl
namespace Go.Proofs.Ytcdaghlbfclpkaa
open Go.RowKit

/-- Who is whose kid. -/
structure Kin (n : Nat) (ks : Nat → List Nat) (pid : Nat → Int) : Prop where
  nd : ∀ p, p < n → (ks p).Nodup
  mem : ∀ p i, p < n → i < n → (i ∈ ks p ↔ pid i = (p : Int))
  rng : ∀ i, i < n → pid i = -1 ∨ ∃ p, p < n ∧ pid i = (p : Int)
  lt : ∀ p k, p < n → k ∈ ks p → k < n
def ksOf (L : List RN) (p : Nat) : List Nat := (L[p]?.map RN.ks).getD []
def pidOf (L : List RN) (p : Nat) : Int := (L[p]?.map RN.p).getD (-1)
theorem ksOf_of {L : List RN} {p : Nat} {r : RN} (h : L[p]? = some r) : ksOf L p = r.ks := by simp [ksOf, h]
theorem pidOf_of {L : List RN} {p : Nat} {r : RN} (h : L[p]? = some r) : pidOf L p = r.p := by simp [pidOf, h]
theorem Rel.kin {N : List Nd} {P : List Sp} {E : List En} {L : List RN} (h : Rel N P E L) : Kin L.length (ksOf L) (pidOf L) := by
  refine ⟨fun p hp => ?_, fun p i hp hi => ?_, fun i hi => ?_, fun p k hp hk => ?_⟩
  · rw [ksOf_of (List.getElem?_eq_getElem hp)]
    exact h.ap p _ (List.getElem?_eq_getElem hp)
  · have ep := List.getElem?_eq_getElem hp
    have ei := List.getElem?_eq_getElem hi
    rw [ksOf_of ep, pidOf_of ei]
    constructor
    · intro hm
      obtain ⟨_, r', q1, q2⟩ := h.pk ep hm
      rw [ei] at q1
      simp at q1
      rw [q1]
      exact q2
    · intro hm
      obtain ⟨q, rq, h1, h2, h3⟩ := h.kp i _ ei (by rw [hm]; omega)
      obtain rfl : p = q := by omega
      rw [ep] at h2
      simp at h2
      rw [h2]
      exact h3
  · have ei := List.getElem?_eq_getElem hi
    rw [pidOf_of ei]
    by_cases q : L[i].p = -1
    · exact .inl q
    · obtain ⟨p, rp, h1, h2, _⟩ := h.kp i _ ei q
      exact .inr ⟨p, lt_of h2, h1⟩
  · rw [ksOf_of (List.getElem?_eq_getElem hp)] at hk
    obtain ⟨_, r', q, _⟩ := h.pk (List.getElem?_eq_getElem hp) hk
    exact lt_of q
theorem Rel.parP {N : List Nd} {P : List Sp} {E : List En} {L : List RN} (h : Rel N P E L) {i : Nat} (hi : i < L.length) : parP P (i : Int) = pidOf L i := by
  obtain ⟨d, s, e, r, _, hs, _, hr⟩ := h.atL hi
  rw [pidOf_of hr, h.up i s r hs hr]
  simp [Ytcdaghlbfclpkaa.parP, hs]
/-- What the arena tells of its families, whatever is made besides. -/
structure Kinw (w : World) (x y n : Nat) (ks : Nat → List Nat) (pid : Nat → Int) : Prop where
  kin : Kin n ks pid
  few : n ≤ 100
  lnk : ∀ p, p < n → (ks p).length ≤ n
  len : ∀ w', Below w.heap.size w w' → Calls Try.prog 13 #[ptr x] w' (Rd (iv (n : Int)) w')
  kids : ∀ w' p, Below w.heap.size w w' → p < n → Calls Try.prog 17 #[ptr x, iv (p : Int)] w' (Kds (ks p) w')
  par : ∀ w' i, Below w.heap.size w w' → i < n → Calls Try.prog 14 #[ptr x, iv (i : Int)] w' (Rd (iv (pid i)) w')
  ref : ∃ g c, w.cell? ⟨y, 0, none⟩ = some (.slice (some ⟨g, 0, none⟩) n c)
theorem Deeds.below {w w' : World} {x y i : Nat} (h : Deeds w x y i w') : Below w.heap.size w w' := ⟨h.1.os, h.1.tape, h.1.output, h.1.size, fun k hk => h.1.block k hk hk⟩
theorem Deeds.kinw {w w' : World} {x y i : Nat} (h : Deeds w x y i w') (hi : i ≤ 60) : ∃ n ks pid, Kinw w' x y n ks pid := by
  obtain ⟨b, N, P, E, L, h1, h2, F, h3⟩ := h
  obtain ⟨g, n', cn, hh, cs, k, ce, o⟩ := h3.a.open (by rw [h1.nl]; exact h1.n0)
  obtain rfl : n' = L.length := by rw [← o.nn, h1.nl]
  obtain ⟨gr, nr, cr, o2⟩ := h3.r.open h1.n0
  obtain rfl : nr = L.length := o2.nn.symm
  have hk := h1.kin
  refine ⟨L.length, ksOf L, pidOf L, hk, by omega, fun p hp => ?_, fun w2 b2 => len_any (o.old b2), fun w2 p b2 hp => ?_, fun w2 i b2 hi => ?_, gr, cr, o2.c⟩
  · obtain ⟨d, s, e, r, _, _, he, hr⟩ := h1.atL hp
    have hf := (h1.kd p e r he hr).1.chain.len (h1.ap p r hr)
    rw [h1.pl] at hf
    rw [ksOf_of hr]
    exact hf
  · obtain ⟨d, s, e, r, _, _, he, hr⟩ := h1.atL hp
    have hf := (h1.kd p e r he hr).1.chain.len (h1.ap p r hr)
    rw [h1.pl] at hf
    rw [ksOf_of hr]
    exact kids_any (o.old b2) he (h1.kd p e r he hr).1.chain hf
  · rw [← h1.parP hi]
    exact parent_any (o.old b2) (i : Int)
/-- How often a node has been found. -/
def fnd (pid : Int) (p : Nat) : Int := if 0 ≤ pid ∧ pid < (p : Int) then 1 else 0
def fndj (pid : Int) (p : Nat) (id : Nat) (K : List Nat) (j : Nat) : Int := fnd pid p + if id ∈ K.take j then 1 else 0
theorem fndj_zero (pid : Int) (p id : Nat) (K : List Nat) : fndj pid p id K 0 = fnd pid p := by simp [fndj]
theorem fndj_no {pid : Int} {p id : Nat} {K : List Nat} {j k : Nat} (h : K[j]? = some k) (hk : k ≠ id) : fndj pid p id K (j + 1) = fndj pid p id K j := by
  have e : K.take (j + 1) = K.take j ++ [k] := by rw [List.take_add_one, h]; rfl
  simp [fndj, e, hk.symm]
theorem fndj_yes {pid : Int} {p id : Nat} {K : List Nat} {j : Nat} (h : K[j]? = some id) (hn : K.Nodup) : fndj pid p id K (j + 1) = fndj pid p id K j + 1 := by
  have e : K.take (j + 1) = K.take j ++ [id] := by rw [List.take_add_one, h]; rfl
  have : id ∉ K.take j := by
    have h2 : (K.take (j + 1)).Nodup := hn.sublist (List.take_sublist _ _)
    rw [e] at h2
    intro hm
    exact (List.nodup_append.1 h2).2.2 id hm id (by simp) rfl
  simp [fndj, e, this]
theorem fndj_all {n : Nat} {ks : Nat → List Nat} {pid : Nat → Int} (h : Kin n ks pid) {p id : Nat} (hp : p < n) (hi : id < n) : fndj (pid id) p id (ks p) (ks p).length = fnd (pid id) (p + 1) := by
  have := h.mem p id hp hi
  rw [fndj, List.take_length]
  unfold fnd
  by_cases q : pid id = (p : Int)
  · rw [if_pos (this.2 q), if_neg (by omega), if_pos (by omega)]; rfl
  · rw [if_neg (fun z => q (this.1 z))]
    by_cases q2 : 0 ≤ pid id ∧ pid id < (p : Int)
    · rw [if_pos q2, if_pos (by omega)]; rfl
    · rw [if_neg q2, if_neg (by omega)]; rfl
theorem fndj_le {pid : Int} {p id : Nat} {K : List Nat} {j : Nat} : 0 ≤ fndj pid p id K j ∧ fndj pid p id K j ≤ 2 := by
  unfold fndj fnd
  split <;> split <;> omega
theorem fnd_end {n : Nat} {ks : Nat → List Nat} {pid : Nat → Int} (h : Kin n ks pid) {id : Nat} (hi : id < n) : fnd (pid id) n = if pid id = -1 then 0 else 1 := by
  rcases h.rng id hi with q | ⟨p, hp, q⟩
  · rw [if_pos q, fnd, if_neg (by omega)]
  · rw [if_neg (by omega), fnd, if_pos (by omega)]
end Go.Proofs.Ytcdaghlbfclpkaa
namespace Go.Proofs.Ytcdaghlbfclpkaa
open Go.RowKit

set_option maxHeartbeats 4000000 in
theorem families_any {w : World} {lo : Option Addr} {len cap : Nat} {l : List Dd} (hl : Dds w lo len cap l) (hm : len ≤ 9223372036854775807) (hs : ∀ (i : Nat) (T : Dd), l[i]? = some T → T.d.name.size ≤ 2000000000000000000 ∧ T.d.text.size ≤ 2000000000000000000 ∧ T.d.al.length ≤ 2000000000000000000) :
    Calls Try.prog 5 #[.slice lo len cap] w fun e w' => e = .returned (.bool true) ∧ Below w.heap.size w w' := by
  have HL : Hid (Dds w lo len cap l ∧ l.length = len ∧ (∀ (i : Nat) (T : Dd), l[i]? = some T → T.d.name.size ≤ 2000000000000000000 ∧ T.d.text.size ≤ 2000000000000000000 ∧ T.d.al.length ≤ 2000000000000000000)) := ⟨hl, hl.hlen, hs⟩
  clear hl hs
  go_enter Try.func5, Try.ntmps5
  go_wp2_with fail
  refine (new_any w).mono ?_
  rintro e w1 ⟨x, av, rfl, h1, b1⟩
  go_wp2_with fail
  refine (rnew_any w1).mono ?_
  rintro e w2 ⟨y, rfl, h2, b2⟩
  have HF : Hid (Fresh w x y w2) := fresh_prog b1 h1 b2 h2
  clear b1 h1 b2 h2
  have ks := size_any (HL.out.1.keep (Keep.old HF.out.1)) hm HL.out.2.2
  go_wp2_with fail
  refine ks.mono ?_
  clear ks
  rintro e w3 ⟨r, rfl, b3, hr⟩
  have HR : Hid (r = true → ∀ (i : Nat) (T : Dd), l[i]? = some T → T.d.al.length < 5000) := hr
  have HD : Hid (Deeds w x y 0 w3) := by
    obtain ⟨b, N, P, E, L, h1, h2, h3⟩ := HF.out.deeds
    exact ⟨b.trans (Keep.old b3), N, P, E, L, h1, h2, h3.old b3⟩
  have HB : Hid (Below w.heap.size w w3) := HF.out.1.trans (b3.mono HF.out.1.size)
  clear hr b3 HF
  cases r with
  | false =>
    go_wp2_with fail
    refine (awake_any w3).mono ?_
    rintro e w4 ⟨rfl, b4⟩
    go_wp2_with fail
    go_ret
    exact ⟨rfl, HB.out.trans (b4.mono HB.out.size)⟩
  | true =>
    have HS : Hid (∀ (i : Nat) (T : Dd), l[i]? = some T → T.d.al.length < 5000) := HR.out rfl
    clear HR HB
    go_wp2_with fail
    go_loopg [5] len (fun g2 iv wr => ∃ (i : Nat), iv = .int .i64 i ∧ i + g2 = len ∧ i ≤ 60 ∧ Hid (Deeds w x y i wr))
    case atStart => exact ⟨0, rfl, by omega, by omega, HD⟩
    case round =>
      obtain ⟨i, rfl, hig, hi6, HI⟩ := hrel
      by_cases hgo : i < len ∧ i < 60
      · obtain ⟨k, rfl⟩ : ∃ k, gk = k + 1 := ⟨gk - 1, by omega⟩
        have hin : i < len := hgo.1
        have h60 : i < 60 := hgo.2
        have g1 : decide ((i : Int) < (len : Int)) = true := decide_eq_true (by omega)
        have g2 : decide ((i : Int) < 60) = true := decide_eq_true (by omega)
        clear hgo
        obtain ⟨T, hT⟩ : ∃ T, l[i]? = some T := ⟨_, List.getElem?_eq_getElem (by rw [HL.out.2.1]; exact hin)⟩
        have kd := HI.out.next (by omega) ((HL.out.1.row i T hT).elim fun b q => q.elim fun o z => z.2.2.2) (by have := HS.out i T hT; omega)
        obtain ⟨b, off, rfl, hb, hc, _⟩ := (HL.out.1.keep HI.out.1).row i T hT
        have c0 : wr.cell? ⟨b, off + i * 15, none⟩ = some (iv T.k) := hc 0 _ rfl
        have c1 : wr.cell? ⟨b, off + i * 15 + 1, none⟩ = some (iv T.a) := hc 1 _ rfl
        have c2 : wr.cell? ⟨b, off + i * 15 + 2, none⟩ = some (iv T.b) := hc 2 _ rfl
        have c3 : wr.cell? ⟨b, off + i * 15 + 3, none⟩ = some (iv T.c) := hc 3 _ rfl
        have c4 : wr.cell? ⟨b, off + i * 15 + 4, none⟩ = some (iv T.d.id) := hc 4 _ rfl
        have c5 : wr.cell? ⟨b, off + i * 15 + 5, none⟩ = some (iv T.d.kind) := hc 5 _ rfl
        have c6 : wr.cell? ⟨b, off + i * 15 + 6, none⟩ = some (iv T.d.space) := hc 6 _ rfl
        have c7 : wr.cell? ⟨b, off + i * 15 + 7, none⟩ = some (.string T.d.name) := hc 7 _ rfl
        have c8 : wr.cell? ⟨b, off + i * 15 + 8, none⟩ = some (.string T.d.text) := hc 8 _ rfl
        have c9 : wr.cell? ⟨b, off + i * 15 + 9, none⟩ = some (.slice T.ao T.d.al.length T.ac) := hc 9 _ rfl
        have c10 : wr.cell? ⟨b, off + i * 15 + 10, none⟩ = some (iv T.d.sf) := hc 10 _ rfl
        have c11 : wr.cell? ⟨b, off + i * 15 + 11, none⟩ = some (iv T.d.st) := hc 11 _ rfl
        have c12 : wr.cell? ⟨b, off + i * 15 + 12, none⟩ = some (iv T.d.ef) := hc 12 _ rfl
        have c13 : wr.cell? ⟨b, off + i * 15 + 13, none⟩ = some (iv T.d.et) := hc 13 _ rfl
        have c14 : wr.cell? ⟨b, off + i * 15 + 14, none⟩ = some (.slice T.ko T.kn T.kc) := hc 14 _ rfl
        clear hc hT
        go_wp2_with fail
        refine kd.mono ?_
        rintro e w5 ⟨rfl, HJ⟩
        go_wp2_with fail
        go_roundg k
        case measure => omega
        case rel => exact ⟨i + 1, by go_num, by omega, by omega, HJ⟩
      · obtain ⟨n, ks, pid, hK⟩ := HI.out.kinw hi6
        have HK : Hid (Kinw wr x y n ks pid) := hK
        have HB2 : Hid (Below w.heap.size w wr) := HI.out.below
        clear hK HI HL HS
        by_cases hin : i < len
        case' pos =>
          have g1 : decide ((i : Int) < (len : Int)) = true := decide_eq_true (by omega)
          have g2 : decide ((i : Int) < 60) = false := decide_eq_false (by omega)
          have g2' : ¬ (i : Int) < 60 := by omega
          have g2'' : ¬ i < 60 := by omega
        case' neg =>
          have g1 : decide ((i : Int) < (len : Int)) = false := decide_eq_false (by omega)
        all_goals (clear hgo hig hi6; go_wp2_with fail)
        all_goals
          obtain ⟨W0, hW0⟩ : ∃ W0, W0 = wr := ⟨_, rfl⟩
          subst hW0
          have c13 := HK.out.len W0 (Below.refl _ _)
          obtain ⟨gy, cy, cy0⟩ := HK.out.ref
          have hfew := HK.out.few
          refine c13.mono ?_
          clear c13
          rintro e w6 ⟨rfl, h6⟩
          rw [h6]
          clear h6
          have hnn : ((n : Int) == (n : Int)) = true := by simp
          go_wp2_with fail
          clear cy0 hnn
          go_loopg [7] n (fun g2 iv wq => ∃ id : Nat, iv = .int .i64 id ∧ id + g2 = n ∧ Hid (Below W0.heap.size W0 wq))
          case atStart => exact ⟨0, rfl, by omega, Below.refl _ _⟩
          case round =>
            obtain ⟨id, rfl, hig, HQ⟩ := hrel
            obtain ⟨W1, hW1⟩ : ∃ W1, W1 = wr := ⟨_, rfl⟩
            subst hW1
            cases gk with
            | zero =>
              obtain rfl : id = n := by omega
              have hg0 : decide ((id : Int) < (id : Int)) = false := decide_eq_false (by omega)
              go_wp2_with fail
              refine (awake_any _).mono ?_
              rintro e w7 ⟨rfl, b7⟩
              go_wp2_with fail
              go_ret
              have b8 := HB2.out.trans (HQ.out.mono HB2.out.size)
              exact ⟨rfl, b8.trans (b7.mono b8.size)⟩
            | succ k =>
              have hidn : id < n := by omega
              have g3 : decide ((id : Int) < (n : Int)) = true := decide_eq_true (by omega)
              go_wp2_with fail
              go_loopg [8, 9] n (fun g4 fv pv wq => ∃ p : Nat, pv = .int .i64 p ∧ fv = .int .i64 (fnd (pid id) p) ∧ p + g4 = n ∧ Hid (Below W0.heap.size W0 wq))
              case atStart => exact ⟨0, rfl, by unfold fnd; rw [if_neg (by omega)], by omega, HQ⟩
              case round =>
                obtain ⟨p, rfl, rfl, hpg, HP⟩ := hrel
                obtain ⟨W2, hW2⟩ : ∃ W2, W2 = wr := ⟨_, rfl⟩
                subst hW2
                cases gk with
                | zero =>
                  obtain rfl : p = n := by omega
                  have hg4 : decide ((p : Int) < (p : Int)) = false := decide_eq_false (by omega)
                  have c14 := HK.out.par W2 id HP.out hidn
                  have hfe := fnd_end HK.out.kin hidn
                  rcases HK.out.kin.rng id hidn with q | ⟨pp, hpp, q⟩
                  · rw [q] at c14
                    rw [if_pos q] at hfe
                    rw [hfe]
                    clear hfe
                    have hf1 : decide ((-1 : Int) ≥ 0) = false := rfl
                    go_wp2_with fail
                    refine c14.mono ?_
                    rintro e w7 ⟨rfl, h7⟩
                    rw [h7]
                    go_wp2_with fail
                    go_roundg k
                    case measure => omega
                    case rel => exact ⟨id + 1, by go_num, by omega, HP⟩
                  · rw [q] at c14
                    rw [if_neg (by omega)] at hfe
                    rw [hfe]
                    clear hfe
                    have hf1 : decide ((pp : Int) ≥ 0) = true := decide_eq_true (by omega)
                    go_wp2_with fail
                    refine c14.mono ?_
                    rintro e w7 ⟨rfl, h7⟩
                    rw [h7]
                    go_wp2_with fail
                    go_roundg k
                    case measure => omega
                    case rel => exact ⟨id + 1, by go_num, by omega, HP⟩
                | succ k2 => 
                  have hpn : p < n := by omega
                  have g4 : decide ((p : Int) < (n : Int)) = true := decide_eq_true (by omega)
                  have c17 := HK.out.kids W2 p HP.out hpn
                  go_wp2_with fail
                  refine c17.mono ?_
                  clear c17
                  rintro e W3 ⟨kv, rfl, b3, kr⟩
                  obtain ⟨ka, kc, rfl, _⟩ := kr.slice
                  have HKR : Hid (Rw (fun k => k < W2.heap.size) W3 3 1 (.slice ka (ks p).length kc) (ks p).length (iL (ks p))) := kr
                  obtain ⟨kl, hkl⟩ : ∃ kl, (ks p).length = kl := ⟨_, rfl⟩
                  rw [hkl] at HKR ⊢
                  have HKL : Hid ((ks p).length = kl) := hkl
                  have hkl9 : kl ≤ 100 := by have := HK.out.lnk p hpn; have := HKL.out; have := HK.out.few; omega
                  have HP3 : Hid (Below W0.heap.size W0 W3) := HP.out.trans (b3.mono HP.out.size)
                  clear kr hkl b3
                  go_wp2_with fail
                  go_loopg [8, 11] kl (fun g5 fv jv wq => ∃ j : Nat, jv = .int .i64 j ∧ fv = .int .i64 (fndj (pid id) p id (ks p) j) ∧ j + g5 = kl ∧ Hid (Below W3.heap.size W3 wq))
                  case atStart => exact ⟨0, rfl, by rw [fndj_zero], by omega, Below.refl _ _⟩
                  case round =>
                    obtain ⟨j, rfl, rfl, hjg, HJ⟩ := hrel
                    obtain ⟨W4, hW4⟩ : ∃ W4, W4 = wr := ⟨_, rfl⟩
                    subst hW4
                    cases gk with
                    | zero =>
                      obtain rfl : j = kl := by omega
                      have hg5 : decide ((j : Int) < (j : Int)) = false := decide_eq_false (by omega)
                      have hall := fndj_all HK.out.kin hpn hidn
                      rw [HKL.out] at hall
                      rw [hall]
                      clear hall
                      go_wp2_with fail
                      go_roundg k2
                      case measure => omega
                      case rel => exact ⟨p + 1, by go_num, rfl, by omega, HP3.out.trans (HJ.out.mono HP3.out.size)⟩
                    | succ k3 =>
                      have hjl : j < kl := by omega
                      have g5 : decide ((j : Int) < (kl : Int)) = true := decide_eq_true (by omega)
                      obtain ⟨xk, hxk⟩ : ∃ xk, (ks p)[j]? = some xk := ⟨_, List.getElem?_eq_getElem (by rw [HKL.out]; exact hjl)⟩
                      obtain ⟨kg, kc', _, he, _⟩ := HKR.out.form (by omega)
                      simp only [Value.slice.injEq, true_and] at he
                      obtain ⟨rfl, rfl⟩ := he
                      have cx : W4.cell? ⟨kg, j, none⟩ = some (iv (xk : Int)) := (HKR.out.old HJ.out).cell (by simp [iL, hxk])
                      have c14 := HK.out.par W4 id (HP3.out.trans (HJ.out.mono HP3.out.size)) hidn
                      have hbd := @fndj_le (pid id) p id (ks p) j
                      by_cases hxi : xk = id
                      · subst hxi
                        have hyes := fndj_yes (pid := pid xk) (p := p) hxk (HK.out.kin.nd p hpn)
                        have hpi := (HK.out.kin.mem p xk hpn hidn).1 (List.mem_of_getElem? hxk)
                        rw [hpi] at c14
                        obtain ⟨f, hf⟩ : ∃ f, fndj (pid xk) p xk (ks p) j = f := ⟨_, rfl⟩
                        rw [hf] at hyes hbd ⊢
                        have HY : Hid (fndj (pid xk) p xk (ks p) (j + 1) = f + 1) := hyes
                        clear hyes hf hpi hxk
                        have hwr : IntKind.i64.wrap (f + 1) = f + 1 := by rw [IntKind.wrap_i64]; omega
                        have hee : ((xk : Int) == (xk : Int)) = true := by simp
                        have hpe : ((p : Int) == (p : Int)) = true := by simp
                        go_wp2_with fail
                        refine c14.mono ?_
                        rintro e w7 ⟨rfl, h7⟩
                        rw [h7]
                        go_wp2_with fail
                        go_roundg k3
                        case measure => omega
                        case rel => exact ⟨j + 1, by go_num, by rw [HY.out], by omega, HJ⟩
                      · have hno := fndj_no (pid := pid id) (p := p) hxk hxi
                        have hee : ((xk : Int) == (id : Int)) = false := by simp; omega
                        have hee' : ¬ (xk : Int) = (id : Int) := by omega
                        have HY : Hid (fndj (pid id) p id (ks p) (j + 1) = fndj (pid id) p id (ks p) j) := hno
                        clear hno hxk c14 hxi
                        go_wp2_with fail
                        go_roundg k3
                        case measure => omega
                        case rel => exact ⟨j + 1, by go_num, by rw [HY.out], by omega, HJ⟩
end Go.Proofs.Ytcdaghlbfclpkaa
