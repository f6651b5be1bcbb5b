/- Pure: who is whose kid; what the arena tells of it. -/
import Derived.Test.YtcdaghlbfclpkaaDl
namespace Go.Proofs.Ytcdaghlbfclpkaa
open Go.RowKit

/-- Who is whose kid. -/
structure Kin (n : Nat) (ks : Nat → List Nat) (pid : Nat → Int) : Prop where
  nd : ∀ p, p < n → (ks p).Nodup
  mem : ∀ p i, p < n → i < n → (i ∈ ks p ↔ pid i = (p : Int))
  rng : ∀ i, i < n → pid i = -1 ∨ ∃ p, p < n ∧ pid i = (p : Int)
  lt : ∀ p k, p < n → k ∈ ks p → k < n
def ksOf (L : List RN) (p : Nat) : List Nat := (L[p]?.map RN.ks).getD []
def pidOf (L : List RN) (p : Nat) : Int := (L[p]?.map RN.p).getD (-1)
theorem ksOf_of {L : List RN} {p : Nat} {r : RN} (h : L[p]? = some r) : ksOf L p = r.ks := by simp [ksOf, h]
theorem pidOf_of {L : List RN} {p : Nat} {r : RN} (h : L[p]? = some r) : pidOf L p = r.p := by simp [pidOf, h]
theorem Rel.kin {N : List Nd} {P : List Sp} {E : List En} {L : List RN} (h : Rel N P E L) : Kin L.length (ksOf L) (pidOf L) := by
  refine ⟨fun p hp => ?_, fun p i hp hi => ?_, fun i hi => ?_, fun p k hp hk => ?_⟩
  · rw [ksOf_of (List.getElem?_eq_getElem hp)]
    exact h.ap p _ (List.getElem?_eq_getElem hp)
  · have ep := List.getElem?_eq_getElem hp
    have ei := List.getElem?_eq_getElem hi
    rw [ksOf_of ep, pidOf_of ei]
    constructor
    · intro hm
      obtain ⟨_, r', q1, q2⟩ := h.pk ep hm
      rw [ei] at q1
      simp at q1
      rw [q1]
      exact q2
    · intro hm
      obtain ⟨q, rq, h1, h2, h3⟩ := h.kp i _ ei (by rw [hm]; omega)
      obtain rfl : p = q := by omega
      rw [ep] at h2
      simp at h2
      rw [h2]
      exact h3
  · have ei := List.getElem?_eq_getElem hi
    rw [pidOf_of ei]
    by_cases q : L[i].p = -1
    · exact .inl q
    · obtain ⟨p, rp, h1, h2, _⟩ := h.kp i _ ei q
      exact .inr ⟨p, lt_of h2, h1⟩
  · rw [ksOf_of (List.getElem?_eq_getElem hp)] at hk
    obtain ⟨_, r', q, _⟩ := h.pk (List.getElem?_eq_getElem hp) hk
    exact lt_of q
theorem Rel.parP {N : List Nd} {P : List Sp} {E : List En} {L : List RN} (h : Rel N P E L) {i : Nat} (hi : i < L.length) : parP P (i : Int) = pidOf L i := by
  obtain ⟨d, s, e, r, _, hs, _, hr⟩ := h.atL hi
  rw [pidOf_of hr, h.up i s r hs hr]
  simp [Ytcdaghlbfclpkaa.parP, hs]
/-- What the arena tells of its families, whatever is made besides. -/
structure Kinw (w : World) (x y n : Nat) (ks : Nat → List Nat) (pid : Nat → Int) : Prop where
  kin : Kin n ks pid
  few : n ≤ 100
  lnk : ∀ p, p < n → (ks p).length ≤ n
  len : ∀ w', Below w.heap.size w w' → Calls Try.prog 13 #[ptr x] w' (Rd (iv (n : Int)) w')
  kids : ∀ w' p, Below w.heap.size w w' → p < n → Calls Try.prog 17 #[ptr x, iv (p : Int)] w' (Kds (ks p) w')
  par : ∀ w' i, Below w.heap.size w w' → i < n → Calls Try.prog 14 #[ptr x, iv (i : Int)] w' (Rd (iv (pid i)) w')
  ref : ∃ g c, w.cell? ⟨y, 0, none⟩ = some (.slice (some ⟨g, 0, none⟩) n c)
theorem Deeds.below {w w' : World} {x y i : Nat} (h : Deeds w x y i w') : Below w.heap.size w w' := ⟨h.1.os, h.1.tape, h.1.output, h.1.size, fun k hk => h.1.block k hk hk⟩
theorem Deeds.kinw {w w' : World} {x y i : Nat} (h : Deeds w x y i w') (hi : i ≤ 60) : ∃ n ks pid, Kinw w' x y n ks pid := by
  obtain ⟨b, N, P, E, L, h1, h2, F, h3⟩ := h
  obtain ⟨g, n', cn, hh, cs, k, ce, o⟩ := h3.a.open (by rw [h1.nl]; exact h1.n0)
  obtain rfl : n' = L.length := by rw [← o.nn, h1.nl]
  obtain ⟨gr, nr, cr, o2⟩ := h3.r.open h1.n0
  obtain rfl : nr = L.length := o2.nn.symm
  have hk := h1.kin
  refine ⟨L.length, ksOf L, pidOf L, hk, by omega, fun p hp => ?_, fun w2 b2 => len_any (o.old b2), fun w2 p b2 hp => ?_, fun w2 i b2 hi => ?_, gr, cr, o2.c⟩
  · obtain ⟨d, s, e, r, _, _, he, hr⟩ := h1.atL hp
    have hf := (h1.kd p e r he hr).1.chain.len (h1.ap p r hr)
    rw [h1.pl] at hf
    rw [ksOf_of hr]
    exact hf
  · obtain ⟨d, s, e, r, _, _, he, hr⟩ := h1.atL hp
    have hf := (h1.kd p e r he hr).1.chain.len (h1.ap p r hr)
    rw [h1.pl] at hf
    rw [ksOf_of hr]
    exact kids_any (o.old b2) he (h1.kd p e r he hr).1.chain hf
  · rw [← h1.parP hi]
    exact parent_any (o.old b2) (i : Int)
/-- How often a node has been found. -/
def fnd (pid : Int) (p : Nat) : Int := if 0 ≤ pid ∧ pid < (p : Int) then 1 else 0
def fndj (pid : Int) (p : Nat) (id : Nat) (K : List Nat) (j : Nat) : Int := fnd pid p + if id ∈ K.take j then 1 else 0
theorem fndj_zero (pid : Int) (p id : Nat) (K : List Nat) : fndj pid p id K 0 = fnd pid p := by simp [fndj]
theorem fndj_no {pid : Int} {p id : Nat} {K : List Nat} {j k : Nat} (h : K[j]? = some k) (hk : k ≠ id) : fndj pid p id K (j + 1) = fndj pid p id K j := by
  have e : K.take (j + 1) = K.take j ++ [k] := by rw [List.take_add_one, h]; rfl
  simp [fndj, e, hk.symm]
theorem fndj_yes {pid : Int} {p id : Nat} {K : List Nat} {j : Nat} (h : K[j]? = some id) (hn : K.Nodup) : fndj pid p id K (j + 1) = fndj pid p id K j + 1 := by
  have e : K.take (j + 1) = K.take j ++ [id] := by rw [List.take_add_one, h]; rfl
  have : id ∉ K.take j := by
    have h2 : (K.take (j + 1)).Nodup := hn.sublist (List.take_sublist _ _)
    rw [e] at h2
    intro hm
    exact (List.nodup_append.1 h2).2.2 id hm id (by simp) rfl
  simp [fndj, e, this]
theorem fndj_all {n : Nat} {ks : Nat → List Nat} {pid : Nat → Int} (h : Kin n ks pid) {p id : Nat} (hp : p < n) (hi : id < n) : fndj (pid id) p id (ks p) (ks p).length = fnd (pid id) (p + 1) := by
  have := h.mem p id hp hi
  rw [fndj, List.take_length]
  unfold fnd
  by_cases q : pid id = (p : Int)
  · rw [if_pos (this.2 q), if_neg (by omega), if_pos (by omega)]; rfl
  · rw [if_neg (fun z => q (this.1 z))]
    by_cases q2 : 0 ≤ pid id ∧ pid id < (p : Int)
    · rw [if_pos q2, if_pos (by omega)]; rfl
    · rw [if_neg q2, if_neg (by omega)]; rfl
theorem fndj_le {pid : Int} {p id : Nat} {K : List Nat} {j : Nat} : 0 ≤ fndj pid p id K j ∧ fndj pid p id K j ≤ 2 := by
  unfold fndj fnd
  split <;> split <;> omega
theorem fnd_end {n : Nat} {ks : Nat → List Nat} {pid : Nat → Int} (h : Kin n ks pid) {id : Nat} (hi : id < n) : fnd (pid id) n = if pid id = -1 then 0 else 1 := by
  rcases h.rng id hi with q | ⟨p, hp, q⟩
  · rw [if_pos q, fnd, if_neg (by omega)]
  · rw [if_neg (by omega), fnd, if_pos (by omega)]
end Go.Proofs.Ytcdaghlbfclpkaa
