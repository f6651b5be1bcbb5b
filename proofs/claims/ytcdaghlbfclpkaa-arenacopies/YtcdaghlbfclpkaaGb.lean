/- Both trees of both arenas: the same, as values. -/
import Derived.Test.YtcdaghlbfclpkaaDl
import Derived.Test.YtcdaghlbfclpkaaBd
import Derived.Test.YtcdaghlbfclpkaaFc
namespace Go.Proofs.Ytcdaghlbfclpkaa
open Go.RowKit

/-- Who is whose kid. -/
structure Kin (n : Nat) (ks : Nat → List Nat) (pid : Nat → Int) : Prop where
  nd : ∀ p, p < n → (ks p).Nodup
  mem : ∀ p i, p < n → i < n → (i ∈ ks p ↔ pid i = (p : Int))
  rng : ∀ i, i < n → pid i = -1 ∨ ∃ p, p < n ∧ pid i = (p : Int)
  lt : ∀ p k, p < n → k ∈ ks p → k < n
def ksOf (L : List RN) (p : Nat) : List Nat := (L[p]?.map RN.ks).getD []
def pidOf (L : List RN) (p : Nat) : Int := (L[p]?.map RN.p).getD (-1)
theorem ksOf_of {L : List RN} {p : Nat} {r : RN} (h : L[p]? = some r) : ksOf L p = r.ks := by simp [ksOf, h]
theorem pidOf_of {L : List RN} {p : Nat} {r : RN} (h : L[p]? = some r) : pidOf L p = r.p := by simp [pidOf, h]
theorem Rel.kin {N : List Nd} {P : List Sp} {E : List En} {L : List RN} (h : Rel N P E L) : Kin L.length (ksOf L) (pidOf L) := by
  refine ⟨fun p hp => ?_, fun p i hp hi => ?_, fun i hi => ?_, fun p k hp hk => ?_⟩
  · rw [ksOf_of (List.getElem?_eq_getElem hp)]
    exact h.ap p _ (List.getElem?_eq_getElem hp)
  · have ep := List.getElem?_eq_getElem hp
    have ei := List.getElem?_eq_getElem hi
    rw [ksOf_of ep, pidOf_of ei]
    constructor
    · intro hm
      obtain ⟨_, r', q1, q2⟩ := h.pk ep hm
      rw [ei] at q1
      simp at q1
      rw [q1]
      exact q2
    · intro hm
      obtain ⟨q, rq, h1, h2, h3⟩ := h.kp i _ ei (by rw [hm]; omega)
      obtain rfl : p = q := by omega
      rw [ep] at h2
      simp at h2
      rw [h2]
      exact h3
  · have ei := List.getElem?_eq_getElem hi
    rw [pidOf_of ei]
    by_cases q : L[i].p = -1
    · exact .inl q
    · obtain ⟨p, rp, h1, h2, _⟩ := h.kp i _ ei q
      exact .inr ⟨p, lt_of h2, h1⟩
  · rw [ksOf_of (List.getElem?_eq_getElem hp)] at hk
    obtain ⟨_, r', q, _⟩ := h.pk (List.getElem?_eq_getElem hp) hk
    exact lt_of q
theorem Rel.parP {N : List Nd} {P : List Sp} {E : List En} {L : List RN} (h : Rel N P E L) {i : Nat} (hi : i < L.length) : parP P (i : Int) = pidOf L i := by
  obtain ⟨d, s, e, r, _, hs, _, hr⟩ := h.atL hi
  rw [pidOf_of hr, h.up i s r hs hr]
  simp [Ytcdaghlbfclpkaa.parP, hs]
/-- What the arena tells of its families, whatever is made besides. -/
structure Kinw (w : World) (x y n : Nat) (ks : Nat → List Nat) (pid : Nat → Int) : Prop where
  kin : Kin n ks pid
  few : n ≤ 100
  lnk : ∀ p, p < n → (ks p).length ≤ n
  len : ∀ w', Below w.heap.size w w' → Calls Try.prog 13 #[ptr x] w' (Rd (iv (n : Int)) w')
  kids : ∀ w' p, Below w.heap.size w w' → p < n → Calls Try.prog 17 #[ptr x, iv (p : Int)] w' (Kds (ks p) w')
  par : ∀ w' i, Below w.heap.size w w' → i < n → Calls Try.prog 14 #[ptr x, iv (i : Int)] w' (Rd (iv (pid i)) w')
  ref : ∃ g c, w.cell? ⟨y, 0, none⟩ = some (.slice (some ⟨g, 0, none⟩) n c)
theorem Deeds.below {w w' : World} {x y i : Nat} (h : Deeds w x y i w') : Below w.heap.size w w' := ⟨h.1.os, h.1.tape, h.1.output, h.1.size, fun k hk => h.1.block k hk hk⟩
theorem Deeds.kinw {w w' : World} {x y i : Nat} (h : Deeds w x y i w') (hi : i ≤ 60) : ∃ n ks pid, Kinw w' x y n ks pid := by
  obtain ⟨b, N, P, E, L, h1, h2, F, h3⟩ := h
  obtain ⟨g, n', cn, hh, cs, k, ce, o⟩ := h3.a.open (by rw [h1.nl]; exact h1.n0)
  obtain rfl : n' = L.length := by rw [← o.nn, h1.nl]
  obtain ⟨gr, nr, cr, o2⟩ := h3.r.open h1.n0
  obtain rfl : nr = L.length := o2.nn.symm
  have hk := h1.kin
  refine ⟨L.length, ksOf L, pidOf L, hk, by omega, fun p hp => ?_, fun w2 b2 => len_any (o.old b2), fun w2 p b2 hp => ?_, fun w2 i b2 hi => ?_, gr, cr, o2.c⟩
  · obtain ⟨d, s, e, r, _, _, he, hr⟩ := h1.atL hp
    have hf := (h1.kd p e r he hr).1.chain.len (h1.ap p r hr)
    rw [h1.pl] at hf
    rw [ksOf_of hr]
    exact hf
  · obtain ⟨d, s, e, r, _, _, he, hr⟩ := h1.atL hp
    have hf := (h1.kd p e r he hr).1.chain.len (h1.ap p r hr)
    rw [h1.pl] at hf
    rw [ksOf_of hr]
    exact kids_any (o.old b2) he (h1.kd p e r he hr).1.chain hf
  · rw [← h1.parP hi]
    exact parent_any (o.old b2) (i : Int)
/-- How often a node has been found. -/
def fnd (pid : Int) (p : Nat) : Int := if 0 ≤ pid ∧ pid < (p : Int) then 1 else 0
def fndj (pid : Int) (p : Nat) (id : Nat) (K : List Nat) (j : Nat) : Int := fnd pid p + if id ∈ K.take j then 1 else 0
theorem fndj_zero (pid : Int) (p id : Nat) (K : List Nat) : fndj pid p id K 0 = fnd pid p := by simp [fndj]
theorem fndj_no {pid : Int} {p id : Nat} {K : List Nat} {j k : Nat} (h : K[j]? = some k) (hk : k ≠ id) : fndj pid p id K (j + 1) = fndj pid p id K j := by
  have e : K.take (j + 1) = K.take j ++ [k] := by rw [List.take_add_one, h]; rfl
  simp [fndj, e, hk.symm]
theorem fndj_yes {pid : Int} {p id : Nat} {K : List Nat} {j : Nat} (h : K[j]? = some id) (hn : K.Nodup) : fndj pid p id K (j + 1) = fndj pid p id K j + 1 := by
  have e : K.take (j + 1) = K.take j ++ [id] := by rw [List.take_add_one, h]; rfl
  have : id ∉ K.take j := by
    have h2 : (K.take (j + 1)).Nodup := hn.sublist (List.take_sublist _ _)
    rw [e] at h2
    intro hm
    exact (List.nodup_append.1 h2).2.2 id hm id (by simp) rfl
  simp [fndj, e, this]
theorem fndj_all {n : Nat} {ks : Nat → List Nat} {pid : Nat → Int} (h : Kin n ks pid) {p id : Nat} (hp : p < n) (hi : id < n) : fndj (pid id) p id (ks p) (ks p).length = fnd (pid id) (p + 1) := by
  have := h.mem p id hp hi
  rw [fndj, List.take_length]
  unfold fnd
  by_cases q : pid id = (p : Int)
  · rw [if_pos (this.2 q), if_neg (by omega), if_pos (by omega)]; rfl
  · rw [if_neg (fun z => q (this.1 z))]
    by_cases q2 : 0 ≤ pid id ∧ pid id < (p : Int)
    · rw [if_pos q2, if_pos (by omega)]; rfl
    · rw [if_neg q2, if_neg (by omega)]; rfl
theorem fndj_le {pid : Int} {p id : Nat} {K : List Nat} {j : Nat} : 0 ≤ fndj pid p id K j ∧ fndj pid p id K j ≤ 2 := by
  unfold fndj fnd
  split <;> split <;> omega
theorem fnd_end {n : Nat} {ks : Nat → List Nat} {pid : Nat → Int} (h : Kin n ks pid) {id : Nat} (hi : id < n) : fnd (pid id) n = if pid id = -1 then 0 else 1 := by
  rcases h.rng id hi with q | ⟨p, hp, q⟩
  · rw [if_pos q, fnd, if_neg (by omega)]
  · rw [if_neg (by omega), fnd, if_pos (by omega)]
end Go.Proofs.Ytcdaghlbfclpkaa
namespace Go.Proofs.Ytcdaghlbfclpkaa

/-- a is x, or above x. -/
inductive Anc (pid : Nat → Int) (a : Nat) : Nat → Prop
  | refl : Anc pid a a
  | up {x p : Nat} (h : pid x = (p : Int)) (t : Anc pid a p) : Anc pid a x
theorem Anc.dp {pid : Nat → Int} {dp : Nat → Nat} (hd : ∀ k p : Nat, pid k = (p : Int) → dp p < dp k) {a x : Nat} (h : Anc pid a x) : dp a ≤ dp x := by
  induction h with
  | refl => exact Nat.le_refl _
  | up h _ ih => have := hd _ _ h; omega
theorem Anc.trans {pid : Nat → Int} {a b x : Nat} (h : Anc pid a b) (k : Anc pid b x) : Anc pid a x := by
  induction k with
  | refl => exact h
  | up hp _ ih => exact .up hp ih
theorem Anc.lin {pid : Nat → Int} {a b x : Nat} (h : Anc pid a x) (k : Anc pid b x) : Anc pid a b ∨ Anc pid b a := by
  induction h with
  | refl => exact .inr k
  | up hp t ih =>
    cases k with
    | refl => exact .inl (.up hp t)
    | up hp' t' =>
      rw [hp] at hp'
      have e := Int.ofNat.inj hp'
      subst e
      exact ih t'
theorem Anc.kids {pid : Nat → Int} {dp : Nat → Nat} (hd : ∀ k p : Nat, pid k = (p : Int) → dp p < dp k) {i k1 k2 x : Nat} (h1 : pid k1 = (i : Int)) (h2 : pid k2 = (i : Int)) (a1 : Anc pid k1 x) (a2 : Anc pid k2 x) : k1 = k2 := by
  have no : ∀ a b : Nat, pid a = (i : Int) → pid b = (i : Int) → Anc pid a b → a = b := fun a b ha hb h => by
    cases h with
    | refl => rfl
    | up hp t =>
      rw [hb] at hp
      have e := Int.ofNat.inj hp
      subst e
      have := t.dp hd
      have := hd _ _ ha
      omega
  rcases a1.lin a2 with h | h
  · exact no _ _ h1 h2 h
  · exact (no _ _ h2 h1 h).symm
/-- A node and all below it. -/
def famOf (ks : Nat → List Nat) : Nat → Nat → List Nat
  | 0, _ => []
  | f + 1, i => i :: (ks i).flatMap (famOf ks f)
theorem flat_nodup {α β : Type} (f : α → List β) : ∀ (l : List α), l.Nodup → (∀ a ∈ l, (f a).Nodup) → (∀ a ∈ l, ∀ b ∈ l, ∀ x, x ∈ f a → x ∈ f b → a = b) → (l.flatMap f).Nodup
  | [], _, _, _ => by simp
  | a :: l, hn, h1, h2 => by
    rw [List.flatMap_cons, List.nodup_append]
    refine ⟨h1 a (by simp), flat_nodup f l (List.nodup_cons.1 hn).2 (fun b hb => h1 b (by simp [hb])) (fun b hb c hc => h2 b (by simp [hb]) c (by simp [hc])), fun x hx y hy e => ?_⟩
    subst e
    obtain ⟨b, hb, hxb⟩ := List.mem_flatMap.1 hy
    have := h2 a (by simp) b (by simp [hb]) x hx hxb
    subst this
    exact (List.nodup_cons.1 hn).1 hb
section
variable {n : Nat} {ks : Nat → List Nat} {pid : Nat → Int} {dp : Nat → Nat}
theorem fam_lt (hk : Kin n ks pid) : ∀ (f i x : Nat), i < n → x ∈ famOf ks f i → x < n
  | 0, _, _, _, h => by simp [famOf] at h
  | f + 1, i, x, hi, h => by
    rcases List.mem_cons.1 h with rfl | h
    · exact hi
    · obtain ⟨k, h1, h2⟩ := List.mem_flatMap.1 h
      exact fam_lt hk f k x (hk.lt i k hi h1) h2
theorem fam_anc (hk : Kin n ks pid) : ∀ (f i x : Nat), i < n → x ∈ famOf ks f i → Anc pid i x
  | 0, _, _, _, h => by simp [famOf] at h
  | f + 1, i, x, hi, h => by
    rcases List.mem_cons.1 h with rfl | h
    · exact .refl
    · obtain ⟨k, h1, h2⟩ := List.mem_flatMap.1 h
      have hkn := hk.lt i k hi h1
      exact Anc.trans (.up ((hk.mem i k hi hkn).1 h1) .refl) (fam_anc hk f k x hkn h2)
theorem fam_nodup (hk : Kin n ks pid) (hd : ∀ k p : Nat, pid k = (p : Int) → dp p < dp k) : ∀ (f i : Nat), i < n → (famOf ks f i).Nodup
  | 0, _, _ => by simp [famOf]
  | f + 1, i, hi => by
    rw [famOf, List.nodup_cons]
    refine ⟨fun h => ?_, flat_nodup _ _ (hk.nd i hi) (fun k h1 => fam_nodup hk hd f k (hk.lt i k hi h1)) fun a ha b hb x hx hy => ?_⟩
    · obtain ⟨k, h1, h2⟩ := List.mem_flatMap.1 h
      have hkn := hk.lt i k hi h1
      have := (fam_anc hk f k i hkn h2).dp hd
      have := hd _ _ ((hk.mem i k hi hkn).1 h1)
      omega
    · have han := hk.lt i a hi ha
      have hbn := hk.lt i b hi hb
      exact Anc.kids hd ((hk.mem i a hi han).1 ha) ((hk.mem i b hi hbn).1 hb) (fam_anc hk f a x han hx) (fam_anc hk f b x hbn hy)
theorem fam_few (hk : Kin n ks pid) (hd : ∀ k p : Nat, pid k = (p : Int) → dp p < dp k) (f i : Nat) (hi : i < n) : (famOf ks f i).length ≤ n := by
  have := List.Nodup.length_le_of_subset (fam_nodup hk hd f i hi) (fun x hx => List.mem_range.2 (fam_lt hk f i x hi hx))
  simpa using this
/-- A bound of all depths. -/
def maxOf (dp : Nat → Nat) : Nat → Nat
  | 0 => 0
  | n + 1 => max (dp n) (maxOf dp n)
theorem maxOf_le (dp : Nat → Nat) : ∀ (n k : Nat), k < n → dp k ≤ maxOf dp n
  | n + 1, k, h => by
    rw [maxOf]
    rcases Nat.lt_succ_iff_lt_or_eq.1 h with h | rfl
    · have := maxOf_le dp n k h
      omega
    · omega
theorem flat_congr {α β : Type} {f g : α → List β} : ∀ {l : List α}, (∀ a ∈ l, f a = g a) → l.flatMap f = l.flatMap g
  | [], _ => rfl
  | a :: l, h => by rw [List.flatMap_cons, List.flatMap_cons, h a (by simp), flat_congr fun b hb => h b (by simp [hb])]
theorem flat_len {α β : Type} (f : α → List β) : ∀ l : List α, (l.flatMap f).length = (l.map fun a => (f a).length).sum
  | [] => rfl
  | a :: l => by rw [List.flatMap_cons, List.length_append, List.map_cons, List.sum_cons, flat_len f l]
theorem fam_same (hk : Kin n ks pid) (hd : ∀ k p : Nat, pid k = (p : Int) → dp p < dp k) : ∀ (f g i : Nat), i < n → maxOf dp n - dp i < f → maxOf dp n - dp i < g → famOf ks f i = famOf ks g i
  | 0, _, _, _, h, _ => absurd h (Nat.not_lt_zero _)
  | _ + 1, 0, _, _, _, h => absurd h (Nat.not_lt_zero _)
  | f + 1, g + 1, i, hi, h1, h2 => by
    rw [famOf, famOf]
    congr 1
    refine flat_congr fun k hk1 => ?_
    have hkn := hk.lt i k hi hk1
    have h3 := hd _ _ ((hk.mem i k hi hkn).1 hk1)
    have h4 := maxOf_le dp n k hkn
    exact fam_same hk hd f g k hkn (by omega) (by omega)
end
def szOf (ks : Nat → List Nat) (M i : Nat) : Nat := (famOf ks (M + 1) i).length
theorem sz_kids {n : Nat} {ks : Nat → List Nat} {pid : Nat → Int} {dp : Nat → Nat} (hk : Kin n ks pid) (hd : ∀ k p : Nat, pid k = (p : Int) → dp p < dp k) {i : Nat} (hi : i < n) : ((ks i).map (szOf ks (maxOf dp n))).sum < szOf ks (maxOf dp n) i := by
  have e : szOf ks (maxOf dp n) i = ((ks i).map (szOf ks (maxOf dp n))).sum + 1 := by
    rw [szOf, famOf, List.length_cons, flat_len]
    congr 2
    refine List.map_congr_left fun k hk1 => ?_
    have hkn := hk.lt i k hi hk1
    have h3 := hd _ _ ((hk.mem i k hi hkn).1 hk1)
    have h4 := maxOf_le dp n k hkn
    rw [szOf, fam_same hk hd (maxOf dp n) (maxOf dp n + 1) k hkn (by omega) (by omega)]
  omega
theorem Rel.fam {N : List Nd} {P : List Sp} {E : List En} {L : List RN} (h : Rel N P E L) : ∃ sz, Fam L.length N P E (ksOf L) sz ∧ ∀ i, i < L.length → sz i ≤ L.length := by
  obtain ⟨dp, hdp⟩ := h.dp
  have hk := h.kin
  have hd : ∀ k p : Nat, pidOf L k = (p : Int) → dp p < dp k := fun k p e => by
    cases hr : L[k]? with
    | none =>
      simp [pidOf, hr] at e
    | some r =>
      rw [pidOf_of hr] at e
      exact hdp k r p hr e
  have hno : ∀ i, ¬ i < L.length → ksOf L i = [] := fun i hi => by
    have : L[i]? = none := List.getElem?_eq_none (by omega)
    simp [ksOf, this]
  refine ⟨szOf (ksOf L) (maxOf dp L.length), ⟨fun i d hi => ?_, fun i e he => ?_, fun i => ?_, fun i k hm => ?_, fun d hm => ?_, fun i => ?_⟩, fun i hi => fam_few hk hd _ i hi⟩
  · obtain ⟨_, _, _, r, _, _, _, hr⟩ := h.atL (by rw [← h.nl]; exact lt_of hi)
    exact (h.nd i d r hi hr).1
  · obtain ⟨_, _, _, r, _, _, _, hr⟩ := h.atL (by rw [← h.el]; exact lt_of he)
    rw [ksOf_of hr]
    exact (h.kd i e r he hr).1.chain
  · by_cases hi : i < L.length
    · have := List.Nodup.length_le_of_subset (hk.nd i hi) (fun x hx => List.mem_range.2 (hk.lt i x hi hx))
      simpa using this
    · rw [hno i hi]
      simp
  · by_cases hi : i < L.length
    · exact hk.lt i k hi hm
    · rw [hno i hi] at hm
      simp at hm
  · obtain ⟨i, hi⟩ := List.getElem?_of_mem hm
    obtain ⟨_, _, _, r, _, _, _, hr⟩ := h.atL (by rw [← h.nl]; exact lt_of hi)
    rw [(h.nd i d r hi hr).2.al]
    exact h.al r (List.mem_of_getElem? hr)
  · by_cases hi : i < L.length
    · exact sz_kids hk hd hi
    · rw [hno i hi]
      simp [szOf, famOf]
end Go.Proofs.Ytcdaghlbfclpkaa
namespace Go.Proofs.Ytcdaghlbfclpkaa
open Go.RowKit

theorem NAt.at11 {B : Nat} {w : World} {d : Nd} {b off : Nat} {kv : Value} (h : NAt B w d b off kv) (hf : d.al.length ≤ 1000000000) : ∃ ao ac, CellsAt w b off (d.cs (.slice ao d.al.length ac) kv) ∧ AtRow w ao d.al ∧ (d.al ≠ [] → ∀ a, ao = some a → B ≤ a.block) := by
  obtain ⟨ao, ac, h5, hr⟩ := h.at5
  obtain ⟨ao', cap, he, ha⟩ := (hr.atr (by omega)).ex
  simp only [Value.slice.injEq, true_and] at he
  obtain ⟨rfl, rfl⟩ := he
  refine ⟨ao, ac, fun j u hj => ?_, ha, fun hn a e => ?_⟩
  · match j, hj with
    | 0, hj => exact (h.cs 0 (by decide) (by decide)).trans hj
    | 1, hj => exact (h.cs 1 (by decide) (by decide)).trans hj
    | 2, hj => exact (h.cs 2 (by decide) (by decide)).trans hj
    | 3, hj => exact (h.cs 3 (by decide) (by decide)).trans hj
    | 4, hj => exact (h.cs 4 (by decide) (by decide)).trans hj
    | 5, hj => exact h5.trans hj
    | 6, hj => exact (h.cs 6 (by decide) (by decide)).trans hj
    | 7, hj => exact (h.cs 7 (by decide) (by decide)).trans hj
    | 8, hj => exact (h.cs 8 (by decide) (by decide)).trans hj
    | 9, hj => exact (h.cs 9 (by decide) (by decide)).trans hj
    | 10, hj => exact h.c10.trans hj
    | n + 11, hj => simp [Nd.cs] at hj
  · obtain ⟨g, _, _, he, h1, _⟩ := hr.form (List.length_pos_iff.2 hn)
    simp only [Value.slice.injEq, true_and] at he
    rw [e] at he
    simp at he
    rw [he.1]
    exact Nat.le_of_not_lt h1
/-- What a node's own is, by its number. -/
def Same1 (N : List Nd) (D : Nat → Nd) : Prop := ∀ (i : Nat) d, N[i]? = some d → (∀ av kv, d.cs av kv = (D i).cs av kv) ∧ d.al = (D i).al ∧ d.al.length ≤ 1000000000
theorem TAt.tv {B : Nat} {w : World} {N : List Nd} {D : Nat → Nd} {K : Nat → List Nat} (hD : Same1 N D) {i b off : Nat} (h : TAt B w N K i b off) : ∃ q : Value × Value, B ≤ b ∧ b < w.heap.size ∧ CellsAt w b off ((D i).cs q.1 q.2) ∧ TV (fun k => B ≤ k) w D K i q.1 q.2 := by
  induction h with
  | mk hd h hp _ ih =>
    rename_i i b off kc kb ko d kp _
    obtain ⟨s1, s2, s3⟩ := hD i d hd
    obtain ⟨ao, ac, c1, c2, c3⟩ := h.at11 s3
    have each : ∀ j, j < (K i).length → ∃ q : Value × Value, ∀ k, (K i)[j]? = some k → B ≤ kb ∧ kb < w.heap.size ∧ CellsAt w kb (ko + j * 11) ((D k).cs q.1 q.2) ∧ TV (fun k => B ≤ k) w D K k q.1 q.2 := by
      intro j hj
      have e := List.getElem?_eq_getElem hj
      obtain ⟨q, h1, h2, h3, h4⟩ := ih j _ e
      refine ⟨q, fun k hk => ?_⟩
      rw [e] at hk
      simp at hk
      subst hk
      exact ⟨h1, h2, h3, h4⟩
    haveI : Inhabited (Value × Value) := ⟨(iv 0, iv 0)⟩
    obtain ⟨f, hf⟩ := Go.Deep.choose_lt each
    obtain ⟨cur, hc⟩ := h.ty
    refine ⟨(.slice ao (D i).al.length ac, .slice kp (K i).length kc), h.low, (Array.getElem?_eq_some_iff.1 hc).1, ?_, ?_⟩
    · rw [← s1, ← s2]
      exact c1
    · rw [s2] at c2 c3
      refine .mk (kb := kb) (ko := ko) (avs := fun j => (f j).1) (kvs := fun j => (f j).2) c2 c3 (fun hK => ⟨hp hK, ?_⟩) (fun j k hj => ?_) (fun j k hj => ?_)
      · have h0 := List.length_pos_iff.2 hK
        exact (hf 0 h0 _ (List.getElem?_eq_getElem h0)).1
      · obtain ⟨_, q2, q3, _⟩ := hf j (lt_of hj) k hj
        exact ⟨q2, q3⟩
      · exact (hf j (lt_of hj) k hj).2.2.2
/-- What Tree answers. -/
def TreeV (D : Nat → Nd) (K : Nat → List Nat) (i : Nat) (w : World) (e : Ending) (w' : World) : Prop :=
  ∃ ao ac kp kc, e = .returned (.agg #[iv (D i).id, iv (D i).kind, iv (D i).space, .string (D i).name, .string (D i).text, .slice ao (D i).al.length ac, iv (D i).sf, iv (D i).st, iv (D i).ef, iv (D i).et, .slice kp (K i).length kc]) ∧ Below w.heap.size w w' ∧ TV (fun k => w.heap.size ≤ k) w' D K i (.slice ao (D i).al.length ac) (.slice kp (K i).length kc)
theorem RTreed.v {D : Nat → Nd} {K : Nat → List Nat} {i : Nat} {w : World} {e : Ending} {w' : World} (h : RTreed D K i w e w') : TreeV D K i w e w' := by
  obtain ⟨ao, ac, kp, kc, h1, h2, h3⟩ := h
  exact ⟨ao, ac, kp, kc, h1, h2, h3.sub fun k hk => hk.1⟩
theorem treed_v {N : List Nd} {D : Nat → Nd} {K : Nat → List Nat} (hD : Same1 N D) {i : Nat} {d : Nd} (hd : N[i]? = some d) {w : World} {e : Ending} {w' : World} (h : Treed N K d i w e w') : TreeV D K i w e w' := by
  obtain ⟨ao, ac, kp, kc, kb, rfl, b, hr, hp, hk⟩ := h
  obtain ⟨s1, s2, s3⟩ := hD i d hd
  obtain ⟨ao', cap, he, ha⟩ := (hr.atr (by omega)).ex
  simp only [Value.slice.injEq, true_and] at he
  obtain ⟨rfl, rfl⟩ := he
  have hag : ∀ av kv : Value, Value.agg #[iv d.id, iv d.kind, iv d.space, .string d.name, .string d.text, av, iv d.sf, iv d.st, iv d.ef, iv d.et, kv] = .agg #[iv (D i).id, iv (D i).kind, iv (D i).space, .string (D i).name, .string (D i).text, av, iv (D i).sf, iv (D i).st, iv (D i).ef, iv (D i).et, kv] := fun av kv => by
    have := s1 av kv
    simp only [Nd.cs, List.cons.injEq, true_and, and_true] at this
    obtain ⟨e0, e1, e2, e3, e4, e6, e7, e8, e9⟩ := this
    rw [e0, e1, e2, e3, e4, e6, e7, e8, e9]
  refine ⟨ao, ac, kp, kc, by rw [hag, s2], b, ?_⟩
  have each : ∀ j, j < (K i).length → ∃ q : Value × Value, ∀ k, (K i)[j]? = some k → w.heap.size ≤ kb ∧ kb < w'.heap.size ∧ CellsAt w' kb (j * 11) ((D k).cs q.1 q.2) ∧ TV (fun k => w.heap.size ≤ k) w' D K k q.1 q.2 := by
    intro j hj
    have e := List.getElem?_eq_getElem hj
    obtain ⟨q, h1, h2, h3, h4⟩ := (hk j _ e).tv hD
    refine ⟨q, fun k hk => ?_⟩
    rw [e] at hk
    simp at hk
    subst hk
    exact ⟨h1, h2, h3, h4⟩
  haveI : Inhabited (Value × Value) := ⟨(iv 0, iv 0)⟩
  obtain ⟨f, hf⟩ := Go.Deep.choose_lt each
  rw [s2] at ha
  refine .mk (kb := kb) (ko := 0) (avs := fun j => (f j).1) (kvs := fun j => (f j).2) ha (fun hn a e => ?_) (fun hK => ⟨hp hK, ?_⟩) (fun j k hj => ?_) (fun j k hj => ?_)
  · rw [← s2] at hn
    obtain ⟨g, _, _, he, h1, _⟩ := hr.form (List.length_pos_iff.2 hn)
    simp only [Value.slice.injEq, true_and] at he
    rw [e] at he
    simp at he
    rw [he.1]
    exact Nat.le_of_not_lt h1
  · have h0 := List.length_pos_iff.2 hK
    exact (hf 0 h0 _ (List.getElem?_eq_getElem h0)).1
  · obtain ⟨_, q2, q3, _⟩ := hf j (lt_of hj) k hj
    rw [Nat.zero_add]
    exact ⟨q2, q3⟩
  · exact (hf j (lt_of hj) k hj).2.2.2
/-- Both arenas' trees, and what Equal says of two of them, whatever is made besides. -/
structure Trees (w : World) (x y : Nat) (D : Nat → Nd) (K : Nat → List Nat) : Prop where
  a : ∀ w', Below w.heap.size w w' → Calls Try.prog 20 #[ptr x, iv 0] w' (TreeV D K 0 w')
  r : ∀ w', Below w.heap.size w w' → Calls Try.prog 21 #[ptr y, iv 0] w' (TreeV D K 0 w')
theorem Two.trees {Z : Nat → Prop} {w : World} {x y : Nat} {N : List Nd} {P : List Sp} {E : List En} {L : List RN} (t : Two Z w x y N P E L) (h : Rel N P E L) (hn : L.length ≤ 1000000000) : ∃ D K, Trees w x y D K ∧
    ∀ (Q U : Nat → Prop) (w : World) (av kv av' kv' : Value), TV Q w D K 0 av kv → TV U w D K 0 av' kv' → Calls Try.prog 19 #[.agg #[iv (D 0).id, iv (D 0).kind, iv (D 0).space, .string (D 0).name, .string (D 0).text, av, iv (D 0).sf, iv (D 0).st, iv (D 0).ef, iv (D 0).et, kv], .agg #[iv (D 0).id, iv (D 0).kind, iv (D 0).space, .string (D 0).name, .string (D 0).text, av', iv (D 0).sf, iv (D 0).st, iv (D 0).ef, iv (D 0).et, kv']] w fun e w' => e = .returned (.bool true) ∧ Below w.heap.size w w' := by
  obtain ⟨sz, hF, hsz⟩ := h.fam
  obtain ⟨F, t⟩ := t
  obtain ⟨g, n', cn, hh, cs, k, ce, o⟩ := t.a.open (by rw [h.nl]; exact h.n0)
  obtain rfl : n' = L.length := by rw [← o.nn, h.nl]
  obtain ⟨gr, nr, cr, o2⟩ := t.r.open h.n0
  obtain ⟨D, hDr, hDa⟩ : ∃ D : Nat → Nd, (∀ (i : Nat) (r : RN), L[i]? = some r → D i = { r.d with id := (i : Int) }) ∧ ∀ i, (D i).al.length ≤ 1000000000 := by
    refine ⟨fun i => ((L[i]?.map fun r => ({ r.d with id := (i : Int) } : Nd)).getD (doc0 (iv 0))), fun i r hr => by simp [hr], fun i => ?_⟩
    cases hr : L[i]? with
    | none => simp [hr, doc0]
    | some r => simpa [hr] using h.al r (List.mem_of_getElem? hr)
  have hD : Same1 N D := fun i d hd => by
    obtain ⟨_, _, _, r, q1, _, _, hr⟩ := h.atL (by rw [← h.nl]; exact lt_of hd)
    rw [hd] at q1
    simp at q1
    obtain ⟨a1, a2⟩ := h.nd i d r hd hr
    have a3 := h.al r (List.mem_of_getElem? hr)
    rw [hDr i r hr]
    refine ⟨fun av kv => ?_, a2.al, by rw [a2.al]; exact a3⟩
    simp only [Nd.cs, a1, a2.kind, a2.space, a2.name, a2.text, a2.sf, a2.st, a2.ef, a2.et]
  have hlt : ∀ i k, k ∈ ksOf L i → sz k < sz i := fun i k hk => hF.lt i k hk
  obtain ⟨d0, _, _, r0, hd0, _, _, hr0⟩ := h.atL h.n0
  refine ⟨D, ksOf L, ⟨fun w' b => ?_, fun w' b => ?_⟩, fun Q U w av kv av' kv' h1 h2 => equal_any hlt (fun i => ?_) hDa _ 0 w av kv av' kv' (Nat.lt_succ_self _) h1 h2⟩
  · refine (tree_any (o.old b) hF (i := 0) hd0 (by have := hsz 0 h.n0; omega)).mono fun e w'' h => treed_v hD hd0 h
  · refine (rtree_any o2 hDr (fun i r hr => ksOf_of hr) h.al (fun r hr => ?_) hlt (fun i r k hr hk => ?_) _ 0 w' b h.n0 (Nat.lt_succ_self _)).mono fun e w'' h => RTreed.v h
    · obtain ⟨i, hi⟩ := List.getElem?_of_mem hr
      have := hF.ln i
      rw [ksOf_of hi] at this
      omega
    · obtain ⟨_, r', q, _⟩ := h.pk hr hk
      exact lt_of q
  · have := hF.ln i
    omega
end Go.Proofs.Ytcdaghlbfclpkaa
