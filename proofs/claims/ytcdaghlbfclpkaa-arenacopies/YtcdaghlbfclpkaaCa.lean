/- The document's arena in memory; its small calls that only read. -/
import Derived.Test.YtcdaghlbfclpkaaBf
namespace Go.Proofs.Ytcdaghlbfclpkaa
open Go.RowKit

/-- A node of the document's arena: its own, its parent, its kids. -/
structure RN where
  d : Nd
  p : Int
  kv : Value
  ks : List Nat
def RN.cells (r : RN) : List Value := [iv r.d.id, iv r.d.kind, iv r.d.space, .string r.d.name, .string r.d.text, r.d.av, iv r.d.sf, iv r.d.st, iv r.d.ef, iv r.d.et, .slice none 0 0, iv r.p, r.kv]
theorem info68 : (Try.prog.info? 68).map (fun i => (i.zero, i.size, i.bytes)) = some (some (.agg #[.int .i64 0, .int .i64 0, .int .i64 0, .string ByteArray.empty, .string ByteArray.empty, .slice none 0 0, .int .i64 0, .int .i64 0, .int .i64 0, .int .i64 0, .slice none 0 0, .int .i64 0, .slice none 0 0]), 13, 168) := by kernel_rfl
/-- The document's arena in block x: its row. -/
structure RaV (S : Nat → Prop) (w : World) (x : Nat) (rv : Value) (L : List RN) : Prop where
  low : ∀ k, S k → k < w.heap.size
  hx : ¬ S x
  blk : w.heap[x]? = some (.cells #[rv] 41 (0, 0))
  nr : Rw S w 68 13 rv L.length (L.flatMap RN.cells)
  ats : ∀ r ∈ L, Rw S w 53 2 r.d.av r.d.al.length (r.d.al.flatMap At.cells)
  kds : ∀ r ∈ L, Rw S w 3 1 r.kv r.ks.length (iL r.ks)
  few : L.length ≤ 1000000000
def Ra (S : Nat → Prop) (w : World) (x : Nat) (L : List RN) : Prop := ∃ rv, RaV S w x rv L
theorem RaV.old {S : Nat → Prop} {w w' : World} {x : Nat} {rv : Value} {L : List RN} (h : RaV S w x rv L) (b : Below w.heap.size w w') : RaV S w' x rv L :=
  ⟨fun k hk => Nat.lt_of_lt_of_le (h.low k hk) b.size, h.hx, (b.block x (Array.getElem?_eq_some_iff.1 h.blk).1).trans h.blk, h.nr.old b, fun d hd => (h.ats d hd).old b, fun d hd => (h.kds d hd).old b, h.few⟩
theorem Ra.old {S : Nat → Prop} {w w' : World} {x : Nat} {L : List RN} (h : Ra S w x L) (b : Below w.heap.size w w') : Ra S w' x L := by
  obtain ⟨rv, h⟩ := h
  exact ⟨rv, h.old b⟩
/-- The row laid open, where there is a node. -/
structure RO (S : Nat → Prop) (w : World) (x g n c : Nat) (L : List RN) : Prop where
  v : RaV S w x (.slice (some ⟨g, 0, none⟩) n c) L
  nn : L.length = n
theorem RO.old {S : Nat → Prop} {w w' : World} {x g n c : Nat} {L : List RN} (o : RO S w x g n c L) (b : Below w.heap.size w w') : RO S w' x g n c L := ⟨o.v.old b, o.nn⟩
theorem Ra.open {S : Nat → Prop} {w : World} {x : Nat} {L : List RN} (h : Ra S w x L) (h0 : 0 < L.length) : ∃ g n c, RO S w x g n c L := by
  obtain ⟨rv, h⟩ := h
  obtain ⟨g, c, _, rfl, _⟩ := h.nr.form h0
  exact ⟨g, L.length, c, h, rfl⟩
theorem RO.c {S : Nat → Prop} {w : World} {x g n c : Nat} {L : List RN} (o : RO S w x g n c L) : w.cell? ⟨x, 0, none⟩ = some (.slice (some ⟨g, 0, none⟩) n c) := by
  have := o.v.blk
  simp [World.cell?, this]
theorem RO.nd {S : Nat → Prop} {w : World} {x g n c : Nat} {L : List RN} (o : RO S w x g n c L) {i j : Nat} {r : RN} (hd : L[i]? = some r) (hj : j < 13) : w.cell? ⟨g, i * 13 + j, none⟩ = r.cells[j]? := by
  have a := fl_at RN.cells 13 (fun _ => rfl) L i j r hd hj
  have hr := o.v.nr
  rw [o.nn] at hr
  obtain ⟨u, hu⟩ : ∃ u, r.cells[j]? = some u := ⟨_, List.getElem?_eq_getElem (show j < r.cells.length from hj)⟩
  rw [hu]
  exact hr.cell (a.trans hu)
theorem RO.at' {S : Nat → Prop} {w : World} {x g n c : Nat} {L : List RN} (o : RO S w x g n c L) {i : Nat} (hi : i < n) : ∃ r, L[i]? = some r := ⟨_, List.getElem?_eq_getElem (by rw [o.nn]; exact hi)⟩
theorem RO.lt {S : Nat → Prop} {w : World} {x g n c : Nat} {L : List RN} (o : RO S w x g n c L) {i : Nat} {r : RN} (h : L[i]? = some r) : i < n := by rw [← o.nn]; exact (List.getElem?_eq_some_iff.1 h).1

theorem is_any {S : Nat → Prop} {w : World} {x g n c : Nat} {L : List RN} (o : RO S w x g n c L) (i : Int) :
    Calls Try.prog 40 #[ptr x, iv i] w (Rd (.bool (isN n i)) w) := by
  have c0 := o.c
  clear o
  by_cases hi : i ≥ 0
  · have hd : decide (i ≥ 0) = true := decide_eq_true hi
    have hb : isN n i = decide (i < (n : Int)) := by simp [isN, hi]
    rw [hb]
    clear hi hb
    go_enter Try.func40, Try.ntmps40
    go_wp2_with fail
    go_ret
    exact ⟨rfl, rfl⟩
  · have hd : decide (i ≥ 0) = false := decide_eq_false hi
    have hb : isN n i = false := by simp [isN, hi]
    rw [hb]
    clear hi hb
    go_enter Try.func40, Try.ntmps40
    go_wp2_with fail
    go_ret
    exact ⟨rfl, rfl⟩
theorem rparent_any {S : Nat → Prop} {w : World} {x g n c : Nat} {L : List RN} (o : RO S w x g n c L) {i : Nat} {r : RN} (hr : L[i]? = some r) :
    Calls Try.prog 15 #[ptr x, iv (i : Int)] w (Rd (iv r.p) w) := by
  have hi := o.lt hr
  have k := is_any o (i : Int)
  rw [isN_lt hi] at k
  have c0 := o.c
  have d11 : w.cell? ⟨g, i * 13 + 11, none⟩ = some (iv r.p) := o.nd (j := 11) hr (by decide)
  have hi2 : (i : Int) < (n : Int) := by omega
  obtain ⟨rp, hrp⟩ : ∃ rp, r.p = rp := ⟨_, rfl⟩
  rw [hrp] at d11 ⊢
  clear o hr hrp
  go_enter Try.func15, Try.ntmps15
  go_wp2_with fail
  refine k.mono ?_
  rintro e w' ⟨rfl, rfl⟩
  go_wp2_with fail
  go_ret
  exact ⟨rfl, rfl⟩
theorem rparent_no {S : Nat → Prop} {w : World} {x g n c : Nat} {L : List RN} (o : RO S w x g n c L) {i : Int} (hi : isN n i = false) :
    Calls Try.prog 15 #[ptr x, iv i] w (Rd (iv (-1)) w) := by
  have k := is_any o i
  rw [hi] at k
  clear o hi
  go_enter Try.func15, Try.ntmps15
  go_wp2_with fail
  refine k.mono ?_
  rintro e w' ⟨rfl, rfl⟩
  go_wp2_with fail
  go_ret
  exact ⟨rfl, rfl⟩
theorem rkids_any {S : Nat → Prop} {w : World} {x g n c : Nat} {L : List RN} (o : RO S w x g n c L) {i : Nat} {r : RN} (hr : L[i]? = some r) :
    Calls Try.prog 18 #[ptr x, iv (i : Int)] w (Rd r.kv w) := by
  have hi := o.lt hr
  have k := is_any o (i : Int)
  rw [isN_lt hi] at k
  have c0 := o.c
  have d12 : w.cell? ⟨g, i * 13 + 12, none⟩ = some r.kv := o.nd (j := 12) hr (by decide)
  have hi2 : (i : Int) < (n : Int) := by omega
  obtain ⟨ko, kc, hv, _⟩ := (o.v.kds r (List.mem_of_getElem? hr)).slice
  rw [hv] at d12 ⊢
  obtain ⟨kl, hkl⟩ : ∃ kl, r.ks.length = kl := ⟨_, rfl⟩
  rw [hkl] at d12 ⊢
  clear o hr hv hkl
  go_enter Try.func18, Try.ntmps18
  go_wp2_with fail
  refine k.mono ?_
  rintro e w' ⟨rfl, rfl⟩
  go_wp2_with fail
  go_ret
  exact ⟨rfl, rfl⟩
theorem rkids_no {S : Nat → Prop} {w : World} {x g n c : Nat} {L : List RN} (o : RO S w x g n c L) {i : Int} (hi : isN n i = false) :
    Calls Try.prog 18 #[ptr x, iv i] w (Rd (.slice none 0 0) w) := by
  have k := is_any o i
  rw [hi] at k
  clear o hi
  go_enter Try.func18, Try.ntmps18
  go_wp2_with fail
  refine k.mono ?_
  rintro e w' ⟨rfl, rfl⟩
  go_wp2_with fail
  go_ret
  exact ⟨rfl, rfl⟩
/-- What is wrong. -/
def kindP (n : Nat) (i : Int) (ok : Bool) : Int := if isN n i then (if ok then 0 else 3) else 4
theorem kind_any {S : Nat → Prop} {w : World} {x g n c : Nat} {L : List RN} (o : RO S w x g n c L) (i : Int) (ok : Bool) :
    Calls Try.prog 52 #[ptr x, iv i, .bool ok] w (Rd (iv (kindP n i ok)) w) := by
  have k := is_any o i
  unfold kindP
  cases hb : isN n i with
  | false =>
    rw [hb] at k
    clear o hb
    go_enter Try.func52, Try.ntmps52
    go_wp2_with fail
    refine k.mono ?_
    rintro e w' ⟨rfl, rfl⟩
    go_wp2_with fail
    go_ret
    exact ⟨rfl, rfl⟩
  | true =>
    rw [hb] at k
    clear o hb
    cases ok
    · go_enter Try.func52, Try.ntmps52
      go_wp2_with fail
      refine k.mono ?_
      rintro e w' ⟨rfl, rfl⟩
      go_wp2_with fail
      go_ret
      exact ⟨rfl, rfl⟩
    · go_enter Try.func52, Try.ntmps52
      go_wp2_with fail
      refine k.mono ?_
      rintro e w' ⟨rfl, rfl⟩
      go_wp2_with fail
      go_ret
      exact ⟨rfl, rfl⟩
theorem element_no {S : Nat → Prop} {w : World} {x g n c : Nat} {L : List RN} (o : RO S w x g n c L) {i : Int} (hi : isN n i = false) : Calls Try.prog 53 #[ptr x, iv i] w (Rd (.bool false) w) := by
  have k := is_any o i
  rw [hi] at k
  clear o hi
  go_enter Try.func53, Try.ntmps53
  go_wp2_with fail
  refine k.mono ?_
  rintro e w' ⟨rfl, rfl⟩
  go_wp2_with fail
  go_ret
  exact ⟨rfl, rfl⟩
theorem element_any {S : Nat → Prop} {w : World} {x g n c : Nat} {L : List RN} (o : RO S w x g n c L) {i : Nat} {r : RN} (hr : L[i]? = some r) : Calls Try.prog 53 #[ptr x, iv (i : Int)] w (Rd (.bool (decide (r.d.kind = 1))) w) := by
  have hi := o.lt hr
  have k := is_any o (i : Int)
  rw [isN_lt hi] at k
  have c0 := o.c
  have d1 : w.cell? ⟨g, i * 13 + 1, none⟩ = some (iv r.d.kind) := o.nd (j := 1) hr (by decide)
  have hi2 : (i : Int) < (n : Int) := by omega
  obtain ⟨kd, hkd⟩ : ∃ kd, r.d.kind = kd := ⟨_, rfl⟩
  rw [hkd] at d1 ⊢
  clear o hr hkd
  go_enter Try.func53, Try.ntmps53
  go_wp2_with fail
  refine k.mono ?_
  rintro e w' ⟨rfl, rfl⟩
  go_wp2_with fail
  go_ret
  refine ⟨?_, rfl⟩
  show Ending.returned (Value.bool (kd == 1)) = _
  by_cases h1 : kd = 1 <;> simp [h1]
/-- The place of a kid. -/
def plP : List Nat → Int → Nat → Int
  | [], _, _ => -1
  | k :: t, i, m => if (k : Int) = i then (m : Int) else plP t i (m + 1)
set_option maxHeartbeats 1000000 in
theorem place_any {S : Nat → Prop} {w : World} {x g n c : Nat} {L : List RN} (o : RO S w x g n c L) {p : Nat} {r : RN} (hr : L[p]? = some r) (hf : r.ks.length ≤ 1000000000) (id : Int) :
    Calls Try.prog 51 #[ptr x, iv (p : Int), iv id] w (Rd (iv (plP r.ks id 0)) w) := by
  have hi := o.lt hr
  have c0 := o.c
  have d12 : w.cell? ⟨g, p * 13 + 12, none⟩ = some r.kv := o.nd (j := 12) hr (by decide)
  have hi2 : (p : Int) < (n : Int) := by omega
  have hrw := o.v.kds r (List.mem_of_getElem? hr)
  obtain ⟨ko, kc, hv, _⟩ := hrw.slice
  rw [hv] at d12 hrw
  obtain ⟨K, hK⟩ : ∃ K, r.ks = K := ⟨_, rfl⟩
  obtain ⟨kl, hkl⟩ : ∃ kl, K.length = kl := ⟨_, rfl⟩
  rw [hK] at hrw d12 hf ⊢
  rw [hkl] at hrw d12 hf
  have HR : Hid (Rw S w 3 1 (.slice ko kl kc) kl (iL K) ∧ K.length = kl ∧ kl ≤ 1000000000) := ⟨hrw, hkl, hf⟩
  clear o hr hv hrw hK hkl hf
  go_enter Try.func51, Try.ntmps51
  go_wp2_with fail
  go_loopg [7] kl (fun g2 jv wr => ∃ (D T : List Nat) (j : Nat), jv = iv (j : Int) ∧ K = D ++ T ∧ D.length = j ∧ T.length = g2 ∧ plP K id 0 = plP T id j ∧ wr = w)
  case atStart => exact ⟨[], K, 0, rfl, rfl, rfl, HR.out.2.1, rfl, rfl⟩
  case round =>
    obtain ⟨D, T, j, rfl, hDT, hD, hT, hp, rfl⟩ := hrel
    have hlen : j + gk = kl := by rw [← HR.out.2.1, hDT, List.length_append, hD, hT]
    cases T with
    | nil =>
      simp only [List.length_nil] at hT
      subst hT
      have hjk : j = kl := hlen
      subst hjk
      have HP : Hid (plP K id 0 = -1) := hp
      clear hp hDT hD hlen
      go_wp2_with fail
      go_ret
      exact ⟨by rw [HP.out]; rfl, rfl⟩
    | cons k T =>
      simp only [List.length_cons] at hT
      subst hT
      have hjl : j < kl := by omega
      obtain ⟨kg, kc', _, he, _⟩ := HR.out.1.form (by omega)
      simp only [Value.slice.injEq, true_and] at he
      obtain ⟨rfl, rfl⟩ := he
      have hk : wr.cell? ⟨kg, j, none⟩ = some (iv (k : Int)) := HR.out.1.cell (by rw [hDT]; simp [iL, hD])
      have hj2 : (j : Int) < (kl : Int) := by omega
      have hw1 : IntKind.i64.wrap ((j : Int) + 1) = (j : Int) + 1 := by have := HR.out.2.2; rw [IntKind.wrap_i64]; omega
      have hp : plP K id 0 = if (k : Int) = id then (j : Int) else plP T id (j + 1) := hp
      by_cases hq : (k : Int) = id
      · rw [if_pos hq] at hp
        have HP : Hid (plP K id 0 = (j : Int)) := hp
        clear hp hDT hD hlen hjl
        go_wp2_with fail
        go_ret
        exact ⟨by rw [HP.out]; rfl, rfl⟩
      · rw [if_neg hq] at hp
        have HN : Hid (K = (D ++ [k]) ++ T ∧ (D ++ [k]).length = j + 1 ∧ plP K id 0 = plP T id (j + 1)) := ⟨by rw [hDT]; simp, by simp [hD], hp⟩
        have HT : Hid (T.length < T.length + 1) := Nat.lt_succ_self _
        clear hp hDT hD hlen hjl
        go_wp2_with fail
        go_roundg T.length
        case measure => exact HT.out
        case rel => exact ⟨D ++ [k], T, j + 1, by simp, HN.out.1, HN.out.2.1, rfl, HN.out.2.2, rfl⟩
end Go.Proofs.Ytcdaghlbfclpkaa
