/- The document's Tree. -/
import Derived.Test.YtcdaghlbfclpkaaFb
import Derived.Test.YtcdaghlbfclpkaaCd
import Derived.Test.YtcdaghlbfclpkaaBd
import Derived.Shelf.Abstract
namespace Go.Proofs.Ytcdaghlbfclpkaa
open Go.RowKit

theorem enters21 : ∀ args w, (callFunc 21 args).run Try.prog w = .ok (.enter 21 args) w := enters_of Try.func21 (by kernel_rfl) rfl
/-- What it answers. -/
def RTreed (D : Nat → Nd) (K : Nat → List Nat) (i : Nat) (w : World) (e : Ending) (w' : World) : Prop :=
  ∃ ao ac kp kc, e = .returned (.agg #[iv (D i).id, iv (D i).kind, iv (D i).space, .string (D i).name, .string (D i).text, .slice ao (D i).al.length ac, iv (D i).sf, iv (D i).st, iv (D i).ef, iv (D i).et, .slice kp (K i).length kc]) ∧ Below w.heap.size w w' ∧ TV (fun k => w.heap.size ≤ k ∧ k < w'.heap.size) w' D K i (.slice ao (D i).al.length ac) (.slice kp (K i).length kc)
/-- A kid, called for while the row of kids is made: what the append will find. -/
def KidCall (w3 wr : World) (y b : Nat) (cur : Array Value) (D : Nat → Nd) (K : Nat → List Nat) (l : List Nat) (j : Nat) (v : Value) (k0 : Nat) : Prop :=
  ∀ w', Below wr.heap.size wr w' → Calls Try.prog 21 #[ptr y, iv (k0 : Int)] w' (fun e w2 => ∃ ao' ac' kp' kc' g c W, e = .returned (.agg #[iv (D k0).id, iv (D k0).kind, iv (D k0).space, .string (D k0).name, .string (D k0).text, .slice ao' (D k0).al.length ac', iv (D k0).sf, iv (D k0).st, iv (D k0).ef, iv (D k0).et, .slice kp' (K k0).length kc']) ∧ w2.cell? ⟨b, 10, none⟩ = some v ∧ b < w2.heap.size ∧ (Builtin.append_ #[33, 33] 33 #[v, .slice (some ⟨w2.heap.size, 0, none⟩) 1 1]).run Try.prog (w2.alloc (.cells #[iv (D k0).id, iv (D k0).kind, iv (D k0).space, .string (D k0).name, .string (D k0).text, .slice ao' (D k0).al.length ac', iv (D k0).sf, iv (D k0).st, iv (D k0).ef, iv (D k0).et, .slice kp' (K k0).length kc'] 35)) = .ok (.slice (some ⟨g, 0, none⟩) (j + 1) c) W ∧ W.cell? ⟨b, 10, none⟩ = some v ∧ W.frozen? ⟨b, 10, none⟩ = false ∧
      Hid (KL w3 (W.setCell ⟨b, 10, none⟩ (.slice (some ⟨g, 0, none⟩) (j + 1) c)) b cur D K l (j + 1) (.slice (some ⟨g, 0, none⟩) (j + 1) c)))
theorem KL.call {w w3 wr : World} {y b : Nat} {cur : Array Value} {D : Nat → Nd} {K : Nat → List Nat} {l : List Nat} {j : Nat} {v : Value} (h : KL w3 wr b cur D K l j v) (hj : j ≤ 1000000000) {k0 : Nat} (hk : l[j]? = some k0) (bw : Below w.heap.size w wr) (hc : ∀ w', Below w.heap.size w w' → Calls Try.prog 21 #[ptr y, iv (k0 : Int)] w' (RTreed D K k0 w')) : KidCall w3 wr y b cur D K l j v k0 := by
  intro w' b1
  refine (hc w' (bw.trans (b1.mono bw.size))).mono ?_
  rintro e w2 ⟨ao, ac, kp, kc, rfl, b2, ht⟩
  have b3 : Below wr.heap.size wr w2 := b1.trans (b2.mono b1.size)
  obtain ⟨M, _, m2, _⟩ := h.old b3
  obtain ⟨g, c, W, q1, q2, q3, q4⟩ := h.next hj hk b3 (ht.sub fun k hk => ⟨Nat.le_trans b1.size hk.1, hk.2⟩) #[iv (D k0).id, iv (D k0).kind, iv (D k0).space, .string (D k0).name, .string (D k0).text, .slice ao (D k0).al.length ac, iv (D k0).sf, iv (D k0).st, iv (D k0).ef, iv (D k0).et, .slice kp (K k0).length kc] rfl
  exact ⟨ao, ac, kp, kc, g, c, W, rfl, m2.cell, Nat.lt_of_lt_of_le m2.hb m2.sm.size, q1, q2, q3, q4⟩
/-- All kids are gathered. -/
theorem KL.done {w3 wr W' : World} {b i j kc ac : Nat} {cur : Array Value} {D : Nat → Nd} {K : Nat → List Nat} {kp ao : Option Addr} (h : KL w3 wr b cur D K (K i) j (.slice kp j kc)) (hj : (K i).length = j) (hs : wr.heap.size ≤ W'.heap.size) (x : Nat) (hx : x < w3.heap.size) (hW : ∀ k, k ≠ x → W'.heap[k]? = wr.heap[k]?) (B : Nat) (hB : B ≤ w3.heap.size)
    (ha : AtRow W' ao (D i).al) (hqa : (D i).al ≠ [] → ∀ a, ao = some a → B ≤ a.block ∧ a.block < W'.heap.size) : TV (fun k => B ≤ k ∧ k < W'.heap.size) W' D K i (.slice ao (D i).al.length ac) (.slice kp (K i).length kc) := by
  obtain ⟨M, m1, m2, m3⟩ := h
  by_cases hK : K i = []
  · exact .mk (kb := 0) (ko := 0) (avs := fun _ => iv 0) (kvs := fun _ => iv 0) ha hqa (fun e => absurd hK e) (fun j k e => by rw [hK] at e; simp at e) (fun j k e => by rw [hK] at e; simp at e)
  · have hj0 : 0 < j := by rw [← hj]; exact List.length_pos_iff.2 hK
    have hr := m2.row
    rw [m1] at hr
    obtain ⟨kb, kc', _, he, hkS, hkl, _⟩ := hr.form hj0
    simp only [Value.slice.injEq, true_and] at he
    obtain ⟨rfl, rfl⟩ := he
    have hkx : ∀ k, w3.heap.size ≤ k → k ≠ x := fun k hk e => by omega
    refine .mk (kb := kb) (ko := 0) (avs := fun t => (M[t]?.map fun q => q.2.1).getD (iv 0)) (kvs := fun t => (M[t]?.map fun q => q.2.2).getD (iv 0)) ha hqa (fun _ => ⟨rfl, by have := Nat.le_of_not_lt hkS; omega, by omega⟩) (fun t k ht => ?_) (fun t k ht => ?_)
    · obtain ⟨av, kv, q1, _⟩ := m3 t k (by rw [← hj]; exact (List.getElem?_eq_some_iff.1 ht).1) ht
      refine ⟨by omega, fun u x' hu => ?_⟩
      have hu11 : u < 11 := (List.getElem?_eq_some_iff.1 hu).1
      rw [q1] at hu
      have hc := hr.cell ((fl_at nkc 11 (fun _ => rfl) M t u _ q1 hu11).trans hu)
      rw [Nat.zero_add, ← hc]
      simp [World.cell?, hW kb (hkx kb (Nat.le_of_not_lt hkS))]
    · obtain ⟨av, kv, q1, q2⟩ := m3 t k (by rw [← hj]; exact (List.getElem?_eq_some_iff.1 ht).1) ht
      rw [q1]
      exact (q2.mv hs fun k hk _ => hW k (hkx k hk.1)).sub fun k hk => ⟨Nat.le_trans hB hk.1, Nat.lt_of_lt_of_le hk.2.1 hs⟩
set_option maxHeartbeats 4000000 in
set_option maxRecDepth 20000 in
theorem rtree_one {S : Nat → Prop} {w : World} {y g n c : Nat} {L : List RN} (o : RO S w y g n c L) {D : Nat → Nd} {K : Nat → List Nat} {i : Nat} {r : RN} (hr : L[i]? = some r) (hD : D i = { r.d with id := (i : Int) }) (hK : K i = r.ks) (hf : r.d.al.length ≤ 1000000000) (hl : r.ks.length ≤ 1000000000)
    (hk : ∀ j k : Nat, (K i)[j]? = some k → ∀ w', Below w.heap.size w w' → Calls Try.prog 21 #[ptr y, iv (k : Int)] w' (RTreed D K k w')) :
    Calls Try.prog 21 #[ptr y, iv (i : Int)] w (RTreed D K i w) := by
  have hi := o.lt hr
  have hi2 : (i : Int) < (n : Int) := by omega
  have b0 : Below w.heap.size w (w.alloc (.cells #[Value.int IntKind.i64 0, Value.int IntKind.i64 0, Value.int IntKind.i64 0, Value.string { data := #[] }, Value.string { data := #[] }, Value.slice none 0 0, Value.int IntKind.i64 0, Value.int IntKind.i64 0, Value.int IntKind.i64 0, Value.int IntKind.i64 0, Value.slice none 0 0] 35)) := (Below.refl _ _).alloc (Nat.le_refl _) _
  have n0 : Bx (w.alloc (.cells #[Value.int IntKind.i64 0, Value.int IntKind.i64 0, Value.int IntKind.i64 0, Value.string { data := #[] }, Value.string { data := #[] }, Value.slice none 0 0, Value.int IntKind.i64 0, Value.int IntKind.i64 0, Value.int IntKind.i64 0, Value.int IntKind.i64 0, Value.slice none 0 0] 35)) w.heap.size #[Value.int IntKind.i64 0, Value.int IntKind.i64 0, Value.int IntKind.i64 0, Value.string { data := #[] }, Value.string { data := #[] }, Value.slice none 0 0, Value.int IntKind.i64 0, Value.int IntKind.i64 0, Value.int IntKind.i64 0, Value.int IntKind.i64 0, Value.slice none 0 0] := heap_alloc_new w _
  obtain ⟨W0, hW0⟩ : ∃ W0, (w.alloc (.cells #[Value.int IntKind.i64 0, Value.int IntKind.i64 0, Value.int IntKind.i64 0, Value.string { data := #[] }, Value.string { data := #[] }, Value.slice none 0 0, Value.int IntKind.i64 0, Value.int IntKind.i64 0, Value.int IntKind.i64 0, Value.int IntKind.i64 0, Value.slice none 0 0] 35)) = W0 := ⟨_, rfl⟩
  have HW0 : Hid ((w.alloc (.cells #[Value.int IntKind.i64 0, Value.int IntKind.i64 0, Value.int IntKind.i64 0, Value.string { data := #[] }, Value.string { data := #[] }, Value.slice none 0 0, Value.int IntKind.i64 0, Value.int IntKind.i64 0, Value.int IntKind.i64 0, Value.int IntKind.i64 0, Value.slice none 0 0] 35)) = W0) := hW0
  rw [hW0] at b0 n0
  clear hW0
  have k38 := rget_any (o.old b0) hr hf
  have HO : Hid (RO S w y g n c L ∧ L[i]? = some r ∧ D i = { r.d with id := (i : Int) } ∧ K i = r.ks ∧ Below w.heap.size w W0 ∧ Bx W0 w.heap.size #[Value.int IntKind.i64 0, Value.int IntKind.i64 0, Value.int IntKind.i64 0, Value.string { data := #[] }, Value.string { data := #[] }, Value.slice none 0 0, Value.int IntKind.i64 0, Value.int IntKind.i64 0, Value.int IntKind.i64 0, Value.int IntKind.i64 0, Value.slice none 0 0] ∧ w.heap.size < W0.heap.size ∧ r.ks.length ≤ 1000000000 ∧ r.d.al.length ≤ 1000000000) := ⟨o, hr, hD, hK, b0, n0, n0.lt, hl, hf⟩
  have HC : Hid (∀ j k : Nat, (K i)[j]? = some k → ∀ w', Below w.heap.size w w' → Calls Try.prog 21 #[ptr y, iv (k : Int)] w' (RTreed D K k w')) := hk
  clear o hr hD hK hf hl hk b0 n0
  go_enter Try.func21, Try.ntmps21
  go_upto_region 1 with fail
  rw [HW0.out]
  go_wp2_with fail
  refine k38.mono ?_
  clear k38
  rintro e w2 ⟨ao, ac, rfl, b2, hr⟩
  have b3 : Below w2.heap.size w2 (w2.alloc (.cells #[iv (i : Int), iv r.d.kind, iv r.d.space, .string r.d.name, .string r.d.text, .slice ao r.d.al.length ac, iv r.d.sf, iv r.d.st, iv r.d.ef, iv r.d.et, .slice none 0 0] 35)) := (Below.refl _ _).alloc (Nat.le_refl _) _
  have n3 : (w2.alloc (.cells #[iv (i : Int), iv r.d.kind, iv r.d.space, .string r.d.name, .string r.d.text, .slice ao r.d.al.length ac, iv r.d.sf, iv r.d.st, iv r.d.ef, iv r.d.et, .slice none 0 0] 35)).heap[w2.heap.size]? = some (.cells #[iv (i : Int), iv r.d.kind, iv r.d.space, .string r.d.name, .string r.d.text, .slice ao r.d.al.length ac, iv r.d.sf, iv r.d.st, iv r.d.ef, iv r.d.et, .slice none 0 0] 35 (0, 0)) := heap_alloc_new w2 _
  have HR : Hid (Below W0.heap.size W0 w2 ∧ ∀ S : Nat → Prop, (∀ k, S k → k < W0.heap.size) → Rw S w2 53 2 (.slice ao r.d.al.length ac) r.d.al.length (r.d.al.flatMap At.cells)) := ⟨b2, hr⟩
  clear b2 hr
  go_upto_region 4 with fail
  generalize hW3 : (w2.alloc (.cells #[iv (i : Int), iv r.d.kind, iv r.d.space, .string r.d.name, .string r.d.text, .slice ao r.d.al.length ac, iv r.d.sf, iv r.d.st, iv r.d.ef, iv r.d.et, .slice none 0 0] 35)) = w3 at *
  clear hW3
  obtain ⟨b, hb⟩ : ∃ b, b = w2.heap.size := ⟨_, rfl⟩
  rw [← hb] at b3 n3 ⊢
  have HB : Hid (b = w2.heap.size ∧ Below w2.heap.size w2 w3 ∧ w3.heap[b]? = some (.cells #[iv (i : Int), iv r.d.kind, iv r.d.space, .string r.d.name, .string r.d.text, .slice ao r.d.al.length ac, iv r.d.sf, iv r.d.st, iv r.d.ef, iv r.d.et, .slice none 0 0] 35 (0, 0))) := ⟨hb, by rw [← hb]; exact b3, n3⟩
  have HS : Hid (KL w3 w3 b #[iv (i : Int), iv r.d.kind, iv r.d.space, .string r.d.name, .string r.d.text, .slice ao r.d.al.length ac, iv r.d.sf, iv r.d.st, iv r.d.ef, iv r.d.et, .slice none 0 0] D K (K i) 0 (.slice none 0 0)) := KL.start n3 rfl
  have HW : Hid (Below w.heap.size w w3 ∧ w.heap.size ≤ b ∧ w.heap.size ≠ b ∧ w.heap.size < w3.heap.size) := by
    have h1 := HO.out.2.2.2.2.1
    have h2 := HR.out.1
    have h3 := HB.out.2.1
    have h4 := HO.out.2.2.2.2.2.2.1
    have h5 := h2.size
    have h6 := h3.size
    exact ⟨(h1.trans (h2.mono h1.size)).trans (h3.mono (Nat.le_trans h1.size h2.size)), by omega, by omega, by omega⟩
  clear b3 n3 hb
  obtain ⟨ko, kcap, hkv, hkc, _⟩ := (HO.out.1.v.kds r (List.mem_of_getElem? HO.out.2.1)).slice
  obtain ⟨kl, hkl⟩ : ∃ kl, r.ks.length = kl := ⟨_, rfl⟩
  rw [hkl] at hkv hkc
  have HKV : Hid (r.kv = .slice ko kl kcap ∧ r.ks.length = kl ∧ kl ≤ kcap) := ⟨hkv, hkl, hkc⟩
  have hkl9 : kl ≤ 1000000000 := by rw [← hkl]; exact HO.out.2.2.2.2.2.2.2.1
  clear hkv hkl hkc
  go_wp2_with fail
  go_loopg [7] kl (fun g2 jv wr => ∃ (j : Nat) (v : Value), jv = .int .i64 j ∧ j + g2 = kl ∧ Hid (KL w3 wr b #[iv (i : Int), iv r.d.kind, iv r.d.space, .string r.d.name, .string r.d.text, .slice ao r.d.al.length ac, iv r.d.sf, iv r.d.st, iv r.d.ef, iv r.d.et, .slice none 0 0] D K (K i) j v))
  case atStart => exact ⟨0, _, rfl, by omega, HS⟩
  case round =>
    obtain ⟨j, v, rfl, hjg, HT⟩ := hrel
    obtain ⟨M, hMl, hMT, hMt⟩ := HT.out
    have HT0 : Hid (KT w3 wr b #[iv (i : Int), iv r.d.kind, iv r.d.space, .string r.d.name, .string r.d.text, .slice ao r.d.al.length ac, iv r.d.sf, iv r.d.st, iv r.d.ef, iv r.d.et, .slice none 0 0] M v) := hMT
    have bw : Below w.heap.size w wr := hMT.below HW.out.1 HW.out.2.1 (Nat.le_refl _)
    have ow := HO.out.1.old bw
    have c0 := ow.c
    have c12 : wr.cell? ⟨g, i * 13 + 12, none⟩ = some (.slice ko kl kcap) := by
      rw [← HKV.out.1]
      exact ow.nd (j := 12) HO.out.2.1 (by decide)
    cases gk with
    | zero =>
      obtain rfl : j = kl := by omega
      have hg0 : decide ((j : Int) < (j : Int)) = false := decide_eq_false (by omega)
      obtain ⟨kp, kc, hv, hvc, _⟩ := hMT.row.slice
      rw [hMl] at hv
      subst hv
      have m2 : Bx wr w.heap.size #[Value.int IntKind.i64 0, Value.int IntKind.i64 0, Value.int IntKind.i64 0, Value.string { data := #[] }, Value.string { data := #[] }, Value.slice none 0 0, Value.int IntKind.i64 0, Value.int IntKind.i64 0, Value.int IntKind.i64 0, Value.int IntKind.i64 0, Value.slice none 0 0] := (hMT.oth _ HW.out.2.2.2 HW.out.2.2.1).trans (((HO.out.2.2.2.2.2.1.old HR.out.1).old HB.out.2.1))
      have y0 : wr.cell? ⟨b, 0, none⟩ = some (iv (i : Int)) := HT0.out.cells 0 (by decide)
      have y1 : wr.cell? ⟨b, 1, none⟩ = some (iv r.d.kind) := HT0.out.cells 1 (by decide)
      have y2 : wr.cell? ⟨b, 2, none⟩ = some (iv r.d.space) := HT0.out.cells 2 (by decide)
      have y3 : wr.cell? ⟨b, 3, none⟩ = some (.string r.d.name) := HT0.out.cells 3 (by decide)
      have y4 : wr.cell? ⟨b, 4, none⟩ = some (.string r.d.text) := HT0.out.cells 4 (by decide)
      have y5 : wr.cell? ⟨b, 5, none⟩ = some (.slice ao r.d.al.length ac) := HT0.out.cells 5 (by decide)
      have y6 : wr.cell? ⟨b, 6, none⟩ = some (iv r.d.sf) := HT0.out.cells 6 (by decide)
      have y7 : wr.cell? ⟨b, 7, none⟩ = some (iv r.d.st) := HT0.out.cells 7 (by decide)
      have y8 : wr.cell? ⟨b, 8, none⟩ = some (iv r.d.ef) := HT0.out.cells 8 (by decide)
      have y9 : wr.cell? ⟨b, 9, none⟩ = some (iv r.d.et) := HT0.out.cells 9 (by decide)
      have y10 : wr.cell? ⟨b, 10, none⟩ = some (.slice kp j kc) := HT0.out.cell
      have x0 : wr.cell? ⟨w.heap.size, 0, none⟩ = some (iv 0) := m2.cell 0
      have f0 := m2.frozen 0
      have x1 : wr.cell? ⟨w.heap.size, 1, none⟩ = some (iv 0) := m2.cell 1
      have f1 := m2.frozen 1
      have x2 : wr.cell? ⟨w.heap.size, 2, none⟩ = some (iv 0) := m2.cell 2
      have f2 := m2.frozen 2
      have x3 : wr.cell? ⟨w.heap.size, 3, none⟩ = some (.string { data := #[] }) := m2.cell 3
      have f3 := m2.frozen 3
      have x4 : wr.cell? ⟨w.heap.size, 4, none⟩ = some (.string { data := #[] }) := m2.cell 4
      have f4 := m2.frozen 4
      have x5 : wr.cell? ⟨w.heap.size, 5, none⟩ = some (.slice none 0 0) := m2.cell 5
      have f5 := m2.frozen 5
      have x6 : wr.cell? ⟨w.heap.size, 6, none⟩ = some (iv 0) := m2.cell 6
      have f6 := m2.frozen 6
      have x7 : wr.cell? ⟨w.heap.size, 7, none⟩ = some (iv 0) := m2.cell 7
      have f7 := m2.frozen 7
      have x8 : wr.cell? ⟨w.heap.size, 8, none⟩ = some (iv 0) := m2.cell 8
      have f8 := m2.frozen 8
      have x9 : wr.cell? ⟨w.heap.size, 9, none⟩ = some (iv 0) := m2.cell 9
      have f9 := m2.frozen 9
      have x10 : wr.cell? ⟨w.heap.size, 10, none⟩ = some (.slice none 0 0) := m2.cell 10
      have f10 := m2.frozen 10
      have HF : Hid (Bx (((((((((((wr.setCell ⟨w.heap.size, 0, none⟩ (iv (i : Int))).setCell ⟨w.heap.size, 1, none⟩ (iv r.d.kind)).setCell ⟨w.heap.size, 2, none⟩ (iv r.d.space)).setCell ⟨w.heap.size, 3, none⟩ (.string r.d.name)).setCell ⟨w.heap.size, 4, none⟩ (.string r.d.text)).setCell ⟨w.heap.size, 5, none⟩ (.slice ao r.d.al.length ac)).setCell ⟨w.heap.size, 6, none⟩ (iv r.d.sf)).setCell ⟨w.heap.size, 7, none⟩ (iv r.d.st)).setCell ⟨w.heap.size, 8, none⟩ (iv r.d.ef)).setCell ⟨w.heap.size, 9, none⟩ (iv r.d.et)).setCell ⟨w.heap.size, 10, none⟩ (.slice kp j kc)) w.heap.size #[iv (i : Int), iv r.d.kind, iv r.d.space, .string r.d.name, .string r.d.text, .slice ao r.d.al.length ac, iv r.d.sf, iv r.d.st, iv r.d.ef, iv r.d.et, .slice kp j kc] ∧ RTreed D K i w (.returned (.agg #[iv (i : Int), iv r.d.kind, iv r.d.space, .string r.d.name, .string r.d.text, .slice ao r.d.al.length ac, iv r.d.sf, iv r.d.st, iv r.d.ef, iv r.d.et, .slice kp j kc])) (((((((((((wr.setCell ⟨w.heap.size, 0, none⟩ (iv (i : Int))).setCell ⟨w.heap.size, 1, none⟩ (iv r.d.kind)).setCell ⟨w.heap.size, 2, none⟩ (iv r.d.space)).setCell ⟨w.heap.size, 3, none⟩ (.string r.d.name)).setCell ⟨w.heap.size, 4, none⟩ (.string r.d.text)).setCell ⟨w.heap.size, 5, none⟩ (.slice ao r.d.al.length ac)).setCell ⟨w.heap.size, 6, none⟩ (iv r.d.sf)).setCell ⟨w.heap.size, 7, none⟩ (iv r.d.st)).setCell ⟨w.heap.size, 8, none⟩ (iv r.d.ef)).setCell ⟨w.heap.size, 9, none⟩ (iv r.d.et)).setCell ⟨w.heap.size, 10, none⟩ (.slice kp j kc))) := by
        refine ⟨m2.put _ _ _ _ _ _ _ _ _ _ _, ?_⟩
        have hKl : (K i).length = j := by rw [HO.out.2.2.2.1]; exact HKV.out.2.1
        have hD := HO.out.2.2.1
        have hal : (D i).al = r.d.al := by rw [hD]
        have hsz : wr.heap.size ≤ ((((((((((((wr.setCell ⟨w.heap.size, 0, none⟩ (iv (i : Int))).setCell ⟨w.heap.size, 1, none⟩ (iv r.d.kind)).setCell ⟨w.heap.size, 2, none⟩ (iv r.d.space)).setCell ⟨w.heap.size, 3, none⟩ (.string r.d.name)).setCell ⟨w.heap.size, 4, none⟩ (.string r.d.text)).setCell ⟨w.heap.size, 5, none⟩ (.slice ao r.d.al.length ac)).setCell ⟨w.heap.size, 6, none⟩ (iv r.d.sf)).setCell ⟨w.heap.size, 7, none⟩ (iv r.d.st)).setCell ⟨w.heap.size, 8, none⟩ (iv r.d.ef)).setCell ⟨w.heap.size, 9, none⟩ (iv r.d.et)).setCell ⟨w.heap.size, 10, none⟩ (.slice kp j kc))).heap.size := by simp
        have hra : Rw (fun k => k < W0.heap.size) (((((((((((wr.setCell ⟨w.heap.size, 0, none⟩ (iv (i : Int))).setCell ⟨w.heap.size, 1, none⟩ (iv r.d.kind)).setCell ⟨w.heap.size, 2, none⟩ (iv r.d.space)).setCell ⟨w.heap.size, 3, none⟩ (.string r.d.name)).setCell ⟨w.heap.size, 4, none⟩ (.string r.d.text)).setCell ⟨w.heap.size, 5, none⟩ (.slice ao r.d.al.length ac)).setCell ⟨w.heap.size, 6, none⟩ (iv r.d.sf)).setCell ⟨w.heap.size, 7, none⟩ (iv r.d.st)).setCell ⟨w.heap.size, 8, none⟩ (iv r.d.ef)).setCell ⟨w.heap.size, 9, none⟩ (iv r.d.et)).setCell ⟨w.heap.size, 10, none⟩ (.slice kp j kc)) 53 2 (.slice ao r.d.al.length ac) r.d.al.length (r.d.al.flatMap At.cells) := by
          have q0 := HR.out.2 (fun k => k < W0.heap.size) (fun k hk => hk)
          refine q0.mv fun q hq => ?_
          have q1 := (own_blk q0.own hq).1
          have q2 : ¬ q < W0.heap.size := q0.out q hq
          have q3 := HB.out.1
          have q4 := HB.out.2.1.size
          have q5 := HO.out.2.2.2.2.2.2.1
          exact (put_other wr w.heap.size _ _ _ _ _ _ _ _ _ _ _ q (by omega)).trans ((hMT.oth q (by omega) (by omega)).trans (HB.out.2.1.block q q1))
        obtain ⟨ao', cap', he, har⟩ := (hra.atr (by have := HO.out.2.2.2.2.2.2.2.2; omega)).ex
        simp only [Value.slice.injEq, true_and] at he
        obtain ⟨rfl, rfl⟩ := he
        refine ⟨ao, ac, kp, kc, ?_, below_put bw (Nat.le_refl _) _ _ _ _ _ _ _ _ _ _ _, HT.out.done hKl hsz w.heap.size HW.out.2.2.2 (fun k hk => put_other wr w.heap.size _ _ _ _ _ _ _ _ _ _ _ k hk) w.heap.size (Nat.le_of_lt HW.out.2.2.2) (by rw [hal]; exact har) (fun hn a ha => ?_)⟩
        · rw [hKl, hD]
        · rw [hal] at hn
          obtain ⟨gg, _, _, he, h1, h2, _⟩ := hra.form (List.length_pos_iff.2 hn)
          simp only [Value.slice.injEq, true_and] at he
          rw [ha] at he
          obtain ⟨he, _⟩ := he
          simp at he
          rw [he]
          have h1' : ¬ gg < W0.heap.size := h1
          have h3 := HO.out.2.2.2.2.2.2.1
          exact ⟨by show w.heap.size ≤ gg; omega, h2⟩
      clear hMl hMT hMt bw ow m2
      go_wp2_with fail
      refine bodyPost_ret (results_cell_row rfl _ _ w.heap.size 35 _ (0, 0) _ rfl HF.out.1 Try.underlying35 rfl size35) rfl ?_
      exact HF.out.2
    | succ k =>
      have hjl : j < kl := by omega
      have g1 : decide ((j : Int) < (kl : Int)) = true := decide_eq_true (by omega)
      obtain ⟨k0, hk0⟩ : ∃ k0, (K i)[j]? = some k0 := ⟨_, List.getElem?_eq_getElem (by rw [HO.out.2.2.2.1, HKV.out.2.1]; exact hjl)⟩
      have hkd := ow.v.kds r (List.mem_of_getElem? HO.out.2.1)
      rw [HKV.out.1, HKV.out.2.1] at hkd
      obtain ⟨kg, kc', _, he, _⟩ := hkd.form (by omega)
      simp only [Value.slice.injEq, true_and] at he
      obtain ⟨rfl, rfl⟩ := he
      have cj : wr.cell? ⟨kg, j, none⟩ = some (iv (k0 : Int)) := hkd.cell (by
        have := hk0
        rw [HO.out.2.2.2.1] at this
        simp [iL, this])
      have y10 : wr.cell? ⟨b, 10, none⟩ = some v := hMT.cell
      have HK : Hid (KidCall w3 wr y b #[iv (i : Int), iv r.d.kind, iv r.d.space, .string r.d.name, .string r.d.text, .slice ao r.d.al.length ac, iv r.d.sf, iv r.d.st, iv r.d.ef, iv r.d.et, .slice none 0 0] D K (K i) j v k0) := HT.out.call (by omega) hk0 bw (HC.out j k0 hk0)
      have hwr1 : IntKind.i64.wrap ((j : Int) + 1) = (j : Int) + 1 := by rw [IntKind.wrap_i64]; omega
      have hjl2 : (j : Int) < (kl : Int) := by omega
      clear hMl hMT hMt bw ow hk0 hkd HT HT0
      go_wp2_with fail
      go_region_law (first
        | (refine step_call2 21 _ _ _ rfl rfl enters21 _ _ (by simp [Act.eval]) (by simp [Act.eval]) (HK.out _ ((Below.refl _ _).drew)) ?_; rintro e w5 ⟨ao', ac', kp', kc', g', c', W, rfl, z1, z2, hrun, z3, z4, HN⟩; refine ⟨_, rfl, ?_⟩)
        | (refine step_append_eq rfl _ _ 33 33 rfl _ _ (by first | (simp [Act.eval]; done) | simp [Act.eval, Act.put]) (by first | (simp [Act.eval]; done) | simp [Act.eval, Act.put]) hrun ?_))
      all_goals
        clear hrun z1 z2 z3 z4
        generalize hW9 : W.setCell ⟨b, 10, none⟩ (.slice (some ⟨g', 0, none⟩) (j + 1) c') = W9 at *
        clear hW9
        go_wp2_with fail
        go_roundg k
        case measure => omega
        case rel => exact ⟨j + 1, _, by go_num, by omega, HN⟩
/-- The document's Tree: any node's, whose kids are less than itself. -/
theorem rtree_any {S : Nat → Prop} {w0 : World} {y g n c : Nat} {L : List RN} (o : RO S w0 y g n c L) {D : Nat → Nd} {K : Nat → List Nat} {sz : Nat → Nat} (hD : ∀ (i : Nat) (r : RN), L[i]? = some r → D i = { r.d with id := (i : Int) }) (hK : ∀ (i : Nat) (r : RN), L[i]? = some r → K i = r.ks) (hf : ∀ r ∈ L, r.d.al.length ≤ 1000000000) (hl : ∀ r ∈ L, r.ks.length ≤ 1000000000) (hs : ∀ i k, k ∈ K i → sz k < sz i) (hin : ∀ (i : Nat) (r : RN) (k : Nat), L[i]? = some r → k ∈ r.ks → k < L.length) :
    ∀ (f i : Nat) (w : World), Below w0.heap.size w0 w → i < L.length → sz i < f → Calls Try.prog 21 #[ptr y, iv (i : Int)] w (RTreed D K i w)
  | 0, _, _, _, _, hn => absurd hn (Nat.not_lt_zero _)
  | f + 1, i, w, b, hi, hn => by
    have hr := List.getElem?_eq_getElem hi
    refine rtree_one (o.old b) hr (hD i _ hr) (hK i _ hr) (hf _ (List.getElem_mem hi)) (hl _ (List.getElem_mem hi)) fun j k hj w' b' => ?_
    have hm := List.mem_of_getElem? hj
    have hm2 := hm
    rw [hK i _ hr] at hm2
    exact rtree_any o hD hK hf hl hs hin f k w' (b.trans (b'.mono b.size)) (hin i _ k hr hm2) (by have := hs i k hm; omega)
end Go.Proofs.Ytcdaghlbfclpkaa
