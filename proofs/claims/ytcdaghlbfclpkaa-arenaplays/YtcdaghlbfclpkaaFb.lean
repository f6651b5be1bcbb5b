/- A node's kids in the making, as trees. -/
import Derived.Test.YtcdaghlbfclpkaaEa
import Derived.StillTailTactics
import Derived.Test.YtcdaghlbfclpkaaBa
namespace Go.Proofs.Ytcdaghlbfclpkaa
open Go.RowKit

def CellsAt (w : World) (b off : Nat) (l : List Value) : Prop := ∀ j u, l[j]? = some u → w.cell? ⟨b, off + j, none⟩ = some u
theorem CellsAt.old {w w' : World} {b off : Nat} {l : List Value} (h : CellsAt w b off l) (hb : b < w.heap.size) (k : Below w.heap.size w w') : CellsAt w' b off l := fun j u hj => by
  rw [← h j u hj]
  simp [World.cell?, k.block b hb]
def Nd.cs (d : Nd) (av kv : Value) : List Value := [iv d.id, iv d.kind, iv d.space, .string d.name, .string d.text, av, iv d.sf, iv d.st, iv d.ef, iv d.et, kv]
/-- A tree as values; the blocks that it lies in are Q's. -/
inductive TV (Q : Nat → Prop) (w : World) (D : Nat → Nd) (K : Nat → List Nat) : Nat → Value → Value → Prop
  | mk {i ac kc kb ko : Nat} {ao kp : Option Addr} {avs kvs : Nat → Value} (ha : AtRow w ao (D i).al) (hqa : (D i).al ≠ [] → ∀ a, ao = some a → Q a.block) (hp : K i ≠ [] → kp = some ⟨kb, ko, none⟩ ∧ Q kb) (hc : ∀ j k : Nat, (K i)[j]? = some k → kb < w.heap.size ∧ CellsAt w kb (ko + j * 11) ((D k).cs (avs j) (kvs j))) (hk : ∀ j k : Nat, (K i)[j]? = some k → TV Q w D K k (avs j) (kvs j)) : TV Q w D K i (.slice ao (D i).al.length ac) (.slice kp (K i).length kc)
theorem CellsAt.mv {w w' : World} {b off : Nat} {l : List Value} (h : CellsAt w b off l) (k : w'.heap[b]? = w.heap[b]?) : CellsAt w' b off l := fun j u hj => by
  rw [← h j u hj]
  simp [World.cell?, k]
theorem TV.mv {Q : Nat → Prop} {w w' : World} {D : Nat → Nd} {K : Nat → List Nat} {i : Nat} {av kv : Value} (h : TV Q w D K i av kv) (hs : w.heap.size ≤ w'.heap.size) (b : ∀ k, Q k → k < w.heap.size → w'.heap[k]? = w.heap[k]?) : TV Q w' D K i av kv := by
  induction h with
  | mk ha hqa hp hc _ ih =>
    refine .mk (fun j x hj => ?_) hqa hp (fun j k hj => ⟨Nat.lt_of_lt_of_le (hc j k hj).1 hs, (hc j k hj).2.mv (b _ (hp (fun e => by rw [e] at hj; simp at hj)).2 (hc j k hj).1)⟩) ih
    obtain ⟨g, off, h1, h2, h3, h4⟩ := ha j x hj
    have e := b g (hqa (fun e => by rw [e] at hj; simp at hj) _ h1) h2
    exact ⟨g, off, h1, Nat.lt_of_lt_of_le h2 hs, by rw [← h3]; simp [World.cell?, e], by rw [← h4]; simp [World.cell?, e]⟩
theorem TV.old {Q : Nat → Prop} {w w' : World} {D : Nat → Nd} {K : Nat → List Nat} {i : Nat} {av kv : Value} (h : TV Q w D K i av kv) (b : Below w.heap.size w w') : TV Q w' D K i av kv :=
  h.mv b.size fun k _ hk => b.block k hk
theorem TV.sub {Q U : Nat → Prop} {w : World} {D : Nat → Nd} {K : Nat → List Nat} {i : Nat} {av kv : Value} (h : TV Q w D K i av kv) (b : ∀ k, Q k → U k) : TV U w D K i av kv := by
  induction h with
  | mk ha hqa hp hc _ ih => exact .mk ha (fun e a ea => b _ (hqa e a ea)) (fun e => ⟨(hp e).1, b _ (hp e).2⟩) hc ih
set_option maxHeartbeats 4000000 in
set_option maxRecDepth 20000 in
theorem equal_one {w : World} {ao bo kp qp : Option Addr} {A : List At} (n ca cb kn kc qc : Nat) (ha : AtRow w ao A) (hb : AtRow w bo A) (hn : A.length = n) (hn2 : n ≤ 9223372036854775807) (i1 i2 i3 : Int) (s1 s2 : ByteArray) (t1 t2 t3 t4 : Int)
    (hk : ∀ j, j < kn → ∃ (d : Nd) (kb ko qb qo : Nat) (av kv av' kv' : Value), kp = some ⟨kb, ko, none⟩ ∧ qp = some ⟨qb, qo, none⟩ ∧ kb < w.heap.size ∧ qb < w.heap.size ∧ CellsAt w kb (ko + j * 11) (d.cs av kv) ∧ CellsAt w qb (qo + j * 11) (d.cs av' kv') ∧
      ∀ w', Below w.heap.size w w' → Calls Try.prog 19 #[.agg #[iv d.id, iv d.kind, iv d.space, .string d.name, .string d.text, av, iv d.sf, iv d.st, iv d.ef, iv d.et, kv], .agg #[iv d.id, iv d.kind, iv d.space, .string d.name, .string d.text, av', iv d.sf, iv d.st, iv d.ef, iv d.et, kv']] w' fun e w'' => e = .returned (.bool true) ∧ Below w'.heap.size w' w'') (hkn : kn ≤ 1000000000) :
    Calls Try.prog 19 #[.agg #[iv i1, iv i2, iv i3, .string s1, .string s2, .slice ao n ca, iv t1, iv t2, iv t3, iv t4, .slice kp kn kc], .agg #[iv i1, iv i2, iv i3, .string s1, .string s2, .slice bo n cb, iv t1, iv t2, iv t3, iv t4, .slice qp kn qc]] w fun e w' => e = .returned (.bool true) ∧ Below w.heap.size w w' := by
  have HK : Hid (∀ j, j < kn → ∃ (d : Nd) (kb ko qb qo : Nat) (av kv av' kv' : Value), kp = some ⟨kb, ko, none⟩ ∧ qp = some ⟨qb, qo, none⟩ ∧ kb < w.heap.size ∧ qb < w.heap.size ∧ CellsAt w kb (ko + j * 11) (d.cs av kv) ∧ CellsAt w qb (qo + j * 11) (d.cs av' kv') ∧
      ∀ w', Below w.heap.size w w' → Calls Try.prog 19 #[.agg #[iv d.id, iv d.kind, iv d.space, .string d.name, .string d.text, av, iv d.sf, iv d.st, iv d.ef, iv d.et, kv], .agg #[iv d.id, iv d.kind, iv d.space, .string d.name, .string d.text, av', iv d.sf, iv d.st, iv d.ef, iv d.et, kv']] w' fun e w'' => e = .returned (.bool true) ∧ Below w'.heap.size w' w'') := hk
  have b0 : Below w.heap.size w ((w.alloc (.cells #[iv i1, iv i2, iv i3, .string s1, .string s2, .slice ao n ca, iv t1, iv t2, iv t3, iv t4, .slice kp kn kc] 35)).alloc (.cells #[iv i1, iv i2, iv i3, .string s1, .string s2, .slice bo n cb, iv t1, iv t2, iv t3, iv t4, .slice qp kn qc] 35)) := ((Below.refl _ _).alloc (Nat.le_refl _) _).alloc (by simp) _
  have k := same_ats (w := ((w.alloc (.cells #[iv i1, iv i2, iv i3, .string s1, .string s2, .slice ao n ca, iv t1, iv t2, iv t3, iv t4, .slice kp kn kc] 35)).alloc (.cells #[iv i1, iv i2, iv i3, .string s1, .string s2, .slice bo n cb, iv t1, iv t2, iv t3, iv t4, .slice qp kn qc] 35))) n ca cb (ha.old b0) (hb.old b0) hn hn2
  have x1 := ne32 t1 t2
  have x2 := ne32 t3 t4
  clear ha hb hn hk
  go_enter Try.func19, Try.ntmps19
  go_upto_region 1 with fail
  have z0 : decide ((kn : Int) < 0) = false := decide_eq_false (by omega)
  have n0 := heap_alloc_new (w.alloc (.cells #[iv i1, iv i2, iv i3, .string s1, .string s2, .slice ao n ca, iv t1, iv t2, iv t3, iv t4, .slice kp kn kc] 35)) (.cells #[iv i1, iv i2, iv i3, .string s1, .string s2, .slice bo n cb, iv t1, iv t2, iv t3, iv t4, .slice qp kn qc] 35)
  have n1 : ((w.alloc (.cells #[iv i1, iv i2, iv i3, .string s1, .string s2, .slice ao n ca, iv t1, iv t2, iv t3, iv t4, .slice kp kn kc] 35)).alloc (.cells #[iv i1, iv i2, iv i3, .string s1, .string s2, .slice bo n cb, iv t1, iv t2, iv t3, iv t4, .slice qp kn qc] 35)).heap[w.heap.size]? = some (.cells #[iv i1, iv i2, iv i3, .string s1, .string s2, .slice ao n ca, iv t1, iv t2, iv t3, iv t4, .slice kp kn kc] 35 (0, 0)) := by
    rw [heap_alloc_old _ _ (by simp)]; exact heap_alloc_new w _
  have hsz : (w.alloc (.cells #[iv i1, iv i2, iv i3, .string s1, .string s2, .slice ao n ca, iv t1, iv t2, iv t3, iv t4, .slice kp kn kc] 35)).heap.size = w.heap.size + 1 := by simp
  rw [hsz] at n0
  have H : Hid (Below w.heap.size w ((w.alloc (.cells #[iv i1, iv i2, iv i3, .string s1, .string s2, .slice ao n ca, iv t1, iv t2, iv t3, iv t4, .slice kp kn kc] 35)).alloc (.cells #[iv i1, iv i2, iv i3, .string s1, .string s2, .slice bo n cb, iv t1, iv t2, iv t3, iv t4, .slice qp kn qc] 35))) := b0
  clear b0
  go_wp2_with fail
  refine k.mono ?_
  clear k
  rintro e w1 ⟨rfl, b1⟩
  have hw := (Array.getElem?_eq_some_iff.1 n1).1
  have hw2 := (Array.getElem?_eq_some_iff.1 n0).1
  have c8 : w1.cell? ⟨w.heap.size, 10, none⟩ = some (.slice kp kn kc) := by
    have := (b1.block w.heap.size hw).trans n1
    simp [World.cell?, this]
  have d8 : w1.cell? ⟨w.heap.size + 1, 10, none⟩ = some (.slice qp kn qc) := by
    have := (b1.block (w.heap.size + 1) hw2).trans n0
    simp [World.cell?, this]
  have HB : Hid (Below w.heap.size w w1 ∧ w.heap.size < w1.heap.size ∧ w.heap.size + 1 < w1.heap.size) := ⟨H.out.trans (b1.mono H.out.size), Nat.lt_of_lt_of_le hw b1.size, Nat.lt_of_lt_of_le hw2 b1.size⟩
  clear b1 n0 n1 hw hw2 H hsz
  go_wp2_with fail
  go_loopg [5] kn (fun g2 iv wr => ∃ (i : Nat), iv = .int .i64 i ∧ i + g2 = kn ∧ Hid (Below w1.heap.size w1 wr))
  case atStart => exact ⟨0, rfl, by omega, Below.refl _ _⟩
  case round =>
    obtain ⟨i, rfl, hig, HI⟩ := hrel
    have c9 : wr.cell? ⟨w.heap.size, 10, none⟩ = some (.slice kp kn kc) := (by simp [World.cell?, HI.out.block _ HB.out.2.1] : wr.cell? ⟨w.heap.size, 10, none⟩ = w1.cell? ⟨w.heap.size, 10, none⟩).trans c8
    have d9 : wr.cell? ⟨w.heap.size + 1, 10, none⟩ = some (.slice qp kn qc) := (by simp [World.cell?, HI.out.block _ HB.out.2.2] : wr.cell? ⟨w.heap.size + 1, 10, none⟩ = w1.cell? ⟨w.heap.size + 1, 10, none⟩).trans d8
    clear c8 d8
    cases gk with
    | zero =>
      obtain rfl : i = kn := by omega
      have hg0 : decide ((i : Int) < (i : Int)) = false := decide_eq_false (by omega)
      go_wp2_with fail
      go_ret
      exact ⟨rfl, HB.out.1.trans (HI.out.mono HB.out.1.size)⟩
    | succ k =>
      have hin : i < kn := by omega
      have g1 : decide ((i : Int) < (kn : Int)) = true := decide_eq_true (by omega)
      obtain ⟨d, kb, ko, qb, qo, av, kv, av', kv', rfl, rfl, hkb, hqb, hc1, hc2, hcall⟩ := HK.out i hin
      have bw : Below w.heap.size w wr := HB.out.1.trans (HI.out.mono HB.out.1.size)
      have e1 := hc1.old hkb bw
      have e2 := hc2.old hqb bw
      have p0 : wr.cell? ⟨kb, ko + i * 11, none⟩ = some (iv d.id) := e1 0 _ rfl
      have p1 : wr.cell? ⟨kb, ko + i * 11 + 1, none⟩ = some (iv d.kind) := e1 1 _ rfl
      have p2 : wr.cell? ⟨kb, ko + i * 11 + 2, none⟩ = some (iv d.space) := e1 2 _ rfl
      have p3 : wr.cell? ⟨kb, ko + i * 11 + 3, none⟩ = some (.string d.name) := e1 3 _ rfl
      have p4 : wr.cell? ⟨kb, ko + i * 11 + 4, none⟩ = some (.string d.text) := e1 4 _ rfl
      have p5 : wr.cell? ⟨kb, ko + i * 11 + 5, none⟩ = some (av) := e1 5 _ rfl
      have p6 : wr.cell? ⟨kb, ko + i * 11 + 6, none⟩ = some (iv d.sf) := e1 6 _ rfl
      have p7 : wr.cell? ⟨kb, ko + i * 11 + 7, none⟩ = some (iv d.st) := e1 7 _ rfl
      have p8 : wr.cell? ⟨kb, ko + i * 11 + 8, none⟩ = some (iv d.ef) := e1 8 _ rfl
      have p9 : wr.cell? ⟨kb, ko + i * 11 + 9, none⟩ = some (iv d.et) := e1 9 _ rfl
      have p10 : wr.cell? ⟨kb, ko + i * 11 + 10, none⟩ = some (kv) := e1 10 _ rfl
      have q0 : wr.cell? ⟨qb, qo + i * 11, none⟩ = some (iv d.id) := e2 0 _ rfl
      have q1 : wr.cell? ⟨qb, qo + i * 11 + 1, none⟩ = some (iv d.kind) := e2 1 _ rfl
      have q2 : wr.cell? ⟨qb, qo + i * 11 + 2, none⟩ = some (iv d.space) := e2 2 _ rfl
      have q3 : wr.cell? ⟨qb, qo + i * 11 + 3, none⟩ = some (.string d.name) := e2 3 _ rfl
      have q4 : wr.cell? ⟨qb, qo + i * 11 + 4, none⟩ = some (.string d.text) := e2 4 _ rfl
      have q5 : wr.cell? ⟨qb, qo + i * 11 + 5, none⟩ = some (av') := e2 5 _ rfl
      have q6 : wr.cell? ⟨qb, qo + i * 11 + 6, none⟩ = some (iv d.sf) := e2 6 _ rfl
      have q7 : wr.cell? ⟨qb, qo + i * 11 + 7, none⟩ = some (iv d.st) := e2 7 _ rfl
      have q8 : wr.cell? ⟨qb, qo + i * 11 + 8, none⟩ = some (iv d.ef) := e2 8 _ rfl
      have q9 : wr.cell? ⟨qb, qo + i * 11 + 9, none⟩ = some (iv d.et) := e2 9 _ rfl
      have q10 : wr.cell? ⟨qb, qo + i * 11 + 10, none⟩ = some (kv') := e2 10 _ rfl
      have hcl := fun wd (b : Below wr.heap.size wr wd) => hcall wd (bw.trans (b.mono bw.size))
      have HC : Hid (∀ wd, Below wr.heap.size wr wd → Calls Try.prog 19 #[.agg #[iv d.id, iv d.kind, iv d.space, .string d.name, .string d.text, av, iv d.sf, iv d.st, iv d.ef, iv d.et, kv], .agg #[iv d.id, iv d.kind, iv d.space, .string d.name, .string d.text, av', iv d.sf, iv d.st, iv d.ef, iv d.et, kv']] wd fun e w'' => e = .returned (.bool true) ∧ Below wd.heap.size wd w'') := hcl
      clear hcall hcl hkb hqb hc1 hc2 e1 e2 bw
      go_wp2_with fail
      clear HK
      go_still_tail 10, (show Try.prog.follows .mixedOrders = true by kernel_rfl)
      go_wp2_with fail
      refine (HC.out _ (below_drewN (Below.refl _ _) 1)).mono ?_
      rintro e w2 ⟨rfl, b2⟩
      have HB2 : Hid (Below wr.heap.size wr w2) := (below_drewN (Below.refl _ _) 1).trans b2
      clear b2 HC
      go_wp2_with fail
      go_roundg k
      case measure => omega
      case rel => exact ⟨i + 1, by go_num, by omega, HI.out.trans (HB2.out.mono HI.out.size)⟩
/-- Two trees that are the same are equal. -/
theorem equal_any {Q U : Nat → Prop} {D : Nat → Nd} {K : Nat → List Nat} {sz : Nat → Nat} (hs : ∀ i k, k ∈ K i → sz k < sz i) (hl : ∀ i, (K i).length ≤ 1000000000) (ha : ∀ i, (D i).al.length ≤ 1000000000) : ∀ (f i : Nat) (w : World) (av kv av' kv' : Value), sz i < f → TV Q w D K i av kv → TV U w D K i av' kv' →
    Calls Try.prog 19 #[.agg #[iv (D i).id, iv (D i).kind, iv (D i).space, .string (D i).name, .string (D i).text, av, iv (D i).sf, iv (D i).st, iv (D i).ef, iv (D i).et, kv], .agg #[iv (D i).id, iv (D i).kind, iv (D i).space, .string (D i).name, .string (D i).text, av', iv (D i).sf, iv (D i).st, iv (D i).ef, iv (D i).et, kv']] w fun e w' => e = .returned (.bool true) ∧ Below w.heap.size w w'
  | 0, _, _, _, _, _, _, hn, _, _ => absurd hn (Nat.not_lt_zero _)
  | f + 1, i, w, _, _, _, _, hn, .mk (ao := ao) (kp := kp) (ac := ac) (kc := kc) (kb := kb) (ko := ko) (avs := avs) (kvs := kvs) a1 _ p1 c1 k1, .mk (ao := bo) (kp := qp) (ac := bc) (kc := qc) (kb := qb) (ko := qo) (avs := avs') (kvs := kvs') a2 _ p2 c2 k2 => by
    refine equal_one _ ac bc _ kc qc a1 a2 rfl (by have := ha i; omega) _ _ _ _ _ _ _ _ _ (fun j hj => ?_) (hl i)
    have hne : K i ≠ [] := fun e => by rw [e] at hj; simp at hj
    obtain ⟨k, hk⟩ : ∃ k, (K i)[j]? = some k := ⟨_, List.getElem?_eq_getElem hj⟩
    refine ⟨D k, kb, ko, qb, qo, avs j, kvs j, avs' j, kvs' j, (p1 hne).1, (p2 hne).1, (c1 j k hk).1, (c2 j k hk).1, (c1 j k hk).2, (c2 j k hk).2, fun w' b => ?_⟩
    exact equal_any hs hl ha f k w' _ _ _ _ (by have := hs i k (List.mem_of_getElem? hk); omega) ((k1 j k hk).old b) ((k2 j k hk).old b)
end Go.Proofs.Ytcdaghlbfclpkaa
namespace Go.Proofs.Ytcdaghlbfclpkaa
open Go.RowKit

/-- A kid: its own, its attributes, its kids. -/
abbrev Nk := Nd × Value × Value
def nkc (q : Nk) : List Value := q.1.cs q.2.1 q.2.2
/-- While a node's kids are gathered: all that was there stands but for one cell of block b, which holds the row of kids. -/
structure KT (w1 wr : World) (b : Nat) (cur : Array Value) (M : List Nk) (v : Value) : Prop where
  sm : Sm w1 wr
  oth : ∀ k, k < w1.heap.size → k ≠ b → wr.heap[k]? = w1.heap[k]?
  blk : wr.heap[b]? = some (.cells (cur.setIfInBounds 10 v) 35 (0, 0))
  was : w1.heap[b]? = some (.cells cur 35 (0, 0))
  ho : 10 < cur.size
  row : Rw (fun k => k < w1.heap.size) wr 35 11 v M.length (M.flatMap nkc)
theorem KT.hb {w1 wr : World} {b : Nat} {cur : Array Value} {M : List Nk} {v : Value} (h : KT w1 wr b cur M v) : b < w1.heap.size := (Array.getElem?_eq_some_iff.1 h.was).1
theorem KT.old {w1 wr w' : World} {b : Nat} {cur : Array Value} {M : List Nk} {v : Value} (h : KT w1 wr b cur M v) (k : Below wr.heap.size wr w') : KT w1 w' b cur M v :=
  ⟨⟨k.os.trans h.sm.os, k.tape.trans h.sm.tape, k.output.trans h.sm.output, Nat.le_trans h.sm.size k.size⟩, fun i hi hn => (k.block i (Nat.lt_of_lt_of_le hi h.sm.size)).trans (h.oth i hi hn), (k.block b (Nat.lt_of_lt_of_le h.hb h.sm.size)).trans h.blk, h.was, h.ho, h.row.old k⟩
theorem KT.start {w1 : World} {b : Nat} {cur : Array Value} (h : w1.heap[b]? = some (.cells cur 35 (0, 0))) (hc : cur[10]? = some (.slice none 0 0)) : KT w1 w1 b cur [] (.slice none 0 0) := by
  have ho := (Array.getElem?_eq_some_iff.1 hc).1
  have hs : cur.setIfInBounds 10 (.slice none 0 0) = cur := by
    apply Array.ext_getElem?
    intro i
    rw [Array.getElem?_setIfInBounds]
    by_cases e : 10 = i
    · subst e
      simp [ho]
      exact (Array.getElem?_eq_some_iff.1 hc).2.symm
    · simp [e]
  exact ⟨Sm.refl _, fun _ _ _ => rfl, by rw [hs]; exact h, h, ho, Rw.nil _ _ _ _⟩
theorem KT.cell {w1 wr : World} {b : Nat} {cur : Array Value} {M : List Nk} {v : Value} (h : KT w1 wr b cur M v) : wr.cell? ⟨b, 10, none⟩ = some v := by
  have := h.ho
  simp [World.cell?, h.blk, this]
theorem KT.cells {w1 wr : World} {b : Nat} {cur : Array Value} {M : List Nk} {v : Value} (h : KT w1 wr b cur M v) (j : Nat) (hj : j ≠ 10) : wr.cell? ⟨b, j, none⟩ = cur[j]? := by
  have e : ¬ 10 = j := fun e => hj e.symm
  simp [World.cell?, h.blk, e]
theorem KT.below {B : Nat} {w0 w1 wr : World} {b : Nat} {cur : Array Value} {M : List Nk} {v : Value} (h : KT w1 wr b cur M v) (k : Below B w0 w1) (hB : B ≤ b) (hs : B ≤ w0.heap.size) : Below B w0 wr :=
  k.trans ⟨h.sm.os, h.sm.tape, h.sm.output, h.sm.size, fun i hi => h.oth i (by have := k.size; omega) (by omega)⟩
theorem KT.app {w1 wr : World} {b : Nat} {cur : Array Value} {M : List Nk} {v : Value} (h : KT w1 wr b cur M v) {n : Nat} (hn : M.length = n) (hP : n ≤ 1000000000) (q : Nk) (arr : Array Value) (harr : arr.toList = nkc q) (h1c : ∀ u ∈ nkc q, u.oneCell' = true) :
    ∃ g c W, (Builtin.append_ #[33, 33] 33 #[v, .slice (some ⟨wr.heap.size, 0, none⟩) 1 1]).run Try.prog (wr.alloc (.cells arr 35)) = .ok (.slice (some ⟨g, 0, none⟩) (n + 1) c) W ∧ W.cell? ⟨b, 10, none⟩ = some v ∧ W.frozen? ⟨b, 10, none⟩ = false ∧
      KT w1 (W.setCell ⟨b, 10, none⟩ (.slice (some ⟨g, 0, none⟩) (n + 1) c)) b cur (M ++ [q]) (.slice (some ⟨g, 0, none⟩) (n + 1) c) ∧ (some g = v.ownBlock ∨ wr.heap.size < g) ∧
      (∀ k, k < wr.heap.size → k ≠ b → some k ≠ v.ownBlock → (W.setCell ⟨b, 10, none⟩ (.slice (some ⟨g, 0, none⟩) (n + 1) c)).heap[k]? = wr.heap[k]?) ∧ wr.heap.size ≤ (W.setCell ⟨b, 10, none⟩ (.slice (some ⟨g, 0, none⟩) (n + 1) c)).heap.size := by
  have b1 : Below wr.heap.size wr (wr.alloc (.cells arr 35)) := (Below.refl _ _).alloc (Nat.le_refl _) _
  have h' := h.old b1
  have hlow : ∀ k, k < w1.heap.size → k < (wr.alloc (.cells arr 35)).heap.size := fun k hk => Nat.lt_of_lt_of_le hk h'.sm.size
  obtain ⟨v', W, h1, h2, h3, h4⟩ := Rw.app (t := 33) (e := 35) (S := fun k => k < w1.heap.size) Try.underlying33 info35 rfl (by decide) (by decide) h'.row hlow wr.heap.size 0 1 1 (nkc q) rfl
    (fun j u hj => by rw [Nat.zero_add, World.cell?_alloc_at _ _ _ _ rfl, ← hj, ← harr]; simp) h1c (by omega)
  obtain ⟨g, c, cg, rfl, hgS, _, hgb, _⟩ := h2.form (by omega)
  rw [hn] at h1 h2
  have hv : ∀ k, k < w1.heap.size → some k ≠ v.ownBlock := fun k hk e => h'.row.out k e.symm hk
  have hold : ∀ k, k < w1.heap.size → W.heap[k]? = (wr.alloc (.cells arr 35)).heap[k]? := fun k hk => h3.block k (hlow k hk) (hv k hk)
  have hbg : b ≠ g := fun e => hgS (e ▸ h.hb)
  have hbW : W.heap[b]? = some (.cells (cur.setIfInBounds 10 v) 35 (0, 0)) := (hold b h.hb).trans h'.blk
  have hset : (cur.setIfInBounds 10 v).setIfInBounds 10 (.slice (some ⟨g, 0, none⟩) (n + 1) c) = cur.setIfInBounds 10 (.slice (some ⟨g, 0, none⟩) (n + 1) c) := by simp
  have hsz : (wr.alloc (.cells arr 35)).heap.size = wr.heap.size + 1 := by simp
  have hnl : (M ++ [q]).length = n + 1 := by rw [List.length_append, hn]; rfl
  have hnd : (M ++ [q]).flatMap nkc = M.flatMap nkc ++ nkc q := by rw [List.flatMap_append]; simp
  have hge : some g = v.ownBlock ∨ wr.heap.size < g := by
    rcases h4 with q | q
    · exact .inl q
    · simp [Value.ownBlock] at q
      rw [q]
      exact .inr (Nat.lt_succ_self _)
  refine ⟨g, c, W, h1, ?_, frozen_of_row W b 10 _ 35 hbW, ⟨⟨?_, ?_, ?_, ?_⟩, fun k hk hkb => ?_, ?_, h.was, h.ho, ?_⟩, hge, fun k hk hkb hkv => ?_, ?_⟩
  · have := h.ho
    simp [World.cell?, hbW, this]
  · exact h3.os.trans h'.sm.os
  · exact h3.tape.trans h'.sm.tape
  · exact h3.output.trans h'.sm.output
  · have := h3.size
    have := h'.sm.size
    simp
    simp at *
    omega
  · exact (heap_setCell_other W ⟨b, 10, none⟩ k _ hkb).trans ((hold k hk).trans (h'.oth k hk hkb))
  · rw [← hset]
    exact heap_setCell_same W b 10 _ 35 _ hbW
  · rw [hnl, hnd]
    exact h2.mv fun k hk => by
      simp [Value.ownBlock] at hk
      subst hk
      exact heap_setCell_other W ⟨b, 10, none⟩ g _ (fun e => hbg e.symm)
  · exact (heap_setCell_other W ⟨b, 10, none⟩ k _ hkb).trans ((h3.block k (by omega) hkv).trans (b1.block k hk))
  · have := h3.size
    simp
    simp at *
    omega
/-- The kids gathered so far lie there as trees. -/
def KL (w1 wr : World) (b : Nat) (cur : Array Value) (D : Nat → Nd) (K : Nat → List Nat) (l : List Nat) (j : Nat) (v : Value) : Prop :=
  ∃ M : List Nk, M.length = j ∧ KT w1 wr b cur M v ∧ ∀ t k, t < j → l[t]? = some k → ∃ av kv, M[t]? = some (D k, av, kv) ∧ TV (fun k => w1.heap.size ≤ k ∧ k < wr.heap.size ∧ some k ≠ v.ownBlock) wr D K k av kv
theorem KL.old {w1 wr w' : World} {b : Nat} {cur : Array Value} {D : Nat → Nd} {K : Nat → List Nat} {l : List Nat} {j : Nat} {v : Value} (h : KL w1 wr b cur D K l j v) (k : Below wr.heap.size wr w') : KL w1 w' b cur D K l j v := by
  obtain ⟨M, h1, h2, h3⟩ := h
  refine ⟨M, h1, h2.old k, fun t i ht hi => ?_⟩
  obtain ⟨av, kv, q1, q2⟩ := h3 t i ht hi
  exact ⟨av, kv, q1, (q2.old k).sub fun i hi => ⟨hi.1, Nat.lt_of_lt_of_le hi.2.1 k.size, hi.2.2⟩⟩
theorem KL.start {w1 : World} {b : Nat} {cur : Array Value} {D : Nat → Nd} {K : Nat → List Nat} {l : List Nat} (h : w1.heap[b]? = some (.cells cur 35 (0, 0))) (hc : cur[10]? = some (.slice none 0 0)) : KL w1 w1 b cur D K l 0 (.slice none 0 0) :=
  ⟨[], rfl, KT.start h hc, fun _ _ h => absurd h (Nat.not_lt_zero _)⟩
theorem KL.next {w1 wr : World} {b : Nat} {cur : Array Value} {D : Nat → Nd} {K : Nat → List Nat} {l : List Nat} {j : Nat} {v : Value} (h : KL w1 wr b cur D K l j v) (hj : j ≤ 1000000000) {k0 : Nat} (hk : l[j]? = some k0) {w2 : World} (b2 : Below wr.heap.size wr w2) {ao kp : Option Addr} {al ac kl kc : Nat}
    (ht : TV (fun k => wr.heap.size ≤ k ∧ k < w2.heap.size) w2 D K k0 (.slice ao al ac) (.slice kp kl kc)) (arr : Array Value) (harr : arr.toList = (D k0).cs (.slice ao al ac) (.slice kp kl kc)) :
    ∃ g c W, (Builtin.append_ #[33, 33] 33 #[v, .slice (some ⟨w2.heap.size, 0, none⟩) 1 1]).run Try.prog (w2.alloc (.cells arr 35)) = .ok (.slice (some ⟨g, 0, none⟩) (j + 1) c) W ∧ W.cell? ⟨b, 10, none⟩ = some v ∧ W.frozen? ⟨b, 10, none⟩ = false ∧
      Hid (KL w1 (W.setCell ⟨b, 10, none⟩ (.slice (some ⟨g, 0, none⟩) (j + 1) c)) b cur D K l (j + 1) (.slice (some ⟨g, 0, none⟩) (j + 1) c)) := by
  have h' := h.old b2
  obtain ⟨M, m1, m2, m3⟩ := h'
  obtain ⟨_, _, n2, _⟩ := h
  obtain ⟨g, c, W, a1, a2, a3, a4, a5, a6, a7⟩ := m2.app m1 hj (D k0, .slice ao al ac, .slice kp kl kc) arr harr (by
    intro u hu
    simp only [nkc, Nd.cs, List.mem_cons, List.not_mem_nil, or_false] at hu
    rcases hu with rfl | rfl | rfl | rfl | rfl | rfl | rfl | rfl | rfl | rfl | rfl <;> rfl)
  have hvb : ∀ k, some k = v.ownBlock → k < wr.heap.size := fun k hk => (own_blk n2.row.own hk.symm).1
  have hbl : b < w1.heap.size := m2.hb
  refine ⟨g, c, W, a1, a2, a3, M ++ [(D k0, .slice ao al ac, .slice kp kl kc)], by rw [List.length_append, m1]; rfl, a4, fun t k ht' hk' => ?_⟩
  by_cases e : t = j
  · subst e
    rw [hk] at hk'
    simp at hk'
    subst hk'
    refine ⟨.slice ao al ac, .slice kp kl kc, by rw [List.getElem?_append_right (by omega), m1]; simp, ?_⟩
    refine (ht.mv a7 fun k hk hl => a6 k hl (fun e => ?_) (fun e => ?_)).sub fun k hk => ⟨Nat.le_trans n2.sm.size hk.1, Nat.lt_of_lt_of_le hk.2 a7, fun e => ?_⟩
    · have := n2.sm.size
      have := hk.1
      omega
    · have := hvb k e
      have := hk.1
      omega
    · simp [Value.ownBlock] at e
      subst e
      rcases a5 with q | q
      · have := hvb _ q
        have := hk.1
        omega
      · have := hk.2
        omega
  · obtain ⟨av, kv, q1, q2⟩ := m3 t k (by omega) hk'
    refine ⟨av, kv, by rw [List.getElem?_append_left (by rw [m1]; omega)]; exact q1, ?_⟩
    refine (q2.mv a7 fun i hi hl => a6 i hl (fun e => ?_) hi.2.2).sub fun i hi => ⟨hi.1, Nat.lt_of_lt_of_le hi.2.1 a7, fun e => ?_⟩
    · have := hi.1
      omega
    · simp [Value.ownBlock] at e
      subst e
      rcases a5 with q | q
      · exact hi.2.2 q
      · have := hi.2.1
        omega
end Go.Proofs.Ytcdaghlbfclpkaa
