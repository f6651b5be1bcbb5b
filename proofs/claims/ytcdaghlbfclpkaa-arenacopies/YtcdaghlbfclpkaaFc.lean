/- The document's Tree. -/
import Derived.Test.YtcdaghlbfclpkaaEa
import Derived.StillTailTactics
import Derived.Test.YtcdaghlbfclpkaaBa
import Derived.Test.YtcdaghlbfclpkaaCd
import Derived.Test.YtcdaghlbfclpkaaBd
import Derived.Shelf.Abstract
namespace Go.Proofs.Ytcdaghlbfclpkaa
open Go.RowKit

def CellsAt (w : World) (b off : Nat) (l : List Value) : Prop := ∀ j u, l[j]? = some u → w.cell? ⟨b, off + j, none⟩ = some u
theorem CellsAt.old {w w' : World} {b off : Nat} {l : List Value} (h : CellsAt w b off l) (hb : b < w.heap.size) (k : Below w.heap.size w w') : CellsAt w' b off l := fun j u hj => by
  rw [← h j u hj]
  simp [World.cell?, k.block b hb]
def Nd.cs (d : Nd) (av kv : Value) : List Value := [iv d.id, iv d.kind, iv d.space, .string d.name, .string d.text, av, iv d.sf, iv d.st, iv d.ef, iv d.et, kv]
/-- A tree as values; the blocks that it lies in are Q's. -/
inductive TV (Q : Nat → Prop) (w : World) (D : Nat → Nd) (K : Nat → List Nat) : Nat → Value → Value → Prop
  | mk {i ac kc kb ko : Nat} {ao kp : Option Addr} {avs kvs : Nat → Value} (ha : AtRow w ao (D i).al) (hqa : (D i).al ≠ [] → ∀ a, ao = some a → Q a.block) (hp : K i ≠ [] → kp = some ⟨kb, ko, none⟩ ∧ Q kb) (hc : ∀ j k : Nat, (K i)[j]? = some k → kb < w.heap.size ∧ CellsAt w kb (ko + j * 11) ((D k).cs (avs j) (kvs j))) (hk : ∀ j k : Nat, (K i)[j]? = some k → TV Q w D K k (avs j) (kvs j)) : TV Q w D K i (.slice ao (D i).al.length ac) (.slice kp (K i).length kc)
theorem CellsAt.mv {w w' : World} {b off : Nat} {l : List Value} (h : CellsAt w b off l) (k : w'.heap[b]? = w.heap[b]?) : CellsAt w' b off l := fun j u hj => by
  rw [← h j u hj]
  simp [World.cell?, k]
theorem TV.mv {Q : Nat → Prop} {w w' : World} {D : Nat → Nd} {K : Nat → List Nat} {i : Nat} {av kv : Value} (h : TV Q w D K i av kv) (hs : w.heap.size ≤ w'.heap.size) (b : ∀ k, Q k → k < w.heap.size → w'.heap[k]? = w.heap[k]?) : TV Q w' D K i av kv := by
  induction h with
  | mk ha hqa hp hc _ ih =>
    refine .mk (fun j x hj => ?_) hqa hp (fun j k hj => ⟨Nat.lt_of_lt_of_le (hc j k hj).1 hs, (hc j k hj).2.mv (b _ (hp (fun e => by rw [e] at hj; simp at hj)).2 (hc j k hj).1)⟩) ih
    obtain ⟨g, off, h1, h2, h3, h4⟩ := ha j x hj
    have e := b g (hqa (fun e => by rw [e] at hj; simp at hj) _ h1) h2
    exact ⟨g, off, h1, Nat.lt_of_lt_of_le h2 hs, by rw [← h3]; simp [World.cell?, e], by rw [← h4]; simp [World.cell?, e]⟩
theorem TV.old {Q : Nat → Prop} {w w' : World} {D : Nat → Nd} {K : Nat → List Nat} {i : Nat} {av kv : Value} (h : TV Q w D K i av kv) (b : Below w.heap.size w w') : TV Q w' D K i av kv :=
  h.mv b.size fun k _ hk => b.block k hk
theorem TV.sub {Q U : Nat → Prop} {w : World} {D : Nat → Nd} {K : Nat → List Nat} {i : Nat} {av kv : Value} (h : TV Q w D K i av kv) (b : ∀ k, Q k → U k) : TV U w D K i av kv := by
  induction h with
  | mk ha hqa hp hc _ ih => exact .mk ha (fun e a ea => b _ (hqa e a ea)) (fun e => ⟨(hp e).1, b _ (hp e).2⟩) hc ih
set_option maxHeartbeats 4000000 in
set_option maxRecDepth 20000 in
theorem equal_one {w : World} {ao bo kp qp : Option Addr} {A : List At} (n ca cb kn kc qc : Nat) (ha : AtRow w ao A) (hb : AtRow w bo A) (hn : A.length = n) (hn2 : n ≤ 9223372036854775807) (i1 i2 i3 : Int) (s1 s2 : ByteArray) (t1 t2 t3 t4 : Int)
    (hk : ∀ j, j < kn → ∃ (d : Nd) (kb ko qb qo : Nat) (av kv av' kv' : Value), kp = some ⟨kb, ko, none⟩ ∧ qp = some ⟨qb, qo, none⟩ ∧ kb < w.heap.size ∧ qb < w.heap.size ∧ CellsAt w kb (ko + j * 11) (d.cs av kv) ∧ CellsAt w qb (qo + j * 11) (d.cs av' kv') ∧
      ∀ w', Below w.heap.size w w' → Calls Try.prog 19 #[.agg #[iv d.id, iv d.kind, iv d.space, .string d.name, .string d.text, av, iv d.sf, iv d.st, iv d.ef, iv d.et, kv], .agg #[iv d.id, iv d.kind, iv d.space, .string d.name, .string d.text, av', iv d.sf, iv d.st, iv d.ef, iv d.et, kv']] w' fun e w'' => e = .returned (.bool true) ∧ Below w'.heap.size w' w'') (hkn : kn ≤ 1000000000) :
    Calls Try.prog 19 #[.agg #[iv i1, iv i2, iv i3, .string s1, .string s2, .slice ao n ca, iv t1, iv t2, iv t3, iv t4, .slice kp kn kc], .agg #[iv i1, iv i2, iv i3, .string s1, .string s2, .slice bo n cb, iv t1, iv t2, iv t3, iv t4, .slice qp kn qc]] w fun e w' => e = .returned (.bool true) ∧ Below w.heap.size w w' := by
  have HK : Hid (∀ j, j < kn → ∃ (d : Nd) (kb ko qb qo : Nat) (av kv av' kv' : Value), kp = some ⟨kb, ko, none⟩ ∧ qp = some ⟨qb, qo, none⟩ ∧ kb < w.heap.size ∧ qb < w.heap.size ∧ CellsAt w kb (ko + j * 11) (d.cs av kv) ∧ CellsAt w qb (qo + j * 11) (d.cs av' kv') ∧
      ∀ w', Below w.heap.size w w' → Calls Try.prog 19 #[.agg #[iv d.id, iv d.kind, iv d.space, .string d.name, .string d.text, av, iv d.sf, iv d.st, iv d.ef, iv d.et, kv], .agg #[iv d.id, iv d.kind, iv d.space, .string d.name, .string d.text, av', iv d.sf, iv d.st, iv d.ef, iv d.et, kv']] w' fun e w'' => e = .returned (.bool true) ∧ Below w'.heap.size w' w'') := hk
  have b0 : Below w.heap.size w ((w.alloc (.cells #[iv i1, iv i2, iv i3, .string s1, .string s2, .slice ao n ca, iv t1, iv t2, iv t3, iv t4, .slice kp kn kc] 35)).alloc (.cells #[iv i1, iv i2, iv i3, .string s1, .string s2, .slice bo n cb, iv t1, iv t2, iv t3, iv t4, .slice qp kn qc] 35)) := ((Below.refl _ _).alloc (Nat.le_refl _) _).alloc (by simp) _
  have k := same_ats (w := ((w.alloc (.cells #[iv i1, iv i2, iv i3, .string s1, .string s2, .slice ao n ca, iv t1, iv t2, iv t3, iv t4, .slice kp kn kc] 35)).alloc (.cells #[iv i1, iv i2, iv i3, .string s1, .string s2, .slice bo n cb, iv t1, iv t2, iv t3, iv t4, .slice qp kn qc] 35))) n ca cb (ha.old b0) (hb.old b0) hn hn2
  have x1 := ne32 t1 t2
  have x2 := ne32 t3 t4
  clear ha hb hn hk
  go_enter Try.func19, Try.ntmps19
  go_upto_region 1 with fail
  have z0 : decide ((kn : Int) < 0) = false := decide_eq_false (by omega)
  have n0 := heap_alloc_new (w.alloc (.cells #[iv i1, iv i2, iv i3, .string s1, .string s2, .slice ao n ca, iv t1, iv t2, iv t3, iv t4, .slice kp kn kc] 35)) (.cells #[iv i1, iv i2, iv i3, .string s1, .string s2, .slice bo n cb, iv t1, iv t2, iv t3, iv t4, .slice qp kn qc] 35)
  have n1 : ((w.alloc (.cells #[iv i1, iv i2, iv i3, .string s1, .string s2, .slice ao n ca, iv t1, iv t2, iv t3, iv t4, .slice kp kn kc] 35)).alloc (.cells #[iv i1, iv i2, iv i3, .string s1, .string s2, .slice bo n cb, iv t1, iv t2, iv t3, iv t4, .slice qp kn qc] 35)).heap[w.heap.size]? = some (.cells #[iv i1, iv i2, iv i3, .string s1, .string s2, .slice ao n ca, iv t1, iv t2, iv t3, iv t4, .slice kp kn kc] 35 (0, 0)) := by
    rw [heap_alloc_old _ _ (by simp)]; exact heap_alloc_new w _
  have hsz : (w.alloc (.cells #[iv i1, iv i2, iv i3, .string s1, .string s2, .slice ao n ca, iv t1, iv t2, iv t3, iv t4, .slice kp kn kc] 35)).heap.size = w.heap.size + 1 := by simp
  rw [hsz] at n0
  have H : Hid (Below w.heap.size w ((w.alloc (.cells #[iv i1, iv i2, iv i3, .string s1, .string s2, .slice ao n ca, iv t1, iv t2, iv t3, iv t4, .slice kp kn kc] 35)).alloc (.cells #[iv i1, iv i2, iv i3, .string s1, .string s2, .slice bo n cb, iv t1, iv t2, iv t3, iv t4, .slice qp kn qc] 35))) := b0
  clear b0
  go_wp2_with fail
  refine k.mono ?_
  clear k
  rintro e w1 ⟨rfl, b1⟩
  have hw := (Array.getElem?_eq_some_iff.1 n1).1
  have hw2 := (Array.getElem?_eq_some_iff.1 n0).1
  have c8 : w1.cell? ⟨w.heap.size, 10, none⟩ = some (.slice kp kn kc) := by
    have := (b1.block w.heap.size hw).trans n1
    simp [World.cell?, this]
  have d8 : w1.cell? ⟨w.heap.size + 1, 10, none⟩ = some (.slice qp kn qc) := by
    have := (b1.block (w.heap.size + 1) hw2).trans n0
    simp [World.cell?, this]
  have HB : Hid (Below w.heap.size w w1 ∧ w.heap.size < w1.heap.size ∧ w.heap.size + 1 < w1.heap.size) := ⟨H.out.trans (b1.mono H.out.size), Nat.lt_of_lt_of_le hw b1.size, Nat.lt_of_lt_of_le hw2 b1.size⟩
  clear b1 n0 n1 hw hw2 H hsz
  go_wp2_with fail
  go_loopg [5] kn (fun g2 iv wr => ∃ (i : Nat), iv = .int .i64 i ∧ i + g2 = kn ∧ Hid (Below w1.heap.size w1 wr))
  case atStart => exact ⟨0, rfl, by omega, Below.refl _ _⟩
  case round =>
    obtain ⟨i, rfl, hig, HI⟩ := hrel
    have c9 : wr.cell? ⟨w.heap.size, 10, none⟩ = some (.slice kp kn kc) := (by simp [World.cell?, HI.out.block _ HB.out.2.1] : wr.cell? ⟨w.heap.size, 10, none⟩ = w1.cell? ⟨w.heap.size, 10, none⟩).trans c8
    have d9 : wr.cell? ⟨w.heap.size + 1, 10, none⟩ = some (.slice qp kn qc) := (by simp [World.cell?, HI.out.block _ HB.out.2.2] : wr.cell? ⟨w.heap.size + 1, 10, none⟩ = w1.cell? ⟨w.heap.size + 1, 10, none⟩).trans d8
    clear c8 d8
    cases gk with
    | zero =>
      obtain rfl : i = kn := by omega
      have hg0 : decide ((i : Int) < (i : Int)) = false := decide_eq_false (by omega)
      go_wp2_with fail
      go_ret
      exact ⟨rfl, HB.out.1.trans (HI.out.mono HB.out.1.size)⟩
    | succ k =>
      have hin : i < kn := by omega
      have g1 : decide ((i : Int) < (kn : Int)) = true := decide_eq_true (by omega)
      obtain ⟨d, kb, ko, qb, qo, av, kv, av', kv', rfl, rfl, hkb, hqb, hc1, hc2, hcall⟩ := HK.out i hin
      have bw : Below w.heap.size w wr := HB.out.1.trans (HI.out.mono HB.out.1.size)
      have e1 := hc1.old hkb bw
      have e2 := hc2.old hqb bw
      have p0 : wr.cell? ⟨kb, ko + i * 11, none⟩ = some (iv d.id) := e1 0 _ rfl
      have p1 : wr.cell? ⟨kb, ko + i * 11 + 1, none⟩ = some (iv d.kind) := e1 1 _ rfl
      have p2 : wr.cell? ⟨kb, ko + i * 11 + 2, none⟩ = some (iv d.space) := e1 2 _ rfl
      have p3 : wr.cell? ⟨kb, ko + i * 11 + 3, none⟩ = some (.string d.name) := e1 3 _ rfl
      have p4 : wr.cell? ⟨kb, ko + i * 11 + 4, none⟩ = some (.string d.text) := e1 4 _ rfl
      have p5 : wr.cell? ⟨kb, ko + i * 11 + 5, none⟩ = some (av) := e1 5 _ rfl
      have p6 : wr.cell? ⟨kb, ko + i * 11 + 6, none⟩ = some (iv d.sf) := e1 6 _ rfl
      have p7 : wr.cell? ⟨kb, ko + i * 11 + 7, none⟩ = some (iv d.st) := e1 7 _ rfl
      have p8 : wr.cell? ⟨kb, ko + i * 11 + 8, none⟩ = some (iv d.ef) := e1 8 _ rfl
      have p9 : wr.cell? ⟨kb, ko + i * 11 + 9, none⟩ = some (iv d.et) := e1 9 _ rfl
      have p10 : wr.cell? ⟨kb, ko + i * 11 + 10, none⟩ = some (kv) := e1 10 _ rfl
      have q0 : wr.cell? ⟨qb, qo + i * 11, none⟩ = some (iv d.id) := e2 0 _ rfl
      have q1 : wr.cell? ⟨qb, qo + i * 11 + 1, none⟩ = some (iv d.kind) := e2 1 _ rfl
      have q2 : wr.cell? ⟨qb, qo + i * 11 + 2, none⟩ = some (iv d.space) := e2 2 _ rfl
      have q3 : wr.cell? ⟨qb, qo + i * 11 + 3, none⟩ = some (.string d.name) := e2 3 _ rfl
      have q4 : wr.cell? ⟨qb, qo + i * 11 + 4, none⟩ = some (.string d.text) := e2 4 _ rfl
      have q5 : wr.cell? ⟨qb, qo + i * 11 + 5, none⟩ = some (av') := e2 5 _ rfl
      have q6 : wr.cell? ⟨qb, qo + i * 11 + 6, none⟩ = some (iv d.sf) := e2 6 _ rfl
      have q7 : wr.cell? ⟨qb, qo + i * 11 + 7, none⟩ = some (iv d.st) := e2 7 _ rfl
      have q8 : wr.cell? ⟨qb, qo + i * 11 + 8, none⟩ = some (iv d.ef) := e2 8 _ rfl
      have q9 : wr.cell? ⟨qb, qo + i * 11 + 9, none⟩ = some (iv d.et) := e2 9 _ rfl
      have q10 : wr.cell? ⟨qb, qo + i * 11 + 10, none⟩ = some (kv') := e2 10 _ rfl
      have hcl := fun wd (b : Below wr.heap.size wr wd) => hcall wd (bw.trans (b.mono bw.size))
      have HC : Hid (∀ wd, Below wr.heap.size wr wd → Calls Try.prog 19 #[.agg #[iv d.id, iv d.kind, iv d.space, .string d.name, .string d.text, av, iv d.sf, iv d.st, iv d.ef, iv d.et, kv], .agg #[iv d.id, iv d.kind, iv d.space, .string d.name, .string d.text, av', iv d.sf, iv d.st, iv d.ef, iv d.et, kv']] wd fun e w'' => e = .returned (.bool true) ∧ Below wd.heap.size wd w'') := hcl
      clear hcall hcl hkb hqb hc1 hc2 e1 e2 bw
      go_wp2_with fail
      clear HK
      go_still_tail 10, (show Try.prog.follows .mixedOrders = true by kernel_rfl)
      go_wp2_with fail
      refine (HC.out _ (below_drewN (Below.refl _ _) 1)).mono ?_
      rintro e w2 ⟨rfl, b2⟩
      have HB2 : Hid (Below wr.heap.size wr w2) := (below_drewN (Below.refl _ _) 1).trans b2
      clear b2 HC
      go_wp2_with fail
      go_roundg k
      case measure => omega
      case rel => exact ⟨i + 1, by go_num, by omega, HI.out.trans (HB2.out.mono HI.out.size)⟩
/-- Two trees that are the same are equal. -/
theorem equal_any {Q U : Nat → Prop} {D : Nat → Nd} {K : Nat → List Nat} {sz : Nat → Nat} (hs : ∀ i k, k ∈ K i → sz k < sz i) (hl : ∀ i, (K i).length ≤ 1000000000) (ha : ∀ i, (D i).al.length ≤ 1000000000) : ∀ (f i : Nat) (w : World) (av kv av' kv' : Value), sz i < f → TV Q w D K i av kv → TV U w D K i av' kv' →
    Calls Try.prog 19 #[.agg #[iv (D i).id, iv (D i).kind, iv (D i).space, .string (D i).name, .string (D i).text, av, iv (D i).sf, iv (D i).st, iv (D i).ef, iv (D i).et, kv], .agg #[iv (D i).id, iv (D i).kind, iv (D i).space, .string (D i).name, .string (D i).text, av', iv (D i).sf, iv (D i).st, iv (D i).ef, iv (D i).et, kv']] w fun e w' => e = .returned (.bool true) ∧ Below w.heap.size w w'
  | 0, _, _, _, _, _, _, hn, _, _ => absurd hn (Nat.not_lt_zero _)
  | f + 1, i, w, _, _, _, _, hn, .mk (ao := ao) (kp := kp) (ac := ac) (kc := kc) (kb := kb) (ko := ko) (avs := avs) (kvs := kvs) a1 _ p1 c1 k1, .mk (ao := bo) (kp := qp) (ac := bc) (kc := qc) (kb := qb) (ko := qo) (avs := avs') (kvs := kvs') a2 _ p2 c2 k2 => by
    refine equal_one _ ac bc _ kc qc a1 a2 rfl (by have := ha i; omega) _ _ _ _ _ _ _ _ _ (fun j hj => ?_) (hl i)
    have hne : K i ≠ [] := fun e => by rw [e] at hj; simp at hj
    obtain ⟨k, hk⟩ : ∃ k, (K i)[j]? = some k := ⟨_, List.getElem?_eq_getElem hj⟩
    refine ⟨D k, kb, ko, qb, qo, avs j, kvs j, avs' j, kvs' j, (p1 hne).1, (p2 hne).1, (c1 j k hk).1, (c2 j k hk).1, (c1 j k hk).2, (c2 j k hk).2, fun w' b => ?_⟩
    exact equal_any hs hl ha f k w' _ _ _ _ (by have := hs i k (List.mem_of_getElem? hk); omega) ((k1 j k hk).old b) ((k2 j k hk).old b)
end Go.Proofs.Ytcdaghlbfclpkaa
namespace Go.Proofs.Ytcdaghlbfclpkaa
open Go.RowKit

/-- A kid: its own, its attributes, its kids. -/
abbrev Nk := Nd × Value × Value
def nkc (q : Nk) : List Value := q.1.cs q.2.1 q.2.2
/-- While a node's kids are gathered: all that was there stands but for one cell of block b, which holds the row of kids. -/
structure KT (w1 wr : World) (b : Nat) (cur : Array Value) (M : List Nk) (v : Value) : Prop where
  sm : Sm w1 wr
  oth : ∀ k, k < w1.heap.size → k ≠ b → wr.heap[k]? = w1.heap[k]?
  blk : wr.heap[b]? = some (.cells (cur.setIfInBounds 10 v) 35 (0, 0))
  was : w1.heap[b]? = some (.cells cur 35 (0, 0))
  ho : 10 < cur.size
  row : Rw (fun k => k < w1.heap.size) wr 35 11 v M.length (M.flatMap nkc)
theorem KT.hb {w1 wr : World} {b : Nat} {cur : Array Value} {M : List Nk} {v : Value} (h : KT w1 wr b cur M v) : b < w1.heap.size := (Array.getElem?_eq_some_iff.1 h.was).1
theorem KT.old {w1 wr w' : World} {b : Nat} {cur : Array Value} {M : List Nk} {v : Value} (h : KT w1 wr b cur M v) (k : Below wr.heap.size wr w') : KT w1 w' b cur M v :=
  ⟨⟨k.os.trans h.sm.os, k.tape.trans h.sm.tape, k.output.trans h.sm.output, Nat.le_trans h.sm.size k.size⟩, fun i hi hn => (k.block i (Nat.lt_of_lt_of_le hi h.sm.size)).trans (h.oth i hi hn), (k.block b (Nat.lt_of_lt_of_le h.hb h.sm.size)).trans h.blk, h.was, h.ho, h.row.old k⟩
theorem KT.start {w1 : World} {b : Nat} {cur : Array Value} (h : w1.heap[b]? = some (.cells cur 35 (0, 0))) (hc : cur[10]? = some (.slice none 0 0)) : KT w1 w1 b cur [] (.slice none 0 0) := by
  have ho := (Array.getElem?_eq_some_iff.1 hc).1
  have hs : cur.setIfInBounds 10 (.slice none 0 0) = cur := by
    apply Array.ext_getElem?
    intro i
    rw [Array.getElem?_setIfInBounds]
    by_cases e : 10 = i
    · subst e
      simp [ho]
      exact (Array.getElem?_eq_some_iff.1 hc).2.symm
    · simp [e]
  exact ⟨Sm.refl _, fun _ _ _ => rfl, by rw [hs]; exact h, h, ho, Rw.nil _ _ _ _⟩
theorem KT.cell {w1 wr : World} {b : Nat} {cur : Array Value} {M : List Nk} {v : Value} (h : KT w1 wr b cur M v) : wr.cell? ⟨b, 10, none⟩ = some v := by
  have := h.ho
  simp [World.cell?, h.blk, this]
theorem KT.cells {w1 wr : World} {b : Nat} {cur : Array Value} {M : List Nk} {v : Value} (h : KT w1 wr b cur M v) (j : Nat) (hj : j ≠ 10) : wr.cell? ⟨b, j, none⟩ = cur[j]? := by
  have e : ¬ 10 = j := fun e => hj e.symm
  simp [World.cell?, h.blk, e]
theorem KT.below {B : Nat} {w0 w1 wr : World} {b : Nat} {cur : Array Value} {M : List Nk} {v : Value} (h : KT w1 wr b cur M v) (k : Below B w0 w1) (hB : B ≤ b) (hs : B ≤ w0.heap.size) : Below B w0 wr :=
  k.trans ⟨h.sm.os, h.sm.tape, h.sm.output, h.sm.size, fun i hi => h.oth i (by have := k.size; omega) (by omega)⟩
theorem KT.app {w1 wr : World} {b : Nat} {cur : Array Value} {M : List Nk} {v : Value} (h : KT w1 wr b cur M v) {n : Nat} (hn : M.length = n) (hP : n ≤ 1000000000) (q : Nk) (arr : Array Value) (harr : arr.toList = nkc q) (h1c : ∀ u ∈ nkc q, u.oneCell' = true) :
    ∃ g c W, (Builtin.append_ #[33, 33] 33 #[v, .slice (some ⟨wr.heap.size, 0, none⟩) 1 1]).run Try.prog (wr.alloc (.cells arr 35)) = .ok (.slice (some ⟨g, 0, none⟩) (n + 1) c) W ∧ W.cell? ⟨b, 10, none⟩ = some v ∧ W.frozen? ⟨b, 10, none⟩ = false ∧
      KT w1 (W.setCell ⟨b, 10, none⟩ (.slice (some ⟨g, 0, none⟩) (n + 1) c)) b cur (M ++ [q]) (.slice (some ⟨g, 0, none⟩) (n + 1) c) ∧ (some g = v.ownBlock ∨ wr.heap.size < g) ∧
      (∀ k, k < wr.heap.size → k ≠ b → some k ≠ v.ownBlock → (W.setCell ⟨b, 10, none⟩ (.slice (some ⟨g, 0, none⟩) (n + 1) c)).heap[k]? = wr.heap[k]?) ∧ wr.heap.size ≤ (W.setCell ⟨b, 10, none⟩ (.slice (some ⟨g, 0, none⟩) (n + 1) c)).heap.size := by
  have b1 : Below wr.heap.size wr (wr.alloc (.cells arr 35)) := (Below.refl _ _).alloc (Nat.le_refl _) _
  have h' := h.old b1
  have hlow : ∀ k, k < w1.heap.size → k < (wr.alloc (.cells arr 35)).heap.size := fun k hk => Nat.lt_of_lt_of_le hk h'.sm.size
  obtain ⟨v', W, h1, h2, h3, h4⟩ := Rw.app (t := 33) (e := 35) (S := fun k => k < w1.heap.size) Try.underlying33 info35 rfl (by decide) (by decide) h'.row hlow wr.heap.size 0 1 1 (nkc q) rfl
    (fun j u hj => by rw [Nat.zero_add, World.cell?_alloc_at _ _ _ _ rfl, ← hj, ← harr]; simp) h1c (by omega)
  obtain ⟨g, c, cg, rfl, hgS, _, hgb, _⟩ := h2.form (by omega)
  rw [hn] at h1 h2
  have hv : ∀ k, k < w1.heap.size → some k ≠ v.ownBlock := fun k hk e => h'.row.out k e.symm hk
  have hold : ∀ k, k < w1.heap.size → W.heap[k]? = (wr.alloc (.cells arr 35)).heap[k]? := fun k hk => h3.block k (hlow k hk) (hv k hk)
  have hbg : b ≠ g := fun e => hgS (e ▸ h.hb)
  have hbW : W.heap[b]? = some (.cells (cur.setIfInBounds 10 v) 35 (0, 0)) := (hold b h.hb).trans h'.blk
  have hset : (cur.setIfInBounds 10 v).setIfInBounds 10 (.slice (some ⟨g, 0, none⟩) (n + 1) c) = cur.setIfInBounds 10 (.slice (some ⟨g, 0, none⟩) (n + 1) c) := by simp
  have hsz : (wr.alloc (.cells arr 35)).heap.size = wr.heap.size + 1 := by simp
  have hnl : (M ++ [q]).length = n + 1 := by rw [List.length_append, hn]; rfl
  have hnd : (M ++ [q]).flatMap nkc = M.flatMap nkc ++ nkc q := by rw [List.flatMap_append]; simp
  have hge : some g = v.ownBlock ∨ wr.heap.size < g := by
    rcases h4 with q | q
    · exact .inl q
    · simp [Value.ownBlock] at q
      rw [q]
      exact .inr (Nat.lt_succ_self _)
  refine ⟨g, c, W, h1, ?_, frozen_of_row W b 10 _ 35 hbW, ⟨⟨?_, ?_, ?_, ?_⟩, fun k hk hkb => ?_, ?_, h.was, h.ho, ?_⟩, hge, fun k hk hkb hkv => ?_, ?_⟩
  · have := h.ho
    simp [World.cell?, hbW, this]
  · exact h3.os.trans h'.sm.os
  · exact h3.tape.trans h'.sm.tape
  · exact h3.output.trans h'.sm.output
  · have := h3.size
    have := h'.sm.size
    simp
    simp at *
    omega
  · exact (heap_setCell_other W ⟨b, 10, none⟩ k _ hkb).trans ((hold k hk).trans (h'.oth k hk hkb))
  · rw [← hset]
    exact heap_setCell_same W b 10 _ 35 _ hbW
  · rw [hnl, hnd]
    exact h2.mv fun k hk => by
      simp [Value.ownBlock] at hk
      subst hk
      exact heap_setCell_other W ⟨b, 10, none⟩ g _ (fun e => hbg e.symm)
  · exact (heap_setCell_other W ⟨b, 10, none⟩ k _ hkb).trans ((h3.block k (by omega) hkv).trans (b1.block k hk))
  · have := h3.size
    simp
    simp at *
    omega
/-- The kids gathered so far lie there as trees. -/
def KL (w1 wr : World) (b : Nat) (cur : Array Value) (D : Nat → Nd) (K : Nat → List Nat) (l : List Nat) (j : Nat) (v : Value) : Prop :=
  ∃ M : List Nk, M.length = j ∧ KT w1 wr b cur M v ∧ ∀ t k, t < j → l[t]? = some k → ∃ av kv, M[t]? = some (D k, av, kv) ∧ TV (fun k => w1.heap.size ≤ k ∧ k < wr.heap.size ∧ some k ≠ v.ownBlock) wr D K k av kv
theorem KL.old {w1 wr w' : World} {b : Nat} {cur : Array Value} {D : Nat → Nd} {K : Nat → List Nat} {l : List Nat} {j : Nat} {v : Value} (h : KL w1 wr b cur D K l j v) (k : Below wr.heap.size wr w') : KL w1 w' b cur D K l j v := by
  obtain ⟨M, h1, h2, h3⟩ := h
  refine ⟨M, h1, h2.old k, fun t i ht hi => ?_⟩
  obtain ⟨av, kv, q1, q2⟩ := h3 t i ht hi
  exact ⟨av, kv, q1, (q2.old k).sub fun i hi => ⟨hi.1, Nat.lt_of_lt_of_le hi.2.1 k.size, hi.2.2⟩⟩
theorem KL.start {w1 : World} {b : Nat} {cur : Array Value} {D : Nat → Nd} {K : Nat → List Nat} {l : List Nat} (h : w1.heap[b]? = some (.cells cur 35 (0, 0))) (hc : cur[10]? = some (.slice none 0 0)) : KL w1 w1 b cur D K l 0 (.slice none 0 0) :=
  ⟨[], rfl, KT.start h hc, fun _ _ h => absurd h (Nat.not_lt_zero _)⟩
theorem KL.next {w1 wr : World} {b : Nat} {cur : Array Value} {D : Nat → Nd} {K : Nat → List Nat} {l : List Nat} {j : Nat} {v : Value} (h : KL w1 wr b cur D K l j v) (hj : j ≤ 1000000000) {k0 : Nat} (hk : l[j]? = some k0) {w2 : World} (b2 : Below wr.heap.size wr w2) {ao kp : Option Addr} {al ac kl kc : Nat}
    (ht : TV (fun k => wr.heap.size ≤ k ∧ k < w2.heap.size) w2 D K k0 (.slice ao al ac) (.slice kp kl kc)) (arr : Array Value) (harr : arr.toList = (D k0).cs (.slice ao al ac) (.slice kp kl kc)) :
    ∃ g c W, (Builtin.append_ #[33, 33] 33 #[v, .slice (some ⟨w2.heap.size, 0, none⟩) 1 1]).run Try.prog (w2.alloc (.cells arr 35)) = .ok (.slice (some ⟨g, 0, none⟩) (j + 1) c) W ∧ W.cell? ⟨b, 10, none⟩ = some v ∧ W.frozen? ⟨b, 10, none⟩ = false ∧
      Hid (KL w1 (W.setCell ⟨b, 10, none⟩ (.slice (some ⟨g, 0, none⟩) (j + 1) c)) b cur D K l (j + 1) (.slice (some ⟨g, 0, none⟩) (j + 1) c)) := by
  have h' := h.old b2
  obtain ⟨M, m1, m2, m3⟩ := h'
  obtain ⟨_, _, n2, _⟩ := h
  obtain ⟨g, c, W, a1, a2, a3, a4, a5, a6, a7⟩ := m2.app m1 hj (D k0, .slice ao al ac, .slice kp kl kc) arr harr (by
    intro u hu
    simp only [nkc, Nd.cs, List.mem_cons, List.not_mem_nil, or_false] at hu
    rcases hu with rfl | rfl | rfl | rfl | rfl | rfl | rfl | rfl | rfl | rfl | rfl <;> rfl)
  have hvb : ∀ k, some k = v.ownBlock → k < wr.heap.size := fun k hk => (own_blk n2.row.own hk.symm).1
  have hbl : b < w1.heap.size := m2.hb
  refine ⟨g, c, W, a1, a2, a3, M ++ [(D k0, .slice ao al ac, .slice kp kl kc)], by rw [List.length_append, m1]; rfl, a4, fun t k ht' hk' => ?_⟩
  by_cases e : t = j
  · subst e
    rw [hk] at hk'
    simp at hk'
    subst hk'
    refine ⟨.slice ao al ac, .slice kp kl kc, by rw [List.getElem?_append_right (by omega), m1]; simp, ?_⟩
    refine (ht.mv a7 fun k hk hl => a6 k hl (fun e => ?_) (fun e => ?_)).sub fun k hk => ⟨Nat.le_trans n2.sm.size hk.1, Nat.lt_of_lt_of_le hk.2 a7, fun e => ?_⟩
    · have := n2.sm.size
      have := hk.1
      omega
    · have := hvb k e
      have := hk.1
      omega
    · simp [Value.ownBlock] at e
      subst e
      rcases a5 with q | q
      · have := hvb _ q
        have := hk.1
        omega
      · have := hk.2
        omega
  · obtain ⟨av, kv, q1, q2⟩ := m3 t k (by omega) hk'
    refine ⟨av, kv, by rw [List.getElem?_append_left (by rw [m1]; omega)]; exact q1, ?_⟩
    refine (q2.mv a7 fun i hi hl => a6 i hl (fun e => ?_) hi.2.2).sub fun i hi => ⟨hi.1, Nat.lt_of_lt_of_le hi.2.1 a7, fun e => ?_⟩
    · have := hi.1
      omega
    · simp [Value.ownBlock] at e
      subst e
      rcases a5 with q | q
      · exact hi.2.2 q
      · have := hi.2.1
        omega
end Go.Proofs.Ytcdaghlbfclpkaa
namespace Go.Proofs.Ytcdaghlbfclpkaa
open Go.RowKit

theorem enters21 : ∀ args w, (callFunc 21 args).run Try.prog w = .ok (.enter 21 args) w := enters_of Try.func21 (by kernel_rfl) rfl
/-- What it answers. -/
def RTreed (D : Nat → Nd) (K : Nat → List Nat) (i : Nat) (w : World) (e : Ending) (w' : World) : Prop :=
  ∃ ao ac kp kc, e = .returned (.agg #[iv (D i).id, iv (D i).kind, iv (D i).space, .string (D i).name, .string (D i).text, .slice ao (D i).al.length ac, iv (D i).sf, iv (D i).st, iv (D i).ef, iv (D i).et, .slice kp (K i).length kc]) ∧ Below w.heap.size w w' ∧ TV (fun k => w.heap.size ≤ k ∧ k < w'.heap.size) w' D K i (.slice ao (D i).al.length ac) (.slice kp (K i).length kc)
/-- A kid, called for while the row of kids is made: what the append will find. -/
def KidCall (w3 wr : World) (y b : Nat) (cur : Array Value) (D : Nat → Nd) (K : Nat → List Nat) (l : List Nat) (j : Nat) (v : Value) (k0 : Nat) : Prop :=
  ∀ w', Below wr.heap.size wr w' → Calls Try.prog 21 #[ptr y, iv (k0 : Int)] w' (fun e w2 => ∃ ao' ac' kp' kc' g c W, e = .returned (.agg #[iv (D k0).id, iv (D k0).kind, iv (D k0).space, .string (D k0).name, .string (D k0).text, .slice ao' (D k0).al.length ac', iv (D k0).sf, iv (D k0).st, iv (D k0).ef, iv (D k0).et, .slice kp' (K k0).length kc']) ∧ w2.cell? ⟨b, 10, none⟩ = some v ∧ b < w2.heap.size ∧ (Builtin.append_ #[33, 33] 33 #[v, .slice (some ⟨w2.heap.size, 0, none⟩) 1 1]).run Try.prog (w2.alloc (.cells #[iv (D k0).id, iv (D k0).kind, iv (D k0).space, .string (D k0).name, .string (D k0).text, .slice ao' (D k0).al.length ac', iv (D k0).sf, iv (D k0).st, iv (D k0).ef, iv (D k0).et, .slice kp' (K k0).length kc'] 35)) = .ok (.slice (some ⟨g, 0, none⟩) (j + 1) c) W ∧ W.cell? ⟨b, 10, none⟩ = some v ∧ W.frozen? ⟨b, 10, none⟩ = false ∧
      Hid (KL w3 (W.setCell ⟨b, 10, none⟩ (.slice (some ⟨g, 0, none⟩) (j + 1) c)) b cur D K l (j + 1) (.slice (some ⟨g, 0, none⟩) (j + 1) c)))
theorem KL.call {w w3 wr : World} {y b : Nat} {cur : Array Value} {D : Nat → Nd} {K : Nat → List Nat} {l : List Nat} {j : Nat} {v : Value} (h : KL w3 wr b cur D K l j v) (hj : j ≤ 1000000000) {k0 : Nat} (hk : l[j]? = some k0) (bw : Below w.heap.size w wr) (hc : ∀ w', Below w.heap.size w w' → Calls Try.prog 21 #[ptr y, iv (k0 : Int)] w' (RTreed D K k0 w')) : KidCall w3 wr y b cur D K l j v k0 := by
  intro w' b1
  refine (hc w' (bw.trans (b1.mono bw.size))).mono ?_
  rintro e w2 ⟨ao, ac, kp, kc, rfl, b2, ht⟩
  have b3 : Below wr.heap.size wr w2 := b1.trans (b2.mono b1.size)
  obtain ⟨M, _, m2, _⟩ := h.old b3
  obtain ⟨g, c, W, q1, q2, q3, q4⟩ := h.next hj hk b3 (ht.sub fun k hk => ⟨Nat.le_trans b1.size hk.1, hk.2⟩) #[iv (D k0).id, iv (D k0).kind, iv (D k0).space, .string (D k0).name, .string (D k0).text, .slice ao (D k0).al.length ac, iv (D k0).sf, iv (D k0).st, iv (D k0).ef, iv (D k0).et, .slice kp (K k0).length kc] rfl
  exact ⟨ao, ac, kp, kc, g, c, W, rfl, m2.cell, Nat.lt_of_lt_of_le m2.hb m2.sm.size, q1, q2, q3, q4⟩
/-- All kids are gathered. -/
theorem KL.done {w3 wr W' : World} {b i j kc ac : Nat} {cur : Array Value} {D : Nat → Nd} {K : Nat → List Nat} {kp ao : Option Addr} (h : KL w3 wr b cur D K (K i) j (.slice kp j kc)) (hj : (K i).length = j) (hs : wr.heap.size ≤ W'.heap.size) (x : Nat) (hx : x < w3.heap.size) (hW : ∀ k, k ≠ x → W'.heap[k]? = wr.heap[k]?) (B : Nat) (hB : B ≤ w3.heap.size)
    (ha : AtRow W' ao (D i).al) (hqa : (D i).al ≠ [] → ∀ a, ao = some a → B ≤ a.block ∧ a.block < W'.heap.size) : TV (fun k => B ≤ k ∧ k < W'.heap.size) W' D K i (.slice ao (D i).al.length ac) (.slice kp (K i).length kc) := by
  obtain ⟨M, m1, m2, m3⟩ := h
  by_cases hK : K i = []
  · exact .mk (kb := 0) (ko := 0) (avs := fun _ => iv 0) (kvs := fun _ => iv 0) ha hqa (fun e => absurd hK e) (fun j k e => by rw [hK] at e; simp at e) (fun j k e => by rw [hK] at e; simp at e)
  · have hj0 : 0 < j := by rw [← hj]; exact List.length_pos_iff.2 hK
    have hr := m2.row
    rw [m1] at hr
    obtain ⟨kb, kc', _, he, hkS, hkl, _⟩ := hr.form hj0
    simp only [Value.slice.injEq, true_and] at he
    obtain ⟨rfl, rfl⟩ := he
    have hkx : ∀ k, w3.heap.size ≤ k → k ≠ x := fun k hk e => by omega
    refine .mk (kb := kb) (ko := 0) (avs := fun t => (M[t]?.map fun q => q.2.1).getD (iv 0)) (kvs := fun t => (M[t]?.map fun q => q.2.2).getD (iv 0)) ha hqa (fun _ => ⟨rfl, by have := Nat.le_of_not_lt hkS; omega, by omega⟩) (fun t k ht => ?_) (fun t k ht => ?_)
    · obtain ⟨av, kv, q1, _⟩ := m3 t k (by rw [← hj]; exact (List.getElem?_eq_some_iff.1 ht).1) ht
      refine ⟨by omega, fun u x' hu => ?_⟩
      have hu11 : u < 11 := (List.getElem?_eq_some_iff.1 hu).1
      rw [q1] at hu
      have hc := hr.cell ((fl_at nkc 11 (fun _ => rfl) M t u _ q1 hu11).trans hu)
      rw [Nat.zero_add, ← hc]
      simp [World.cell?, hW kb (hkx kb (Nat.le_of_not_lt hkS))]
    · obtain ⟨av, kv, q1, q2⟩ := m3 t k (by rw [← hj]; exact (List.getElem?_eq_some_iff.1 ht).1) ht
      rw [q1]
      exact (q2.mv hs fun k hk _ => hW k (hkx k hk.1)).sub fun k hk => ⟨Nat.le_trans hB hk.1, Nat.lt_of_lt_of_le hk.2.1 hs⟩
set_option maxHeartbeats 4000000 in
set_option maxRecDepth 20000 in
theorem rtree_one {S : Nat → Prop} {w : World} {y g n c : Nat} {L : List RN} (o : RO S w y g n c L) {D : Nat → Nd} {K : Nat → List Nat} {i : Nat} {r : RN} (hr : L[i]? = some r) (hD : D i = { r.d with id := (i : Int) }) (hK : K i = r.ks) (hf : r.d.al.length ≤ 1000000000) (hl : r.ks.length ≤ 1000000000)
    (hk : ∀ j k : Nat, (K i)[j]? = some k → ∀ w', Below w.heap.size w w' → Calls Try.prog 21 #[ptr y, iv (k : Int)] w' (RTreed D K k w')) :
    Calls Try.prog 21 #[ptr y, iv (i : Int)] w (RTreed D K i w) := by
  have hi := o.lt hr
  have hi2 : (i : Int) < (n : Int) := by omega
  have b0 : Below w.heap.size w (w.alloc (.cells #[Value.int IntKind.i64 0, Value.int IntKind.i64 0, Value.int IntKind.i64 0, Value.string { data := #[] }, Value.string { data := #[] }, Value.slice none 0 0, Value.int IntKind.i64 0, Value.int IntKind.i64 0, Value.int IntKind.i64 0, Value.int IntKind.i64 0, Value.slice none 0 0] 35)) := (Below.refl _ _).alloc (Nat.le_refl _) _
  have n0 : Bx (w.alloc (.cells #[Value.int IntKind.i64 0, Value.int IntKind.i64 0, Value.int IntKind.i64 0, Value.string { data := #[] }, Value.string { data := #[] }, Value.slice none 0 0, Value.int IntKind.i64 0, Value.int IntKind.i64 0, Value.int IntKind.i64 0, Value.int IntKind.i64 0, Value.slice none 0 0] 35)) w.heap.size #[Value.int IntKind.i64 0, Value.int IntKind.i64 0, Value.int IntKind.i64 0, Value.string { data := #[] }, Value.string { data := #[] }, Value.slice none 0 0, Value.int IntKind.i64 0, Value.int IntKind.i64 0, Value.int IntKind.i64 0, Value.int IntKind.i64 0, Value.slice none 0 0] := heap_alloc_new w _
  obtain ⟨W0, hW0⟩ : ∃ W0, (w.alloc (.cells #[Value.int IntKind.i64 0, Value.int IntKind.i64 0, Value.int IntKind.i64 0, Value.string { data := #[] }, Value.string { data := #[] }, Value.slice none 0 0, Value.int IntKind.i64 0, Value.int IntKind.i64 0, Value.int IntKind.i64 0, Value.int IntKind.i64 0, Value.slice none 0 0] 35)) = W0 := ⟨_, rfl⟩
  have HW0 : Hid ((w.alloc (.cells #[Value.int IntKind.i64 0, Value.int IntKind.i64 0, Value.int IntKind.i64 0, Value.string { data := #[] }, Value.string { data := #[] }, Value.slice none 0 0, Value.int IntKind.i64 0, Value.int IntKind.i64 0, Value.int IntKind.i64 0, Value.int IntKind.i64 0, Value.slice none 0 0] 35)) = W0) := hW0
  rw [hW0] at b0 n0
  clear hW0
  have k38 := rget_any (o.old b0) hr hf
  have HO : Hid (RO S w y g n c L ∧ L[i]? = some r ∧ D i = { r.d with id := (i : Int) } ∧ K i = r.ks ∧ Below w.heap.size w W0 ∧ Bx W0 w.heap.size #[Value.int IntKind.i64 0, Value.int IntKind.i64 0, Value.int IntKind.i64 0, Value.string { data := #[] }, Value.string { data := #[] }, Value.slice none 0 0, Value.int IntKind.i64 0, Value.int IntKind.i64 0, Value.int IntKind.i64 0, Value.int IntKind.i64 0, Value.slice none 0 0] ∧ w.heap.size < W0.heap.size ∧ r.ks.length ≤ 1000000000 ∧ r.d.al.length ≤ 1000000000) := ⟨o, hr, hD, hK, b0, n0, n0.lt, hl, hf⟩
  have HC : Hid (∀ j k : Nat, (K i)[j]? = some k → ∀ w', Below w.heap.size w w' → Calls Try.prog 21 #[ptr y, iv (k : Int)] w' (RTreed D K k w')) := hk
  clear o hr hD hK hf hl hk b0 n0
  go_enter Try.func21, Try.ntmps21
  go_upto_region 1 with fail
  rw [HW0.out]
  go_wp2_with fail
  refine k38.mono ?_
  clear k38
  rintro e w2 ⟨ao, ac, rfl, b2, hr⟩
  have b3 : Below w2.heap.size w2 (w2.alloc (.cells #[iv (i : Int), iv r.d.kind, iv r.d.space, .string r.d.name, .string r.d.text, .slice ao r.d.al.length ac, iv r.d.sf, iv r.d.st, iv r.d.ef, iv r.d.et, .slice none 0 0] 35)) := (Below.refl _ _).alloc (Nat.le_refl _) _
  have n3 : (w2.alloc (.cells #[iv (i : Int), iv r.d.kind, iv r.d.space, .string r.d.name, .string r.d.text, .slice ao r.d.al.length ac, iv r.d.sf, iv r.d.st, iv r.d.ef, iv r.d.et, .slice none 0 0] 35)).heap[w2.heap.size]? = some (.cells #[iv (i : Int), iv r.d.kind, iv r.d.space, .string r.d.name, .string r.d.text, .slice ao r.d.al.length ac, iv r.d.sf, iv r.d.st, iv r.d.ef, iv r.d.et, .slice none 0 0] 35 (0, 0)) := heap_alloc_new w2 _
  have HR : Hid (Below W0.heap.size W0 w2 ∧ ∀ S : Nat → Prop, (∀ k, S k → k < W0.heap.size) → Rw S w2 53 2 (.slice ao r.d.al.length ac) r.d.al.length (r.d.al.flatMap At.cells)) := ⟨b2, hr⟩
  clear b2 hr
  go_upto_region 4 with fail
  generalize hW3 : (w2.alloc (.cells #[iv (i : Int), iv r.d.kind, iv r.d.space, .string r.d.name, .string r.d.text, .slice ao r.d.al.length ac, iv r.d.sf, iv r.d.st, iv r.d.ef, iv r.d.et, .slice none 0 0] 35)) = w3 at *
  clear hW3
  obtain ⟨b, hb⟩ : ∃ b, b = w2.heap.size := ⟨_, rfl⟩
  rw [← hb] at b3 n3 ⊢
  have HB : Hid (b = w2.heap.size ∧ Below w2.heap.size w2 w3 ∧ w3.heap[b]? = some (.cells #[iv (i : Int), iv r.d.kind, iv r.d.space, .string r.d.name, .string r.d.text, .slice ao r.d.al.length ac, iv r.d.sf, iv r.d.st, iv r.d.ef, iv r.d.et, .slice none 0 0] 35 (0, 0))) := ⟨hb, by rw [← hb]; exact b3, n3⟩
  have HS : Hid (KL w3 w3 b #[iv (i : Int), iv r.d.kind, iv r.d.space, .string r.d.name, .string r.d.text, .slice ao r.d.al.length ac, iv r.d.sf, iv r.d.st, iv r.d.ef, iv r.d.et, .slice none 0 0] D K (K i) 0 (.slice none 0 0)) := KL.start n3 rfl
  have HW : Hid (Below w.heap.size w w3 ∧ w.heap.size ≤ b ∧ w.heap.size ≠ b ∧ w.heap.size < w3.heap.size) := by
    have h1 := HO.out.2.2.2.2.1
    have h2 := HR.out.1
    have h3 := HB.out.2.1
    have h4 := HO.out.2.2.2.2.2.2.1
    have h5 := h2.size
    have h6 := h3.size
    exact ⟨(h1.trans (h2.mono h1.size)).trans (h3.mono (Nat.le_trans h1.size h2.size)), by omega, by omega, by omega⟩
  clear b3 n3 hb
  obtain ⟨ko, kcap, hkv, hkc, _⟩ := (HO.out.1.v.kds r (List.mem_of_getElem? HO.out.2.1)).slice
  obtain ⟨kl, hkl⟩ : ∃ kl, r.ks.length = kl := ⟨_, rfl⟩
  rw [hkl] at hkv hkc
  have HKV : Hid (r.kv = .slice ko kl kcap ∧ r.ks.length = kl ∧ kl ≤ kcap) := ⟨hkv, hkl, hkc⟩
  have hkl9 : kl ≤ 1000000000 := by rw [← hkl]; exact HO.out.2.2.2.2.2.2.2.1
  clear hkv hkl hkc
  go_wp2_with fail
  go_loopg [7] kl (fun g2 jv wr => ∃ (j : Nat) (v : Value), jv = .int .i64 j ∧ j + g2 = kl ∧ Hid (KL w3 wr b #[iv (i : Int), iv r.d.kind, iv r.d.space, .string r.d.name, .string r.d.text, .slice ao r.d.al.length ac, iv r.d.sf, iv r.d.st, iv r.d.ef, iv r.d.et, .slice none 0 0] D K (K i) j v))
  case atStart => exact ⟨0, _, rfl, by omega, HS⟩
  case round =>
    obtain ⟨j, v, rfl, hjg, HT⟩ := hrel
    obtain ⟨M, hMl, hMT, hMt⟩ := HT.out
    have HT0 : Hid (KT w3 wr b #[iv (i : Int), iv r.d.kind, iv r.d.space, .string r.d.name, .string r.d.text, .slice ao r.d.al.length ac, iv r.d.sf, iv r.d.st, iv r.d.ef, iv r.d.et, .slice none 0 0] M v) := hMT
    have bw : Below w.heap.size w wr := hMT.below HW.out.1 HW.out.2.1 (Nat.le_refl _)
    have ow := HO.out.1.old bw
    have c0 := ow.c
    have c12 : wr.cell? ⟨g, i * 13 + 12, none⟩ = some (.slice ko kl kcap) := by
      rw [← HKV.out.1]
      exact ow.nd (j := 12) HO.out.2.1 (by decide)
    cases gk with
    | zero =>
      obtain rfl : j = kl := by omega
      have hg0 : decide ((j : Int) < (j : Int)) = false := decide_eq_false (by omega)
      obtain ⟨kp, kc, hv, hvc, _⟩ := hMT.row.slice
      rw [hMl] at hv
      subst hv
      have m2 : Bx wr w.heap.size #[Value.int IntKind.i64 0, Value.int IntKind.i64 0, Value.int IntKind.i64 0, Value.string { data := #[] }, Value.string { data := #[] }, Value.slice none 0 0, Value.int IntKind.i64 0, Value.int IntKind.i64 0, Value.int IntKind.i64 0, Value.int IntKind.i64 0, Value.slice none 0 0] := (hMT.oth _ HW.out.2.2.2 HW.out.2.2.1).trans (((HO.out.2.2.2.2.2.1.old HR.out.1).old HB.out.2.1))
      have y0 : wr.cell? ⟨b, 0, none⟩ = some (iv (i : Int)) := HT0.out.cells 0 (by decide)
      have y1 : wr.cell? ⟨b, 1, none⟩ = some (iv r.d.kind) := HT0.out.cells 1 (by decide)
      have y2 : wr.cell? ⟨b, 2, none⟩ = some (iv r.d.space) := HT0.out.cells 2 (by decide)
      have y3 : wr.cell? ⟨b, 3, none⟩ = some (.string r.d.name) := HT0.out.cells 3 (by decide)
      have y4 : wr.cell? ⟨b, 4, none⟩ = some (.string r.d.text) := HT0.out.cells 4 (by decide)
      have y5 : wr.cell? ⟨b, 5, none⟩ = some (.slice ao r.d.al.length ac) := HT0.out.cells 5 (by decide)
      have y6 : wr.cell? ⟨b, 6, none⟩ = some (iv r.d.sf) := HT0.out.cells 6 (by decide)
      have y7 : wr.cell? ⟨b, 7, none⟩ = some (iv r.d.st) := HT0.out.cells 7 (by decide)
      have y8 : wr.cell? ⟨b, 8, none⟩ = some (iv r.d.ef) := HT0.out.cells 8 (by decide)
      have y9 : wr.cell? ⟨b, 9, none⟩ = some (iv r.d.et) := HT0.out.cells 9 (by decide)
      have y10 : wr.cell? ⟨b, 10, none⟩ = some (.slice kp j kc) := HT0.out.cell
      have x0 : wr.cell? ⟨w.heap.size, 0, none⟩ = some (iv 0) := m2.cell 0
      have f0 := m2.frozen 0
      have x1 : wr.cell? ⟨w.heap.size, 1, none⟩ = some (iv 0) := m2.cell 1
      have f1 := m2.frozen 1
      have x2 : wr.cell? ⟨w.heap.size, 2, none⟩ = some (iv 0) := m2.cell 2
      have f2 := m2.frozen 2
      have x3 : wr.cell? ⟨w.heap.size, 3, none⟩ = some (.string { data := #[] }) := m2.cell 3
      have f3 := m2.frozen 3
      have x4 : wr.cell? ⟨w.heap.size, 4, none⟩ = some (.string { data := #[] }) := m2.cell 4
      have f4 := m2.frozen 4
      have x5 : wr.cell? ⟨w.heap.size, 5, none⟩ = some (.slice none 0 0) := m2.cell 5
      have f5 := m2.frozen 5
      have x6 : wr.cell? ⟨w.heap.size, 6, none⟩ = some (iv 0) := m2.cell 6
      have f6 := m2.frozen 6
      have x7 : wr.cell? ⟨w.heap.size, 7, none⟩ = some (iv 0) := m2.cell 7
      have f7 := m2.frozen 7
      have x8 : wr.cell? ⟨w.heap.size, 8, none⟩ = some (iv 0) := m2.cell 8
      have f8 := m2.frozen 8
      have x9 : wr.cell? ⟨w.heap.size, 9, none⟩ = some (iv 0) := m2.cell 9
      have f9 := m2.frozen 9
      have x10 : wr.cell? ⟨w.heap.size, 10, none⟩ = some (.slice none 0 0) := m2.cell 10
      have f10 := m2.frozen 10
      have HF : Hid (Bx (((((((((((wr.setCell ⟨w.heap.size, 0, none⟩ (iv (i : Int))).setCell ⟨w.heap.size, 1, none⟩ (iv r.d.kind)).setCell ⟨w.heap.size, 2, none⟩ (iv r.d.space)).setCell ⟨w.heap.size, 3, none⟩ (.string r.d.name)).setCell ⟨w.heap.size, 4, none⟩ (.string r.d.text)).setCell ⟨w.heap.size, 5, none⟩ (.slice ao r.d.al.length ac)).setCell ⟨w.heap.size, 6, none⟩ (iv r.d.sf)).setCell ⟨w.heap.size, 7, none⟩ (iv r.d.st)).setCell ⟨w.heap.size, 8, none⟩ (iv r.d.ef)).setCell ⟨w.heap.size, 9, none⟩ (iv r.d.et)).setCell ⟨w.heap.size, 10, none⟩ (.slice kp j kc)) w.heap.size #[iv (i : Int), iv r.d.kind, iv r.d.space, .string r.d.name, .string r.d.text, .slice ao r.d.al.length ac, iv r.d.sf, iv r.d.st, iv r.d.ef, iv r.d.et, .slice kp j kc] ∧ RTreed D K i w (.returned (.agg #[iv (i : Int), iv r.d.kind, iv r.d.space, .string r.d.name, .string r.d.text, .slice ao r.d.al.length ac, iv r.d.sf, iv r.d.st, iv r.d.ef, iv r.d.et, .slice kp j kc])) (((((((((((wr.setCell ⟨w.heap.size, 0, none⟩ (iv (i : Int))).setCell ⟨w.heap.size, 1, none⟩ (iv r.d.kind)).setCell ⟨w.heap.size, 2, none⟩ (iv r.d.space)).setCell ⟨w.heap.size, 3, none⟩ (.string r.d.name)).setCell ⟨w.heap.size, 4, none⟩ (.string r.d.text)).setCell ⟨w.heap.size, 5, none⟩ (.slice ao r.d.al.length ac)).setCell ⟨w.heap.size, 6, none⟩ (iv r.d.sf)).setCell ⟨w.heap.size, 7, none⟩ (iv r.d.st)).setCell ⟨w.heap.size, 8, none⟩ (iv r.d.ef)).setCell ⟨w.heap.size, 9, none⟩ (iv r.d.et)).setCell ⟨w.heap.size, 10, none⟩ (.slice kp j kc))) := by
        refine ⟨m2.put _ _ _ _ _ _ _ _ _ _ _, ?_⟩
        have hKl : (K i).length = j := by rw [HO.out.2.2.2.1]; exact HKV.out.2.1
        have hD := HO.out.2.2.1
        have hal : (D i).al = r.d.al := by rw [hD]
        have hsz : wr.heap.size ≤ ((((((((((((wr.setCell ⟨w.heap.size, 0, none⟩ (iv (i : Int))).setCell ⟨w.heap.size, 1, none⟩ (iv r.d.kind)).setCell ⟨w.heap.size, 2, none⟩ (iv r.d.space)).setCell ⟨w.heap.size, 3, none⟩ (.string r.d.name)).setCell ⟨w.heap.size, 4, none⟩ (.string r.d.text)).setCell ⟨w.heap.size, 5, none⟩ (.slice ao r.d.al.length ac)).setCell ⟨w.heap.size, 6, none⟩ (iv r.d.sf)).setCell ⟨w.heap.size, 7, none⟩ (iv r.d.st)).setCell ⟨w.heap.size, 8, none⟩ (iv r.d.ef)).setCell ⟨w.heap.size, 9, none⟩ (iv r.d.et)).setCell ⟨w.heap.size, 10, none⟩ (.slice kp j kc))).heap.size := by simp
        have hra : Rw (fun k => k < W0.heap.size) (((((((((((wr.setCell ⟨w.heap.size, 0, none⟩ (iv (i : Int))).setCell ⟨w.heap.size, 1, none⟩ (iv r.d.kind)).setCell ⟨w.heap.size, 2, none⟩ (iv r.d.space)).setCell ⟨w.heap.size, 3, none⟩ (.string r.d.name)).setCell ⟨w.heap.size, 4, none⟩ (.string r.d.text)).setCell ⟨w.heap.size, 5, none⟩ (.slice ao r.d.al.length ac)).setCell ⟨w.heap.size, 6, none⟩ (iv r.d.sf)).setCell ⟨w.heap.size, 7, none⟩ (iv r.d.st)).setCell ⟨w.heap.size, 8, none⟩ (iv r.d.ef)).setCell ⟨w.heap.size, 9, none⟩ (iv r.d.et)).setCell ⟨w.heap.size, 10, none⟩ (.slice kp j kc)) 53 2 (.slice ao r.d.al.length ac) r.d.al.length (r.d.al.flatMap At.cells) := by
          have q0 := HR.out.2 (fun k => k < W0.heap.size) (fun k hk => hk)
          refine q0.mv fun q hq => ?_
          have q1 := (own_blk q0.own hq).1
          have q2 : ¬ q < W0.heap.size := q0.out q hq
          have q3 := HB.out.1
          have q4 := HB.out.2.1.size
          have q5 := HO.out.2.2.2.2.2.2.1
          exact (put_other wr w.heap.size _ _ _ _ _ _ _ _ _ _ _ q (by omega)).trans ((hMT.oth q (by omega) (by omega)).trans (HB.out.2.1.block q q1))
        obtain ⟨ao', cap', he, har⟩ := (hra.atr (by have := HO.out.2.2.2.2.2.2.2.2; omega)).ex
        simp only [Value.slice.injEq, true_and] at he
        obtain ⟨rfl, rfl⟩ := he
        refine ⟨ao, ac, kp, kc, ?_, below_put bw (Nat.le_refl _) _ _ _ _ _ _ _ _ _ _ _, HT.out.done hKl hsz w.heap.size HW.out.2.2.2 (fun k hk => put_other wr w.heap.size _ _ _ _ _ _ _ _ _ _ _ k hk) w.heap.size (Nat.le_of_lt HW.out.2.2.2) (by rw [hal]; exact har) (fun hn a ha => ?_)⟩
        · rw [hKl, hD]
        · rw [hal] at hn
          obtain ⟨gg, _, _, he, h1, h2, _⟩ := hra.form (List.length_pos_iff.2 hn)
          simp only [Value.slice.injEq, true_and] at he
          rw [ha] at he
          obtain ⟨he, _⟩ := he
          simp at he
          rw [he]
          have h1' : ¬ gg < W0.heap.size := h1
          have h3 := HO.out.2.2.2.2.2.2.1
          exact ⟨by show w.heap.size ≤ gg; omega, h2⟩
      clear hMl hMT hMt bw ow m2
      go_wp2_with fail
      refine bodyPost_ret (results_cell_row rfl _ _ w.heap.size 35 _ (0, 0) _ rfl HF.out.1 Try.underlying35 rfl size35) rfl ?_
      exact HF.out.2
    | succ k =>
      have hjl : j < kl := by omega
      have g1 : decide ((j : Int) < (kl : Int)) = true := decide_eq_true (by omega)
      obtain ⟨k0, hk0⟩ : ∃ k0, (K i)[j]? = some k0 := ⟨_, List.getElem?_eq_getElem (by rw [HO.out.2.2.2.1, HKV.out.2.1]; exact hjl)⟩
      have hkd := ow.v.kds r (List.mem_of_getElem? HO.out.2.1)
      rw [HKV.out.1, HKV.out.2.1] at hkd
      obtain ⟨kg, kc', _, he, _⟩ := hkd.form (by omega)
      simp only [Value.slice.injEq, true_and] at he
      obtain ⟨rfl, rfl⟩ := he
      have cj : wr.cell? ⟨kg, j, none⟩ = some (iv (k0 : Int)) := hkd.cell (by
        have := hk0
        rw [HO.out.2.2.2.1] at this
        simp [iL, this])
      have y10 : wr.cell? ⟨b, 10, none⟩ = some v := hMT.cell
      have HK : Hid (KidCall w3 wr y b #[iv (i : Int), iv r.d.kind, iv r.d.space, .string r.d.name, .string r.d.text, .slice ao r.d.al.length ac, iv r.d.sf, iv r.d.st, iv r.d.ef, iv r.d.et, .slice none 0 0] D K (K i) j v k0) := HT.out.call (by omega) hk0 bw (HC.out j k0 hk0)
      have hwr1 : IntKind.i64.wrap ((j : Int) + 1) = (j : Int) + 1 := by rw [IntKind.wrap_i64]; omega
      have hjl2 : (j : Int) < (kl : Int) := by omega
      clear hMl hMT hMt bw ow hk0 hkd HT HT0
      go_wp2_with fail
      go_region_law (first
        | (refine step_call2 21 _ _ _ rfl rfl enters21 _ _ (by simp [Act.eval]) (by simp [Act.eval]) (HK.out _ ((Below.refl _ _).drew)) ?_; rintro e w5 ⟨ao', ac', kp', kc', g', c', W, rfl, z1, z2, hrun, z3, z4, HN⟩; refine ⟨_, rfl, ?_⟩)
        | (refine step_append_eq rfl _ _ 33 33 rfl _ _ (by first | (simp [Act.eval]; done) | simp [Act.eval, Act.put]) (by first | (simp [Act.eval]; done) | simp [Act.eval, Act.put]) hrun ?_))
      all_goals
        clear hrun z1 z2 z3 z4
        generalize hW9 : W.setCell ⟨b, 10, none⟩ (.slice (some ⟨g', 0, none⟩) (j + 1) c') = W9 at *
        clear hW9
        go_wp2_with fail
        go_roundg k
        case measure => omega
        case rel => exact ⟨j + 1, _, by go_num, by omega, HN⟩
/-- The document's Tree: any node's, whose kids are less than itself. -/
theorem rtree_any {S : Nat → Prop} {w0 : World} {y g n c : Nat} {L : List RN} (o : RO S w0 y g n c L) {D : Nat → Nd} {K : Nat → List Nat} {sz : Nat → Nat} (hD : ∀ (i : Nat) (r : RN), L[i]? = some r → D i = { r.d with id := (i : Int) }) (hK : ∀ (i : Nat) (r : RN), L[i]? = some r → K i = r.ks) (hf : ∀ r ∈ L, r.d.al.length ≤ 1000000000) (hl : ∀ r ∈ L, r.ks.length ≤ 1000000000) (hs : ∀ i k, k ∈ K i → sz k < sz i) (hin : ∀ (i : Nat) (r : RN) (k : Nat), L[i]? = some r → k ∈ r.ks → k < L.length) :
    ∀ (f i : Nat) (w : World), Below w0.heap.size w0 w → i < L.length → sz i < f → Calls Try.prog 21 #[ptr y, iv (i : Int)] w (RTreed D K i w)
  | 0, _, _, _, _, hn => absurd hn (Nat.not_lt_zero _)
  | f + 1, i, w, b, hi, hn => by
    have hr := List.getElem?_eq_getElem hi
    refine rtree_one (o.old b) hr (hD i _ hr) (hK i _ hr) (hf _ (List.getElem_mem hi)) (hl _ (List.getElem_mem hi)) fun j k hj w' b' => ?_
    have hm := List.mem_of_getElem? hj
    have hm2 := hm
    rw [hK i _ hr] at hm2
    exact rtree_any o hD hK hf hl hs hin f k w' (b.trans (b'.mono b.size)) (hin i _ k hr hm2) (by have := hs i k hm; omega)
end Go.Proofs.Ytcdaghlbfclpkaa
