/- Rows of one's own, what stays; attributes; a node's own. -/
import Derived.Test.YtdpibnmbgjhohaaProg
import Derived.WalkKit
import Derived.WalkSpells
import Derived.WalkLawsBesides
import Derived.Deep.RegionLaw
import Derived.Deep.RegionWith
import Derived.Deep.QuietTactic
import Derived.BigQuiet
import Derived.BigRegion
import Derived.WalkMore
import Derived.WalkArith
import Derived.Maps.AppendAt
import Derived.Laws.StructEq
import Derived.OwnWalk
import Derived.Deep.Upon
import Derived.Deep.LoopGhost
import Derived.Deep.DeepCutAuto
import Derived.Maps.OwnSet
import Derived.Below
import Derived.Deep.RegionHeld3
import Derived.Laws.CopyRow
namespace Go.Proofs.Ytdpibnmbgjhohaa
open Go.RowKit

abbrev Path := List UInt8

/-- An attribute: its name, its value. -/
structure At where
  n : ByteArray
  v : ByteArray

theorem bytes_eq {a b : ByteArray} (h : a.data.toList = b.data.toList) : a = b := by
  obtain ⟨⟨x⟩⟩ := a
  obtain ⟨⟨y⟩⟩ := b
  have : x = y := h
  rw [this]
theorem beq_bytes (a b : ByteArray) : (a.toList == b.toList) = decide (a.data.toList = b.data.toList) := by
  rw [ByteArray.toList_eq, ByteArray.toList_eq]
  rw [Bool.eq_iff_iff]; simp

/-- Name and value as rows of bytes. -/
abbrev At.nm (x : At) : Path := x.n.data.toList
abbrev At.vl (x : At) : Path := x.v.data.toList
theorem At.ext' {x y : At} (h1 : x.nm = y.nm) (h2 : x.vl = y.vl) : x = y := by
  obtain ⟨a, b⟩ := x
  obtain ⟨c, d⟩ := y
  have e1 : a = c := bytes_eq h1
  have e2 : b = d := bytes_eq h2
  rw [e1, e2]
def At.eqb (x y : At) : Bool := decide (x.nm = y.nm) && decide (x.vl = y.vl)
theorem At.eqb_iff {x y : At} : At.eqb x y = true ↔ x = y := by
  unfold At.eqb
  rw [Bool.and_eq_true, decide_eq_true_iff, decide_eq_true_iff]
  exact ⟨fun h => At.ext' h.1 h.2, fun h => by rw [h]; exact ⟨rfl, rfl⟩⟩
def At.cells (x : At) : List Value := [.string x.n, .string x.v]

theorem eq53 (a b c d : ByteArray) (w : World) : (binOp .eql 53 (.agg #[.string a, .string b]) (.agg #[.string c, .string d])).run Try.prog w = .ok (.bool (At.eqb ⟨a, b⟩ ⟨c, d⟩)) w := by
  have u9 := Try.underlying9
  have a9 := Try.isAgg9
  have z9 := Try.sizeOf9
  have hS : Try.prog.underlying 53 = some (.struct (Try.prog.fieldsOf 53)) := by kernel_rfl
  have hp : Try.prog.stoodInHeld 53 = false := by kernel_rfl
  rw [run_eql_struct, show (10000 : Nat) = 9999 + 1 from rfl, run_equalIn_agg w 9999 53 _ _ hS hp]
  simp only [Program.fieldsOf, Try.underlying53]
  go_simp
  simp only [At.eqb, At.nm, At.vl]
  by_cases h1 : a.data.toList = c.data.toList <;> by_cases h2 : b.data.toList = d.data.toList <;> simp [h1, h2, ByteArray.toList_eq]
theorem ne53 (a b c d : ByteArray) (w : World) : (binOp .neq 53 (.agg #[.string a, .string b]) (.agg #[.string c, .string d])).run Try.prog w = .ok (.bool (!At.eqb ⟨a, b⟩ ⟨c, d⟩)) w := by
  have h := eq53 a b c d w
  rw [run_eql_struct] at h
  rw [run_neq_struct]
  revert h
  generalize (Op.equalIn 10000 53 (.agg #[.string a, .string b]) (.agg #[.string c, .string d])).run Try.prog w = r
  intro h
  cases r with
  | ok x w' => simp [Result.andThen] at h ⊢; obtain ⟨h1, h2⟩ := h; exact ⟨h1, h2⟩
  | halt x w' => simp [Result.andThen] at h


/-- What lies in S is as it was. -/
structure Keep (S : Nat → Prop) (w w' : World) : Prop where
  os : w'.os = w.os
  tape : w'.tape = w.tape
  output : w'.output = w.output
  size : w.heap.size ≤ w'.heap.size
  block : ∀ k, S k → k < w.heap.size → w'.heap[k]? = w.heap[k]?
theorem Keep.refl (S : Nat → Prop) (w : World) : Keep S w w := ⟨rfl, rfl, rfl, Nat.le_refl _, fun _ _ _ => rfl⟩
theorem Keep.trans {S : Nat → Prop} {a b c : World} (h : Keep S a b) (k : Keep S b c) : Keep S a c :=
  ⟨k.os.trans h.os, k.tape.trans h.tape, k.output.trans h.output, Nat.le_trans h.size k.size, fun i h1 h2 => (k.block i h1 (Nat.lt_of_lt_of_le h2 h.size)).trans (h.block i h1 h2)⟩
theorem Keep.old {S : Nat → Prop} {w w' : World} (h : Below w.heap.size w w') : Keep S w w' := ⟨h.os, h.tape, h.output, h.size, fun k _ hk => h.block k hk⟩
theorem Keep.sub {S U : Nat → Prop} {w w' : World} (h : Keep S w w') (k : ∀ i, U i → S i) : Keep U w w' := ⟨h.os, h.tape, h.output, h.size, fun i h1 h2 => h.block i (k i h1) h2⟩
theorem Keep.grown {S : Nat → Prop} {w w' : World} {o : Option Nat} (h : w.grownBy w' o) (ho : ∀ g, o = some g → ¬ S g) : Keep S w w' :=
  ⟨h.os, h.tape, h.output, h.size, fun k hS hk => h.block k hk (fun e => ho k e.symm hS)⟩
theorem Keep.below {S : Nat → Prop} {w w' : World} {B : Nat} (h : Keep S w w') (hS : ∀ k, k < B → S k) (hB : B ≤ w.heap.size) : Below B w w' :=
  ⟨h.os, h.tape, h.output, h.size, fun k hk => h.block k (hS k hk) (by omega)⟩
theorem grown_below {w w' : World} (h : w.grownBy w' none) : Below w.heap.size w w' := ⟨h.os, h.tape, h.output, h.size, fun k hk => h.block k hk (by simp)⟩
theorem below_grown {w w' : World} (h : Below w.heap.size w w') (o : Option Nat) : w.grownBy w' o := ⟨h.os, h.tape, h.output, h.size, fun k hk _ => h.block k hk⟩
theorem below_drewN {B : Nat} {w w' : World} (h : Below B w w') (n : Nat) : Below B w (w'.drewN n) := ⟨h.os, h.tape, h.output, h.size, h.block⟩

/-- A row of one's own, in no block of S. -/
structure Rw (S : Nat → Prop) (w : World) (e s : Nat) (v : Value) (n : Nat) (xs : List Value) : Prop where
  own : w.ownsRow 0 e s v n xs
  out : ∀ g, v.ownBlock = some g → ¬ S g
theorem own_mv {w w' : World} {B e s n : Nat} {v : Value} {xs : List Value} (h : w.ownsRow B e s v n xs) (k : ∀ g, v.ownBlock = some g → w'.heap[g]? = w.heap[g]?) : w'.ownsRow B e s v n xs := by
  refine ⟨h.1, ?_⟩
  rcases h.2 with hn | ⟨g, cap, cur, rfl, hb, hg, rest⟩
  · exact .inl hn
  · exact .inr ⟨g, cap, cur, rfl, hb, (k g rfl).trans hg, rest⟩
theorem own_blk {w : World} {B e s n : Nat} {v : Value} {xs : List Value} (h : w.ownsRow B e s v n xs) {g : Nat} (hg : v.ownBlock = some g) : g < w.heap.size ∧ ∃ cur, w.heap[g]? = some (.cells cur e (0, 0)) := by
  rcases h.2 with ⟨rfl, _⟩ | ⟨g', cap, cur, rfl, hB, hgb, _⟩
  · simp [Value.ownBlock] at hg
  · simp [Value.ownBlock] at hg; subst hg
    exact ⟨(Array.getElem?_eq_some_iff.1 hgb).1, cur, hgb⟩
theorem Rw.mv {S : Nat → Prop} {w w' : World} {e s n : Nat} {v : Value} {xs : List Value} (h : Rw S w e s v n xs) (k : ∀ g, v.ownBlock = some g → w'.heap[g]? = w.heap[g]?) : Rw S w' e s v n xs := ⟨own_mv h.own k, h.out⟩
theorem Rw.old {S : Nat → Prop} {w w' : World} {e s n : Nat} {v : Value} {xs : List Value} (h : Rw S w e s v n xs) (b : Below w.heap.size w w') : Rw S w' e s v n xs := h.mv fun g hg => b.block g (own_blk h.own hg).1
/-- What turned is a block of another type. -/
theorem Rw.off {S : Nat → Prop} {w w' : World} {e s n : Nat} {v : Value} {xs : List Value} (h : Rw S w e s v n xs) {b : Nat} (k : ∀ g, g < w.heap.size → g ≠ b → w'.heap[g]? = w.heap[g]?) {cur : Array Value} {t : Nat} {z : Nat × Nat} (hb : w.heap[b]? = some (.cells cur t z)) (ht : t ≠ e) : Rw S w' e s v n xs := h.mv fun g hg => by
  obtain ⟨h1, c, h2⟩ := own_blk h.own hg
  refine k g h1 (fun e' => ?_)
  rw [e', hb] at h2
  simp at h2
  exact ht h2.2.1
theorem Rw.form {S : Nat → Prop} {w : World} {e s n : Nat} {v : Value} {xs : List Value} (h : Rw S w e s v n xs) (hn : 0 < n) : ∃ g cap cur, v = .slice (some ⟨g, 0, none⟩) n cap ∧ ¬ S g ∧ g < w.heap.size ∧ w.heap[g]? = some (.cells cur e (0, 0)) ∧ n ≤ cap ∧ cap ≤ maxLen ∧ cur.size = cap * s ∧ cur.toList.take (n * s) = xs := by
  rcases h.own.2 with ⟨_, h0⟩ | ⟨g, cap, cur, rfl, _, hg, h1, h2, h3, h4⟩
  · omega
  · exact ⟨g, cap, cur, rfl, h.out g rfl, (Array.getElem?_eq_some_iff.1 hg).1, hg, h1, h2, h3, h4⟩
theorem Rw.slice {S : Nat → Prop} {w : World} {e s n : Nat} {v : Value} {xs : List Value} (h : Rw S w e s v n xs) : ∃ ao cap, v = .slice ao n cap ∧ n ≤ cap ∧ cap ≤ maxLen := by
  rcases h.own.2 with ⟨rfl, rfl⟩ | ⟨g, cap, cur, rfl, _, hg, h1, h2, h3, h4⟩
  · exact ⟨none, 0, rfl, Nat.le_refl _, by unfold maxLen; omega⟩
  · exact ⟨_, cap, rfl, h1, h2⟩
theorem Rw.one {S : Nat → Prop} {w : World} {e s n : Nat} {v : Value} {xs : List Value} (h : Rw S w e s v n xs) : v.oneCell' = true := by
  obtain ⟨ao, cap, rfl, _⟩ := h.slice
  rfl
theorem Rw.cell {S : Nat → Prop} {w : World} {e s n g cap : Nat} {xs : List Value} (h : Rw S w e s (.slice (some ⟨g, 0, none⟩) n cap) n xs) {j : Nat} {u : Value} (hj : xs[j]? = some u) : w.cell? ⟨g, j, none⟩ = some u := by
  have hl := (List.getElem?_eq_some_iff.1 hj).1
  rw [World.ownsRow.cellAt h.own j (by rw [← h.own.1]; exact hl)]
  exact hj
theorem Rw.set {S : Nat → Prop} {w : World} {e s n g cap : Nat} {xs : List Value} (h : Rw S w e s (.slice (some ⟨g, 0, none⟩) n cap) n xs) (j : Nat) (u : Value) :
    Rw S (w.setCell ⟨g, j, none⟩ u) e s (.slice (some ⟨g, 0, none⟩) n cap) n (xs.set j u) ∧ w.grownBy (w.setCell ⟨g, j, none⟩ u) (some g) := by
  obtain ⟨s1, s2⟩ := World.ownsRow.stored h.own j u
  exact ⟨⟨s1, h.out⟩, s2⟩
theorem Rw.nil (S : Nat → Prop) (w : World) (e s : Nat) : Rw S w e s (.slice none 0 0) 0 [] := ⟨⟨by simp, .inl ⟨rfl, rfl⟩⟩, fun g hg => by simp [Value.ownBlock] at hg⟩
theorem Rw.sub {S U : Nat → Prop} {w : World} {e s n : Nat} {v : Value} {xs : List Value} (h : Rw S w e s v n xs) (k : ∀ i, U i → S i) : Rw U w e s v n xs := ⟨h.own, fun g hg hU => h.out g hg (k g hU)⟩

/-- Elements behind a row of one's own. -/
theorem Rw.app {S : Nat → Prop} {t e size bytes : Nat} {z0 : Value} (ht : Try.prog.underlying t = some (.slice e)) (hinfo : (Try.prog.info? e).map (fun i => (i.zero, i.size, i.bytes)) = some (some z0, size, bytes)) (hzs : z0.cells.size = size) (hsz : 0 < size) (hb : bytes ≤ 200)
    {W : World} {v : Value} {n : Nat} {xs : List Value} (hown : Rw S W e size v n xs) (hlow : ∀ k, S k → k < W.heap.size) (b off k c : Nat) (news : List Value) (hl : news.length = k * size) (hc : ∀ j u, news[j]? = some u → W.cell? ⟨b, off + j, none⟩ = some u) (h1 : ∀ u ∈ news, u.oneCell' = true) (hn : n + k ≤ 700000000000) :
    ∃ v' W', (Builtin.append_ #[t, t] t #[v, .slice (some ⟨b, off, none⟩) k c]).run Try.prog W = .ok v' W' ∧ Rw S W' e size v' (n + k) (xs ++ news) ∧ W.grownBy W' v.ownBlock ∧ (v'.ownBlock = v.ownBlock ∨ v'.ownBlock = some W.heap.size) := by
  obtain ⟨i0, hi0, hz0, hzs0, hzb⟩ := info_parts hinfo
  obtain ⟨v', W', hrun, ho, hg, _, hat⟩ := run_append_own_at (P := Try.prog) W 0 t t e i0 _ size bytes ht hi0 hz0 hzs0 hzb hzs hsz v n xs hown.own ⟨b, off, none⟩ k c news hl (fun j u hj => by rw [Addr.add_lit]; exact hc j u hj) h1 (by unfold maxLen; omega) (by have := Nat.mul_le_mul hn hb; omega) (Nat.zero_le _)
  refine ⟨v', W', hrun, ⟨ho, fun g hg' => ?_⟩, hg, hat⟩
  rcases hat with h | h
  · exact hown.out g (h ▸ hg')
  · rw [h] at hg'
    simp at hg'
    subst hg'
    exact fun hS => by have := hlow _ hS; omega

/-- 'append' where its run is known by an equation, in a region that draws no order. -/
theorem list_append_eq {P : Program} {ops : Array Oper} {rest : List Oper} {o : Oper} {a : Act} {w : World} {Q : Exit → Act → World → Prop}
    (hg : o.guard = none) (d x : Operand) (dT sT : TypeId) (hop : o.op = Op.call { callee := Callee.builtin Builtin.append, args := #[d, x], argTypes := #[dT, sT] })
    (v u : Value) (hd : a.eval d = v) (hx : a.eval x = u) {v' : Value} {w' : World} (hr : (Builtin.append_ #[dT, sT] o.type #[v, u]).run P w = .ok v' w') (hK : wpList P ops Q rest (a.put o.dst v') w') :
    wpList P ops Q (o :: rest) a w :=
  wpList_plain hg fun K hK2 => by
    unfold Oper.wp
    simp [execOp, hop, resolve, invoke, builtin, hd, hx, hr, Result.andThen]
    exact hK2 _ _ hK
/-- 'append' where its run is known by an equation, as one step of a region that draws. -/
theorem step_append_eq {P : Program} {ops : Array Oper} {o : Oper} {a : Act} {w : World} {K : Act → World → Prop} {Q : Exit → Act → World → Prop} {E : Prop}
    (hg : o.guard = none) (d x : Operand) (dT sT : TypeId) (hop : o.op = Op.call { callee := Callee.builtin Builtin.append, args := #[d, x], argTypes := #[dT, sT] })
    (v u : Value) (hd : a.eval d = v) (hx : a.eval x = u) {v' : Value} {w' : World} (hr : (Builtin.append_ #[dT, sT] o.type #[v, u]).run P w = .ok v' w') (hK : K (a.put o.dst v') w') :
    if Region.wanted o (yielded ops a.tmps) = true then Oper.wp P o a w K Q else E := by
  have hw : Region.wanted o (yielded ops a.tmps) = true := by simp [Region.wanted, hg]
  rw [if_pos hw]
  unfold Oper.wp
  simp [execOp, hop, resolve, invoke, builtin, hd, hx, hr, Result.andThen]
  exact hK
/-- 'copy' where its run is known by an equation. -/
theorem list_copy_eq {P : Program} {ops : Array Oper} {rest : List Oper} {o : Oper} {a : Act} {w : World} {Q : Exit → Act → World → Prop}
    (hg : o.guard = none) (d x : Operand) (dT sT : TypeId) (hop : o.op = Op.call { callee := Callee.builtin Builtin.copy, args := #[d, x], argTypes := #[dT, sT] })
    (v u : Value) (hd : a.eval d = v) (hx : a.eval x = u) {v' : Value} {w' : World} (hr : (Builtin.copy_ #[dT, sT] o.type #[v, u]).run P w = .ok v' w') (hK : wpList P ops Q rest (a.put o.dst v') w') :
    wpList P ops Q (o :: rest) a w :=
  wpList_plain hg fun K hK2 => by
    unfold Oper.wp
    simp [execOp, hop, resolve, invoke, builtin, hd, hx, hr, Result.andThen]
    exact hK2 _ _ hK
theorem run_copy_s {P : Program} (w : World) (dT sT ty elem : TypeId) (g o dLen dCap : Nat) (a : Addr) (sLen sCap s : Nat) (cur : Array Value) (t : TypeId) (cs : List Value)
    (hu : P.underlying dT = some (.slice elem)) (hs : (P.info? elem).map (·.size) = some s)
    (hg : w.heap[g]? = some (.cells cur t (0, 0))) (hn : cs.length = Nat.min sLen dLen * s)
    (hsrc : ∀ j v, cs[j]? = some v → w.cell? (a.add j) = some v) (hfit : o + cs.length ≤ cur.size) (h1 : ∀ v ∈ cs, v.oneCell' = true) :
    (Builtin.copy_ #[dT, sT] ty #[.slice (some ⟨g, o, none⟩) dLen dCap, .slice (some a) sLen sCap]).run P w =
      .ok (goInt (Nat.min sLen dLen)) (w.setRow g (cur.toList.take o ++ cs ++ cur.toList.drop (o + cs.length)).toArray) := by
  have hl := run_loadCells_list (P := P) w a cs hsrc
  have hst := run_storeCells_at P g o t cs 0 cur w hg (by simpa using hfit) h1
  cases hq : P.info? elem with
  | none => simp [hq] at hs
  | some i =>
    have hi : i.size = s := by simpa [hq] using hs
    simp [Builtin.copy_, run_underlying hu, Builtin.lenOf, Builtin.firstCells, sizeOf, typeInfo, hq, hi, ← hn, hl, hst]

theorem info53 : (Try.prog.info? 53).map (fun i => (i.zero, i.size, i.bytes)) = some (some (.agg #[.string ByteArray.empty, .string ByteArray.empty]), 2, 32) := by kernel_rfl
theorem info27 : (Try.prog.info? 27).map (fun i => (i.zero, i.size, i.bytes)) = some (some (.agg #[.int .i64 0, .int .i64 0, .int .i64 0, .string ByteArray.empty, .string ByteArray.empty, .slice none 0 0, .int .i64 0, .int .i64 0, .int .i64 0, .int .i64 0, .slice none 0 0]), 11, 136) := by kernel_rfl
theorem info3 : (Try.prog.info? 3).map (fun i => (i.zero, i.size, i.bytes)) = some (some (.int .i64 0), 1, 8) := by kernel_rfl

theorem at_len (M : List At) : (M.flatMap At.cells).length = M.length * 2 := by
  induction M with
  | nil => rfl
  | cons x M ih => rw [List.flatMap_cons, List.length_append, ih, List.length_cons]; simp [At.cells]; omega
theorem at_one (M : List At) (u : Value) (h : u ∈ M.flatMap At.cells) : u.oneCell' = true := by
  rw [List.mem_flatMap] at h
  obtain ⟨x, _, h⟩ := h
  simp only [At.cells, List.mem_cons, List.not_mem_nil, or_false] at h
  rcases h with rfl | rfl <;> rfl

/-- A node: its attributes' slice and what lies there. -/
structure Nd where
  id : Int
  kind : Int
  space : Int
  name : ByteArray
  text : ByteArray
  av : Value
  al : List At
  sf : Int
  st : Int
  ef : Int
  et : Int
abbrev Nd.arr (d : Nd) : Array Value := #[.int .i64 d.id, .int .i64 d.kind, .int .i64 d.space, .string d.name, .string d.text, d.av, .int .i64 d.sf, .int .i64 d.st, .int .i64 d.ef, .int .i64 d.et, .slice none 0 0]
def Nd.cells (d : Nd) : List Value := [.int .i64 d.id, .int .i64 d.kind, .int .i64 d.space, .string d.name, .string d.text, d.av, .int .i64 d.sf, .int .i64 d.st, .int .i64 d.ef, .int .i64 d.et, .slice none 0 0]
theorem fl_len {α : Type} (f : α → List Value) (s : Nat) (hf : ∀ x, (f x).length = s) (M : List α) : (M.flatMap f).length = M.length * s := by
  induction M with
  | nil => simp
  | cons x M ih => rw [List.flatMap_cons, List.length_append, ih, hf, List.length_cons, Nat.add_mul]; omega
theorem fl_at {α : Type} (f : α → List Value) (s : Nat) (hf : ∀ x, (f x).length = s) : ∀ (M : List α) (i j : Nat) (x : α), M[i]? = some x → j < s → (M.flatMap f)[i * s + j]? = (f x)[j]?
  | [], i, j, x, h, _ => by simp at h
  | y :: M, 0, j, x, h, hj => by
    simp at h
    subst h
    rw [List.flatMap_cons, Nat.zero_mul, Nat.zero_add, List.getElem?_append_left (by rw [hf]; exact hj)]
  | y :: M, i + 1, j, x, h, hj => by
    have := fl_at f s hf M i j x (by simpa using h) hj
    rw [List.flatMap_cons, List.getElem?_append_right (by rw [hf, Nat.add_mul]; omega), hf, ← this]
    congr 1
    rw [Nat.add_mul]
    omega
theorem fl_set {α : Type} (f : α → List Value) (s : Nat) (hf : ∀ x, (f x).length = s) : ∀ (M : List α) (i j : Nat) (x y : α) (u : Value), M[i]? = some x → j < s → (f x).set j u = f y → (M.flatMap f).set (i * s + j) u = (M.set i y).flatMap f
  | [], i, j, x, y, u, h, _, _ => by simp at h
  | z :: M, 0, j, x, y, u, h, hj, hy => by
    simp at h
    subst h
    rw [List.flatMap_cons, Nat.zero_mul, Nat.zero_add, List.set_append_left _ _ (by rw [hf]; exact hj), hy]
    rfl
  | z :: M, i + 1, j, x, y, u, h, hj, hy => by
    have := fl_set f s hf M i j x y u (by simpa using h) hj hy
    rw [List.flatMap_cons, List.set_append_right _ _ (by rw [hf, Nat.add_mul]; omega), hf, List.set_cons_succ, List.flatMap_cons, ← this]
    congr 2
    rw [Nat.add_mul]
    omega
/-- Attributes that lie somewhere. -/
def AtRow (w : World) (lo : Option Addr) (l : List At) : Prop :=
  ∀ i x, l[i]? = some x → ∃ b off, lo = some ⟨b, off, none⟩ ∧ b < w.heap.size ∧ w.cell? ⟨b, off + i * 2, none⟩ = some (.string x.n) ∧ w.cell? ⟨b, off + i * 2 + 1, none⟩ = some (.string x.v)
theorem AtRow.old {w w' : World} {lo : Option Addr} {l : List At} (h : AtRow w lo l) (b : Below w.heap.size w w') : AtRow w' lo l := fun i x hx => by
  obtain ⟨k, off, h1, h2, h3, h4⟩ := h i x hx
  exact ⟨k, off, h1, Nat.lt_of_lt_of_le h2 b.size, (b.cell (p := ⟨k, off + i * 2, none⟩) h2).trans h3, (b.cell (p := ⟨k, off + i * 2 + 1, none⟩) h2).trans h4⟩
abbrev iv (i : Int) : Value := .int .i64 i
def CellsAt (w : World) (b off : Nat) (l : List Value) : Prop := ∀ j u, l[j]? = some u → w.cell? ⟨b, off + j, none⟩ = some u
theorem CellsAt.mv {w w' : World} {b off : Nat} {l : List Value} (h : CellsAt w b off l) (k : w'.heap[b]? = w.heap[b]?) : CellsAt w' b off l := fun j u hj => by
  rw [← h j u hj]
  simp [World.cell?, k]
def Nd.cs (d : Nd) (av kv : Value) : List Value := [iv d.id, iv d.kind, iv d.space, .string d.name, .string d.text, av, iv d.sf, iv d.st, iv d.ef, iv d.et, kv]
/-- A tree. -/
inductive Tr
  | mk (d : Nd) (k : List Tr)
def Tr.d : Tr → Nd
  | .mk d _ => d
def Tr.k : Tr → List Tr
  | .mk _ k => k
/-- A tree as values. -/
inductive TrV (w : World) : Tr → Value → Value → Prop
  | mk {d : Nd} {ks : List Tr} {ac kc kb ko : Nat} {ao kp : Option Addr} {avs kvs : Nat → Value} (ha : AtRow w ao d.al) (hp : ks ≠ [] → kp = some ⟨kb, ko, none⟩) (hc : ∀ (j : Nat) t, ks[j]? = some t → kb < w.heap.size ∧ CellsAt w kb (ko + j * 11) (t.d.cs (avs j) (kvs j))) (hk : ∀ (j : Nat) t, ks[j]? = some t → TrV w t (avs j) (kvs j)) : TrV w (.mk d ks) (.slice ao d.al.length ac) (.slice kp ks.length kc)
theorem TrV.mv {w w' : World} {t : Tr} {av kv : Value} (h : TrV w t av kv) (hs : w.heap.size ≤ w'.heap.size) (b : ∀ k, k < w.heap.size → w'.heap[k]? = w.heap[k]?) : TrV w' t av kv := by
  induction h with
  | mk ha hp hc _ ih =>
    refine .mk (fun j x hj => ?_) hp (fun j t hj => ⟨Nat.lt_of_lt_of_le (hc j t hj).1 hs, (hc j t hj).2.mv (b _ (hc j t hj).1)⟩) ih
    obtain ⟨g, off, h1, h2, h3, h4⟩ := ha j x hj
    have e := b g h2
    exact ⟨g, off, h1, Nat.lt_of_lt_of_le h2 hs, by rw [← h3]; simp [World.cell?, e], by rw [← h4]; simp [World.cell?, e]⟩
theorem TrV.old {w w' : World} {t : Tr} {av kv : Value} (h : TrV w t av kv) (b : Below w.heap.size w w') : TrV w' t av kv := h.mv b.size fun k hk => b.block k hk
end Go.Proofs.Ytdpibnmbgjhohaa
