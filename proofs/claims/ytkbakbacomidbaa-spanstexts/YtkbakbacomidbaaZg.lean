/- A row of codes in memory; a reference by a number. -/
import Derived.Test.YtkbakbacomidbaaProg
import Derived.BigQuiet
import Derived.BigRegion
import Derived.Deep.QuietTactic
import Derived.Deep.RegionLaw
import Derived.Laws.AppendOwn
import Derived.Maps.AppendAt
import Derived.Shelf.Small.Strs
import Derived.Shelf.Strings.Builder1
import Derived.Shelf.Strings.BuilderF
import Derived.Shelf.Strings.BuilderK
import Derived.Shelf.Strings.BuilderRune
import Derived.Shelf.Strings.Prefix
import Derived.WalkArith
import Derived.WalkKit
import Derived.WalkLawsBesides
import Derived.WalkMore
import Derived.WalkSpells
import Derived.Test.YtkbakbacomidbaaZf
import Derived.Deep.DeepCutAuto
import Derived.Maps.OwnSet
namespace Go.Proofs.Ytkbakbacomidbaa.G6
open Go.RowKit
theorem info3 : (Try.prog.info? 3).map (fun i => (i.zero, i.size, i.bytes)) = some (some (.int .i64 0), 1, 8) := by kernel_rfl
/-- The value v is a row of the numbers L, in memory of its own from B on. -/
abbrev Cds (w : World) (B : Nat) (v : Value) (L : List Int) : Prop := w.ownsRow B 3 1 v L.length (L.map (Value.int .i64))
theorem cds_nil (w : World) (B : Nat) : Cds w B (.slice none 0 0) [] := ⟨rfl, .inl ⟨rfl, rfl⟩⟩
theorem cds_one (w : World) (B : Nat) (x : Int) (hB : B ≤ w.heap.size) : Cds (w.alloc (.cells #[.int .i64 x] 3)) B (.slice (some ⟨w.heap.size, 0, none⟩) 1 1) [x] :=
  ⟨rfl, .inr ⟨w.heap.size, 1, #[.int .i64 x], rfl, hB, heap_alloc_new _ _, Nat.le_refl _, by unfold maxLen; omega, rfl, rfl⟩⟩
theorem cds_below {w w' : World} {B : Nat} {v : Value} {L : List Int} (h : Cds w B v L) (b : Below w.heap.size w w') : Cds w' B v L := by
  refine ⟨h.1, ?_⟩
  rcases h.2 with hn | ⟨g, cap, cur, hv, hBg, hg, rest⟩
  · exact .inl hn
  · exact .inr ⟨g, cap, cur, hv, hBg, (b.block g (Array.getElem?_eq_some_iff.1 hg).1).trans hg, rest⟩
/-- 'append' where its run is known by an equation. -/
theorem list_append_eq {P : Program} {ops : Array Oper} {rest : List Oper} {o : Oper} {a : Act} {w : World} {Q : Exit → Act → World → Prop}
    (hg : o.guard = none) (d x : Operand) (dT sT : TypeId) (hop : o.op = Op.call { callee := Callee.builtin Builtin.append, args := #[d, x], argTypes := #[dT, sT] })
    (v u : Value) (hd : a.eval d = v) (hx : a.eval x = u) {v' : Value} {w' : World} (hr : (Builtin.append_ #[dT, sT] o.type #[v, u]).run P w = .ok v' w') (hK : wpList P ops Q rest (a.put o.dst v') w') :
    wpList P ops Q (o :: rest) a w := by
  refine wpList_plain hg fun K hK2 => ?_
  unfold Oper.wp
  simp [execOp, hop, resolve, invoke, builtin, hd, hx, hr, Result.andThen]
  exact hK2 _ _ hK
/-- A code more in a row. -/
theorem cds_app {w : World} {B : Nat} {v : Value} {L : List Int} (h : Cds w B v L) (x : Int) (hB : B ≤ w.heap.size) (hL : L.length ≤ 1000) :
    ∃ v' w', (Builtin.append_ #[72, 72] 72 #[v, .slice (some ⟨w.heap.size, 0, none⟩) 1 1]).run Try.prog (w.alloc (.cells #[.int .i64 x] 3)) = .ok v' w' ∧ Cds w' B v' (L ++ [x]) ∧ Below B w w' := by
  obtain ⟨i0, hi, hz0, hz1, hz2⟩ := info_parts info3
  obtain ⟨W, hW⟩ : ∃ W, W = w.alloc (.cells #[.int .i64 x] 3) := ⟨_, rfl⟩
  have hnew : W.heap[w.heap.size]? = some (.cells #[.int .i64 x] 3 (0, 0)) := by rw [hW]; exact heap_alloc_new _ _
  have hbe : Below w.heap.size w W := by rw [hW]; exact (Below.refl _ _).alloc (Nat.le_refl _) _
  have hsz : W.heap.size = w.heap.size + 1 := by rw [hW]; simp
  rw [← hW]
  have hown := cds_below h hbe
  obtain ⟨l', w', hr, ho, hg, _, hloc⟩ := run_append_own_at (P := Try.prog) W B 72 72 3 i0 _ 1 8 Try.underlying72 hi hz0 hz1 hz2 rfl (by decide) v L.length _ hown ⟨w.heap.size, 0, none⟩ 1 1 [.int .i64 x] rfl
    (fun j u hj => by
      rw [Addr.add_lit, Nat.zero_add]
      simp [World.cell?, hnew]
      exact hj) (by simp [Value.oneCell']) (by unfold maxLen; omega) (by omega) (by omega)
  refine ⟨l', w', hr, ?_, ?_⟩
  · show w'.ownsRow B 3 1 l' (L ++ [x]).length ((L ++ [x]).map (Value.int .i64))
    rw [List.length_append, List.map_append]
    exact ho
  · refine (hbe.mono hB).grown hg (by omega) (fun k hk => ?_)
    rcases hown.2 with ⟨hv, _⟩ | ⟨g, cap, cur, hv, hBg, _⟩
    · rw [hv] at hk; simp [Value.ownBlock] at hk
    · rw [hv] at hk; simp [Value.ownBlock] at hk; omega
theorem bytes_drop (s : ByteArray) (n : Nat) : (s.extract n s.size).data.toList = s.data.toList.drop n := by
  simp only [ByteArray.data_extract, Array.toList_extract, List.extract_eq_take_drop]
  rw [List.take_of_length_le]
  simp
end Go.Proofs.Ytkbakbacomidbaa.G6
namespace Go.Proofs.Ytkbakbacomidbaa.G6
open Go.RowKit
/-- What is behind the digits' beginning. -/
def numB (k base : Nat) (l : List UInt8) : Int × Nat × List Int :=
  if (digs base (l.drop k)).length = 0 then (0, 0, [20]) else
  if [59].isPrefixOf (l.drop (k + (digs base (l.drop k)).length)) = true then ((chrP (accN base (digs base (l.drop k)))).1, k + (digs base (l.drop k)).length + 1, if (chrP (accN base (digs base (l.drop k)))).2 = 0 then [] else [(chrP (accN base (digs base (l.drop k)))).2])
  else ((chrP (accN base (digs base (l.drop k)))).1, k + (digs base (l.drop k)).length, (if (chrP (accN base (digs base (l.drop k)))).2 = 0 then [] else [(chrP (accN base (digs base (l.drop k)))).2]) ++ [18])
/-- A reference by a number, from its first byte on. -/
def numbP (l : List UInt8) : Int × Nat × List Int := if l[2]? = some 120 ∨ l[2]? = some 88 then numB 3 16 l else numB 2 10 l
/-- What a look for a reference hands back. -/
def Refd (w : World) (k : IntKind) (p : Int × Nat × List Int) (e : Ending) (w' : World) : Prop :=
  ∃ v, e = .returned (.tuple #[.int k p.1, .int .i64 (p.2.1 : Nat), v]) ∧ Cds w' w.heap.size v p.2.2 ∧ Below w.heap.size w w'
theorem byte_at (s : ByteArray) (i : Nat) (h : i < s.size) (c : UInt8) : s.data.toList[i]? = some c ↔ (s[i].toNat : Int) = c.toNat := by
  rw [at_i s i h]
  constructor
  · intro e; rw [Option.some.inj e]
  · intro e; exact congrArg some (UInt8.toNat_inj.1 (by omega))
end Go.Proofs.Ytkbakbacomidbaa.G6
namespace Go.Proofs.Ytkbakbacomidbaa.G6
open Go.RowKit Go.Maps
abbrev Path := List UInt8
end Go.Proofs.Ytkbakbacomidbaa.G6
namespace Go.Proofs.Ytkbakbacomidbaa.G6
open Go.RowKit Go.Maps
/-- A name and its character. -/
structure Rf where
  n : ByteArray
  r : Int
abbrev Rf.nm (x : Rf) : Path := x.n.data.toList
def Rf.ok (x : Rf) : Bool := decide (0 < x.n.size) && decide (x.n.size ≤ 8)
def Rf.cells (x : Rf) : List Value := [.string x.n, .int .i64 x.r]
/-- The character of a name: of like names the first counts. -/
def val : List Rf → Path → Option Int
  | [], _ => none
  | x :: l, p => if x.ok = true ∧ x.nm = p then some x.r else val l p
/-- Does a name begin so? -/
def pre (l : List Rf) (p : Path) : Bool := l.any fun x => x.ok && p.isPrefixOf x.nm
/-- How many names. -/
def cnt : List Rf → List Rf → Nat
  | _, [] => 0
  | seen, x :: l => (if x.ok = true ∧ val seen x.nm = none then 1 else 0) + cnt (seen ++ [x]) l
theorem val_append (l k : List Rf) (p : Path) : val (l ++ k) p = (val l p).or (val k p) := by
  induction l with
  | nil => rfl
  | cons x l ih =>
    simp only [List.cons_append, val]
    split
    · rfl
    · exact ih
theorem cnt_le (s l : List Rf) : cnt s l ≤ l.length := by
  induction l generalizing s with
  | nil => exact Nat.le_refl _
  | cons x l ih => simp only [cnt, List.length_cons]; have := ih (s ++ [x]); split <;> omega
theorem val_pre {l : List Rf} {p : Path} {v : Int} (h : val l p = some v) : pre l p = true := by
  induction l with
  | nil => cases h
  | cons x l ih =>
    simp only [val] at h
    simp only [pre, List.any_cons, Bool.or_eq_true]
    split at h
    · rename_i hx; left; simp [hx.1, hx.2]
    · right; exact ih h
/-- A row of names that lies in memory. -/
def RefRow (w : World) (lo : Option Addr) (l : List Rf) : Prop :=
  ∀ i x, l[i]? = some x → ∃ b off, lo = some ⟨b, off, none⟩ ∧ b < w.heap.size ∧ w.cell? ⟨b, off + i * 2, none⟩ = some (.string x.n) ∧ w.cell? ⟨b, off + i * 2 + 1, none⟩ = some (.int .i64 x.r)
theorem RefRow.below {w w' : World} {lo : Option Addr} {l : List Rf} (h : RefRow w lo l) (b : Below w.heap.size w w') : RefRow w' lo l := fun i x hx => by
  obtain ⟨k, off, h1, h2, h3, h4⟩ := h i x hx
  exact ⟨k, off, h1, Nat.lt_of_lt_of_le h2 b.size, (b.cell (p := ⟨k, off + i * 2, none⟩) h2).trans h3, (b.cell (p := ⟨k, off + i * 2 + 1, none⟩) h2).trans h4⟩
end Go.Proofs.Ytkbakbacomidbaa.G6
namespace Go.Proofs.Ytkbakbacomidbaa.G6
open Go.RowKit Go.Maps
/-- The longest name that the first k bytes begin with. -/
def best (l : List Rf) (s : Path) : Nat → Int × Nat
  | 0 => (0, 0)
  | k + 1 => match val l (s.take (k + 1)) with
    | some r => (r, k + 1)
    | none => best l s k
def goes (l : List Rf) (s : Path) : Bool := decide (0 < cnt [] l) && pre l s
theorem best_le (l : List Rf) (s : Path) (k : Nat) : (best l s k).2 ≤ k := by
  induction k with
  | zero => exact Nat.le_refl _
  | succ k ih =>
    unfold best
    split
    · exact Nat.le_refl _
    · omega
theorem below_drewN {B : Nat} {w w' : World} (h : Below B w w') (n : Nat) : Below B w (w'.drewN n) := ⟨h.os, h.tape, h.output, h.size, h.block⟩
theorem pre_mono {l : List Rf} {p q : Path} (h : pre l (p ++ q) = true) : pre l p = true := by
  simp only [pre, List.any_eq_true, Bool.and_eq_true, List.isPrefixOf_iff_prefix] at *
  obtain ⟨x, h1, h2, t, h3⟩ := h
  exact ⟨x, h1, h2, q ++ t, by rw [← h3, List.append_assoc]⟩
/-- Where no name begins so, nothing longer counts. -/
theorem best_stop {l : List Rf} {s : Path} {k : Nat} (h : pre l (s.take (k + 1)) = false) (m : Nat) (hk : k ≤ m) : best l s m = best l s k := by
  induction m with
  | zero => obtain rfl : k = 0 := by omega
            rfl
  | succ m ih =>
    by_cases e : k = m + 1
    · rw [e]
    · have hv : val l (s.take (m + 1)) = none := by
        cases hv : val l (s.take (m + 1)) with
        | none => rfl
        | some v =>
          have h1 := val_pre hv
          have h2 : s.take (m + 1) = s.take (k + 1) ++ (s.take (m + 1)).drop (k + 1) := by
            have := (List.take_append_drop (k + 1) (s.take (m + 1))).symm
            rwa [List.take_take, Nat.min_eq_left (by omega)] at this
          rw [h2] at h1
          rw [pre_mono h1] at h
          cases h
      rw [best, hv]
      exact ih (by omega)
theorem cnt_pos {l : List Rf} (h : cnt [] l = 0) (p : Path) : pre l p = false := by
  cases hp : pre l p with
  | false => rfl
  | true =>
    exfalso
    simp only [pre, List.any_eq_true, Bool.and_eq_true] at hp
    obtain ⟨x, hx, hok, _⟩ := hp
    have key : ∀ (b a : List Rf), (∀ y ∈ a, y.ok = false) → (∃ y ∈ b, y.ok = true) → 0 < cnt a b := by
      intro b
      induction b with
      | nil => rintro a _ ⟨y, hy, _⟩; cases hy
      | cons z b ih =>
        rintro a ha ⟨y, hy, hyok⟩
        simp only [cnt]
        cases hz : z.ok with
        | true =>
          have : val a z.nm = none := by
            clear ih hy
            induction a with
            | nil => rfl
            | cons u a iha => simp only [val, ha u (by simp)]; simp; exact iha (fun y hy => ha y (by simp [hy]))
          simp [this]; omega
        | false =>
          have := ih (a ++ [z]) (fun u hu => by
            rcases List.mem_append.1 hu with h | h
            · exact ha u h
            · simp at h; rw [h]; exact hz) (by
            rcases List.mem_cons.1 hy with h | h
            · rw [h, hz] at hyok; cases hyok
            · exact ⟨y, h, hyok⟩)
          omega
    have := key l [] (fun y hy => by cases hy) ⟨x, hx, hok⟩
    omega
end Go.Proofs.Ytkbakbacomidbaa.G6
namespace Go.Proofs.Ytkbakbacomidbaa.G6
open Go.RowKit
def wordyP (b : Nat) : Bool := decide ((97 ≤ b ∧ b ≤ 122) ∨ (65 ≤ b ∧ b ≤ 90) ∨ (48 ≤ b ∧ b ≤ 57))
def goesOnP (l : List UInt8) : Bool := match l with
  | [] => false
  | b :: _ => b.toNat == 61 || wordyP b.toNat
def begC (L : List Rf) (l : List UInt8) (n : Nat) : Bool := match l[n]? with
  | some b => wordyP b.toNat && goes L (l.take (n + 1))
  | none => false
def begF (L : List Rf) (l : List UInt8) : Nat → Nat → Nat
  | 0, n => n
  | f + 1, n => if begC L l n = true then begF L l f (n + 1) else n
def begN (L : List Rf) (l : List UInt8) : Nat := begF L l l.length 0
def begunP (L : List Rf) (l : List UInt8) : Bool := decide (0 < begN L l) && [59].isPrefixOf (l.drop (begN L l))
/-- A reference by a name; l: what stands behind the &. -/
def namedP (L : List Rf) (attr : Bool) (l : List UInt8) : Int × Nat × List Int :=
  if (best L l l.length).2 = 0 then (if begunP L l = true then (0, 0, [19]) else (0, 0, []))
  else if l[(best L l l.length).2 - 1]? = some 59 then ((best L l l.length).1, 1 + (best L l l.length).2, [])
  else if (attr && goesOnP (l.drop (best L l l.length).2)) = true then (0, 0, [])
  else ((best L l l.length).1, 1 + (best L l l.length).2, [18])
theorem empty_of_size (s : ByteArray) (h : s.size = 0) : s = ByteArray.empty := by
  apply ByteArray.ext
  exact Array.eq_empty_of_size_eq_zero h
theorem begF_step {L : List Rf} {l : List UInt8} {n : Nat} (h : begC L l n = true) : begF L l (l.length - n) n = begF L l (l.length - (n + 1)) (n + 1) := by
  have hn : n < l.length := by
    by_cases hn : n < l.length
    · exact hn
    · unfold begC at h; rw [List.getElem?_eq_none (by omega)] at h; cases h
  obtain ⟨f, hf⟩ : ∃ f, l.length - n = f + 1 := ⟨l.length - n - 1, by omega⟩
  rw [hf, begF, if_pos h, show l.length - (n + 1) = f by omega]
theorem begF_stop {L : List Rf} {l : List UInt8} {n : Nat} (h : begC L l n = false) (f : Nat) : begF L l f n = n := by
  cases f with
  | zero => rfl
  | succ f => rw [begF, h]; rfl
end Go.Proofs.Ytkbakbacomidbaa.G6
namespace Go.Proofs.Ytkbakbacomidbaa.G6
open Go.RowKit
/-- The names' characters are characters. -/
def Fine (L : List Rf) : Prop := ∀ x ∈ L, 0 < x.r ∧ x.r ≤ 1114111
theorem val_mem {L : List Rf} {p : Path} {v : Int} (h : val L p = some v) : ∃ x ∈ L, x.r = v := by
  induction L with
  | nil => cases h
  | cons x L ih =>
    simp only [val] at h
    split at h
    · exact ⟨x, by simp, by simpa using h⟩
    · obtain ⟨y, h1, h2⟩ := ih h
      exact ⟨y, by simp [h1], h2⟩
theorem best_fine {L : List Rf} (F : Fine L) (s : Path) (k : Nat) : 0 ≤ (best L s k).1 ∧ (best L s k).1 ≤ 1114111 := by
  induction k with
  | zero => simp [best]
  | succ k ih =>
    unfold best
    split
    · rename_i r hr
      obtain ⟨x, h1, h2⟩ := val_mem hr
      have := F x h1
      show 0 ≤ r ∧ r ≤ 1114111
      omega
    · exact ih
def refP (L : List Rf) (attr : Bool) (l : List UInt8) : Int × Nat × List Int :=
  if [38, 35].isPrefixOf l = true then numbP l
  else if [38].isPrefixOf l = true then namedP L attr (l.drop 1)
  else (0, 0, [])
end Go.Proofs.Ytkbakbacomidbaa.G6
namespace Go.Proofs.Ytkbakbacomidbaa.G6
open Go.RowKit
theorem info136 : (Try.prog.info? 102).map (fun i => (i.zero, i.size, i.bytes)) = some (some (.agg #[.string ByteArray.empty, .int .i64 0]), 2, 24) := by kernel_rfl
abbrev RowIs (w : World) (B : Nat) (v : Value) (L : List Rf) : Prop := w.ownsRow B 102 2 v L.length (L.flatMap Rf.cells)
theorem rf_at (l : List Rf) (i : Nat) (x : Rf) (h : l[i]? = some x) : (l.flatMap Rf.cells)[i * 2]? = some (.string x.n) ∧ (l.flatMap Rf.cells)[i * 2 + 1]? = some (.int .i64 x.r) := by
  induction l generalizing i with
  | nil => simp at h
  | cons y l ih =>
    rw [List.flatMap_cons]
    cases i with
    | zero => simp at h; subst h; exact ⟨rfl, rfl⟩
    | succ i =>
      have := ih i (by simpa using h)
      rw [show (i + 1) * 2 = i * 2 + 1 + 1 by omega, show i * 2 + 1 + 1 + 1 = (i * 2 + 1) + 1 + 1 by omega]
      simp only [Rf.cells, List.cons_append, List.nil_append, List.getElem?_cons_succ]
      exact this
/-- What is asked of api's names. -/
structure Api (L : List Rf) : Prop where
  refs : ∀ w, Calls Try.prog 56 #[] w fun e w' => e = .returned (.slice (some ⟨w.heap.size, 0, none⟩) 78 78) ∧ RefRow w' (some ⟨w.heap.size, 0, none⟩) L ∧ Below w.heap.size w w' ∧ w'.heap.size = w.heap.size + 1
  len : L.length = 78
  fine : Fine L
theorem list2 (s : ByteArray) (h2 : 2 ≤ s.size) : s.data.toList = s[0] :: s[1] :: s.data.toList.drop 2 := by
  have h0 : 0 < s.data.toList.length := by rw [Array.length_toList]; show 0 < s.size; omega
  have h1 : 1 < s.data.toList.length := by rw [Array.length_toList]; show 1 < s.size; omega
  have a := List.drop_eq_getElem_cons h0
  have b := List.drop_eq_getElem_cons h1
  rw [List.drop_zero] at a
  rw [a, b]
  rfl
theorem list1 (s : ByteArray) (h2 : 1 ≤ s.size) : s.data.toList = s[0] :: s.data.toList.drop 1 := by
  have h0 : 0 < s.data.toList.length := by rw [Array.length_toList]; show 0 < s.size; omega
  have a := List.drop_eq_getElem_cons h0
  rw [List.drop_zero] at a
  exact a
end Go.Proofs.Ytkbakbacomidbaa.G6
namespace Go.Proofs.Ytkbakbacomidbaa.G6
open Go.RowKit
theorem goes_pre (L : List Rf) (p : Path) : goes L p = pre L p := by
  unfold goes
  by_cases h : 0 < cnt [] L
  · rw [decide_eq_true h, Bool.true_and]
  · rw [cnt_pos (by omega) p, Bool.and_false]
end Go.Proofs.Ytkbakbacomidbaa.G6
