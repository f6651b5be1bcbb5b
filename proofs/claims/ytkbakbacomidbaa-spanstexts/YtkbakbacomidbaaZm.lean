/- Names by their bytes; what a list of names says. -/
import Derived.Test.YtkbakbacomidbaaProg
import Derived.BigQuiet
import Derived.BigRegion
import Derived.Deep.QuietTactic
import Derived.Deep.RegionLaw
import Derived.Maps.OwnSet
import Derived.WalkArith
import Derived.WalkKit
import Derived.WalkLawsBesides
import Derived.WalkMore
import Derived.WalkSpells
import Derived.Test.YtkbakbacomidbaaZg
import Derived.Deep.DeepCutAuto
import Derived.Laws.AppendOwn
import Derived.Maps.AppendAt
import Derived.Shelf.Small.Strs
import Derived.Shelf.Strings.Builder1
import Derived.Shelf.Strings.BuilderF
import Derived.Shelf.Strings.BuilderK
import Derived.Shelf.Strings.BuilderRune
import Derived.Shelf.Strings.Prefix
namespace Go.Proofs.Ytkbakbacomidbaa.G6
open Go.RowKit
def ownAt (V : Path → Option Int) (p : Path) : List Rf := match V p with
  | some r => [⟨⟨p.toArray⟩, r⟩]
  | none => []
def allBytes : List UInt8 := (List.range 256).map UInt8.ofNat
def kids (E : Path → Bool) (p : Path) : List UInt8 := allBytes.filter fun x => E (p ++ [x])
/-- The names at p and below it, n bytes deep. -/
def listP (V : Path → Option Int) (E : Path → Bool) : Nat → Path → List Rf
  | 0, p => ownAt V p
  | n + 1, p => ownAt V p ++ (kids E p).flatMap fun x => listP V E n (p ++ [x])
theorem allBytes_mem (x : UInt8) : x ∈ allBytes := by
  unfold allBytes
  rw [List.mem_map]
  exact ⟨x.toNat, List.mem_range.2 (UInt8.toNat_lt x), by simp⟩
theorem allBytes_rise : allBytes.Pairwise (fun x y => x.toNat < y.toNat) := by decide +kernel
theorem kids_rise (E : Path → Bool) (p : Path) : (kids E p).Pairwise (fun x y => x.toNat < y.toNat) := allBytes_rise.filter _
/-- All names of a list, by their bytes. -/
def allP (l : List Rf) : List Rf := listP (val l) (fun q => q.isEmpty || pre l q) 8 []
/-- One name ahead of another, by their bytes. -/
def ltP : Path → Path → Bool
  | [], [] => false
  | [], _ :: _ => true
  | _ :: _, [] => false
  | x :: a, y :: b => decide (x.toNat < y.toNat) || (x == y && ltP a b)
theorem ltP_irrefl : ∀ a, ltP a a = false
  | [] => rfl
  | x :: a => by simp [ltP, ltP_irrefl a]
theorem ltP_asymm : ∀ {a b}, ltP a b = true → ltP b a = false
  | [], [], h => by cases h
  | [], _ :: _, _ => rfl
  | _ :: _, [], h => by cases h
  | x :: a, y :: b, h => by
    simp only [ltP, Bool.or_eq_true, decide_eq_true_eq, Bool.and_eq_true, beq_iff_eq] at h
    simp only [ltP, Bool.or_eq_false_iff, decide_eq_false_iff_not, Bool.and_eq_false_iff]
    rcases h with h | ⟨rfl, h⟩
    · exact ⟨by omega, .inl (by simp; intro e; subst e; omega)⟩
    · exact ⟨by omega, .inr (ltP_asymm h)⟩
theorem ltP_total : ∀ {a b}, a ≠ b → ltP a b = true ∨ ltP b a = true
  | [], [], h => absurd rfl h
  | [], _ :: _, _ => .inl rfl
  | _ :: _, [], _ => .inr rfl
  | x :: a, y :: b, h => by
    simp only [ltP, Bool.or_eq_true, decide_eq_true_eq, Bool.and_eq_true, beq_iff_eq]
    by_cases e : x = y
    · subst e
      rcases ltP_total (a := a) (b := b) (fun e => h (by rw [e])) with h | h
      · exact .inl (.inr ⟨rfl, h⟩)
      · exact .inr (.inr ⟨rfl, h⟩)
    · have : x.toNat ≠ y.toNat := fun e2 => e (UInt8.toNat_inj.1 e2)
      rcases Nat.lt_or_gt_of_ne this with h | h
      · exact .inl (.inl h)
      · exact .inr (.inl h)
theorem ltP_trans : ∀ {a b c}, ltP a b = true → ltP b c = true → ltP a c = true
  | [], [], _, h, _ => by cases h
  | [], _ :: _, [], _, h => by cases h
  | [], _ :: _, _ :: _, _, _ => rfl
  | _ :: _, [], _, h, _ => by cases h
  | _ :: _, _ :: _, [], _, h => by cases h
  | x :: a, y :: b, z :: c, h1, h2 => by
    simp only [ltP, Bool.or_eq_true, decide_eq_true_eq, Bool.and_eq_true, beq_iff_eq] at *
    rcases h1 with h1 | ⟨rfl, h1⟩
    · rcases h2 with h2 | ⟨rfl, h2⟩
      · exact .inl (by omega)
      · exact .inl h1
    · rcases h2 with h2 | ⟨rfl, h2⟩
      · exact .inl h2
      · exact .inr ⟨rfl, ltP_trans h1 h2⟩
theorem ltP_pre : ∀ (p : Path) {a b}, ltP (p ++ a) (p ++ b) = ltP a b
  | [], _, _ => rfl
  | x :: p, a, b => by simp [ltP, ltP_pre p]
def Sorted (A : List Rf) : Prop := A.Pairwise fun r s => ltP r.nm s.nm = true
theorem sorted_eq : ∀ {A B : List Rf}, Sorted A → Sorted B → (∀ r, r ∈ A ↔ r ∈ B) → A = B
  | [], [], _, _, _ => rfl
  | [], y :: b, _, _, h => absurd ((h y).2 (by simp)) (by simp)
  | x :: a, [], _, _, h => absurd ((h x).1 (by simp)) (by simp)
  | x :: a, y :: b, ha, hb, h => by
    unfold Sorted at ha hb
    rw [List.pairwise_cons] at ha hb
    have hxy : x = y := by
      have h1 : x ∈ y :: b := (h x).1 (by simp)
      have h2 : y ∈ x :: a := (h y).2 (by simp)
      rcases List.mem_cons.1 h1 with e | h1
      · exact e
      · rcases List.mem_cons.1 h2 with e | h2
        · exact e.symm
        · have h3 := hb.1 x h1
          have h4 := ha.1 y h2
          rw [ltP_asymm h3] at h4
          cases h4
    subst hxy
    congr 1
    refine sorted_eq ha.2 hb.2 fun z => ?_
    have := h z
    simp only [List.mem_cons] at this
    constructor
    · intro hz
      rcases this.1 (.inr hz) with e | e
      · subst e; have := ha.1 z hz; rw [ltP_irrefl] at this; cases this
      · exact e
    · intro hz
      rcases this.2 (.inr hz) with e | e
      · subst e; have := hb.1 z hz; rw [ltP_irrefl] at this; cases this
      · exact e
theorem rf_eta (p : Path) (r : Int) (x : Rf) : (x = ⟨⟨p.toArray⟩, r⟩) ↔ (x.nm = p ∧ x.r = r) := by
  obtain ⟨⟨⟨d⟩⟩, q⟩ := x
  constructor
  · intro h
    injection h with h1 h2
    injection h1 with h1
    injection h1 with h1
    exact ⟨h1, h2⟩
  · rintro ⟨h1, h2⟩
    subst h2
    have : d = p := h1
    subst this
    rfl
theorem mem_own {V : Path → Option Int} {p : Path} {r : Rf} : r ∈ ownAt V p ↔ r.nm = p ∧ V p = some r.r := by
  unfold ownAt
  cases h : V p with
  | none => simp
  | some v =>
    simp only [List.mem_singleton, rf_eta, Option.some.injEq]
    constructor
    · rintro ⟨h1, h2⟩; exact ⟨h1, h2.symm⟩
    · rintro ⟨h1, h2⟩; exact ⟨h1, h2.symm⟩
theorem mem_listP {V : Path → Option Int} {E : Path → Bool} (hE : ∀ a b v, V (a ++ b) = some v → E a = true) : ∀ (n : Nat) (p : Path) (r : Rf), r ∈ listP V E n p ↔ ∃ q, q.length ≤ n ∧ r.nm = p ++ q ∧ V (p ++ q) = some r.r
  | 0, p, r => by
    rw [listP, mem_own]
    constructor
    · rintro ⟨h1, h2⟩; exact ⟨[], by simp, by simpa using h1, by simpa using h2⟩
    · rintro ⟨q, h0, h1, h2⟩
      obtain rfl : q = [] := List.eq_nil_of_length_eq_zero (by omega)
      rw [List.append_nil] at h1 h2
      exact ⟨h1, h2⟩
  | n + 1, p, r => by
    rw [listP, List.mem_append, mem_own, List.mem_flatMap]
    constructor
    · rintro (⟨h1, h2⟩ | ⟨x, hx, hr⟩)
      · exact ⟨[], by simp, by simpa using h1, by simpa using h2⟩
      · obtain ⟨q, h0, h1, h2⟩ := (mem_listP hE n (p ++ [x]) r).1 hr
        exact ⟨x :: q, by simp; omega, by simpa using h1, by simpa using h2⟩
    · rintro ⟨q, h0, h1, h2⟩
      cases q with
      | nil => left; rw [List.append_nil] at h1 h2; exact ⟨h1, h2⟩
      | cons x q =>
        right
        have h3 : V ((p ++ [x]) ++ q) = some r.r := by simpa using h2
        refine ⟨x, ?_, (mem_listP hE n (p ++ [x]) r).2 ⟨q, by simp at h0; omega, by simpa using h1, h3⟩⟩
        unfold kids
        rw [List.mem_filter]
        exact ⟨allBytes_mem x, hE _ _ _ h3⟩
theorem sorted_listP {V : Path → Option Int} {E : Path → Bool} (hE : ∀ a b v, V (a ++ b) = some v → E a = true) : ∀ (n : Nat) (p : Path), Sorted (listP V E n p)
  | 0, p => by
    unfold Sorted
    rw [listP]
    unfold ownAt
    split <;> simp
  | n + 1, p => by
    unfold Sorted
    rw [listP, List.pairwise_append]
    refine ⟨?_, ?_, ?_⟩
    · unfold ownAt
      split <;> simp
    · rw [List.pairwise_flatMap]
      refine ⟨fun x _ => sorted_listP hE n (p ++ [x]), (kids_rise E p).imp fun {x y} hxy r hr s hs => ?_⟩
      obtain ⟨q, _, h1, _⟩ := (mem_listP hE n (p ++ [x]) r).1 hr
      obtain ⟨q', _, h2, _⟩ := (mem_listP hE n (p ++ [y]) s).1 hs
      rw [h1, h2, List.append_assoc, List.append_assoc, ltP_pre]
      simp [ltP, hxy]
    · intro r hr s hs
      obtain ⟨h1, _⟩ := mem_own.1 hr
      obtain ⟨x, _, hs⟩ := List.mem_flatMap.1 hs
      obtain ⟨q, _, h2, _⟩ := (mem_listP hE n (p ++ [x]) s).1 hs
      have := ltP_pre p (a := []) (b := [x] ++ q)
      rw [List.append_nil] at this
      rw [h1, h2, List.append_assoc, this]
      rfl
/-- What val tells of a list. -/
theorem val_ok {l : List Rf} {p : Path} {v : Int} (h : val l p = some v) : ∃ x ∈ l, x.ok = true ∧ x.nm = p ∧ x.r = v := by
  induction l with
  | nil => cases h
  | cons x l ih =>
    simp only [val] at h
    split at h
    · rename_i hx
      cases h
      exact ⟨x, by simp, hx.1, hx.2, rfl⟩
    · obtain ⟨y, h1, h2⟩ := ih h
      exact ⟨y, by simp [h1], h2⟩
theorem val_len {l : List Rf} {p : Path} {v : Int} (h : val l p = some v) : 0 < p.length ∧ p.length ≤ 8 := by
  obtain ⟨x, _, hok, rfl, _⟩ := val_ok h
  have hl : x.nm.length = x.n.size := Array.length_toList
  unfold Rf.ok at hok
  simp at hok
  omega
theorem val_some {l : List Rf} {x : Rf} (hx : x ∈ l) (hok : x.ok = true) : ∃ v, val l x.nm = some v := by
  induction l with
  | nil => cases hx
  | cons y l ih =>
    simp only [val]
    split
    · exact ⟨_, rfl⟩
    · rename_i hne
      rcases List.mem_cons.1 hx with e | h
      · subst e; exact absurd ⟨hok, rfl⟩ hne
      · exact ih h
theorem pre_val {l : List Rf} {p : Path} : pre l p = true ↔ ∃ q v, val l (p ++ q) = some v := by
  constructor
  · intro h
    simp only [pre, List.any_eq_true, Bool.and_eq_true, List.isPrefixOf_iff_prefix] at h
    obtain ⟨x, hx, hok, q, hq⟩ := h
    obtain ⟨v, hv⟩ := val_some hx hok
    exact ⟨q, v, by rw [hq]; exact hv⟩
  · rintro ⟨q, v, h⟩
    have := val_pre h
    exact pre_mono this
theorem allP_mem {l : List Rf} (r : Rf) : r ∈ allP l ↔ val l r.nm = some r.r := by
  unfold allP
  rw [mem_listP (fun a b v h => by rw [pre_val.2 ⟨b, v, h⟩]; simp)]
  constructor
  · rintro ⟨q, _, h1, h2⟩
    rw [List.nil_append] at h1 h2
    rw [h1]; exact h2
  · intro h
    exact ⟨r.nm, (val_len h).2, by simp, by simpa using h⟩
theorem allP_sorted (l : List Rf) : Sorted (allP l) := sorted_listP (fun a b v h => by rw [pre_val.2 ⟨b, v, h⟩]; simp) 8 []
/-- The first of like names, in the list's order. -/
def keptF : List Rf → List Rf → List Rf
  | _, [] => []
  | seen, x :: l => (if x.ok = true ∧ val seen x.nm = none then [x] else []) ++ keptF (seen ++ [x]) l
theorem kept_len (seen l : List Rf) : (keptF seen l).length = cnt seen l := by
  induction l generalizing seen with
  | nil => rfl
  | cons x l ih =>
    simp only [keptF, cnt, List.length_append, ih]
    split <;> simp
theorem kept_mem (seen l : List Rf) (x : Rf) : x ∈ keptF seen l ↔ val seen x.nm = none ∧ val (seen ++ l) x.nm = some x.r ∧ x ∈ keptF seen l := by
  constructor
  · intro h
    refine ⟨?_, ?_, h⟩
    · induction l generalizing seen with
      | nil => cases h
      | cons y l ih =>
        simp only [keptF, List.mem_append] at h
        rcases h with h | h
        · split at h
          · rename_i hy; simp at h; subst h; exact hy.2
          · cases h
        · have := ih _ h
          rw [val_append] at this
          cases hv : val seen x.nm with
          | none => rfl
          | some v => rw [hv] at this; cases this
    · induction l generalizing seen with
      | nil => cases h
      | cons y l ih =>
        simp only [keptF, List.mem_append] at h
        rcases h with h | h
        · split at h
          · rename_i hy; simp at h; subst h
            rw [val_append, hy.2]
            simp [val, hy.1]
          · cases h
        · have := ih _ h
          rwa [List.append_assoc] at this
  · exact fun h => h.2.2
theorem kept_has (seen l : List Rf) (p : Path) (v : Int) (h0 : val seen p = none) (h1 : val (seen ++ l) p = some v) : (⟨⟨p.toArray⟩, v⟩ : Rf) ∈ keptF seen l := by
  induction l generalizing seen with
  | nil => rw [List.append_nil, h0] at h1; cases h1
  | cons y l ih =>
    simp only [keptF, List.mem_append]
    by_cases hy : y.ok = true ∧ y.nm = p
    · left
      have hv : val (seen ++ y :: l) p = some y.r := by
        rw [val_append, h0]
        simp [val, hy.1, hy.2]
      rw [hv] at h1
      cases h1
      rw [if_pos ⟨hy.1, by rw [hy.2]; exact h0⟩, List.mem_singleton]
      exact ((rf_eta p y.r y).2 ⟨hy.2, rfl⟩).symm
    · right
      refine ih (seen ++ [y]) ?_ (by rw [List.append_assoc]; exact h1)
      rw [val_append, h0]
      simp only [val]
      rw [if_neg hy]
      rfl
theorem kept_nodup (seen l : List Rf) : (keptF seen l).Pairwise fun x y => x.nm ≠ y.nm := by
  induction l generalizing seen with
  | nil => exact List.Pairwise.nil
  | cons y l ih =>
    simp only [keptF]
    rw [List.pairwise_append]
    refine ⟨by split <;> simp, ih _, ?_⟩
    intro a ha b hb e
    split at ha
    · rename_i hy
      simp at ha
      subst ha
      have := ((kept_mem _ _ b).1 hb).1
      rw [← e, val_append, hy.2] at this
      simp [val, hy.1] at this
    · cases ha
theorem kept_iff (l : List Rf) (x : Rf) : x ∈ keptF [] l ↔ val l x.nm = some x.r := by
  constructor
  · intro h; exact ((kept_mem [] l x).1 h).2.1
  · intro h
    have := kept_has [] l x.nm x.r rfl h
    rwa [← (rf_eta x.nm x.r x).2 ⟨rfl, rfl⟩] at this
theorem all_len (l : List Rf) : (allP l).length = cnt [] l := by
  rw [← kept_len]
  refine List.Perm.length_eq ((List.perm_ext_iff_of_nodup ?_ ?_).2 fun r => ?_)
  · exact (allP_sorted l).imp fun {a b} h e => by subst e; rw [ltP_irrefl] at h; cases h
  · exact (kept_nodup [] l).imp fun {a b} h e => h (by rw [e])
  · rw [allP_mem, kept_iff]
theorem pre_same {A l : List Rf} (h : val A = val l) : pre A = pre l := by
  funext p
  rw [Bool.eq_iff_iff, pre_val, pre_val, h]
theorem all_same {A l : List Rf} (h : val A = val l) : allP A = allP l := by
  unfold allP
  rw [h, pre_same h]
end Go.Proofs.Ytkbakbacomidbaa.G6
namespace Go.Proofs.Ytkbakbacomidbaa.G6
open Go.RowKit
/-- Nothing that was there has turned but v's and l's own blocks. -/
structure LFr (v l : Value) (w w' : World) : Prop where
  os : w'.os = w.os
  tape : w'.tape = w.tape
  output : w'.output = w.output
  size : w.heap.size ≤ w'.heap.size
  block : ∀ d, d < w.heap.size → some d ≠ v.ownBlock → some d ≠ l.ownBlock → w'.heap[d]? = w.heap[d]?
theorem own_blk {w : World} {B e s n : Nat} {v : Value} {xs : List Value} (h : w.ownsRow B e s v n xs) {g : Nat} (hg : v.ownBlock = some g) : B ≤ g ∧ g < w.heap.size ∧ ∃ cur, w.heap[g]? = some (.cells cur e (0, 0)) := by
  rcases h.2 with ⟨rfl, _⟩ | ⟨g', cap, cur, rfl, hB, hgb, _⟩
  · simp [Value.ownBlock] at hg
  · simp [Value.ownBlock] at hg; subst hg
    exact ⟨hB, (Array.getElem?_eq_some_iff.1 hgb).1, cur, hgb⟩
theorem own_mv {w w' : World} {B e s n : Nat} {v : Value} {xs : List Value} (h : w.ownsRow B e s v n xs) (k : ∀ g, v.ownBlock = some g → w'.heap[g]? = w.heap[g]?) : w'.ownsRow B e s v n xs := by
  refine ⟨h.1, ?_⟩
  rcases h.2 with hn | ⟨g, cap, cur, rfl, hb, hg, rest⟩
  · exact .inl hn
  · exact .inr ⟨g, cap, cur, rfl, hb, (k g rfl).trans hg, rest⟩
theorem LFr.refl (v l : Value) (w : World) : LFr v l w w := ⟨rfl, rfl, rfl, Nat.le_refl _, fun _ _ _ _ => rfl⟩
/-- 'append' where its run is known by an equation, as one step of a region that draws. -/
theorem step_append_eq {P : Program} {ops : Array Oper} {o : Oper} {a : Act} {w : World} {K : Act → World → Prop} {Q : Exit → Act → World → Prop} {E : Prop}
    (hg : o.guard = none) (d x : Operand) (dT sT : TypeId) (hop : o.op = Op.call { callee := Callee.builtin Builtin.append, args := #[d, x], argTypes := #[dT, sT] })
    (v u : Value) (hd : a.eval d = v) (hx : a.eval x = u) {v' : Value} {w' : World} (hr : (Builtin.append_ #[dT, sT] o.type #[v, u]).run P w = .ok v' w') (hK : K (a.put o.dst v') w') :
    if Region.wanted o (yielded ops a.tmps) = true then Oper.wp P o a w K Q else E := by
  have hw : Region.wanted o (yielded ops a.tmps) = true := by simp [Region.wanted, hg]
  rw [if_pos hw]
  unfold Oper.wp
  simp [execOp, hop, resolve, invoke, builtin, hd, hx, hr, Result.andThen]
  exact hK
theorem row_ref4 {w : World} {B : Nat} {v : Value} {L : List Rf} (h : RowIs w B v L) : ∃ ao cap, v = .slice ao L.length cap ∧ RefRow w ao L ∧ L.length ≤ cap ∧ cap ≤ maxLen := by
  rcases h.2 with ⟨rfl, h0⟩ | ⟨g, cap, cur, rfl, hB, hg, h1, h2, h3, h4⟩
  · have : L = [] := List.eq_nil_of_length_eq_zero h0
    subst this
    exact ⟨none, 0, rfl, fun i x hx => by simp at hx, Nat.le_refl _, by unfold maxLen; omega⟩
  · refine ⟨_, cap, rfl, fun i x hx => ?_, h1, h2⟩
    have hil := (List.getElem?_eq_some_iff.1 hx).1
    obtain ⟨q1, q2⟩ := rf_at L i x hx
    rw [← h4, List.getElem?_take_of_lt (by omega), Array.getElem?_toList] at q1 q2
    refine ⟨g, 0, rfl, (Array.getElem?_eq_some_iff.1 hg).1, ?_, ?_⟩
    · simp [World.cell?, hg, q1]
    · simp [World.cell?, hg, q2]
end Go.Proofs.Ytkbakbacomidbaa.G6
