/- maps.Keys at a node's map, slices.AppendSeq, Collect: the map's bytes, each once, in some order. -/
import Derived.Test.YtfkhpcgccjlpgaaMem
import Derived.RangeFuncBox
import Derived.RangeFuncLeaves
import Derived.Shelf.Abstract
import Derived.OwnWalkIn
import Derived.TacticsInMore
import Derived.LoopNIn
import Derived.LoopIn
import Derived.Maps.AppendAt
import Derived.Sort.MapsRangeIn
namespace Go.Proofs.Ytfkhpcgccjlpgaa
open Go.RowKit Go.Shelf Go.Maps

attribute [local go_sem] Oper.semAt_some

abbrev eu (x : UInt8) : Value := .int .u8 (x.toNat : Int)
theorem eu_inj {x y : UInt8} (h : eu x = eu y) : x = y := by
  simp only [eu, Value.int.injEq, true_and] at h
  exact UInt8.toNat_inj.1 (by omega)
theorem key5_inv {key : Value} {l : Lit} (h : keyOf Try.prog 5 key = some l) : ∃ x, key = eu x ∧ l = kl x := by
  cases key <;> simp [keyOf, Try.underlying5, mapKey] at h
  rename_i q a
  obtain ⟨⟨rfl, hw⟩, rfl⟩ := h
  have hb : 0 ≤ a ∧ a ≤ 255 := by
    simp only [Lit.wf, Bool.and_eq_true, decide_eq_true_eq] at hw
    exact hw
  refine ⟨UInt8.ofNat a.toNat, ?_, ?_⟩
  · simp only [eu, UInt8.toNat_ofNat']; congr 1; omega
  · simp only [kl, UInt8.toNat_ofNat']; congr 1; omega

theorem same_kl (x y : UInt8) : (kl x).sameKey (kl y) = decide (x = y) := by
  by_cases h : x = y
  · subst h; simp [kl, Lit.sameKey]
  · have : (x.toNat : Int) ≠ (y.toNat : Int) := fun e => h (UInt8.toNat_inj.1 (by omega))
    simp [kl, Lit.sameKey, h]
    exact fun e => h (UInt8.toNat_inj.1 (by omega))

/-- What has come: each byte once, just those of the map that are no longer to come. -/
def Come (D : DataW Unit) (left : Lit → Bool) (ss : List UInt8) : Prop := ss.Nodup ∧ ∀ x, x ∈ ss ↔ Maps.has D (kl x) = true ∧ left (kl x) = false

set_option maxRecDepth 100000 in
set_option maxHeartbeats 1000000 in
theorem keys1_in (F : Fence) (n : Nat) (h28 : F.fn 28) (hro : F.round = none) (hn : 1 ≤ n) (l Bm b nn : Nat) (D : DataW Unit) (J Jx : List UInt8 → World → Prop)
    (hY : ∀ pre x W, J pre W → pre.length < Maps.size D → YieldAt F (n - 1) Try.prog l #[eu x] W fun e W' => (e = .returned (.bool true) ∧ J (pre ++ [x]) W' ∧ KeepsWalks W W') ∨ (e = .returned (.bool false) ∧ Jx (pre ++ [x]) W'))
    (W : World) (hJ : AbidesFrom W.heap.size J) (hm : W.cell? ⟨Bm, 0, none⟩ = some (.map (some b))) (hown : W.ownsMap Try.prog 5 pElem b nn D) (h0 : J [] W) :
    CallsIn F n Try.prog 28 #[.func (.yield l) #[] #[], .pointer (some ⟨Bm, 0, none⟩)] W fun e W' => (∃ v, e = .returned v) ∧ ((∃ ss, Come D (fun _ => false) ss ∧ J ss W') ∨ (∃ pre, True ∧ Jx pre W')) := by
  refine callsIn_of_wp Try.func28 rfl h28 ?_ hro
  simp only [Try.ntmps28, List.size_toArray, List.length_cons, List.length_nil, Nat.reduceAdd, Nat.reduceSub, Array.replicate_succ, Array.replicate_zero, List.push_toArray, List.append_toArray, List.nil_append, List.cons_append]
  gi_wp2_with (first
    | (gi_at_range; refine wpListIn_range_own _ rfl _ 40 rfl 5 46 law5 Try.underlying40 _ b nn _ rfl hown ?_; intro w0 hrg0 hg0 hs0)
    | gi_in)
  go_frame
  gi_loopw [3] (fun _ wr => ∃ (left : Lit → Bool) (cnt : Nat) (ss : List UInt8), wr.ranges Try.prog 5 pElem b W.heap.size nn D left cnt ∧ ss.length + cnt ≤ Maps.size D ∧ Come D left ss ∧ J ss wr) (fun _ wr => wr.rangeLeft b W.heap.size)
  case atStart =>
    exact ⟨_, _, [], hrg0, by simp, ⟨List.nodup_nil, fun x => by simp⟩, hJ [] W w0 none h0 hg0 (fun r e => by cases e)⟩
  case round =>
    obtain ⟨left, cnt, ss, hrg, hcs, hC, hJs⟩ := hrel
    gi_wp2_with (first
      | (gi_at_next; refine wpListIn_next_ranges _ rfl _ rfl 5 law5 pElem eu id (fun key k hk => by obtain ⟨x, hx, _⟩ := key5_inv hk; exact ⟨x, hx⟩) (fun v _ _ => ⟨v, rfl⟩) b W.heap.size nn _ _ _ rfl hrg ?_ ?_)
      | gi_in)
    · intro hc0 hl0
      gi_wp2
      go_end0
      exact ⟨⟨_, rfl⟩, .inl ⟨ss, ⟨hC.1, fun x => by rw [hC.2 x, hl0]⟩, hJs⟩⟩
    · intro x c k yd yp w2 cnt2 hkey hlk hv hat hrg2 hlt hg2 hs2 hen
      obtain ⟨x', ex, rfl⟩ := key5_inv hkey
      obtain rfl : x = x' := eu_inj ex
      have hJ2 : J ss w2 := hJ ss wr w2 (some W.heap.size) hJs hg2 (fun r e => by cases e; exact ⟨Nat.le_refl _, hrg.iter_walk⟩)
      obtain ⟨fn, tmps, assign, body, hy, hR⟩ := hY ss x w2 hJ2 (by omega)
      clear hs2
      gi_wp2
      refine hR.mono ?_
      rintro e W3 (⟨rfl, hJ3, hk3⟩ | ⟨rfl, hJx3⟩)
      · gi_wp2
        have hrg3 := hrg2.of_walks hk3
        go_roundw
        case rel =>
          refine ⟨_, cnt2, ss ++ [x], hrg3, by simp; omega, ⟨?_, fun y => ?_⟩, hJ3⟩
          · rw [List.nodup_append]
            refine ⟨hC.1, by simp, fun a ha b hb => ?_⟩
            simp at hb
            subst hb
            intro e
            subst e
            have := ((hC.2 a).1 ha).2
            rw [hlk] at this
            cases this
          · rw [List.mem_append, hC.2 y, List.mem_singleton]
            have hhas : Maps.has D (kl x) = true := Maps.has_true_of_atKey hat
            by_cases e : y = x
            · subst e
              simp [same_kl, hhas]
            · simp [same_kl, e]
        case measure => rw [hrg3.left_eq, hrg.left_eq]; exact hlt
      · gi_wp2
        refine bodyPost_ret (results_none rfl _ _ _) rfl ?_
        exact ⟨⟨_, rfl⟩, .inr ⟨_, trivial, hJx3⟩⟩

set_option maxRecDepth 100000 in
set_option maxHeartbeats 1000000 in
theorem keys1_nil (F : Fence) (n : Nat) (h28 : F.fn 28) (hro : F.round = none) (l Bm : Nat) (J : List UInt8 → World → Prop) (W : World) (hJ : AbidesFrom W.heap.size J) (hm : W.cell? ⟨Bm, 0, none⟩ = some (.map none)) (h0 : J [] W) :
    CallsIn F n Try.prog 28 #[.func (.yield l) #[] #[], .pointer (some ⟨Bm, 0, none⟩)] W fun e W' => (∃ v, e = .returned v) ∧ J [] W' := by
  refine callsIn_of_wp Try.func28 rfl h28 ?_ hro
  simp only [Try.ntmps28, List.size_toArray, List.length_cons, List.length_nil, Nat.reduceAdd, Nat.reduceSub, Array.replicate_succ, Array.replicate_zero, List.push_toArray, List.append_toArray, List.nil_append, List.cons_append]
  have hrg := run_range_nilMap (P := Try.prog) W 40 5 46 Try.underlying40
  have hnx : ∀ ty, (Instr.next (.pointer (some ⟨W.heap.size, 0, none⟩)) false ty).run Try.prog (W.alloc (.mapIter none 0 #[] 0)) = _ := fun ty => run_next_nilMap _ ty 0 0 #[]
  gi_wp2
  refine wpIn_loop_rounds 1 ?_
  rw [roundsIn_succ]
  gi_wp2
  go_end0
  exact ⟨⟨_, rfl⟩, hJ [] W _ none h0 (World.grownBy_alloc W _ none) (fun r e => by cases e)⟩

/-- A node's map, nil or not. -/
def MapAt (w : World) (mo : Option Nat) (k : Nat) (f : UInt8 → Option Nat) : Prop :=
  match mo with
  | none => ∀ x, f x = none
  | some m => MapIs w m k f

theorem map_size {w : World} {b k : Nat} {D : DataW Unit} (h : w.ownsMap Try.prog 5 pElem b k D) : Maps.size D ≤ k := by
  obtain ⟨es, clock, _, _, hs, rfl⟩ := h
  rw [Maps.size_eq, length_sorted]
  simpa using hs

/-- maps.Keys hands back what gives the map's bytes, each once. -/
theorem keys_stops (F : Fence) (n : Nat) (h28 : F.fn 28) (hro : F.round = none) (hn : 1 ≤ n) (Bm k : Nat) (mo : Option Nat) (f : UInt8 → Option Nat) (w : World) (hBm : Bm < w.heap.size) (hm : w.cell? ⟨Bm, 0, none⟩ = some (.map mo)) (hM : MapAt w mo k f) :
    SeqStopsK F n Try.prog 28 #[.pointer (some ⟨Bm, 0, none⟩)] (fun x : UInt8 => #[eu x]) KeepsWalks (fun ss => ss.Nodup ∧ ∀ x, x ∈ ss ↔ (f x).isSome = true) (fun _ => True) k w := fun l J Jx W hW hJ _ hY h0 => by
  have hm' := (hW.cell (p := ⟨Bm, 0, none⟩) hBm).trans hm
  cases mo with
  | none =>
    refine (keys1_nil F n h28 hro l Bm J W hJ hm' h0).mono ?_
    rintro e W' ⟨hv, hj⟩
    exact ⟨hv, .inl ⟨[], ⟨List.nodup_nil, fun x => by rw [show f x = none from hM x]; simp⟩, hj⟩⟩
  | some m =>
    obtain ⟨D, h1, h2⟩ := hM
    have h1' : W.ownsMap Try.prog 5 pElem m k D := by
      have hlt := h1.lt
      obtain ⟨es, clock, hb, rest⟩ := h1
      exact ⟨es, clock, (hW.block m hlt).trans hb, rest⟩
    have hsz := map_size h1
    refine (keys1_in F n h28 hro hn l Bm m k D J Jx (fun pre x W1 hj hl => hY pre x W1 hj (by omega)) W hJ hm' h1' h0).mono ?_
    rintro e W' ⟨hv, h⟩
    refine ⟨hv, h.imp ?_ (fun ⟨pre, _, hx⟩ => ⟨pre, trivial, hx⟩)⟩
    rintro ⟨ss, ⟨hnd, hmem⟩, hj⟩
    exact ⟨ss, ⟨hnd, fun x => by rw [hmem x, (h2 x).2]; simp⟩, hj⟩

set_option maxHeartbeats 400000 in
theorem mkeys_any (mo : Option Nat) (w : World) : Calls Try.prog 25 #[.map mo] w fun e w' => e = .returned (.func (.func 28) #[] #[.pointer (some ⟨w.heap.size, 0, none⟩)]) ∧ w' = w.alloc (.cells #[.map mo] 40) := by
  go_enter Try.func25, Try.ntmps25
  go_wp2_with fail
  go_ret
  exact ⟨rfl, rfl⟩

theorem info5 : (Try.prog.info? 5).map (fun i => (i.zero, i.size, i.bytes)) = some (some (.int .u8 0), 1, 1) := by kernel_rfl

set_option maxRecDepth 100000 in
set_option maxHeartbeats 2000000 in
theorem apseq_in (F : Fence) (n : Nat) (h29 : F.fn 29) (h28 : F.fn 28) (hro : F.round = none) (hn : 3 ≤ n) (Bm k : Nat) (mo : Option Nat) (f : UInt8 → Option Nat) (w : World) (hk : k ≤ 100000) (hBm : Bm < w.heap.size) (hm : w.cell? ⟨Bm, 0, none⟩ = some (.map mo)) (hM : MapAt w mo k f) :
    CallsIn F n Try.prog 29 #[.slice none 0 0, .func (.func 28) #[] #[.pointer (some ⟨Bm, 0, none⟩)]] w fun e W' => ∃ (v : Value) (ss : List UInt8), e = .returned v ∧ (ss.Nodup ∧ ∀ x, x ∈ ss ↔ (f x).isSome = true) ∧ W'.ownsRow w.heap.size 5 1 v ss.length (ss.map eu) ∧ Below w.heap.size w W' := by
  have h1 : 1 ≤ n := by omega
  obtain ⟨i0, hi, hz0, hz1, hz2⟩ := info_parts info5
  refine callsIn_of_wp_marks Try.func29 rfl h29 ?_ hro
  simp only [Try.ntmps29, List.size_toArray, List.length_cons, List.length_nil, Nat.reduceAdd, Nat.reduceSub, Array.replicate_succ, Array.replicate_zero, List.push_toArray, List.append_toArray, List.nil_append, List.cons_append]
  gi_wp2
  have bO := Boxed.new w 38 (.slice none 0 0)
  have hB0 : Below w.heap.size w (w.alloc (.cells #[.slice none 0 0] 38)) := (Below.refl _ w).alloc (Nat.le_refl _) _
  have hst := keys_stops F (n - 1) h28 hro (by omega) Bm k mo f w hBm hm hM
  refine wpIn_rangeFunc_ownG hro h1 (gf := 28) (lb := #[.pointer (some ⟨Bm, 0, none⟩)]) rfl h28 (enters_of Try.func28 (by kernel_rfl) rfl)
    hst walksK_t walksK_b hB0 (fun _ => rfl)
    (fun pre W => (∃ v, Boxed W w.heap.size 38 v ∧ W.ownsRow w.heap.size 5 1 v pre.length (pre.map eu) ∧ True) ∧ Below w.heap.size w W)
    (fun _ _ _ => False)
    (OwnFrom.and (Own.from (holdsRow_own w.heap.size w.heap.size 38 5 1 (fun pre : List UInt8 => pre.length) (fun pre => pre.map eu) (fun _ _ => True)) _) (ownFrom_below (Nat.le_refl _) (by simp)))
    (fun _ _ _ _ _ hs _ _ => hs)
    ⟨⟨_, bO, World.ownsRow_nil _ _ _ _, trivial⟩, hB0⟩
    (fun x => { tmps := #[.slice none 0 0, .func (.func 28) #[] #[.pointer (some ⟨Bm, 0, none⟩)], .pointer (some ⟨w.heap.size, 0, none⟩), undef, .slice none 0 0, eu x, .func (.func 28) #[] #[.pointer (some ⟨Bm, 0, none⟩)], eu x, undef, undef, undef, undef, undef], defers := [] }) ?assign ?body ?done ?stop
  case assign =>
    intro l x W K hK
    gi_wp2
    exact hK
  case body =>
    rintro l pre x W ⟨⟨v, hv, hrow, _⟩, hB⟩ hlt
    have hc := hv.cell
    gi_wp2_with (gi_at_builtin; refine wpListIn_append_own _ rfl _ _ 38 rfl w.heap.size 5 i0 (.int .u8 0) 1 1 Try.underlying38 hi hz0 hz1 hz2 rfl (by decide) _ _ _ rfl (hrow.alloc _) ⟨W.heap.size, 0, none⟩ 1 1 [eu x] rfl rfl (cell_one_new _ _ _) (by simp [Value.oneCell', eu]) (by unfold maxLen; omega) (by omega) (by have := hB.size; simp; omega) ?_; intro v' w1 hown' hgrow _; obtain ⟨g', cap', rfl⟩ := ownsRow_succ hown'; obtain ⟨hv1, hv2, hr2, hk2, hb2⟩ := hv.appended (by decide) hrow hB.size (Nat.le_refl _) hown' hgrow; have hc1 := hv1.cell; have hf1 := hv1.frozen)
    exact ⟨hk2.from _, hk2.walks, ⟨_, hv2, by simpa using hr2, trivial⟩, hB.trans hb2⟩
  case done =>
    rintro D ys W hD hS ⟨⟨v, hv, hrow, _⟩, hB⟩ hK
    have hc := hv.cell
    gi_wp2
    refine ⟨by simp, .inl ⟨_, _, rfl, run_takeDeferred hK, ?_⟩⟩
    exact ⟨_, results_tmp rfl _ _ _, v, ys, rfl, hS, ownsRow_putObj hrow _ hK rfl, hB.trans (belowK_b (w := w) (Nat.le_refl _) W D _ _ (by simp at hD; omega) hK rfl rfl)⟩
  case stop =>
    rintro D c pre W _ _ h _
    exact h.elim
end Go.Proofs.Ytfkhpcgccjlpgaa
