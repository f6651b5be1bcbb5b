/- cmp.Compare of strings, cmp.Or of two numbers, the order that Sorted asks for; Sorted. -/
import Derived.Test.YtibndgembpcdgaaMp
import Derived.Test.YtibndgembpcdgaaShelf
import Derived.Laws.Cover1
import Derived.Deep.RegionHeld3
namespace Go.Proofs.Ytibndgembpcdgaa
open Go.RowKit Go.Sort Go.Lib

def cmpP (a b : Path) : Int := if ltP a b = true then -1 else if ltP b a = true then 1 else 0
def cmpA (x y : At) : Int := if cmpP x.nm y.nm = 0 then cmpP x.vl y.vl else cmpP x.nm y.nm

set_option maxHeartbeats 400000 in
theorem nan_any (s : ByteArray) (w : World) : Calls Try.prog 40 #[.string s] w fun e w' => e = .returned (.bool false) ∧ w' = w := by
  have hb : (s.toList == s.toList) = true := by simp
  go_enter Try.func40, Try.ntmps40
  go_wp2_with fail
  go_ret
  exact ⟨by simp, rfl⟩

theorem eq_not_lt {a b : Path} : (ltP a b || (a == b)) = !ltP b a := by
  by_cases e : a = b
  · subst e; simp [ltP_irrefl]
  · rcases ltP_total e with g | g
    · rw [g, ltP_asymm g]; rfl
    · rw [g, ltP_asymm g]
      simp [e]

set_option maxHeartbeats 1000000 in
theorem compare_any (a b : ByteArray) (w : World) : Calls Try.prog 33 #[.string a, .string b] w fun e w' => e = .returned (.int .i64 (cmpP a.data.toList b.data.toList)) ∧ w' = w := by
  have h2 : (Op.bytesLess a.toList b.toList || (a.toList == b.toList)) = !ltP b.data.toList a.data.toList := by rw [less_eq, eq_not_lt, ByteArray.toList_eq, ByteArray.toList_eq]
  have h3 : Op.bytesLess a.toList b.toList = ltP a.data.toList b.data.toList := by rw [less_eq, ByteArray.toList_eq, ByteArray.toList_eq]
  unfold cmpP
  cases g1 : ltP a.data.toList b.data.toList with
  | true =>
    rw [g1] at h3
    clear h2
    rw [if_pos rfl]
    go_enter Try.func33, Try.ntmps33
    go_wp2_with (go_at_call 40; refine (nan_any _ _).mono ?_; rintro e w' ⟨rfl, rfl⟩)
    go_ret
    exact ⟨rfl, rfl⟩
  | false =>
    rw [g1] at h3
    rw [if_neg (by decide)]
    cases g2 : ltP b.data.toList a.data.toList with
    | true =>
      have h4 : (a.toList == b.toList) = false := by
        rw [h3, g2] at h2
        simpa using h2
      rw [if_pos rfl]
      clear h2
      go_enter Try.func33, Try.ntmps33
      go_wp2_with (go_at_call 40; refine (nan_any _ _).mono ?_; rintro e w' ⟨rfl, rfl⟩)
      go_ret
      exact ⟨rfl, rfl⟩
    | false =>
      have h4 : (a.toList == b.toList) = true := by
        rw [h3, g2] at h2
        simpa using h2
      rw [if_neg (by decide)]
      clear h2
      go_enter Try.func33, Try.ntmps33
      go_wp2_with (go_at_call 40; refine (nan_any _ _).mono ?_; rintro e w' ⟨rfl, rfl⟩)
      go_ret
      exact ⟨rfl, rfl⟩

set_option maxHeartbeats 1000000 in
theorem or_any {w : World} {b : Nat} (x y : Int) (h0 : w.cell? ⟨b, 0, none⟩ = some (.int .i64 x)) (h1 : w.cell? ⟨b, 1, none⟩ = some (.int .i64 y)) :
    Calls Try.prog 32 #[.slice (some ⟨b, 0, none⟩) 2 2] w fun e w' => e = .returned (.int .i64 (if x = 0 then y else x)) ∧ w' = w := by
  by_cases hx : x = 0
  · subst hx
    rw [if_pos rfl]
    by_cases hy : y = 0
    · subst hy
      go_enter Try.func32, Try.ntmps32
      go_wp2_with fail
      refine wp_loop_rounds 3 ?_
      rw [rounds_succ]
      go_wp2_with fail
      rw [rounds_succ]
      go_wp2_with fail
      rw [rounds_succ]
      go_wp2_with fail
      go_ret
      exact ⟨rfl, rfl⟩
    · have hyb : (y == 0) = false := by simpa using hy
      go_enter Try.func32, Try.ntmps32
      go_wp2_with fail
      refine wp_loop_rounds 2 ?_
      rw [rounds_succ]
      go_wp2_with fail
      rw [rounds_succ]
      go_wp2_with fail
      go_ret
      exact ⟨rfl, rfl⟩
  · rw [if_neg hx]
    have hxb : (x == 0) = false := by simpa using hx
    go_enter Try.func32, Try.ntmps32
    go_wp2_with fail
    refine wp_loop_rounds 1 ?_
    rw [rounds_succ]
    go_wp2_with fail
    go_ret
    exact ⟨rfl, rfl⟩

def orI (x y : Int) : Int := if x = 0 then y else x
theorem or_new (X : World) (x y : Int) :
    Calls Try.prog 32 #[.slice (some ⟨X.heap.size, 0, none⟩) 2 2] (X.alloc (.cells #[.int .i64 x, .int .i64 y] 3)).drew fun e w' => e = .returned (.int .i64 (orI x y)) ∧ w' = (X.alloc (.cells #[.int .i64 x, .int .i64 y] 3)).drew := by
  have h := heap_alloc_new X (.cells #[.int .i64 x, .int .i64 y] 3)
  generalize X.alloc (.cells #[.int .i64 x, .int .i64 y] 3) = Y at h ⊢
  have h0 : Y.cell? ⟨X.heap.size, 0, none⟩ = some (.int .i64 x) := by simp [World.cell?, h]
  have h1 : Y.cell? ⟨X.heap.size, 1, none⟩ = some (.int .i64 y) := by simp [World.cell?, h]
  exact or_any (w := Y.drew) x y h0 h1

set_option maxHeartbeats 4000000 in
theorem sort1_any (xn xv yn yv : ByteArray) (W : World) : Calls Try.prog 31 #[.agg #[.string xn, .string xv], .agg #[.string yn, .string yv]] W fun e w' => e = .returned (.int .i64 (cmpA ⟨xn, xv⟩ ⟨yn, yv⟩)) ∧ ∃ q os', w' = grow (W.drewN q) os' := by
  obtain ⟨V, hV⟩ : ∃ V, (W.alloc (.cells #[.string xn, .string xv] 24)).alloc (.cells #[.string yn, .string yv] 24) = V := ⟨_, rfl⟩
  have hV2 : V.heap[W.heap.size + 1]? = some (.cells #[.string yn, .string yv] 24 (0, 0)) := by rw [← hV]; exact heap_alloc2_new _ _ _
  have hV1 : V.heap[W.heap.size]? = some (.cells #[.string xn, .string xv] 24 (0, 0)) := by
    rw [← hV]
    exact (Below.heap_alloc _ _ _ (by simp)).trans (heap_alloc_new _ _)
  have c0 : V.cell? ⟨W.heap.size, 0, none⟩ = some (.string xn) := by simp [World.cell?, hV1]
  have c1 : V.cell? ⟨W.heap.size, 1, none⟩ = some (.string xv) := by simp [World.cell?, hV1]
  have c2 : V.cell? ⟨W.heap.size + 1, 0, none⟩ = some (.string yn) := by simp [World.cell?, hV2]
  have c3 : V.cell? ⟨W.heap.size + 1, 1, none⟩ = some (.string yv) := by simp [World.cell?, hV2]
  have HV : Hid (∃ os', V = grow W os') := by
    rw [← hV]
    exact ⟨_, by rw [alloc_eq_grow, alloc_eq_grow, grow_grow]⟩
  have l1 : W.heap.size < V.heap.size := (Array.getElem?_eq_some_iff.1 hV1).1
  have l2 : W.heap.size + 1 < V.heap.size := (Array.getElem?_eq_some_iff.1 hV2).1
  clear hV1 hV2
  go_enter Try.func31, Try.ntmps31
  go_wp2_with fail
  clear hV
  go_region_held3 (fun w' => w'.cell? ⟨W.heap.size, 0, none⟩ = some (.string xn) ∧ w'.cell? ⟨W.heap.size, 1, none⟩ = some (.string xv) ∧ w'.cell? ⟨W.heap.size + 1, 0, none⟩ = some (.string yn) ∧ w'.cell? ⟨W.heap.size + 1, 1, none⟩ = some (.string yv)) (go_keep)
    (first
      | (go_at_call 33; refine (compare_any _ _ _).mono ?_; rintro e w' ⟨rfl, rfl⟩)
      | (go_at_call 32; refine (or_new _ _ _).mono ?_; rintro e w' ⟨rfl, rfl⟩))
  all_goals go_wp2_with fail
  go_ret
  obtain ⟨os', hos⟩ := HV.out
  refine ⟨rfl, 1, os' ++ #[.cells #[.int .i64 (cmpP xn.data.toList yn.data.toList), .int .i64 (cmpP xv.data.toList yv.data.toList)] 3], ?_⟩
  rw [hos, alloc_eq_grow, grow_grow, drew_grow]
  rfl

theorem cmpP_neg {a b : Path} : decide (cmpP a b < 0) = ltP a b := by
  unfold cmpP
  cases ltP a b <;> cases ltP b a <;> decide
theorem cmpP_zero {a b : Path} : cmpP a b = 0 ↔ a = b := by
  unfold cmpP
  constructor
  · intro h
    by_cases e : a = b
    · exact e
    · rcases ltP_total e with g | g
      · rw [g, if_pos rfl] at h; cases h
      · rw [ltP_asymm g, g, if_neg (by decide), if_pos rfl] at h; cases h
  · rintro rfl
    rw [ltP_irrefl, if_neg (by decide), if_neg (by decide)]
theorem lt_cmpA (x y : At) : ltOf cmpA x y = ltA x y := by
  unfold ltOf cmpA ltA
  by_cases e : x.nm = y.nm
  · rw [if_pos (cmpP_zero.2 e), cmpP_neg]
    simp [e, ltP_irrefl]
  · rw [if_neg (fun h => e (cmpP_zero.1 h)), cmpP_neg]
    simp [e]
theorem swoA : SWO (ltOf cmpA) where
  irrefl x := by rw [lt_cmpA]; exact ltA_irrefl x
  trans x y z h1 h2 := by rw [lt_cmpA] at *; exact ltA_trans h1 h2
  ntrans x y z h1 h2 := by rw [lt_cmpA] at *; exact ltA_ntrans h1 h2

theorem cmpLays [Inhabited At] (blk off size : Nat) (w : World) : CmpLays Try.prog 31 #[] At.cells 2 cmpA blk off size w :=
  fun _ _ _ _ x y => sort1_any x.n x.v y.n y.v _

theorem enters31 : ∀ args w, (callFunc 31 args).run Try.prog w = .ok (.enter 31 args) w := enters_of Try.func31 (by kernel_rfl) rfl

theorem sorted_frame {w : World} {g n : Nat} {os : Array Obj} [Inhabited At] (d : Array At) : w.grownBy (sortWorldK At.cells 2 w g 0 n d os) (some g) := by
  unfold sortWorldK
  refine ⟨rfl, rfl, rfl, by simp [putRowK], fun k hk hne => ?_⟩
  rw [heap_grow_old _ _ (by simpa [putRowK] using hk)]
  have : g ≠ k := fun e => hne (by rw [e])
  simp [putRowK, putRow, mapBlock, Sort.ahead, Array.getElem?_modify, this]

theorem row_holds [Inhabited At] {w : World} {g : Nat} {L : List At} {cur : Array Value} (hg : w.heap[g]? = some (.cells cur 24 (0, 0))) (h4 : cur.toList.take (L.length * 2) = L.flatMap At.cells) : HoldsK At.cells 2 w g 0 L.toArray := by
  intro j hj
  rw [size_flatK] at hj
  rw [get_flatK _ _ _ _ hj]
  have hj2 : j < L.length * 2 := by simpa using hj
  have hi : j / 2 < L.length := by omega
  obtain ⟨q1, q2⟩ := at_at L (j / 2) L[j / 2] (List.getElem?_eq_getElem hi)
  rw [← h4, List.getElem?_take_of_lt (by omega), Array.getElem?_toList] at q1 q2
  have hget : L.toArray[j / 2]! = L[j / 2] := by simp [hi]
  rw [hget]
  refine ⟨?_, by simp [World.frozen?, hg]⟩
  rw [Nat.zero_add]
  rcases Nat.mod_two_eq_zero_or_one j with h | h
  · have e : j = j / 2 * 2 := by omega
    rw [h]
    rw [← e] at q1
    simp [World.cell?, hg, q1, At.cells]
  · have e : j = j / 2 * 2 + 1 := by omega
    rw [h]
    rw [← e] at q2
    simp [World.cell?, hg, q2, At.cells]

theorem holds_row [Inhabited At] {w : World} {g : Nat} {L : List At} (hgl : g < w.heap.size) (h : HoldsK At.cells 2 w g 0 L.toArray) : AtRow w (some ⟨g, 0, none⟩) L := fun i x hx => by
  obtain ⟨hi, rfl⟩ := List.getElem?_eq_some_iff.1 hx
  have h1 := (h.cell (i := i) (c := 0) (by simpa using hi) (by omega)).1
  have h2 := (h.cell (i := i) (c := 1) (by simpa using hi) (by omega)).1
  have hget : L.toArray[i]! = L[i] := by simp [hi]
  rw [hget] at h1 h2
  exact ⟨g, 0, rfl, hgl, by simpa [At.cells] using h1, by simpa [At.cells] using h2⟩

theorem merge_sort (L : List At) : (L.mergeSort fun x y => !(ltOf cmpA) y x) = sortP L := by
  refine sort_unique (List.mergeSort_perm _ _) ?_
  have h := List.pairwise_mergeSort (le := fun x y => !(ltOf cmpA) y x) (fun a b c h1 h2 => by
    rw [lt_cmpA] at *
    simp only [Bool.not_eq_true'] at *
    exact ltA_ntrans h2 h1) (fun a b => by
    rw [lt_cmpA, lt_cmpA]
    cases h : ltA b a with
    | false => rfl
    | true => rw [ltA_asymm h]; rfl) L
  exact h.imp fun hab => by rw [lt_cmpA] at hab; simpa using hab

set_option maxHeartbeats 2000000 in
theorem sorted_any {w : World} {ao : Option Addr} {L : List At} (n cap : Nat) (ha : AtRow w ao L) (hn : L.length = n) (hn2 : n ≤ 900) :
    Calls Try.prog 19 #[.slice ao n cap] w fun e w' => ∃ bo c, e = .returned (.slice bo n c) ∧ AtRow w' bo (sortP L) ∧ Below w.heap.size w w' := by
  haveI : Inhabited At := ⟨⟨⟨#[]⟩, ⟨#[]⟩⟩⟩
  obtain ⟨V, hV⟩ : ∃ V, w.alloc (.cells #[.slice ao n cap] 22) = V := ⟨_, rfl⟩
  obtain ⟨hVl, d0, bV⟩ := one_slot _ hV
  have hc := concat_one n cap hVl d0 (ha.below bV) hn hn2
  have HA : Hid (Below w.heap.size w V) := bV
  clear ha bV d0 hVl
  go_enter Try.func19, Try.ntmps19
  go_wp2_with fail
  refine hc.mono ?_
  rintro e w1 ⟨v, rfl, r1, b1⟩
  clear hc hV
  have hb1 : Below w.heap.size w w1 := HA.out.trans (b1.mono HA.out.size)
  have hVw := HA.out.size
  rcases r1.2 with ⟨rfl, h0⟩ | ⟨g, c, cur, rfl, hB, hg, h1, h2, h3, h4⟩
  · have hL : L = [] := List.eq_nil_of_length_eq_zero h0
    subst hL
    obtain rfl : n = 0 := hn.symm
    have hs := AnyF.slices_SortFunc_none sortLays none 0 (.func (.func 31) #[] #[]) w1
    change Calls Try.prog 30 _ _ _ at hs
    have HF : Hid (Below w.heap.size w w1) := hb1
    clear r1 b1 hb1 hn h0
    go_wp2_with (go_at_call 30; refine hs.mono ?_; rintro e w2 ⟨rfl, rfl⟩)
    go_ret
    exact ⟨none, 0, rfl, AtRow.nil _ _, HF.out⟩
  · have hgl : g < w1.heap.size := (Array.getElem?_eq_some_iff.1 hg).1
    have hH : HoldsK At.cells 2 w1 g 0 L.toArray := row_holds hg h4
    have hs := AnyQ.slices_SortFunc_total sortLays 2 Try.isAgg24 Try.sizeOf24 At.cells (fun _ => rfl) (fun x v hv => by simp [At.cells] at hv; rcases hv with rfl | rfl <;> rfl) cmpA swoA 31 #[] g 0 c L.toArray w1 enters31 (cmpLays g 0 _ w1) hH hgl (by simp; omega) (fun x y e1 e2 => by rw [lt_cmpA] at e1 e2; exact ltA_anti e1 e2)
    rw [List.toList_toArray, merge_sort, List.size_toArray, hn] at hs
    change Calls Try.prog 30 _ _ _ at hs
    rw [hn]
    have HF : Hid (Below w.heap.size w w1 ∧ HoldsK At.cells 2 w1 g 0 L.toArray ∧ g < w1.heap.size ∧ w.heap.size ≤ g) := ⟨hb1, hH, hgl, by omega⟩
    clear r1 b1 hb1 hg h3 h4 hH hgl hB
    go_wp2_with (go_at_call 30; refine hs.mono ?_; rintro e w2 ⟨rfl, nd, os, hw2⟩)
    go_ret
    refine ⟨some ⟨g, 0, none⟩, c, rfl, ?_, ?_⟩
    · exact holds_row (Nat.lt_of_lt_of_le HF.out.2.2.1 (size_sortWorldK_c _ _ _ _ _ _ _ _)) (holdsK_sortWorldK_c At.cells 2 w1 g 0 L.toArray _ _ _ HF.out.2.1 HF.out.2.2.1 (by simp [sort_len]))
    · exact HF.out.1.grown (sorted_frame _) HF.out.1.size (fun j hj => by cases hj; exact HF.out.2.2.2)
end Go.Proofs.Ytibndgembpcdgaa
