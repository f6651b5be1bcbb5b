/- cmp.Compare of strings, cmp.Or of two numbers, the order of attributes; slices.SortFunc of attributes. -/
import Derived.Test.YtdpibnmbgjhohaaDa
import Derived.Test.YtdpibnmbgjhohaaAk
import Derived.Laws.Cover1
import Derived.Deep.RegionHeld3
namespace Go.Proofs.Ytdpibnmbgjhohaa
open Go.RowKit Go.Sort Go.Lib

def cmpP (a b : Path) : Int := if ltP a b = true then -1 else if ltP b a = true then 1 else 0
def cmpA (x y : At) : Int := if cmpP x.nm y.nm = 0 then cmpP x.vl y.vl else cmpP x.nm y.nm

set_option maxHeartbeats 400000 in
theorem nan_any (s : ByteArray) (w : World) : Calls Try.prog 73 #[.string s] w fun e w' => e = .returned (.bool false) ∧ w' = w := by
  have hb : (s.toList == s.toList) = true := by simp
  go_enter Try.func73, Try.ntmps73
  go_wp2_with fail
  go_ret
  exact ⟨by simp, rfl⟩

theorem eq_not_lt {a b : Path} : (ltP a b || (a == b)) = !ltP b a := by
  by_cases e : a = b
  · subst e; simp [ltP_irrefl]
  · rcases ltP_total e with g | g
    · rw [g, ltP_asymm g]; rfl
    · rw [g, ltP_asymm g]
      simp [e]

set_option maxHeartbeats 1000000 in
theorem compare_any (a b : ByteArray) (w : World) : Calls Try.prog 56 #[.string a, .string b] w fun e w' => e = .returned (.int .i64 (cmpP a.data.toList b.data.toList)) ∧ w' = w := by
  have h2 : (Op.bytesLess a.toList b.toList || (a.toList == b.toList)) = !ltP b.data.toList a.data.toList := by rw [less_eq, eq_not_lt, ByteArray.toList_eq, ByteArray.toList_eq]
  have h3 : Op.bytesLess a.toList b.toList = ltP a.data.toList b.data.toList := by rw [less_eq, ByteArray.toList_eq, ByteArray.toList_eq]
  unfold cmpP
  cases g1 : ltP a.data.toList b.data.toList with
  | true =>
    rw [g1] at h3
    clear h2
    rw [if_pos rfl]
    go_enter Try.func56, Try.ntmps56
    go_wp2_with (go_at_call 73; refine (nan_any _ _).mono ?_; rintro e w' ⟨rfl, rfl⟩)
    go_ret
    exact ⟨rfl, rfl⟩
  | false =>
    rw [g1] at h3
    rw [if_neg (by decide)]
    cases g2 : ltP b.data.toList a.data.toList with
    | true =>
      have h4 : (a.toList == b.toList) = false := by
        rw [h3, g2] at h2
        simpa using h2
      rw [if_pos rfl]
      clear h2
      go_enter Try.func56, Try.ntmps56
      go_wp2_with (go_at_call 73; refine (nan_any _ _).mono ?_; rintro e w' ⟨rfl, rfl⟩)
      go_ret
      exact ⟨rfl, rfl⟩
    | false =>
      have h4 : (a.toList == b.toList) = true := by
        rw [h3, g2] at h2
        simpa using h2
      rw [if_neg (by decide)]
      clear h2
      go_enter Try.func56, Try.ntmps56
      go_wp2_with (go_at_call 73; refine (nan_any _ _).mono ?_; rintro e w' ⟨rfl, rfl⟩)
      go_ret
      exact ⟨rfl, rfl⟩

set_option maxHeartbeats 1000000 in
theorem or_any {w : World} {b : Nat} (x y : Int) (h0 : w.cell? ⟨b, 0, none⟩ = some (.int .i64 x)) (h1 : w.cell? ⟨b, 1, none⟩ = some (.int .i64 y)) :
    Calls Try.prog 55 #[.slice (some ⟨b, 0, none⟩) 2 2] w fun e w' => e = .returned (.int .i64 (if x = 0 then y else x)) ∧ w' = w := by
  by_cases hx : x = 0
  · subst hx
    rw [if_pos rfl]
    by_cases hy : y = 0
    · subst hy
      go_enter Try.func55, Try.ntmps55
      go_wp2_with fail
      refine wp_loop_rounds 3 ?_
      rw [rounds_succ]
      go_wp2_with fail
      rw [rounds_succ]
      go_wp2_with fail
      rw [rounds_succ]
      go_wp2_with fail
      go_ret
      exact ⟨rfl, rfl⟩
    · have hyb : (y == 0) = false := by simpa using hy
      go_enter Try.func55, Try.ntmps55
      go_wp2_with fail
      refine wp_loop_rounds 2 ?_
      rw [rounds_succ]
      go_wp2_with fail
      rw [rounds_succ]
      go_wp2_with fail
      go_ret
      exact ⟨rfl, rfl⟩
  · rw [if_neg hx]
    have hxb : (x == 0) = false := by simpa using hx
    go_enter Try.func55, Try.ntmps55
    go_wp2_with fail
    refine wp_loop_rounds 1 ?_
    rw [rounds_succ]
    go_wp2_with fail
    go_ret
    exact ⟨rfl, rfl⟩

def orI (x y : Int) : Int := if x = 0 then y else x
theorem or_new (X : World) (x y : Int) :
    Calls Try.prog 55 #[.slice (some ⟨X.heap.size, 0, none⟩) 2 2] (X.alloc (.cells #[.int .i64 x, .int .i64 y] 3)).drew fun e w' => e = .returned (.int .i64 (orI x y)) ∧ w' = (X.alloc (.cells #[.int .i64 x, .int .i64 y] 3)).drew := by
  have h := heap_alloc_new X (.cells #[.int .i64 x, .int .i64 y] 3)
  generalize X.alloc (.cells #[.int .i64 x, .int .i64 y] 3) = Y at h ⊢
  have h0 : Y.cell? ⟨X.heap.size, 0, none⟩ = some (.int .i64 x) := by simp [World.cell?, h]
  have h1 : Y.cell? ⟨X.heap.size, 1, none⟩ = some (.int .i64 y) := by simp [World.cell?, h]
  exact or_any (w := Y.drew) x y h0 h1

set_option maxHeartbeats 4000000 in
theorem sort1_any (xn xv yn yv : ByteArray) (W : World) : Calls Try.prog 40 #[.agg #[.string xn, .string xv], .agg #[.string yn, .string yv]] W fun e w' => e = .returned (.int .i64 (cmpA ⟨xn, xv⟩ ⟨yn, yv⟩)) ∧ ∃ q os', w' = grow (W.drewN q) os' := by
  obtain ⟨V, hV⟩ : ∃ V, (W.alloc (.cells #[.string xn, .string xv] 53)).alloc (.cells #[.string yn, .string yv] 53) = V := ⟨_, rfl⟩
  have hV2 : V.heap[W.heap.size + 1]? = some (.cells #[.string yn, .string yv] 53 (0, 0)) := by rw [← hV]; exact heap_alloc2_new _ _ _
  have hV1 : V.heap[W.heap.size]? = some (.cells #[.string xn, .string xv] 53 (0, 0)) := by
    rw [← hV]
    exact (Below.heap_alloc _ _ _ (by simp)).trans (heap_alloc_new _ _)
  have c0 : V.cell? ⟨W.heap.size, 0, none⟩ = some (.string xn) := by simp [World.cell?, hV1]
  have c1 : V.cell? ⟨W.heap.size, 1, none⟩ = some (.string xv) := by simp [World.cell?, hV1]
  have c2 : V.cell? ⟨W.heap.size + 1, 0, none⟩ = some (.string yn) := by simp [World.cell?, hV2]
  have c3 : V.cell? ⟨W.heap.size + 1, 1, none⟩ = some (.string yv) := by simp [World.cell?, hV2]
  have HV : Hid (∃ os', V = grow W os') := by
    rw [← hV]
    exact ⟨_, by rw [alloc_eq_grow, alloc_eq_grow, grow_grow]⟩
  have l1 : W.heap.size < V.heap.size := (Array.getElem?_eq_some_iff.1 hV1).1
  have l2 : W.heap.size + 1 < V.heap.size := (Array.getElem?_eq_some_iff.1 hV2).1
  clear hV1 hV2
  go_enter Try.func40, Try.ntmps40
  go_wp2_with fail
  clear hV
  go_region_held3 (fun w' => w'.cell? ⟨W.heap.size, 0, none⟩ = some (.string xn) ∧ w'.cell? ⟨W.heap.size, 1, none⟩ = some (.string xv) ∧ w'.cell? ⟨W.heap.size + 1, 0, none⟩ = some (.string yn) ∧ w'.cell? ⟨W.heap.size + 1, 1, none⟩ = some (.string yv)) (go_keep)
    (first
      | (go_at_call 56; refine (compare_any _ _ _).mono ?_; rintro e w' ⟨rfl, rfl⟩)
      | (go_at_call 55; refine (or_new _ _ _).mono ?_; rintro e w' ⟨rfl, rfl⟩))
  all_goals go_wp2_with fail
  go_ret
  obtain ⟨os', hos⟩ := HV.out
  refine ⟨rfl, 1, os' ++ #[.cells #[.int .i64 (cmpP xn.data.toList yn.data.toList), .int .i64 (cmpP xv.data.toList yv.data.toList)] 3], ?_⟩
  rw [hos, alloc_eq_grow, grow_grow, drew_grow]
  rfl

theorem cmpP_neg {a b : Path} : decide (cmpP a b < 0) = ltP a b := by
  unfold cmpP
  cases ltP a b <;> cases ltP b a <;> decide
theorem cmpP_zero {a b : Path} : cmpP a b = 0 ↔ a = b := by
  unfold cmpP
  constructor
  · intro h
    by_cases e : a = b
    · exact e
    · rcases ltP_total e with g | g
      · rw [g, if_pos rfl] at h; cases h
      · rw [ltP_asymm g, g, if_neg (by decide), if_pos rfl] at h; cases h
  · rintro rfl
    rw [ltP_irrefl, if_neg (by decide), if_neg (by decide)]
theorem lt_cmpA (x y : At) : ltOf cmpA x y = ltA x y := by
  unfold ltOf cmpA ltA
  by_cases e : x.nm = y.nm
  · rw [if_pos (cmpP_zero.2 e), cmpP_neg]
    simp [e, ltP_irrefl]
  · rw [if_neg (fun h => e (cmpP_zero.1 h)), cmpP_neg]
    simp [e]
theorem swoA : SWO (ltOf cmpA) where
  irrefl x := by rw [lt_cmpA]; exact ltA_irrefl x
  trans x y z h1 h2 := by rw [lt_cmpA] at *; exact ltA_trans h1 h2
  ntrans x y z h1 h2 := by rw [lt_cmpA] at *; exact ltA_ntrans h1 h2

theorem cmpLays [Inhabited At] (blk off size : Nat) (w : World) : CmpLays Try.prog 40 #[] At.cells 2 cmpA blk off size w :=
  fun _ _ _ _ x y => sort1_any x.n x.v y.n y.v _

theorem enters40 : ∀ args w, (callFunc 40 args).run Try.prog w = .ok (.enter 40 args) w := enters_of Try.func40 (by kernel_rfl) rfl

theorem sorted_frame {w : World} {g n : Nat} {os : Array Obj} [Inhabited At] (d : Array At) : w.grownBy (sortWorldK At.cells 2 w g 0 n d os) (some g) := by
  unfold sortWorldK
  refine ⟨rfl, rfl, rfl, by simp [putRowK], fun k hk hne => ?_⟩
  rw [heap_grow_old _ _ (by simpa [putRowK] using hk)]
  have : g ≠ k := fun e => hne (by rw [e])
  simp [putRowK, putRow, mapBlock, Sort.ahead, Array.getElem?_modify, this]

theorem row_holds [Inhabited At] {w : World} {g : Nat} {L : List At} {cur : Array Value} (hg : w.heap[g]? = some (.cells cur 53 (0, 0))) (h4 : cur.toList.take (L.length * 2) = L.flatMap At.cells) : HoldsK At.cells 2 w g 0 L.toArray := by
  intro j hj
  rw [size_flatK] at hj
  rw [get_flatK _ _ _ _ hj]
  have hj2 : j < L.length * 2 := by simpa using hj
  have hi : j / 2 < L.length := by omega
  obtain ⟨q1, q2⟩ := at_at L (j / 2) L[j / 2] (List.getElem?_eq_getElem hi)
  rw [← h4, List.getElem?_take_of_lt (by omega), Array.getElem?_toList] at q1 q2
  have hget : L.toArray[j / 2]! = L[j / 2] := by simp [hi]
  rw [hget]
  refine ⟨?_, by simp [World.frozen?, hg]⟩
  rw [Nat.zero_add]
  rcases Nat.mod_two_eq_zero_or_one j with h | h
  · have e : j = j / 2 * 2 := by omega
    rw [h]
    rw [← e] at q1
    simp [World.cell?, hg, q1, At.cells]
  · have e : j = j / 2 * 2 + 1 := by omega
    rw [h]
    rw [← e] at q2
    simp [World.cell?, hg, q2, At.cells]

theorem holds_row [Inhabited At] {w : World} {g : Nat} {L : List At} (hgl : g < w.heap.size) (h : HoldsK At.cells 2 w g 0 L.toArray) : AtRow w (some ⟨g, 0, none⟩) L := fun i x hx => by
  obtain ⟨hi, rfl⟩ := List.getElem?_eq_some_iff.1 hx
  have h1 := (h.cell (i := i) (c := 0) (by simpa using hi) (by omega)).1
  have h2 := (h.cell (i := i) (c := 1) (by simpa using hi) (by omega)).1
  have hget : L.toArray[i]! = L[i] := by simp [hi]
  rw [hget] at h1 h2
  exact ⟨g, 0, rfl, hgl, by simpa [At.cells] using h1, by simpa [At.cells] using h2⟩

theorem merge_sort (L : List At) : (L.mergeSort fun x y => !(ltOf cmpA) y x) = sortP L := by
  refine sort_unique (List.mergeSort_perm _ _) ?_
  have h := List.pairwise_mergeSort (le := fun x y => !(ltOf cmpA) y x) (fun a b c h1 h2 => by
    rw [lt_cmpA] at *
    simp only [Bool.not_eq_true'] at *
    exact ltA_ntrans h2 h1) (fun a b => by
    rw [lt_cmpA, lt_cmpA]
    cases h : ltA b a with
    | false => rfl
    | true => rw [ltA_asymm h]; rfl) L
  exact h.imp fun hab => by rw [lt_cmpA] at hab; simpa using hab


theorem sorted_rw [Inhabited At] {S : Nat → Prop} {w : World} {g n cap nd : Nat} {os : Array Obj} {L M : List At} (h : Rw S w 53 2 (.slice (some ⟨g, 0, none⟩) n cap) n (L.flatMap At.cells)) (hM : M.length = n) (hg : g < w.heap.size) (hH : HoldsK At.cells 2 (sortWorldK At.cells 2 w g 0 nd M.toArray os) g 0 M.toArray) :
    Rw S (sortWorldK At.cells 2 w g 0 nd M.toArray os) 53 2 (.slice (some ⟨g, 0, none⟩) n cap) n (M.flatMap At.cells) := by
  rcases h.own.2 with ⟨e0, _⟩ | ⟨g2, cap2, cur, e0, hb, hc, h4, h5, h6, _⟩
  · cases e0
  · cases e0
    obtain ⟨cur', hc', hs'⟩ : ∃ cur' : Array Value, (sortWorldK At.cells 2 w g 0 nd M.toArray os).heap[g]? = some (.cells cur' 53 (0, 0)) ∧ cur'.size = cur.size := by
      unfold sortWorldK
      rw [heap_grow_old _ _ (by simpa [putRowK] using hg)]
      simp [putRowK, putRow, mapBlock, Sort.ahead, Array.getElem?_modify, hc, onCells, putCells]
    refine ⟨⟨by rw [at_len, hM], .inr ⟨g, cap, cur', rfl, Nat.zero_le _, hc', h4, h5, by omega, ?_⟩⟩, h.out⟩
    apply List.ext_getElem?
    intro j
    rw [List.getElem?_take]
    by_cases hj : j < n * 2
    · rw [if_pos hj]
      have hi : j / 2 < M.length := by omega
      have h1 := (hH.cell (i := j / 2) (c := j % 2) (by simpa using hi) (by omega)).1
      have hget : M.toArray[j / 2]! = M[j / 2] := by simp [hi]
      rw [hget] at h1
      have hx : M[j / 2]? = some M[j / 2] := List.getElem?_eq_getElem hi
      have h2 := fl_at At.cells 2 (fun _ => rfl) M (j / 2) (j % 2) _ hx (by omega)
      rw [show j / 2 * 2 + j % 2 = j by omega] at h2
      rw [h2]
      simp only [World.cell?, hc'] at h1
      simp only [Option.isSome_none, Bool.false_eq_true, if_false] at h1
      rw [show 0 + j / 2 * 2 + j % 2 = j by omega] at h1
      rw [Array.getElem?_toList, h1]
      have h3 : j % 2 < (At.cells M[j / 2]).length := by
        have : (At.cells M[j / 2]).length = 2 := rfl
        omega
      rw [List.getElem?_eq_getElem h3]
      simp [h3]
    · rw [if_neg hj, List.getElem?_eq_none (by rw [at_len, hM]; omega)]
theorem sort_ats {S : Nat → Prop} {w : World} {g n cap : Nat} {L : List At} (h : Rw S w 53 2 (.slice (some ⟨g, 0, none⟩) n cap) n (L.flatMap At.cells)) (hl : L.length = n) (hn : n ≤ 1000000) :
    Calls Try.prog 39 #[.slice (some ⟨g, 0, none⟩) n cap, .func (.func 40) #[] #[]] w fun e w' => e = .returned (.tuple #[]) ∧ Rw S w' 53 2 (.slice (some ⟨g, 0, none⟩) n cap) n ((sortP L).flatMap At.cells) ∧ w.grownBy w' (some g) := by
  haveI : Inhabited At := ⟨⟨⟨#[]⟩, ⟨#[]⟩⟩⟩
  rcases h.own.2 with ⟨e0, _⟩ | ⟨g2, cap2, cur, e0, hb, hc, h4, h5, h6, h7⟩
  · cases e0
  · cases e0
    have hgl : g < w.heap.size := (Array.getElem?_eq_some_iff.1 hc).1
    have hH : HoldsK At.cells 2 w g 0 L.toArray := row_holds hc (by rw [hl]; exact h7)
    have hs := AnyQ.slices_SortFunc_total attLays 2 Try.isAgg53 Try.sizeOf53 At.cells (fun _ => rfl) (fun x v hv => by simp [At.cells] at hv; rcases hv with rfl | rfl <;> rfl) cmpA swoA 40 #[] g 0 cap L.toArray w enters40 (cmpLays g 0 _ w) hH hgl (by simp; omega) (fun x y e1 e2 => by rw [lt_cmpA] at e1 e2; exact ltA_anti e1 e2)
    rw [List.toList_toArray, merge_sort, List.size_toArray, hl] at hs
    change Calls Try.prog 39 _ _ _ at hs
    refine hs.mono ?_
    rintro e w' ⟨rfl, nd, os, rfl⟩
    exact ⟨rfl, sorted_rw h (by rw [sort_len, hl]) hgl (holdsK_sortWorldK_c At.cells 2 w g 0 L.toArray _ _ _ hH hgl (by simp [sort_len])), sorted_frame _⟩
end Go.Proofs.Ytdpibnmbgjhohaa
