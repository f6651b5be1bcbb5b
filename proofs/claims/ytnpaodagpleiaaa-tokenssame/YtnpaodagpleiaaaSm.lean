/- Same, the program's and the document's: all fields, attributes in their order. -/
import Derived.Test.YtnpaodagpleiaaaEq
namespace Go.Proofs.Ytnpaodagpleiaaa
open Go.RowKit

set_option maxHeartbeats 2000000 in
set_option maxRecDepth 10000 in
theorem same_any {w : World} {T U : Tk} {A B : List At} (hT : TkOk w T A) (hU : TkOk w U B) :
    Calls Try.prog 13 #[T.val, U.val] w fun e w' => e = .returned (.bool (Tk.eqb T U A B)) ∧ Below w.heap.size w w' := by
  obtain ⟨g, hg⟩ : ∃ g, Tk.eqb T U A B = g := ⟨_, rfl⟩
  rw [hg]
  unfold Tk.eqb at hg
  obtain ⟨k, r, nm, tx, ao, n, cap, s, f, t⟩ := T
  obtain ⟨k', r', nm', tx', ao', n', cap', s', f', t'⟩ := U
  simp only [Tk.val, Tk.arr] at hg ⊢
  have HT : Hid (TkOk w _ A ∧ TkOk w _ B) := ⟨hT, hU⟩
  have hnn : n ≤ 9223372036854775807 := hT.small
  have hnn' : n' ≤ 9223372036854775807 := hU.small
  have bel : Below w.heap.size w ((w.alloc (.cells #[.int .i64 k, .int .i64 r, .string nm, .string tx, .slice ao n cap, .bool s, .int .i64 f, .int .i64 t] 26)).alloc (.cells #[.int .i64 k', .int .i64 r', .string nm', .string tx', .slice ao' n' cap', .bool s', .int .i64 f', .int .i64 t'] 26)) := ((Below.refl _ _).alloc (Nat.le_refl _) _).alloc (by simp) _
  have HB : Hid (Below w.heap.size w _) := bel
  clear hT hU bel
  by_cases hk : k = k'
  rotate_left 1
  · have e : g = false := by rw [← hg]; simp [hk]
    subst e
    clear hg
    have hk' : (k == k') = false := beq_false_of_ne hk
    clear hk
    go_enter Try.func13, Try.ntmps13
    go_wp2_with fail
    go_ret
    exact ⟨rfl, HB.out⟩
  subst hk
  by_cases hr : r = r'
  rotate_left 1
  · have e : g = false := by rw [← hg]; simp [hr]
    subst e
    clear hg
    have hr' : (r == r') = false := beq_false_of_ne hr
    clear hr
    go_enter Try.func13, Try.ntmps13
    go_wp2_with fail
    go_ret
    exact ⟨rfl, HB.out⟩
  subst hr
  by_cases hm : nm.data.toList = nm'.data.toList
  rotate_left 1
  · have e : g = false := by rw [← hg]; simp [hm]
    subst e
    clear hg
    have hm' := beq_no hm
    clear hm
    go_enter Try.func13, Try.ntmps13
    go_wp2_with fail
    go_ret
    exact ⟨rfl, HB.out⟩
  have hm' := beq_yes hm
  by_cases hx : tx.data.toList = tx'.data.toList
  rotate_left 1
  · have e : g = false := by rw [← hg]; simp [hx]
    subst e
    clear hg
    have hx' := beq_no hx
    clear hx hm
    go_enter Try.func13, Try.ntmps13
    go_wp2_with fail
    go_ret
    exact ⟨rfl, HB.out⟩
  have hx' := beq_yes hx
  by_cases hs : s = s'
  rotate_left 1
  · have e : g = false := by rw [← hg]; simp [hs]
    subst e
    clear hg
    clear hx hm
    have hs' : (s == s') = false := beq_false_of_ne hs
    clear hs
    go_enter Try.func13, Try.ntmps13
    go_wp2_with fail
    go_ret
    exact ⟨rfl, HB.out⟩
  subst hs
  have hsp := eq24 f t f' t'
  obtain ⟨b, hb⟩ : ∃ b, (decide (f = f') && decide (t = t')) = b := ⟨_, rfl⟩
  rw [hb] at hg
  simp only [hb] at hsp
  clear hb
  cases b with
  | false =>
    have e : g = false := by rw [← hg]; simp
    subst e
    clear hg hx hm
    go_enter Try.func13, Try.ntmps13
    go_wp2_with fail
    go_ret
    exact ⟨rfl, HB.out⟩
  | true =>
    have hgg : eqL A B = g := by rw [← hg]; simp [hm, hx]
    clear hg hx hm
    have kk := equal_any n n' cap cap' (HT.out.1.row.below HB.out) (HT.out.2.row.below HB.out) HT.out.1.len HT.out.2.len hnn hnn'
    rw [hgg] at kk
    clear hgg
    go_enter Try.func13, Try.ntmps13
    go_wp2_with fail
    refine kk.mono ?_
    rintro e w1 ⟨rfl, b1⟩
    have HB1 : Hid (Below w.heap.size w w1) := HB.out.trans (b1.mono HB.out.size)
    clear kk b1
    go_wp2_with fail
    go_ret
    exact ⟨rfl, HB1.out⟩

set_option maxHeartbeats 2000000 in
set_option maxRecDepth 10000 in
theorem rsame_any {w : World} {T U : Tk} {A B : List At} (hT : TkOk w T A) (hU : TkOk w U B) :
    Calls Try.prog 14 #[T.val, U.val] w fun e w' => e = .returned (.bool (Tk.eqb T U A B)) ∧ Below w.heap.size w w' := by
  obtain ⟨g, hg⟩ : ∃ g, Tk.eqb T U A B = g := ⟨_, rfl⟩
  rw [hg]
  unfold Tk.eqb at hg
  obtain ⟨k, r, nm, tx, ao, n, cap, s, f, t⟩ := T
  obtain ⟨k', r', nm', tx', ao', n', cap', s', f', t'⟩ := U
  simp only [Tk.val, Tk.arr] at hg ⊢
  have HT : Hid (TkOk w _ A ∧ TkOk w _ B) := ⟨hT, hU⟩
  have hnn : n ≤ 9223372036854775807 := hT.small
  have hnn' : n' ≤ 9223372036854775807 := hU.small
  have bel : Below w.heap.size w ((w.alloc (.cells #[.int .i64 k, .int .i64 r, .string nm, .string tx, .slice ao n cap, .bool s, .int .i64 f, .int .i64 t] 26)).alloc (.cells #[.int .i64 k', .int .i64 r', .string nm', .string tx', .slice ao' n' cap', .bool s', .int .i64 f', .int .i64 t'] 26)) := ((Below.refl _ _).alloc (Nat.le_refl _) _).alloc (by simp) _
  have HB : Hid (Below w.heap.size w _) := bel
  clear hT hU bel
  by_cases hk : k = k'
  rotate_left 1
  · have e : g = false := by rw [← hg]; simp [hk]
    subst e
    clear hg
    have hk' : (k == k') = false := beq_false_of_ne hk
    clear hk
    go_enter Try.func14, Try.ntmps14
    go_wp2_with fail
    go_ret
    exact ⟨rfl, HB.out⟩
  subst hk
  by_cases hr : r = r'
  rotate_left 1
  · have e : g = false := by rw [← hg]; simp [hr]
    subst e
    clear hg
    have hr' : (r == r') = false := beq_false_of_ne hr
    clear hr
    go_enter Try.func14, Try.ntmps14
    go_wp2_with fail
    go_ret
    exact ⟨rfl, HB.out⟩
  subst hr
  by_cases hm : nm.data.toList = nm'.data.toList
  rotate_left 1
  · have e : g = false := by rw [← hg]; simp [hm]
    subst e
    clear hg
    have hm' := beq_no hm
    clear hm
    go_enter Try.func14, Try.ntmps14
    go_wp2_with fail
    go_ret
    exact ⟨rfl, HB.out⟩
  have hm' := beq_yes hm
  by_cases hx : tx.data.toList = tx'.data.toList
  rotate_left 1
  · have e : g = false := by rw [← hg]; simp [hx]
    subst e
    clear hg
    have hx' := beq_no hx
    clear hx hm
    go_enter Try.func14, Try.ntmps14
    go_wp2_with fail
    go_ret
    exact ⟨rfl, HB.out⟩
  have hx' := beq_yes hx
  by_cases hs : s = s'
  rotate_left 1
  · have e : g = false := by rw [← hg]; simp [hs]
    subst e
    clear hg
    clear hx hm
    have hs' : (s == s') = false := beq_false_of_ne hs
    clear hs
    go_enter Try.func14, Try.ntmps14
    go_wp2_with fail
    go_ret
    exact ⟨rfl, HB.out⟩
  subst hs
  have hsp := eq24 f t f' t'
  obtain ⟨b, hb⟩ : ∃ b, (decide (f = f') && decide (t = t')) = b := ⟨_, rfl⟩
  rw [hb] at hg
  simp only [hb] at hsp
  clear hb
  cases b with
  | false =>
    have e : g = false := by rw [← hg]; simp
    subst e
    clear hg hx hm
    go_enter Try.func14, Try.ntmps14
    go_wp2_with fail
    go_ret
    exact ⟨rfl, HB.out⟩
  | true =>
    have hgg : eqL A B = g := by rw [← hg]; simp [hm, hx]
    clear hg hx hm
    have kk := requal_any n n' cap cap' (HT.out.1.row.below HB.out) (HT.out.2.row.below HB.out) HT.out.1.len HT.out.2.len hnn hnn'
    rw [hgg] at kk
    clear hgg
    go_enter Try.func14, Try.ntmps14
    go_wp2_with fail
    refine kk.mono ?_
    rintro e w1 ⟨rfl, b1⟩
    have HB1 : Hid (Below w.heap.size w w1) := HB.out.trans (b1.mono HB.out.size)
    clear kk b1
    go_wp2_with fail
    go_ret
    exact ⟨rfl, HB1.out⟩

end Go.Proofs.Ytnpaodagpleiaaa
