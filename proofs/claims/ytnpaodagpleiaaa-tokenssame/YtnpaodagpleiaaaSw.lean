/- Show, whole: the program's, and the document's. -/
import Derived.Test.YtnpaodagpleiaaaSt
namespace Go.Proofs.Ytnpaodagpleiaaa
open Go.RowKit

set_option maxHeartbeats 2000000 in
set_option maxRecDepth 10000 in
theorem show_any {w : World} {T : Tk} {L : List At} (hT : TkOk w T L) (hF : Few T L) :
    Calls Try.prog 9 #[T.val] w fun e w' => e = .returned (.string ⟨(shP T L).toArray⟩) ∧ Below w.heap.size w w' := by
  obtain ⟨k, r, nm, tx, ao, n, cap, s, f, t⟩ := T
  simp only [Tk.val, Tk.arr]
  have hnm : nm.size ≤ 1000000000000 := hF.nm
  have htx : tx.size ≤ 1000000000000 := hF.tx
  have HB : Hid (Below w.heap.size w (w.alloc (.cells #[.int .i64 k, .int .i64 r, .string nm, .string tx, .slice ao n cap, .bool s, .int .i64 f, .int .i64 t] 26))) := (Below.refl _ _).alloc (Nat.le_refl _) _
  by_cases h1 : k = 1
  · subst h1
    clear hT hF
    have kk := shch_any r (w.alloc (.cells #[.int .i64 1, .int .i64 r, .string nm, .string tx, .slice ao n cap, .bool s, .int .i64 f, .int .i64 t] 26))
    obtain ⟨S, hS⟩ : ∃ S, shCh r = S := ⟨_, rfl⟩
    rw [hS] at kk
    have HS : Hid (shCh r = S) := hS
    clear hS
    go_enter Try.func9, Try.ntmps9
    go_wp2_with fail
    refine kk.mono ?_
    rintro e w1 ⟨rfl, rfl⟩
    clear kk
    go_wp2_with fail
    go_ret
    exact ⟨ret_str (bytes_eq (by simp [shP, HS.out])), HB.out⟩
  by_cases h2 : k = 2
  · subst h2
    have kk := start_any (hT.below HB.out) hF
    simp only [Tk.val, Tk.arr] at kk
    obtain ⟨S, hS⟩ : ∃ S, (⟨(stP nm.data.toList L s).toArray⟩ : ByteArray) = S := ⟨_, rfl⟩
    rw [hS] at kk
    have HS : Hid ((⟨(stP nm.data.toList L s).toArray⟩ : ByteArray) = S) := hS
    clear hS hT hF
    go_enter Try.func9, Try.ntmps9
    go_wp2_with fail
    refine kk.mono ?_
    rintro e w1 ⟨rfl, b1⟩
    have H1 : Hid (Below w.heap.size w w1) := HB.out.trans (b1.mono HB.out.size)
    clear kk b1
    go_wp2_with fail
    go_ret
    exact ⟨ret_str (HS.out.symm.trans (bytes_eq (by simp [shP]))), H1.out⟩
  clear hT hF
  by_cases h3 : k = 3
  · subst h3
    go_enter Try.func9, Try.ntmps9
    go_wp2_with fail
    go_ret
    exact ⟨ret_str (bytes_eq (by simp [shP])), HB.out⟩
  by_cases h4 : k = 4
  · subst h4
    go_enter Try.func9, Try.ntmps9
    go_wp2_with fail
    go_ret
    exact ⟨ret_str (bytes_eq (by simp [shP])), HB.out⟩
  by_cases h5 : k = 5
  · subst h5
    have hoe := only_eq s ⟨#[33]⟩
    obtain ⟨O, hO⟩ : ∃ O, onlyP s ⟨#[33]⟩ = O := ⟨_, rfl⟩
    have ko := fun W => only_any s ⟨#[33]⟩ W
    simp only [hO] at ko
    rw [hO] at hoe
    clear hO
    have hos : O.size ≤ 1 := by
      have h2 : O.data.toList.length = O.size := Array.length_toList
      rw [← h2, hoe]
      cases s <;> simp [seP]
    have HO : Hid (O.data.toList = seP s [33]) := hoe
    clear hoe
    have a1 := fun (w : World) => run_string_add_sum (P := Try.prog) (w := w) ⟨#[60, 33, 100, 111, 99, 116, 121, 112, 101, 32]⟩ nm (by show 10 + nm.size ≤ _; omega)
    have a2 := fun (w : World) => run_string_add_sum (P := Try.prog) (w := w) (⟨#[60, 33, 100, 111, 99, 116, 121, 112, 101, 32]⟩ ++ nm) O (by rw [ByteArray.size_append]; show 10 + nm.size + O.size ≤ _; omega)
    have a3 := fun (w : World) => run_string_add_sum (P := Try.prog) (w := w) (⟨#[60, 33, 100, 111, 99, 116, 121, 112, 101, 32]⟩ ++ nm ++ O) ⟨#[62]⟩ (by rw [ByteArray.size_append, ByteArray.size_append]; show 10 + nm.size + O.size + 1 ≤ _; omega)
    go_enter Try.func9, Try.ntmps9
    go_wp2_with fail
    go_quiet (first | (go_at_call 23; refine Calls.quiet_of_same (ko _)))
    go_wp2_with fail
    go_ret
    exact ⟨ret_str (bytes_eq (by simp [shP, HO.out])), below_drewN HB.out _⟩
  by_cases h6 : k = 6
  · subst h6
    go_enter Try.func9, Try.ntmps9
    go_wp2_with fail
    go_ret
    exact ⟨ret_str (bytes_eq (by simp [shP])), HB.out⟩
  have e : shP ⟨k, r, nm, tx, ao, n, cap, s, f, t⟩ L = [] := by unfold shP; rw [if_neg h1, if_neg h2, if_neg h3, if_neg h4, if_neg h5, if_neg h6]
  rw [e]
  have g1 := beq_false_of_ne h1
  have g2 := beq_false_of_ne h2
  have g3 := beq_false_of_ne h3
  have g4 := beq_false_of_ne h4
  have g5 := beq_false_of_ne h5
  have g6 := beq_false_of_ne h6
  clear h1 h2 h3 h4 h5 h6 e
  go_enter Try.func9, Try.ntmps9
  go_wp2_with fail
  go_ret
  exact ⟨rfl, HB.out⟩
end Go.Proofs.Ytnpaodagpleiaaa
