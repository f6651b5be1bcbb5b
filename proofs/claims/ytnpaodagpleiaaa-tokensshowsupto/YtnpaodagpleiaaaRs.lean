/- The document's Show. -/
import Derived.Test.YtnpaodagpleiaaaSw
namespace Go.Proofs.Ytnpaodagpleiaaa
open Go.RowKit

set_option maxHeartbeats 4000000 in
set_option maxRecDepth 10000 in
theorem rstart_any {w : World} {T : Tk} {L : List At} (hT : TkOk w T L) (hF : Few T L) (hk : T.k = 2) :
    Calls Try.prog 10 #[T.val] w fun e w' => e = .returned (.string ⟨(stP T.nm.data.toList L T.s).toArray⟩) ∧ Below w.heap.size w w' := by
  obtain ⟨k, r, nm, tx, ao, n, cap, s, f, t⟩ := T
  simp only at hk
  subst hk
  simp only [Tk.val, Tk.arr]
  have hnm : nm.size ≤ 1000000000000 := hF.nm
  have hn2 : n ≤ 9223372036854775807 := hT.small
  have hnl : nm.data.toList.length = nm.size := Array.length_toList
  obtain ⟨V, hV⟩ : ∃ V, w.alloc (.cells #[.int .i64 2, .int .i64 r, .string nm, .string tx, .slice ao n cap, .bool s, .int .i64 f, .int .i64 t] 26) = V := ⟨_, rfl⟩
  have bV : Below w.heap.size w V := by rw [← hV]; exact (Below.refl _ _).alloc (Nat.le_refl _) _
  have x1 : V.heap[w.heap.size]? = some (.cells (Tk.arr ⟨2, r, nm, tx, ao, n, cap, s, f, t⟩) 26 (0, 0)) := by rw [← hV]; exact heap_alloc_new _ _
  obtain ⟨c0, c1, c2, c3, c4, c5, c6, c7⟩ := TkBox.of x1
  simp only at c0 c1 c2 c3 c4 c5 c6 c7
  have HA : Hid (TkOk V ⟨2, r, nm, tx, ao, n, cap, s, f, t⟩ L ∧ Below w.heap.size w V) := ⟨hT.below bV, bV⟩
  have HF : Hid ((atP L).length ≤ 1000000000000) := hF.ats
  clear hT bV x1 hF c1 c3 c6 c7
  go_enter Try.func10, Try.ntmps10
  go_wp2_with fail
  clear hV
  go_loopg [3, 4] n (fun g2 sv iv wr => ∃ (i q : Nat) (acc : ByteArray), sv = .string acc ∧ iv = .int .i64 i ∧ i + g2 = n ∧ acc.data.toList = [60] ++ nm.data.toList ++ atP (L.take i) ∧ wr = V.drewN q)
  case atStart => exact ⟨0, 0, ⟨#[60]⟩ ++ nm, rfl, rfl, by omega, by rw [app_eq, List.take_zero, show atP [] = [] from rfl, List.append_nil], rfl⟩
  case round =>
    obtain ⟨i, q, acc, rfl, rfl, hig, hacc, rfl⟩ := hrel
    have hal : acc.data.toList.length = acc.size := Array.length_toList
    have HC : Hid (acc.data.toList = [60] ++ nm.data.toList ++ atP (L.take i)) := hacc
    cases gk with
    | zero =>
      obtain rfl : i = n := by omega
      have hg0 : decide ((i : Int) < (i : Int)) = false := decide_eq_false (by omega)
      have eL : L.take i = L := List.take_of_length_le (by rw [HA.out.1.len]; exact Nat.le_refl _)
      have hsz : acc.size ≤ 3000000000000 := by
        rw [← hal, hacc, eL]
        have := HF.out
        simp only [List.length_append, List.length_cons, List.length_nil, hnl]
        omega
      clear hacc hal
      cases s with
      | false =>
        go_wp2_with fail
        go_ret
        exact ⟨ret_str (bytes_eq (by rw [app_eq, HC.out, eL]; simp [stP, seP])), below_drewN HA.out.2 _⟩
      | true =>
        go_wp2_with fail
        go_ret
        exact ⟨ret_str (bytes_eq (by rw [app_eq, app_eq, HC.out, eL]; simp [stP, seP])), below_drewN HA.out.2 _⟩
    | succ m =>
      have hin : i < n := by omega
      obtain ⟨x, hx⟩ : ∃ x, L[i]? = some x := ⟨_, List.getElem?_eq_getElem (by rw [HA.out.1.len]; exact hin)⟩
      obtain ⟨b1, o1, hao, h1, d0, d1⟩ := HA.out.1.row i x hx
      simp only at hao
      subst hao
      have hle := at_len hx
      have hbl := atB_len x
      have HD : Hid (atP (L.take (i + 1)) = atP (L.take i) ++ atB x) := by
        show _ = _
        rw [List.take_add_one, hx]
        unfold atP
        simp
      have hxl := HF.out
      have hsz : acc.size ≤ 3000000000000 := by
        rw [← hal, hacc]
        simp only [List.length_append, List.length_cons, List.length_nil, hnl]
        omega
      have HX : Hid (atB x = (⟨#[32]⟩ ++ x.n ++ ⟨#[61, 34]⟩ ++ x.v ++ ⟨#[34]⟩ : ByteArray).data.toList) := by
        show _ = _
        rw [app_eq, app_eq, app_eq, app_eq]
        rfl
      clear hx hacc hal
      obtain ⟨xn, xv⟩ := x
      simp only at d0 d1 HX hbl
      have hsn : xn.size ≤ 1000000000000 := by omega
      have hsv : xv.size ≤ 1000000000000 := by omega
      have a1 := fun (w : World) => run_string_add_sum (P := Try.prog) (w := w) ⟨#[32]⟩ xn (by show 1 + xn.size ≤ _; omega)
      have a2 := fun (w : World) => run_string_add_sum (P := Try.prog) (w := w) (⟨#[32]⟩ ++ xn) ⟨#[61, 34]⟩ (by rw [ByteArray.size_append]; show 1 + xn.size + 2 ≤ _; omega)
      have a3 := fun (w : World) => run_string_add_sum (P := Try.prog) (w := w) (⟨#[32]⟩ ++ xn ++ ⟨#[61, 34]⟩) xv (by rw [ByteArray.size_append, ByteArray.size_append]; show 1 + xn.size + 2 + xv.size ≤ _; omega)
      have a4 := fun (w : World) => run_string_add_sum (P := Try.prog) (w := w) (⟨#[32]⟩ ++ xn ++ ⟨#[61, 34]⟩ ++ xv) ⟨#[34]⟩ (by rw [ByteArray.size_append, ByteArray.size_append, ByteArray.size_append]; show 1 + xn.size + 2 + xv.size + 1 ≤ _; omega)
      have a5 := fun (w : World) => run_string_add_sum (P := Try.prog) (w := w) acc (⟨#[32]⟩ ++ xn ++ ⟨#[61, 34]⟩ ++ xv ++ ⟨#[34]⟩) (by rw [ByteArray.size_append, ByteArray.size_append, ByteArray.size_append, ByteArray.size_append]; show acc.size + (1 + xn.size + 2 + xv.size + 1) ≤ _; omega)
      clear hle hbl hxl
      go_wp2_with fail
      go_quiet (fail)
      go_wp2_with fail
      go_roundg m
      case measure => omega
      case rel => exact ⟨i + 1, _, acc ++ (⟨#[32]⟩ ++ xn ++ ⟨#[61, 34]⟩ ++ xv ++ ⟨#[34]⟩), rfl, by go_num, by omega, by rw [app_eq, ← HX.out, HC.out, HD.out, List.append_assoc], rfl⟩

set_option maxHeartbeats 2000000 in
set_option maxRecDepth 10000 in
theorem rshow_any {w : World} {T : Tk} {L : List At} (hT : TkOk w T L) (hF : Few T L) :
    Calls Try.prog 10 #[T.val] w fun e w' => e = .returned (.string ⟨(shP T L).toArray⟩) ∧ Below w.heap.size w w' := by
  by_cases h2 : T.k = 2
  · have e : shP T L = stP T.nm.data.toList L T.s := by unfold shP; rw [if_neg (by omega), if_pos h2]
    rw [e]
    exact rstart_any hT hF h2
  obtain ⟨k, r, nm, tx, ao, n, cap, s, f, t⟩ := T
  simp only [Tk.val, Tk.arr] at h2 ⊢
  have hnm : nm.size ≤ 1000000000000 := hF.nm
  have htx : tx.size ≤ 1000000000000 := hF.tx
  have HB : Hid (Below w.heap.size w (w.alloc (.cells #[.int .i64 k, .int .i64 r, .string nm, .string tx, .slice ao n cap, .bool s, .int .i64 f, .int .i64 t] 26))) := (Below.refl _ _).alloc (Nat.le_refl _) _
  clear hT hF
  by_cases h1 : k = 1
  · subst h1
    by_cases hr : r = 60
    · subst hr
      go_enter Try.func10, Try.ntmps10
      go_wp2_with fail
      go_ret
      exact ⟨ret_str (bytes_eq (by simp [shP, shCh, sLt])), HB.out⟩
    have kk := renc_any r (w.alloc (.cells #[.int .i64 1, .int .i64 r, .string nm, .string tx, .slice ao n cap, .bool s, .int .i64 f, .int .i64 t] 26))
    have HS : Hid (shCh r = Utf8.encode (chr r)) := by show _ = _; unfold shCh; rw [if_neg hr]
    obtain ⟨S, hS⟩ : ∃ S, Utf8.encode (chr r) = S := ⟨_, rfl⟩
    rw [hS] at kk HS
    have hr' := beq_false_of_ne hr
    clear hS hr
    go_enter Try.func10, Try.ntmps10
    go_wp2_with fail
    refine kk.mono ?_
    rintro e w1 ⟨rfl, b1⟩
    have H1 : Hid (Below w.heap.size w w1) := HB.out.trans (b1.mono HB.out.size)
    clear kk b1
    go_wp2_with fail
    go_ret
    exact ⟨ret_str (bytes_eq (by simp [shP, HS.out])), H1.out⟩
  have g1 := beq_false_of_ne h1
  have g2 := beq_false_of_ne h2
  by_cases h3 : k = 3
  · subst h3
    go_enter Try.func10, Try.ntmps10
    go_wp2_with fail
    go_ret
    exact ⟨ret_str (bytes_eq (by simp [shP])), HB.out⟩
  by_cases h4 : k = 4
  · subst h4
    go_enter Try.func10, Try.ntmps10
    go_wp2_with fail
    go_ret
    exact ⟨ret_str (bytes_eq (by simp [shP])), HB.out⟩
  by_cases h5 : k = 5
  · subst h5
    cases s
    all_goals
      go_enter Try.func10, Try.ntmps10
      go_wp2_with fail
      go_ret
      exact ⟨ret_str (bytes_eq (by simp [shP, seP])), HB.out⟩
  by_cases h6 : k = 6
  · subst h6
    go_enter Try.func10, Try.ntmps10
    go_wp2_with fail
    go_ret
    exact ⟨ret_str (bytes_eq (by simp [shP])), HB.out⟩
  have e : shP ⟨k, r, nm, tx, ao, n, cap, s, f, t⟩ L = [] := by unfold shP; rw [if_neg h1, if_neg h2, if_neg h3, if_neg h4, if_neg h5, if_neg h6]
  rw [e]
  have g3 := beq_false_of_ne h3
  have g4 := beq_false_of_ne h4
  have g5 := beq_false_of_ne h5
  have g6 := beq_false_of_ne h6
  clear h1 h2 h3 h4 h5 h6 e
  go_enter Try.func10, Try.ntmps10
  go_wp2_with fail
  go_ret
  exact ⟨rfl, HB.out⟩
end Go.Proofs.Ytnpaodagpleiaaa
