/- Show, the program's and the document's: a token's text. -/
import Derived.Test.YtnpaodagpleiaaaTe
namespace Go.Proofs.Ytnpaodagpleiaaa
open Go.RowKit

def atB (x : At) : Path := [32] ++ x.nm ++ [61, 34] ++ x.vl ++ [34]
def atP (L : List At) : Path := L.flatMap atB
def seP (s : Bool) (p : Path) : Path := if s = true then p else []
def stP (nm : Path) (L : List At) (s : Bool) : Path := [60] ++ nm ++ atP L ++ (seP s [47] ++ [62])
def shP (T : Tk) (L : List At) : Path :=
  if T.k = 1 then (shCh T.r).data.toList else if T.k = 2 then stP T.nm.data.toList L T.s else if T.k = 3 then [60, 47] ++ T.nm.data.toList ++ [62] else if T.k = 4 then [60, 33, 45, 45] ++ T.tx.data.toList ++ [45, 45, 62]
    else if T.k = 5 then [60, 33, 100, 111, 99, 116, 121, 112, 101, 32] ++ T.nm.data.toList ++ seP T.s [33] ++ [62] else if T.k = 6 then [91, 101, 111, 102, 93] else []
theorem at_drop1 {L : List At} {i : Nat} {x : At} (h : L[i]? = some x) : atP (L.drop i) = atB x ++ atP (L.drop (i + 1)) := by
  rw [drop_at h]
  unfold atP
  rw [List.flatMap_cons]
theorem at_len {L : List At} {i : Nat} {x : At} (h : L[i]? = some x) : (atP (L.take i)).length + (atB x).length ≤ (atP L).length := by
  have e : L = L.take i ++ (x :: L.drop (i + 1)) := by
    rw [← drop_at h, List.take_append_drop]
  have : (atP L).length = (atP (L.take i ++ (x :: L.drop (i + 1)))).length := by rw [← e]
  rw [this]
  unfold atP
  rw [List.flatMap_append, List.flatMap_cons, List.length_append, List.length_append]
  omega
theorem atB_len (x : At) : (atB x).length = x.n.size + x.v.size + 4 := by
  have h1 : x.n.data.toList.length = x.n.size := Array.length_toList
  have h2 : x.v.data.toList.length = x.v.size := Array.length_toList
  simp only [atB, At.nm, At.vl, List.length_append, List.length_cons, List.length_nil, h1, h2]
  omega
theorem only_eq (b : Bool) (s : ByteArray) : (onlyP b s).data.toList = seP b s.data.toList := by
  cases b <;> rfl
theorem app_eq (a b : ByteArray) : (a ++ b).data.toList = a.data.toList ++ b.data.toList := by simp [ByteArray.data_append]

/-- A token whose text is not too long for any machine. -/
structure Few (T : Tk) (L : List At) : Prop where
  nm : T.nm.size ≤ 1000000000000
  tx : T.tx.size ≤ 1000000000000
  ats : (atP L).length ≤ 1000000000000

set_option maxHeartbeats 2000000 in
set_option maxRecDepth 10000 in
theorem start_any {w : World} {T : Tk} {L : List At} (hT : TkOk w T L) (hF : Few T L) :
    Calls Try.prog 22 #[T.val] w fun e w' => e = .returned (.string ⟨(stP T.nm.data.toList L T.s).toArray⟩) ∧ Below w.heap.size w w' := by
  obtain ⟨k, r, nm, tx, ao, n, cap, s, f, t⟩ := T
  simp only [Tk.val, Tk.arr]
  have hnm : nm.size ≤ 1000000000000 := hF.nm
  have hn2 : n ≤ 9223372036854775807 := hT.small
  have hnl : nm.data.toList.length = nm.size := Array.length_toList
  obtain ⟨V, hV⟩ : ∃ V, (w.alloc (.cells #[.int .i64 k, .int .i64 r, .string nm, .string tx, .slice ao n cap, .bool s, .int .i64 f, .int .i64 t] 26)).alloc (.cells #[.pointer none, .slice none 0 0] 49) = V := ⟨_, rfl⟩
  have bV : Below w.heap.size w V := by rw [← hV]; exact ((Below.refl _ _).alloc (Nat.le_refl _) _).alloc (by simp) _
  have x1 : V.heap[w.heap.size]? = some (.cells (Tk.arr ⟨k, r, nm, tx, ao, n, cap, s, f, t⟩) 26 (0, 0)) := by
    rw [← hV, Below.heap_alloc _ _ _ (by simp)]; exact heap_alloc_new _ _
  have hI : Lib.IsBuilderF 49 5 (w.heap.size + 1) (w.heap.size + 1) (Lib.byteCells []) V := by
    rw [← hV]
    have := Lib.IsBuilderF.of (Lib.fresh_isBuilder 49 5 (w.alloc (.cells #[.int .i64 k, .int .i64 r, .string nm, .string tx, .slice ao n cap, .bool s, .int .i64 f, .int .i64 t] 26)))
    rw [show (w.alloc (.cells #[.int .i64 k, .int .i64 r, .string nm, .string tx, .slice ao n cap, .bool s, .int .i64 f, .int .i64 t] 26)).heap.size = w.heap.size + 1 by simp] at this
    exact this
  have hVs : w.heap.size + 1 < V.heap.size := by rw [← hV]; simp
  have T1 := TkBox.of x1
  have p2 := T1.c2
  simp only at p2
  have kw1 := writeString_k (w.heap.size + 1) (w.heap.size + 1) (Lib.byteCells []) (⟨#[60]⟩ ++ nm) V hI (by rw [Lib.byteCells_length, ByteArray.size_append]; simp; show 1 + nm.size ≤ _; omega) (Nat.le_of_lt hVs)
  have HA : Hid (TkOk w ⟨k, r, nm, tx, ao, n, cap, s, f, t⟩ L ∧ Below w.heap.size w V ∧ TkBox V w.heap.size ⟨k, r, nm, tx, ao, n, cap, s, f, t⟩ ∧ w.heap.size < V.heap.size ∧ w.heap.size + 1 < V.heap.size) := ⟨hT, bV, T1, by omega, hVs⟩
  have HF : Hid ((atP L).length ≤ 1000000000000) := hF.ats
  clear hT bV x1 hI hVs T1 hF
  go_enter Try.func22, Try.ntmps22
  go_wp2_with fail
  refine kw1.mono ?_
  rintro e w1 ⟨rfl, q1, q2, q3⟩
  have T1 := HA.out.2.2.1.keep (q2.block w.heap.size (by omega))
  have HI : Hid (Lib.IsBuilderF 49 5 (w.heap.size + 1) (w.heap.size + 1) (Lib.byteCells ([60] ++ nm.data.toList)) w1 ∧ w.heap.size + 1 < w1.heap.size ∧ Below (w.heap.size + 1) V w1 ∧ TkBox w1 w.heap.size ⟨k, r, nm, tx, ao, n, cap, s, f, t⟩) := by
    refine ⟨Or.inr ?_, Nat.lt_of_lt_of_le HA.out.2.2.2.2 q2.size, q2, T1⟩
    rw [app_eq] at q1
    exact q1
  have p4 := T1.c4
  simp only at p4
  clear q1 q2 q3 kw1 hV T1 p2
  go_wp2_with fail
  go_loopg [13] n (fun g2 iv wr => ∃ (i : Nat), iv = .int .i64 i ∧ i + g2 = n ∧ Lib.IsBuilderF 49 5 (w.heap.size + 1) (w.heap.size + 1) (Lib.byteCells ([60] ++ nm.data.toList ++ atP (L.take i))) wr ∧ w.heap.size + 1 < wr.heap.size ∧ Below (w.heap.size + 1) V wr)
  case atStart => exact ⟨0, rfl, by omega, by rw [List.take_zero, show atP [] = [] from rfl, List.append_nil]; exact HI.out.1, HI.out.2.1, HI.out.2.2.1⟩
  case round =>
    obtain ⟨i, rfl, hig, hI, hsz, hbw⟩ := hrel
    have T1 := HA.out.2.2.1.keep (hbw.block w.heap.size (by omega))
    have hbw0 : Below w.heap.size w wr := HA.out.2.1.trans (hbw.mono (Nat.le_succ _))
    have HW : Hid (Lib.IsBuilderF 49 5 (w.heap.size + 1) (w.heap.size + 1) (Lib.byteCells ([60] ++ nm.data.toList ++ atP (L.take i))) wr ∧ w.heap.size + 1 < wr.heap.size ∧ Below (w.heap.size + 1) V wr ∧ TkOk wr ⟨k, r, nm, tx, ao, n, cap, s, f, t⟩ L ∧ Below w.heap.size w wr) := ⟨hI, hsz, hbw, HA.out.1.below hbw0, hbw0⟩
    have t5 := T1.c5
    simp only at t5
    clear hI hsz hbw T1 hbw0 p4
    cases gk with
    | zero =>
      obtain rfl : i = n := by omega
      have hg0 : decide ((i : Int) < (i : Int)) = false := decide_eq_false (by omega)
      have ko := only_any s ⟨#[47]⟩ wr
      have hoe := only_eq s ⟨#[47]⟩
      obtain ⟨O, hO⟩ : ∃ O, onlyP s ⟨#[47]⟩ = O := ⟨_, rfl⟩
      rw [hO] at ko hoe
      clear hO
      have hos : O.size ≤ 1 := by
        have h2 : O.data.toList.length = O.size := Array.length_toList
        rw [← h2, hoe]
        cases s <;> simp [seP]
      have eL : L.take i = L := List.take_of_length_le (by rw [HW.out.2.2.2.1.len]; exact Nat.le_refl _)
      have hI := HW.out.1
      rw [eL] at hI
      have kw := writeString_k (w.heap.size + 1) (w.heap.size + 1) _ (O ++ ⟨#[62]⟩) wr hI (by rw [Lib.byteCells_length, ByteArray.size_append, List.length_append, List.length_append, hnl]; have := HF.out; simp only [List.length_cons, List.length_nil]; show 0 + 1 + nm.size + _ + (O.size + 1) ≤ _; omega) (Nat.le_of_lt HW.out.2.1)
      have HO : Hid (O.data.toList = seP s [47]) := hoe
      clear hI eL hoe
      go_wp2_with fail
      refine ko.mono ?_
      rintro e w2 ⟨rfl, hw2⟩
      obtain rfl := hw2.symm
      clear ko hw2
      go_wp2_with fail
      refine kw.mono ?_
      rintro e w3 ⟨rfl, q1, q2, q3⟩
      rw [app_eq, HO.out, ← Lib.byteCells_append] at q1
      have ks := string_k (w.heap.size + 1) (w.heap.size + 1) _ w3 (Or.inr q1) (Nat.le_trans (Nat.le_of_lt HW.out.2.1) q2.size)
      have H3 : Hid (Below w.heap.size w w3) := HW.out.2.2.2.2.trans (q2.mono (Nat.le_succ _))
      clear q1 q2 q3 kw
      go_wp2_with fail
      refine ks.mono ?_
      rintro e w4 ⟨rfl, q1, q2, q3⟩
      have H4 : Hid (Below w.heap.size w w4) := H3.out.trans (q2.mono (Nat.le_succ _))
      clear q1 q2 q3 ks
      go_wp2_with fail
      go_ret
      exact ⟨ret_str (bytes_eq (by simp [stP])), H4.out⟩
    | succ m =>
      have hin : i < n := by omega
      obtain ⟨x, hx⟩ : ∃ x, L[i]? = some x := ⟨_, List.getElem?_eq_getElem (by rw [HW.out.2.2.2.1.len]; exact hin)⟩
      obtain ⟨b1, o1, hao, h1, c0, c1⟩ := HW.out.2.2.2.1.row i x hx
      simp only at hao
      subst hao
      have hle := at_len hx
      have hbl := atB_len x
      have HD : Hid (atP (L.take (i + 1)) = atP (L.take i) ++ atB x) := by
        show _ = _
        rw [List.take_add_one, hx]
        unfold atP
        simp
      have hxl := HF.out
      clear hx
      have HX : Hid (atB x = (⟨#[32]⟩ ++ x.n ++ ⟨#[61, 34]⟩ ++ x.v ++ ⟨#[34]⟩ : ByteArray).data.toList) := by
        show _ = _
        rw [app_eq, app_eq, app_eq, app_eq]
        rfl
      obtain ⟨xn, xv⟩ := x
      simp only at c0 c1 HX hbl
      obtain ⟨U, hU⟩ : ∃ U, wr.alloc (.cells #[.string xn, .string xv] 40) = U := ⟨_, rfl⟩
      have bU : Below (w.heap.size + 1) wr U := by rw [← hU]; exact (Below.refl _ _).alloc (Nat.le_of_lt HW.out.2.1) _
      have hnew : U.heap[wr.heap.size]? = some (.cells #[.string xn, .string xv] 40 (0, 0)) := by rw [← hU]; exact heap_alloc_new _ _
      have d0 : U.cell? ⟨wr.heap.size, 0, none⟩ = some (.string xn) := by simp [World.cell?, hnew]
      have d1 : U.cell? ⟨wr.heap.size, 1, none⟩ = some (.string xv) := by simp [World.cell?, hnew]
      have hIU : Lib.IsBuilderF 49 5 (w.heap.size + 1) (w.heap.size + 1) (Lib.byteCells ([60] ++ nm.data.toList ++ atP (L.take i))) U := by rw [← hU]; exact HW.out.1.alloc _
      have hsn : xn.size ≤ 1000000000000 := by omega
      have hsv : xv.size ≤ 1000000000000 := by omega
      have kw := writeString_k (w.heap.size + 1) (w.heap.size + 1) _ (⟨#[32]⟩ ++ xn ++ ⟨#[61, 34]⟩ ++ xv ++ ⟨#[34]⟩) U hIU (by rw [Lib.byteCells_length, ByteArray.size_append, ByteArray.size_append, ByteArray.size_append, ByteArray.size_append, List.length_append, List.length_append, hnl]; simp only [List.length_cons, List.length_nil]; show 0 + 1 + nm.size + _ + (1 + xn.size + 2 + xv.size + 1) ≤ _; omega) (Nat.le_trans (Nat.le_of_lt HW.out.2.1) bU.size)
      have HU : Hid (Below (w.heap.size + 1) wr U) := bU
      clear hnew hIU bU hle hbl hxl
      go_wp2_with fail
      refine kw.mono ?_
      rintro e w2 ⟨rfl, q1, q2, q3⟩
      rw [← HX.out, ← Lib.byteCells_append, List.append_assoc, ← HD.out] at q1
      have H2 : Hid (Lib.IsBuilderF 49 5 (w.heap.size + 1) (w.heap.size + 1) (Lib.byteCells ([60] ++ nm.data.toList ++ atP (L.take (i + 1)))) w2 ∧ w.heap.size + 1 < w2.heap.size ∧ Below (w.heap.size + 1) V w2) :=
        ⟨Or.inr q1, Nat.lt_of_lt_of_le HW.out.2.1 (Nat.le_trans HU.out.size q2.size), HW.out.2.2.1.trans (HU.out.trans q2)⟩
      clear q1 q2 q3 kw hU
      go_wp2_with fail
      go_roundg m
      case measure => omega
      case rel => exact ⟨i + 1, by go_num, by omega, H2.out.1, H2.out.2.1, H2.out.2.2⟩
end Go.Proofs.Ytnpaodagpleiaaa
