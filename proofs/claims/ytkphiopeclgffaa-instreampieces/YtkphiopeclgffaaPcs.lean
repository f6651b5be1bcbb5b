/- How far the law InstreamPieces has come, piece by piece. -/
import Derived.Test.YtkphiopeclgffaaJoin
import Derived.Test.YtkphiopeclgffaaChars
namespace Go.Proofs.Ytkphiopeclgffaa
open Go.ChangeShapes Go.WideShapes Go.ChangeAt Go.RowKit Go.Joins

/-- What waits, and what is told, behind the items L. -/
def wtL (L : List (Int × Nat)) : Ch := (tsL Ch0 (chs 0 L)).1
def toL (L : List (Int × Nat)) : List Ch := (tsL Ch0 (chs 0 L)).2

/-- The pieces so far have the items L, the bytes U wait: the stream (the first new blocks) and what it has told. -/
structure Pcs (N : Nat) (L : List (Int × Nat)) (U : List UInt8) (w wr : World) (av fv : Value) : Prop where
  str : Strm (N + 1) N (0 + (tot L : Nat)) U (wtL L) wr
  ch : Chars N av (toL L) wr
  fl : FaultsC N fv (fcs 0 L) wr
  below : Below N w wr

theorem cat_list (S t : ByteArray) : (S ++ t).data.toList = S.data.toList ++ t.data.toList := by simp [ByteArray.data_append]

/-- One piece more: M its items. -/
theorem pcs_next {N : Nat} {L M : List (Int × Nat)} {U V : List UInt8} {w wr w2 : World} {ca fa : Option Addr} {cn cc fn fc : Nat} {xa ya : Option Addr} {xn xc yn yc : Nat}
    (hP : Pcs N L U w wr (.slice ca cn cc) (.slice fa fn fc)) (hN : N ≤ wr.heap.size) (hL : L.length ≤ 100000) (hM : M.length ≤ 100000)
    (s2 : Strm (N + 1) N (0 + (tot L : Nat) + (tot M : Nat)) V (tsL (wtL L) (chs (0 + (tot L : Nat)) M)).1 w2) (rx : Chars wr.heap.size (.slice xa xn xc) (tsL (wtL L) (chs (0 + (tot L : Nat)) M)).2 w2) (ry : FaultsC wr.heap.size (.slice ya yn yc) (fcs (0 + (tot L : Nat)) M) w2) (t2 : Keep (Rest wr.heap.size (N + 1) N) wr w2) :
    ∃ A2 F2 a2 f2 a3 f3 w3 w4, (Builtin.append_ #[23, 23] 23 #[.slice ca cn cc, .slice xa xn xc]).run Try.prog w2 = .ok (.slice A2 a2 a3) w3 ∧ (Builtin.append_ #[24, 24] 24 #[.slice fa fn fc, .slice ya yn yc]).run Try.prog w3 = .ok (.slice F2 f2 f3) w4 ∧
      Pcs N (L ++ M) V w w4 (.slice A2 a2 a3) (.slice F2 f2 f3) ∧ N ≤ w4.heap.size := by
  have hch2 : Chars N (.slice ca cn cc) (toL L) w2 := keep_own hP.ch hP.str t2 (by decide) (by decide)
  have hfl2 : FaultsC N (.slice fa fn fc) (fcs 0 L) w2 := keep_own hP.fl hP.str t2 (by decide) (by decide)
  have hb : Below N w w2 := hP.below.trans (keep_below t2 hN (by omega) (Nat.le_refl _))
  have hz2 : N ≤ w2.heap.size := Nat.le_trans hN t2.size
  have l1 : (toL L).length ≤ 200000 := by have := tsL_len (chs 0 L) Ch0; rw [chs_length] at this; unfold toL; omega
  have l2 : (tsL (wtL L) (chs (0 + (tot L : Nat)) M)).2.length ≤ 200000 := by have := tsL_len (chs (0 + (tot L : Nat)) M) (wtL L); rw [chs_length] at this; omega
  have l3 := fcs_length L 0
  have l4 := fcs_length M (0 + (tot L : Nat))
  obtain ⟨A2, a2, a3, w3, hr1, c3, f3', y3, d3, b3⟩ := chars_join rfl hch2 rx hfl2 ry hz2 (by omega) (by omega) s2
  have hz3 : N ≤ w3.heap.size := Nat.le_trans hz2 b3.size
  obtain ⟨F2, f2, f3, w4, hr2, f4, c4, d4, b4⟩ := faults_join rfl f3' y3 c3 hz3 (by omega) (by omega) d3
  have ec : tsL Ch0 (chs 0 (L ++ M)) = ((tsL (wtL L) (chs (0 + (tot L : Nat)) M)).1, toL L ++ (tsL (wtL L) (chs (0 + (tot L : Nat)) M)).2) := by rw [chs_append, tsL_append]; rfl
  have et : (0 : Int) + ((tot (L ++ M) : Nat) : Int) = 0 + (tot L : Nat) + (tot M : Nat) := by rw [tot_append]; omega
  refine ⟨A2, F2, a2, f2, a3, f3, w3, w4, hr1, hr2, ⟨?_, ?_, ?_, (hb.trans b3).trans b4⟩, Nat.le_trans hz3 b4.size⟩
  · unfold wtL; rw [ec, et]; exact d4
  · unfold toL; rw [ec]; exact c4
  · rw [fcs_append]; exact f4

/-- The end. -/
theorem pcs_end {N : Nat} {L : List (Int × Nat)} {U : List UInt8} {w wr w2 : World} {s : List UInt8} {ca fa : Option Addr} {cn cc fn fc : Nat} {xa ya : Option Addr} {xn xc yn yc : Nat} {q : Int} {wt : Ch}
    (hP : Pcs N L U w wr (.slice ca cn cc) (.slice fa fn fc)) (hru : run [] s = (U, L)) (hN : N ≤ wr.heap.size) (hL : L.length ≤ 100000)
    (s2 : Strm (N + 1) N q [] wt w2) (rx : Chars wr.heap.size (.slice xa xn xc) ((tsL (wtL L) (chs (0 + (tot L : Nat)) (fin U))).2 ++ rel (tsL (wtL L) (chs (0 + (tot L : Nat)) (fin U))).1) w2) (ry : FaultsC wr.heap.size (.slice ya yn yc) (fcs (0 + (tot L : Nat)) (fin U)) w2) (t2 : Keep (Rest wr.heap.size (N + 1) N) wr w2) :
    ∃ A2 F2 a2 f2 a3 f3 w3 w4, (Builtin.append_ #[23, 23] 23 #[.slice ca cn cc, .slice xa xn xc]).run Try.prog w2 = .ok (.slice A2 a2 a3) w3 ∧ (Builtin.append_ #[24, 24] 24 #[.slice fa fn fc, .slice ya yn yc]).run Try.prog w3 = .ok (.slice F2 f2 f3) w4 ∧
      Chars N (.slice A2 a2 a3) (outc s) w4 ∧ FaultsC N (.slice F2 f2 f3) (fcs 0 (items s)) w4 ∧ Below N w w4 := by
  have hch2 : Chars N (.slice ca cn cc) (toL L) w2 := keep_own hP.ch hP.str t2 (by decide) (by decide)
  have hfl2 : FaultsC N (.slice fa fn fc) (fcs 0 L) w2 := keep_own hP.fl hP.str t2 (by decide) (by decide)
  have hb : Below N w w2 := hP.below.trans (keep_below t2 hN (by omega) (Nat.le_refl _))
  have hz2 : N ≤ w2.heap.size := Nat.le_trans hN t2.size
  have l1 : (toL L).length ≤ 200000 := by have := tsL_len (chs 0 L) Ch0; rw [chs_length] at this; unfold toL; omega
  have l0 := fin_few U
  have l2 : ((tsL (wtL L) (chs (0 + (tot L : Nat)) (fin U))).2 ++ rel (tsL (wtL L) (chs (0 + (tot L : Nat)) (fin U))).1).length ≤ 200000 := by
    have := tsL_len (chs (0 + (tot L : Nat)) (fin U)) (wtL L)
    have := rel_len (tsL (wtL L) (chs (0 + (tot L : Nat)) (fin U))).1
    rw [chs_length] at *
    rw [List.length_append]
    omega
  have l3 := fcs_length L 0
  have l4 := fcs_length (fin U) (0 + (tot L : Nat))
  obtain ⟨A2, a2, a3, w3, hr1, c3, f3', y3, d3, b3⟩ := chars_join rfl hch2 rx hfl2 ry hz2 (by omega) (by omega) s2
  have hz3 : N ≤ w3.heap.size := Nat.le_trans hz2 b3.size
  obtain ⟨F2, f2, f3, w4, hr2, f4, c4, d4, b4⟩ := faults_join rfl f3' y3 c3 hz3 (by omega) (by omega) d3
  obtain ⟨o1, o2⟩ := out_ok s
  rw [hru] at o1 o2
  refine ⟨A2, F2, a2, f2, a3, f3, w3, w4, hr1, hr2, ?_, ?_, (hb.trans b3).trans b4⟩
  · rw [← o1]; exact c4
  · rw [← o2]; exact f4

theorem pcs_start {N : Nat} {w w1 : World} (h : Strm (N + 1) N 0 [] Ch0 w1) (b : Below N w w1) : Pcs N [] [] w w1 (.slice none 0 0) (.slice none 0 0) :=
  ⟨h, World.ownsRow_nil _ _ _ _, World.ownsRow_nil _ _ _ _, b⟩
end Go.Proofs.Ytkphiopeclgffaa
