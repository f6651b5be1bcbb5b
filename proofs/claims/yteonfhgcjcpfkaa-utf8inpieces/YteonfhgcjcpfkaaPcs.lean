/- How far the law Utf8inPieces has come, piece by piece. -/
import Derived.Test.YteonfhgcjcpfkaaJoin
import Derived.Test.YteonfhgcjcpfkaaDecodes
namespace Go.Proofs.Yteonfhgcjcpfkaa
open Go.ChangeShapes Go.WideShapes Go.ChangeAt Go.RowKit Go.Joins

/-- The pieces so far are S: the decoder (the first new block) and what it has told. -/
structure Pcs (p : Int) (w wr : World) (S : ByteArray) (av fv : Value) : Prop where
  dec : Dec w.heap.size (p + (tot (run [] S.data.toList).2 : Nat)) (run [] S.data.toList).1 wr
  ch : Chars w.heap.size av (chs p (run [] S.data.toList).2) wr
  fl : Faults w.heap.size fv (fls p (run [] S.data.toList).2) wr
  below : Below w.heap.size w wr

theorem Pcs.under {p : Int} {w wr wn : World} {S : ByteArray} {av fv : Value} (h : Pcs p w wr S av fv) (b : Below wr.heap.size wr wn) : Pcs p w wn S av fv :=
  ⟨dec_below h.dec b, own_below h.ch b, own_below h.fl b, h.below.trans (b.mono h.below.size)⟩

theorem sure_le (l : List UInt8) : sure l ≤ l.length := by
  obtain ⟨_, _, r3, r4⟩ := run_ok l [] trivial
  rw [List.nil_append] at r3
  rw [r3]
  simp at r4
  omega

theorem cat_list (S t : ByteArray) : (S ++ t).data.toList = S.data.toList ++ t.data.toList := by simp [ByteArray.data_append]

/-- One piece more. -/
theorem pcs_next {p : Int} {w wr w2 : World} {S t : ByteArray} {ca fa : Option Addr} {cn cc fn fc : Nat} {U : List UInt8} {L : List (Int × Nat)} {xa ya : Option Addr} {xn xc yn yc : Nat}
    (hru : run [] S.data.toList = (U, L)) (hP : Pcs p w wr S (.slice ca cn cc) (.slice fa fn fc)) (hD : Dec w.heap.size (p + (tot L : Nat)) U wr) (hcn : (chs p L).length = cn) (hfn : (fls p L).length = fn) (hz : w.heap.size ≤ wr.heap.size) (hb1 : cn ≤ 500000) (hb2 : fn ≤ 500000) (hb3 : t.size ≤ 20000)
    (d2 : Dec w.heap.size (p + (tot L : Nat) + (tot (run U t.data.toList).2 : Nat)) (run U t.data.toList).1 w2) (rx : Chars wr.heap.size (.slice xa xn xc) (chs (p + (tot L : Nat)) (run U t.data.toList).2) w2) (ry : Faults wr.heap.size (.slice ya yn yc) (fls (p + (tot L : Nat)) (run U t.data.toList).2) w2) (t2 : Turn wr.heap.size w.heap.size wr w2) :
    ∃ A2 F2 a2 f2 a3 f3 w3 w4 V M, (Builtin.append_ #[23, 23] 23 #[.slice ca cn cc, .slice xa xn xc]).run Try.prog w2 = .ok (.slice A2 a2 a3) w3 ∧ (Builtin.append_ #[24, 24] 24 #[.slice fa fn fc, .slice ya yn yc]).run Try.prog w3 = .ok (.slice F2 f2 f3) w4 ∧
      Pcs p w w4 (S ++ t) (.slice A2 a2 a3) (.slice F2 f2 f3) ∧ Dec w.heap.size (p + (sure (S ++ t).data.toList : Nat)) V w4 ∧ Below w.heap.size w w4 ∧ w.heap.size ≤ w4.heap.size ∧ M = tot L := by
  have hch : Chars w.heap.size (.slice ca cn cc) (chs p L) wr := by have := hP.ch; rw [hru] at this; exact this
  have hfl : Faults w.heap.size (.slice fa fn fc) (fls p L) wr := by have := hP.fl; rw [hru] at this; exact this
  have hch2 : Chars w.heap.size (.slice ca cn cc) (chs p L) w2 := turn_own hch hD t2 (by decide)
  have hfl2 : Faults w.heap.size (.slice fa fn fc) (fls p L) w2 := turn_own hfl hD t2 (by decide)
  have hb : Below w.heap.size w w2 := hP.below.trans (t2.below hz hz (Nat.le_refl _))
  have hfew := run_few t.data.toList U
  have htl : t.data.toList.length = t.size := Array.length_toList
  rw [htl] at hfew
  obtain ⟨A2, a2, a3, w3, hr1, c3, f3', y3, d3, b3⟩ := chars_join rfl hch2 rx hfl2 ry hb.size (by omega) (by rw [chs_length]; omega) d2
  have hb3' : Below w.heap.size w w3 := hb.trans b3
  obtain ⟨F2, f2, f3, w4, hr2, f4, c4, d4, b4⟩ := faults_join rfl f3' y3 c3 hb3'.size (by omega) (by have := fls_length (run U t.data.toList).2 (p + (tot L : Nat)); omega) d3
  have hb4 : Below w.heap.size w w4 := hb3'.trans b4
  have hra := run_append S.data.toList t.data.toList []
  rw [hru] at hra
  have hra2 : run [] (S ++ t).data.toList = ((run U t.data.toList).1, L ++ (run U t.data.toList).2) := by rw [cat_list]; exact hra
  have e1 : p + (tot L : Nat) + (tot (run U t.data.toList).2 : Nat) = p + ((tot (L ++ (run U t.data.toList).2) : Nat) : Int) := by rw [tot_append]; omega
  obtain ⟨_, _, s3, _⟩ := run_ok (S ++ t).data.toList [] trivial
  rw [List.nil_append, hra2] at s3
  rw [e1] at d4
  refine ⟨A2, F2, a2, f2, a3, f3, w3, w4, _, _, hr1, hr2, ⟨?_, ?_, ?_, hb4⟩, by rw [s3]; exact d4, hb4, hb4.size, rfl⟩
  · rw [hra2]; exact d4
  · rw [hra2, chs_append]; exact c4
  · rw [hra2, fls_append]; exact f4

/-- The end. -/
theorem pcs_end {p : Int} {w wr w2 : World} {S : ByteArray} {ca fa : Option Addr} {cn cc fn fc : Nat} {U : List UInt8} {L : List (Int × Nat)} {xa ya : Option Addr} {xn xc yn yc : Nat}
    (hP : Pcs p w wr S (.slice ca cn cc) (.slice fa fn fc)) (hI : items S.data.toList = L ++ fin U) (hD : Dec w.heap.size (p + (tot L : Nat)) U wr) (hcn : (chs p L).length = cn) (hfn : (fls p L).length = fn) (hz : w.heap.size ≤ wr.heap.size) (hb1 : cn ≤ 500000) (hb2 : fn ≤ 500000)
    (hru : run [] S.data.toList = (U, L))
    (d2 : Dec w.heap.size (p + (tot L : Nat) + (U.length : Nat)) [] w2) (rx : Chars wr.heap.size (.slice xa xn xc) (chs (p + (tot L : Nat)) (fin U)) w2) (ry : Faults wr.heap.size (.slice ya yn yc) (fls (p + (tot L : Nat)) (fin U)) w2) (t2 : Turn wr.heap.size w.heap.size wr w2) :
    ∃ A2 F2 a2 f2 a3 f3 w3 w4, (Builtin.append_ #[23, 23] 23 #[.slice ca cn cc, .slice xa xn xc]).run Try.prog w2 = .ok (.slice A2 a2 a3) w3 ∧ (Builtin.append_ #[24, 24] 24 #[.slice fa fn fc, .slice ya yn yc]).run Try.prog w3 = .ok (.slice F2 f2 f3) w4 ∧
      Chars w.heap.size (.slice A2 a2 a3) (chs p (items S.data.toList)) w4 ∧ Faults w.heap.size (.slice F2 f2 f3) (fls p (items S.data.toList)) w4 ∧ Dec w.heap.size (p + (tot L : Nat) + (U.length : Nat)) [] w4 ∧ Below w.heap.size w w4 := by
  have hch : Chars w.heap.size (.slice ca cn cc) (chs p L) wr := by have := hP.ch; rw [hru] at this; exact this
  have hfl : Faults w.heap.size (.slice fa fn fc) (fls p L) wr := by have := hP.fl; rw [hru] at this; exact this
  have hch2 : Chars w.heap.size (.slice ca cn cc) (chs p L) w2 := turn_own hch hD t2 (by decide)
  have hfl2 : Faults w.heap.size (.slice fa fn fc) (fls p L) w2 := turn_own hfl hD t2 (by decide)
  have hb : Below w.heap.size w w2 := hP.below.trans (t2.below hz hz (Nat.le_refl _))
  have hfin : (fin U).length ≤ 1 := by unfold fin; split <;> simp
  obtain ⟨A2, a2, a3, w3, hr1, c3, f3', y3, d3, b3⟩ := chars_join rfl hch2 rx hfl2 ry hb.size (by omega) (by rw [chs_length]; omega) d2
  have hb3' : Below w.heap.size w w3 := hb.trans b3
  obtain ⟨F2, f2, f3, w4, hr2, f4, c4, d4, b4⟩ := faults_join rfl f3' y3 c3 hb3'.size (by omega) (by have := fls_length (fin U) (p + (tot L : Nat)); omega) d3
  have hb4 : Below w.heap.size w w4 := hb3'.trans b4
  exact ⟨A2, F2, a2, f2, a3, f3, w3, w4, hr1, hr2, by rw [hI, chs_append]; exact c4, by rw [hI, fls_append]; exact f4, d4, hb4⟩

theorem pcs_start {p : Int} {w w1 : World} (h : DecIs w.heap.size p p F0 w1) (b : Below w.heap.size w w1) : Pcs p w w1 ⟨#[]⟩ (.slice none 0 0) (.slice none 0 0) :=
  ⟨by
    show DecIs w.heap.size (p + ((0 : Nat) : Int)) (p + ((0 : Nat) : Int) + ((0 : Nat) : Int)) F0 w1
    have e : p + ((0 : Nat) : Int) = p := by omega
    rw [e, e]; exact h, World.ownsRow_nil _ _ _ _, World.ownsRow_nil _ _ _ _, b⟩
end Go.Proofs.Yteonfhgcjcpfkaa
