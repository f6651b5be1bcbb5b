/- The document's Names: those that count, by their bytes. -/
import Derived.Test.YtkbakbacomidbaaProg
import Derived.BigQuiet
import Derived.BigRegion
import Derived.Deep.DeepCutAuto
import Derived.Deep.QuietTactic
import Derived.Deep.RegionLaw
import Derived.Deep.Upon
import Derived.Laws.AppendOwn
import Derived.Maps.AppendAt
import Derived.Maps.OwnSet
import Derived.Shelf.Small.Strs
import Derived.Shelf.Strings.Builder1
import Derived.Shelf.Strings.BuilderF
import Derived.Shelf.Strings.BuilderK
import Derived.Shelf.Strings.BuilderRune
import Derived.Shelf.Strings.Prefix
import Derived.WalkArith
import Derived.WalkKit
import Derived.WalkLawsBesides
import Derived.WalkMore
import Derived.WalkSpells
import Derived.Test.YtkbakbacomidbaaZx
namespace Go.Proofs.Ytkbakbacomidbaa.G6
open Go.RowKit
def lessK (A : List Rf) (k : Nat) (p : Path) : Bool := match A[k]? with
  | some y => ltP y.nm p
  | none => false
def sameK (A : List Rf) (k : Nat) (p : Path) : Bool := match A[k]? with
  | some y => y.nm == p
  | none => false
theorem ok_of {nm : ByteArray} {r : Int} (h1 : 0 < nm.size) (h2 : nm.size ≤ 8) : (⟨nm, r⟩ : Rf).ok = true := by
  unfold Rf.ok
  simp [h1, h2]
theorem ok_not {nm : ByteArray} {r : Int} (h : ¬ (0 < nm.size ∧ nm.size ≤ 8)) : (⟨nm, r⟩ : Rf).ok = false := by
  unfold Rf.ok
  by_cases h1 : 0 < nm.size
  · have h2 : ¬ nm.size ≤ 8 := fun h2 => h ⟨h1, h2⟩
    simp [h2]
  · simp [h1]
theorem empty_no {nm : ByteArray} (h : 0 < nm.size) : (nm.toList == ([] : List UInt8)) = false ∧ nm.toList.isEmpty = false ∧ ¬ nm.toList = [] := by
  have hl : nm.toList.length = nm.size := by rw [ByteArray.toList_eq]; exact Array.length_toList
  have : ¬ nm.toList = [] := fun e => by rw [e] at hl; simp at hl; omega
  refine ⟨?_, ?_, this⟩
  · cases h : nm.toList with
    | nil => exact absurd h this
    | cons a b => rfl
  · cases h : nm.toList with
    | nil => exact absurd h this
    | cons a b => rfl
theorem empty_yes {nm : ByteArray} (h : nm.size = 0) : nm = ⟨#[]⟩ := by
  apply bytes_eq
  have hl : nm.data.toList.length = nm.size := Array.length_toList
  rw [h] at hl
  exact List.eq_nil_of_length_eq_zero hl
set_option linter.unusedSimpArgs false in
set_option maxRecDepth 10000 in
set_option maxHeartbeats 4000000 in
theorem names_any {w : World} {lo : Option Addr} {l : List Rf} (len cap : Nat) (hrow : RefRow w lo l) (hlen : l.length = len) (hl : len ≤ 300) :
    Calls Try.prog 55 #[.slice lo len cap] w fun e w' => ∃ ao n c, e = .returned (.slice ao n c) ∧ (allP l).length = n ∧ RefRow w' ao (allP l) ∧ Below w.heap.size w w' := by
  have HR : Hid (RefRow w lo l ∧ l.length = len) := ⟨hrow, hlen⟩
  clear hrow hlen
  go_enter Try.func55, Try.ntmps55
  go_wp2_with fail
  go_loopg [3, 4] len (fun g s3 s4 wr => ∃ (i n c : Nat) (ao : Option Addr), s3 = .slice ao n c ∧ s4 = .int .i64 i ∧ i + g = len ∧ n ≤ i ∧ n ≤ c ∧ c ≤ maxLen ∧ RefRow wr ao (allP (l.take i)) ∧ (allP (l.take i)).length = n ∧ Below w.heap.size w wr)
  case atStart => exact ⟨0, 0, 0, none, rfl, rfl, by omega, Nat.le_refl _, Nat.le_refl _, Nat.zero_le _, fun i x hx => by simp [all_len, cnt] at hx, by rw [all_len]; rfl, Below.refl _ _⟩
  case round =>
    obtain ⟨i, n, c, ao, rfl, rfl, hig, hni, hnc, hcm, hA, hAn, hbe⟩ := hrel
    obtain ⟨W, rfl⟩ : ∃ W, W = wr := ⟨_, rfl⟩
    have HM : Hid (RefRow W ao (allP (l.take i)) ∧ (allP (l.take i)).length = n ∧ Below w.heap.size w W) := ⟨hA, hAn, hbe⟩
    have hcm' : c ≤ 9223372036854775807 := by unfold maxLen at hcm; omega
    clear hA hAn hbe
    cases gk with
    | zero =>
      obtain rfl : i = len := by omega
      have hg0 : decide ((i : Int) < (i : Int)) = false := decide_eq_false (by omega)
      have HF : Hid ((allP l).length = n ∧ RefRow W ao (allP l) ∧ Below w.heap.size w W) := by
        have := HM.out
        rw [List.take_of_length_le (by rw [HR.out.2]; exact Nat.le_refl _)] at this
        exact ⟨this.2.1, this.1, this.2.2⟩
      go_wp2_with fail
      go_ret
      exact ⟨ao, n, c, rfl, HF.out⟩
    | succ g =>
      have hin : i < len := by omega
      have hil : i < l.length := by rw [HR.out.2]; exact hin
      have hlt : decide ((i : Int) < (len : Int)) = true := decide_eq_true (by omega)
      obtain ⟨x, hx⟩ : ∃ x, l[i]? = some x := ⟨_, List.getElem?_eq_getElem hil⟩
      obtain ⟨b1, o1, rfl, h1, c1, c2⟩ := (HR.out.1.below (HM.out.2.2)) i x hx
      have htk : l.take (i + 1) = l.take i ++ [x] := by
        rw [← List.take_append_getElem hil]
        congr 2
        have := List.getElem?_eq_getElem hil
        rw [hx] at this
        exact (Option.some.inj this).symm
      obtain ⟨nm, r⟩ := x
      simp only at c1 c2
      have HT : Hid (l.take (i + 1) = l.take i ++ [⟨nm, r⟩]) := htk
      clear htk hx hil
      by_cases hok : 0 < nm.size ∧ nm.size ≤ 8
      · have HO : Hid ((⟨nm, r⟩ : Rf).ok = true) := ok_of hok.1 hok.2
        obtain ⟨q1, q2, q3⟩ := empty_no hok.1
        have hz8 := hok.2
        have hz8' : decide ((8 : Int) < (nm.size : Int)) = false := decide_eq_false (by omega)
        go_wp2_with fail
        obtain ⟨A, hA⟩ : ∃ A, allP (l.take i) = A := ⟨_, rfl⟩
        have HA : Hid (allP (l.take i) = A ∧ RefRow W ao A ∧ A.length = n ∧ Below w.heap.size w W) := by rw [hA] at HM; exact ⟨hA, HM.out.1, HM.out.2.1, HM.out.2.2⟩
        clear hA HM q1 q2 q3 hz8' hlt hok
        go_loopg [5] n (fun g2 kv wr2 => ∃ (k q : Nat), kv = .int .i64 k ∧ k + g2 = n ∧ (∀ j y, j < k → A[j]? = some y → ltP y.nm nm.data.toList = true) ∧ wr2 = W.drewN q)
        case atStart => exact ⟨0, 0, rfl, by omega, fun j y hj => by omega, rfl⟩
        case round =>
          obtain ⟨k, q, rfl, hkg, hlo, rfl⟩ := hrel
          have HL : Hid (∀ j y, j < k → A[j]? = some y → ltP y.nm nm.data.toList = true) := hlo
          clear hlo
          go_upto_region 7 with fail
          go_cut [43] (fun sv wc => ∃ q', sv = .bool (lessK A k nm.data.toList) ∧ wc = W.drewN q')
          case first =>
            by_cases hkn : k < n
            · have hgd : decide ((k : Int) < (n : Int)) = true := decide_eq_true (by omega)
              have hkl : k < A.length := by rw [HA.out.2.2.1]; exact hkn
              obtain ⟨y, hy⟩ : ∃ y, A[k]? = some y := ⟨_, List.getElem?_eq_getElem hkl⟩
              obtain ⟨b2, o2, rfl, h2, c3, c4⟩ := HA.out.2.1 k y hy
              obtain ⟨yn, yr⟩ := y
              simp only at c3 c4
              obtain ⟨lb, hlb⟩ : ∃ lb, Op.bytesLess yn.toList nm.toList = lb := ⟨_, rfl⟩
              have HRR : Hid (lessK A k nm.data.toList = lb) := by
                show _ = _
                unfold lessK
                rw [hy, ← hlb, less_eq, ByteArray.toList_eq, ByteArray.toList_eq]
              clear hy hkl
              go_quiet (fail)
              go_wp2_with fail
              go_meet
              exact ⟨_, by rw [HRR.out], World.drewN_drewN _ _ _⟩
            · have hgd : decide ((k : Int) < (n : Int)) = false := decide_eq_false (by omega)
              have HRR : Hid (lessK A k nm.data.toList = false) := by
                show _ = _
                unfold lessK
                rw [List.getElem?_eq_none (by rw [HA.out.2.2.1]; omega)]
              go_quiet (fail)
              go_wp2_with fail
              go_meet
              exact ⟨_, by rw [HRR.out], World.drewN_drewN _ _ _⟩
          case rest =>
            obtain ⟨q', hu, rfl⟩ := hcut
            cases hbb : lessK A k nm.data.toList with
            | true =>
              rw [hbb] at hu
              subst hu
              obtain ⟨y, hy⟩ : ∃ y, A[k]? = some y := by
                cases hy : A[k]? with
                | none => unfold lessK at hbb; rw [hy] at hbb; cases hbb
                | some y => exact ⟨y, rfl⟩
              have hyl : ltP y.nm nm.data.toList = true := by unfold lessK at hbb; rw [hy] at hbb; exact hbb
              have hkn : k < n := by rw [← HA.out.2.2.1]; exact (List.getElem?_eq_some_iff.1 hy).1
              have HL2 : Hid (∀ j y, j < k + 1 → A[j]? = some y → ltP y.nm nm.data.toList = true) := fun j z hj hz => by
                by_cases hjk : j = k
                · subst hjk; rw [hy] at hz; cases hz; exact hyl
                · exact HL.out j z (by omega) hz
              clear hbb hy hyl HL
              go_wp2_with fail
              go_roundg (gk - 1)
              case measure => omega
              case rel => exact ⟨k + 1, _, by go_num, by omega, HL2.out, rfl⟩
            | false =>
              rw [hbb] at hu
              subst hu
              have HB : Hid (lessK A k nm.data.toList = false) := hbb
              have hkn : k ≤ n := by omega
              clear hbb
              go_upto_region 9 with fail
              go_cut [62] (fun sv wc => ∃ q', sv = .bool (sameK A k nm.data.toList) ∧ wc = W.drewN q')
              case first =>
                by_cases hkn : k < n
                · have hgd : decide ((k : Int) < (n : Int)) = true := decide_eq_true (by omega)
                  have hkl : k < A.length := by rw [HA.out.2.2.1]; exact hkn
                  obtain ⟨y, hy⟩ : ∃ y, A[k]? = some y := ⟨_, List.getElem?_eq_getElem hkl⟩
                  obtain ⟨b2, o2, rfl, h2, c3, c4⟩ := HA.out.2.1 k y hy
                  obtain ⟨yn, yr⟩ := y
                  simp only at c3 c4
                  obtain ⟨lb, hlb⟩ : ∃ lb, (yn.toList == nm.toList) = lb := ⟨_, rfl⟩
                  have HRR : Hid (sameK A k nm.data.toList = lb) := by
                    show _ = _
                    unfold sameK
                    rw [hy, ← hlb, ByteArray.toList_eq, ByteArray.toList_eq]
                  clear hy hkl
                  go_quiet (fail)
                  go_wp2_with fail
                  go_meet
                  exact ⟨_, by rw [HRR.out], World.drewN_drewN _ _ _⟩
                · have hgd : decide ((k : Int) < (n : Int)) = false := decide_eq_false (by omega)
                  have HRR : Hid (sameK A k nm.data.toList = false) := by
                    show _ = _
                    unfold sameK
                    rw [List.getElem?_eq_none (by rw [HA.out.2.2.1]; omega)]
                  go_quiet (fail)
                  go_wp2_with fail
                  go_meet
                  exact ⟨_, by rw [HRR.out], World.drewN_drewN _ _ _⟩
              case rest =>
                obtain ⟨q2, hu, rfl⟩ := hcut
                cases hbb : sameK A k nm.data.toList with
                | true =>
                  rw [hbb] at hu
                  subst hu
                  obtain ⟨y, hy⟩ : ∃ y, A[k]? = some y := by
                    cases hy : A[k]? with
                    | none => unfold sameK at hbb; rw [hy] at hbb; cases hbb
                    | some y => exact ⟨y, rfl⟩
                  have hyl : y.nm = nm.data.toList := by unfold sameK at hbb; rw [hy] at hbb; exact eq_of_beq hbb
                  have HF : Hid (RefRow (W.drewN q2) ao (allP (l.take (i + 1))) ∧ (allP (l.take (i + 1))).length = n ∧ Below w.heap.size w (W.drewN q2)) := by
                    show _ ∧ _ ∧ _
                    rw [HT.out, ins_same (x := ⟨nm, r⟩) (y := y) (by rw [HA.out.1]; exact List.mem_of_getElem? hy) hyl, HA.out.1]
                    exact ⟨HA.out.2.1.below (below_drewN (Below.refl _ _) _), HA.out.2.2.1, below_drewN HA.out.2.2.2 _⟩
                  clear hbb hy hyl
                  go_wp2_with fail
                  go_roundg g
                  case measure => omega
                  case rel => exact ⟨i + 1, n, c, ao, rfl, by go_num, by omega, by omega, hnc, hcm, HF.out⟩
                | false =>
                  rw [hbb] at hu
                  subst hu
                  have HI : Hid (allP (l.take (i + 1)) = A.take k ++ [⟨nm, r⟩] ++ A.drop k) := by
                    show _ = _
                    rw [HT.out, ← HA.out.1]
                    refine ins_new HO.out (fun j y hj hy => HL.out j y hj (by rw [← HA.out.1]; exact hy)) fun y hy => ?_
                    rw [HA.out.1] at hy
                    have h1 := HB.out
                    unfold lessK at h1
                    unfold sameK at hbb
                    rw [hy] at h1 hbb
                    exact ⟨h1, fun e => by change (y.nm == nm.data.toList) = false at hbb; rw [e] at hbb; simp at hbb⟩
                  clear hbb
                  have hB0 : Below W.heap.size W (W.drewN q2) := below_drewN (Below.refl _ _) _
                  have d1 := (hB0.cell (p := ⟨b1, o1 + i * 2, none⟩) h1).trans c1
                  have d2 := (hB0.cell (p := ⟨b1, o1 + i * 2 + 1, none⟩) h1).trans c2
                  have HV : Hid (RefRow (W.drewN q2) ao A ∧ Below w.heap.size w (W.drewN q2)) := ⟨HA.out.2.1.below hB0, below_drewN HA.out.2.2.2 _⟩
                  have hbV : b1 < (W.drewN q2).heap.size := h1
                  go_upto_region 10 with fail
                  generalize W.drewN q2 = V at HV d1 d2 hbV ⊢
                  clear c1 c2 h1 hB0
                  have hkc : k ≤ c := by omega
                  have hkc2 : (k : Int) ≤ (c : Int) := by omega
                  have hkn2 : (k : Int) ≤ (n : Int) := by omega
                  have hAn := HA.out.2.2.1
                  obtain ⟨v1, w1, v2, w2, v3, w3, e1, e2, e3, ⟨bo3, n3, c3, rfl, p1, p2, p3, p4, p5⟩, hw1⟩ := put_a (W := V) (A := A) (n := n - k) c (c - k) ⟨nm, r⟩ (by omega) (by omega) (ref_take HV.out.1 k) (ref_drop HV.out.1 k c (by omega)) (by omega)
                  obtain ⟨v4, w4, v5, w5, v6, w6, e4, e5, e6, ⟨bo6, n6, c6, rfl, p6, p7, p8, p9, p0⟩⟩ := put_b (W := V) (A := A) (n := n - k) c (c - k) ⟨nm, r⟩ (by omega) (by omega) (ref_take HV.out.1 k) (ref_drop HV.out.1 k c (by omega)) (by omega)
                  have d3 := (hw1.cell (p := ⟨b1, o1 + i * 2, none⟩) hbV).trans d1
                  have d4 := (hw1.cell (p := ⟨b1, o1 + i * 2 + 1, none⟩) hbV).trans d2
                  have hbw1 : b1 < w1.heap.size := Nat.lt_of_lt_of_le hbV hw1.size
                  have hz3 : n3 ≤ i + 1 := by rw [← p1]; simp; omega
                  have hz6 : n6 ≤ i + 1 := by rw [← p6]; simp; omega
                  have HP : Hid (RefRow w3 bo3 (allP (l.take (i + 1))) ∧ (allP (l.take (i + 1))).length = n3 ∧ Below w.heap.size w w3) := by
                    show _ ∧ _ ∧ _
                    rw [HI.out]
                    exact ⟨p2, p1, HV.out.2.trans (p5.mono HV.out.2.size)⟩
                  have HQ : Hid (RefRow w6 bo6 (allP (l.take (i + 1))) ∧ (allP (l.take (i + 1))).length = n6 ∧ Below w.heap.size w w6) := by
                    show _ ∧ _ ∧ _
                    rw [HI.out]
                    exact ⟨p7, p6, HV.out.2.trans (p0.mono HV.out.2.size)⟩
                  clear p1 p2 p5 p6 p7 p0 hw1 hAn
                  simp only at e1 e2 e3 e4 e5 e6
                  go_region_law (first
                    | (refine step_append_eq rfl _ _ 85 85 rfl _ _ (by simp [Act.eval, Act.put]) (by simp [Act.eval, Act.put]) e1 ?_)
                    | (refine step_append_eq rfl _ _ 85 85 rfl _ _ (by simp [Act.eval, Act.put]) (by simp [Act.eval, Act.put]) e2 ?_)
                    | (refine step_append_eq rfl _ _ 85 85 rfl _ _ (by simp [Act.eval, Act.put]) (by simp [Act.eval, Act.put]) e3 ?_)
                    | (refine step_append_eq rfl _ _ 85 85 rfl _ _ (by simp [Act.eval, Act.put]) (by simp [Act.eval, Act.put]) e4 ?_)
                    | (refine step_append_eq rfl _ _ 85 85 rfl _ _ (by simp [Act.eval, Act.put]) (by simp [Act.eval, Act.put]) e5 ?_)
                    | (refine step_append_eq rfl _ _ 85 85 rfl _ _ (by simp [Act.eval, Act.put]) (by simp [Act.eval, Act.put]) e6 ?_))
                  all_goals
                    clear e1 e2 e3 e4 e5 e6
                    go_wp2_with fail
                  all_goals
                    go_roundg g
                    case measure => omega
                    case rel =>
                      first
                        | exact ⟨i + 1, n3, c3, bo3, rfl, by go_num, by omega, hz3, p3, p4, HP.out⟩
                        | exact ⟨i + 1, n6, c6, bo6, rfl, by go_num, by omega, hz6, p8, p9, HQ.out⟩
      · have HF : Hid (RefRow W ao (allP (l.take (i + 1))) ∧ (allP (l.take (i + 1))).length = n ∧ Below w.heap.size w W) := by
          show _ ∧ _ ∧ _
          rw [HT.out, ins_skip (ok_not hok)]
          exact HM.out
        by_cases h0 : nm.size = 0
        · obtain rfl := empty_yes h0
          go_wp2_with fail
          go_roundg g
          case measure => omega
          case rel => exact ⟨i + 1, n, c, ao, rfl, by go_num, by omega, by omega, hnc, hcm, HF.out⟩
        · obtain ⟨q1, q2, q3⟩ := empty_no (by omega : 0 < nm.size)
          have hz8' : decide ((8 : Int) < (nm.size : Int)) = true := decide_eq_true (by omega)
          go_wp2_with fail
          go_roundg g
          case measure => omega
          case rel => exact ⟨i + 1, n, c, ao, rfl, by go_num, by omega, by omega, hnc, hcm, HF.out⟩
end Go.Proofs.Ytkbakbacomidbaa.G6
namespace Go.Proofs.Ytkbakbacomidbaa.G6
open Go.RowKit
theorem rlong_best {w : World} {ao : Option Addr} {L : List Rf} (n cap : Nat) (s : ByteArray) (ha : RefRow w ao (allP L)) (hn : (allP L).length = n) (hn2 : n ≤ 100000) :
    Calls Try.prog 57 #[.slice ao n cap, .string s] w fun e w' => e = .returned (.tuple #[.int .i64 (best L s.data.toList s.size).1, .int .i64 ((best L s.data.toList s.size).2 : Nat)]) ∧ Below w.heap.size w w' := by
  have h := rlong_any n cap s ha hn hn2 (fun x hx => by
    have h1 := (val_len ((allP_mem x).1 hx)).2
    have h2 : x.nm.length = x.n.size := Array.length_toList
    omega)
  rw [lg_best] at h
  have h2 : s.data.toList.length = s.size := Array.length_toList
  rw [h2] at h
  exact h
theorem rgoes_goes {w : World} {ao : Option Addr} {L : List Rf} (n cap : Nat) (s : ByteArray) (ha : RefRow w ao (allP L)) (hn : (allP L).length = n) (hn2 : n ≤ 100000) :
    Calls Try.prog 59 #[.slice ao n cap, .string s] w fun e w' => e = .returned (.bool (goes L s.data.toList)) ∧ w' = w := by
  have h := rgoes_any n cap s ha hn hn2
  rw [any_goes] at h
  exact h
end Go.Proofs.Ytkbakbacomidbaa.G6
