/- The document's Sorted: its answer is new memory. -/
import Derived.Test.YtdpibnmbgjhohaaIa
import Derived.Test.YtdpibnmbgjhohaaAk
namespace Go.Proofs.Ytdpibnmbgjhohaa
open Go.RowKit

/-- A row of one's own by its place. -/
theorem row_at2 {w : World} {B : Nat} {v : Value} {L : List At} (h : RowIs w B v L) : ∃ ao cap, v = .slice ao L.length cap ∧ AtRow w ao L ∧ L.length ≤ cap ∧ cap ≤ maxLen ∧ ∀ a : Addr, ao = some a → B ≤ a.block := by
  obtain ⟨ao, cap, rfl, h1, h2, h3⟩ := row_at h
  refine ⟨ao, cap, rfl, h1, h2, h3, fun a ha => ?_⟩
  rcases h.2 with ⟨he, _⟩ | ⟨g, cap', cur, he, hB, _⟩
  · simp only [Value.slice.injEq] at he
    rw [he.1] at ha
    cases ha
  · simp only [Value.slice.injEq] at he
    rw [he.1] at ha
    cases ha
    exact hB
/-- A row of attributes, made since W. -/
def PutN (W : World) (L : List At) (v : Value) (w : World) : Prop :=
  ∃ ao n c, v = .slice ao n c ∧ L.length = n ∧ AtRow w ao L ∧ n ≤ c ∧ c ≤ maxLen ∧ Below W.heap.size W w ∧ ∀ a : Addr, ao = some a → W.heap.size ≤ a.block
theorem ins2_a {W : World} {ao bo : Option Addr} {A : List At} {k n : Nat} (cap c2 : Nat) (x : At) (hk : k ≤ A.length) (hn : A.length ≤ 4000) (h1 : AtRow W ao (A.take k)) (h2 : AtRow W bo (A.drop k)) (hnk : A.length - k = n) :
    ∃ v1 w1 v2 w2 v3 w3, (Builtin.append_ #[22, 22] 22 #[.slice none 0 0, .slice ao k cap]).run Try.prog W.drew = .ok v1 w1 ∧
      (Builtin.append_ #[22, 22] 22 #[v1, .slice (some ⟨w1.heap.size, 0, none⟩) 1 1]).run Try.prog (w1.alloc (.cells #[.string x.n, .string x.v] 53)) = .ok v2 w2 ∧
      (Builtin.append_ #[22, 22] 22 #[v2, .slice bo n c2]).run Try.prog w2 = .ok v3 w3 ∧ PutN W (A.take k ++ [x] ++ A.drop k) v3 w3 ∧ Below W.heap.size W w1 := by
  subst hnk
  have hlk : (A.take k).length = k := by rw [List.length_take]; omega
  have hdk : (A.drop k).length = A.length - k := List.length_drop
  have bW : Below W.heap.size W W.drew := (Below.refl _ _).drew
  obtain ⟨v1, w1, e1, r1, f1⟩ := row_more (w := W.drew) (B := W.heap.size) (L := []) (World.ownsRow_nil _ _ _ _) ao cap (h1.below bW) (Nat.le_refl _) (by simp) (by omega)
  rw [hlk] at e1
  rw [List.nil_append] at r1
  have b1 : Below W.heap.size W w1 := bW.trans (lfr_below f1 (World.ownsRow_nil _ _ 53 2) (Nat.le_refl _))
  obtain ⟨w1', hw1'⟩ : ∃ w1', w1' = w1.alloc (.cells #[.string x.n, .string x.v] 53) := ⟨_, rfl⟩
  have b1' : Below w1.heap.size w1 w1' := by rw [hw1']; exact (Below.refl _ _).alloc (Nat.le_refl _) _
  have o1 := at_one8 w1 x
  rw [← hw1'] at o1
  have r1' : RowIs w1' W.heap.size v1 (A.take k) := own_below r1 b1'
  have bb1 : Below W.heap.size W w1' := b1.trans (b1'.mono b1.size)
  obtain ⟨v2, w2, e2, r2, f2⟩ := row_more r1' _ 1 o1 bb1.size (by omega) (by simp)
  have b2 : Below W.heap.size W w2 := bb1.trans (lfr_below f2 r1' bb1.size)
  obtain ⟨v3, w3, e3, r3, f3⟩ := row_more r2 _ c2 (h2.below b2) b2.size (by simp; omega) (by omega)
  have b3 : Below W.heap.size W w3 := b2.trans (lfr_below f3 r2 b2.size)
  rw [hdk] at e3
  rw [hw1'] at e2
  obtain ⟨co, c3, rfl, g1, g2, g3, g4⟩ := row_at2 r3
  exact ⟨v1, w1, v2, w2, _, w3, e1, e2, e3, ⟨co, _, c3, rfl, rfl, g1, g2, g3, b3, g4⟩, b1⟩

theorem ins2_b {W : World} {ao bo : Option Addr} {A : List At} {k n : Nat} (cap c2 : Nat) (x : At) (hk : k ≤ A.length) (hn : A.length ≤ 4000) (h1 : AtRow W ao (A.take k)) (h2 : AtRow W bo (A.drop k)) (hnk : A.length - k = n) :
    ∃ v1 w1 v2 w2 v3 w3, (Builtin.append_ #[22, 22] 22 #[.slice none 0 0, .slice ao k cap]).run Try.prog (W.alloc (.cells #[.string x.n, .string x.v] 53)).drew = .ok v1 w1 ∧
      (Builtin.append_ #[22, 22] 22 #[v1, .slice (some ⟨W.heap.size, 0, none⟩) 1 1]).run Try.prog w1 = .ok v2 w2 ∧
      (Builtin.append_ #[22, 22] 22 #[v2, .slice bo n c2]).run Try.prog w2 = .ok v3 w3 ∧ PutN W (A.take k ++ [x] ++ A.drop k) v3 w3 := by
  subst hnk
  have hlk : (A.take k).length = k := by rw [List.length_take]; omega
  have hdk : (A.drop k).length = A.length - k := List.length_drop
  obtain ⟨V, hV⟩ : ∃ V, V = (W.alloc (.cells #[.string x.n, .string x.v] 53)).drew := ⟨_, rfl⟩
  have bV : Below W.heap.size W V := by rw [hV]; exact ((Below.refl _ _).alloc (Nat.le_refl _) _).drew
  have hVs : V.heap.size = W.heap.size + 1 := by rw [hV]; simp [World.drew]
  have o1 : AtRow V (some ⟨W.heap.size, 0, none⟩) [x] := by rw [hV]; exact (at_one8 W x).below (Below.refl _ _).drew
  rw [← hV]
  obtain ⟨v1, w1, e1, r1, f1⟩ := row_more (w := V) (B := V.heap.size) (L := []) (World.ownsRow_nil _ _ _ _) ao cap (h1.below bV) (Nat.le_refl _) (by simp) (by omega)
  rw [hlk] at e1
  rw [List.nil_append] at r1
  have b1 : Below V.heap.size V w1 := lfr_below f1 (World.ownsRow_nil _ _ 53 2) (Nat.le_refl _)
  obtain ⟨v2, w2, e2, r2, f2⟩ := row_more r1 _ 1 (o1.below b1) b1.size (by omega) (by simp)
  have b2 : Below V.heap.size V w2 := b1.trans (lfr_below f2 r1 b1.size)
  have b2' : Below W.heap.size W w2 := bV.trans (b2.mono (by omega))
  obtain ⟨v3, w3, e3, r3, f3⟩ := row_more r2 _ c2 (h2.below b2') b2.size (by simp; omega) (by omega)
  have b3 : Below V.heap.size V w3 := b2.trans (lfr_below f3 r2 b2.size)
  rw [hdk] at e3
  obtain ⟨co, c3, rfl, g1, g2, g3, g4⟩ := row_at2 r3
  exact ⟨v1, w1, v2, w2, _, w3, e1, e2, e3, co, _, c3, rfl, rfl, g1, g2, g3, bV.trans (b3.mono (by omega)), fun a ha => by have := g4 a ha; omega⟩

set_option linter.unusedSimpArgs false in
set_option maxRecDepth 10000 in
set_option maxHeartbeats 8000000 in
theorem rsorted_new {w : World} {lo : Option Addr} {l : List At} (len cap : Nat) (hrow : AtRow w lo l) (hlen : l.length = len) (hl : len ≤ 4000) :
    Calls Try.prog 41 #[.slice lo len cap] w fun e w' => ∃ ao n c, e = .returned (.slice ao n c) ∧ (sortP l).length = n ∧ AtRow w' ao (sortP l) ∧ Below w.heap.size w w' ∧ ∀ a : Addr, ao = some a → w.heap.size ≤ a.block := by
  have HR : Hid (AtRow w lo l ∧ l.length = len) := ⟨hrow, hlen⟩
  clear hrow hlen
  go_enter Try.func41, Try.ntmps41
  go_wp2_with fail
  go_loopg [3, 4] len (fun g s3 s4 wr => ∃ (i c : Nat) (ao : Option Addr), s3 = .slice ao i c ∧ s4 = .int .i64 i ∧ i + g = len ∧ i ≤ c ∧ c ≤ maxLen ∧ AtRow wr ao (sortP (l.take i)) ∧ Below w.heap.size w wr ∧ ∀ a : Addr, ao = some a → w.heap.size ≤ a.block)
  case atStart => exact ⟨0, 0, none, rfl, rfl, by omega, Nat.le_refl _, Nat.zero_le _, AtRow.nil _ _, Below.refl _ _, fun _ h => by cases h⟩
  case round =>
    obtain ⟨i, c, ao, rfl, rfl, hig, hnc, hcm, hA, hbe, hnw⟩ := hrel
    obtain ⟨W, rfl⟩ : ∃ W, W = wr := ⟨_, rfl⟩
    have hil0 : (sortP (l.take i)).length = i := by rw [sort_len, List.length_take, HR.out.2]; omega
    have HM : Hid (AtRow W ao (sortP (l.take i)) ∧ (sortP (l.take i)).length = i ∧ Below w.heap.size w W) := ⟨hA, hil0, hbe⟩
    have HNW : Hid (∀ a : Addr, ao = some a → w.heap.size ≤ a.block) := hnw
    have hcm' : c ≤ 9223372036854775807 := by unfold maxLen at hcm; omega
    clear hA hbe hil0 hnw
    cases gk with
    | zero =>
      obtain rfl : i = len := by omega
      have hg0 : decide ((i : Int) < (i : Int)) = false := decide_eq_false (by omega)
      have HF : Hid ((sortP l).length = i ∧ AtRow W ao (sortP l) ∧ Below w.heap.size w W) := by
        have := HM.out
        rw [List.take_of_length_le (by rw [HR.out.2]; exact Nat.le_refl _)] at this
        exact ⟨this.2.1, this.1, this.2.2⟩
      go_wp2_with fail
      go_ret
      exact ⟨ao, i, c, rfl, HF.out.1, HF.out.2.1, HF.out.2.2, HNW.out⟩
    | succ g =>
      have hin : i < len := by omega
      have hil : i < l.length := by rw [HR.out.2]; exact hin
      have hlt : decide ((i : Int) < (len : Int)) = true := decide_eq_true (by omega)
      obtain ⟨x, hx⟩ : ∃ x, l[i]? = some x := ⟨_, List.getElem?_eq_getElem hil⟩
      obtain ⟨b1, o1, rfl, h1, c1, c2⟩ := (HR.out.1.below (HM.out.2.2)) i x hx
      have HT : Hid (sortP (l.take (i + 1)) = insP x (sortP (l.take i))) := by
        show sortP (l.take (i + 1)) = insP x (sortP (l.take i))
        rw [take_at hx, sort_snoc]
      obtain ⟨nm, vl⟩ := x
      simp only at c1 c2
      clear hx hil
      go_wp2_with fail
      obtain ⟨A, hA⟩ : ∃ A, sortP (l.take i) = A := ⟨_, rfl⟩
      have HA : Hid (sortP (l.take (i + 1)) = insP ⟨nm, vl⟩ A ∧ AtRow W ao A ∧ A.length = i ∧ Below w.heap.size w W) := by
        have h1 := HM.out
        have h2 := HT.out
        rw [hA] at h1 h2
        exact ⟨h2, h1.1, h1.2.1, h1.2.2⟩
      clear hA HM HT hlt
      go_loopg [5] i (fun g2 kv wr2 => ∃ (k q : Nat), kv = .int .i64 k ∧ k + g2 = i ∧ (∀ j y, j < k → A[j]? = some y → ltA ⟨nm, vl⟩ y = false) ∧ wr2 = W.drewN q)
      case atStart => exact ⟨0, 0, rfl, by omega, fun j y hj => by omega, rfl⟩
      case round =>
        obtain ⟨k, q, rfl, hkg, hlo, rfl⟩ := hrel
        have HL : Hid (∀ j y, j < k → A[j]? = some y → ltA ⟨nm, vl⟩ y = false) := hlo
        clear hlo
        go_upto_region 6 with fail
        go_cut [54] (fun sv wc => ∃ q', sv = .bool (notAbove A k ⟨nm, vl⟩) ∧ wc = W.drewN q')
        case first =>
          by_cases hkn : k < i
          · have hgd : decide ((k : Int) < (i : Int)) = true := decide_eq_true (by omega)
            have hkl : k < A.length := by rw [HA.out.2.2.1]; exact hkn
            obtain ⟨y, hy⟩ : ∃ y, A[k]? = some y := ⟨_, List.getElem?_eq_getElem hkl⟩
            obtain ⟨b2, o2, rfl, h2, c3, c4⟩ := HA.out.2.1 k y hy
            obtain ⟨yn, yv⟩ := y
            simp only at c3 c4
            have HRR : Hid (notAbove A k ⟨nm, vl⟩ = (Op.bytesLess yn.toList nm.toList || ((yn.toList == nm.toList) && (Op.bytesLess yv.toList vl.toList || (yv.toList == vl.toList))))) := by
              show _ = _
              unfold notAbove
              rw [hy, scan_eq]
            clear hy hkl
            cases hlb : Op.bytesLess yn.toList nm.toList with
            | true =>
              go_quiet (fail)
              go_wp2_with fail
              go_meet
              exact ⟨_, by rw [HRR.out, hlb]; rfl, World.drewN_drewN _ _ _⟩
            | false =>
              cases heb : (yn.toList == nm.toList) with
              | true =>
                obtain ⟨r1, hr1⟩ : ∃ r1, Op.bytesLess yv.toList vl.toList = r1 := ⟨_, rfl⟩
                obtain ⟨r2, hr2⟩ : ∃ r2, (yv.toList == vl.toList) = r2 := ⟨_, rfl⟩
                have HR2 : Hid (notAbove A k ⟨nm, vl⟩ = (r1 || r2)) := by
                  show _ = _
                  rw [HRR.out, hlb, heb, hr1, hr2]; rfl
                go_quiet (fail)
                go_wp2_with fail
                go_meet
                exact ⟨_, by rw [HR2.out], World.drewN_drewN _ _ _⟩
              | false =>
                go_quiet (fail)
                go_wp2_with fail
                go_meet
                exact ⟨_, by rw [HRR.out, hlb, heb]; rfl, World.drewN_drewN _ _ _⟩
          · have hgd : decide ((k : Int) < (i : Int)) = false := decide_eq_false (by omega)
            have HRR : Hid (notAbove A k ⟨nm, vl⟩ = false) := by
              show _ = _
              unfold notAbove
              rw [List.getElem?_eq_none (by rw [HA.out.2.2.1]; omega)]
            go_quiet (fail)
            go_wp2_with fail
            go_meet
            exact ⟨_, by rw [HRR.out], World.drewN_drewN _ _ _⟩
        case rest =>
          obtain ⟨q', hu, rfl⟩ := hcut
          cases hbb : notAbove A k ⟨nm, vl⟩ with
          | true =>
            rw [hbb] at hu
            subst hu
            obtain ⟨y, hy⟩ : ∃ y, A[k]? = some y := by
              cases hy : A[k]? with
              | none => unfold notAbove at hbb; rw [hy] at hbb; cases hbb
              | some y => exact ⟨y, rfl⟩
            have hyl : ltA ⟨nm, vl⟩ y = false := by unfold notAbove at hbb; rw [hy] at hbb; simpa using hbb
            have hkn : k < i := by rw [← HA.out.2.2.1]; exact (List.getElem?_eq_some_iff.1 hy).1
            have HL2 : Hid (∀ j y, j < k + 1 → A[j]? = some y → ltA ⟨nm, vl⟩ y = false) := fun j z hj hz => by
              by_cases hjk : j = k
              · subst hjk; rw [hy] at hz; cases hz; exact hyl
              · exact HL.out j z (by omega) hz
            clear hbb hy hyl HL
            go_wp2_with fail
            go_roundg (gk - 1)
            case measure => omega
            case rel => exact ⟨k + 1, _, by go_num, by omega, HL2.out, rfl⟩
          | false =>
            rw [hbb] at hu
            subst hu
            have HI : Hid (sortP (l.take (i + 1)) = A.take k ++ [⟨nm, vl⟩] ++ A.drop k) := by
              show _ = _
              rw [HA.out.1]
              refine ins_at _ A k HL.out (fun y hy => ?_) (by rw [HA.out.2.2.1]; omega)
              unfold notAbove at hbb
              rw [hy] at hbb
              simpa using hbb
            clear hbb HL
            have hB0 : Below W.heap.size W (W.drewN q') := below_drewN (Below.refl _ _) _
            have d1 := (hB0.cell (p := ⟨b1, o1 + i * 2, none⟩) h1).trans c1
            have d2 := (hB0.cell (p := ⟨b1, o1 + i * 2 + 1, none⟩) h1).trans c2
            have HV : Hid (AtRow (W.drewN q') ao A ∧ Below w.heap.size w (W.drewN q')) := ⟨HA.out.2.1.below hB0, below_drewN HA.out.2.2.2 _⟩
            have hbV : b1 < (W.drewN q').heap.size := h1
            go_upto_region 8 with fail
            generalize W.drewN q' = V at HV d1 d2 hbV ⊢
            clear c1 c2 h1 hB0
            have hki : k ≤ i := by omega
            have hkc : k ≤ c := by omega
            have hkc2 : (k : Int) ≤ (c : Int) := by omega
            have hkn2 : (k : Int) ≤ (i : Int) := by omega
            have hAn := HA.out.2.2.1
            obtain ⟨v1, w1, v2, w2, v3, w3, e1, e2, e3, ⟨bo3, n3, c3, rfl, p1, p2, p3, p4, p5, pn3⟩, hw1⟩ := ins2_a (W := V) (A := A) (n := i - k) c (c - k) ⟨nm, vl⟩ (by omega) (by omega) (at_take HV.out.1 k) (at_drop HV.out.1 k c (by omega)) (by omega)
            obtain ⟨v4, w4, v5, w5, v6, w6, e4, e5, e6, ⟨bo6, n6, c6, rfl, p6, p7, p8, p9, p0, pn6⟩⟩ := ins2_b (W := V) (A := A) (n := i - k) c (c - k) ⟨nm, vl⟩ (by omega) (by omega) (at_take HV.out.1 k) (at_drop HV.out.1 k c (by omega)) (by omega)
            have d3 := (hw1.cell (p := ⟨b1, o1 + i * 2, none⟩) hbV).trans d1
            have d4 := (hw1.cell (p := ⟨b1, o1 + i * 2 + 1, none⟩) hbV).trans d2
            have hbw1 : b1 < w1.heap.size := Nat.lt_of_lt_of_le hbV hw1.size
            have hl1 : (sortP (l.take (i + 1))).length = i + 1 := by rw [sort_len, List.length_take, HR.out.2]; omega
            have hz3 : n3 = i + 1 := by rw [← p1, ← HI.out]; exact hl1
            have hz6 : n6 = i + 1 := by rw [← p6, ← HI.out]; exact hl1
            subst hz3 hz6
            have HP : Hid (AtRow w3 bo3 (sortP (l.take (i + 1))) ∧ Below w.heap.size w w3 ∧ ∀ a : Addr, bo3 = some a → w.heap.size ≤ a.block) := by
              show _ ∧ _
              rw [HI.out]
              exact ⟨p2, HV.out.2.trans (p5.mono HV.out.2.size), fun a ha => Nat.le_trans HV.out.2.size (pn3 a ha)⟩
            have HQ : Hid (AtRow w6 bo6 (sortP (l.take (i + 1))) ∧ Below w.heap.size w w6 ∧ ∀ a : Addr, bo6 = some a → w.heap.size ≤ a.block) := by
              show _ ∧ _
              rw [HI.out]
              exact ⟨p7, HV.out.2.trans (p0.mono HV.out.2.size), fun a ha => Nat.le_trans HV.out.2.size (pn6 a ha)⟩
            clear p1 p2 p5 p6 p7 p0 pn3 pn6 hw1 hAn hl1
            simp only at e1 e2 e3 e4 e5 e6
            go_region_law (first
              | (refine step_append_eq rfl _ _ 22 22 rfl _ _ (by simp [Act.eval, Act.put]) (by simp [Act.eval, Act.put]) e1 ?_)
              | (refine step_append_eq rfl _ _ 22 22 rfl _ _ (by simp [Act.eval, Act.put]) (by simp [Act.eval, Act.put]) e2 ?_)
              | (refine step_append_eq rfl _ _ 22 22 rfl _ _ (by simp [Act.eval, Act.put]) (by simp [Act.eval, Act.put]) e3 ?_)
              | (refine step_append_eq rfl _ _ 22 22 rfl _ _ (by simp [Act.eval, Act.put]) (by simp [Act.eval, Act.put]) e4 ?_)
              | (refine step_append_eq rfl _ _ 22 22 rfl _ _ (by simp [Act.eval, Act.put]) (by simp [Act.eval, Act.put]) e5 ?_)
              | (refine step_append_eq rfl _ _ 22 22 rfl _ _ (by simp [Act.eval, Act.put]) (by simp [Act.eval, Act.put]) e6 ?_))
            all_goals
              clear e1 e2 e3 e4 e5 e6
              go_wp2_with fail
            all_goals
              go_roundg g
              case measure => omega
              case rel =>
                first
                  | exact ⟨i + 1, c3, bo3, rfl, by go_num, by omega, p3, p4, HP.out.1, HP.out.2.1, HP.out.2.2⟩
                  | exact ⟨i + 1, c6, bo6, rfl, by go_num, by omega, p8, p9, HQ.out.1, HQ.out.2.1, HQ.out.2.2⟩

end Go.Proofs.Ytdpibnmbgjhohaa
