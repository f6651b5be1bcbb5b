/- The document's Add, Missing, Sorted. -/
import Derived.Test.YtibndgembpcdgaaMp
namespace Go.Proofs.Ytibndgembpcdgaa
open Go.RowKit

/-- What is there when a row has been made of others. -/
def Put1 (W : World) (A : List At) (v : Value) (w : World) : Prop := ∃ bo n c, v = .slice bo n c ∧ A.length = n ∧ AtRow w bo A ∧ n ≤ c ∧ c ≤ maxLen ∧ Below W.heap.size W w

theorem add_a {W : World} {ao : Option Addr} {A : List At} {n : Nat} (cap : Nat) (x : At) (hn : A.length = n) (hn2 : n ≤ 900) (h1 : AtRow W ao A) :
    ∃ v1 w1 v2 w2, (Builtin.append_ #[22, 22] 22 #[.slice none 0 0, .slice ao n cap]).run Try.prog W.drew = .ok v1 w1 ∧
      (Builtin.append_ #[22, 22] 22 #[v1, .slice (some ⟨w1.heap.size, 0, none⟩) 1 1]).run Try.prog (w1.alloc (.cells #[.string x.n, .string x.v] 24)) = .ok v2 w2 ∧ Put1 W (A ++ [x]) v2 w2 ∧ Below W.heap.size W w1 := by
  subst hn
  have bW : Below W.heap.size W W.drew := (Below.refl _ _).drew
  obtain ⟨v1, w1, e1, r1, f1⟩ := row_more (w := W.drew) (B := W.heap.size) (L := []) (World.ownsRow_nil _ _ _ _) ao cap (h1.below bW) (Nat.le_refl _) (by simp) (by omega)
  rw [List.nil_append] at r1
  have b1 : Below W.heap.size W w1 := bW.trans (lfr_below f1 (World.ownsRow_nil _ _ 24 2) (Nat.le_refl _))
  obtain ⟨w1', hw1'⟩ : ∃ w1', w1' = w1.alloc (.cells #[.string x.n, .string x.v] 24) := ⟨_, rfl⟩
  have b1' : Below w1.heap.size w1 w1' := by rw [hw1']; exact (Below.refl _ _).alloc (Nat.le_refl _) _
  have o1 := at_one w1 x
  rw [← hw1'] at o1
  have r1' : RowIs w1' W.heap.size v1 A := own_below r1 b1'
  have bb1 : Below W.heap.size W w1' := b1.trans (b1'.mono b1.size)
  obtain ⟨v2, w2, e2, r2, f2⟩ := row_more r1' _ 1 o1 bb1.size (by omega) (by simp)
  have b2 : Below W.heap.size W w2 := bb1.trans (lfr_below f2 r1' bb1.size)
  rw [hw1'] at e2
  obtain ⟨co, c3, rfl, g1, g2, g3⟩ := row_at r2
  exact ⟨v1, w1, _, w2, e1, e2, ⟨co, _, c3, rfl, rfl, g1, g2, g3, b2⟩, b1⟩

theorem add_b {W : World} {ao : Option Addr} {A : List At} {n : Nat} (cap : Nat) (x : At) (hn : A.length = n) (hn2 : n ≤ 900) (h1 : AtRow W ao A) :
    ∃ v1 w1 v2 w2, (Builtin.append_ #[22, 22] 22 #[.slice none 0 0, .slice ao n cap]).run Try.prog (W.alloc (.cells #[.string x.n, .string x.v] 24)).drew = .ok v1 w1 ∧
      (Builtin.append_ #[22, 22] 22 #[v1, .slice (some ⟨W.heap.size, 0, none⟩) 1 1]).run Try.prog w1 = .ok v2 w2 ∧ Put1 W (A ++ [x]) v2 w2 := by
  subst hn
  obtain ⟨V, hV⟩ : ∃ V, V = (W.alloc (.cells #[.string x.n, .string x.v] 24)).drew := ⟨_, rfl⟩
  have bV : Below W.heap.size W V := by rw [hV]; exact ((Below.refl _ _).alloc (Nat.le_refl _) _).drew
  have hVs : V.heap.size = W.heap.size + 1 := by rw [hV]; simp [World.drew]
  have o1 : AtRow V (some ⟨W.heap.size, 0, none⟩) [x] := by rw [hV]; exact (at_one W x).below (Below.refl _ _).drew
  rw [← hV]
  obtain ⟨v1, w1, e1, r1, f1⟩ := row_more (w := V) (B := V.heap.size) (L := []) (World.ownsRow_nil _ _ _ _) ao cap (h1.below bV) (Nat.le_refl _) (by simp) (by omega)
  rw [List.nil_append] at r1
  have b1 : Below V.heap.size V w1 := lfr_below f1 (World.ownsRow_nil _ _ 24 2) (Nat.le_refl _)
  obtain ⟨v2, w2, e2, r2, f2⟩ := row_more r1 _ 1 (o1.below b1) b1.size (by omega) (by simp)
  have b2 : Below V.heap.size V w2 := b1.trans (lfr_below f2 r1 b1.size)
  obtain ⟨co, c3, rfl, g1, g2, g3⟩ := row_at r2
  exact ⟨v1, w1, _, w2, e1, e2, co, _, c3, rfl, rfl, g1, g2, g3, bV.trans (b2.mono (by omega))⟩

set_option linter.unusedSimpArgs false in
set_option maxHeartbeats 4000000 in
theorem radd_any {w : World} {ao : Option Addr} {L : List At} (n cap : Nat) (nm vl : ByteArray) (ha : AtRow w ao L) (hn : L.length = n) (hn2 : n ≤ 900) (hcap : n ≤ cap) (hcm : cap ≤ maxLen) :
    Calls Try.prog 11 #[.slice ao n cap, .agg #[.string nm, .string vl]] w fun e w' => ∃ bo k c, e = .returned (.tuple #[.slice bo k c, .bool (!hasP L nm.data.toList)]) ∧ (addP L ⟨nm, vl⟩).length = k ∧ AtRow w' bo (addP L ⟨nm, vl⟩) ∧ k ≤ c ∧ c ≤ maxLen ∧ Below w.heap.size w w' := by
  obtain ⟨r, hr⟩ : ∃ r, getP L nm.data.toList = r := ⟨_, rfl⟩
  have hs := get_some L nm.data.toList
  rw [hr] at hs
  have HA : Hid (AtRow w ao L ∧ L.length = n ∧ getP L nm.data.toList = r ∧ r.isSome = hasP L nm.data.toList) := ⟨ha, hn, hr, hs⟩
  clear ha hn hr
  obtain ⟨V, hV⟩ : ∃ V, w.alloc (.cells #[.string nm, .string vl] 24) = V := ⟨_, rfl⟩
  have hVn : V.heap[w.heap.size]? = some (.cells #[.string nm, .string vl] 24 (0, 0)) := by rw [← hV]; exact heap_alloc_new _ _
  have hVl : w.heap.size < V.heap.size := (Array.getElem?_eq_some_iff.1 hVn).1
  have d0 : V.cell? ⟨w.heap.size, 0, none⟩ = some (.string nm) := by simp [World.cell?, hVn]
  have d1 : V.cell? ⟨w.heap.size, 1, none⟩ = some (.string vl) := by simp [World.cell?, hVn]
  have HV : Hid (Below w.heap.size w V) := by rw [← hV]; exact (Below.refl w.heap.size w).alloc (Nat.le_refl _) _
  have hget := rget_any n cap nm (HA.out.1.below HV.out) HA.out.2.1 (by omega)
  rw [HA.out.2.2.1] at hget
  clear hVn
  rw [← hs]
  clear hs
  go_enter Try.func11, Try.ntmps11
  go_wp2_with fail
  clear hV
  refine hget.mono ?_
  rintro e w1 ⟨rfl, rfl⟩
  clear hget
  cases r with
  | some x =>
    have hh : hasP L nm.data.toList = true := HA.out.2.2.2.symm
    have H4 : Hid (addP L ⟨nm, vl⟩ = L) := by
      show addP L ⟨nm, vl⟩ = L
      unfold addP; rw [if_pos hh]
    clear hh
    go_wp2_with fail
    go_ret2
    exact ⟨ao, n, cap, rfl, by rw [H4.out]; exact HA.out.2.1, by rw [H4.out]; exact HA.out.1.below HV.out, hcap, hcm, HV.out⟩
  | none =>
    have hh : hasP L nm.data.toList = false := HA.out.2.2.2.symm
    have H4 : Hid (addP L ⟨nm, vl⟩ = L ++ [⟨nm, vl⟩]) := by
      show addP L ⟨nm, vl⟩ = L ++ [⟨nm, vl⟩]
      unfold addP; rw [if_neg (by rw [hh]; exact fun h => by cases h)]
    clear hh
    obtain ⟨v1, w2, v2, w3, e1, e2, ⟨bo3, n3, c3, rfl, p1, p2, p3, p4, p5⟩, hw1⟩ := add_a (W := w1) cap ⟨nm, vl⟩ HA.out.2.1 hn2 (HA.out.1.below HV.out)
    obtain ⟨v4, w4, v5, w5, e4, e5, ⟨bo6, n6, c6, rfl, p6, p7, p8, p9, p0⟩⟩ := add_b (W := w1) cap ⟨nm, vl⟩ HA.out.2.1 hn2 (HA.out.1.below HV.out)
    have d3 := (hw1.cell (p := ⟨w.heap.size, 0, none⟩) hVl).trans d0
    have d4 := (hw1.cell (p := ⟨w.heap.size, 1, none⟩) hVl).trans d1
    have hbw1 : w.heap.size < w2.heap.size := Nat.lt_of_lt_of_le hVl hw1.size
    have HP : Hid ((addP L ⟨nm, vl⟩).length = n3 ∧ AtRow w3 bo3 (addP L ⟨nm, vl⟩) ∧ n3 ≤ c3 ∧ c3 ≤ maxLen ∧ Below w.heap.size w w3) := by
      rw [H4.out]
      exact ⟨p1, p2, p3, p4, HV.out.trans (p5.mono HV.out.size)⟩
    have HQ : Hid ((addP L ⟨nm, vl⟩).length = n6 ∧ AtRow w5 bo6 (addP L ⟨nm, vl⟩) ∧ n6 ≤ c6 ∧ c6 ≤ maxLen ∧ Below w.heap.size w w5) := by
      rw [H4.out]
      exact ⟨p6, p7, p8, p9, HV.out.trans (p0.mono HV.out.size)⟩
    clear p1 p2 p3 p4 p5 p6 p7 p8 p9 p0 hw1
    simp only at e1 e2 e4 e5
    go_upto_region 4 with fail
    go_region_law (first
      | (refine step_append_eq rfl _ _ 22 22 rfl _ _ (by simp [Act.eval, Act.put]) (by simp [Act.eval, Act.put]) e1 ?_)
      | (refine step_append_eq rfl _ _ 22 22 rfl _ _ (by simp [Act.eval, Act.put]) (by simp [Act.eval, Act.put]) e2 ?_)
      | (refine step_append_eq rfl _ _ 22 22 rfl _ _ (by simp [Act.eval, Act.put]) (by simp [Act.eval, Act.put]) e4 ?_)
      | (refine step_append_eq rfl _ _ 22 22 rfl _ _ (by simp [Act.eval, Act.put]) (by simp [Act.eval, Act.put]) e5 ?_))
    all_goals
      clear e1 e2 e4 e5
      go_wp2_with fail
    all_goals
      go_ret2
      first
        | exact ⟨bo3, n3, c3, rfl, HP.out⟩
        | exact ⟨bo6, n6, c6, rfl, HQ.out⟩

set_option maxHeartbeats 2000000 in
theorem rmissing_any {w : World} {ao bo : Option Addr} {L M : List At} (n m ca cb : Nat) (ha : AtRow w ao L) (hb : AtRow w bo M) (hn : L.length = n) (hm : M.length = m) (hnm : n + m ≤ 900) (hca : n ≤ ca) (hcm : ca ≤ maxLen) :
    Calls Try.prog 16 #[.slice ao n ca, .slice bo m cb] w fun e w' => ∃ co k c, e = .returned (.slice co k c) ∧ (missP L M).length = k ∧ AtRow w' co (missP L M) ∧ k ≤ c ∧ c ≤ maxLen ∧ Below w.heap.size w w' := by
  have HA : Hid (AtRow w ao L ∧ L.length = n ∧ AtRow w bo M ∧ M.length = m) := ⟨ha, hn, hb, hm⟩
  clear ha hn hb hm
  go_enter Try.func16, Try.ntmps16
  go_wp2_with fail
  go_loopg [0, 5] m (fun g2 lv iv wr => ∃ (i k c : Nat) (co : Option Addr), lv = .slice co k c ∧ iv = .int .i64 i ∧ i + g2 = m ∧ (missP L (M.take i)).length = k ∧ AtRow wr co (missP L (M.take i)) ∧ k ≤ c ∧ c ≤ maxLen ∧ Below w.heap.size w wr)
  case atStart => exact ⟨0, n, ca, ao, rfl, rfl, by omega, HA.out.2.1, HA.out.1, hca, hcm, Below.refl _ _⟩
  case round =>
    obtain ⟨i, k, c, co, rfl, rfl, hig, hlen, hrow, hkc, hcx, hbe⟩ := hrel
    have HG : Hid ((missP L (M.take i)).length = k ∧ AtRow wr co (missP L (M.take i)) ∧ Below w.heap.size w wr) := ⟨hlen, hrow, hbe⟩
    have hk9 : k ≤ 900 := by
      have := (miss_len L (M.take i)).1
      rw [List.length_take, hlen, HA.out.2.1] at this
      omega
    clear hlen hrow hbe
    cases gk with
    | zero =>
      obtain rfl : i = m := by omega
      have hg0 : decide ((i : Int) < (i : Int)) = false := decide_eq_false (by omega)
      go_wp2_with fail
      go_ret
      have h := HG.out
      rw [List.take_of_length_le (by rw [HA.out.2.2.2]; exact Nat.le_refl _)] at h
      exact ⟨co, k, c, rfl, h.1, h.2.1, hkc, hcx, h.2.2⟩
    | succ g =>
      have hin : i < m := by omega
      obtain ⟨x, hx⟩ : ∃ x, M[i]? = some x := ⟨_, List.getElem?_eq_getElem (by rw [HA.out.2.2.2]; exact hin)⟩
      obtain ⟨b1, o1, rfl, h1, c1, c2⟩ := (HA.out.2.2.1.below HG.out.2.2) i x hx
      have HT : Hid (missP L (M.take (i + 1)) = addP (missP L (M.take i)) x) := by
        show missP L (M.take (i + 1)) = addP (missP L (M.take i)) x
        rw [take_at hx, miss_snoc]
      clear hx
      obtain ⟨nm, vl⟩ := x
      simp only at c1 c2
      have hcall := radd_any k c nm vl HG.out.2.1 HG.out.1 hk9 hkc hcx
      rw [← HT.out] at hcall
      generalize hasP (missP L (M.take i)) nm.data.toList = r at hcall
      go_wp2_with fail
      refine hcall.mono ?_
      rintro e w1 ⟨do1, k1, e1, rfl, q1, q2, q3, q4, q5⟩
      clear hcall
      have HN : Hid ((missP L (M.take (i + 1))).length = k1 ∧ AtRow w1 do1 (missP L (M.take (i + 1))) ∧ k1 ≤ e1 ∧ e1 ≤ maxLen ∧ Below w.heap.size w w1) := ⟨q1, q2, q3, q4, HG.out.2.2.trans (q5.mono HG.out.2.2.size)⟩
      clear q1 q2 q3 q4 q5
      go_wp2_with fail
      go_roundg g
      case measure => omega
      case rel => exact ⟨i + 1, k1, e1, do1, rfl, by go_num, by omega, HN.out⟩
end Go.Proofs.Ytibndgembpcdgaa
