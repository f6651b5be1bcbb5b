/- The document's Merge. -/
import Derived.Test.YtkbakbacomidbaaProg
import Derived.Below
import Derived.BigCall
import Derived.BigQuiet
import Derived.BigRegion
import Derived.Deep.DeepCutAuto
import Derived.Deep.LoopGhost
import Derived.Deep.QuietTactic
import Derived.Deep.RegionHeld3
import Derived.Deep.RegionLaw
import Derived.Deep.RegionWith
import Derived.Deep.Upon
import Derived.Laws.AppendOwn
import Derived.Laws.BytesArg
import Derived.Laws.EntriesVeiled
import Derived.Laws.IdiomStrings
import Derived.Laws.StructEq
import Derived.Lib.AppendStr
import Derived.Lib.RuneBytes
import Derived.Maps.AppendAt
import Derived.Maps.OwnSet
import Derived.OwnWalk
import Derived.ScopeJumps
import Derived.Shelf.Abstract
import Derived.Shelf.Small.Strs
import Derived.Shelf.Strings.Builder1
import Derived.Shelf.Strings.BuilderF
import Derived.Shelf.Strings.BuilderK
import Derived.Shelf.Strings.BuilderRune
import Derived.Shelf.Strings.Prefix
import Derived.StillTailTactics
import Derived.StringKeys
import Derived.WalkArith
import Derived.WalkKit
import Derived.WalkLawsBesides
import Derived.WalkMore
import Derived.WalkSpells
import Derived.Test.YtkbakbacomidbaaZn
namespace Go.Proofs.Ytkbakbacomidbaa
open Go.RowKit
abbrev FRow := Mg.RefRow
def lenV : Value → Nat
  | .slice _ n _ => n
  | _ => 0
theorem mtake_one {Wo V : World} {lv : Value} {l : List (Int × Int)} (xc xa : Int) (hl : V.ownsRow Wo.heap.size 64 2 lv l.length (l.flatMap gcells)) (hb : Below Wo.heap.size Wo V) (hle : l.length ≤ 200000) :
    ∃ l2 W2, (Builtin.append_ #[31, 31] 31 #[lv, .slice (some ⟨V.heap.size, 0, none⟩) 1 1]).run Try.prog (V.alloc (.cells #[.int .i64 xc, .int .i64 xa] 64)) = .ok l2 W2 ∧ W2.ownsRow Wo.heap.size 64 2 l2 (l ++ [(xc, xa)]).length ((l ++ [(xc, xa)]).flatMap gcells) ∧ Below Wo.heap.size Wo W2 := by
  obtain ⟨W0, hW0⟩ : ∃ W0, V.alloc (.cells #[.int .i64 xc, .int .i64 xa] 64) = W0 := ⟨_, rfl⟩
  have B0 : Below V.heap.size V W0 := by rw [← hW0]; exact (Below.refl _ _).alloc (Nat.le_refl _) _
  have o1 := Mg.ref_one V (xc, xa)
  simp only at o1
  rw [hW0] at o1 ⊢
  have l0 : Mg.RowIs W0 Wo.heap.size lv l := row_mv hl fun g hg => B0.block g (G6.own_blk hl hg).2.1
  have bq : Below Wo.heap.size Wo W0 := hb.trans (B0.mono hb.size)
  obtain ⟨l2, W2, hrun, l3, f3⟩ := Mg.row_more l0 _ 1 o1 bq.size (by omega) (by simp)
  exact ⟨l2, W2, hrun, l3, bq.trans (Mg.lfr_below f3 l0 bq.size)⟩
theorem mdrop_one {Wo : World} {g o ca : Nat} {x : Int × Int} {t : List (Int × Int)} (h : FRow Wo (some ⟨g, o, none⟩) (x :: t)) (hc : (x :: t).length ≤ ca) : FRow Wo (if ca = 1 then some ⟨g, o, none⟩ else some ⟨g, o + 2, none⟩) t := by
  simpa [Addr.add_lit] using Mg.ref_drop h 1 ca hc
set_option linter.unusedSimpArgs false in
set_option maxHeartbeats 4000000 in
set_option maxRecDepth 20000 in
theorem merge_any {w : World} {ao bo : Option Addr} {na nb ca cb : Nat} {a b : List (Int × Int)} (ha : FRow w ao a) (hb : FRow w bo b) (hna : a.length = na) (hnb : b.length = nb) (hca : na ≤ ca ∧ ca ≤ maxLen) (_hcb : nb ≤ cb ∧ cb ≤ maxLen) (hs : a.Pairwise fun x y => x.2 ≤ y.2) (hn : na + nb ≤ 200000) :
    Calls Try.prog 29 #[.slice ao na ca, .slice bo nb cb] w fun e w' => ∃ lo L c, e = .returned (.slice lo L.length c) ∧ Mrg 0 (a ++ b) L ∧ w'.ownsRow w.heap.size 64 2 (.slice lo L.length c) L.length (L.flatMap gcells) ∧ Below w.heap.size w w' := by
  have HA : Hid (FRow w ao a ∧ FRow w bo b ∧ a.length = na ∧ b.length = nb ∧ a.Pairwise fun x y => x.2 ≤ y.2) := ⟨ha, hb, hna, hnb, hs⟩
  clear ha hb hna hnb hs
  go_enter Try.func29, Try.ntmps29
  go_wp2_with fail
  go_loopw [6, 7] (fun cv iv wr => ∃ (i n cc : Nat) (co : Option Addr) (c : List (Int × Int)), iv = .int .i64 i ∧ cv = .slice co n cc ∧ i ≤ nb ∧ c.length = n ∧ n ≤ cc ∧ cc ≤ maxLen ∧ FRow wr co c ∧ Mrg (0 + a.length) (b.take i) c ∧ Below w.heap.size w wr) (fun _ iv _ => nb - (intOf iv).toNat)
  case atStart => exact ⟨0, 0, 0, none, [], rfl, rfl, Nat.zero_le _, rfl, Nat.le_refl _, Nat.zero_le _, fun i x h => by simp at h, Mrg.nil _, Below.refl _ _⟩
  case round =>
    obtain ⟨i, n, cc, co, c, rfl, rfl, hin, hcn, hncc, hccm, hrow, hmr, hbw⟩ := hrel
    obtain rfl : n = i := by have := hmr.len; rw [List.length_take, HA.out.2.2.2.1] at this; omega
    obtain ⟨Wo, hWo⟩ : ∃ Wo, Wo = wr := ⟨_, rfl⟩
    subst hWo
    have HC : Hid (FRow Wo co c ∧ Mrg (0 + a.length) (b.take n) c ∧ Below w.heap.size w Wo ∧ c.length = n) := ⟨hrow, hmr, hbw, hcn⟩
    by_cases hlt : n < nb
    · have hlt' : decide ((n : Int) < (nb : Int)) = true := decide_eq_true (by omega)
      obtain ⟨x, hx⟩ : ∃ x, b[n]? = some x := ⟨_, List.getElem?_eq_getElem (by rw [HA.out.2.2.2.1]; exact hlt)⟩
      obtain ⟨bb, bof, rfl, hbb, z1, z2⟩ := (HA.out.2.1.below hbw) n x hx
      have HX : Hid (b.take (n + 1) = b.take n ++ [x]) := by
        obtain ⟨h1, rfl⟩ := List.getElem?_eq_some_iff.1 hx
        exact (List.take_append_getElem h1).symm
      clear hrow hmr hbw hx
      obtain ⟨xc, xa⟩ := x
      simp only at z1 z2
      go_wp2_with fail
      go_loopw [8] (fun kv wq => ∃ k : Nat, kv = .int .i64 k ∧ k ≤ n ∧ Below Wo.heap.size Wo wq ∧ ∀ (j : Nat) (y : Int × Int), k ≤ j → c[j]? = some y → xa < y.2) (fun kv _ => (intOf kv).toNat)
      case atStart => exact ⟨n, rfl, Nat.le_refl _, Below.refl _ _, fun j y hj hy => by have := (List.getElem?_eq_some_iff.1 hy).1; rw [HC.out.2.2.2] at this; omega⟩
      case round =>
        obtain ⟨k, rfl, hkn, hbq, hall⟩ := hrel
        have HQ : Hid (Below Wo.heap.size Wo wr ∧ ∀ (j : Nat) (y : Int × Int), k ≤ j → c[j]? = some y → xa < y.2) := ⟨hbq, hall⟩
        have y1 := (hbq.cell (p := ⟨bb, bof + n * 2, none⟩) hbb).trans z1
        have y2 := (hbq.cell (p := ⟨bb, bof + n * 2 + 1, none⟩) hbb).trans z2
        have hbr : bb < wr.heap.size := Nat.lt_of_lt_of_le hbb hbq.size
        have GO : (k = 0 ∨ ∀ y, c[k - 1]? = some y → y.2 ≤ xa) → Hid (∀ W', Below wr.heap.size wr W' → FRow W' co c ∧ Below w.heap.size w W' ∧ Mrg (0 + a.length) (b.take (n + 1)) (c.take k ++ [(xc, xa)] ++ c.drop k)) := fun hk W' hb' => by
          refine ⟨(HC.out.1.below hbq).below hb', (HC.out.2.2.1.trans (hbq.mono HC.out.2.2.1.size)).trans (hb'.mono (Nat.le_trans HC.out.2.2.1.size hbq.size)), ?_⟩
          rw [HX.out]
          exact HC.out.2.1.ins (by rw [HC.out.2.2.2]; exact hkn) hall hk
        clear hbq hall
        by_cases hk0 : 0 < k
        · have g1 : decide ((k : Int) > 0) = true := decide_eq_true (by omega)
          obtain ⟨q, rfl⟩ : ∃ q, k = q + 1 := ⟨k - 1, by omega⟩
          obtain ⟨k, hkq⟩ : ∃ k, q + 1 = k := ⟨_, rfl⟩
          obtain ⟨y, hy⟩ : ∃ y, c[q]? = some y := ⟨_, List.getElem?_eq_getElem (by rw [HC.out.2.2.2]; omega)⟩
          obtain ⟨cb', cof, rfl, hcb', c1, c2⟩ := (HC.out.1.below HQ.out.1) q y hy
          have HY : Hid (c[q]? = some y ∧ q + 1 = k) := ⟨hy, hkq⟩
          clear hy
          obtain ⟨yc, ya⟩ := y
          simp only at c1 c2
          rw [hkq] at g1 hkn hk0 GO HQ ⊢
          have hw2 : (k : Int) - 1 = (q : Int) := by omega
          have hwq : IntKind.i64.wrap (q : Int) = (q : Int) := by rw [IntKind.wrap_i64]; omega
          have hqn : q < n := by omega
          by_cases hgt : ya > xa
          · have g2 : decide (ya > xa) = true := decide_eq_true hgt
            go_wp2_with fail
            go_quiet (fail)
            go_wp2_with fail
            refine ⟨⟨q, rfl, by omega, G9.below_drewN HQ.out.1 _, fun j y hj hy => ?_⟩, by simp [intOf]; omega⟩
            by_cases e : j = q
            · rw [e, HY.out.1] at hy
              cases hy
              exact hgt
            · exact HQ.out.2 j y (by have := HY.out.2; omega) hy
          · have g2 : decide (ya > xa) = false := decide_eq_false hgt
            have HG := GO (.inr fun y hy => by
              rw [show k - 1 = q by omega, HY.out.1] at hy
              cases hy
              simp only; omega)
            clear GO
            go_wp2_with fail
            go_quiet (fail)
            go_upto_region 9 with fail
            have hbV : Below wr.heap.size wr (wr.drewN nq) := G9.below_drewN (Below.refl _ _) nq
            have d1 := (hbV.cell (p := ⟨bb, bof + n * 2, none⟩) hbr).trans y1
            have d2 := (hbV.cell (p := ⟨bb, bof + n * 2 + 1, none⟩) hbr).trans y2
            have HV : Hid (FRow (wr.drewN nq) (some ⟨cb', cof, none⟩) c ∧ Below w.heap.size w (wr.drewN nq) ∧ Mrg (0 + a.length) (b.take (n + 1)) (c.take k ++ [(xc, xa)] ++ c.drop k)) := HG.out _ hbV
            have hbV2 : bb < (wr.drewN nq).heap.size := hbr
            generalize wr.drewN nq = V at HV d1 d2 hbV2 ⊢
            clear y1 y2 hbr hbV HG
            have hkc : k ≤ cc := by omega
            have hkc2 : ((k : Nat) : Int) ≤ (cc : Int) := by omega
            have hkn2 : ((k : Nat) : Int) ≤ (n : Int) := by omega
            have hlc := HC.out.2.2.2
            obtain ⟨v1, w1, v2, w2, v3, w3, e1, e2, e3, ⟨bo3, n3, c3, rfl, p1, p2, p3, p4, p5⟩, hw1⟩ := Mg.put_a (W := V) (A := c) (k := k) (n := n - k) cc (cc - k) (xc, xa) (by omega) (by omega) (Mg.ref_take HV.out.1 k) (Mg.ref_drop HV.out.1 k cc (by omega)) (by omega)
            obtain ⟨v4, w4, v5, w5, v6, w6, e4, e5, e6, ⟨bo6, n6, c6, rfl, p6, p7, p8, p9, p0⟩⟩ := Mg.put_b (W := V) (A := c) (k := k) (n := n - k) cc (cc - k) (xc, xa) (by omega) (by omega) (Mg.ref_take HV.out.1 k) (Mg.ref_drop HV.out.1 k cc (by omega)) (by omega)
            have d3 := (hw1.cell (p := ⟨bb, bof + n * 2, none⟩) hbV2).trans d1
            have d4 := (hw1.cell (p := ⟨bb, bof + n * 2 + 1, none⟩) hbV2).trans d2
            have hbw1 : bb < w1.heap.size := Nat.lt_of_lt_of_le hbV2 hw1.size
            have hbn : n < nb := hlt
            have HP : Hid (FRow w3 bo3 (c.take k ++ [(xc, xa)] ++ c.drop k) ∧ (c.take k ++ [(xc, xa)] ++ c.drop k).length = n3 ∧ Below w.heap.size w w3) := ⟨p2, p1, HV.out.2.1.trans (p5.mono HV.out.2.1.size)⟩
            have HPQ : Hid (FRow w6 bo6 (c.take k ++ [(xc, xa)] ++ c.drop k) ∧ (c.take k ++ [(xc, xa)] ++ c.drop k).length = n6 ∧ Below w.heap.size w w6) := ⟨p7, p6, HV.out.2.1.trans (p0.mono HV.out.2.1.size)⟩
            clear p1 p2 p5 p6 p7 p0 hw1 hlc
            simp only [Option.map_some, Addr.add_lit] at e3 e6
            simp only at e1 e2 e3 e4 e5 e6
            go_region_law (first
              | (refine step_append_eq rfl _ _ 31 31 rfl _ _ (by first | (simp [Act.eval]; done) | simp [Act.eval, Act.put]) (by first | (simp [Act.eval]; done) | simp [Act.eval, Act.put]) e1 ?_)
              | (refine step_append_eq rfl _ _ 31 31 rfl _ _ (by first | (simp [Act.eval]; done) | simp [Act.eval, Act.put]) (by first | (simp [Act.eval]; done) | simp [Act.eval, Act.put]) e2 ?_)
              | (refine step_append_eq rfl _ _ 31 31 rfl _ _ (by first | (simp [Act.eval]; done) | simp [Act.eval, Act.put]) (by first | (simp [Act.eval]; done) | simp [Act.eval, Act.put]) e3 ?_)
              | (refine step_append_eq rfl _ _ 31 31 rfl _ _ (by first | (simp [Act.eval]; done) | simp [Act.eval, Act.put]) (by first | (simp [Act.eval]; done) | simp [Act.eval, Act.put]) e4 ?_)
              | (refine step_append_eq rfl _ _ 31 31 rfl _ _ (by first | (simp [Act.eval]; done) | simp [Act.eval, Act.put]) (by first | (simp [Act.eval]; done) | simp [Act.eval, Act.put]) e5 ?_)
              | (refine step_append_eq rfl _ _ 31 31 rfl _ _ (by first | (simp [Act.eval]; done) | simp [Act.eval, Act.put]) (by first | (simp [Act.eval]; done) | simp [Act.eval, Act.put]) e6 ?_))
            all_goals
              clear e1 e2 e3 e4 e5 e6
              go_wp2_with fail
            all_goals
              go_roundw
              case measure => simp [intOf]; omega
              case rel =>
                first
                  | exact ⟨n + 1, n3, c3, bo3, _, by go_num, rfl, by omega, HP.out.2.1, p3, p4, HP.out.1, HV.out.2.2, HP.out.2.2⟩
                  | exact ⟨n + 1, n6, c6, bo6, _, by go_num, rfl, by omega, HPQ.out.2.1, p8, p9, HPQ.out.1, HV.out.2.2, HPQ.out.2.2⟩
        · have g1 : decide ((k : Int) > 0) = false := decide_eq_false (by omega)
          have HG := GO (.inl (by omega))
          clear GO
          go_wp2_with fail
          go_quiet (fail)
          go_upto_region 9 with fail
          have hbV : Below wr.heap.size wr (wr.drewN nq) := G9.below_drewN (Below.refl _ _) nq
          have d1 := (hbV.cell (p := ⟨bb, bof + n * 2, none⟩) hbr).trans y1
          have d2 := (hbV.cell (p := ⟨bb, bof + n * 2 + 1, none⟩) hbr).trans y2
          have HV : Hid (FRow (wr.drewN nq) co c ∧ Below w.heap.size w (wr.drewN nq) ∧ Mrg (0 + a.length) (b.take (n + 1)) (c.take k ++ [(xc, xa)] ++ c.drop k)) := HG.out _ hbV
          have hbV2 : bb < (wr.drewN nq).heap.size := hbr
          generalize wr.drewN nq = V at HV d1 d2 hbV2 ⊢
          clear y1 y2 hbr hbV HG
          have hkc : k ≤ cc := by omega
          have hkc2 : ((k : Nat) : Int) ≤ (cc : Int) := by omega
          have hkn2 : ((k : Nat) : Int) ≤ (n : Int) := by omega
          have hlc := HC.out.2.2.2
          obtain ⟨v1, w1, v2, w2, v3, w3, e1, e2, e3, ⟨bo3, n3, c3, rfl, p1, p2, p3, p4, p5⟩, hw1⟩ := Mg.put_a (W := V) (A := c) (k := k) (n := n - k) cc (cc - k) (xc, xa) (by omega) (by omega) (Mg.ref_take HV.out.1 k) (Mg.ref_drop HV.out.1 k cc (by omega)) (by omega)
          obtain ⟨v4, w4, v5, w5, v6, w6, e4, e5, e6, ⟨bo6, n6, c6, rfl, p6, p7, p8, p9, p0⟩⟩ := Mg.put_b (W := V) (A := c) (k := k) (n := n - k) cc (cc - k) (xc, xa) (by omega) (by omega) (Mg.ref_take HV.out.1 k) (Mg.ref_drop HV.out.1 k cc (by omega)) (by omega)
          have d3 := (hw1.cell (p := ⟨bb, bof + n * 2, none⟩) hbV2).trans d1
          have d4 := (hw1.cell (p := ⟨bb, bof + n * 2 + 1, none⟩) hbV2).trans d2
          have hbw1 : bb < w1.heap.size := Nat.lt_of_lt_of_le hbV2 hw1.size
          have hbn : n < nb := hlt
          have HP : Hid (FRow w3 bo3 (c.take k ++ [(xc, xa)] ++ c.drop k) ∧ (c.take k ++ [(xc, xa)] ++ c.drop k).length = n3 ∧ Below w.heap.size w w3) := ⟨p2, p1, HV.out.2.1.trans (p5.mono HV.out.2.1.size)⟩
          have HPQ : Hid (FRow w6 bo6 (c.take k ++ [(xc, xa)] ++ c.drop k) ∧ (c.take k ++ [(xc, xa)] ++ c.drop k).length = n6 ∧ Below w.heap.size w w6) := ⟨p7, p6, HV.out.2.1.trans (p0.mono HV.out.2.1.size)⟩
          clear p1 p2 p5 p6 p7 p0 hw1 hlc
          simp only at e1 e2 e3 e4 e5 e6
          go_region_law (first
            | (refine step_append_eq rfl _ _ 31 31 rfl _ _ (by first | (simp [Act.eval]; done) | simp [Act.eval, Act.put]) (by first | (simp [Act.eval]; done) | simp [Act.eval, Act.put]) e1 ?_)
            | (refine step_append_eq rfl _ _ 31 31 rfl _ _ (by first | (simp [Act.eval]; done) | simp [Act.eval, Act.put]) (by first | (simp [Act.eval]; done) | simp [Act.eval, Act.put]) e2 ?_)
            | (refine step_append_eq rfl _ _ 31 31 rfl _ _ (by first | (simp [Act.eval]; done) | simp [Act.eval, Act.put]) (by first | (simp [Act.eval]; done) | simp [Act.eval, Act.put]) e3 ?_)
            | (refine step_append_eq rfl _ _ 31 31 rfl _ _ (by first | (simp [Act.eval]; done) | simp [Act.eval, Act.put]) (by first | (simp [Act.eval]; done) | simp [Act.eval, Act.put]) e4 ?_)
            | (refine step_append_eq rfl _ _ 31 31 rfl _ _ (by first | (simp [Act.eval]; done) | simp [Act.eval, Act.put]) (by first | (simp [Act.eval]; done) | simp [Act.eval, Act.put]) e5 ?_)
            | (refine step_append_eq rfl _ _ 31 31 rfl _ _ (by first | (simp [Act.eval]; done) | simp [Act.eval, Act.put]) (by first | (simp [Act.eval]; done) | simp [Act.eval, Act.put]) e6 ?_))
          all_goals
            clear e1 e2 e3 e4 e5 e6
            go_wp2_with fail
          all_goals
            go_roundw
            case measure => simp [intOf]; omega
            case rel =>
              first
                | exact ⟨n + 1, n3, c3, bo3, _, by go_num, rfl, by omega, HP.out.2.1, p3, p4, HP.out.1, HV.out.2.2, HP.out.2.2⟩
                | exact ⟨n + 1, n6, c6, bo6, _, by go_num, rfl, by omega, HPQ.out.2.1, p8, p9, HPQ.out.1, HV.out.2.2, HPQ.out.2.2⟩
    · have hlt' : decide ((n : Int) < (nb : Int)) = false := decide_eq_false (by omega)
      have en : b.take n = b := List.take_of_length_le (by rw [HA.out.2.2.2.1]; omega)
      have hMS : MS 0 (a ++ b) [] a c := MS.start HA.out.2.2.2.2 (by rw [← en]; exact hmr)
      have HS : Hid (FRow Wo ao a ∧ FRow Wo co c ∧ MS 0 (a ++ b) [] a c ∧ Below w.heap.size w Wo) := ⟨HA.out.1.below hbw, hrow, hMS, hbw⟩
      have hLn : (a ++ b).length = na + nb := by rw [List.length_append, HA.out.2.2.1, HA.out.2.2.2.1]
      have HL : Hid ((a ++ b).length ≤ 200000) := by show _ ≤ _; omega
      have hal := HA.out.2.2.1
      have HAl : Hid (a.length = na ∧ c.length = n) := ⟨hal, hcn⟩
      clear hrow hmr hbw hMS en hLn hal hcn HC
      go_wp2_with fail
      go_loopw [0, 5, 6] (fun av lv cv wr => ∃ (ao' co' : Option Addr) (na' ca' nc' cc' : Nat) (a' c' l : List (Int × Int)), av = .slice ao' na' ca' ∧ cv = .slice co' nc' cc' ∧ a'.length = na' ∧ c'.length = nc' ∧ (na' ≤ ca' ∧ ca' ≤ maxLen) ∧ (nc' ≤ cc' ∧ cc' ≤ maxLen) ∧ FRow Wo ao' a' ∧ FRow Wo co' c' ∧ wr.ownsRow Wo.heap.size 64 2 lv l.length (l.flatMap gcells) ∧ MS 0 (a ++ b) l a' c' ∧ Below Wo.heap.size Wo wr) (fun av _ cv _ => lenV av + lenV cv)
      case atStart => exact ⟨ao, co, na, ca, n, cc, a, c, [], rfl, rfl, HAl.out.1, HAl.out.2, hca, ⟨hncc, hccm⟩, HS.out.1, HS.out.2.1, ⟨rfl, .inl ⟨rfl, rfl⟩⟩, HS.out.2.2.1, Below.refl _ _⟩
      case round =>
        obtain ⟨ao', co', na', ca', nc', cc', a', c', l, rfl, rfl, hna', hnc', hca', hcc', har, hcr, hl, hms, hbq⟩ := hrel
        have hfew := hms.few
        have hLn := HL.out
        by_cases h0 : na' = 0 ∧ nc' = 0
        · have ea : a' = [] := List.eq_nil_of_length_eq_zero (by omega)
          have ec : c' = [] := List.eq_nil_of_length_eq_zero (by omega)
          subst ea ec
          obtain ⟨lo, lc, elv, _, _⟩ := G4.own_form hl
          have HZ : Hid (Mrg 0 (a ++ b) l ∧ wr.ownsRow w.heap.size 64 2 (.slice lo l.length lc) l.length (l.flatMap gcells) ∧ Below w.heap.size w wr) := by
            subst elv
            refine ⟨hms.done, ?_, HS.out.2.2.2.trans (hbq.mono HS.out.2.2.2.size)⟩
            refine ⟨hl.1, ?_⟩
            rcases hl.2 with e | ⟨g, cap, cur, e, hg, rest⟩
            · exact .inl e
            · exact .inr ⟨g, cap, cur, e, Nat.le_trans HS.out.2.2.2.size hg, rest⟩
          have g1 : decide ((na' : Int) > 0) = false := decide_eq_false (by omega)
          have g2 : decide ((nc' : Int) > 0) = false := decide_eq_false (by omega)
          subst elv
          obtain ⟨ll, hll⟩ : ∃ ll, l.length = ll := ⟨_, rfl⟩
          have HLL : Hid (l.length = ll) := hll
          rw [hll]
          clear hms hl hbq har hcr hll
          go_wp2_with fail
          go_ret
          refine ⟨lo, l, lc, ?_, HZ.out⟩
          rw [HLL.out]
          rfl
        · by_cases hcz : nc' = 0
          · have hap : 0 < na' := by omega
            obtain ⟨x, at2, rfl⟩ : ∃ x at2, a' = x :: at2 := by
              cases a' with
              | nil => simp at hna'; omega
              | cons x at2 => exact ⟨x, at2, rfl⟩
            obtain ⟨ga, oa, rfl, hga, z1, z2⟩ := (har.below hbq) 0 x rfl
            rw [Nat.zero_mul, Nat.add_zero] at z1 z2
            obtain ⟨xc, xa⟩ := x
            simp only at z1 z2
            have g1 : decide ((na' : Int) > 0) = true := decide_eq_true (by omega)
            have g3 : ((nc' : Int) == 0) = true := by simp; omega
            have hcmp : ∀ y, c'.head? = some y → xa ≤ y.2 := fun y hy => by
              have : c' = [] := List.eq_nil_of_length_eq_zero (by omega)
              rw [this] at hy; simp at hy
            simp only [List.length_cons] at hfew hna'
            have hdr := mdrop_one har (ca := ca') (by simp only [List.length_cons]; omega)
            have hMS := hms.fst hcmp
            have hll : l.length ≤ 200000 := by omega
            have HZ0 : Hid (wr.ownsRow Wo.heap.size 64 2 u5 l.length (l.flatMap gcells) ∧ Below Wo.heap.size Wo wr ∧ l.length ≤ 200000 ∧ MS 0 (a ++ b) (l ++ [(xc, xa)]) at2 c' ∧ FRow Wo (if ca' = 1 then some ⟨ga, oa, none⟩ else some ⟨ga, oa + 2, none⟩) at2 ∧ FRow Wo co' c' ∧ c'.length = nc' ∧ at2.length + 1 = na') := ⟨hl, hbq, hll, hMS, hdr, hcr, hnc', by simpa using hna'⟩
            clear har hcr hl hms hbq hcmp hna' hnc' hfew hdr hMS hll hLn
            go_wp2_with fail
            go_quiet (fail)
            go_upto_region 12 with fail
            have bV : Below wr.heap.size wr (wr.drewN nq) := G9.below_drewN (Below.refl _ _) nq
            have d1 := (bV.cell (p := ⟨ga, oa, none⟩) hga).trans z1
            have d2 := (bV.cell (p := ⟨ga, oa + 1, none⟩) hga).trans z2
            have hl2 : (wr.drewN nq).ownsRow Wo.heap.size 64 2 u5 l.length (l.flatMap gcells) := row_mv HZ0.out.1 fun g hg => bV.block g (G6.own_blk HZ0.out.1 hg).2.1
            have hb2 : Below Wo.heap.size Wo (wr.drewN nq) := HZ0.out.2.1.trans (bV.mono HZ0.out.2.1.size)
            have hgV : ga < (wr.drewN nq).heap.size := Nat.lt_of_lt_of_le hga bV.size
            generalize wr.drewN nq = V at *
            clear bV
            obtain ⟨l2, W2, hrun, r1, r2⟩ := mtake_one xc xa hl2 hb2 HZ0.out.2.2.1
            have HZ : Hid (FRow Wo (if ca' = 1 then some ⟨ga, oa, none⟩ else some ⟨ga, oa + 2, none⟩) at2 ∧ W2.ownsRow Wo.heap.size 64 2 l2 (l ++ [(xc, xa)]).length ((l ++ [(xc, xa)]).flatMap gcells) ∧ Below Wo.heap.size Wo W2 ∧ MS 0 (a ++ b) (l ++ [(xc, xa)]) at2 c' ∧ FRow Wo co' c' ∧ c'.length = nc' ∧ at2.length + 1 = na') := ⟨HZ0.out.2.2.2.2.1, r1, r2, HZ0.out.2.2.2.1, HZ0.out.2.2.2.2.2⟩
            clear hl2 hb2 r1 r2 HZ0
            go_wp2_with (at_builtin; refine list_append_eq rfl _ _ 31 31 rfl _ _ rfl rfl hrun ?_)
            go_roundw
            case measure => simp only [lenV]; omega
            case rel =>
              have hz1 := HZ.out.2.2.2.2.2.1
              have hz2 := HZ.out.2.2.2.2.2.2
              refine ⟨_, co', _, _, _, cc', at2, c', _, rfl, rfl, ?_, ?_, ?_, ?_, HZ.out.1, HZ.out.2.2.2.2.1, HZ.out.2.1, HZ.out.2.2.2.1, HZ.out.2.2.1⟩ <;> omega
          · have hcp : 0 < nc' := by omega
            obtain ⟨y, ct2, rfl⟩ : ∃ y ct2, c' = y :: ct2 := by
              cases c' with
              | nil => simp at hnc'; omega
              | cons y ct2 => exact ⟨y, ct2, rfl⟩
            obtain ⟨gc, oc, rfl, hgc, y1, y2⟩ := (hcr.below hbq) 0 y rfl
            rw [Nat.zero_mul, Nat.add_zero] at y1 y2
            obtain ⟨yc, ya⟩ := y
            simp only at y1 y2
            have g2 : decide ((nc' : Int) > 0) = true := decide_eq_true (by omega)
            have g3 : ((nc' : Int) == 0) = false := by simp; omega
            by_cases haz : na' = 0
            · have g1 : decide ((na' : Int) > 0) = false := decide_eq_false (by omega)
              have hcmp : ∀ x, a'.head? = some x → ya < x.2 := fun x hx => by
                have : a' = [] := List.eq_nil_of_length_eq_zero (by omega)
                rw [this] at hx; simp at hx
              simp only [List.length_cons] at hfew hnc'
              have hdr := mdrop_one hcr (ca := cc') (by simp only [List.length_cons]; omega)
              have hMS := hms.snd hcmp
              have hll : l.length ≤ 200000 := by omega
              have HZ0 : Hid (wr.ownsRow Wo.heap.size 64 2 u5 l.length (l.flatMap gcells) ∧ Below Wo.heap.size Wo wr ∧ l.length ≤ 200000 ∧ MS 0 (a ++ b) (l ++ [(yc, ya)]) a' ct2 ∧ FRow Wo (if cc' = 1 then some ⟨gc, oc, none⟩ else some ⟨gc, oc + 2, none⟩) ct2 ∧ FRow Wo ao' a' ∧ a'.length = na' ∧ ct2.length + 1 = nc') := ⟨hl, hbq, hll, hMS, hdr, har, hna', by simpa using hnc'⟩
              clear har hcr hl hms hbq hcmp hna' hnc' hfew hdr hMS hll hLn
              go_wp2_with fail
              go_quiet (fail)
              go_upto_region 14 with fail
              have bV : Below wr.heap.size wr (wr.drewN nq) := G9.below_drewN (Below.refl _ _) nq
              have d1 := (bV.cell (p := ⟨gc, oc, none⟩) hgc).trans y1
              have d2 := (bV.cell (p := ⟨gc, oc + 1, none⟩) hgc).trans y2
              have hl2 : (wr.drewN nq).ownsRow Wo.heap.size 64 2 u5 l.length (l.flatMap gcells) := row_mv HZ0.out.1 fun g hg => bV.block g (G6.own_blk HZ0.out.1 hg).2.1
              have hb2 : Below Wo.heap.size Wo (wr.drewN nq) := HZ0.out.2.1.trans (bV.mono HZ0.out.2.1.size)
              have hgV : gc < (wr.drewN nq).heap.size := Nat.lt_of_lt_of_le hgc bV.size
              generalize wr.drewN nq = V at *
              clear bV
              obtain ⟨l2, W2, hrun, r1, r2⟩ := mtake_one yc ya hl2 hb2 HZ0.out.2.2.1
              have HZ : Hid (FRow Wo (if cc' = 1 then some ⟨gc, oc, none⟩ else some ⟨gc, oc + 2, none⟩) ct2 ∧ W2.ownsRow Wo.heap.size 64 2 l2 (l ++ [(yc, ya)]).length ((l ++ [(yc, ya)]).flatMap gcells) ∧ Below Wo.heap.size Wo W2 ∧ MS 0 (a ++ b) (l ++ [(yc, ya)]) a' ct2 ∧ FRow Wo ao' a' ∧ a'.length = na' ∧ ct2.length + 1 = nc') := ⟨HZ0.out.2.2.2.2.1, r1, r2, HZ0.out.2.2.2.1, HZ0.out.2.2.2.2.2⟩
              clear hl2 hb2 r1 r2 HZ0
              go_wp2_with (at_builtin; refine list_append_eq rfl _ _ 31 31 rfl _ _ rfl rfl hrun ?_)
              go_roundw
              case measure => simp only [lenV]; omega
              case rel =>
                have hz1 := HZ.out.2.2.2.2.2.1
                have hz2 := HZ.out.2.2.2.2.2.2
                refine ⟨ao', _, _, ca', _, _, a', ct2, _, rfl, rfl, ?_, ?_, ?_, ?_, HZ.out.2.2.2.2.1, HZ.out.1, HZ.out.2.1, HZ.out.2.2.2.1, HZ.out.2.2.1⟩ <;> omega
            · have hap : 0 < na' := by omega
              obtain ⟨x, at2, rfl⟩ : ∃ x at2, a' = x :: at2 := by
                cases a' with
                | nil => simp at hna'; omega
                | cons x at2 => exact ⟨x, at2, rfl⟩
              obtain ⟨ga, oa, rfl, hga, z1, z2⟩ := (har.below hbq) 0 x rfl
              rw [Nat.zero_mul, Nat.add_zero] at z1 z2
              obtain ⟨xc, xa⟩ := x
              simp only at z1 z2
              have g1 : decide ((na' : Int) > 0) = true := decide_eq_true (by omega)
              by_cases hle : xa ≤ ya
              · have hle' : decide (xa ≤ ya) = true := decide_eq_true hle
                have hcmp : ∀ y, (((yc, ya) : Int × Int) :: ct2).head? = some y → xa ≤ y.2 := fun y hy => by
                  simp only [List.head?_cons, Option.some.injEq] at hy
                  subst hy
                  exact hle
                simp only [List.length_cons] at hfew hna' hnc'
                have hdr := mdrop_one har (ca := ca') (by simp only [List.length_cons]; omega)
                have hMS := hms.fst hcmp
                have hll : l.length ≤ 200000 := by omega
                have HZ0 : Hid (wr.ownsRow Wo.heap.size 64 2 u5 l.length (l.flatMap gcells) ∧ Below Wo.heap.size Wo wr ∧ l.length ≤ 200000 ∧ MS 0 (a ++ b) (l ++ [(xc, xa)]) at2 ((yc, ya) :: ct2) ∧ FRow Wo (if ca' = 1 then some ⟨ga, oa, none⟩ else some ⟨ga, oa + 2, none⟩) at2 ∧ FRow Wo (some ⟨gc, oc, none⟩) ((yc, ya) :: ct2) ∧ ((yc, ya) :: ct2).length = nc' ∧ at2.length + 1 = na') := ⟨hl, hbq, hll, hMS, hdr, hcr, hnc', by simpa using hna'⟩
                clear har hcr hl hms hbq hcmp hna' hnc' hfew hdr hMS hll hLn
                go_wp2_with fail
                go_quiet (fail)
                go_upto_region 12 with fail
                have bV : Below wr.heap.size wr (wr.drewN nq) := G9.below_drewN (Below.refl _ _) nq
                have d1 := (bV.cell (p := ⟨ga, oa, none⟩) hga).trans z1
                have d2 := (bV.cell (p := ⟨ga, oa + 1, none⟩) hga).trans z2
                have hl2 : (wr.drewN nq).ownsRow Wo.heap.size 64 2 u5 l.length (l.flatMap gcells) := row_mv HZ0.out.1 fun g hg => bV.block g (G6.own_blk HZ0.out.1 hg).2.1
                have hb2 : Below Wo.heap.size Wo (wr.drewN nq) := HZ0.out.2.1.trans (bV.mono HZ0.out.2.1.size)
                have hgV : ga < (wr.drewN nq).heap.size := Nat.lt_of_lt_of_le hga bV.size
                generalize wr.drewN nq = V at *
                clear bV
                obtain ⟨l2, W2, hrun, r1, r2⟩ := mtake_one xc xa hl2 hb2 HZ0.out.2.2.1
                have HZ : Hid (FRow Wo (if ca' = 1 then some ⟨ga, oa, none⟩ else some ⟨ga, oa + 2, none⟩) at2 ∧ W2.ownsRow Wo.heap.size 64 2 l2 (l ++ [(xc, xa)]).length ((l ++ [(xc, xa)]).flatMap gcells) ∧ Below Wo.heap.size Wo W2 ∧ MS 0 (a ++ b) (l ++ [(xc, xa)]) at2 ((yc, ya) :: ct2) ∧ FRow Wo (some ⟨gc, oc, none⟩) ((yc, ya) :: ct2) ∧ ((yc, ya) :: ct2).length = nc' ∧ at2.length + 1 = na') := ⟨HZ0.out.2.2.2.2.1, r1, r2, HZ0.out.2.2.2.1, HZ0.out.2.2.2.2.2⟩
                clear hl2 hb2 r1 r2 HZ0
                go_wp2_with (at_builtin; refine list_append_eq rfl _ _ 31 31 rfl _ _ rfl rfl hrun ?_)
                go_roundw
                case measure => simp only [lenV]; omega
                case rel =>
                  have hz1 := HZ.out.2.2.2.2.2.1
                  have hz2 := HZ.out.2.2.2.2.2.2
                  refine ⟨_, _, _, _, _, cc', at2, (yc, ya) :: ct2, _, rfl, rfl, ?_, ?_, ?_, ?_, HZ.out.1, HZ.out.2.2.2.2.1, HZ.out.2.1, HZ.out.2.2.2.1, HZ.out.2.2.1⟩ <;> omega
              · have hle' : decide (xa ≤ ya) = false := decide_eq_false hle
                have hcmp : ∀ x, (((xc, xa) : Int × Int) :: at2).head? = some x → ya < x.2 := fun x hx => by
                  simp only [List.head?_cons, Option.some.injEq] at hx
                  subst hx
                  simp only; omega
                simp only [List.length_cons] at hfew hna' hnc'
                have hdr := mdrop_one hcr (ca := cc') (by simp only [List.length_cons]; omega)
                have hMS := hms.snd hcmp
                have hll : l.length ≤ 200000 := by omega
                have HZ0 : Hid (wr.ownsRow Wo.heap.size 64 2 u5 l.length (l.flatMap gcells) ∧ Below Wo.heap.size Wo wr ∧ l.length ≤ 200000 ∧ MS 0 (a ++ b) (l ++ [(yc, ya)]) ((xc, xa) :: at2) ct2 ∧ FRow Wo (if cc' = 1 then some ⟨gc, oc, none⟩ else some ⟨gc, oc + 2, none⟩) ct2 ∧ FRow Wo (some ⟨ga, oa, none⟩) ((xc, xa) :: at2) ∧ ((xc, xa) :: at2).length = na' ∧ ct2.length + 1 = nc') := ⟨hl, hbq, hll, hMS, hdr, har, hna', by simpa using hnc'⟩
                clear har hcr hl hms hbq hcmp hna' hnc' hfew hdr hMS hll hLn
                go_wp2_with fail
                go_quiet (fail)
                go_upto_region 14 with fail
                have bV : Below wr.heap.size wr (wr.drewN nq) := G9.below_drewN (Below.refl _ _) nq
                have d1 := (bV.cell (p := ⟨gc, oc, none⟩) hgc).trans y1
                have d2 := (bV.cell (p := ⟨gc, oc + 1, none⟩) hgc).trans y2
                have hl2 : (wr.drewN nq).ownsRow Wo.heap.size 64 2 u5 l.length (l.flatMap gcells) := row_mv HZ0.out.1 fun g hg => bV.block g (G6.own_blk HZ0.out.1 hg).2.1
                have hb2 : Below Wo.heap.size Wo (wr.drewN nq) := HZ0.out.2.1.trans (bV.mono HZ0.out.2.1.size)
                have hgV : gc < (wr.drewN nq).heap.size := Nat.lt_of_lt_of_le hgc bV.size
                generalize wr.drewN nq = V at *
                clear bV
                obtain ⟨l2, W2, hrun, r1, r2⟩ := mtake_one yc ya hl2 hb2 HZ0.out.2.2.1
                have HZ : Hid (FRow Wo (if cc' = 1 then some ⟨gc, oc, none⟩ else some ⟨gc, oc + 2, none⟩) ct2 ∧ W2.ownsRow Wo.heap.size 64 2 l2 (l ++ [(yc, ya)]).length ((l ++ [(yc, ya)]).flatMap gcells) ∧ Below Wo.heap.size Wo W2 ∧ MS 0 (a ++ b) (l ++ [(yc, ya)]) ((xc, xa) :: at2) ct2 ∧ FRow Wo (some ⟨ga, oa, none⟩) ((xc, xa) :: at2) ∧ ((xc, xa) :: at2).length = na' ∧ ct2.length + 1 = nc') := ⟨HZ0.out.2.2.2.2.1, r1, r2, HZ0.out.2.2.2.1, HZ0.out.2.2.2.2.2⟩
                clear hl2 hb2 r1 r2 HZ0
                go_wp2_with (at_builtin; refine list_append_eq rfl _ _ 31 31 rfl _ _ rfl rfl hrun ?_)
                go_roundw
                case measure => simp only [lenV]; omega
                case rel =>
                  have hz1 := HZ.out.2.2.2.2.2.1
                  have hz2 := HZ.out.2.2.2.2.2.2
                  refine ⟨_, _, _, ca', _, _, ((xc, xa) :: at2), ct2, _, rfl, rfl, ?_, ?_, ?_, ?_, HZ.out.2.2.2.2.1, HZ.out.1, HZ.out.2.1, HZ.out.2.2.2.1, HZ.out.2.2.1⟩ <;> omega
end Go.Proofs.Ytkbakbacomidbaa
