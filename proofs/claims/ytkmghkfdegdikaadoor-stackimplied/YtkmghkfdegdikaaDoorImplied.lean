/- The law StackImplied holds for any elements and any name: behind Implied the top is one that does not end by itself, or the one that is left out; all that were popped do. The program's lists are laid as its text lays them (the card ties them); no other condition. -/
import Derived.Test.YtkmghkfdegdikaaDoorBd
import Derived.Shelf.Abstract
import Derived.Deep.RegionHeld3
namespace Go.Proofs.YtkmghkfdegdikaaDoor
open Go.ChangeShapes Go.WideShapes Go.ChangeAt Go.RowKit Go.Joins

theorem left_imp (but : ByteArray) (M : List El) : ∀ (k j : Nat), leftI but M k ≤ j → j < k → k ≤ M.length → ∃ d, M[j]? = some d ∧ impP but d.sp d.nm = true
  | 0, j, _, h, _ => by omega
  | k + 1, j, h1, h2, h3 => by
    obtain ⟨d, hd⟩ : ∃ d, M[k]? = some d := ⟨_, List.getElem?_eq_getElem (by omega)⟩
    rw [leftI_next hd] at h1
    by_cases hi : impP but d.sp d.nm = true
    · rw [if_pos hi] at h1
      by_cases e : j = k
      · subst e
        exact ⟨d, hd, hi⟩
      · exact left_imp but M k j h1 (by omega) (by omega)
    · rw [if_neg hi] at h1
      omega
theorem left_top (but : ByteArray) (M : List El) : ∀ (k j : Nat), leftI but M k = j + 1 → k ≤ M.length → ∃ d, M[j]? = some d ∧ impP but d.sp d.nm = false
  | 0, j, h, _ => by cases h
  | k + 1, j, h1, h3 => by
    obtain ⟨d, hd⟩ : ∃ d, M[k]? = some d := ⟨_, List.getElem?_eq_getElem (by omega)⟩
    rw [leftI_next hd] at h1
    by_cases hi : impP but d.sp d.nm = true
    · rw [if_pos hi] at h1
      exact left_top but M k j h1 (by omega)
    · rw [if_neg hi] at h1
      have e : k = j := by omega
      subst e
      exact ⟨d, hd, by simpa using hi⟩
set_option maxHeartbeats 4000000 in
set_option maxRecDepth 20000 in
theorem implied_walk {w : World} (TB : Tb w) (lo : Option Addr) (len cap : Nat) (L : List El) (hL : ElsIn w lo len L) (but : ByteArray) : Calls Tryd.prog 6 #[.slice lo len cap, .string but] w fun e w' => e = .returned (.bool true) ∧ Below w.heap.size w w' := by
  have HI : Hid (Tb w ∧ ElsIn w lo len L) := ⟨TB, hL⟩
  have kn := new_any w
  clear TB hL
  go_enter Tryd.func6, Tryd.ntmps6
  go_wp2_with fail
  refine kn.mono ?_
  rintro e w1 ⟨rfl, b1, s1⟩
  have HB : Hid (Below w.heap.size w w1 ∧ Stk (fun k => k < w.heap.size) w1 w.heap.size (.slice none 0 0) []) := ⟨b1, s1⟩
  clear kn b1 s1
  obtain ⟨sz, hsz⟩ : ∃ sz : Nat, sz = but.size := ⟨_, rfl⟩
  by_cases hg : 300 < len ∨ 1000 < but.size
  · have ka := awake_any (HI.out.1.below HB.out.1)
    by_cases h1 : 300 < len
    · have hd : decide ((300 : Int) < (len : Int)) = true := decide_eq_true (by omega)
      clear hg h1 hsz
      go_wp2_with fail
      refine ka.mono ?_
      rintro e w2 ⟨rfl, b2⟩
      have HF : Hid (Below w.heap.size w w2) := HB.out.1.trans (b2.mono HB.out.1.size)
      clear b2 ka
      go_wp2_with fail
      go_ret
      exact ⟨rfl, HF.out⟩
    · have hd : decide ((300 : Int) < (len : Int)) = false := decide_eq_false (by omega)
      have hd2 : decide ((1000 : Int) < (but.size : Int)) = true := decide_eq_true (by omega)
      clear hg h1 hsz
      go_wp2_with fail
      refine ka.mono ?_
      rintro e w2 ⟨rfl, b2⟩
      have HF : Hid (Below w.heap.size w w2) := HB.out.1.trans (b2.mono HB.out.1.size)
      clear b2 ka
      go_wp2_with fail
      go_ret
      exact ⟨rfl, HF.out⟩
  · have hd : decide ((300 : Int) < (len : Int)) = false := decide_eq_false (by omega)
    have hd2 : decide ((1000 : Int) < (but.size : Int)) = false := decide_eq_false (by omega)
    have hlen : len ≤ 300 := by omega
    have HL : Hid (len ≤ 300) := hlen
    clear hg hsz
    go_wp2_with fail
    go_loopg [6] len (fun g2 iv' wr => ∃ (i : Nat), iv' = iv (i : Int) ∧ i + g2 = len ∧ Hid (Psh w.heap.size w wr L i w.heap.size))
    case atStart => exact ⟨0, rfl, by omega, [], _, HB.out.1, HB.out.2, by simp, rfl⟩
    case round =>
      obtain ⟨i, rfl, hig, HP⟩ := hrel
      cases gk with
      | succ k =>
        have hin : i < len := by omega
        have bw : Below w.heap.size w wr := by
          obtain ⟨_, _, h1, _⟩ := HP.out
          exact h1
        obtain ⟨d, b, off, ao, ac, hd, rfl, q0, q1, q2, q3, hav, hats⟩ := (HI.out.2.old bw).at hin
        have kp := HP.out.next hd hats (by omega)
        obtain ⟨id, sp, nm, av, al⟩ := d
        simp only at hav q0 q1 q2 q3
        subst hav
        clear hd hats bw
        go_wp2_with fail
        refine kp.mono ?_
        rintro e w3 ⟨rfl, hp3⟩
        have HJ : Hid (Psh w.heap.size w w3 L (i + 1) w.heap.size) := hp3
        clear kp hp3 q0 q1 q2 q3
        go_wp2_with fail
        go_roundg k
        case measure => omega
        case rel => exact ⟨i + 1, by go_num, by omega, HJ⟩
      | zero =>
        obtain rfl : i = len := by omega
        have hg0 : decide ((i : Int) < (i : Int)) = false := decide_eq_false (by omega)
        obtain ⟨Wp, rfl⟩ : ∃ Wp, Wp = wr := ⟨_, rfl⟩
        obtain ⟨M, rv, p1, p2, p3, p4⟩ := HP.out
        rw [List.take_of_length_le (by rw [HI.out.2.hlen]; omega)] at p3
        have hM : M.length ≤ 1000000000 := by omega
        have ki := implied_pop (HI.out.1.below p1) p2 hM but
        rw [p4] at ki
        obtain ⟨n, hn⟩ : ∃ n, n = i := ⟨_, rfl⟩
        rw [← hn] at ki p4 hlen ⊢
        obtain ⟨left, hleft⟩ : ∃ left, leftI but M n = left := ⟨_, rfl⟩
        have hle : left ≤ n := by rw [← hleft]; exact leftI_le but M n
        rw [hleft] at ki
        have HM : Hid (M.map El.pu = L.map El.pu ∧ M.length = n ∧ leftI but M n = left ∧ L.length = n) := ⟨p3, p4, hleft, by rw [HI.out.2.hlen, hn]⟩
        have HW : Hid (Below w.heap.size w Wp) := p1
        have HII : Hid (Tb w ∧ ElsIn w lo n L) := by
          refine ⟨HI.out.1, ?_⟩
          rw [hn]
          exact HI.out.2
        clear p1 p2 p3 p4 hleft HP HI hM hg0 hig hn
        go_wp2_with fail
        refine ki.mono ?_
        rintro e w2 ⟨v, rv2, rfl, s2, k2, r2, o2⟩
        rw [HM.out.2.1] at r2
        have bw2 : Below w.heap.size w w2 := HW.out.trans (k2.below (fun _ h => h) HW.out.size)
        have hl2 : (M.take left).length = left := by rw [List.length_take, HM.out.2.1]; omega
        have ka := all_any s2 (by rw [hl2]; omega)
        have H2 : Hid (Below w.heap.size w w2 ∧ Stk (fun k => k < w.heap.size) w2 w.heap.size rv2 (M.take left) ∧ Rw (fun k => k < Wp.heap.size) w2 34 4 v (n - left) ((M.drop left).reverse.flatMap El.cs) ∧ (∀ d ∈ M, Own w2 d.av d.al) ∧ (M.take left).length = left) := ⟨bw2, s2, r2, o2, hl2⟩
        obtain ⟨vo, vc, rfl, _⟩ := r2.slice
        clear ki s2 k2 r2 o2 bw2 hl2
        go_wp2_with fail
        refine ka.mono ?_
        rintro e w3 ⟨v3, N, rfl, r3, _, _, b3⟩
        rw [H2.out.2.2.2.2] at r3
        obtain ⟨v3o, v3c, rfl, _⟩ := r3.slice
        have H3 : Hid (Below w2.heap.size w2 w3) := b3
        clear ka r3 b3
        have hsum : ((n - left : Nat) : Int) + (left : Int) = (n : Int) := by omega
        go_wp2_with fail
        clear hsum
        go_loopg [9] (n - left) (fun g2 iv' wr2 => ∃ (j : Nat), iv' = iv (j : Int) ∧ j + g2 = n - left ∧ Hid (Below w2.heap.size w2 wr2))
        case atStart => exact ⟨0, rfl, by omega, H3.out⟩
        case round =>
          obtain ⟨j, rfl, hjg, HJ⟩ := hrel
          cases gk with
          | succ k =>
            obtain ⟨W4, rfl⟩ : ∃ W4, W4 = wr := ⟨_, rfl⟩
            have hjm : j < n - left := by omega
            have hjt : n - 1 - j < n := by omega
            have hjz : ((n : Int) - 1) - (j : Int) = ((n - 1 - j : Nat) : Int) := by omega
            obtain ⟨t, ht⟩ : ∃ t, n - 1 - j = t := ⟨_, rfl⟩
            rw [ht] at hjz hjt
            obtain ⟨d, hd, himp⟩ := left_imp but M n t (by rw [HM.out.2.2.1]; omega) hjt (by rw [HM.out.2.1]; exact Nat.le_refl _)
            have hrv : (M.drop left).reverse[j]? = some d := by
              rw [List.getElem?_reverse (by rw [List.length_drop, HM.out.2.1]; exact hjm), List.getElem?_drop, List.length_drop, HM.out.2.1, ← hd]
              congr 1
              omega
            have r4 := H2.out.2.2.1.old HJ.out
            obtain ⟨g, cp, cur, hgv, hgS, hgl, hgb, hc1, hc2, _⟩ := r4.form (by omega)
            simp only [Value.slice.injEq, true_and] at hgv
            obtain ⟨rfl, rfl⟩ := hgv
            obtain ⟨q0, q1, q2, q3⟩ := el_cells r4 hrv
            have od := (H2.out.2.2.2.1 d (List.mem_of_getElem? hd)).old HJ.out
            have bw4 : Below w.heap.size w W4 := H2.out.1.trans (HJ.out.mono H2.out.1.size)
            obtain ⟨d2, b, off, ao, ac, hd2, rfl, u0, u1, u2, u3, hav2, hats2⟩ := (HII.out.2.old bw4).at hjt
            have hpu : d.pu = d2.pu := by
              have := congrArg (·[t]?) HM.out.1
              simp only [List.getElem?_map, hd, hd2] at this
              injection this
            obtain ⟨dao, dac, hdav, _⟩ := od.1.slice
            have k1 := one_any (w := W4.drew) d d2 (od.ats.old (Below.refl W4.heap.size W4).drew) (hats2.old (Below.refl W4.heap.size W4).drew)
            have himp' := himp
            unfold impP at himp'
            rw [Bool.and_eq_true, Bool.and_eq_true] at himp'
            have hne : (d.nm.toList == but.toList) = false := by
              have := himp'.2.1
              simpa using this
            have hhas := himp'.2.2
            have hlt4 : b < W4.heap.size ∧ g < W4.heap.size := by
              refine ⟨World.block_lt_of_cell? W4 _ u0, hgl⟩
            have HK : Hid (∀ V, Below W4.heap.size W4 V → (V.cell? ⟨g, j * 4, none⟩ = some (iv d.id) ∧ V.cell? ⟨g, j * 4 + 1, none⟩ = some (iv d.sp) ∧ V.cell? ⟨g, j * 4 + 2, none⟩ = some (.string d.nm) ∧ V.cell? ⟨g, j * 4 + 3, none⟩ = some d.av) ∧ V.cell? ⟨b, off + t * 4, none⟩ = some (iv d2.id) ∧ V.cell? ⟨b, off + t * 4 + 1, none⟩ = some (iv d2.sp) ∧ V.cell? ⟨b, off + t * 4 + 2, none⟩ = some (.string d2.nm) ∧ V.cell? ⟨b, off + t * 4 + 3, none⟩ = some d2.av) := fun V bV =>
              ⟨el_cells (r4.old bV) hrv, (bV.cell (p := ⟨b, off + t * 4, none⟩) hlt4.1).trans u0, (bV.cell (p := ⟨b, off + t * 4 + 1, none⟩) hlt4.1).trans u1, (bV.cell (p := ⟨b, off + t * 4 + 2, none⟩) hlt4.1).trans u2, (bV.cell (p := ⟨b, off + t * 4 + 3, none⟩) hlt4.1).trans u3⟩
            have hr1 := rimplied_any d.nm
            rw [hhas] at hr1
            obtain ⟨did, dsp, dnm, dav, dal⟩ := d
            obtain ⟨eid, esp, enm, eav, eal⟩ := d2
            simp only at q0 q1 q2 q3 u0 u1 u2 u3 hav2 hdav hne
            subst hav2
            subst hdav
            have H14 : Hid (Calls Tryd.prog 14 #[.agg #[iv did, iv dsp, .string dnm, .slice dao dal.length dac], .agg #[iv eid, iv esp, .string enm, .slice ao eal.length ac]] W4.drew fun e w' => e = .returned (.bool true) ∧ ((w'.cell? ⟨g, j * 4, none⟩ = some (iv did) ∧ w'.cell? ⟨g, j * 4 + 1, none⟩ = some (iv dsp) ∧ w'.cell? ⟨g, j * 4 + 2, none⟩ = some (.string dnm) ∧ w'.cell? ⟨g, j * 4 + 3, none⟩ = some (.slice dao dal.length dac)) ∧ w'.cell? ⟨b, off + t * 4, none⟩ = some (iv eid) ∧ w'.cell? ⟨b, off + t * 4 + 1, none⟩ = some (iv esp) ∧ w'.cell? ⟨b, off + t * 4 + 2, none⟩ = some (.string enm) ∧ w'.cell? ⟨b, off + t * 4 + 3, none⟩ = some (.slice ao eal.length ac)) ∧ Hid (Below w2.heap.size w2 w')) := k1.mono (by
              rintro e w' ⟨r, rfl, hr, bb⟩
              have b5 : Below W4.heap.size W4 w' := (Below.refl W4.heap.size W4).drew.trans bb
              exact ⟨by rw [hr hpu], HK.out w' b5, HJ.out.trans (b5.mono HJ.out.size)⟩)
            have H21 : Hid (∀ V, Calls Tryd.prog 21 #[.string dnm] V fun e w' => e = .returned (.bool true) ∧ w' = V) := hr1
            clear hr1 k1 hpu himp himp' hhas hrv r4 od hats2 HK hd hd2 hgS hgb hlt4 bw4 hc1 hc2 hgl
            have hjl : (j : Int) < ((n - left : Nat) : Int) := by omega
            have hnn : n ≤ 300 := hlen
            have hjnn : j ≤ 300 := by omega
            have htl : (t : Int) < (n : Int) := by omega
            have ht0 : (0 : Int) ≤ (t : Int) := by omega
            have hw1 : IntKind.i64.wrap ((n : Int) - 1) = (n : Int) - 1 := by rw [IntKind.wrap_i64]; omega
            have hw2 : IntKind.i64.wrap (t : Int) = (t : Int) := by rw [IntKind.wrap_i64]; omega
            have hj0 : (0 : Int) ≤ (j : Int) := by omega
            clear HW ht
            go_wp2_with fail
            go_region_held3 (fun w' => (w'.cell? ⟨g, j * 4, none⟩ = some (iv did) ∧ w'.cell? ⟨g, j * 4 + 1, none⟩ = some (iv dsp) ∧ w'.cell? ⟨g, j * 4 + 2, none⟩ = some (.string dnm) ∧ w'.cell? ⟨g, j * 4 + 3, none⟩ = some (.slice dao dal.length dac)) ∧ w'.cell? ⟨b, off + t * 4, none⟩ = some (iv eid) ∧ w'.cell? ⟨b, off + t * 4 + 1, none⟩ = some (iv esp) ∧ w'.cell? ⟨b, off + t * 4 + 2, none⟩ = some (.string enm) ∧ w'.cell? ⟨b, off + t * 4 + 3, none⟩ = some (.slice ao eal.length ac)) (first | exact ⟨⟨f0, f1, f2, f3⟩, f4, f5, f6, f7⟩ | exact ⟨⟨q0, q1, q2, q3⟩, u0, u1, u2, u3⟩) (first
              | (go_at_call 14; refine Calls.mono H14.out ?_; rintro e w5 ⟨rfl, ⟨⟨f0, f1, f2, f3⟩, f4, f5, f6, f7⟩, HC⟩)
              | (go_at_call 21; refine Calls.mono (H21.out _) ?_; rintro e w6 ⟨rfl, hw6⟩; rw [hw6]; clear hw6))
            all_goals
              go_wp2_with fail
              go_roundg k
              case measure => omega
              case rel => exact ⟨j + 1, by go_num, by omega, HC⟩
          | zero =>
            obtain ⟨W4, rfl⟩ : ∃ W4, W4 = wr := ⟨_, rfl⟩
            obtain rfl : j = n - left := by omega
            have hg1 : decide (((n - left : Nat) : Int) < ((n - left : Nat) : Int)) = false := decide_eq_false (by omega)
            have s4 := H2.out.2.1.old HJ.out
            have bw4 : Below w.heap.size w W4 := H2.out.1.trans (HJ.out.mono H2.out.1.size)
            have HX : Hid (Below w.heap.size w W4 ∧ Tb w) := ⟨bw4, HII.out.1⟩
            by_cases hl0 : left = 0
            · have kt := top_none (by
                rw [hl0, List.take_zero] at s4
                exact s4)
              clear s4 bw4 hl0 HM H2 HJ HII HB HW H3 hjg
              go_wp2_with fail
              refine kt.mono ?_
              rintro e w5 ⟨rfl, b5⟩
              obtain ⟨W6, hW6, x6, b6⟩ := zbox w5
              have HW6 : Hid _ := hW6
              have b46 : Below w.heap.size w W6 := HX.out.1.trans ((b5.trans (b6.mono b5.size)).mono HX.out.1.size)
              have ka := awake_any (HX.out.2.below b46)
              have HF : Hid (Below w.heap.size w W6) := b46
              clear hW6 x6 b6 b5 b46 kt
              go_upto_region 18 with fail
              rw [HW6.out]
              go_wp2_with fail
              refine ka.mono ?_
              rintro e w7 ⟨rfl, b7⟩
              have HG : Hid (Below w.heap.size w w7) := HF.out.trans (b7.mono HF.out.size)
              clear b7 ka
              go_wp2_with fail
              go_ret
              exact ⟨rfl, HG.out⟩
            · obtain ⟨l, hl⟩ : ∃ l, left = l + 1 := ⟨left - 1, by omega⟩
              obtain ⟨d, hd, himp⟩ := left_top but M n l (by rw [HM.out.2.2.1]; exact hl) (by rw [HM.out.2.1]; exact Nat.le_refl _)
              have kt := top_any s4 (m := l) (d := d) (by rw [H2.out.2.2.2.2]; exact hl) (by rw [List.getElem?_take_of_lt (by omega)]; exact hd) (by omega)
              have HN : Hid (impP but d.sp d.nm = false) := himp
              clear s4 bw4 hl0 hl HM H2 HJ HII HB HW H3 hjg himp hd
              obtain ⟨did, dsp, dnm, dav, dal⟩ := d
              go_wp2_with fail
              refine kt.mono ?_
              rintro e w5 ⟨v5, rfl, o5, b5⟩
              obtain ⟨ao5, ac5, hv5, _⟩ := o5.1.slice
              subst hv5
              obtain ⟨W6, hW6⟩ : ∃ W6, w5.alloc (.cells #[Value.int IntKind.i64 did, Value.int IntKind.i64 dsp, Value.string dnm, Value.slice ao5 dal.length ac5] 34) = W6 := ⟨_, rfl⟩
              have HW6 : Hid (w5.alloc (.cells #[Value.int IntKind.i64 did, Value.int IntKind.i64 dsp, Value.string dnm, Value.slice ao5 dal.length ac5] 34) = W6) := hW6
              have x6 : Bx W6 w5.heap.size 34 #[iv did, iv dsp, .string dnm, .slice ao5 dal.length ac5] := by rw [← hW6]; exact heap_alloc_new w5 _
              have b6 : Below w5.heap.size w5 W6 := by rw [← hW6]; exact (Below.refl _ _).alloc (Nat.le_refl _) _
              have b46 : Below w.heap.size w W6 := HX.out.1.trans ((b5.trans (b6.mono b5.size)).mono HX.out.1.size)
              have ka := awake_any (HX.out.2.below b46)
              have HF : Hid (Below w.heap.size w W6) := b46
              have c1 : W6.cell? ⟨w5.heap.size, 1, none⟩ = some (iv dsp) := x6.cell 1
              have c2 : W6.cell? ⟨w5.heap.size, 2, none⟩ = some (.string dnm) := x6.cell 2
              clear hW6 x6 b6 b5 b46 kt o5
              go_upto_region 18 with fail
              rw [HW6.out]
              have HE : Hid (∀ w7, Below W6.heap.size W6 w7 → Below w.heap.size w w7) := fun w7 b7 => HF.out.trans (b7.mono HF.out.size)
              by_cases h0 : dsp = 0
              · have hn := HN.out
                unfold impP at hn
                simp only [h0, decide_true, Bool.true_and] at hn
                clear HN
                subst h0
                cases h1 : (dnm.toList == but.toList) with
                | true =>
                  clear hn
                  go_wp2_with fail
                  refine ka.mono ?_
                  rintro e w7 ⟨rfl, b7⟩
                  have HG : Hid (Below w.heap.size w w7) := HE.out w7 b7
                  clear b7 ka
                  go_wp2_with fail
                  go_ret
                  exact ⟨rfl, HG.out⟩
                | false =>
                  rw [h1, Bool.not_false, Bool.true_and] at hn
                  have kr := rimplied_any dnm W6
                  rw [hn] at kr
                  clear hn
                  go_wp2_with fail
                  refine kr.mono ?_
                  rintro e w7 ⟨rfl, hw7⟩
                  rw [hw7]
                  clear hw7 kr
                  go_wp2_with fail
                  refine ka.mono ?_
                  rintro e w7 ⟨rfl, b7⟩
                  have HG : Hid (Below w.heap.size w w7) := HE.out w7 b7
                  clear b7 ka
                  go_wp2_with fail
                  go_ret
                  exact ⟨rfl, HG.out⟩
              · have g0 : (dsp == 0) = false := beq_false_of_ne h0
                clear HN
                go_wp2_with fail
                refine ka.mono ?_
                rintro e w7 ⟨rfl, b7⟩
                have HG : Hid (Below w.heap.size w w7) := HE.out w7 b7
                clear b7 ka
                go_wp2_with fail
                go_ret
                exact ⟨rfl, HG.out⟩
set_option maxRecDepth 100000 in
theorem implied_lifted (os : Os) (started : os.Started) (H : Type) (enc : TypeId × Value → H) :
    ReturnsInHanded {} Tryd.checked os 6 .any (fun w args => (Rows.stackImpliedSpec.pre enc Tryd.prog Tryd.f6 [] false w args ∧ laidMetH Tryd.prog laidL w) ∧ sizedMet enc Tryd.prog Tryd.f6 (OpenSpec.ofChange Rows.stackImpliedSpec) false w args) (Rows.stackImpliedSpec.post enc Tryd.prog Tryd.f6 false true false false) := by
  refine returnsInHanded_of_change_and (C := Tryd.checked) (X := fun w _ => laidMetH Tryd.prog laidL w) (fun _ _ _ hh h => h.of_heap hh) own started (by kernel_rfl) Tryd.func6
    (ChangeSpec.witness_shaped (enc := enc) (C := Tryd.checked) (os := os) (X := fun w _ => laidMetH Tryd.prog laidL w) false (World.doorLaid Tryd.prog 25 os) #[.slice none 0 0, .string ⟨#[]⟩] 8 rfl (World.shaped_of_RefB (by kernel_rfl) (by kernel_rfl)) (by kernel_rfl) (by kernel_rfl) (by kernel_rfl) (door_met os _)) ?_
  intro W base args ds gs before hval0 hW _ hz0 hL _
  have hz : (DataW.weightsEach Tryd.prog (Tryd.f6.params.toList ++ Rows.stackImpliedSpec.plain.varTypes Tryd.prog) (ds ++ gs)).all (· ≤ reachBytes) = true := hz0
  have hval : ∀ (j : Nat) t v, Tryd.f6.params[j]? = some t → args[j]? = some v → Value.okWide Tryd.prog W .any base t v := hval0
  have hH : Tb W := tb_of_laid hL
  have hW' := hW
  obtain ⟨p, q, hA0, hV, rfl, hfz, hnd⟩ := hW
  have hA : DataW.TrodAll enc Tryd.prog W 0 (fun _ => true) true Tryd.f6.params.toList args.toList ds p := hA0
  rw [Tryd.params6] at hA hval hz
  obtain ⟨v0, vs0, d0, ds0, p0, q0, hargs, rfl, rfl, h0, r0⟩ := trodAll_cons hA
  obtain ⟨v1, vs1, d1, ds1, p1, q1, rfl, rfl, rfl, h1, r1⟩ := trodAll_cons r0
  obtain ⟨rfl, rfl, rfl⟩ := trodAll_nil r1
  obtain rfl : args = #[v0, v1] := by cases args; simp_all
  obtain ⟨rfl, rfl⟩ := trodVars_none hV
  have k0 := h0
  have lt0 : ∀ x ∈ p0, x.block < W.heap.size := by obtain ⟨m, hm⟩ := k0; exact DataW.trod_lt m _ _ _ hm
  have k1 := h1
  have lt1 : ∀ x ∈ p1, x.block < W.heap.size := by obtain ⟨m, hm⟩ := k1; exact DataW.trod_lt m _ _ _ hm
  obtain ⟨lo0, len0, cap0, hv0⟩ := okWide_slice Tryd.underlying26 (hval 0 26 v0 rfl rfl)
  subst hv0
  obtain ⟨L0, hL0⟩ := open_els (j := 0) hz rfl rfl h0
  obtain ⟨x1, hv1, _, _, wx1⟩ := Go.ChangeMaps.open_string Tryd.underlying9 (hval 1 9 v1 rfl rfl) h1
  subst hv1
  clear hA0 hval0 hz0
  refine (implied_walk hH lo0 len0 cap0 L0 hL0 x1).mono fun e W' ⟨he, bel⟩ => ?_
  subst he
  exact ⟨_, rfl, _, _, _, [], _, [], hW', trodAll_mk1 (shut_bool Tryd.underlying4 _), (trodAll_cons_mk (Below.trod laidOut (by kernel_rfl) (of_decide_eq_true (by kernel_rfl)) k0 bel lt0) (trodAll_cons_mk (Below.trod laidOut (by kernel_rfl) (of_decide_eq_true (by kernel_rfl)) k1 bel lt1) trodAll_mk0)), rfl, bel.frame _, fun h => by cases h⟩

theorem implied_holds : Rows.StackImpliedSaid :=
  OpenClaim.holds_of_wide 6 Tryd.f6 rfl rfl rfl rfl rfl rfl rfl ⟨rfl, rfl, rfl, rfl, rfl⟩ rfl rfl rfl rfl rfl (by kernel_rfl) Tryd.func6 (by kernel_rfl)
    (of_decide_eq_true (by kernel_rfl)) (by unfold Func.isWrapper; first | (rw [if_pos (by decide +kernel)]; kernel_rfl) | (rw [if_neg (by decide +kernel)]; exact ⟨rfl, rfl⟩))
    (fun os started H enc _ => implied_lifted os started H enc)

theorem implied_card : Rows.StackImpliedCardSaid :=
  Claim7.holds_tied_plain_at .later [] [.data] true Rows.stackImpliedCard.stood.harness false
    implied_holds (fun _ h => by cases h) (by kernel_rfl) (fun _ h => by cases h) stackImplied_row_tie rfl ⟨rfl, rfl⟩ (by kernel_rfl) rfl
    (fun f fn hf hfn => by
      obtain rfl : f = 6 := Option.some.inj ((show Tryd.prog.funcNamed Rows.stackImpliedRow.func = some 6 by kernel_rfl).symm.trans hf) |>.symm
      obtain rfl : fn = Tryd.f6 := (Option.some.inj (Tryd.func6.symm.trans hfn)).symm
      exact ⟨by kernel_rfl, fun j t ht => by
        rw [Tryd.params6] at ht
        have hm : t ∈ [26, 9] := by simpa using Array.mem_of_getElem? ht
        have hall : ([26, 9].all fun u => !Tryd.prog.wantsStandIn u) = true := by kernel_rfl
        exact (show Tryd.prog.wantsStandIn t = false by simpa using List.all_eq_true.1 hall t hm)⟩)
    (by kernel_rfl)
#print axioms implied_card
end Go.Proofs.YtkmghkfdegdikaaDoor
