/- The law CharrefNumeric holds for every number: a character told as a number is that character. The program's table is laid as its text lays it (the card ties it); no other condition. -/
import Derived.Test.YtaadphifagimaaaDoorBase
import Derived.ProofKit
import Derived.OpenShut
import Derived.ShutString
import Derived.ChangeOld
import Derived.ChangeMaps
import Derived.Lib.SmallJoins
import Derived.Test.YtaadphifagimaaaDoorNumr
import Derived.Test.YtaadphifagimaaaDoorDn
import Derived.Deep.DeepCutAuto
namespace Go.Proofs.YtaadphifagimaaaDoor
open Go.ChangeShapes Go.WideShapes Go.ChangeAt Go.RowKit Go.Joins

def tabD : ByteArray := ⟨#[48, 49, 50, 51, 52, 53, 54, 55, 56, 57, 97, 98, 99, 100, 101, 102]⟩
theorem tabD_at : ∀ n : Fin 16, ∃ c : UInt8, (tabD.extract n.1 (n.1 + 1)).data.toList = [c] ∧ dig c.toNat = n.1 := by
  intro n
  exact ⟨tabD.data.toList.getD n.1 0, by revert n; decide +kernel, by revert n; decide +kernel⟩

theorem cds_len {w : World} {B : Nat} {v : Value} {L : List Int} (h : Cds w B v L) : ∃ lo cap, v = .slice lo L.length cap := by
  rcases h.2 with ⟨rfl, h0⟩ | ⟨g, cap, cur, rfl, _⟩
  · exact ⟨_, _, by rw [h0]⟩
  · exact ⟨_, _, rfl⟩

theorem tabD_slice (d : Nat) (hd : d < 16) (wx : World) : (Instr.slice 9 (.string ⟨#[48, 49, 50, 51, 52, 53, 54, 55, 56, 57, 97, 98, 99, 100, 101, 102]⟩) (some (.int .i64 (d : Int))) (some (.int .i64 ((d : Int) + 1))) none).run Tryd.prog wx = .ok (.string (tabD.extract d (d + 1))) wx := by
  have hz : tabD.size = 16 := by decide
  have := run_slice_string (P := Tryd.prog) wx 9 tabD .i64 .i64 (d : Int) ((d : Int) + 1) Tryd.underlying9 (by omega) (by omega) (by rw [hz]; omega)
  show (Instr.slice 9 (.string tabD) (some (.int .i64 (d : Int))) (some (.int .i64 ((d : Int) + 1))) none).run Tryd.prog wx = _
  simpa using this

theorem fin_num (n : Int) : ∃ N : Nat, wrap64 ((IntKind.u64.wrap n).tmod 1179648) = (N : Int) ∧ N < 1179648 := by
  obtain ⟨m, hm⟩ : ∃ m, IntKind.u64.wrap n = m := ⟨_, rfl⟩
  have hm0 : 0 ≤ m := by rw [← hm, IntKind.wrap_u64]; omega
  rw [hm]
  obtain ⟨a, rfl⟩ := Int.eq_ofNat_of_zero_le hm0
  refine ⟨a % 1179648, ?_, Nat.mod_lt _ (by decide)⟩
  have h1 : ((a : Int)).tmod 1179648 = ((a % 1179648 : Nat) : Int) := by rw [Int.tmod_eq_emod_of_nonneg (by omega)]; omega
  rw [h1]
  have := Nat.mod_lt a (show 0 < 1179648 by decide)
  obtain ⟨b, hb⟩ : ∃ b, a % 1179648 = b := ⟨_, rfl⟩
  rw [hb] at this ⊢
  unfold wrap64
  omega

set_option maxHeartbeats 1000000 in
set_option maxRecDepth 10000 in
theorem numeric_walk (n : Int) (hex semi : Bool) {w : World} (H : Hi w) : Calls Tryd.prog 7 #[.int .i64 n, .bool hex, .bool semi] w fun e w' => e = .returned (.bool true) ∧ Below w.heap.size w w' := by
  have HH : Hid (Hi w) := H
  clear H
  obtain ⟨N, hN, hNl⟩ := fin_num n
  go_enter Tryd.func7, Tryd.ntmps7
  go_upto_region 2 with fail
  rw [hN]
  clear hN
  generalize (IntKind.u64.wrap n).tmod 1179648 = m1
  generalize IntKind.u64.wrap n = m2
  cases hex
  · go_wp2_with fail
    go_loopw [7, 10] (fun sv kv wr => ∃ (k j : Nat) (q : ByteArray), sv = .string q ∧ kv = .int .i64 k ∧ Dg 10 N k q.data.toList ∧ wr = w.drewN j) (fun sv kv _ => (intOf kv).toNat + (match sv with | .string q => (if q.toList = [] then 1 else 0) | _ => 0))
    case atStart => exact ⟨N, 0, ByteArray.empty, rfl, rfl, Dg.start 10 N, rfl⟩
    case round =>
      obtain ⟨k, j, q, rfl, rfl, D, rfl⟩ := hrel
      have HD : Hid (Dg 10 N k q.data.toList) := D
      clear D
      obtain ⟨d, hd⟩ : ∃ d, k % 10 = d := ⟨_, rfl⟩
      obtain ⟨k2, hk2⟩ : ∃ k2, k / 10 = k2 := ⟨_, rfl⟩
      have hdl : d < 10 := by omega
      have hk2l : k2 ≤ k := by omega
      have ht : (k : Int).tmod 10 = (d : Int) := by rw [Int.tmod_eq_emod_of_nonneg (by omega)]; omega
      have hq : (k : Int).tdiv 10 = (k2 : Int) := by rw [Int.tdiv_eq_ediv_of_nonneg (by omega)]; omega
      obtain ⟨c, hc1, hc2⟩ := tabD_at ⟨d, by omega⟩
      obtain ⟨cb, hcb⟩ : ∃ cb, tabD.extract d (d + 1) = cb := ⟨_, rfl⟩
      simp only at hc1 hc2
      rw [hcb] at hc1
      have hsl := tabD_slice d (by omega)
      rw [hcb] at hsl
      have hwr : IntKind.i64.wrap ((d : Int) + 1) = (d : Int) + 1 := by rw [IntKind.wrap_i64]; omega
      have HCB : Hid (tabD.extract d (d + 1) = cb) := hcb
      clear hcb
      have HC : Hid (cb.data.toList = [c] ∧ dig c.toNat = d) := ⟨hc1, hc2⟩
      have HK2 : Hid (k % 10 = d ∧ k / 10 = k2) := ⟨hd, hk2⟩
      have hkk : 0 < k → k2 < k := fun h => by omega
      have HKK : Hid (0 < k → k2 < k) := hkk
      have hkN : Hid (k * 2 ^ q.data.toList.length ≤ N) := HD.out.sm
      have hkb : k < 1179648 := by
        have : k * 1 ≤ k * 2 ^ q.data.toList.length := Nat.mul_le_mul_left _ Nat.one_le_two_pow
        have := hkN.out
        omega
      have hqs : q.size ≤ 22 := by
        have := HD.out.len
        have h2 : q.data.toList.length = q.size := Array.length_toList
        omega
      have hcs : cb.size ≤ 1 := by
        have h2 : cb.data.toList.length = cb.size := Array.length_toList
        rw [hc1] at h2
        simp at h2
        omega
      clear hc1 hc2 hd hk2 hkk hkN
      by_cases hk : 0 < (k : Int)
      · have HK : Hid (0 < k ∨ q.data.toList = []) := .inl (by omega)
        have HKL := HKK.out (by omega)
        by_cases hqe : q.toList = []
        · have hqe2 : q.toList.isEmpty = true := by rw [hqe]; rfl
          go_wp2_with fail
          go_quiet (fail)
          go_wp2_with fail
          refine ⟨⟨k2, _, cb ++ q, by simp, rfl, ?_, rfl⟩, ?_⟩
          · have := HD.out.next (base := 10) (by decide) (by omega) HK.out c (by rw [HC.out.2, HK2.out.1])
            rw [HK2.out.2] at this
            rw [ByteArray.data_append, Array.toList_append, HC.out.1]
            exact this
          · have hne : ¬ (cb ++ q).toList = [] := by
              rw [ByteArray.toList_eq, ByteArray.data_append, Array.toList_append, HC.out.1]
              simp
            simp [intOf, hne, hqe]
            omega
        · have hqe2 : q.toList.isEmpty = false := by cases hh : q.toList with
            | nil => exact absurd hh hqe
            | cons a b => rfl
          go_wp2_with fail
          go_quiet (fail)
          go_wp2_with fail
          refine ⟨⟨k2, _, cb ++ q, by simp, rfl, ?_, rfl⟩, ?_⟩
          · have := HD.out.next (base := 10) (by decide) (by omega) HK.out c (by rw [HC.out.2, HK2.out.1])
            rw [HK2.out.2] at this
            rw [ByteArray.data_append, Array.toList_append, HC.out.1]
            exact this
          · have hne : ¬ (cb ++ q).toList = [] := by
              rw [ByteArray.toList_eq, ByteArray.data_append, Array.toList_append, HC.out.1]
              simp
            simp [intOf, hne, hqe]
            omega
      · by_cases hqe : q.toList = []
        · have hqe2 : q.toList.isEmpty = true := by rw [hqe]; rfl
          have HK : Hid (0 < k ∨ q.data.toList = []) := .inr (by rw [← ByteArray.toList_eq]; exact hqe)
          have hk0 : k = 0 := by omega
          have hd0 : d = 0 := by have := HK2.out.1; omega
          have hk20 : k2 = 0 := by omega
          subst hk0 hd0 hk20
          have HDn : Hid (Dg 10 N 0 (cb.data.toList ++ q.data.toList)) := by
            have := HD.out.next (base := 10) (by decide) (by omega) HK.out c (by rw [HC.out.2])
            rw [HC.out.1]
            exact this
          have hne : ¬ (cb ++ q).toList = [] := by
            rw [ByteArray.toList_eq, ByteArray.data_append, Array.toList_append, HC.out.1]
            simp
          rw [← HCB.out] at hne
          have HNE : Hid (¬ (tabD.extract 0 (0 + 1) ++ q).toList = []) := hne
          clear hne HK2
          go_wp2_with fail
          go_quiet (fail)
          go_wp2_with fail
          refine ⟨⟨0, _, cb ++ q, by rw [← HCB.out]; rfl, rfl, ?_, rfl⟩, ?_⟩
          · rw [ByteArray.data_append, Array.toList_append]
            exact HDn.out
          · simp [intOf, hqe]
            exact HNE.out
        · have hqe2 : q.toList.isEmpty = false := by cases hh : q.toList with
            | nil => exact absurd hh hqe
            | cons a b => rfl
          have hk0 : k = 0 := by omega
          subst hk0
          have HR : Hid (∀ L, refP L false (hexS false ++ q.data.toList ++ semS semi ++ [32]) = numW N semi (hexS false ++ q.data.toList ++ semS semi).length) := fun L => ref_num L false semi HD.out hNl (by rw [← ByteArray.toList_eq]; exact hqe)
          have hH1 : Hid (Hi (w.drewN j)) := HH.out
          clear HC HK2 ht hq hsl hwr HKK hk hkb
          obtain ⟨L, A0⟩ : ∃ L, Apx L := ⟨refs, api_refs⟩
          have k9 := fun w => rnumber_any N w (by omega)
          obtain ⟨rc, hrc⟩ : ∃ rc, chrP N = rc := ⟨_, rfl⟩
          have hon := fun (q2 : ByteArray) (hs : q2.size ≤ 1000000) (hq2 : q2.data.toList = hexS false ++ q.data.toList ++ semS semi ++ [32]) => one_as A0.toApi hH1.out q2 false hs (p := numW N semi (hexS false ++ q.data.toList ++ semS semi).length) (by rw [hq2]; exact HR.out L)
          unfold numW at hon
          rw [hrc] at k9 hon
          obtain ⟨r, cd⟩ := rc
          simp only at k9 hon
          have hlen2 : (hexS false ++ q.data.toList ++ semS semi).length = 2 + q.size + (semS semi).length := by
            have h2 : q.data.toList.length = q.size := Array.length_toList
            simp [hexS, h2]
            try omega
          rw [hlen2] at hon
          clear hrc HR A0 hlen2
          cases semi
          · by_cases hcd : cd = 0
            · have hL : ((if cd = 0 then [] else [cd]) ++ if false = true then [] else [(18 : Int)]).length = 1 := by simp [hcd]
              have hS : 2 + q.size + (semS false).length = 2 + q.size + 0 := rfl
              rw [hS] at hon
              go_wp2_with fail
              refine (hon _ (by repeat rw [ByteArray.size_append]
                                show 2 + q.size + 1 ≤ 1000000
                                omega) (by simp [ByteArray.data_append, hexS, semS])).mono ?_
              rintro e w1 ⟨v, rfl, hC, b1⟩
              obtain ⟨lo, cap, rfl⟩ := cds_len hC
              simp only [hL]
              have HB1 : Hid (Below w.heap.size w w1 ∧ Hi w1) := ⟨(below_drewN (Below.refl _ _) j).trans b1, hH1.out.below b1 hH1.out.lt⟩
              clear hC b1 hon hL hS
              subst hcd
              go_wp2_with fail
              refine (k9 _).mono ?_
              rintro e w2 ⟨rfl, b2⟩
              have HB2 : Hid (Below w.heap.size w w2 ∧ Hi w2) := ⟨HB1.out.1.trans (b2.mono HB1.out.1.size), HB1.out.2.below b2 HB1.out.2.lt⟩
              have k10 := awake_any HB2.out.2
              clear b2 k9 HB1
              go_wp2_with (go_at_call 10; refine k10.mono ?_; rintro e w3 ⟨rfl, b3⟩; have HB3 : Hid _ := b3; clear b3)
              go_ret
              refine ⟨?_, HB2.out.1.trans (HB3.out.mono HB2.out.1.size)⟩
              refine ret_bool ?_
              simp
            · have hL : ((if cd = 0 then [] else [cd]) ++ if false = true then [] else [(18 : Int)]).length = 2 := by simp [hcd]
              have hS : 2 + q.size + (semS false).length = 2 + q.size + 0 := rfl
              rw [hS] at hon
              go_wp2_with fail
              refine (hon _ (by repeat rw [ByteArray.size_append]
                                show 2 + q.size + 1 ≤ 1000000
                                omega) (by simp [ByteArray.data_append, hexS, semS])).mono ?_
              rintro e w1 ⟨v, rfl, hC, b1⟩
              obtain ⟨lo, cap, rfl⟩ := cds_len hC
              simp only [hL]
              have HB1 : Hid (Below w.heap.size w w1 ∧ Hi w1) := ⟨(below_drewN (Below.refl _ _) j).trans b1, hH1.out.below b1 hH1.out.lt⟩
              clear hC b1 hon hL hS
              have hcd2 : (cd != 0) = true := by rw [bne_iff_ne]; exact hcd
              go_wp2_with fail
              refine (k9 _).mono ?_
              rintro e w2 ⟨rfl, b2⟩
              have HB2 : Hid (Below w.heap.size w w2 ∧ Hi w2) := ⟨HB1.out.1.trans (b2.mono HB1.out.1.size), HB1.out.2.below b2 HB1.out.2.lt⟩
              have k10 := awake_any HB2.out.2
              clear b2 k9 HB1
              go_wp2_with (go_at_call 10; refine k10.mono ?_; rintro e w3 ⟨rfl, b3⟩; have HB3 : Hid _ := b3; clear b3)
              go_ret
              refine ⟨?_, HB2.out.1.trans (HB3.out.mono HB2.out.1.size)⟩
              refine ret_bool ?_
              simp
          · by_cases hcd : cd = 0
            · have hL : ((if cd = 0 then [] else [cd]) ++ if true = true then [] else [(18 : Int)]).length = 0 := by simp [hcd]
              have hS : 2 + q.size + (semS true).length = 2 + q.size + 1 := rfl
              rw [hS] at hon
              go_wp2_with fail
              refine (hon _ (by repeat rw [ByteArray.size_append]
                                show 2 + q.size + 1 + 1 ≤ 1000000
                                omega) (by simp [ByteArray.data_append, hexS, semS])).mono ?_
              rintro e w1 ⟨v, rfl, hC, b1⟩
              obtain ⟨lo, cap, rfl⟩ := cds_len hC
              simp only [hL]
              have HB1 : Hid (Below w.heap.size w w1 ∧ Hi w1) := ⟨(below_drewN (Below.refl _ _) j).trans b1, hH1.out.below b1 hH1.out.lt⟩
              clear hC b1 hon hL hS
              subst hcd
              go_wp2_with fail
              refine (k9 _).mono ?_
              rintro e w2 ⟨rfl, b2⟩
              have HB2 : Hid (Below w.heap.size w w2 ∧ Hi w2) := ⟨HB1.out.1.trans (b2.mono HB1.out.1.size), HB1.out.2.below b2 HB1.out.2.lt⟩
              have k10 := awake_any HB2.out.2
              clear b2 k9 HB1
              go_wp2_with (go_at_call 10; refine k10.mono ?_; rintro e w3 ⟨rfl, b3⟩; have HB3 : Hid _ := b3; clear b3)
              go_ret
              refine ⟨?_, HB2.out.1.trans (HB3.out.mono HB2.out.1.size)⟩
              refine ret_bool ?_
              simp
            · have hL : ((if cd = 0 then [] else [cd]) ++ if true = true then [] else [(18 : Int)]).length = 1 := by simp [hcd]
              have hS : 2 + q.size + (semS true).length = 2 + q.size + 1 := rfl
              rw [hS] at hon
              go_wp2_with fail
              refine (hon _ (by repeat rw [ByteArray.size_append]
                                show 2 + q.size + 1 + 1 ≤ 1000000
                                omega) (by simp [ByteArray.data_append, hexS, semS])).mono ?_
              rintro e w1 ⟨v, rfl, hC, b1⟩
              obtain ⟨lo, cap, rfl⟩ := cds_len hC
              simp only [hL]
              have HB1 : Hid (Below w.heap.size w w1 ∧ Hi w1) := ⟨(below_drewN (Below.refl _ _) j).trans b1, hH1.out.below b1 hH1.out.lt⟩
              clear hC b1 hon hL hS
              have hcd2 : (cd != 0) = true := by rw [bne_iff_ne]; exact hcd
              go_wp2_with fail
              refine (k9 _).mono ?_
              rintro e w2 ⟨rfl, b2⟩
              have HB2 : Hid (Below w.heap.size w w2 ∧ Hi w2) := ⟨HB1.out.1.trans (b2.mono HB1.out.1.size), HB1.out.2.below b2 HB1.out.2.lt⟩
              have k10 := awake_any HB2.out.2
              clear b2 k9 HB1
              go_wp2_with (go_at_call 10; refine k10.mono ?_; rintro e w3 ⟨rfl, b3⟩; have HB3 : Hid _ := b3; clear b3)
              go_ret
              refine ⟨?_, HB2.out.1.trans (HB3.out.mono HB2.out.1.size)⟩
              refine ret_bool ?_
              simp
  · go_wp2_with fail
    go_loopw [7, 10] (fun sv kv wr => ∃ (k j : Nat) (q : ByteArray), sv = .string q ∧ kv = .int .i64 k ∧ Dg 16 N k q.data.toList ∧ wr = w.drewN j) (fun sv kv _ => (intOf kv).toNat + (match sv with | .string q => (if q.toList = [] then 1 else 0) | _ => 0))
    case atStart => exact ⟨N, 0, ByteArray.empty, rfl, rfl, Dg.start 16 N, rfl⟩
    case round =>
      obtain ⟨k, j, q, rfl, rfl, D, rfl⟩ := hrel
      have HD : Hid (Dg 16 N k q.data.toList) := D
      clear D
      obtain ⟨d, hd⟩ : ∃ d, k % 16 = d := ⟨_, rfl⟩
      obtain ⟨k2, hk2⟩ : ∃ k2, k / 16 = k2 := ⟨_, rfl⟩
      have hdl : d < 16 := by omega
      have hk2l : k2 ≤ k := by omega
      have ht : (k : Int).tmod 16 = (d : Int) := by rw [Int.tmod_eq_emod_of_nonneg (by omega)]; omega
      have hq : (k : Int).tdiv 16 = (k2 : Int) := by rw [Int.tdiv_eq_ediv_of_nonneg (by omega)]; omega
      obtain ⟨c, hc1, hc2⟩ := tabD_at ⟨d, by omega⟩
      obtain ⟨cb, hcb⟩ : ∃ cb, tabD.extract d (d + 1) = cb := ⟨_, rfl⟩
      simp only at hc1 hc2
      rw [hcb] at hc1
      have hsl := tabD_slice d (by omega)
      rw [hcb] at hsl
      have hwr : IntKind.i64.wrap ((d : Int) + 1) = (d : Int) + 1 := by rw [IntKind.wrap_i64]; omega
      have HCB : Hid (tabD.extract d (d + 1) = cb) := hcb
      clear hcb
      have HC : Hid (cb.data.toList = [c] ∧ dig c.toNat = d) := ⟨hc1, hc2⟩
      have HK2 : Hid (k % 16 = d ∧ k / 16 = k2) := ⟨hd, hk2⟩
      have hkk : 0 < k → k2 < k := fun h => by omega
      have HKK : Hid (0 < k → k2 < k) := hkk
      have hkN : Hid (k * 2 ^ q.data.toList.length ≤ N) := HD.out.sm
      have hkb : k < 1179648 := by
        have : k * 1 ≤ k * 2 ^ q.data.toList.length := Nat.mul_le_mul_left _ Nat.one_le_two_pow
        have := hkN.out
        omega
      have hqs : q.size ≤ 22 := by
        have := HD.out.len
        have h2 : q.data.toList.length = q.size := Array.length_toList
        omega
      have hcs : cb.size ≤ 1 := by
        have h2 : cb.data.toList.length = cb.size := Array.length_toList
        rw [hc1] at h2
        simp at h2
        omega
      clear hc1 hc2 hd hk2 hkk hkN
      by_cases hk : 0 < (k : Int)
      · have HK : Hid (0 < k ∨ q.data.toList = []) := .inl (by omega)
        have HKL := HKK.out (by omega)
        by_cases hqe : q.toList = []
        · have hqe2 : q.toList.isEmpty = true := by rw [hqe]; rfl
          go_wp2_with fail
          go_quiet (fail)
          go_wp2_with fail
          refine ⟨⟨k2, _, cb ++ q, by simp, rfl, ?_, rfl⟩, ?_⟩
          · have := HD.out.next (base := 16) (by decide) (by omega) HK.out c (by rw [HC.out.2, HK2.out.1])
            rw [HK2.out.2] at this
            rw [ByteArray.data_append, Array.toList_append, HC.out.1]
            exact this
          · have hne : ¬ (cb ++ q).toList = [] := by
              rw [ByteArray.toList_eq, ByteArray.data_append, Array.toList_append, HC.out.1]
              simp
            simp [intOf, hne, hqe]
            omega
        · have hqe2 : q.toList.isEmpty = false := by cases hh : q.toList with
            | nil => exact absurd hh hqe
            | cons a b => rfl
          go_wp2_with fail
          go_quiet (fail)
          go_wp2_with fail
          refine ⟨⟨k2, _, cb ++ q, by simp, rfl, ?_, rfl⟩, ?_⟩
          · have := HD.out.next (base := 16) (by decide) (by omega) HK.out c (by rw [HC.out.2, HK2.out.1])
            rw [HK2.out.2] at this
            rw [ByteArray.data_append, Array.toList_append, HC.out.1]
            exact this
          · have hne : ¬ (cb ++ q).toList = [] := by
              rw [ByteArray.toList_eq, ByteArray.data_append, Array.toList_append, HC.out.1]
              simp
            simp [intOf, hne, hqe]
            omega
      · by_cases hqe : q.toList = []
        · have hqe2 : q.toList.isEmpty = true := by rw [hqe]; rfl
          have HK : Hid (0 < k ∨ q.data.toList = []) := .inr (by rw [← ByteArray.toList_eq]; exact hqe)
          have hk0 : k = 0 := by omega
          have hd0 : d = 0 := by have := HK2.out.1; omega
          have hk20 : k2 = 0 := by omega
          subst hk0 hd0 hk20
          have HDn : Hid (Dg 16 N 0 (cb.data.toList ++ q.data.toList)) := by
            have := HD.out.next (base := 16) (by decide) (by omega) HK.out c (by rw [HC.out.2])
            rw [HC.out.1]
            exact this
          have hne : ¬ (cb ++ q).toList = [] := by
            rw [ByteArray.toList_eq, ByteArray.data_append, Array.toList_append, HC.out.1]
            simp
          rw [← HCB.out] at hne
          have HNE : Hid (¬ (tabD.extract 0 (0 + 1) ++ q).toList = []) := hne
          clear hne HK2
          go_wp2_with fail
          go_quiet (fail)
          go_wp2_with fail
          refine ⟨⟨0, _, cb ++ q, by rw [← HCB.out]; rfl, rfl, ?_, rfl⟩, ?_⟩
          · rw [ByteArray.data_append, Array.toList_append]
            exact HDn.out
          · simp [intOf, hqe]
            exact HNE.out
        · have hqe2 : q.toList.isEmpty = false := by cases hh : q.toList with
            | nil => exact absurd hh hqe
            | cons a b => rfl
          have hk0 : k = 0 := by omega
          subst hk0
          have HR : Hid (∀ L, refP L false (hexS true ++ q.data.toList ++ semS semi ++ [32]) = numW N semi (hexS true ++ q.data.toList ++ semS semi).length) := fun L => ref_num L true semi HD.out hNl (by rw [← ByteArray.toList_eq]; exact hqe)
          have hH1 : Hid (Hi (w.drewN j)) := HH.out
          clear HC HK2 ht hq hsl hwr HKK hk hkb
          obtain ⟨L, A0⟩ : ∃ L, Apx L := ⟨refs, api_refs⟩
          have k9 := fun w => rnumber_any N w (by omega)
          obtain ⟨rc, hrc⟩ : ∃ rc, chrP N = rc := ⟨_, rfl⟩
          have hon := fun (q2 : ByteArray) (hs : q2.size ≤ 1000000) (hq2 : q2.data.toList = hexS true ++ q.data.toList ++ semS semi ++ [32]) => one_as A0.toApi hH1.out q2 false hs (p := numW N semi (hexS true ++ q.data.toList ++ semS semi).length) (by rw [hq2]; exact HR.out L)
          unfold numW at hon
          rw [hrc] at k9 hon
          obtain ⟨r, cd⟩ := rc
          simp only at k9 hon
          have hlen2 : (hexS true ++ q.data.toList ++ semS semi).length = 3 + q.size + (semS semi).length := by
            have h2 : q.data.toList.length = q.size := Array.length_toList
            simp [hexS, h2]
            try omega
          rw [hlen2] at hon
          clear hrc HR A0 hlen2
          cases semi
          · by_cases hcd : cd = 0
            · have hL : ((if cd = 0 then [] else [cd]) ++ if false = true then [] else [(18 : Int)]).length = 1 := by simp [hcd]
              have hS : 3 + q.size + (semS false).length = 3 + q.size + 0 := rfl
              rw [hS] at hon
              go_wp2_with fail
              refine (hon _ (by repeat rw [ByteArray.size_append]
                                show 3 + q.size + 1 ≤ 1000000
                                omega) (by simp [ByteArray.data_append, hexS, semS])).mono ?_
              rintro e w1 ⟨v, rfl, hC, b1⟩
              obtain ⟨lo, cap, rfl⟩ := cds_len hC
              simp only [hL]
              have HB1 : Hid (Below w.heap.size w w1 ∧ Hi w1) := ⟨(below_drewN (Below.refl _ _) j).trans b1, hH1.out.below b1 hH1.out.lt⟩
              clear hC b1 hon hL hS
              subst hcd
              go_wp2_with fail
              refine (k9 _).mono ?_
              rintro e w2 ⟨rfl, b2⟩
              have HB2 : Hid (Below w.heap.size w w2 ∧ Hi w2) := ⟨HB1.out.1.trans (b2.mono HB1.out.1.size), HB1.out.2.below b2 HB1.out.2.lt⟩
              have k10 := awake_any HB2.out.2
              clear b2 k9 HB1
              go_wp2_with (go_at_call 10; refine k10.mono ?_; rintro e w3 ⟨rfl, b3⟩; have HB3 : Hid _ := b3; clear b3)
              go_ret
              refine ⟨?_, HB2.out.1.trans (HB3.out.mono HB2.out.1.size)⟩
              refine ret_bool ?_
              simp
            · have hL : ((if cd = 0 then [] else [cd]) ++ if false = true then [] else [(18 : Int)]).length = 2 := by simp [hcd]
              have hS : 3 + q.size + (semS false).length = 3 + q.size + 0 := rfl
              rw [hS] at hon
              go_wp2_with fail
              refine (hon _ (by repeat rw [ByteArray.size_append]
                                show 3 + q.size + 1 ≤ 1000000
                                omega) (by simp [ByteArray.data_append, hexS, semS])).mono ?_
              rintro e w1 ⟨v, rfl, hC, b1⟩
              obtain ⟨lo, cap, rfl⟩ := cds_len hC
              simp only [hL]
              have HB1 : Hid (Below w.heap.size w w1 ∧ Hi w1) := ⟨(below_drewN (Below.refl _ _) j).trans b1, hH1.out.below b1 hH1.out.lt⟩
              clear hC b1 hon hL hS
              have hcd2 : (cd != 0) = true := by rw [bne_iff_ne]; exact hcd
              go_wp2_with fail
              refine (k9 _).mono ?_
              rintro e w2 ⟨rfl, b2⟩
              have HB2 : Hid (Below w.heap.size w w2 ∧ Hi w2) := ⟨HB1.out.1.trans (b2.mono HB1.out.1.size), HB1.out.2.below b2 HB1.out.2.lt⟩
              have k10 := awake_any HB2.out.2
              clear b2 k9 HB1
              go_wp2_with (go_at_call 10; refine k10.mono ?_; rintro e w3 ⟨rfl, b3⟩; have HB3 : Hid _ := b3; clear b3)
              go_ret
              refine ⟨?_, HB2.out.1.trans (HB3.out.mono HB2.out.1.size)⟩
              refine ret_bool ?_
              simp
          · by_cases hcd : cd = 0
            · have hL : ((if cd = 0 then [] else [cd]) ++ if true = true then [] else [(18 : Int)]).length = 0 := by simp [hcd]
              have hS : 3 + q.size + (semS true).length = 3 + q.size + 1 := rfl
              rw [hS] at hon
              go_wp2_with fail
              refine (hon _ (by repeat rw [ByteArray.size_append]
                                show 3 + q.size + 1 + 1 ≤ 1000000
                                omega) (by simp [ByteArray.data_append, hexS, semS])).mono ?_
              rintro e w1 ⟨v, rfl, hC, b1⟩
              obtain ⟨lo, cap, rfl⟩ := cds_len hC
              simp only [hL]
              have HB1 : Hid (Below w.heap.size w w1 ∧ Hi w1) := ⟨(below_drewN (Below.refl _ _) j).trans b1, hH1.out.below b1 hH1.out.lt⟩
              clear hC b1 hon hL hS
              subst hcd
              go_wp2_with fail
              refine (k9 _).mono ?_
              rintro e w2 ⟨rfl, b2⟩
              have HB2 : Hid (Below w.heap.size w w2 ∧ Hi w2) := ⟨HB1.out.1.trans (b2.mono HB1.out.1.size), HB1.out.2.below b2 HB1.out.2.lt⟩
              have k10 := awake_any HB2.out.2
              clear b2 k9 HB1
              go_wp2_with (go_at_call 10; refine k10.mono ?_; rintro e w3 ⟨rfl, b3⟩; have HB3 : Hid _ := b3; clear b3)
              go_ret
              refine ⟨?_, HB2.out.1.trans (HB3.out.mono HB2.out.1.size)⟩
              refine ret_bool ?_
              simp
            · have hL : ((if cd = 0 then [] else [cd]) ++ if true = true then [] else [(18 : Int)]).length = 1 := by simp [hcd]
              have hS : 3 + q.size + (semS true).length = 3 + q.size + 1 := rfl
              rw [hS] at hon
              go_wp2_with fail
              refine (hon _ (by repeat rw [ByteArray.size_append]
                                show 3 + q.size + 1 + 1 ≤ 1000000
                                omega) (by simp [ByteArray.data_append, hexS, semS])).mono ?_
              rintro e w1 ⟨v, rfl, hC, b1⟩
              obtain ⟨lo, cap, rfl⟩ := cds_len hC
              simp only [hL]
              have HB1 : Hid (Below w.heap.size w w1 ∧ Hi w1) := ⟨(below_drewN (Below.refl _ _) j).trans b1, hH1.out.below b1 hH1.out.lt⟩
              clear hC b1 hon hL hS
              have hcd2 : (cd != 0) = true := by rw [bne_iff_ne]; exact hcd
              go_wp2_with fail
              refine (k9 _).mono ?_
              rintro e w2 ⟨rfl, b2⟩
              have HB2 : Hid (Below w.heap.size w w2 ∧ Hi w2) := ⟨HB1.out.1.trans (b2.mono HB1.out.1.size), HB1.out.2.below b2 HB1.out.2.lt⟩
              have k10 := awake_any HB2.out.2
              clear b2 k9 HB1
              go_wp2_with (go_at_call 10; refine k10.mono ?_; rintro e w3 ⟨rfl, b3⟩; have HB3 : Hid _ := b3; clear b3)
              go_ret
              refine ⟨?_, HB2.out.1.trans (HB3.out.mono HB2.out.1.size)⟩
              refine ret_bool ?_
              simp

set_option maxRecDepth 100000 in
theorem numeric_lifted (os : Os) (started : os.Started) (H : Type) (enc : TypeId × Value → H) :
    ReturnsInHanded {} Tryd.checked os 7 .any (fun w args => (Rows.charrefNumericSpec.pre enc Tryd.prog Tryd.f7 [] false w args ∧ laidMetH Tryd.prog laidL w) ∧ sizedMet enc Tryd.prog Tryd.f7 (OpenSpec.ofChange Rows.charrefNumericSpec) false w args) (Rows.charrefNumericSpec.post enc Tryd.prog Tryd.f7 false true false false) := by
  refine returnsInHanded_of_change_and (C := Tryd.checked) (X := fun w _ => laidMetH Tryd.prog laidL w) (fun _ _ _ hh h => h.of_heap hh) own started (by kernel_rfl) Tryd.func7
    (ChangeSpec.witness_shaped (enc := enc) (C := Tryd.checked) (os := os) (X := fun w _ => laidMetH Tryd.prog laidL w) false (World.doorLaid Tryd.prog 14 os) #[.int .i64 0, .bool false, .bool false] 8 rfl (World.shaped_of_RefB (by kernel_rfl) (by kernel_rfl)) (by kernel_rfl) (by kernel_rfl) (by kernel_rfl) (door_met os _)) ?_
  intro W base args ds gs before hval0 hW _ _ hL _
  have hval : ∀ (j : Nat) t v, Tryd.f7.params[j]? = some t → args[j]? = some v → Value.okWide Tryd.prog W .any base t v := hval0
  have hH : Hi W := hi_of_laid hL
  have hW' := hW
  obtain ⟨p, q, hA0, hV, rfl, hfz, hnd⟩ := hW
  have hA : DataW.TrodAll enc Tryd.prog W 0 (fun _ => true) true Tryd.f7.params.toList args.toList ds p := hA0
  rw [Tryd.params7] at hA hval
  obtain ⟨v0, vs0, d0, ds0, p0, q0, hargs, rfl, rfl, h0, r0⟩ := trodAll_cons hA
  obtain ⟨v1, vs1, d1, ds1, p1, q1, rfl, rfl, rfl, h1, r1⟩ := trodAll_cons r0
  obtain ⟨v2, vs2, d2, ds2, p2, q2, rfl, rfl, rfl, h2, r2⟩ := trodAll_cons r1
  obtain ⟨rfl, rfl, rfl⟩ := trodAll_nil r2
  obtain rfl : args = #[v0, v1, v2] := by cases args; simp_all
  obtain ⟨rfl, rfl⟩ := trodVars_none hV
  have k0 := h0
  have lt0 : ∀ x ∈ p0, x.block < W.heap.size := by obtain ⟨m, hm⟩ := k0; exact DataW.trod_lt m _ _ _ hm
  have k1 := h1
  have lt1 : ∀ x ∈ p1, x.block < W.heap.size := by obtain ⟨m, hm⟩ := k1; exact DataW.trod_lt m _ _ _ hm
  have k2 := h2
  have lt2 : ∀ x ∈ p2, x.block < W.heap.size := by obtain ⟨m, hm⟩ := k2; exact DataW.trod_lt m _ _ _ hm
  obtain ⟨x0, hv0, _, _, wx0⟩ := open_int Tryd.underlying3 (hval 0 3 v0 rfl rfl) h0
  obtain ⟨x1, hv1, _, _⟩ := open_bool Tryd.underlying4 (hval 1 4 v1 rfl rfl) h1
  obtain ⟨x2, hv2, _, _⟩ := open_bool Tryd.underlying4 (hval 2 4 v2 rfl rfl) h2
  subst hv0 hv1 hv2
  clear hA0 hval0
  refine (numeric_walk x0 x1 x2 hH).mono fun e W' ⟨he, bel⟩ => ?_
  subst he
  exact ⟨_, rfl, _, _, _, [], _, [], hW', trodAll_mk1 (shut_bool Tryd.underlying4 _), (trodAll_cons_mk (Below.trod laidOut (by kernel_rfl) (of_decide_eq_true (by kernel_rfl)) k0 bel lt0) (trodAll_cons_mk (Below.trod laidOut (by kernel_rfl) (of_decide_eq_true (by kernel_rfl)) k1 bel lt1) (trodAll_cons_mk (Below.trod laidOut (by kernel_rfl) (of_decide_eq_true (by kernel_rfl)) k2 bel lt2) trodAll_mk0))), rfl, bel.frame _, fun h => by cases h⟩

theorem numeric_holds : Rows.CharrefNumericSaid :=
  OpenClaim.holds_of_wide 7 Tryd.f7 rfl rfl rfl rfl rfl rfl rfl ⟨rfl, rfl, rfl, rfl, rfl⟩ rfl rfl rfl rfl rfl (by kernel_rfl) Tryd.func7 (by kernel_rfl)
    (of_decide_eq_true (by kernel_rfl)) (by unfold Func.isWrapper; first | (rw [if_pos (by decide +kernel)]; kernel_rfl) | (rw [if_neg (by decide +kernel)]; exact ⟨rfl, rfl⟩))
    (fun os started H enc _ => numeric_lifted os started H enc)

theorem numeric_card : Rows.CharrefNumericCardSaid :=
  Claim7.holds_tied_plain_at .later [] [.data] true Rows.charrefNumericCard.stood.harness false
    numeric_holds (fun _ h => by cases h) (by kernel_rfl) (fun _ h => by cases h) charrefNumeric_row_tie rfl ⟨rfl, rfl⟩ (by kernel_rfl) rfl
    (fun f fn hf hfn => by
      obtain rfl : f = 7 := Option.some.inj ((show Tryd.prog.funcNamed Rows.charrefNumericRow.func = some 7 by kernel_rfl).symm.trans hf) |>.symm
      obtain rfl : fn = Tryd.f7 := (Option.some.inj (Tryd.func7.symm.trans hfn)).symm
      exact ⟨by kernel_rfl, fun j t ht => by
        rw [Tryd.params7] at ht
        have hm : t ∈ [3, 4, 4] := by simpa using Array.mem_of_getElem? ht
        have hall : ([3, 4, 4].all fun u => !Tryd.prog.wantsStandIn u) = true := by kernel_rfl
        exact (show Tryd.prog.wantsStandIn t = false by simpa using List.all_eq_true.1 hall t hm)⟩)
    (by kernel_rfl)
#print axioms numeric_card
end Go.Proofs.YtaadphifagimaaaDoor
