/- The law InstreamChars holds for every text: the stream's characters and faults are the document's, and chapter 4's examples come out. No condition. -/
import Derived.Test.YtkphiopeclgffaaBase
import Derived.Test.YtkphiopeclgffaaRchs
import Derived.ProofKit
import Derived.OpenShut
import Derived.ShutString
import Derived.ChangeOld
import Derived.ChangeMaps
import Derived.Lib.SmallJoins
namespace Go.Proofs.Ytkphiopeclgffaa
open Go.ChangeShapes Go.WideShapes Go.ChangeAt Go.RowKit Go.Joins

theorem rfs_few : ∀ (k : Nat) (l : List Ch), l.length ≤ k → (rfs l).length ≤ l.length
  | _, [], _ => Nat.le_refl _
  | _, [c], _ => Nat.le_refl _
  | 0, c :: d :: l, h => by simp at h
  | k + 1, c :: d :: l, h => by
    have i1 := rfs_few k l (by simp at h; omega)
    have i2 := rfs_few k (d :: l) (by simp at h ⊢; omega)
    rw [rfs]
    split
    · simp; omega
    · simp at i2 ⊢; omega
theorem outc_few (s : ByteArray) (hs : s.size ≤ 100000) : (outc s.data.toList).length ≤ 200001 := by
  have h1 := rfs_few _ (chs 0 (items s.data.toList)) (Nat.le_refl _)
  rw [chs_length] at h1
  have h2 := items_few s hs
  unfold outc
  omega
theorem outf_few (s : ByteArray) (hs : s.size ≤ 100000) : (fcs 0 (items s.data.toList)).length ≤ 200001 := by
  have h1 := fcs_length (items s.data.toList) 0
  have h2 := items_few s hs
  omega

set_option maxHeartbeats 1000000 in
theorem chr_long (s : ByteArray) (w : World) (h : 20000 < s.size) : Calls Try.prog 3 #[.string s] w fun e w' => e = .returned (.bool true) ∧ Below w.heap.size w w' := by
  go_enter Try.func3, Try.ntmps3
  go_wp2_with (go_at_call 7; refine (awake_any _).mono ?_; rintro e w1 ⟨rfl, b1⟩)
  go_ret
  exact ⟨rfl, b1⟩

set_option maxHeartbeats 1000000 in
theorem chr_short (s : ByteArray) (w : World) (h : s.size ≤ 20000) : Calls Try.prog 3 #[.string s] w fun e w' => e = .returned (.bool true) ∧ Below w.heap.size w w' := by
  have hfew := outc_few s (by omega)
  have hfew2 := outf_few s (by omega)
  go_enter Try.func3, Try.ntmps3
  go_wp2_with fail
  refine (chars_any s (by omega)).mono ?_
  rintro e w1 ⟨ca, cn, cc, fa, fn, fc, rfl, c1, f1, b1⟩
  have C1 : Hid (Chars w.heap.size (.slice ca cn cc) (outc s.data.toList) w1) := c1
  have F1 : Hid (FaultsC w.heap.size (.slice fa fn fc) (fcs 0 (items s.data.toList)) w1) := f1
  have z1 := b1.size
  clear c1 f1
  go_wp2_with fail
  refine (rchs_any s _ (by omega)).mono ?_
  rintro e w2 ⟨ca2, cn2, cc2, fa2, fn2, fc2, rfl, c2, f2, b2⟩
  have D1 : Hid (Chars w.heap.size (.slice ca cn cc) (outc s.data.toList) w2) := own_below C1.out b2
  have D2 : Hid (Chars w1.heap.size (.slice ca2 cn2 cc2) (outc s.data.toList) w2) := c2
  have G1 : Hid (FaultsC w.heap.size (.slice fa fn fc) (fcs 0 (items s.data.toList)) w2) := own_below F1.out b2
  have G2 : Hid (FaultsC w1.heap.size (.slice fa2 fn2 fc2) (fcs 0 (items s.data.toList)) w2) := f2
  have z2 := b2.size
  clear c2 f2 C1 F1
  go_wp2_with fail
  refine (chars_same D1.out D2.out (by omega)).mono ?_
  rintro e w3 ⟨rfl, b3⟩
  have z3 := b3.size
  have K1 : Hid (FaultsC w.heap.size (.slice fa fn fc) (fcs 0 (items s.data.toList)) w3) := own_below G1.out b3
  have K2 : Hid (FaultsC w1.heap.size (.slice fa2 fn2 fc2) (fcs 0 (items s.data.toList)) w3) := own_below G2.out b3
  go_wp2_with fail
  refine (faults_same K1.out K2.out (by omega)).mono ?_
  rintro e w4 ⟨rfl, b4⟩
  have z4 := b4.size
  go_wp2_with fail
  refine (awake_any _).mono ?_
  rintro e w5 ⟨rfl, b5⟩
  go_wp2_with fail
  go_ret
  exact ⟨rfl, b1.trans ((b2.mono (by omega)).trans ((b3.mono (by omega)).trans ((b4.mono (by omega)).trans (b5.mono (by omega)))))⟩

theorem chr_walk (s : ByteArray) (w : World) : Calls Try.prog 3 #[.string s] w fun e w' => e = .returned (.bool true) ∧ Below w.heap.size w w' := by
  by_cases h : 20000 < s.size
  · exact chr_long s w h
  · exact chr_short s w (by omega)

set_option maxRecDepth 100000 in
theorem chr_lifted (os : Os) (started : os.Started) (H : Type) (enc : TypeId × Value → H) :
    ReturnsInHanded {} Try.checked os 3 .any (Rows.instreamCharsSpec.pre6 enc Try.prog Try.f3 Rows.instreamCharsRow.domain false) (Rows.instreamCharsSpec.post enc Try.prog Try.f3 false true false false) := by
  refine returnsInHanded_of_change (C := Try.checked) own started (by kernel_rfl) Try.func3
    (ChangeSpec.witness6 (enc := enc) (C := Try.checked) false ⟨#[], #[.string ⟨#[]⟩], []⟩ 8 (by kernel_rfl) (by kernel_rfl) (by kernel_rfl) (by kernel_rfl)) ?_
  intro W base args ds gs before hval0 hW hcnd _
  have hval : ∀ (j : Nat) t v, Try.f3.params[j]? = some t → args[j]? = some v → Value.okWide Try.prog W .any base t v := hval0
  have hW' := hW
  obtain ⟨p, q, hA0, hV, rfl, hfz, hnd⟩ := hW
  have hA : DataW.TrodAll enc Try.prog W 0 (fun _ => true) true Try.f3.params.toList args.toList ds p := hA0
  rw [Try.params3] at hA hval
  obtain ⟨v0, vs0, d0, ds0, p0, q0, hargs, rfl, rfl, h0, r0⟩ := trodAll_cons hA
  obtain ⟨rfl, rfl, rfl⟩ := trodAll_nil r0
  obtain rfl : args = #[v0] := by cases args; simp_all
  obtain ⟨rfl, rfl⟩ := trodVars_none hV
  have k0 := h0
  have lt0 : ∀ x ∈ p0, x.block < W.heap.size := by obtain ⟨m, hm⟩ := k0; exact DataW.trod_lt m _ _ _ hm
  obtain ⟨x0, hv0, _, _, wx0⟩ := Go.ChangeMaps.open_string Try.underlying9 (hval 0 9 v0 rfl rfl) h0
  subst hv0
  clear hA0 hval0
  refine (chr_walk x0 W).mono fun e W' ⟨he, bel⟩ => ?_
  subst he
  exact ⟨_, rfl, _, _, _, [], _, [], hW', trodAll_mk1 (shut_bool Try.underlying4 _), (trodAll_cons_mk (Below.trod laidOut (by kernel_rfl) (of_decide_eq_true (by kernel_rfl)) k0 bel lt0) trodAll_mk0), rfl, bel.frame _, fun h => by cases h⟩

theorem chars_holds : Rows.InstreamCharsSaid :=
  OpenClaim.holds_of_wide 3 Try.f3 rfl rfl rfl rfl rfl rfl rfl ⟨rfl, rfl, rfl, rfl, rfl⟩ rfl rfl rfl rfl rfl (by kernel_rfl) Try.func3 (by kernel_rfl)
    (of_decide_eq_true (by kernel_rfl)) (by unfold Func.isWrapper; first | (rw [if_pos (by decide +kernel)]; kernel_rfl) | (rw [if_neg (by decide +kernel)]; exact ⟨rfl, rfl⟩))
    (fun os started H enc _ => chr_lifted os started H enc)
#print axioms chars_holds
end Go.Proofs.Ytkphiopeclgffaa
