/- The law Utf8inEncodes holds for every number: the program's bytes are the document's, and are read as that character alone. No condition. -/
import Derived.Test.YteonfhgcjcpfkaaBase
import Derived.ProofKit
import Derived.OpenShut
import Derived.ShutString
import Derived.ChangeOld
import Derived.ChangeMaps
import Derived.Lib.SmallJoins
namespace Go.Proofs.Yteonfhgcjcpfkaa
open Go.ChangeShapes Go.WideShapes Go.ChangeAt Go.RowKit Go.Joins

set_option maxHeartbeats 1000000 in
theorem encodes_walk (r : Int) (w : World) : Calls Try.prog 4 #[.int .i64 r] w fun e w' => e = .returned (.bool true) ∧ Below w.heap.size w w' := by
  obtain ⟨k0, k1, k2⟩ := chr_ok r
  obtain ⟨hi, hs1, hs4⟩ := enc_items (chr r) k0 k1 k2
  obtain ⟨S, hS⟩ : ∃ S, Utf8.encode (chr r) = S := ⟨_, rfl⟩
  obtain ⟨x, hx⟩ : ∃ x, chr r = x := ⟨_, rfl⟩
  rw [hS, hx] at hi
  rw [hS] at hs1 hs4
  rw [hx] at k0
  have HS : Hid (Utf8.encode (chr r) = S) := hS
  have HX : Hid ((if mayB r = true then r else 65533) = x) := hx
  have HI : Hid (items S.data.toList = [(x, S.size)]) := hi
  have hc : Hid (chs 0 (items S.data.toList) = [⟨x, 0, S.size⟩]) := by
    show _ = _
    rw [hi]; simp only [chs, if_neg (show ¬ (x = -1) by omega)]; simp
  have hf : Hid (fls 0 (items S.data.toList) = []) := by
    show _ = _
    rw [hi]; simp only [fls, if_neg (show ¬ (x = -1) by omega)]; simp
  clear hS hx hi k1 k2
  cases hm : mayB r with
  | true =>
    have hrx : x = r := by have := HX.out; rw [if_pos hm] at this; exact this.symm
    subst hrx
    go_enter Try.func4, Try.ntmps4
    go_wp2_with fail
    refine (enc_any _ _).mono ?_
    rintro e w0 ⟨rfl, rfl⟩
    rw [HS.out]
    go_wp2_with fail
    refine (renc_any _ _).mono ?_
    rintro e w1 ⟨rfl, b1⟩
    rw [HS.out]
    go_wp2_with fail
    refine (may_as _ true _ hm).mono ?_
    rintro e w1' ⟨rfl, rfl⟩
    go_wp2_with fail
    refine (decode_as S [⟨x, 0, S.size⟩] [] 1 0 (by omega) hc.out hf.out rfl rfl).mono ?_
    rintro e w2 ⟨ca, cc, fa, fc, rfl, l1, l2, c1, f1, b2⟩
    obtain ⟨g, rfl, hg, d0, d1, d2⟩ := first_ch c1 rfl
    have z1 := b1.size
    have z2 := b2.size
    clear c1 f1
    go_wp2_with (go_at_call 8; refine (awake_any _).mono ?_; rintro e w3 ⟨rfl, b3⟩)
    go_ret
    exact ⟨rfl, b1.trans ((b2.mono (by omega)).trans (b3.mono (by omega)))⟩
  | false =>
    have hrx : x = 65533 := by have := HX.out; rw [if_neg (by rw [hm]; simp)] at this; exact this.symm
    subst hrx
    go_enter Try.func4, Try.ntmps4
    go_wp2_with fail
    refine (enc_any _ _).mono ?_
    rintro e w0 ⟨rfl, rfl⟩
    rw [HS.out]
    go_wp2_with fail
    refine (renc_any _ _).mono ?_
    rintro e w1 ⟨rfl, b1⟩
    rw [HS.out]
    go_wp2_with fail
    refine (may_as _ false _ hm).mono ?_
    rintro e w1' ⟨rfl, rfl⟩
    go_wp2_with fail
    refine (decode_as S [⟨65533, 0, S.size⟩] [] 1 0 (by omega) hc.out hf.out rfl rfl).mono ?_
    rintro e w2 ⟨ca, cc, fa, fc, rfl, l1, l2, c1, f1, b2⟩
    obtain ⟨g, rfl, hg, d0, d1, d2⟩ := first_ch c1 rfl
    have z1 := b1.size
    have z2 := b2.size
    clear c1 f1
    go_wp2_with (go_at_call 8; refine (awake_any _).mono ?_; rintro e w3 ⟨rfl, b3⟩)
    go_ret
    exact ⟨rfl, b1.trans ((b2.mono (by omega)).trans (b3.mono (by omega)))⟩

set_option maxRecDepth 100000 in
theorem encodes_lifted (os : Os) (started : os.Started) (H : Type) (enc : TypeId × Value → H) :
    ReturnsInHanded {} Try.checked os 4 .any (Rows.utf8inEncodesSpec.pre6 enc Try.prog Try.f4 Rows.utf8inEncodesRow.domain false) (Rows.utf8inEncodesSpec.post enc Try.prog Try.f4 false true false false) := by
  refine returnsInHanded_of_change (C := Try.checked) own started (by kernel_rfl) Try.func4
    (ChangeSpec.witness6 (enc := enc) (C := Try.checked) false ⟨#[], #[.int .i64 0], []⟩ 8 (by kernel_rfl) (by kernel_rfl) (by kernel_rfl) (by kernel_rfl)) ?_
  intro W base args ds gs before hval0 hW hcnd _
  have hval : ∀ (j : Nat) t v, Try.f4.params[j]? = some t → args[j]? = some v → Value.okWide Try.prog W .any base t v := hval0
  have hW' := hW
  obtain ⟨p, q, hA0, hV, rfl, hfz, hnd⟩ := hW
  have hA : DataW.TrodAll enc Try.prog W 0 (fun _ => true) true Try.f4.params.toList args.toList ds p := hA0
  rw [Try.params4] at hA hval
  obtain ⟨v0, vs0, d0, ds0, p0, q0, hargs, rfl, rfl, h0, r0⟩ := trodAll_cons hA
  obtain ⟨rfl, rfl, rfl⟩ := trodAll_nil r0
  obtain rfl : args = #[v0] := by cases args; simp_all
  obtain ⟨rfl, rfl⟩ := trodVars_none hV
  have k0 := h0
  have lt0 : ∀ x ∈ p0, x.block < W.heap.size := by obtain ⟨m, hm⟩ := k0; exact DataW.trod_lt m _ _ _ hm
  obtain ⟨x0, hv0, _, _, wx0⟩ := open_int Try.underlying3 (hval 0 3 v0 rfl rfl) h0
  subst hv0
  clear hA0 hval0
  refine (encodes_walk x0 W).mono fun e W' ⟨he, bel⟩ => ?_
  subst he
  exact ⟨_, rfl, _, _, _, [], _, [], hW', trodAll_mk1 (shut_bool Try.underlying4 _), (trodAll_cons_mk (Below.trod laidOut (by kernel_rfl) (of_decide_eq_true (by kernel_rfl)) k0 bel lt0) trodAll_mk0), rfl, bel.frame _, fun h => by cases h⟩

theorem encodes_holds : Rows.Utf8inEncodesSaid :=
  OpenClaim.holds_of_wide 4 Try.f4 rfl rfl rfl rfl rfl rfl rfl ⟨rfl, rfl, rfl, rfl, rfl⟩ rfl rfl rfl rfl rfl (by kernel_rfl) Try.func4 (by kernel_rfl)
    (of_decide_eq_true (by kernel_rfl)) (by unfold Func.isWrapper; first | (rw [if_pos (by decide +kernel)]; kernel_rfl) | (rw [if_neg (by decide +kernel)]; exact ⟨rfl, rfl⟩))
    (fun os started H enc _ => encodes_lifted os started H enc)
#print axioms encodes_holds
end Go.Proofs.Yteonfhgcjcpfkaa
