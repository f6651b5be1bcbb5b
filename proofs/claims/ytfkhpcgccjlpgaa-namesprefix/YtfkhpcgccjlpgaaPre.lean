/- The law NamesPrefix holds for every text: a text goes on just as far as each of its beginnings does. No condition. -/
import Derived.Test.YtfkhpcgccjlpgaaBase
import Derived.ProofKit
import Derived.OpenShut
import Derived.ShutString
import Derived.ChangeOld
import Derived.ChangeMaps
import Derived.Lib.SmallJoins
namespace Go.Proofs.Ytfkhpcgccjlpgaa
open Go.ChangeShapes Go.WideShapes Go.ChangeAt Go.RowKit Go.Joins

theorem extract_take (s : ByteArray) (k : Nat) : (s.extract 0 k).data.toList = s.data.toList.take k := by
  rw [ByteArray.data_extract, Array.toList_extract]
  simp

theorem goes_mono {L : List Rf} {s : Path} {k m : Nat} (h : goes L (s.take m) = true) (hk : k ≤ m) : goes L (s.take k) = true := by
  unfold goes at *
  rw [Bool.and_eq_true] at *
  refine ⟨h.1, pre_mono (q := (s.take m).drop k) ?_⟩
  have := List.take_append_drop k (s.take m)
  rw [List.take_take, Nat.min_eq_left hk] at this
  rw [this]
  exact h.2

theorem goes_best {L : List Rf} (hc : 0 < cnt [] L) (s : Path) (m : Nat) : goes L (s.take (best L s m).2) = true := by
  induction m with
  | zero =>
    have : pre L [] = true := by
      cases hp : pre L [] with
      | true => rfl
      | false =>
        exfalso
        have key : ∀ (b a : List Rf), (∀ y ∈ b, y.ok = false) → cnt a b = 0 := by
          intro b
          induction b with
          | nil => intro a _; rfl
          | cons z b ih =>
            intro a h
            simp only [cnt]
            rw [h z (by simp), ih _ (fun y hy => h y (by simp [hy]))]
            simp
        have := key L [] (fun y hy => by
          simp only [pre, List.any_eq_false, Bool.and_eq_true, not_and] at hp
          have := hp y hy
          cases hok : y.ok with
          | false => rfl
          | true => exact absurd rfl (this hok))
        omega
    simp [best, goes, this, hc]
  | succ m ih =>
    rw [best]
    cases hv : val L (s.take (m + 1)) with
    | none => exact ih
    | some r => simp [goes, val_pre hv, hc]

def before (L : List Rf) (s : Path) : Nat → Bool
  | 0 => true
  | k + 1 => goes L (s.take k)

set_option maxHeartbeats 1000000 in
set_option maxRecDepth 10000 in
theorem pre_walk (s : ByteArray) (w : World) : Calls Try.prog 5 #[.string s] w fun e w' => e = .returned (.bool true) ∧ Below w.heap.size w w' := by
  obtain ⟨L, A0⟩ : ∃ L, Api L := ⟨refs, api_refs⟩
  have A : Hid (Api L) := A0
  clear A0
  go_enter Try.func5, Try.ntmps5
  go_wp2_with fail
  refine (A.out.refs _).mono ?_
  rintro e w1 ⟨rfl, hr, b1, z1⟩
  have H1 : Hid (RefRow w1 (some ⟨w.heap.size, 0, none⟩) L ∧ Below w.heap.size w w1) := ⟨hr, b1⟩
  clear hr b1
  go_wp2_with fail
  refine (A.out.new H1.out.1).mono ?_
  rintro e w2 ⟨t, rfl, T, b2⟩
  have H2 : Hid (TrieIs w2 w1.heap.size t L ∧ Below w.heap.size w w2) := ⟨T, H1.out.2.trans (b2.mono H1.out.2.size)⟩
  clear T b2 H1
  by_cases hbig : s.size ≤ 2000
  · have hbg : decide ((2000 : Int) < (s.size : Int)) = false := decide_eq_false (by omega)
    go_wp2_with fail
    go_loopw [4, 5] (fun gv iv wr => ∃ i : Nat, iv = .int .i64 i ∧ i ≤ s.size + 1 ∧ gv = .bool (before L s.data.toList i) ∧ TrieIs wr w1.heap.size t L ∧ Below w.heap.size w wr) (fun _ iv _ => s.size + 1 - (intOf iv).toNat)
    case atStart => exact ⟨0, rfl, Nat.zero_le _, rfl, H2.out.1, H2.out.2⟩
    case round =>
      obtain ⟨i, rfl, hi, rfl, T, hb⟩ := hrel
      have HT : Hid (TrieIs wr w1.heap.size t L ∧ Below w.heap.size w wr) := ⟨T, hb⟩
      clear T hb H2
      by_cases hlt : i ≤ s.size
      · have hgo := goes_any HT.out.1 (s.extract 0 i) (by rw [ByteArray.size_extract]; omega)
        rw [extract_take] at hgo
        have hmono : goes L (s.data.toList.take i) = true → before L s.data.toList i = true := fun h => by
          cases i with
          | zero => rfl
          | succ k => exact goes_mono h (Nat.le_succ k)
        obtain ⟨g, hg⟩ : ∃ g, goes L (s.data.toList.take i) = g := ⟨_, rfl⟩
        obtain ⟨g0, hg0⟩ : ∃ g0, before L s.data.toList i = g0 := ⟨_, rfl⟩
        rw [hg] at hgo
        rw [hg, hg0] at hmono
        have HG : Hid (before L s.data.toList (i + 1) = g) := hg
        rw [hg0]
        clear hg hg0
        go_wp2_with fail
        refine hgo.mono ?_
        rintro e w3 ⟨rfl, b3⟩
        have H3 : Hid (TrieIs w3 w1.heap.size t L ∧ Below w.heap.size w w3) := ⟨HT.out.1.below b3, HT.out.2.trans (b3.mono HT.out.2.size)⟩
        clear b3 hgo HT
        cases g with
        | false =>
          go_wp2_with fail
          exact ⟨⟨i + 1, by go_num, by omega, by rw [HG.out], H3.out⟩, by simp [intOf]; omega⟩
        | true =>
          obtain rfl : g0 = true := hmono rfl
          go_wp2_with fail
          exact ⟨⟨i + 1, by go_num, by omega, by rw [HG.out], H3.out⟩, by simp [intOf]; omega⟩
      · have hle : decide ((i : Int) ≤ (s.size : Int)) = false := decide_eq_false (by omega)
        have hbl := best_le L s.data.toList s.size
        have hgb := goes_best (L := L) (by rw [A.out.cn]; decide) s.data.toList s.size
        obtain ⟨r, k, hrk⟩ : ∃ r k, best L s.data.toList s.size = (r, k) := ⟨_, _, rfl⟩
        have hlo := longest_any HT.out.1 s (by omega)
        rw [hrk] at hbl hgb hlo
        simp only at hbl hgb hlo
        have HG : Hid (goes L (s.data.toList.take k) = true) := hgb
        clear hrk hgb
        go_wp2_with fail
        refine hlo.mono ?_
        rintro e w3 ⟨rfl, b3⟩
        have H3 : Hid (TrieIs w3 w1.heap.size t L ∧ Below w.heap.size w w3) := ⟨HT.out.1.below b3, HT.out.2.trans (b3.mono HT.out.2.size)⟩
        clear b3 HT hlo
        have hg1 : Hid (Calls Try.prog 14 #[.pointer (some ⟨t, 0, none⟩), .string (s.extract 0 k)] w3 fun e w' => e = .returned (.bool true) ∧ Below w3.heap.size w3 w') := by
          have h := goes_any H3.out.1 (s.extract 0 k) (by rw [ByteArray.size_extract]; omega)
          rw [extract_take, HG.out] at h
          exact h
        have hg0 : Hid (¬ 0 < k → Calls Try.prog 14 #[.pointer (some ⟨t, 0, none⟩), .string ByteArray.empty] w3 fun e w' => e = .returned (.bool true) ∧ Below w3.heap.size w3 w') := fun hk => by
          obtain rfl : k = 0 := by omega
          have h := goes_any H3.out.1 ByteArray.empty (by decide)
          have h2 := HG.out
          rw [List.take_zero] at h2
          rw [show ByteArray.empty.data.toList = [] from rfl, h2] at h
          exact h
        go_wp2_with fail
        case' inr => refine (hg0.out (by assumption)).mono ?_
        case' inl => refine hg1.out.mono ?_
        all_goals
          rintro e w4 ⟨rfl, b4⟩
          have H4 : Hid (Below w.heap.size w w4) := H3.out.2.trans (b4.mono H3.out.2.size)
          clear b4 H3 hg0 hg1
          go_wp2_with fail
          refine (awake_any _).mono ?_
          rintro e w7 ⟨rfl, b7⟩
          have H7 : Hid (Below w.heap.size w w7) := H4.out.trans (b7.mono H4.out.size)
          clear b7 H4
          go_wp2_with fail
          go_ret
          exact ⟨rfl, H7.out⟩
  · have hbg : decide ((2000 : Int) < (s.size : Int)) = true := decide_eq_true (by omega)
    go_wp2_with fail
    refine (awake_any _).mono ?_
    rintro e w7 ⟨rfl, b7⟩
    have H7 : Hid (Below w.heap.size w w7) := H2.out.2.trans (b7.mono H2.out.2.size)
    clear b7 H2
    go_wp2_with fail
    go_ret
    exact ⟨rfl, H7.out⟩

set_option maxRecDepth 100000 in
theorem pre_lifted (os : Os) (started : os.Started) (H : Type) (enc : TypeId × Value → H) :
    ReturnsInHanded {} Try.checked os 5 .any (Rows.namesPrefixSpec.pre6 enc Try.prog Try.f5 Rows.namesPrefixRow.domain false) (Rows.namesPrefixSpec.post enc Try.prog Try.f5 false true false false) := by
  refine returnsInHanded_of_change (C := Try.checked) own started (by kernel_rfl) Try.func5
    (ChangeSpec.witness6 (enc := enc) (C := Try.checked) false ⟨#[], #[.string ⟨#[]⟩], []⟩ 8 (by kernel_rfl) (by kernel_rfl) (by kernel_rfl) (by kernel_rfl)) ?_
  intro W base args ds gs before hval0 hW hcnd _
  have hval : ∀ (j : Nat) t v, Try.f5.params[j]? = some t → args[j]? = some v → Value.okWide Try.prog W .any base t v := hval0
  have hW' := hW
  obtain ⟨p, q, hA0, hV, rfl, hfz, hnd⟩ := hW
  have hA : DataW.TrodAll enc Try.prog W 0 (fun _ => true) true Try.f5.params.toList args.toList ds p := hA0
  rw [Try.params5] at hA hval
  obtain ⟨v0, vs0, d0, ds0, p0, q0, hargs, rfl, rfl, h0, r0⟩ := trodAll_cons hA
  obtain ⟨rfl, rfl, rfl⟩ := trodAll_nil r0
  obtain rfl : args = #[v0] := by cases args; simp_all
  obtain ⟨rfl, rfl⟩ := trodVars_none hV
  have k0 := h0
  have lt0 : ∀ x ∈ p0, x.block < W.heap.size := by obtain ⟨m, hm⟩ := k0; exact DataW.trod_lt m _ _ _ hm
  obtain ⟨x0, hv0, _, _, wx0⟩ := Go.ChangeMaps.open_string Try.underlying9 (hval 0 9 v0 rfl rfl) h0
  subst hv0
  clear hA0 hval0
  refine (pre_walk x0 W).mono fun e W' ⟨he, bel⟩ => ?_
  subst he
  exact ⟨_, rfl, _, _, _, [], _, [], hW', trodAll_mk1 (shut_bool Try.underlying4 _), (trodAll_cons_mk (Below.trod laidOut (by kernel_rfl) (of_decide_eq_true (by kernel_rfl)) k0 bel lt0) trodAll_mk0), rfl, bel.frame _, fun h => by cases h⟩

theorem prefix_holds : Rows.NamesPrefixSaid :=
  OpenClaim.holds_of_wide 5 Try.f5 rfl rfl rfl rfl rfl rfl rfl ⟨rfl, rfl, rfl, rfl, rfl⟩ rfl rfl rfl rfl rfl (by kernel_rfl) Try.func5 (by kernel_rfl)
    (of_decide_eq_true (by kernel_rfl)) (by unfold Func.isWrapper; first | (rw [if_pos (by decide +kernel)]; kernel_rfl) | (rw [if_neg (by decide +kernel)]; exact ⟨rfl, rfl⟩))
    (fun os started H enc _ => pre_lifted os started H enc)
#print axioms prefix_holds
end Go.Proofs.Ytfkhpcgccjlpgaa
