/- The law NamesOwn holds for every number and byte: each of api's names is found ahead of a byte that is no letter, no digit and no semicolon. No condition. -/
import Derived.Test.YtfkhpcgccjlpgaaBase
import Derived.ProofKit
import Derived.OpenShut
import Derived.ShutString
import Derived.ChangeOld
import Derived.ChangeMaps
import Derived.Lib.SmallJoins
namespace Go.Proofs.Ytfkhpcgccjlpgaa
open Go.ChangeShapes Go.WideShapes Go.ChangeAt Go.RowKit Go.Joins

theorem idx_any (n : Int) : ∃ j : Nat, j < 78 ∧ wrap64 ((IntKind.u64.wrap n).tmod 78) = (j : Int) := by
  have h0 : 0 ≤ IntKind.u64.wrap n := by rw [IntKind.wrap_u64]; omega
  rw [Int.tmod_eq_emod_of_nonneg h0]
  refine ⟨((IntKind.u64.wrap n) % 78).toNat, by omega, ?_⟩
  unfold wrap64
  omega

theorem or_all : ∀ k : Fin 256, (48 ≤ (k.val : Int) ∧ (k.val : Int) ≤ 57) ∨ (97 ≤ bits .or .u8 (k.val : Int) 32 ∧ bits .or .u8 (k.val : Int) 32 ≤ 122) ∨ k.val = 59 ∨ ¬ ((48 ≤ k.val ∧ k.val ≤ 57) ∨ (65 ≤ k.val ∧ k.val ≤ 90) ∨ (97 ≤ k.val ∧ k.val ≤ 122)) := by decide +kernel

theorem not_plain (c : UInt8) (h1 : ¬ (48 ≤ (c.toNat : Int) ∧ (c.toNat : Int) ≤ 57)) (h2 : ¬ (97 ≤ bits .or .u8 (c.toNat : Int) 32 ∧ bits .or .u8 (c.toNat : Int) 32 ≤ 122)) (h3 : c.toNat ≠ 59) : plainB c = false := by
  have := or_all ⟨c.toNat, UInt8.toNat_lt c⟩
  simp only at this
  rcases this with h | h | h | h
  · exact absurd h h1
  · exact absurd h h2
  · exact absurd h h3
  · have h4 : c ≠ 59 := fun e => h3 (by rw [e]; rfl)
    simp only [plainB, Bool.or_eq_false_iff, decide_eq_false_iff_not, beq_eq_false_iff_ne]
    exact ⟨⟨⟨by omega, by omega⟩, by omega⟩, h4⟩

theorem best_own {L : List Rf} (A : Api L) {x : Rf} (hx : x ∈ L) {c : UInt8} (hc : plainB c = false) : best L (x.nm ++ [c]) (x.n.size + 1) = (x.r, x.n.size) := by
  have hlen : x.nm.length = x.n.size := Array.length_toList
  have h0 := (A.small x hx).2
  have hno : val L ((x.nm ++ [c]).take (x.n.size + 1)) = none := by
    rw [List.take_of_length_le (by simp [hlen])]
    cases hv : val L (x.nm ++ [c]) with
    | none => rfl
    | some v =>
      exfalso
      have hp := val_pre hv
      simp only [pre, List.any_eq_true, Bool.and_eq_true, List.isPrefixOf_iff_prefix] at hp
      obtain ⟨y, hy, _, t, ht⟩ := hp
      have := A.plain y hy c (by rw [← ht]; simp)
      rw [hc] at this
      cases this
  rw [best, hno]
  obtain ⟨m, hm⟩ : ∃ m, x.n.size = m + 1 := ⟨x.n.size - 1, by omega⟩
  have hyes : val L ((x.nm ++ [c]).take (m + 1)) = some x.r := by
    rw [List.take_append_of_le_length (by omega), List.take_of_length_le (by omega)]
    exact A.once x hx
  simp only [hm]
  rw [best, hyes]

theorem conv_one (w : World) (c : UInt8) : (convert 38 9 (.slice (some ⟨w.heap.size, 0, none⟩) 1 1)).run Try.prog (w.alloc (.cells #[.int .u8 (c.toNat : Int)] 5)) = .ok (.string ⟨#[c]⟩) (w.alloc (.cells #[.int .u8 (c.toNat : Int)] 5)) := by
  refine run_convert_bytes_back (P := Try.prog) _ 38 9 5 ⟨w.heap.size, 0, none⟩ 1 [c] Try.underlying38 Try.underlying5 Try.underlying9 fun j hj => ?_
  obtain rfl : j = 0 := by simpa using hj
  rw [Addr.add_lit]
  simp

set_option maxHeartbeats 1000000 in
set_option maxRecDepth 10000 in
theorem own_walk (n : Int) (c : UInt8) (w : World) : Calls Try.prog 4 #[.int .i64 n, .int .u8 (c.toNat : Int)] w fun e w' => e = .returned (.bool true) ∧ Below w.heap.size w w' := by
  obtain ⟨L, A0⟩ : ∃ L, Api L := ⟨refs, api_refs⟩
  have A : Hid (Api L) := A0
  clear A0
  obtain ⟨j, hj, hjn⟩ := idx_any n
  go_enter Try.func4, Try.ntmps4
  go_wp2_with fail
  refine (A.out.refs _).mono ?_
  rintro e w1 ⟨rfl, hr, b1, z1⟩
  have H1 : Hid (RefRow w1 (some ⟨w.heap.size, 0, none⟩) L ∧ Below w.heap.size w w1) := ⟨hr, b1⟩
  clear hr b1
  go_wp2_with fail
  refine (A.out.new H1.out.1).mono ?_
  rintro e w2 ⟨t, rfl, T, b2⟩
  have H2 : Hid (TrieIs w2 w1.heap.size t L ∧ Below w.heap.size w w2 ∧ RefRow w2 (some ⟨w.heap.size, 0, none⟩) L) := ⟨T, H1.out.2.trans (b2.mono H1.out.2.size), H1.out.1.below b2⟩
  have hwl : w.heap.size < w2.heap.size := by have := b2.size; omega
  clear T b2 H1
  have hjl : j < L.length := by rw [A.out.len]; exact hj
  obtain ⟨x, hx⟩ : ∃ x, L[j] = x := ⟨_, rfl⟩
  have HX : Hid (x ∈ L) := hx ▸ List.getElem_mem hjl
  obtain ⟨b, off, hbo, _, d0, d1⟩ := H2.out.2.2 j x (by rw [List.getElem?_eq_getElem hjl, hx])
  simp only [Option.some.injEq, Addr.mk.injEq] at hbo
  obtain ⟨rfl, rfl, _⟩ := hbo
  rw [Nat.zero_add] at d0 d1
  have hsz := (A.out.small x HX.out).1
  clear hx hjl
  obtain ⟨nm, r⟩ := x
  simp only at d0 d1 hsz
  have HP : Hid (¬ (48 ≤ (c.toNat : Int) ∧ (c.toNat : Int) ≤ 57) → ¬ (97 ≤ bits .or .u8 (c.toNat : Int) 32 ∧ bits .or .u8 (c.toNat : Int) 32 ≤ 122) → c.toNat ≠ 59 → best L (nm.data.toList ++ [c]) (nm.size + 1) = (r, nm.size)) := fun h1 h2 h3 => best_own A.out HX.out (not_plain c h1 h2 h3)
  have hsz2 : (nm ++ ⟨#[c]⟩).size ≤ 9223372036854775807 := by rw [ByteArray.size_append]; show nm.size + 1 ≤ _; omega
  obtain ⟨W3, hW3⟩ : ∃ W3, W3 = (w2.alloc (.cells #[.string nm, .int .i64 r] 36)).alloc (.cells #[.int .u8 (c.toNat : Int)] 5) := ⟨_, rfl⟩
  have Hbe : Hid (TrieIs W3 w1.heap.size t L ∧ Below w.heap.size w W3 ∧ W3.cell? ⟨w2.heap.size, 0, none⟩ = some (.string nm) ∧ W3.cell? ⟨w2.heap.size, 1, none⟩ = some (.int .i64 r) ∧ W3.heap.size = w2.heap.size + 2) := by
    have hb3 : Below w2.heap.size w2 W3 := by rw [hW3]; exact ((Below.refl _ _).alloc (Nat.le_refl _) _).alloc (by simp) _
    exact ⟨H2.out.1.below hb3, H2.out.2.1.trans (hb3.mono H2.out.2.1.size), by rw [hW3]; simp, by rw [hW3]; simp, by rw [hW3]; simp⟩
  have HW3 : Hid (W3 = (w2.alloc (.cells #[.string nm, .int .i64 r] 36)).alloc (.cells #[.int .u8 (c.toNat : Int)] 5)) := hW3
  clear hW3
  have hcv := conv_one (w2.alloc (.cells #[.string nm, .int .i64 r] 36)) c
  rw [show (w2.alloc (.cells #[.string nm, .int .i64 r] 36)).heap.size = w2.heap.size + 1 by simp] at hcv
  generalize hbs : w.heap.size = bs at *
  go_wp2_with fail
  all_goals try
    (refine (awake_any _).mono ?_
     rintro e w7 ⟨rfl, b7⟩
     have H7 : Hid (Below bs w w7) := H2.out.2.1.trans (b7.mono (Nat.le_of_lt hwl))
     clear b7 H2
     go_wp2_with fail
     go_ret
     exact ⟨rfl, by rw [hbs]; exact H7.out⟩)
  all_goals
    simp only [beq_eq_false_iff_ne, ne_eq] at *
    have HF : Hid (best L (nm.data.toList ++ [c]) (nm.size + 1) = (r, nm.size)) := HP.out (by omega) (by omega) (by omega)
    clear HP
    go_wp2_with fail
    rw [← HW3.out]
    obtain ⟨T3, B3, g0, g1, z3⟩ := Hbe.out
    clear Hbe H2 hcv HW3 d0 d1
    generalize hs2 : nm ++ (⟨#[c]⟩ : ByteArray) = s2 at hsz2 ⊢
    refine (longest_any T3 s2 hsz2).mono ?_
    rintro e w4 ⟨rfl, b4⟩
    have hbst : best L s2.data.toList s2.size = (r, nm.size) := by
      rw [← hs2, ByteArray.size_append, show (nm ++ ⟨#[c]⟩).data.toList = nm.data.toList ++ [c] by simp [ByteArray.data_append]]
      exact HF.out
    rw [hbst]
    have e0 := (b4.cell (p := ⟨w2.heap.size, 0, none⟩) (by rw [z3]; exact Nat.lt_add_of_pos_right (by decide))).trans g0
    have e1 := (b4.cell (p := ⟨w2.heap.size, 1, none⟩) (by rw [z3]; exact Nat.lt_add_of_pos_right (by decide))).trans g1
    have H4 : Hid (Below bs w w4) := B3.trans (b4.mono (by omega))
    clear hbst HF T3 B3 g0 g1 b4 hs2 hsz2
    go_wp2_with fail
    refine (awake_any _).mono ?_
    rintro e w7 ⟨rfl, b7⟩
    have H7 : Hid (Below bs w w7) := H4.out.trans (b7.mono (by have := H4.out.size; omega))
    clear b7 H4
    go_wp2_with fail
    go_ret
    exact ⟨rfl, by rw [hbs]; exact H7.out⟩

theorem own_byte (n k : Int) (w : World) (hk : (Lit.int .u8 k).wf = true) : Calls Try.prog 4 #[.int .i64 n, .int .u8 k] w fun e w' => e = .returned (.bool true) ∧ Below w.heap.size w w' := by
  have h : 0 ≤ k ∧ k ≤ 255 := by
    simp only [Lit.wf, Bool.and_eq_true, decide_eq_true_eq] at hk
    exact hk
  obtain ⟨c, hc⟩ : ∃ c : UInt8, (c.toNat : Int) = k := ⟨UInt8.ofNat k.toNat, by rw [UInt8.toNat_ofNat']; omega⟩
  rw [← hc]
  exact own_walk n c w

set_option maxRecDepth 100000 in
theorem own_lifted (os : Os) (started : os.Started) (H : Type) (enc : TypeId × Value → H) :
    ReturnsInHanded {} Try.checked os 4 .any (Rows.namesOwnSpec.pre6 enc Try.prog Try.f4 Rows.namesOwnRow.domain false) (Rows.namesOwnSpec.post enc Try.prog Try.f4 false true false false) := by
  refine returnsInHanded_of_change (C := Try.checked) own started (by kernel_rfl) Try.func4
    (ChangeSpec.witness6 (enc := enc) (C := Try.checked) false ⟨#[], #[.int .i64 0, .int .u8 0], []⟩ 8 (by kernel_rfl) (by kernel_rfl) (by kernel_rfl) (by kernel_rfl)) ?_
  intro W base args ds gs before hval0 hW hcnd _
  have hval : ∀ (j : Nat) t v, Try.f4.params[j]? = some t → args[j]? = some v → Value.okWide Try.prog W .any base t v := hval0
  have hW' := hW
  obtain ⟨p, q, hA0, hV, rfl, hfz, hnd⟩ := hW
  have hA : DataW.TrodAll enc Try.prog W 0 (fun _ => true) true Try.f4.params.toList args.toList ds p := hA0
  rw [Try.params4] at hA hval
  obtain ⟨v0, vs0, d0, ds0, p0, q0, hargs, rfl, rfl, h0, r0⟩ := trodAll_cons hA
  obtain ⟨v1, vs1, d1, ds1, p1, q1, rfl, rfl, rfl, h1, r1⟩ := trodAll_cons r0
  obtain ⟨rfl, rfl, rfl⟩ := trodAll_nil r1
  obtain rfl : args = #[v0, v1] := by cases args; simp_all
  obtain ⟨rfl, rfl⟩ := trodVars_none hV
  have k0 := h0
  have lt0 : ∀ x ∈ p0, x.block < W.heap.size := by obtain ⟨m, hm⟩ := k0; exact DataW.trod_lt m _ _ _ hm
  have k1 := h1
  have lt1 : ∀ x ∈ p1, x.block < W.heap.size := by obtain ⟨m, hm⟩ := k1; exact DataW.trod_lt m _ _ _ hm
  obtain ⟨x0, hv0, _, _, wx0⟩ := open_int Try.underlying3 (hval 0 3 v0 rfl rfl) h0
  obtain ⟨x1, hv1, _, _, wx1⟩ := open_int Try.underlying5 (hval 1 5 v1 rfl rfl) h1
  subst hv0 hv1
  clear hA0 hval0
  refine (own_byte x0 x1 W wx1).mono fun e W' ⟨he, bel⟩ => ?_
  subst he
  exact ⟨_, rfl, _, _, _, [], _, [], hW', trodAll_mk1 (shut_bool Try.underlying4 _), (trodAll_cons_mk (Below.trod laidOut (by kernel_rfl) (of_decide_eq_true (by kernel_rfl)) k0 bel lt0) (trodAll_cons_mk (Below.trod laidOut (by kernel_rfl) (of_decide_eq_true (by kernel_rfl)) k1 bel lt1) trodAll_mk0)), rfl, bel.frame _, fun h => by cases h⟩

theorem own_holds : Rows.NamesOwnSaid :=
  OpenClaim.holds_of_wide 4 Try.f4 rfl rfl rfl rfl rfl rfl rfl ⟨rfl, rfl, rfl, rfl, rfl⟩ rfl rfl rfl rfl rfl (by kernel_rfl) Try.func4 (by kernel_rfl)
    (of_decide_eq_true (by kernel_rfl)) (by unfold Func.isWrapper; first | (rw [if_pos (by decide +kernel)]; kernel_rfl) | (rw [if_neg (by decide +kernel)]; exact ⟨rfl, rfl⟩))
    (fun os started H enc _ => own_lifted os started H enc)
#print axioms own_holds
end Go.Proofs.Ytfkhpcgccjlpgaa
