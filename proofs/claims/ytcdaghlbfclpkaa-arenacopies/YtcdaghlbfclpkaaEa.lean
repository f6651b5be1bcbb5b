/- The document's Equal, of attributes and of nodes without kids, where both are the same. -/
import Derived.Test.YtcdaghlbfclpkaaAd
namespace Go.Proofs.Ytcdaghlbfclpkaa
open Go.RowKit

set_option maxHeartbeats 1000000 in
theorem same_ats {w : World} {ao bo : Option Addr} {A : List At} (n ca cb : Nat) (ha : AtRow w ao A) (hb : AtRow w bo A) (hn : A.length = n) (hn2 : n ≤ 9223372036854775807) :
    Calls Try.prog 41 #[.slice ao n ca, .slice bo n cb] w fun e w' => e = .returned (.bool true) ∧ Below w.heap.size w w' := by
  have HA : Hid (AtRow w ao A ∧ AtRow w bo A ∧ A.length = n) := ⟨ha, hb, hn⟩
  clear ha hb hn
  go_enter Try.func41, Try.ntmps41
  go_wp2_with fail
  go_loopg [5] n (fun g2 iv wr => ∃ (i q : Nat), iv = .int .i64 i ∧ i + g2 = n ∧ wr = w.drewN q)
  case atStart => exact ⟨0, 0, rfl, by omega, rfl⟩
  case round =>
    obtain ⟨i, q, rfl, hig, rfl⟩ := hrel
    cases gk with
    | zero =>
      obtain rfl : i = n := by omega
      have hg0 : decide ((i : Int) < (i : Int)) = false := decide_eq_false (by omega)
      go_wp2_with fail
      go_ret
      exact ⟨rfl, below_drewN (Below.refl _ _) _⟩
    | succ k =>
      have hin : i < n := by omega
      obtain ⟨x, hx⟩ : ∃ x, A[i]? = some x := ⟨_, List.getElem?_eq_getElem (by rw [HA.out.2.2]; exact hin)⟩
      obtain ⟨b1, o1, rfl, h1, c1, c2⟩ := HA.out.1 i x hx
      obtain ⟨b2, o2, rfl, h2, c3, c4⟩ := HA.out.2.1 i x hx
      clear hx
      obtain ⟨nm1, vl1⟩ := x
      simp only at c1 c2 c3 c4
      have hne : ∀ w : World, (binOp .neq 53 (.agg #[.string nm1, .string vl1]) (.agg #[.string nm1, .string vl1])).run Try.prog w = .ok (.bool false) w := fun w => by
        rw [ne53, At.eqb_iff.2 rfl]; rfl
      go_wp2_with fail
      go_quiet (fail)
      go_wp2_with fail
      go_roundg k
      case measure => omega
      case rel => exact ⟨i + 1, _, by go_num, by omega, rfl⟩
theorem eq32 (a b : Int) (w : World) : (binOp .eql 32 (.agg #[iv a, iv b]) (.agg #[iv a, iv b])).run Try.prog w = .ok (.bool true) w := by
  have u3 := Try.underlying3
  have a3 := Try.isAgg3
  have z3 := Try.sizeOf3
  have hS : Try.prog.underlying 32 = some (.struct (Try.prog.fieldsOf 32)) := by kernel_rfl
  have hp : Try.prog.stoodInHeld 32 = false := by kernel_rfl
  rw [run_eql_struct, show (10000 : Nat) = 9999 + 1 from rfl, run_equalIn_agg w 9999 32 _ _ hS hp]
  simp only [Program.fieldsOf, Try.underlying32]
  go_simp
theorem ne32 (a b : Int) (w : World) : (binOp .neq 32 (.agg #[iv a, iv b]) (.agg #[iv a, iv b])).run Try.prog w = .ok (.bool false) w := by
  have h := eq32 a b w
  rw [run_eql_struct] at h
  rw [run_neq_struct]
  revert h
  generalize (Op.equalIn 10000 32 (.agg #[iv a, iv b]) (.agg #[iv a, iv b])).run Try.prog w = r
  intro h
  cases r with
  | ok x w' => simp [Result.andThen] at h ⊢; obtain ⟨h1, h2⟩ := h; exact ⟨h1, h2⟩
  | halt x w' => simp [Result.andThen] at h
set_option maxHeartbeats 2000000 in
theorem same_nd {w : World} {ao bo : Option Addr} {A : List At} (n ca cb : Nat) (ha : AtRow w ao A) (hb : AtRow w bo A) (hn : A.length = n) (hn2 : n ≤ 9223372036854775807) (i1 i2 i3 : Int) (s1 s2 : ByteArray) (t1 t2 t3 t4 : Int) :
    Calls Try.prog 19 #[.agg #[iv i1, iv i2, iv i3, .string s1, .string s2, .slice ao n ca, iv t1, iv t2, iv t3, iv t4, .slice none 0 0], .agg #[iv i1, iv i2, iv i3, .string s1, .string s2, .slice bo n cb, iv t1, iv t2, iv t3, iv t4, .slice none 0 0]] w fun e w' => e = .returned (.bool true) ∧ Below w.heap.size w w' := by
  have b0 : Below w.heap.size w ((w.alloc (.cells #[iv i1, iv i2, iv i3, .string s1, .string s2, .slice ao n ca, iv t1, iv t2, iv t3, iv t4, .slice none 0 0] 35)).alloc (.cells #[iv i1, iv i2, iv i3, .string s1, .string s2, .slice bo n cb, iv t1, iv t2, iv t3, iv t4, .slice none 0 0] 35)) := ((Below.refl _ _).alloc (Nat.le_refl _) _).alloc (by simp) _
  have k := same_ats (w := ((w.alloc (.cells #[iv i1, iv i2, iv i3, .string s1, .string s2, .slice ao n ca, iv t1, iv t2, iv t3, iv t4, .slice none 0 0] 35)).alloc (.cells #[iv i1, iv i2, iv i3, .string s1, .string s2, .slice bo n cb, iv t1, iv t2, iv t3, iv t4, .slice none 0 0] 35))) n ca cb (ha.old b0) (hb.old b0) hn hn2
  have x1 := ne32 t1 t2
  have x2 := ne32 t3 t4
  clear ha hb hn
  go_enter Try.func19, Try.ntmps19
  go_upto_region 1 with fail
  have z0 : decide ((0 : Int) < 0) = false := rfl
  have n0 := heap_alloc_new (w.alloc (.cells #[iv i1, iv i2, iv i3, .string s1, .string s2, .slice ao n ca, iv t1, iv t2, iv t3, iv t4, .slice none 0 0] 35)) (.cells #[iv i1, iv i2, iv i3, .string s1, .string s2, .slice bo n cb, iv t1, iv t2, iv t3, iv t4, .slice none 0 0] 35)
  have n1 : ((w.alloc (.cells #[iv i1, iv i2, iv i3, .string s1, .string s2, .slice ao n ca, iv t1, iv t2, iv t3, iv t4, .slice none 0 0] 35)).alloc (.cells #[iv i1, iv i2, iv i3, .string s1, .string s2, .slice bo n cb, iv t1, iv t2, iv t3, iv t4, .slice none 0 0] 35)).heap[w.heap.size]? = some (.cells #[iv i1, iv i2, iv i3, .string s1, .string s2, .slice ao n ca, iv t1, iv t2, iv t3, iv t4, .slice none 0 0] 35 (0, 0)) := by
    rw [heap_alloc_old _ _ (by simp)]; exact heap_alloc_new w _
  have H : Hid (Below w.heap.size w ((w.alloc (.cells #[iv i1, iv i2, iv i3, .string s1, .string s2, .slice ao n ca, iv t1, iv t2, iv t3, iv t4, .slice none 0 0] 35)).alloc (.cells #[iv i1, iv i2, iv i3, .string s1, .string s2, .slice bo n cb, iv t1, iv t2, iv t3, iv t4, .slice none 0 0] 35))) := b0
  clear b0
  go_wp2_with fail
  refine k.mono ?_
  clear k
  rintro e w1 ⟨rfl, b1⟩
  have hw := (Array.getElem?_eq_some_iff.1 n1).1
  have c8 : w1.cell? ⟨w.heap.size, 10, none⟩ = some (.slice none 0 0) := by
    have := (b1.block w.heap.size hw).trans n1
    simp [World.cell?, this]
  have bb : Below w.heap.size w w1 := H.out.trans (b1.mono H.out.size)
  clear b1 n0 n1 hw H
  go_wp2_with fail
  go_loopg [5] 0 (fun g2 iv wr => ∃ (i : Nat), iv = .int .i64 i ∧ i = 0 ∧ wr = w1)
  case atStart => exact ⟨0, rfl, rfl, rfl⟩
  case round =>
    obtain ⟨i, rfl, rfl, rfl⟩ := hrel
    have hg0 : decide (((0 : Nat) : Int) < 0) = false := rfl
    cases gk with
    | zero =>
      go_wp2_with fail
      go_ret
      exact ⟨rfl, bb⟩
    | succ k =>
      go_wp2_with fail
      go_ret
      exact ⟨rfl, bb⟩
end Go.Proofs.Ytcdaghlbfclpkaa
