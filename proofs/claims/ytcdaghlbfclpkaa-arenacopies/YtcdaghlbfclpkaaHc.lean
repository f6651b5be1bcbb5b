/- The document's Equal, of any two nodes without kids: it answers. -/
import Derived.Test.YtcdaghlbfclpkaaDh
import Derived.Test.YtcdaghlbfclpkaaEa
import Derived.BigGuardPart
namespace Go.Proofs.Ytcdaghlbfclpkaa
open Go.RowKit

/-- Each of two arenas is like one that may be. -/
def RelU (m : Nat) (N : List Nd) (P : List Sp) (E : List En) (L : List RN) : Prop := ∃ L1 N2 P2 E2, Rel N P E L1 ∧ L1.length ≤ m ∧ Rel N2 P2 E2 L ∧ L.length ≤ m
/-- Behind a deed. -/
def FinU (Z : Nat → Prop) (w : World) (x y m : Nat) (w' : World) : Prop :=
  Keep Z w w' ∧ ∃ N' P' E' L', RelU (m + 1) N' P' E' L' ∧ Two Z w' x y N' P' E' L'
theorem Deal.both2 {Z : Nat → Prop} {w : World} {x y m : Nat} {N N2 : List Nd} {P P2 : List Sp} {E E2 : List En} {L L1 : List RN} {f g : FuncId} {args brgs : Array Value} {u v : Value} (h : Deal Z w x y N P E L1 f args g brgs u) (h2 : Deal Z w x y N2 P2 E2 L f args g brgs v) (hm1 : L1.length ≤ m) (hm2 : L.length ≤ m) (t : Two Z w x y N P E L) :
    Calls Try.prog f args w.drew (fun e w1 => e = .returned u ∧ Keep Z w w1 ∧ Calls Try.prog g brgs w1 (fun e w2 => e = .returned v ∧ Keep Z w w2 ∧ ∃ N' P' E' L', RelU (m + 1) N' P' E' L' ∧ Two Z w2 x y N' P' E' L')) ∧
    Calls Try.prog g brgs w.drew (fun e w1 => e = .returned v ∧ Keep Z w w1 ∧ Calls Try.prog f args w1 (fun e w2 => e = .returned u ∧ Keep Z w w2 ∧ ∃ N' P' E' L', RelU (m + 1) N' P' E' L' ∧ Two Z w2 x y N' P' E' L')) := by
  obtain ⟨R, Q, hp, _, hq, _, ⟨L1', hQ1⟩⟩ := h
  obtain ⟨R2, Q2, _, hr, hq2, ⟨N2', P2', E2', hR2⟩, _⟩ := h2
  have fin : ∀ N' P' E' L', R N' P' E' → Q2 L' → RelU (m + 1) N' P' E' L' := fun N' P' E' L' a b => by
    obtain ⟨z1, z2⟩ := hq N' P' E' L1' a hQ1
    obtain ⟨z3, z4⟩ := hq2 N2' P2' E2' L' hR2 b
    exact ⟨L1', N2', P2', E2', z1, by omega, z3, by omega⟩
  have bd : Below w.heap.size w w.drew := (Below.refl _ _).drew
  have kd : Keep Z w w.drew := Keep.old bd
  refine ⟨?_, ?_⟩
  · refine (two_prog (t.old bd) (hp _ kd)).mono ?_
    rintro e w1 ⟨rfl, ⟨N', P', E', hR, ht⟩, k1⟩
    refine ⟨rfl, kd.trans k1, (two_ref ht (hr _ (kd.trans k1))).mono ?_⟩
    rintro e w2 ⟨rfl, ⟨L', hQ, ht2⟩, k2⟩
    exact ⟨rfl, (kd.trans k1).trans k2, N', P', E', L', fin _ _ _ _ hR hQ, ht2⟩
  · refine (two_ref (t.old bd) (hr _ kd)).mono ?_
    rintro e w1 ⟨rfl, ⟨L', hQ, ht⟩, k1⟩
    refine ⟨rfl, kd.trans k1, (two_prog ht (hp _ (kd.trans k1))).mono ?_⟩
    rintro e w2 ⟨rfl, ⟨N', P', E', hR, ht2⟩, k2⟩
    exact ⟨rfl, (kd.trans k1).trans k2, N', P', E', L', fin _ _ _ _ hR hQ, ht2⟩
end Go.Proofs.Ytcdaghlbfclpkaa
namespace Go.Proofs.Ytcdaghlbfclpkaa
open Go.RowKit

/-- It answers, whatever it is. -/
def Ans (e : Ending) : Prop := ∃ r : Bool, e = .returned (.bool r)
theorem Ans.of (r : Bool) : Ans (.returned (.bool r)) := ⟨r, rfl⟩
set_option maxHeartbeats 1000000 in
theorem any_ats {w : World} {ao bo : Option Addr} {A B : List At} (n m ca cb : Nat) (ha : AtRow w ao A) (hb : AtRow w bo B) (hn : A.length = n) (hm : B.length = m) (hn2 : n ≤ 9223372036854775807) :
    Calls Try.prog 41 #[.slice ao n ca, .slice bo m cb] w fun e w' => Ans e ∧ Below w.heap.size w w' := by
  have HA : Hid (AtRow w ao A ∧ AtRow w bo B ∧ A.length = n ∧ B.length = m) := ⟨ha, hb, hn, hm⟩
  clear ha hb hn hm
  by_cases hnm : n = m
  · subst hnm
    go_enter Try.func41, Try.ntmps41
    go_wp2_with fail
    go_loopg [5] n (fun g2 iv wr => ∃ (i q : Nat), iv = .int .i64 i ∧ i + g2 = n ∧ wr = w.drewN q)
    case atStart => exact ⟨0, 0, rfl, by omega, rfl⟩
    case round =>
      obtain ⟨i, q, rfl, hig, rfl⟩ := hrel
      cases gk with
      | zero =>
        obtain rfl : i = n := by omega
        have hg0 : decide ((i : Int) < (i : Int)) = false := decide_eq_false (by omega)
        go_wp2_with fail
        go_ret
        exact ⟨Ans.of _, below_drewN (Below.refl _ _) _⟩
      | succ k =>
        have hin : i < n := by omega
        obtain ⟨x, hx⟩ : ∃ x, A[i]? = some x := ⟨_, List.getElem?_eq_getElem (by rw [HA.out.2.2.1]; exact hin)⟩
        obtain ⟨y, hy⟩ : ∃ y, B[i]? = some y := ⟨_, List.getElem?_eq_getElem (by rw [HA.out.2.2.2]; exact hin)⟩
        obtain ⟨b1, o1, rfl, h1, c1, c2⟩ := HA.out.1 i x hx
        obtain ⟨b2, o2, rfl, h2, c3, c4⟩ := HA.out.2.1 i y hy
        clear hx hy
        obtain ⟨nm1, vl1⟩ := x
        obtain ⟨nm2, vl2⟩ := y
        simp only at c1 c2 c3 c4
        cases hq : At.eqb ⟨nm1, vl1⟩ ⟨nm2, vl2⟩ with
        | true =>
          have hne : ∀ w : World, (binOp .neq 53 (.agg #[.string nm1, .string vl1]) (.agg #[.string nm2, .string vl2])).run Try.prog w = .ok (.bool false) w := fun w => by
            rw [ne53, hq]; rfl
          clear hq
          go_wp2_with fail
          go_quiet (fail)
          go_wp2_with fail
          go_roundg k
          case measure => omega
          case rel => exact ⟨i + 1, _, by go_num, by omega, rfl⟩
        | false =>
          have hne : ∀ w : World, (binOp .neq 53 (.agg #[.string nm1, .string vl1]) (.agg #[.string nm2, .string vl2])).run Try.prog w = .ok (.bool true) w := fun w => by
            rw [ne53, hq]; rfl
          clear hq
          go_wp2_with fail
          go_quiet (fail)
          go_wp2_with fail
          go_ret
          exact ⟨Ans.of _, below_drewN (below_drewN (Below.refl _ _) _) _⟩
  · have h1 : ((n : Int) == (m : Int)) = false := by simp; omega
    have h2 : ¬ (n : Int) = (m : Int) := by omega
    go_enter Try.func41, Try.ntmps41
    go_wp2_with fail
    go_ret
    exact ⟨Ans.of _, Below.refl _ _⟩
theorem eq32g (a b c d : Int) (w : World) : (binOp .eql 32 (.agg #[iv a, iv b]) (.agg #[iv c, iv d])).run Try.prog w = .ok (.bool (a == c && b == d)) w := by
  have u3 := Try.underlying3
  have a3 := Try.isAgg3
  have z3 := Try.sizeOf3
  have hS : Try.prog.underlying 32 = some (.struct (Try.prog.fieldsOf 32)) := by kernel_rfl
  have hp : Try.prog.stoodInHeld 32 = false := by kernel_rfl
  rw [run_eql_struct, show (10000 : Nat) = 9999 + 1 from rfl, run_equalIn_agg w 9999 32 _ _ hS hp]
  simp only [Program.fieldsOf, Try.underlying32]
  go_simp
  by_cases h1 : a = c <;> by_cases h2 : b = d <;> simp [h1, h2]
theorem ne32g (a b c d : Int) (w : World) : (binOp .neq 32 (.agg #[iv a, iv b]) (.agg #[iv c, iv d])).run Try.prog w = .ok (.bool (!(a == c && b == d))) w := by
  have h := eq32g a b c d w
  rw [run_eql_struct] at h
  rw [run_neq_struct]
  revert h
  generalize (Op.equalIn 10000 32 (.agg #[iv a, iv b]) (.agg #[iv c, iv d])).run Try.prog w = r
  intro h
  cases r with
  | ok x w' => simp [Result.andThen] at h ⊢; obtain ⟨h1, h2⟩ := h; simp [h1, h2]
  | halt x w' => simp [Result.andThen] at h
end Go.Proofs.Ytcdaghlbfclpkaa
namespace Go.Proofs.Ytcdaghlbfclpkaa
open Go.RowKit

set_option maxHeartbeats 4000000 in
theorem any_nd {w : World} {ao bo : Option Addr} {A B : List At} (n m ca cb : Nat) (ha : AtRow w ao A) (hb : AtRow w bo B) (hn : A.length = n) (hm : B.length = m) (hn2 : n ≤ 9223372036854775807) (i1 i2 i3 j1 j2 j3 : Int) (s1 s2 r1 r2 : ByteArray) (t1 t2 t3 t4 u1 u2 u3 u4 : Int) :
    Calls Try.prog 19 #[.agg #[iv i1, iv i2, iv i3, .string s1, .string s2, .slice ao n ca, iv t1, iv t2, iv t3, iv t4, .slice none 0 0], .agg #[iv j1, iv j2, iv j3, .string r1, .string r2, .slice bo m cb, iv u1, iv u2, iv u3, iv u4, .slice none 0 0]] w fun e w' => Ans e ∧ Below w.heap.size w w' := by
  have b0 : Below w.heap.size w ((w.alloc (.cells #[iv i1, iv i2, iv i3, .string s1, .string s2, .slice ao n ca, iv t1, iv t2, iv t3, iv t4, .slice none 0 0] 35)).alloc (.cells #[iv j1, iv j2, iv j3, .string r1, .string r2, .slice bo m cb, iv u1, iv u2, iv u3, iv u4, .slice none 0 0] 35)) := ((Below.refl _ _).alloc (Nat.le_refl _) _).alloc (by simp) _
  have k := any_ats (w := ((w.alloc (.cells #[iv i1, iv i2, iv i3, .string s1, .string s2, .slice ao n ca, iv t1, iv t2, iv t3, iv t4, .slice none 0 0] 35)).alloc (.cells #[iv j1, iv j2, iv j3, .string r1, .string r2, .slice bo m cb, iv u1, iv u2, iv u3, iv u4, .slice none 0 0] 35))) n m ca cb (ha.old b0) (hb.old b0) hn hm hn2
  have x1 := ne32g t1 t2 u1 u2
  have x2 := ne32g t3 t4 u3 u4
  generalize (!(t1 == u1 && t2 == u2)) = z1 at x1
  generalize (!(t3 == u3 && t4 == u4)) = z2 at x2
  have n0 := heap_alloc_new (w.alloc (.cells #[iv i1, iv i2, iv i3, .string s1, .string s2, .slice ao n ca, iv t1, iv t2, iv t3, iv t4, .slice none 0 0] 35)) (.cells #[iv j1, iv j2, iv j3, .string r1, .string r2, .slice bo m cb, iv u1, iv u2, iv u3, iv u4, .slice none 0 0] 35)
  have n1 : ((w.alloc (.cells #[iv i1, iv i2, iv i3, .string s1, .string s2, .slice ao n ca, iv t1, iv t2, iv t3, iv t4, .slice none 0 0] 35)).alloc (.cells #[iv j1, iv j2, iv j3, .string r1, .string r2, .slice bo m cb, iv u1, iv u2, iv u3, iv u4, .slice none 0 0] 35)).heap[w.heap.size]? = some (.cells #[iv i1, iv i2, iv i3, .string s1, .string s2, .slice ao n ca, iv t1, iv t2, iv t3, iv t4, .slice none 0 0] 35 (0, 0)) := by
    rw [heap_alloc_old _ _ (by simp)]; exact heap_alloc_new w _
  have hsz : (w.alloc (.cells #[iv i1, iv i2, iv i3, .string s1, .string s2, .slice ao n ca, iv t1, iv t2, iv t3, iv t4, .slice none 0 0] 35)).heap.size = w.heap.size + 1 := by simp
  rw [hsz] at n0
  obtain ⟨W0, hW0⟩ : ∃ W0, ((w.alloc (.cells #[iv i1, iv i2, iv i3, .string s1, .string s2, .slice ao n ca, iv t1, iv t2, iv t3, iv t4, .slice none 0 0] 35)).alloc (.cells #[iv j1, iv j2, iv j3, .string r1, .string r2, .slice bo m cb, iv u1, iv u2, iv u3, iv u4, .slice none 0 0] 35)) = W0 := ⟨_, rfl⟩
  have HW0 : Hid (((w.alloc (.cells #[iv i1, iv i2, iv i3, .string s1, .string s2, .slice ao n ca, iv t1, iv t2, iv t3, iv t4, .slice none 0 0] 35)).alloc (.cells #[iv j1, iv j2, iv j3, .string r1, .string r2, .slice bo m cb, iv u1, iv u2, iv u3, iv u4, .slice none 0 0] 35)) = W0) := hW0
  rw [hW0] at b0 k n0 n1
  clear hW0 hsz ha hb hn hm
  have p0 : W0.cell? ⟨w.heap.size, 0, none⟩ = some (iv i1) := by simp [World.cell?, n1]
  have p1 : W0.cell? ⟨w.heap.size, 1, none⟩ = some (iv i2) := by simp [World.cell?, n1]
  have p2 : W0.cell? ⟨w.heap.size, 2, none⟩ = some (iv i3) := by simp [World.cell?, n1]
  have p3 : W0.cell? ⟨w.heap.size, 3, none⟩ = some (.string s1) := by simp [World.cell?, n1]
  have p4 : W0.cell? ⟨w.heap.size, 4, none⟩ = some (.string s2) := by simp [World.cell?, n1]
  have p5 : W0.cell? ⟨w.heap.size, 5, none⟩ = some (.slice ao n ca) := by simp [World.cell?, n1]
  have p6 : W0.cell? ⟨w.heap.size, 6, none⟩ = some (iv t1) := by simp [World.cell?, n1]
  have p7 : W0.cell? ⟨w.heap.size, 7, none⟩ = some (iv t2) := by simp [World.cell?, n1]
  have p8 : W0.cell? ⟨w.heap.size, 8, none⟩ = some (iv t3) := by simp [World.cell?, n1]
  have p9 : W0.cell? ⟨w.heap.size, 9, none⟩ = some (iv t4) := by simp [World.cell?, n1]
  have p10 : W0.cell? ⟨w.heap.size, 10, none⟩ = some (.slice none 0 0) := by simp [World.cell?, n1]
  have q0 : W0.cell? ⟨w.heap.size + 1, 0, none⟩ = some (iv j1) := by simp [World.cell?, n0]
  have q1 : W0.cell? ⟨w.heap.size + 1, 1, none⟩ = some (iv j2) := by simp [World.cell?, n0]
  have q2 : W0.cell? ⟨w.heap.size + 1, 2, none⟩ = some (iv j3) := by simp [World.cell?, n0]
  have q3 : W0.cell? ⟨w.heap.size + 1, 3, none⟩ = some (.string r1) := by simp [World.cell?, n0]
  have q4 : W0.cell? ⟨w.heap.size + 1, 4, none⟩ = some (.string r2) := by simp [World.cell?, n0]
  have q5 : W0.cell? ⟨w.heap.size + 1, 5, none⟩ = some (.slice bo m cb) := by simp [World.cell?, n0]
  have q6 : W0.cell? ⟨w.heap.size + 1, 6, none⟩ = some (iv u1) := by simp [World.cell?, n0]
  have q7 : W0.cell? ⟨w.heap.size + 1, 7, none⟩ = some (iv u2) := by simp [World.cell?, n0]
  have q8 : W0.cell? ⟨w.heap.size + 1, 8, none⟩ = some (iv u3) := by simp [World.cell?, n0]
  have q9 : W0.cell? ⟨w.heap.size + 1, 9, none⟩ = some (iv u4) := by simp [World.cell?, n0]
  have q10 : W0.cell? ⟨w.heap.size + 1, 10, none⟩ = some (.slice none 0 0) := by simp [World.cell?, n0]
  have c0 : W0.cell? ⟨w.heap.size, 10, none⟩ = some (.slice none 0 0) := p10
  have H : Hid (Below w.heap.size w W0 ∧ w.heap.size < W0.heap.size) := ⟨b0, (Array.getElem?_eq_some_iff.1 n1).1⟩
  have HK : Hid (Calls Try.prog 41 #[.slice ao n ca, .slice bo m cb] W0 fun e w' => Ans e ∧ Below W0.heap.size W0 w') := k
  clear b0 k n0 n1
  go_enter Try.func19, Try.ntmps19
  go_upto_region 1 with fail
  rw [HW0.out]
  clear HW0
  have z0 : decide ((0 : Int) < 0) = false := rfl
  go_wp2_with fail
  all_goals first
    | (go_ret; exact ⟨Ans.of _, H.out.1⟩)
    | skip
  refine HK.out.mono ?_
  rintro e w1 ⟨⟨r, rfl⟩, b1⟩
  have c8 : w1.cell? ⟨w.heap.size, 10, none⟩ = some (.slice none 0 0) := by
    rw [← c0]
    simp [World.cell?, b1.block w.heap.size H.out.2]
  have HB : Hid (Below w.heap.size w w1) := H.out.1.trans (b1.mono H.out.1.size)
  clear b1 H HK c0 p0 p1 p2 p3 p4 p5 p6 p7 p8 p9 p10 q0 q1 q2 q3 q4 q5 q6 q7 q8 q9 q10
  cases r with
  | false =>
    go_wp2_with fail
    go_ret
    exact ⟨Ans.of _, HB.out⟩
  | true =>
    go_wp2_with fail
    go_loopg [5] 0 (fun g2 iv wr => ∃ (i : Nat), iv = .int .i64 i ∧ i = 0 ∧ wr = w1)
    case atStart => exact ⟨0, rfl, rfl, rfl⟩
    case round =>
      obtain ⟨i, rfl, rfl, rfl⟩ := hrel
      have hg0 : decide (((0 : Nat) : Int) < 0) = false := rfl
      cases gk with
      | zero =>
        go_wp2_with fail
        go_ret
        exact ⟨Ans.of _, HB.out⟩
      | succ k =>
        go_wp2_with fail
        go_ret
        exact ⟨Ans.of _, HB.out⟩
end Go.Proofs.Ytcdaghlbfclpkaa
