/- A node put in: Insert. -/
import Derived.Test.YtcdaghlbfclpkaaAe
import Derived.Test.YtcdaghlbfclpkaaAg
namespace Go.Proofs.Ytcdaghlbfclpkaa
open Go.RowKit

/-- Not all are there. -/
def insNo (n : Nat) (p i b : Int) : Bool := !isN n p || !(!decide (i = 0) && isN n i) || (!decide (b = -1) && !isN n b)
theorem ins_nil (w : World) (p i b : Int) : Calls Try.prog 24 #[.pointer none, iv p, iv i, iv b] w (Rd (iv 3) w) := by
  go_enter Try.func24, Try.ntmps24
  go_wp2_with fail
  go_ret
  exact ⟨rfl, rfl⟩
set_option maxHeartbeats 1000000 in
set_option maxRecDepth 10000 in
theorem ins_no {S : Nat → Prop} {w : World} {x g n cn h cs k ce : Nat} {N : List Nd} {P : List Sp} {E : List En} (o : Op3 S w x g n cn h cs k ce N P E) {p i b : Int} (hb : insNo n p i b = true) :
    Calls Try.prog 24 #[ptr x, iv p, iv i, iv b] w (Rd (iv 4) w) := by
  have k1 := has_any o p
  have k2 := movable_of (has_any o i)
  have k3 := has_any o b
  clear o
  cases e1 : isN n p with
  | false =>
    rw [e1] at k1
    clear hb
    go_enter Try.func24, Try.ntmps24
    go_wp2_with fail
    refine k1.mono ?_
    rintro e w' ⟨rfl, rfl⟩
    go_wp2_with fail
    go_ret
    exact ⟨rfl, rfl⟩
  | true =>
    rw [e1] at k1
    cases e2 : (!decide (i = 0) && isN n i) with
    | false =>
      rw [e2] at k2
      clear hb
      go_enter Try.func24, Try.ntmps24
      go_wp2_with fail
      refine k1.mono ?_
      rintro e w' ⟨rfl, rfl⟩
      go_wp2_with fail
      refine k2.mono ?_
      rintro e w' ⟨rfl, rfl⟩
      go_wp2_with fail
      go_ret
      exact ⟨rfl, rfl⟩
    | true =>
      rw [e2] at k2
      have hb1 : ¬ b = -1 := by
        rintro rfl
        simp [insNo, e1, e2] at hb
      have e3 : isN n b = false := by simpa [insNo, e1, e2, hb1] using hb
      rw [e3] at k3
      clear hb
      go_enter Try.func24, Try.ntmps24
      go_wp2_with fail
      refine k1.mono ?_
      rintro e w' ⟨rfl, rfl⟩
      go_wp2_with fail
      refine k2.mono ?_
      rintro e w' ⟨rfl, rfl⟩
      go_wp2_with fail
      refine k3.mono ?_
      rintro e w' ⟨rfl, rfl⟩
      go_wp2_with fail
      go_ret
      exact ⟨rfl, rfl⟩
set_option maxHeartbeats 1000000 in
set_option maxRecDepth 10000 in
/-- It has a parent. -/
theorem ins_in {S : Nat → Prop} {w : World} {x g n cn h cs k ce : Nat} {N : List Nd} {P : List Sp} {E : List En} (o : Op3 S w x g n cn h cs k ce N P E) {p i : Nat} {b : Int} {s : Sp} (hp : p < n) (hi : i < n) (hi0 : i ≠ 0) (hb : b = -1 ∨ isN n b = true) (hs : P[i]? = some s) (hin : s.i = true) :
    Calls Try.prog 24 #[ptr x, iv (p : Int), iv (i : Int), iv b] w (Rd (iv 3) w) := by
  have k1 := has_any o (p : Int)
  have k2 := movable_of (has_any o (i : Int))
  have k3 := has_any o b
  rw [isN_lt hp] at k1
  have hz : decide ((i : Int) = 0) = false := decide_eq_false (by omega)
  rw [isN_lt hi, hz] at k2
  simp only [Bool.not_false, Bool.and_self] at k2
  obtain ⟨_, c1, _⟩ := o.c
  have d0 : w.cell? ⟨h, i * 4, none⟩ = some (.bool true) := by rw [← hin]; exact o.sp (j := 0) hs (by decide)
  have hi2 : (i : Int) < (n : Int) := by omega
  clear o hs hin hz
  by_cases hb1 : b = -1
  · subst hb1
    clear k3
    go_enter Try.func24, Try.ntmps24
    go_wp2_with fail
    refine k1.mono ?_
    rintro e w' ⟨rfl, rfl⟩
    go_wp2_with fail
    refine k2.mono ?_
    rintro e w' ⟨rfl, rfl⟩
    go_wp2_with fail
    go_ret
    exact ⟨rfl, rfl⟩
  · rw [hb.resolve_left hb1] at k3
    go_enter Try.func24, Try.ntmps24
    go_wp2_with fail
    refine k1.mono ?_
    rintro e w' ⟨rfl, rfl⟩
    go_wp2_with fail
    refine k2.mono ?_
    rintro e w' ⟨rfl, rfl⟩
    go_wp2_with fail
    refine k3.mono ?_
    rintro e w' ⟨rfl, rfl⟩
    go_wp2_with fail
    go_ret
    exact ⟨rfl, rfl⟩
set_option maxHeartbeats 1000000 in
set_option maxRecDepth 10000 in
/-- As the last one. -/
theorem ins_last {S : Nat → Prop} {w : World} {x g n cn h cs k ce : Nat} {N : List Nd} {P : List Sp} {E : List En} (o : Op3 S w x g n cn h cs k ce N P E) {p i : Nat} {s : Sp} {d : Nd} {ep : En} (hp : p < n) (hi : i < n) (hi0 : i ≠ 0) (hs : P[i]? = some s) (hin : s.i = false) (hd : N[p]? = some d) (hk : hold d.kind = true) (hw : Calls Try.prog 46 #[ptr x, iv (p : Int), iv (i : Int)] w (Rd (.bool false) w)) (hep : E[p]? = some ep) (hl : ep.l < n) :
    Calls Try.prog 24 #[ptr x, iv (p : Int), iv (i : Int), iv (-1)] w (fun e w' => e = .returned (iv 0) ∧ Op3 S w' x g n cn h cs k ce N (linkS P p i ep.l 0) (linkE E p i ep.l 0) ∧ Keep S w w') := by
  have k1 := has_any o (p : Int)
  have k2 := movable_of (has_any o (i : Int))
  rw [isN_lt hp] at k1
  have hz : decide ((i : Int) = 0) = false := decide_eq_false (by omega)
  rw [isN_lt hi, hz] at k2
  simp only [Bool.not_false, Bool.and_self] at k2
  have k4 := holds_any o hd
  rw [hk] at k4
  have k5 := link_last o hp hi hep hl
  obtain ⟨_, c1, _⟩ := o.c
  have d0 : w.cell? ⟨h, i * 4, none⟩ = some (.bool false) := by rw [← hin]; exact o.sp (j := 0) hs (by decide)
  have hi2 : (i : Int) < (n : Int) := by omega
  clear o hs hin hz hd hep hl hk
  go_enter Try.func24, Try.ntmps24
  go_wp2_with fail
  refine k1.mono ?_
  rintro e w' ⟨rfl, rfl⟩
  go_wp2_with fail
  refine k2.mono ?_
  rintro e w' ⟨rfl, rfl⟩
  go_wp2_with fail
  refine k4.mono ?_
  rintro e w' ⟨rfl, rfl⟩
  go_wp2_with fail
  refine hw.mono ?_
  rintro e w' ⟨rfl, rfl⟩
  go_wp2_with fail
  refine k5.mono ?_
  rintro e w' ⟨rfl, o', kk⟩
  have HZ : Hid (Op3 S w' x g n cn h cs k ce N (linkS P p i ep.l 0) (linkE E p i ep.l 0) ∧ Keep S w' w') := ⟨o', Keep.refl _ _⟩
  clear o'
  go_wp2_with fail
  go_ret
  exact ⟨rfl, HZ.out.1, kk⟩
end Go.Proofs.Ytcdaghlbfclpkaa
