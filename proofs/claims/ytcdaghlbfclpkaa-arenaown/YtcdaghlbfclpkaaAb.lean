/- Small calls that only read: Len, has, movable, holds, wants, Parent. -/
import Derived.Test.YtcdaghlbfclpkaaAa
namespace Go.Proofs.Ytcdaghlbfclpkaa
open Go.RowKit

abbrev ptr (x : Nat) : Value := .pointer (some ⟨x, 0, none⟩)
abbrev iv (i : Int) : Value := .int .i64 i
abbrev Rd (v : Value) (w : World) (e : Ending) (w' : World) : Prop := e = .returned v ∧ w' = w
/-- Is there such a node? -/
def isN (n : Nat) (i : Int) : Bool := decide (i ≥ 0) && decide (i < (n : Int))
theorem isN_nat {n : Nat} {i : Int} (h : isN n i = true) : ∃ j : Nat, i = (j : Int) ∧ j < n := by
  simp [isN] at h
  exact ⟨i.toNat, by omega, by omega⟩
theorem isN_lt {n j : Nat} (h : j < n) : isN n (j : Int) = true := by simp [isN, h]
theorem isN_zero (i : Int) : isN 0 i = false := by simp [isN]

theorem len_any {S : Nat → Prop} {w : World} {x g n cn h cs k ce : Nat} {N : List Nd} {P : List Sp} {E : List En} (o : Op3 S w x g n cn h cs k ce N P E) :
    Calls Try.prog 13 #[ptr x] w (Rd (iv (n : Int)) w) := by
  obtain ⟨c0, _, _⟩ := o.c
  clear o
  go_enter Try.func13, Try.ntmps13
  go_wp2_with fail
  go_ret
  exact ⟨rfl, rfl⟩
theorem len_nil (w : World) : Calls Try.prog 13 #[.pointer none] w (Rd (iv 0) w) := by
  go_enter Try.func13, Try.ntmps13
  go_wp2_with fail
  go_ret
  exact ⟨rfl, rfl⟩
theorem has_of {v : Value} {n : Nat} {w : World} (k : Calls Try.prog 13 #[v] w (Rd (iv (n : Int)) w)) (i : Int) :
    Calls Try.prog 39 #[v, iv i] w (Rd (.bool (isN n i)) w) := by
  by_cases hi : i ≥ 0
  · have hd : decide (i ≥ 0) = true := decide_eq_true hi
    have hb : isN n i = decide (i < (n : Int)) := by simp [isN, hi]
    rw [hb]
    clear hi hb
    go_enter Try.func39, Try.ntmps39
    go_wp2_with fail
    refine k.mono ?_
    rintro e w' ⟨rfl, rfl⟩
    go_wp2_with fail
    go_ret
    exact ⟨rfl, rfl⟩
  · have hd : decide (i ≥ 0) = false := decide_eq_false hi
    have hb : isN n i = false := by simp [isN, hi]
    rw [hb]
    clear hi hb
    go_enter Try.func39, Try.ntmps39
    go_wp2_with fail
    go_ret
    exact ⟨rfl, rfl⟩
theorem has_any {S : Nat → Prop} {w : World} {x g n cn h cs k ce : Nat} {N : List Nd} {P : List Sp} {E : List En} (o : Op3 S w x g n cn h cs k ce N P E) (i : Int) :
    Calls Try.prog 39 #[ptr x, iv i] w (Rd (.bool (isN n i)) w) := has_of (len_any o) i
theorem has_nil (w : World) (i : Int) : Calls Try.prog 39 #[.pointer none, iv i] w (Rd (.bool false) w) := by
  have := has_of (n := 0) (len_nil w) i
  rw [isN_zero] at this
  exact this
theorem movable_of {v : Value} {b : Bool} {w : World} {i : Int} (k : Calls Try.prog 39 #[v, iv i] w (Rd (.bool b) w)) :
    Calls Try.prog 44 #[v, iv i] w (Rd (.bool (!decide (i = 0) && b)) w) := by
  by_cases hi : i = 0
  · subst hi
    go_enter Try.func44, Try.ntmps44
    go_wp2_with fail
    go_ret
    exact ⟨rfl, rfl⟩
  · have hd : decide (i = 0) = false := decide_eq_false hi
    rw [hd]
    go_enter Try.func44, Try.ntmps44
    go_wp2_with fail
    refine k.mono ?_
    rintro e w' ⟨rfl, rfl⟩
    go_wp2_with fail
    go_ret
    exact ⟨by simp [hi], rfl⟩
/-- May it have kids? -/
def hold (kind : Int) : Bool := decide (kind = 0) || decide (kind = 1)
theorem holds_any {S : Nat → Prop} {w : World} {x g n cn h cs k ce : Nat} {N : List Nd} {P : List Sp} {E : List En} (o : Op3 S w x g n cn h cs k ce N P E) {i : Nat} {d : Nd} (hi : N[i]? = some d) :
    Calls Try.prog 45 #[ptr x, iv (i : Int)] w (Rd (.bool (hold d.kind)) w) := by
  obtain ⟨c0, _, _⟩ := o.c
  have c1 : w.cell? ⟨g, i * 11 + 1, none⟩ = some (.int .i64 d.kind) := o.nd hi (by decide)
  have hj : i < n := by rw [← o.nn]; exact (List.getElem?_eq_some_iff.1 hi).1
  have hj2 : (i : Int) < (n : Int) := by omega
  obtain ⟨kd, hk⟩ : ∃ kd, d.kind = kd := ⟨_, rfl⟩
  rw [hk] at c1 ⊢
  clear o hi hk
  by_cases hz : kd = 0
  · subst hz
    go_enter Try.func45, Try.ntmps45
    go_wp2_with fail
    go_ret
    exact ⟨rfl, rfl⟩
  · have hd : decide (kd = 0) = false := decide_eq_false hz
    have hb : hold kd = decide (kd = 1) := by simp [hold, hz]
    rw [hb]
    clear hb
    go_enter Try.func45, Try.ntmps45
    go_wp2_with fail
    go_ret
    refine ⟨?_, rfl⟩
    show Ending.returned (Value.bool (kd == 0 || kd == 1)) = _
    by_cases h1 : kd = 1 <;> simp [hz, h1]
/-- A node's parent as it is told. -/
def parP (P : List Sp) (i : Int) : Int := if 0 ≤ i then match P[i.toNat]? with | some s => if s.i then (s.p : Int) else -1 | none => -1 else -1
theorem parent_any {S : Nat → Prop} {w : World} {x g n cn h cs k ce : Nat} {N : List Nd} {P : List Sp} {E : List En} (o : Op3 S w x g n cn h cs k ce N P E) (i : Int) :
    Calls Try.prog 14 #[ptr x, iv i] w (Rd (iv (parP P i)) w) := by
  have kh := has_any o i
  cases hb : isN n i with
  | false =>
    have hp : parP P i = -1 := by
      unfold parP
      by_cases h0 : 0 ≤ i
      · have : ¬ i < (n : Int) := by simp [isN, h0] at hb; omega
        rw [if_pos h0, List.getElem?_eq_none (by rw [o.v.pl, o.nn]; omega)]
      · rw [if_neg h0]
    rw [hp]
    rw [hb] at kh
    clear o hb hp
    go_enter Try.func14, Try.ntmps14
    go_wp2_with fail
    refine kh.mono ?_
    rintro e w' ⟨rfl, rfl⟩
    go_wp2_with fail
    go_ret
    exact ⟨rfl, rfl⟩
  | true =>
    rw [hb] at kh
    obtain ⟨j, rfl, hj⟩ := isN_nat hb
    obtain ⟨s, hs⟩ : ∃ s, P[j]? = some s := ⟨_, List.getElem?_eq_getElem (by rw [o.v.pl, o.nn]; exact hj)⟩
    obtain ⟨_, c1, _⟩ := o.c
    have d0 : w.cell? ⟨h, j * 4, none⟩ = some (.bool s.i) := o.sp (j := 0) hs (by decide)
    have d1 : w.cell? ⟨h, j * 4 + 1, none⟩ = some (.int .i64 (s.p : Int)) := o.sp (j := 1) hs (by decide)
    have hj2 : (j : Int) < (n : Int) := by omega
    have hp : parP P (j : Int) = if s.i then (s.p : Int) else -1 := by simp [parP, hs]
    rw [hp]
    obtain ⟨si, sp, _, _⟩ := s
    simp only at d0 d1 ⊢
    clear o hb hp hs
    cases si
    · go_enter Try.func14, Try.ntmps14
      go_wp2_with fail
      refine kh.mono ?_
      rintro e w' ⟨rfl, rfl⟩
      go_wp2_with fail
      go_ret
      exact ⟨rfl, rfl⟩
    · go_enter Try.func14, Try.ntmps14
      go_wp2_with fail
      refine kh.mono ?_
      rintro e w' ⟨rfl, rfl⟩
      go_wp2_with fail
      go_ret
      exact ⟨rfl, rfl⟩
end Go.Proofs.Ytcdaghlbfclpkaa
