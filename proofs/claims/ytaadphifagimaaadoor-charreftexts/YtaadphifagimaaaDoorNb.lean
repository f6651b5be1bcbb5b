/- A reference by a number. -/
import Derived.Test.YtaadphifagimaaaDoorCds
import Derived.Deep.DeepCutAuto
namespace Go.Proofs.YtaadphifagimaaaDoor
open Go.RowKit

/-- What is behind the digits' beginning. -/
def numB (k base : Nat) (l : List UInt8) : Int × Nat × List Int :=
  if (digs base (l.drop k)).length = 0 then (0, 0, [20]) else
  if [59].isPrefixOf (l.drop (k + (digs base (l.drop k)).length)) = true then ((chrP (accN base (digs base (l.drop k)))).1, k + (digs base (l.drop k)).length + 1, if (chrP (accN base (digs base (l.drop k)))).2 = 0 then [] else [(chrP (accN base (digs base (l.drop k)))).2])
  else ((chrP (accN base (digs base (l.drop k)))).1, k + (digs base (l.drop k)).length, (if (chrP (accN base (digs base (l.drop k)))).2 = 0 then [] else [(chrP (accN base (digs base (l.drop k)))).2]) ++ [18])
/-- A reference by a number, from its first byte on. -/
def numbP (l : List UInt8) : Int × Nat × List Int := if l[2]? = some 120 ∨ l[2]? = some 88 then numB 3 16 l else numB 2 10 l

/-- What a look for a reference hands back. -/
def Refd (w : World) (k : IntKind) (p : Int × Nat × List Int) (e : Ending) (w' : World) : Prop :=
  ∃ v, e = .returned (.tuple #[.int k p.1, .int .i64 (p.2.1 : Nat), v]) ∧ Cds w' w.heap.size v p.2.2 ∧ Below w.heap.size w w'

theorem digs_le (base : Nat) (l : List UInt8) : (digs base l).length ≤ l.length := (List.takeWhile_sublist _).length_le

theorem Hi.lt {w : World} (H : Hi w) : 0 < w.heap.size := by
  have h := H 0 (by decide)
  by_cases hb : 0 < w.heap.size
  · exact hb
  · rw [World.cell?, show w.heap[(Addr.mk 0 0 none).block]? = none from Array.getElem?_eq_none (by show w.heap.size ≤ 0; omega)] at h; cases h
theorem Hi.below {w w' : World} {B : Nat} (H : Hi w) (b : Below B w w') (hB : 0 < B) : Hi w' := fun i hi => (b.cell (p := ⟨0, i, none⟩) hB).trans (H i hi)

theorem byte_at (s : ByteArray) (i : Nat) (h : i < s.size) (c : UInt8) : s.data.toList[i]? = some c ↔ (s[i].toNat : Int) = c.toNat := by
  rw [at_i s i h]
  constructor
  · intro e; rw [Option.some.inj e]
  · intro e; exact congrArg some (UInt8.toNat_inj.1 (by omega))

set_option maxHeartbeats 400000 in
set_option maxRecDepth 10000 in
theorem nb3_none (s : ByteArray) (w : World) (H : Hi w) (hlt : 2 < s.size) (hx : (s[2].toNat : Int) = 120 ∨ ¬ (s[2].toNat : Int) = 120 ∧ (s[2].toNat : Int) = 88) (hs : s.size ≤ 1000000) (a m : Nat) (hdl : 3 + m ≤ s.size)
    (hn : ∀ w, Calls Tryd.prog 52 #[.string (s.extract 3 s.size), .int .i64 16] w fun e w' => e = .returned (.tuple #[.int .i64 (a : Int), .int .i64 (m : Int)]) ∧ w' = w) (hm0 : m = 0) :
    Calls Tryd.prog 42 #[.string s] w fun e w' => Refd w .i32 (0, 0, [20]) e w' := by
  subst hm0
  rcases hx with hx | ⟨hx, hx'⟩
  rotate_left
  have hx := beq_false_of_ne hx
  all_goals
    go_enter Tryd.func42, Tryd.ntmps42
    go_wp2_with (go_at_call 52; refine (hn _).mono ?_; rintro e w' ⟨rfl, rfl⟩)
    go_ret3
    exact ⟨_, rfl, cds_one _ _ _ (Nat.le_refl _), (Below.refl _ _).alloc (Nat.le_refl _) _⟩

set_option maxHeartbeats 400000 in
set_option maxRecDepth 10000 in
theorem nb3_plain (s : ByteArray) (w : World) (H : Hi w) (hlt : 2 < s.size) (hx : (s[2].toNat : Int) = 120 ∨ ¬ (s[2].toNat : Int) = 120 ∧ (s[2].toNat : Int) = 88) (hs : s.size ≤ 1000000) (a m : Nat) (hdl : 3 + m ≤ s.size)
    (hn : ∀ w, Calls Tryd.prog 52 #[.string (s.extract 3 s.size), .int .i64 16] w fun e w' => e = .returned (.tuple #[.int .i64 (a : Int), .int .i64 (m : Int)]) ∧ w' = w)
    (hm0 : ¬ m = 0) (r c : Int) (hc : ∀ w, Hi w → Calls Tryd.prog 19 #[.int .i64 (a : Int)] w fun e w' => e = .returned (.tuple #[.int .i32 r, .int .i64 c]) ∧ w' = w)
    (sm : Bool) (hpf : ∀ w, Calls Tryd.prog 41 #[.string (s.extract (3 + m) s.size), .string ⟨#[59]⟩] w fun e w' => e = .returned (.bool sm) ∧ w' = w) (hc0 : c = 0) :
    Calls Tryd.prog 42 #[.string s] w fun e w' => Refd w .i32 (if sm = true then (r, 3 + m + 1, []) else (r, 3 + m, [18])) e w' := by
  have HH : Hid (Hi w) := H
  clear H
  subst hc0
  obtain ⟨v1, w1, e1, C1, b1⟩ := cds_app (cds_nil w w.heap.size) 18 (Nat.le_refl _) (by decide)
  have HC : Hid (Cds w1 w.heap.size v1 [18] ∧ Below w.heap.size w w1) := ⟨C1, b1⟩
  clear C1 b1
  rcases hx with hx | ⟨hx, hx'⟩
  rotate_left
  have hx := beq_false_of_ne hx
  all_goals
    cases sm
    · go_enter Tryd.func42, Tryd.ntmps42
      go_wp2_with (first | (go_at_call 52; refine (hn _).mono ?_; rintro e w' ⟨rfl, rfl⟩) | (go_at_call 19; refine (hc _ HH.out).mono ?_; rintro e w' ⟨rfl, rfl⟩) | (go_at_call 41; refine (hpf _).mono ?_; rintro e w' ⟨rfl, rfl⟩) | (at_builtin; refine list_append_eq rfl _ _ 26 26 rfl _ _ rfl rfl e1 ?_))
      go_ret3
      exact ⟨_, rfl, HC.out.1, HC.out.2⟩
    · clear e1
      go_enter Tryd.func42, Tryd.ntmps42
      go_wp2_with (first | (go_at_call 52; refine (hn _).mono ?_; rintro e w' ⟨rfl, rfl⟩) | (go_at_call 19; refine (hc _ HH.out).mono ?_; rintro e w' ⟨rfl, rfl⟩) | (go_at_call 41; refine (hpf _).mono ?_; rintro e w' ⟨rfl, rfl⟩))
      go_ret3
      exact ⟨_, rfl, cds_nil _ _, Below.refl _ _⟩

set_option maxHeartbeats 400000 in
set_option maxRecDepth 10000 in
theorem nb3_bad (s : ByteArray) (w : World) (H : Hi w) (hlt : 2 < s.size) (hx : (s[2].toNat : Int) = 120 ∨ ¬ (s[2].toNat : Int) = 120 ∧ (s[2].toNat : Int) = 88) (hs : s.size ≤ 1000000) (a m : Nat) (hdl : 3 + m ≤ s.size)
    (hn : ∀ w, Calls Tryd.prog 52 #[.string (s.extract 3 s.size), .int .i64 16] w fun e w' => e = .returned (.tuple #[.int .i64 (a : Int), .int .i64 (m : Int)]) ∧ w' = w)
    (hm0 : ¬ m = 0) (r c : Int) (hc : ∀ w, Hi w → Calls Tryd.prog 19 #[.int .i64 (a : Int)] w fun e w' => e = .returned (.tuple #[.int .i32 r, .int .i64 c]) ∧ w' = w)
    (sm : Bool) (hpf : ∀ w, Calls Tryd.prog 41 #[.string (s.extract (3 + m) s.size), .string ⟨#[59]⟩] w fun e w' => e = .returned (.bool sm) ∧ w' = w) (hc0 : ¬ c = 0) :
    Calls Tryd.prog 42 #[.string s] w fun e w' => Refd w .i32 (if sm = true then (r, 3 + m + 1, [c]) else (r, 3 + m, [c, 18])) e w' := by
  have HH : Hid (Hi w) := H
  clear H
  obtain ⟨v1, w1, e1, C1, b1⟩ := cds_app (cds_nil w w.heap.size) c (Nat.le_refl _) (by decide)
  obtain ⟨v2, w2, e2, C2, b2⟩ := cds_app C1 18 b1.size (by simp)
  have HC : Hid ((Cds w1 w.heap.size v1 [c] ∧ Below w.heap.size w w1) ∧ (Cds w2 w.heap.size v2 [c, 18] ∧ Below w.heap.size w w2)) := ⟨⟨C1, b1⟩, ⟨C2, b1.trans b2⟩⟩
  have E2 : Hid ((Builtin.append_ #[26, 26] 26 #[v1, .slice (some ⟨w1.heap.size, 0, none⟩) 1 1]).run Tryd.prog (w1.alloc (.cells #[.int .i64 18] 3)) = .ok v2 w2) := e2
  clear C1 b1 C2 b2 e2
  rcases hx with hx | ⟨hx, hx'⟩
  rotate_left
  have hx := beq_false_of_ne hx
  all_goals
    cases sm
    all_goals
      go_enter Tryd.func42, Tryd.ntmps42
      go_upto_region 11 with (first | (go_at_call 52; refine (hn _).mono ?_; rintro e w' ⟨rfl, rfl⟩) | (go_at_call 19; refine (hc _ HH.out).mono ?_; rintro e w' ⟨rfl, rfl⟩) | (go_at_call 41; refine (hpf _).mono ?_; rintro e w' ⟨rfl, rfl⟩) | (at_builtin; refine list_append_eq rfl _ _ 26 26 rfl _ _ rfl rfl e1 ?_))
      clear e1
    · have e2 := E2.out
      go_wp2_with (first | (go_at_call 52; refine (hn _).mono ?_; rintro e w' ⟨rfl, rfl⟩) | (go_at_call 19; refine (hc _ HH.out).mono ?_; rintro e w' ⟨rfl, rfl⟩) | (go_at_call 41; refine (hpf _).mono ?_; rintro e w' ⟨rfl, rfl⟩) | (at_builtin; refine list_append_eq rfl _ _ 26 26 rfl _ _ rfl rfl e2 ?_))
      go_ret3
      exact ⟨_, rfl, HC.out.2⟩
    · go_wp2_with (first | (go_at_call 52; refine (hn _).mono ?_; rintro e w' ⟨rfl, rfl⟩) | (go_at_call 19; refine (hc _ HH.out).mono ?_; rintro e w' ⟨rfl, rfl⟩) | (go_at_call 41; refine (hpf _).mono ?_; rintro e w' ⟨rfl, rfl⟩))
      go_ret3
      exact ⟨_, rfl, HC.out.1⟩

set_option maxHeartbeats 400000 in
set_option maxRecDepth 10000 in
theorem nb2_none (s : ByteArray) (w : World) (H : Hi w) (hx : s.size = 2 ∨ ∃ hlt : 2 < s.size, ¬ (s[2].toNat : Int) = 120 ∧ ¬ (s[2].toNat : Int) = 88) (hs : s.size ≤ 1000000) (a m : Nat) (hdl : 2 + m ≤ s.size)
    (hn : ∀ w, Calls Tryd.prog 52 #[.string (s.extract 2 s.size), .int .i64 10] w fun e w' => e = .returned (.tuple #[.int .i64 (a : Int), .int .i64 (m : Int)]) ∧ w' = w) (hm0 : m = 0) :
    Calls Tryd.prog 42 #[.string s] w fun e w' => Refd w .i32 (0, 0, [20]) e w' := by
  subst hm0
  rcases hx with hx | ⟨hlt, hx, hx'⟩
  rw [hx, show s.extract 2 2 = ByteArray.empty by simp] at hn
  rotate_left
  have hx := beq_false_of_ne hx
  have hx' := beq_false_of_ne hx'
  all_goals
    go_enter Tryd.func42, Tryd.ntmps42
    go_wp2_with (go_at_call 52; refine (hn _).mono ?_; rintro e w' ⟨rfl, rfl⟩)
    go_ret3
    exact ⟨_, rfl, cds_one _ _ _ (Nat.le_refl _), (Below.refl _ _).alloc (Nat.le_refl _) _⟩

set_option maxHeartbeats 400000 in
set_option maxRecDepth 10000 in
theorem nb2_plain (s : ByteArray) (w : World) (H : Hi w) (hx : s.size = 2 ∨ ∃ hlt : 2 < s.size, ¬ (s[2].toNat : Int) = 120 ∧ ¬ (s[2].toNat : Int) = 88) (hs : s.size ≤ 1000000) (a m : Nat) (hdl : 2 + m ≤ s.size)
    (hn : ∀ w, Calls Tryd.prog 52 #[.string (s.extract 2 s.size), .int .i64 10] w fun e w' => e = .returned (.tuple #[.int .i64 (a : Int), .int .i64 (m : Int)]) ∧ w' = w)
    (hm0 : ¬ m = 0) (r c : Int) (hc : ∀ w, Hi w → Calls Tryd.prog 19 #[.int .i64 (a : Int)] w fun e w' => e = .returned (.tuple #[.int .i32 r, .int .i64 c]) ∧ w' = w)
    (sm : Bool) (hpf : ∀ w, Calls Tryd.prog 41 #[.string (s.extract (2 + m) s.size), .string ⟨#[59]⟩] w fun e w' => e = .returned (.bool sm) ∧ w' = w) (hc0 : c = 0) :
    Calls Tryd.prog 42 #[.string s] w fun e w' => Refd w .i32 (if sm = true then (r, 2 + m + 1, []) else (r, 2 + m, [18])) e w' := by
  have HH : Hid (Hi w) := H
  clear H
  subst hc0
  obtain ⟨v1, w1, e1, C1, b1⟩ := cds_app (cds_nil w w.heap.size) 18 (Nat.le_refl _) (by decide)
  have HC : Hid (Cds w1 w.heap.size v1 [18] ∧ Below w.heap.size w w1) := ⟨C1, b1⟩
  clear C1 b1
  rcases hx with hx | ⟨hlt, hx, hx'⟩
  · exfalso; omega
  have hx := beq_false_of_ne hx
  have hx' := beq_false_of_ne hx'
  all_goals
    cases sm
    · go_enter Tryd.func42, Tryd.ntmps42
      go_wp2_with (first | (go_at_call 52; refine (hn _).mono ?_; rintro e w' ⟨rfl, rfl⟩) | (go_at_call 19; refine (hc _ HH.out).mono ?_; rintro e w' ⟨rfl, rfl⟩) | (go_at_call 41; refine (hpf _).mono ?_; rintro e w' ⟨rfl, rfl⟩) | (at_builtin; refine list_append_eq rfl _ _ 26 26 rfl _ _ rfl rfl e1 ?_))
      go_ret3
      exact ⟨_, rfl, HC.out.1, HC.out.2⟩
    · clear e1
      go_enter Tryd.func42, Tryd.ntmps42
      go_wp2_with (first | (go_at_call 52; refine (hn _).mono ?_; rintro e w' ⟨rfl, rfl⟩) | (go_at_call 19; refine (hc _ HH.out).mono ?_; rintro e w' ⟨rfl, rfl⟩) | (go_at_call 41; refine (hpf _).mono ?_; rintro e w' ⟨rfl, rfl⟩))
      go_ret3
      exact ⟨_, rfl, cds_nil _ _, Below.refl _ _⟩

set_option maxHeartbeats 400000 in
set_option maxRecDepth 10000 in
theorem nb2_bad (s : ByteArray) (w : World) (H : Hi w) (hx : s.size = 2 ∨ ∃ hlt : 2 < s.size, ¬ (s[2].toNat : Int) = 120 ∧ ¬ (s[2].toNat : Int) = 88) (hs : s.size ≤ 1000000) (a m : Nat) (hdl : 2 + m ≤ s.size)
    (hn : ∀ w, Calls Tryd.prog 52 #[.string (s.extract 2 s.size), .int .i64 10] w fun e w' => e = .returned (.tuple #[.int .i64 (a : Int), .int .i64 (m : Int)]) ∧ w' = w)
    (hm0 : ¬ m = 0) (r c : Int) (hc : ∀ w, Hi w → Calls Tryd.prog 19 #[.int .i64 (a : Int)] w fun e w' => e = .returned (.tuple #[.int .i32 r, .int .i64 c]) ∧ w' = w)
    (sm : Bool) (hpf : ∀ w, Calls Tryd.prog 41 #[.string (s.extract (2 + m) s.size), .string ⟨#[59]⟩] w fun e w' => e = .returned (.bool sm) ∧ w' = w) (hc0 : ¬ c = 0) :
    Calls Tryd.prog 42 #[.string s] w fun e w' => Refd w .i32 (if sm = true then (r, 2 + m + 1, [c]) else (r, 2 + m, [c, 18])) e w' := by
  have HH : Hid (Hi w) := H
  clear H
  obtain ⟨v1, w1, e1, C1, b1⟩ := cds_app (cds_nil w w.heap.size) c (Nat.le_refl _) (by decide)
  obtain ⟨v2, w2, e2, C2, b2⟩ := cds_app C1 18 b1.size (by simp)
  have HC : Hid ((Cds w1 w.heap.size v1 [c] ∧ Below w.heap.size w w1) ∧ (Cds w2 w.heap.size v2 [c, 18] ∧ Below w.heap.size w w2)) := ⟨⟨C1, b1⟩, ⟨C2, b1.trans b2⟩⟩
  have E2 : Hid ((Builtin.append_ #[26, 26] 26 #[v1, .slice (some ⟨w1.heap.size, 0, none⟩) 1 1]).run Tryd.prog (w1.alloc (.cells #[.int .i64 18] 3)) = .ok v2 w2) := e2
  clear C1 b1 C2 b2 e2
  rcases hx with hx | ⟨hlt, hx, hx'⟩
  · exfalso; omega
  have hx := beq_false_of_ne hx
  have hx' := beq_false_of_ne hx'
  all_goals
    cases sm
    all_goals
      go_enter Tryd.func42, Tryd.ntmps42
      go_upto_region 11 with (first | (go_at_call 52; refine (hn _).mono ?_; rintro e w' ⟨rfl, rfl⟩) | (go_at_call 19; refine (hc _ HH.out).mono ?_; rintro e w' ⟨rfl, rfl⟩) | (go_at_call 41; refine (hpf _).mono ?_; rintro e w' ⟨rfl, rfl⟩) | (at_builtin; refine list_append_eq rfl _ _ 26 26 rfl _ _ rfl rfl e1 ?_))
      clear e1
    · have e2 := E2.out
      go_wp2_with (first | (go_at_call 52; refine (hn _).mono ?_; rintro e w' ⟨rfl, rfl⟩) | (go_at_call 19; refine (hc _ HH.out).mono ?_; rintro e w' ⟨rfl, rfl⟩) | (go_at_call 41; refine (hpf _).mono ?_; rintro e w' ⟨rfl, rfl⟩) | (at_builtin; refine list_append_eq rfl _ _ 26 26 rfl _ _ rfl rfl e2 ?_))
      go_ret3
      exact ⟨_, rfl, HC.out.2⟩
    · go_wp2_with (first | (go_at_call 52; refine (hn _).mono ?_; rintro e w' ⟨rfl, rfl⟩) | (go_at_call 19; refine (hc _ HH.out).mono ?_; rintro e w' ⟨rfl, rfl⟩) | (go_at_call 41; refine (hpf _).mono ?_; rintro e w' ⟨rfl, rfl⟩))
      go_ret3
      exact ⟨_, rfl, HC.out.1⟩


theorem numbered_any (s : ByteArray) (w : World) (H : Hi w) (h2 : 2 ≤ s.size) (hs : s.size ≤ 1000000) :
    Calls Tryd.prog 42 #[.string s] w fun e w' => Refd w .i32 (numbP s.data.toList) e w' := by
  have hlen : s.data.toList.length = s.size := Array.length_toList
  have hn : ∀ (k base : Nat), base ≤ 16 → ∀ w, Calls Tryd.prog 52 #[.string (s.extract k s.size), .int .i64 (base : Int)] w fun e w' => e = .returned (.tuple #[.int .i64 (accN base (digs base (s.data.toList.drop k)) : Nat), .int .i64 ((digs base (s.data.toList.drop k)).length : Nat)]) ∧ w' = w := by
    intro k base hb w
    have := pnumber_any (s.extract k s.size) base w (by simp only [ByteArray.size_extract]; omega) hb
    rw [bytes_drop] at this
    exact this
  have hdl : ∀ k base, k ≤ s.size → k + (digs base (s.data.toList.drop k)).length ≤ s.size := fun k base hk => by
    have h1 := digs_le base (s.data.toList.drop k)
    rw [List.length_drop, hlen] at h1
    omega
  have hpf : ∀ k w, Calls Tryd.prog 41 #[.string (s.extract k s.size), .string ⟨#[59]⟩] w fun e w' => e = .returned (.bool ([59].isPrefixOf (s.data.toList.drop k))) ∧ w' = w := fun k w => by
    have := strings_HasPrefix (s.extract k s.size) ⟨#[59]⟩ w
    rw [bytes_drop] at this
    exact this
  have hcc : ∀ base k, ∀ w, Hi w → Calls Tryd.prog 19 #[.int .i64 ((accN base (digs base (s.data.toList.drop k)) : Nat) : Int)] w fun e w' => e = .returned (.tuple #[.int .i32 (chrP (accN base (digs base (s.data.toList.drop k)) : Nat)).1, .int .i64 (chrP (accN base (digs base (s.data.toList.drop k)) : Nat)).2]) ∧ w' = w := fun base k w H => by
    have := accN_le base (digs base (s.data.toList.drop k))
    exact character_any _ w H (by omega)
  by_cases hx : ∃ hlt : 2 < s.size, (s[2].toNat : Int) = 120 ∨ ¬ (s[2].toNat : Int) = 120 ∧ (s[2].toNat : Int) = 88
  · obtain ⟨hlt, hx⟩ := hx
    have hP : numbP s.data.toList = numB 3 16 s.data.toList := by
      unfold numbP
      rw [if_pos]
      rcases hx with a | ⟨_, a⟩
      · exact .inl ((byte_at s 2 hlt 120).2 a)
      · exact .inr ((byte_at s 2 hlt 88).2 a)
    rw [hP]
    unfold numB
    by_cases hm0 : (digs 16 (s.data.toList.drop 3)).length = 0
    · rw [if_pos hm0]
      exact nb3_none s w H hlt hx hs _ _ (hdl 3 16 hlt) (hn 3 16 (by decide)) hm0
    · rw [if_neg hm0]
      by_cases hc0 : (chrP (accN 16 (digs 16 (s.data.toList.drop 3)) : Nat)).2 = 0
      · have := nb3_plain s w H hlt hx hs _ _ (hdl 3 16 hlt) (hn 3 16 (by decide)) hm0 _ _ (hcc 16 3) _ (hpf _) hc0
        rw [if_pos hc0]
        exact this
      · have := nb3_bad s w H hlt hx hs _ _ (hdl 3 16 hlt) (hn 3 16 (by decide)) hm0 _ _ (hcc 16 3) _ (hpf _) hc0
        rw [if_neg hc0]
        exact this
  · have hx : s.size = 2 ∨ ∃ hlt : 2 < s.size, ¬ (s[2].toNat : Int) = 120 ∧ ¬ (s[2].toNat : Int) = 88 := by
      by_cases hlt : 2 < s.size
      · refine .inr ⟨hlt, fun a => hx ⟨hlt, .inl a⟩, fun b => hx ⟨hlt, ?_⟩⟩
        by_cases a : (s[2].toNat : Int) = 120
        · exact .inl a
        · exact .inr ⟨a, b⟩
      · exact .inl (by omega)
    have hP : numbP s.data.toList = numB 2 10 s.data.toList := by
      unfold numbP
      rw [if_neg]
      rcases hx with a | ⟨hlt, a, b⟩
      · have : s.data.toList[2]? = none := List.getElem?_eq_none (by omega)
        rw [this]; simp
      · rw [byte_at s 2 hlt 120, byte_at s 2 hlt 88]
        rintro (e | e)
        · exact a e
        · exact b e
    rw [hP]
    unfold numB
    by_cases hm0 : (digs 10 (s.data.toList.drop 2)).length = 0
    · rw [if_pos hm0]
      exact nb2_none s w H hx hs _ _ (hdl 2 10 h2) (hn 2 10 (by decide)) hm0
    · rw [if_neg hm0]
      by_cases hc0 : (chrP (accN 10 (digs 10 (s.data.toList.drop 2)) : Nat)).2 = 0
      · have := nb2_plain s w H hx hs _ _ (hdl 2 10 h2) (hn 2 10 (by decide)) hm0 _ _ (hcc 10 2) _ (hpf _) hc0
        rw [if_pos hc0]
        exact this
      · have := nb2_bad s w H hx hs _ _ (hdl 2 10 h2) (hn 2 10 (by decide)) hm0 _ _ (hcc 10 2) _ (hpf _) hc0
        rw [if_neg hc0]
        exact this
end Go.Proofs.YtaadphifagimaaaDoor
