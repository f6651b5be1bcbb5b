/- A reference by a number. -/
import Derived.Test.YtdiealijjhfhjaaGreatDoorZc2
import Derived.Deep.DeepCutAuto
import Derived.Test.YtdiealijjhfhjaaGreatDoorZa
namespace Go.Proofs.YtdiealijjhfhjaaGreatDoor.G6
open Go.RowKit
def numB (k base : Nat) (l : List UInt8) : Int × Nat × List Int :=
  if (digs base (l.drop k)).length = 0 then (0, 0, [20]) else
  if [59].isPrefixOf (l.drop (k + (digs base (l.drop k)).length)) = true then ((chrP (accN base (digs base (l.drop k)))).1, k + (digs base (l.drop k)).length + 1, if (chrP (accN base (digs base (l.drop k)))).2 = 0 then [] else [(chrP (accN base (digs base (l.drop k)))).2])
  else ((chrP (accN base (digs base (l.drop k)))).1, k + (digs base (l.drop k)).length, (if (chrP (accN base (digs base (l.drop k)))).2 = 0 then [] else [(chrP (accN base (digs base (l.drop k)))).2]) ++ [18])
def numbP (l : List UInt8) : Int × Nat × List Int := if l[2]? = some 120 ∨ l[2]? = some 88 then numB 3 16 l else numB 2 10 l
def Refd (w : World) (k : IntKind) (p : Int × Nat × List Int) (e : Ending) (w' : World) : Prop :=
  ∃ v, e = .returned (.tuple #[.int k p.1, .int .i64 (p.2.1 : Nat), v]) ∧ Cds w' w.heap.size v p.2.2 ∧ Below w.heap.size w w'
theorem digs_le (base : Nat) (l : List UInt8) : (digs base l).length ≤ l.length := (List.takeWhile_sublist _).length_le
theorem Hi.lt {w : World} (H : Hi w) : 1 < w.heap.size := by
  have h := H 0 (by decide)
  by_cases hb : 1 < w.heap.size
  · exact hb
  · rw [World.cell?, show w.heap[(Addr.mk 1 0 none).block]? = none from Array.getElem?_eq_none (by show w.heap.size ≤ 1; omega)] at h; cases h
theorem Hi.below {w w' : World} {B : Nat} (H : Hi w) (b : Below B w w') (hB : 1 < B) : Hi w' := fun i hi => (b.cell (p := ⟨1, i, none⟩) hB).trans (H i hi)
theorem byte_at (s : ByteArray) (i : Nat) (h : i < s.size) (c : UInt8) : s.data.toList[i]? = some c ↔ (s[i].toNat : Int) = c.toNat := by
  rw [at_i s i h]
  constructor
  · intro e; rw [Option.some.inj e]
  · intro e; exact congrArg some (UInt8.toNat_inj.1 (by omega))
set_option maxHeartbeats 400000 in
set_option maxRecDepth 10000 in
theorem nb3_none (s : ByteArray) (w : World) (H : Hi w) (hlt : 2 < s.size) (hx : (s[2].toNat : Int) = 120 ∨ ¬ (s[2].toNat : Int) = 120 ∧ (s[2].toNat : Int) = 88) (hs : s.size ≤ 1000000) (a m : Nat) (hdl : 3 + m ≤ s.size)
    (hn : ∀ w, Calls Tryz.prog 190 #[.string (s.extract 3 s.size), .int .i64 16] w fun e w' => e = .returned (.tuple #[.int .i64 (a : Int), .int .i64 (m : Int)]) ∧ w' = w) (hm0 : m = 0) :
    Calls Tryz.prog 159 #[.string s] w fun e w' => Refd w .i32 (0, 0, [20]) e w' := by
  subst hm0
  rcases hx with hx | ⟨hx, hx'⟩
  rotate_left
  have hx := beq_false_of_ne hx
  all_goals
    go_enter Tryz.func159, Tryz.ntmps159
    go_wp2_with (go_at_call 190; refine (hn _).mono ?_; rintro e w' ⟨rfl, rfl⟩)
    go_ret3
    exact ⟨_, rfl, cds_one _ _ _ (Nat.le_refl _), (Below.refl _ _).alloc (Nat.le_refl _) _⟩
set_option maxHeartbeats 400000 in
set_option maxRecDepth 10000 in
theorem nb3_plain (s : ByteArray) (w : World) (H : Hi w) (hlt : 2 < s.size) (hx : (s[2].toNat : Int) = 120 ∨ ¬ (s[2].toNat : Int) = 120 ∧ (s[2].toNat : Int) = 88) (hs : s.size ≤ 1000000) (a m : Nat) (hdl : 3 + m ≤ s.size)
    (hn : ∀ w, Calls Tryz.prog 190 #[.string (s.extract 3 s.size), .int .i64 16] w fun e w' => e = .returned (.tuple #[.int .i64 (a : Int), .int .i64 (m : Int)]) ∧ w' = w)
    (hm0 : ¬ m = 0) (r c : Int) (hc : ∀ w, Hi w → Calls Tryz.prog 191 #[.int .i64 (a : Int)] w fun e w' => e = .returned (.tuple #[.int .i32 r, .int .i64 c]) ∧ w' = w)
    (sm : Bool) (hpf : ∀ w, Calls Tryz.prog 158 #[.string (s.extract (3 + m) s.size), .string ⟨#[59]⟩] w fun e w' => e = .returned (.bool sm) ∧ w' = w) (hc0 : c = 0) :
    Calls Tryz.prog 159 #[.string s] w fun e w' => Refd w .i32 (if sm = true then (r, 3 + m + 1, []) else (r, 3 + m, [18])) e w' := by
  have HH : Hid (Hi w) := H
  clear H
  subst hc0
  obtain ⟨v1, w1, e1, C1, b1⟩ := cds_app (cds_nil w w.heap.size) 18 (Nat.le_refl _) (by decide)
  have HC : Hid (Cds w1 w.heap.size v1 [18] ∧ Below w.heap.size w w1) := ⟨C1, b1⟩
  clear C1 b1
  rcases hx with hx | ⟨hx, hx'⟩
  rotate_left
  have hx := beq_false_of_ne hx
  all_goals
    cases sm
    · go_enter Tryz.func159, Tryz.ntmps159
      go_wp2_with (first | (go_at_call 190; refine (hn _).mono ?_; rintro e w' ⟨rfl, rfl⟩) | (go_at_call 191; refine (hc _ HH.out).mono ?_; rintro e w' ⟨rfl, rfl⟩) | (go_at_call 158; refine (hpf _).mono ?_; rintro e w' ⟨rfl, rfl⟩) | (at_builtin; refine list_append_eq rfl _ _ 121 121 rfl _ _ rfl rfl e1 ?_))
      go_ret3
      exact ⟨_, rfl, HC.out.1, HC.out.2⟩
    · clear e1
      go_enter Tryz.func159, Tryz.ntmps159
      go_wp2_with (first | (go_at_call 190; refine (hn _).mono ?_; rintro e w' ⟨rfl, rfl⟩) | (go_at_call 191; refine (hc _ HH.out).mono ?_; rintro e w' ⟨rfl, rfl⟩) | (go_at_call 158; refine (hpf _).mono ?_; rintro e w' ⟨rfl, rfl⟩))
      go_ret3
      exact ⟨_, rfl, cds_nil _ _, Below.refl _ _⟩
set_option maxHeartbeats 400000 in
set_option maxRecDepth 10000 in
theorem nb3_bad (s : ByteArray) (w : World) (H : Hi w) (hlt : 2 < s.size) (hx : (s[2].toNat : Int) = 120 ∨ ¬ (s[2].toNat : Int) = 120 ∧ (s[2].toNat : Int) = 88) (hs : s.size ≤ 1000000) (a m : Nat) (hdl : 3 + m ≤ s.size)
    (hn : ∀ w, Calls Tryz.prog 190 #[.string (s.extract 3 s.size), .int .i64 16] w fun e w' => e = .returned (.tuple #[.int .i64 (a : Int), .int .i64 (m : Int)]) ∧ w' = w)
    (hm0 : ¬ m = 0) (r c : Int) (hc : ∀ w, Hi w → Calls Tryz.prog 191 #[.int .i64 (a : Int)] w fun e w' => e = .returned (.tuple #[.int .i32 r, .int .i64 c]) ∧ w' = w)
    (sm : Bool) (hpf : ∀ w, Calls Tryz.prog 158 #[.string (s.extract (3 + m) s.size), .string ⟨#[59]⟩] w fun e w' => e = .returned (.bool sm) ∧ w' = w) (hc0 : ¬ c = 0) :
    Calls Tryz.prog 159 #[.string s] w fun e w' => Refd w .i32 (if sm = true then (r, 3 + m + 1, [c]) else (r, 3 + m, [c, 18])) e w' := by
  have HH : Hid (Hi w) := H
  clear H
  obtain ⟨v1, w1, e1, C1, b1⟩ := cds_app (cds_nil w w.heap.size) c (Nat.le_refl _) (by decide)
  obtain ⟨v2, w2, e2, C2, b2⟩ := cds_app C1 18 b1.size (by simp)
  have HC : Hid ((Cds w1 w.heap.size v1 [c] ∧ Below w.heap.size w w1) ∧ (Cds w2 w.heap.size v2 [c, 18] ∧ Below w.heap.size w w2)) := ⟨⟨C1, b1⟩, ⟨C2, b1.trans b2⟩⟩
  have E2 : Hid ((Builtin.append_ #[121, 121] 121 #[v1, .slice (some ⟨w1.heap.size, 0, none⟩) 1 1]).run Tryz.prog (w1.alloc (.cells #[.int .i64 18] 3)) = .ok v2 w2) := e2
  clear C1 b1 C2 b2 e2
  rcases hx with hx | ⟨hx, hx'⟩
  rotate_left
  have hx := beq_false_of_ne hx
  all_goals
    cases sm
    all_goals
      go_enter Tryz.func159, Tryz.ntmps159
      go_upto_region 11 with (first | (go_at_call 190; refine (hn _).mono ?_; rintro e w' ⟨rfl, rfl⟩) | (go_at_call 191; refine (hc _ HH.out).mono ?_; rintro e w' ⟨rfl, rfl⟩) | (go_at_call 158; refine (hpf _).mono ?_; rintro e w' ⟨rfl, rfl⟩) | (at_builtin; refine list_append_eq rfl _ _ 121 121 rfl _ _ rfl rfl e1 ?_))
      clear e1
    · have e2 := E2.out
      go_wp2_with (first | (go_at_call 190; refine (hn _).mono ?_; rintro e w' ⟨rfl, rfl⟩) | (go_at_call 191; refine (hc _ HH.out).mono ?_; rintro e w' ⟨rfl, rfl⟩) | (go_at_call 158; refine (hpf _).mono ?_; rintro e w' ⟨rfl, rfl⟩) | (at_builtin; refine list_append_eq rfl _ _ 121 121 rfl _ _ rfl rfl e2 ?_))
      go_ret3
      exact ⟨_, rfl, HC.out.2⟩
    · go_wp2_with (first | (go_at_call 190; refine (hn _).mono ?_; rintro e w' ⟨rfl, rfl⟩) | (go_at_call 191; refine (hc _ HH.out).mono ?_; rintro e w' ⟨rfl, rfl⟩) | (go_at_call 158; refine (hpf _).mono ?_; rintro e w' ⟨rfl, rfl⟩))
      go_ret3
      exact ⟨_, rfl, HC.out.1⟩
set_option maxHeartbeats 400000 in
set_option maxRecDepth 10000 in
theorem nb2_none (s : ByteArray) (w : World) (H : Hi w) (hx : s.size = 2 ∨ ∃ hlt : 2 < s.size, ¬ (s[2].toNat : Int) = 120 ∧ ¬ (s[2].toNat : Int) = 88) (hs : s.size ≤ 1000000) (a m : Nat) (hdl : 2 + m ≤ s.size)
    (hn : ∀ w, Calls Tryz.prog 190 #[.string (s.extract 2 s.size), .int .i64 10] w fun e w' => e = .returned (.tuple #[.int .i64 (a : Int), .int .i64 (m : Int)]) ∧ w' = w) (hm0 : m = 0) :
    Calls Tryz.prog 159 #[.string s] w fun e w' => Refd w .i32 (0, 0, [20]) e w' := by
  subst hm0
  rcases hx with hx | ⟨hlt, hx, hx'⟩
  rw [hx, show s.extract 2 2 = ByteArray.empty by simp] at hn
  rotate_left
  have hx := beq_false_of_ne hx
  have hx' := beq_false_of_ne hx'
  all_goals
    go_enter Tryz.func159, Tryz.ntmps159
    go_wp2_with (go_at_call 190; refine (hn _).mono ?_; rintro e w' ⟨rfl, rfl⟩)
    go_ret3
    exact ⟨_, rfl, cds_one _ _ _ (Nat.le_refl _), (Below.refl _ _).alloc (Nat.le_refl _) _⟩
set_option maxHeartbeats 400000 in
set_option maxRecDepth 10000 in
theorem nb2_plain (s : ByteArray) (w : World) (H : Hi w) (hx : s.size = 2 ∨ ∃ hlt : 2 < s.size, ¬ (s[2].toNat : Int) = 120 ∧ ¬ (s[2].toNat : Int) = 88) (hs : s.size ≤ 1000000) (a m : Nat) (hdl : 2 + m ≤ s.size)
    (hn : ∀ w, Calls Tryz.prog 190 #[.string (s.extract 2 s.size), .int .i64 10] w fun e w' => e = .returned (.tuple #[.int .i64 (a : Int), .int .i64 (m : Int)]) ∧ w' = w)
    (hm0 : ¬ m = 0) (r c : Int) (hc : ∀ w, Hi w → Calls Tryz.prog 191 #[.int .i64 (a : Int)] w fun e w' => e = .returned (.tuple #[.int .i32 r, .int .i64 c]) ∧ w' = w)
    (sm : Bool) (hpf : ∀ w, Calls Tryz.prog 158 #[.string (s.extract (2 + m) s.size), .string ⟨#[59]⟩] w fun e w' => e = .returned (.bool sm) ∧ w' = w) (hc0 : c = 0) :
    Calls Tryz.prog 159 #[.string s] w fun e w' => Refd w .i32 (if sm = true then (r, 2 + m + 1, []) else (r, 2 + m, [18])) e w' := by
  have HH : Hid (Hi w) := H
  clear H
  subst hc0
  obtain ⟨v1, w1, e1, C1, b1⟩ := cds_app (cds_nil w w.heap.size) 18 (Nat.le_refl _) (by decide)
  have HC : Hid (Cds w1 w.heap.size v1 [18] ∧ Below w.heap.size w w1) := ⟨C1, b1⟩
  clear C1 b1
  rcases hx with hx | ⟨hlt, hx, hx'⟩
  · exfalso; omega
  have hx := beq_false_of_ne hx
  have hx' := beq_false_of_ne hx'
  all_goals
    cases sm
    · go_enter Tryz.func159, Tryz.ntmps159
      go_wp2_with (first | (go_at_call 190; refine (hn _).mono ?_; rintro e w' ⟨rfl, rfl⟩) | (go_at_call 191; refine (hc _ HH.out).mono ?_; rintro e w' ⟨rfl, rfl⟩) | (go_at_call 158; refine (hpf _).mono ?_; rintro e w' ⟨rfl, rfl⟩) | (at_builtin; refine list_append_eq rfl _ _ 121 121 rfl _ _ rfl rfl e1 ?_))
      go_ret3
      exact ⟨_, rfl, HC.out.1, HC.out.2⟩
    · clear e1
      go_enter Tryz.func159, Tryz.ntmps159
      go_wp2_with (first | (go_at_call 190; refine (hn _).mono ?_; rintro e w' ⟨rfl, rfl⟩) | (go_at_call 191; refine (hc _ HH.out).mono ?_; rintro e w' ⟨rfl, rfl⟩) | (go_at_call 158; refine (hpf _).mono ?_; rintro e w' ⟨rfl, rfl⟩))
      go_ret3
      exact ⟨_, rfl, cds_nil _ _, Below.refl _ _⟩
set_option maxHeartbeats 400000 in
set_option maxRecDepth 10000 in
theorem nb2_bad (s : ByteArray) (w : World) (H : Hi w) (hx : s.size = 2 ∨ ∃ hlt : 2 < s.size, ¬ (s[2].toNat : Int) = 120 ∧ ¬ (s[2].toNat : Int) = 88) (hs : s.size ≤ 1000000) (a m : Nat) (hdl : 2 + m ≤ s.size)
    (hn : ∀ w, Calls Tryz.prog 190 #[.string (s.extract 2 s.size), .int .i64 10] w fun e w' => e = .returned (.tuple #[.int .i64 (a : Int), .int .i64 (m : Int)]) ∧ w' = w)
    (hm0 : ¬ m = 0) (r c : Int) (hc : ∀ w, Hi w → Calls Tryz.prog 191 #[.int .i64 (a : Int)] w fun e w' => e = .returned (.tuple #[.int .i32 r, .int .i64 c]) ∧ w' = w)
    (sm : Bool) (hpf : ∀ w, Calls Tryz.prog 158 #[.string (s.extract (2 + m) s.size), .string ⟨#[59]⟩] w fun e w' => e = .returned (.bool sm) ∧ w' = w) (hc0 : ¬ c = 0) :
    Calls Tryz.prog 159 #[.string s] w fun e w' => Refd w .i32 (if sm = true then (r, 2 + m + 1, [c]) else (r, 2 + m, [c, 18])) e w' := by
  have HH : Hid (Hi w) := H
  clear H
  obtain ⟨v1, w1, e1, C1, b1⟩ := cds_app (cds_nil w w.heap.size) c (Nat.le_refl _) (by decide)
  obtain ⟨v2, w2, e2, C2, b2⟩ := cds_app C1 18 b1.size (by simp)
  have HC : Hid ((Cds w1 w.heap.size v1 [c] ∧ Below w.heap.size w w1) ∧ (Cds w2 w.heap.size v2 [c, 18] ∧ Below w.heap.size w w2)) := ⟨⟨C1, b1⟩, ⟨C2, b1.trans b2⟩⟩
  have E2 : Hid ((Builtin.append_ #[121, 121] 121 #[v1, .slice (some ⟨w1.heap.size, 0, none⟩) 1 1]).run Tryz.prog (w1.alloc (.cells #[.int .i64 18] 3)) = .ok v2 w2) := e2
  clear C1 b1 C2 b2 e2
  rcases hx with hx | ⟨hlt, hx, hx'⟩
  · exfalso; omega
  have hx := beq_false_of_ne hx
  have hx' := beq_false_of_ne hx'
  all_goals
    cases sm
    all_goals
      go_enter Tryz.func159, Tryz.ntmps159
      go_upto_region 11 with (first | (go_at_call 190; refine (hn _).mono ?_; rintro e w' ⟨rfl, rfl⟩) | (go_at_call 191; refine (hc _ HH.out).mono ?_; rintro e w' ⟨rfl, rfl⟩) | (go_at_call 158; refine (hpf _).mono ?_; rintro e w' ⟨rfl, rfl⟩) | (at_builtin; refine list_append_eq rfl _ _ 121 121 rfl _ _ rfl rfl e1 ?_))
      clear e1
    · have e2 := E2.out
      go_wp2_with (first | (go_at_call 190; refine (hn _).mono ?_; rintro e w' ⟨rfl, rfl⟩) | (go_at_call 191; refine (hc _ HH.out).mono ?_; rintro e w' ⟨rfl, rfl⟩) | (go_at_call 158; refine (hpf _).mono ?_; rintro e w' ⟨rfl, rfl⟩) | (at_builtin; refine list_append_eq rfl _ _ 121 121 rfl _ _ rfl rfl e2 ?_))
      go_ret3
      exact ⟨_, rfl, HC.out.2⟩
    · go_wp2_with (first | (go_at_call 190; refine (hn _).mono ?_; rintro e w' ⟨rfl, rfl⟩) | (go_at_call 191; refine (hc _ HH.out).mono ?_; rintro e w' ⟨rfl, rfl⟩) | (go_at_call 158; refine (hpf _).mono ?_; rintro e w' ⟨rfl, rfl⟩))
      go_ret3
      exact ⟨_, rfl, HC.out.1⟩
theorem numbered_any (s : ByteArray) (w : World) (H : Hi w) (h2 : 2 ≤ s.size) (hs : s.size ≤ 1000000) :
    Calls Tryz.prog 159 #[.string s] w fun e w' => Refd w .i32 (numbP s.data.toList) e w' := by
  have hlen : s.data.toList.length = s.size := Array.length_toList
  have hn : ∀ (k base : Nat), base ≤ 16 → ∀ w, Calls Tryz.prog 190 #[.string (s.extract k s.size), .int .i64 (base : Int)] w fun e w' => e = .returned (.tuple #[.int .i64 (accN base (digs base (s.data.toList.drop k)) : Nat), .int .i64 ((digs base (s.data.toList.drop k)).length : Nat)]) ∧ w' = w := by
    intro k base hb w
    have := pnumber_any (s.extract k s.size) base w (by simp only [ByteArray.size_extract]; omega) hb
    rw [bytes_drop] at this
    exact this
  have hdl : ∀ k base, k ≤ s.size → k + (digs base (s.data.toList.drop k)).length ≤ s.size := fun k base hk => by
    have h1 := digs_le base (s.data.toList.drop k)
    rw [List.length_drop, hlen] at h1
    omega
  have hpf : ∀ k w, Calls Tryz.prog 158 #[.string (s.extract k s.size), .string ⟨#[59]⟩] w fun e w' => e = .returned (.bool ([59].isPrefixOf (s.data.toList.drop k))) ∧ w' = w := fun k w => by
    have := strings_HasPrefix (s.extract k s.size) ⟨#[59]⟩ w
    rw [bytes_drop] at this
    exact this
  have hcc : ∀ base k, ∀ w, Hi w → Calls Tryz.prog 191 #[.int .i64 ((accN base (digs base (s.data.toList.drop k)) : Nat) : Int)] w fun e w' => e = .returned (.tuple #[.int .i32 (chrP (accN base (digs base (s.data.toList.drop k)) : Nat)).1, .int .i64 (chrP (accN base (digs base (s.data.toList.drop k)) : Nat)).2]) ∧ w' = w := fun base k w H => by
    have := accN_le base (digs base (s.data.toList.drop k))
    exact character_any _ w H (by omega)
  by_cases hx : ∃ hlt : 2 < s.size, (s[2].toNat : Int) = 120 ∨ ¬ (s[2].toNat : Int) = 120 ∧ (s[2].toNat : Int) = 88
  · obtain ⟨hlt, hx⟩ := hx
    have hP : numbP s.data.toList = numB 3 16 s.data.toList := by
      unfold numbP
      rw [if_pos]
      rcases hx with a | ⟨_, a⟩
      · exact .inl ((byte_at s 2 hlt 120).2 a)
      · exact .inr ((byte_at s 2 hlt 88).2 a)
    rw [hP]
    unfold numB
    by_cases hm0 : (digs 16 (s.data.toList.drop 3)).length = 0
    · rw [if_pos hm0]
      exact nb3_none s w H hlt hx hs _ _ (hdl 3 16 hlt) (hn 3 16 (by decide)) hm0
    · rw [if_neg hm0]
      by_cases hc0 : (chrP (accN 16 (digs 16 (s.data.toList.drop 3)) : Nat)).2 = 0
      · have := nb3_plain s w H hlt hx hs _ _ (hdl 3 16 hlt) (hn 3 16 (by decide)) hm0 _ _ (hcc 16 3) _ (hpf _) hc0
        rw [if_pos hc0]
        exact this
      · have := nb3_bad s w H hlt hx hs _ _ (hdl 3 16 hlt) (hn 3 16 (by decide)) hm0 _ _ (hcc 16 3) _ (hpf _) hc0
        rw [if_neg hc0]
        exact this
  · have hx : s.size = 2 ∨ ∃ hlt : 2 < s.size, ¬ (s[2].toNat : Int) = 120 ∧ ¬ (s[2].toNat : Int) = 88 := by
      by_cases hlt : 2 < s.size
      · refine .inr ⟨hlt, fun a => hx ⟨hlt, .inl a⟩, fun b => hx ⟨hlt, ?_⟩⟩
        by_cases a : (s[2].toNat : Int) = 120
        · exact .inl a
        · exact .inr ⟨a, b⟩
      · exact .inl (by omega)
    have hP : numbP s.data.toList = numB 2 10 s.data.toList := by
      unfold numbP
      rw [if_neg]
      rcases hx with a | ⟨hlt, a, b⟩
      · have : s.data.toList[2]? = none := List.getElem?_eq_none (by omega)
        rw [this]; simp
      · rw [byte_at s 2 hlt 120, byte_at s 2 hlt 88]
        rintro (e | e)
        · exact a e
        · exact b e
    rw [hP]
    unfold numB
    by_cases hm0 : (digs 10 (s.data.toList.drop 2)).length = 0
    · rw [if_pos hm0]
      exact nb2_none s w H hx hs _ _ (hdl 2 10 h2) (hn 2 10 (by decide)) hm0
    · rw [if_neg hm0]
      by_cases hc0 : (chrP (accN 10 (digs 10 (s.data.toList.drop 2)) : Nat)).2 = 0
      · have := nb2_plain s w H hx hs _ _ (hdl 2 10 h2) (hn 2 10 (by decide)) hm0 _ _ (hcc 10 2) _ (hpf _) hc0
        rw [if_pos hc0]
        exact this
      · have := nb2_bad s w H hx hs _ _ (hdl 2 10 h2) (hn 2 10 (by decide)) hm0 _ _ (hcc 10 2) _ (hpf _) hc0
        rw [if_neg hc0]
        exact this
end Go.Proofs.YtdiealijjhfhjaaGreatDoor.G6
namespace Go.Proofs.YtdiealijjhfhjaaGreatDoor.G6
open Go.RowKit
def wordyP (b : Nat) : Bool := decide ((97 ≤ b ∧ b ≤ 122) ∨ (65 ≤ b ∧ b ≤ 90) ∨ (48 ≤ b ∧ b ≤ 57))
def goesOnP (l : List UInt8) : Bool := match l with
  | [] => false
  | b :: _ => b.toNat == 61 || wordyP b.toNat
def begC (L : List Rf) (l : List UInt8) (n : Nat) : Bool := match l[n]? with
  | some b => wordyP b.toNat && goes L (l.take (n + 1))
  | none => false
def begF (L : List Rf) (l : List UInt8) : Nat → Nat → Nat
  | 0, n => n
  | f + 1, n => if begC L l n = true then begF L l f (n + 1) else n
def begN (L : List Rf) (l : List UInt8) : Nat := begF L l l.length 0
def begunP (L : List Rf) (l : List UInt8) : Bool := decide (0 < begN L l) && [59].isPrefixOf (l.drop (begN L l))
def namedP (L : List Rf) (attr : Bool) (l : List UInt8) : Int × Nat × List Int :=
  if (best L l l.length).2 = 0 then (if begunP L l = true then (0, 0, [19]) else (0, 0, []))
  else if l[(best L l l.length).2 - 1]? = some 59 then ((best L l l.length).1, 1 + (best L l l.length).2, [])
  else if (attr && goesOnP (l.drop (best L l l.length).2)) = true then (0, 0, [])
  else ((best L l l.length).1, 1 + (best L l l.length).2, [18])
def TrieV (w : World) (B : Nat) (tv : Value) (L : List Rf) : Prop := (tv = .pointer none ∧ L = []) ∨ ∃ t, tv = .pointer (some ⟨t, 0, none⟩) ∧ TrieIs w B t L
theorem TrieV.below {w w' : World} {B : Nat} {tv : Value} {L : List Rf} (T : TrieV w B tv L) (b : Below w.heap.size w w') : TrieV w' B tv L := by
  rcases T with h | ⟨t, h1, h2⟩
  · exact .inl h
  · exact .inr ⟨t, h1, h2.below b⟩
theorem best_nil (s : Path) (k : Nat) : best [] s k = (0, 0) := by
  induction k with
  | zero => rfl
  | succ k ih => rw [best]; exact ih
theorem longest_v {w : World} {B : Nat} {tv : Value} {L : List Rf} (T : TrieV w B tv L) (s : ByteArray) (hs : s.size ≤ 9223372036854775807) :
    Calls Tryz.prog 192 #[tv, .string s] w fun e w' => e = .returned (.tuple #[.int .i64 (best L s.data.toList s.size).1, .int .i64 ((best L s.data.toList s.size).2 : Nat)]) ∧ Below w.heap.size w w' := by
  rcases T with ⟨rfl, rfl⟩ | ⟨t, rfl, T⟩
  · rw [best_nil]
    exact (longest_nil s w).mono fun e w' h => ⟨h.1, by rw [h.2]; exact Below.refl _ _⟩
  · exact longest_any T s hs
theorem goes_v {w : World} {B : Nat} {tv : Value} {L : List Rf} (T : TrieV w B tv L) (s : ByteArray) (hs : s.size ≤ 9223372036854775807) :
    Calls Tryz.prog 188 #[tv, .string s] w fun e w' => e = .returned (.bool (goes L s.data.toList)) ∧ Below w.heap.size w w' := by
  rcases T with ⟨rfl, rfl⟩ | ⟨t, rfl, T⟩
  · exact (goes_nil s w).mono fun e w' h => ⟨h.1, by rw [h.2]; exact Below.refl _ _⟩
  · exact goes_any T s hs
set_option maxHeartbeats 1000000 in
theorem wordy_any (b : Nat) (w : World) : Calls Tryz.prog 215 #[.int .u8 (b : Int)] w fun e w' => e = .returned (.bool (wordyP b)) ∧ w' = w := by
  go_enter Tryz.func215, Tryz.ntmps215
  go_wp2
  all_goals
    go_ret
    refine ⟨ret_bool ?_, rfl⟩
    unfold wordyP
    first | (symm; apply decide_eq_true; omega) | (symm; apply decide_eq_false; omega) | (rw [Bool.eq_iff_iff]; simp; omega)
theorem empty_of_size (s : ByteArray) (h : s.size = 0) : s = ByteArray.empty := by
  apply ByteArray.ext
  exact Array.eq_empty_of_size_eq_zero h
set_option maxHeartbeats 1000000 in
theorem goesOn_any (s : ByteArray) (w : World) : Calls Tryz.prog 194 #[.string s] w fun e w' => e = .returned (.bool (goesOnP s.data.toList)) ∧ w' = w := by
  by_cases h0 : s.size = 0
  · have := empty_of_size s h0
    subst this
    go_enter Tryz.func194, Tryz.ntmps194
    go_wp2
    go_ret
    exact ⟨rfl, rfl⟩
  · have hlt : 0 < s.size := by omega
    have hl : s.data.toList = s[0] :: s.data.toList.drop 1 := by
      have h2 : 0 < s.data.toList.length := by rw [Array.length_toList]; exact hlt
      have := List.drop_eq_getElem_cons h2
      rw [List.drop_zero] at this
      exact this
    have HP : Hid (goesOnP s.data.toList = ((s[0].toNat : Int) == 61 || wordyP s[0].toNat)) := by
      show goesOnP s.data.toList = _
      rw [hl]
      show (s[0].toNat == 61 || _) = _
      congr 1
      rw [Bool.eq_iff_iff]; simp; omega
    have hw := wordy_any s[0].toNat
    have hne : s.toList.isEmpty = false := by rw [ByteArray.toList_eq, hl]; rfl
    have hne2 : ¬ s.toList = [] := by rw [ByteArray.toList_eq, hl]; simp
    clear hl
    obtain ⟨b, hb⟩ : ∃ b, wordyP s[0].toNat = b := ⟨_, rfl⟩
    rw [hb] at HP hw
    clear hb
    cases he : ((s[0].toNat : Int) == 61)
    · go_enter Tryz.func194, Tryz.ntmps194
      go_wp2_with (go_at_call 215; refine (hw _).mono ?_; rintro e w' ⟨rfl, rfl⟩)
      go_ret
      rw [HP.out]
      exact ⟨by simp [he], rfl⟩
    · go_enter Tryz.func194, Tryz.ntmps194
      go_wp2_with (go_at_call 215; refine (hw _).mono ?_; rintro e w' ⟨rfl, rfl⟩)
      go_ret
      rw [HP.out]
      exact ⟨by simp [he], rfl⟩
theorem begF_step {L : List Rf} {l : List UInt8} {n : Nat} (h : begC L l n = true) : begF L l (l.length - n) n = begF L l (l.length - (n + 1)) (n + 1) := by
  have hn : n < l.length := by
    by_cases hn : n < l.length
    · exact hn
    · unfold begC at h; rw [List.getElem?_eq_none (by omega)] at h; cases h
  obtain ⟨f, hf⟩ : ∃ f, l.length - n = f + 1 := ⟨l.length - n - 1, by omega⟩
  rw [hf, begF, if_pos h, show l.length - (n + 1) = f by omega]
theorem begF_stop {L : List Rf} {l : List UInt8} {n : Nat} (h : begC L l n = false) (f : Nat) : begF L l f n = n := by
  cases f with
  | zero => rfl
  | succ f => rw [begF, h]; rfl
theorem extract_take (s : ByteArray) (k : Nat) : (s.extract 0 k).data.toList = s.data.toList.take k := by
  simp [ByteArray.data_extract]
set_option maxHeartbeats 1000000 in
set_option maxRecDepth 10000 in
theorem begun_any {w : World} {B : Nat} {tv : Value} {L : List Rf} (T : TrieV w B tv L) (s : ByteArray) (hs : s.size ≤ 1000000) :
    Calls Tryz.prog 193 #[.string s, tv] w fun e w' => e = .returned (.bool (begunP L s.data.toList)) ∧ Below w.heap.size w w' := by
  have HT : Hid (TrieV w B tv L) := T
  have hlen : s.data.toList.length = s.size := Array.length_toList
  have HL : Hid (s.data.toList.length = s.size) := hlen
  clear T hlen
  go_enter Tryz.func193, Tryz.ntmps193
  go_wp2_with fail
  go_loopw [5] (fun nv wr => ∃ (n : Nat), nv = .int .i64 n ∧ n ≤ s.size ∧ Below w.heap.size w wr ∧ begF L s.data.toList (s.data.toList.length - n) n = begN L s.data.toList) (fun nv _ => s.size - (intOf nv).toNat)
  case atStart => exact ⟨0, rfl, Nat.zero_le _, Below.refl _ _, rfl⟩
  case round =>
    obtain ⟨n, rfl, hn, hbl, hbg⟩ := hrel
    have HB : Hid (Below w.heap.size w wr ∧ begF L s.data.toList (s.data.toList.length - n) n = begN L s.data.toList) := ⟨hbl, hbg⟩
    clear hbl hbg
    have Hend : Hid (begC L s.data.toList n = false → begN L s.data.toList = n) := fun h => by
      have h2 := HB.out.2
      rw [begF_stop h] at h2
      exact h2.symm
    have hpf := fun w => strings_HasPrefix (s.extract n s.size) ⟨#[59]⟩ w
    rw [bytes_drop] at hpf
    have HPf : Hid (∀ w, Calls Tryz.prog 158 #[.string (s.extract n s.size), .string ⟨#[59]⟩] w fun e w' => e = .returned (.bool ([59].isPrefixOf (s.data.toList.drop n))) ∧ w' = w) := hpf
    clear hpf
    have last : Hid (begC L s.data.toList n = false → begunP L s.data.toList = (decide (0 < (n : Int)) && [59].isPrefixOf (s.data.toList.drop n))) := fun h => by
      unfold begunP
      rw [Hend.out h]
      congr 1
      rw [Bool.eq_iff_iff]; simp
    obtain ⟨sm, hsm⟩ : ∃ sm, [59].isPrefixOf (s.data.toList.drop n) = sm := ⟨_, rfl⟩
    rw [hsm] at HPf last
    clear hsm
    have hpf := HPf.out
    clear HPf Hend
    by_cases hlt : n < s.size
    · have hwd := wordy_any s[n].toNat
      have HC : Hid (begC L s.data.toList n = (wordyP s[n].toNat && goes L (s.data.toList.take (n + 1)))) := by
        show begC L s.data.toList n = _
        unfold begC
        rw [at_i s n hlt]
      obtain ⟨wd, hwd2⟩ : ∃ wd, wordyP s[n].toNat = wd := ⟨_, rfl⟩
      rw [hwd2] at hwd HC
      clear hwd2
      cases wd
      · have hl := last.out (by rw [HC.out]; rfl)
        have HLs : Hid (begunP L s.data.toList = (decide (0 < (n : Int)) && sm)) := hl
        clear hl last
        by_cases hn0 : 0 < (n : Int)
        · go_wp2_with (first | (go_at_call 215; refine (hwd _).mono ?_; rintro e w' ⟨rfl, rfl⟩) | (go_at_call 158; refine (hpf _).mono ?_; rintro e w' ⟨rfl, rfl⟩))
          go_ret
          rw [HLs.out]
          exact ⟨by cases sm <;> simp <;> omega, HB.out.1⟩
        · go_wp2_with (first | (go_at_call 215; refine (hwd _).mono ?_; rintro e w' ⟨rfl, rfl⟩) | (go_at_call 158; refine (hpf _).mono ?_; rintro e w' ⟨rfl, rfl⟩))
          go_ret
          rw [HLs.out]
          exact ⟨by cases sm <;> simp <;> omega, HB.out.1⟩
      · have hg := goes_v (HT.out.below HB.out.1) (s.extract 0 (n + 1)) (by simp only [ByteArray.size_extract]; omega)
        rw [extract_take] at hg
        obtain ⟨g, hgg⟩ : ∃ g, goes L (s.data.toList.take (n + 1)) = g := ⟨_, rfl⟩
        rw [hgg] at hg HC
        clear hgg
        cases g
        · have hl := last.out (by rw [HC.out]; rfl)
          have HLs : Hid (begunP L s.data.toList = (decide (0 < (n : Int)) && sm)) := hl
          clear hl last
          by_cases hn0 : 0 < (n : Int)
          · go_wp2_with (first | (go_at_call 215; refine (hwd _).mono ?_; rintro e w' ⟨rfl, rfl⟩) | (go_at_call 188; refine hg.mono ?_; rintro e w1 ⟨rfl, hb⟩; have HB2 : Hid _ := hb; clear hb) | (go_at_call 158; refine (hpf _).mono ?_; rintro e w' ⟨rfl, rfl⟩))
            go_ret
            rw [HLs.out]
            exact ⟨by cases sm <;> simp <;> omega, HB.out.1.trans (HB2.out.mono HB.out.1.size)⟩
          · go_wp2_with (first | (go_at_call 215; refine (hwd _).mono ?_; rintro e w' ⟨rfl, rfl⟩) | (go_at_call 188; refine hg.mono ?_; rintro e w1 ⟨rfl, hb⟩; have HB2 : Hid _ := hb; clear hb) | (go_at_call 158; refine (hpf _).mono ?_; rintro e w' ⟨rfl, rfl⟩))
            go_ret
            rw [HLs.out]
            exact ⟨by cases sm <;> simp <;> omega, HB.out.1.trans (HB2.out.mono HB.out.1.size)⟩
        · clear last
          go_wp2_with (first | (go_at_call 215; refine (hwd _).mono ?_; rintro e w' ⟨rfl, rfl⟩) | (go_at_call 188; refine hg.mono ?_; rintro e w1 ⟨rfl, hb⟩; have HB2 : Hid _ := hb; clear hb))
          refine ⟨⟨n + 1, by go_num, by omega, HB.out.1.trans (HB2.out.mono HB.out.1.size), ?_⟩, by simp [intOf]; omega⟩
          rw [← HB.out.2]
          exact (begF_step (by rw [HC.out]; rfl)).symm
    · have hie : n = s.size := by omega
      subst hie
      have hl := last.out (by unfold begC; rw [List.getElem?_eq_none (by rw [HL.out]; exact Nat.le_refl _)])
      have HLs : Hid (begunP L s.data.toList = (decide (0 < (s.size : Int)) && sm)) := hl
      clear hl last
      rw [show s.extract s.size s.size = ByteArray.empty by simp] at hpf
      by_cases hn0 : 0 < (s.size : Int)
      · go_wp2_with (first | (go_at_call 158; refine (hpf _).mono ?_; rintro e w' ⟨rfl, rfl⟩))
        go_ret
        rw [HLs.out]
        exact ⟨by cases sm <;> simp <;> omega, HB.out.1⟩
      · go_wp2_with (first | (go_at_call 158; refine (hpf _).mono ?_; rintro e w' ⟨rfl, rfl⟩))
        go_ret
        rw [HLs.out]
        exact ⟨by rw [decide_eq_false (show ¬ 0 < (s.size : Int) by omega)]; rfl, HB.out.1⟩
end Go.Proofs.YtdiealijjhfhjaaGreatDoor.G6
namespace Go.Proofs.YtdiealijjhfhjaaGreatDoor.G6
open Go.RowKit
def Fine (L : List Rf) : Prop := ∀ x ∈ L, 0 < x.r ∧ x.r ≤ 1114111
theorem val_mem {L : List Rf} {p : Path} {v : Int} (h : val L p = some v) : ∃ x ∈ L, x.r = v := by
  induction L with
  | nil => cases h
  | cons x L ih =>
    simp only [val] at h
    split at h
    · exact ⟨x, by simp, by simpa using h⟩
    · obtain ⟨y, h1, h2⟩ := ih h
      exact ⟨y, by simp [h1], h2⟩
theorem best_fine {L : List Rf} (F : Fine L) (s : Path) (k : Nat) : 0 ≤ (best L s k).1 ∧ (best L s k).1 ≤ 1114111 := by
  induction k with
  | zero => simp [best]
  | succ k ih =>
    unfold best
    split
    · rename_i r hr
      obtain ⟨x, h1, h2⟩ := val_mem hr
      have := F x h1
      show 0 ≤ r ∧ r ≤ 1114111
      omega
    · exact ih
def refP (L : List Rf) (attr : Bool) (l : List UInt8) : Int × Nat × List Int :=
  if [38, 35].isPrefixOf l = true then numbP l
  else if [38].isPrefixOf l = true then namedP L attr (l.drop 1)
  else (0, 0, [])
set_option maxHeartbeats 1000000 in
set_option maxRecDepth 10000 in
theorem named_any {w : World} {B : Nat} {tv : Value} {L : List Rf} (T : TrieV w B tv L) (F : Fine L) (s : ByteArray) (attr : Bool) (h1 : 1 ≤ s.size) (hs : s.size ≤ 1000000) :
    Calls Tryz.prog 160 #[.string s, .bool attr, tv] w fun e w' => Refd w .i32 (namedP L attr (s.data.toList.drop 1)) e w' := by
  have hlen : s.data.toList.length = s.size := Array.length_toList
  have hsz : (s.extract 1 s.size).size = s.size - 1 := by simp [ByteArray.size_extract]
  have hd := bytes_drop s 1
  obtain ⟨q, hq⟩ : ∃ q, s.extract 1 s.size = q := ⟨_, rfl⟩
  rw [hq] at hsz hd
  rw [← hd]
  have hqs : q.size ≤ 1000000 := by omega
  have hql : q.data.toList.length = q.size := Array.length_toList
  clear hd hlen hsz
  have hlg := longest_v T q (by omega)
  have hble := best_le L q.data.toList q.size
  have hbf := best_fine F q.data.toList q.size
  have HT : Hid (TrieV w B tv L) := T
  have hbg : ∀ w', TrieV w' B tv L → Calls Tryz.prog 193 #[.string q, tv] w' fun e w'' => e = .returned (.bool (begunP L q.data.toList)) ∧ Below w'.heap.size w' w'' := fun w' T' => begun_any T' q hqs
  unfold namedP
  rw [hql]
  obtain ⟨bt, hbt⟩ : ∃ bt, best L q.data.toList q.size = bt := ⟨_, rfl⟩
  rw [hbt] at hlg hble hbf ⊢
  obtain ⟨r, z⟩ := bt
  simp only at hlg hble hbf ⊢
  have hgo : ∀ w', Calls Tryz.prog 194 #[.string (q.extract z q.size)] w' fun e w'' => e = .returned (.bool (goesOnP (q.data.toList.drop z))) ∧ w'' = w' := fun w' => by
    have := goesOn_any (q.extract z q.size) w'
    rw [bytes_drop] at this
    exact this
  obtain ⟨bg, hbgg⟩ : ∃ bg, begunP L q.data.toList = bg := ⟨_, rfl⟩
  rw [hbgg] at hbg ⊢
  obtain ⟨gn, hgn⟩ : ∃ gn, goesOnP (q.data.toList.drop z) = gn := ⟨_, rfl⟩
  rw [hgn] at hgo ⊢
  clear hbt hbgg T hql hgn F
  obtain ⟨hbf0, hbf1⟩ := hbf
  by_cases hz : z = 0
  · subst hz
    rw [if_pos rfl]
    clear hgo
    cases bg
    · go_enter Tryz.func160, Tryz.ntmps160
      go_wp2_with (first | (go_at_call 192; refine hlg.mono ?_; rintro e w1 ⟨rfl, b1⟩; have HB1 : Hid _ := b1; have hb2 := hbg _ (HT.out.below b1); clear b1) | (go_at_call 193; refine hb2.mono ?_; rintro e w2 ⟨rfl, b2⟩; have HB2 : Hid _ := b2; clear b2) | (go_at_call 194; refine (hgo _).mono ?_; rintro e w3 ⟨rfl, rfl⟩))
      go_ret3
      exact ⟨_, rfl, cds_nil _ _, HB1.out.trans (HB2.out.mono HB1.out.size)⟩
    · go_enter Tryz.func160, Tryz.ntmps160
      go_wp2_with (first | (go_at_call 192; refine hlg.mono ?_; rintro e w1 ⟨rfl, b1⟩; have HB1 : Hid _ := b1; have hb2 := hbg _ (HT.out.below b1); clear b1) | (go_at_call 193; refine hb2.mono ?_; rintro e w2 ⟨rfl, b2⟩; have HB2 : Hid _ := b2; clear b2) | (go_at_call 194; refine (hgo _).mono ?_; rintro e w3 ⟨rfl, rfl⟩))
      go_ret3
      have hb := HB1.out.trans (HB2.out.mono HB1.out.size)
      exact ⟨_, rfl, cds_one _ _ _ hb.size, hb.alloc hb.size _⟩
  · rw [if_neg hz]
    clear hbg
    have hbg : ∀ w', TrieV w' B tv L → True := fun _ _ => trivial
    have hzl : z - 1 < q.size := by omega
    obtain ⟨y, rfl⟩ : ∃ y, z = y + 1 := ⟨z - 1, by omega⟩
    have hyl : y < q.size := by omega
    rw [show y + 1 - 1 = y from rfl]
    have hba := byte_at q y hyl 59
    by_cases h59 : (q[y].toNat : Int) = (59 : UInt8).toNat
    · rw [if_pos (hba.2 h59)]
      clear hba
      have h59' : (q[y].toNat : Int) = 59 := h59
      clear h59
      go_enter Tryz.func160, Tryz.ntmps160
      go_wp2_with (first | (go_at_call 192; refine hlg.mono ?_; rintro e w1 ⟨rfl, b1⟩; have HB1 : Hid _ := b1; have hb2 := hbg _ (HT.out.below b1); clear b1) | (go_at_call 193; refine hb2.mono ?_; rintro e w2 ⟨rfl, b2⟩; have HB2 : Hid _ := b2; clear b2) | (go_at_call 194; refine (hgo _).mono ?_; rintro e w3 ⟨rfl, rfl⟩))
      go_ret3
      refine ⟨_, ?_, cds_nil _ _, HB1.out⟩
      simp
      try omega
    · rw [if_neg (fun c => h59 (hba.1 c))]
      clear hba
      have h59' : ((q[y].toNat : Int) == 59) = false := beq_false_of_ne h59
      clear h59
      cases attr
      · rw [Bool.false_and, if_neg (by simp)]
        go_enter Tryz.func160, Tryz.ntmps160
        go_wp2_with (first | (go_at_call 192; refine hlg.mono ?_; rintro e w1 ⟨rfl, b1⟩; have HB1 : Hid _ := b1; have hb2 := hbg _ (HT.out.below b1); clear b1) | (go_at_call 193; refine hb2.mono ?_; rintro e w2 ⟨rfl, b2⟩; have HB2 : Hid _ := b2; clear b2) | (go_at_call 194; refine (hgo _).mono ?_; rintro e w3 ⟨rfl, rfl⟩))
        go_ret3
        refine ⟨_, ?_, cds_one _ _ _ HB1.out.size, HB1.out.alloc HB1.out.size _⟩
        simp
        try omega
      · cases gn
        · rw [Bool.true_and, if_neg (by simp)]
          go_enter Tryz.func160, Tryz.ntmps160
          go_wp2_with (first | (go_at_call 192; refine hlg.mono ?_; rintro e w1 ⟨rfl, b1⟩; have HB1 : Hid _ := b1; have hb2 := hbg _ (HT.out.below b1); clear b1) | (go_at_call 193; refine hb2.mono ?_; rintro e w2 ⟨rfl, b2⟩; have HB2 : Hid _ := b2; clear b2) | (go_at_call 194; refine (hgo _).mono ?_; rintro e w3 ⟨rfl, rfl⟩))
          go_ret3
          refine ⟨_, ?_, cds_one _ _ _ HB1.out.size, HB1.out.alloc HB1.out.size _⟩
          simp
          try omega
        · rw [Bool.true_and, if_pos rfl]
          go_enter Tryz.func160, Tryz.ntmps160
          go_wp2_with (first | (go_at_call 192; refine hlg.mono ?_; rintro e w1 ⟨rfl, b1⟩; have HB1 : Hid _ := b1; have hb2 := hbg _ (HT.out.below b1); clear b1) | (go_at_call 193; refine hb2.mono ?_; rintro e w2 ⟨rfl, b2⟩; have HB2 : Hid _ := b2; clear b2) | (go_at_call 194; refine (hgo _).mono ?_; rintro e w3 ⟨rfl, rfl⟩))
          go_ret3
          exact ⟨_, rfl, cds_nil _ _, HB1.out⟩
end Go.Proofs.YtdiealijjhfhjaaGreatDoor.G6
