/- The document's Decode. -/
import Derived.Test.YtkbakbacomidbaaProg
import Derived.BigQuiet
import Derived.BigRegion
import Derived.Deep.DeepCutAuto
import Derived.Deep.QuietTactic
import Derived.Deep.RegionHeld3
import Derived.Deep.RegionLaw
import Derived.Maps.AppendAt
import Derived.ScopeJumps
import Derived.WalkKit
import Derived.WalkLawsBesides
import Derived.WalkMore
import Derived.WalkSpells
import Derived.Test.YtkbakbacomidbaaZc
namespace Go.Proofs.Ytkbakbacomidbaa.G4
open Go.RowKit
theorem info37 : (Try.prog.info? 62).map (fun i => (i.zero, i.size, i.bytes)) = some (some (.agg #[.int .i64 0, .int .i64 0, .int .i64 0]), 3, 24) := by kernel_rfl
theorem info58 : (Try.prog.info? 64).map (fun i => (i.zero, i.size, i.bytes)) = some (some (.agg #[.int .i64 0, .int .i64 0]), 2, 16) := by kernel_rfl
def Ch.cells (c : Ch) : List Value := [.int .i64 c.r, .int .i64 c.a, .int .i64 c.z]
def fcells (p : Int) : List Value := [.int .i64 1, .int .i64 p]
theorem own_form {w : World} {B e s n : Nat} {v : Value} {xs : List Value} (h : w.ownsRow B e s v n xs) : ∃ ao c, v = .slice ao n c ∧ n ≤ c ∧ c ≤ maxLen := by
  rcases h.2 with ⟨hv, h0⟩ | ⟨g, cap, cur, hv, _, _, h1, h2, _⟩
  · exact ⟨none, 0, by rw [hv, h0], by omega, by unfold maxLen; omega⟩
  · exact ⟨_, _, hv, h1, h2⟩
theorem own_base {w : World} {B C e s n : Nat} {v : Value} {xs : List Value} (h : w.ownsRow B e s v n xs) (hC : C ≤ B) : w.ownsRow C e s v n xs := by
  refine ⟨h.1, ?_⟩
  rcases h.2 with hn | ⟨g, cap, cur, hv, hb, rest⟩
  · exact .inl hn
  · exact .inr ⟨g, cap, cur, hv, by omega, rest⟩
/-- A row stands where its block does. -/
theorem own_same {w w' : World} {B e s n : Nat} {v : Value} {xs : List Value} (h : w.ownsRow B e s v n xs) (k : ∀ g cur m, B ≤ g → w.heap[g]? = some (.cells cur e m) → w'.heap[g]? = some (.cells cur e m)) : w'.ownsRow B e s v n xs := by
  refine ⟨h.1, ?_⟩
  rcases h.2 with hn | ⟨g, cap, cur, hv, hb, hg, rest⟩
  · exact .inl hn
  · exact .inr ⟨g, cap, cur, hv, hb, k g cur (0, 0) hb hg, rest⟩
theorem own_below {w w' : World} {B e s n : Nat} {v : Value} {xs : List Value} (h : w.ownsRow B e s v n xs) (b : Below w.heap.size w w') : w'.ownsRow B e s v n xs :=
  own_same h fun g _ _ _ hg => (b.block g (Array.getElem?_eq_some_iff.1 hg).1).trans hg
theorem wraps_i64 (n : Int) (h₀ : 0 ≤ n) (h₁ : n < 2 ^ 63) : IntKind.i64.wrap n = n := by rw [IntKind.wrap_i64]; omega
theorem i64_or6 (x y : Int) (h0 : 0 ≤ x) (h1 : x ≤ 1000000000000) (hx : x % 64 = 0) (h2 : 0 ≤ y) (h3 : y < 64) : bits .or .i64 x y = x + y :=
  bits_join .i64 63 (by decide) wraps_i64 6 x y h0 hx (by omega) h2 (by omega) (by omega)
theorem byte_lt (b : UInt8) : (b.toNat : Int) < 256 := by have := UInt8.toNat_lt b; omega
theorem add6_eq (x : Int) (b : UInt8) (h0 : 0 ≤ x) (h1 : x ≤ 1000000000) : bits .or .i64 (x * 64) (wrap64 (bits .and .u8 (b.toNat : Nat) 63)) = add6 x b := by
  have hb := byte_lt b
  rw [u8_and63 _ (by omega) hb, show wrap64 ((b.toNat : Int) % 64) = (b.toNat : Int) % 64 by unfold wrap64; omega, i64_or6 _ _ (by omega) (by omega) (by omega) (by omega) (by omega)]
  unfold add6; omega
theorem ret_bool {a b : Bool} (h : a = b) : Ending.returned (.bool a) = .returned (.bool b) := by rw [h]
theorem ret_int {a b : Int} (h : a = b) : Ending.returned (.int .i64 a) = .returned (.int .i64 b) := by rw [h]
set_option maxHeartbeats 400000 in
set_option maxRecDepth 10000 in
theorem need_any (b : UInt8) (w : World) : Calls Try.prog 52 #[.int .u8 (b.toNat : Nat)] w fun e w' => e = .returned (.int .i64 (need b.toNat : Nat)) ∧ w' = w := by
  have hb := UInt8.toNat_lt b
  obtain ⟨n, hn⟩ : ∃ n, b.toNat = n := ⟨_, rfl⟩
  rw [hn] at hb ⊢
  clear hn
  go_enter Try.func52, Try.ntmps52
  go_wp2
  all_goals
    go_ret
    refine ⟨?_, rfl⟩
    unfold need
    repeat' split
    all_goals first | rfl | (exfalso; omega)
def secB (a c : Nat) : Bool := decide (lo2 a ≤ c ∧ c ≤ hi2 a)
set_option maxHeartbeats 400000 in
theorem second_any (a c : UInt8) (w : World) : Calls Try.prog 53 #[.int .u8 (a.toNat : Nat), .int .u8 (c.toNat : Nat)] w fun e w' => e = .returned (.bool (secB a.toNat c.toNat)) ∧ w' = w := by
  have ha := UInt8.toNat_lt a
  have hc := UInt8.toNat_lt c
  obtain ⟨n, hn⟩ : ∃ n, a.toNat = n := ⟨_, rfl⟩
  obtain ⟨m, hm⟩ : ∃ n, c.toNat = n := ⟨_, rfl⟩
  rw [hn] at ha ⊢
  rw [hm] at hc ⊢
  clear hn hm
  go_enter Try.func53, Try.ntmps53
  go_wp2
  all_goals
    go_ret
    refine ⟨ret_bool (Bool.eq_iff_iff.2 ?_), rfl⟩
    (try simp only [beq_iff_eq, beq_eq_false_iff_ne, ne_eq] at *)
    unfold secB lo2 hi2
    simp only [decide_eq_true_eq, Bool.false_eq_true, false_iff]
    repeat' split
    all_goals omega
/-- The bytes that wait say numbers of a character. -/
theorem val_bound : ∀ (l : List UInt8) (r : Int), 0 ≤ r → 0 ≤ val r l ∧ val r l < (r + 1) * 64 ^ l.length
  | [], r, h0 => ⟨h0, by simp [val]; omega⟩
  | b :: t, r, h0 => by
    have e : val r (b :: t) = val (add6 r b) t := rfl
    have ha : 0 ≤ add6 r b ∧ add6 r b + 1 ≤ (r + 1) * 64 := by unfold add6; omega
    obtain ⟨i1, i2⟩ := val_bound t (add6 r b) ha.1
    refine ⟨by rw [e]; exact i1, ?_⟩
    rw [e, List.length_cons, Int.pow_succ]
    have : (add6 r b + 1) * 64 ^ t.length ≤ ((r + 1) * 64) * 64 ^ t.length := Int.mul_le_mul_of_nonneg_right ha.2 (Int.pow_nonneg (by omega))
    rw [Int.mul_comm ((64 : Int) ^ t.length) 64, ← Int.mul_assoc]
    omega
theorem start_few (b : UInt8) : (start b).2.length ≤ 1 := by unfold start; split <;> simp
theorem step_few : ∀ (u : List UInt8) (b : UInt8), (step u b).2.length ≤ 2
  | [], b => by have := start_few b; show (start b).2.length ≤ 2; omega
  | a :: t, b => by
    have := start_few b
    rw [step_cons]
    repeat' split
    all_goals (simp; try omega)
theorem run_few : ∀ (s u : List UInt8), (run u s).2.length ≤ 2 * s.length
  | [], _ => by simp [run]
  | b :: s, u => by
    have h1 := step_few u b
    have h2 := run_few s (step u b).1
    simp only [run, List.length_append, List.length_cons]; omega
/-- A row of characters, of faults, in memory of its own. -/
def Chars (B : Nat) (v : Value) (cs : List Ch) (w : World) : Prop := w.ownsRow B 62 3 v cs.length (cs.flatMap Ch.cells)
def Faults (B : Nat) (v : Value) (fs : List Int) (w : World) : Prop := w.ownsRow B 64 2 v fs.length (fs.flatMap fcells)
def gcells (f : Int × Int) : List Value := [.int .i64 f.1, .int .i64 f.2]
theorem i64_and16 (x : Int) (h₀ : 0 ≤ x) (h₁ : x ≤ 1000000000) : bits .and .i64 x 65535 = x % 65536 := bits_mask .i64 63 (by decide) wraps_i64 16 (by decide) x h₀ (by omega)
set_option maxHeartbeats 1000000 in
theorem rbad_any (r : Int) (w : World) (h₀ : 0 ≤ r) (h₁ : r ≤ 1000000000) : Calls Try.prog 31 #[.int .i64 r] w fun e w' => e = .returned (.int .i64 (badN r)) ∧ w' = w := by
  have hm := i64_and16 r h₀ h₁
  go_enter Try.func31, Try.ntmps31
  go_wp2
  all_goals
    go_ret
    refine ⟨ret_int ?_, rfl⟩
    (try simp only [beq_iff_eq, beq_eq_false_iff_ne, ne_eq] at *)
    unfold badN
    repeat' split
    all_goals omega
def ChIs (b : Nat) (c : Ch) (w : World) : Prop := w.heap[b]? = some (.cells #[.int .i64 c.r, .int .i64 c.a, .int .i64 c.z] 62 (0, 0))
theorem ch_cell {b : Nat} {c : Ch} {w : World} (h : ChIs b c w) : b < w.heap.size ∧ w.cell? ⟨b, 0, none⟩ = some (.int .i64 c.r) ∧ w.cell? ⟨b, 1, none⟩ = some (.int .i64 c.a) ∧ w.cell? ⟨b, 2, none⟩ = some (.int .i64 c.z) ∧ w.frozen? ⟨b, 0, none⟩ = false := by
  unfold ChIs at h
  exact ⟨(Array.getElem?_eq_some_iff.1 h).1, by simp [World.cell?, h], by simp [World.cell?, h], by simp [World.cell?, h], by simp [World.frozen?, h]⟩
/-- A row's cells. -/
theorem row_cells {w : World} {B e s n : Nat} {v : Value} {xs : List Value} (h : w.ownsRow B e s v n xs) (hn : 0 < n) : ∃ g cap, v = .slice (some ⟨g, 0, none⟩) n cap ∧ n ≤ cap ∧ cap ≤ maxLen ∧ g < w.heap.size ∧ ∀ j u, xs[j]? = some u → w.cell? ⟨g, j, none⟩ = some u := by
  rcases h.2 with ⟨_, h0⟩ | ⟨g, cap, cur, hv, hb, hg, h1, h2, h3, ht⟩
  · omega
  · refine ⟨g, cap, hv, h1, h2, (Array.getElem?_eq_some_iff.1 hg).1, fun j u hu => ?_⟩
    rw [← ht, List.getElem?_take] at hu
    split at hu
    · simp [World.cell?, hg]; simpa using hu
    · cases hu
theorem ch_at : ∀ (cs : List Ch) (k : Nat) (c : Ch), cs[k]? = some c → (cs.flatMap Ch.cells)[k * 3]? = some (.int .i64 c.r) ∧ (cs.flatMap Ch.cells)[k * 3 + 1]? = some (.int .i64 c.a) ∧ (cs.flatMap Ch.cells)[k * 3 + 2]? = some (.int .i64 c.z)
  | [], _, _, h => by simp at h
  | x :: l, 0, c, h => by simp at h; subst h; simp [Ch.cells]
  | x :: l, k + 1, c, h => by
    have := ch_at l k c (by simpa using h)
    rw [List.flatMap_cons]
    have e : ∀ j, (x.cells ++ l.flatMap Ch.cells)[(k + 1) * 3 + j]? = (l.flatMap Ch.cells)[k * 3 + j]? := fun j => by
      rw [List.getElem?_append_right (by simp [Ch.cells]; omega)]; congr 1; simp [Ch.cells]; omega
    exact ⟨(e 0).trans this.1, (e 1).trans this.2.1, (e 2).trans this.2.2⟩
/-- A row of faults with their codes, in memory of its own. -/
def FaultsC (B : Nat) (v : Value) (fs : List (Int × Int)) (w : World) : Prop := w.ownsRow B 64 2 v fs.length (fs.flatMap gcells)
theorem chs_at (A R : List (Int × Nat)) (r : Int) (n : Nat) (p : Int) : (chs p (A ++ (r, n) :: R))[A.length]? = some ⟨if r = -1 then 65533 else r, p + (tot A : Nat), p + (tot A : Nat) + (n : Int)⟩ := by
  rw [chs_append, List.getElem?_append_right (by rw [chs_length]; exact Nat.le_refl _), chs_length, Nat.sub_self]
  rfl
theorem cod_low {r : Int} (h : r = 10 ∨ r = 13) : cod r = 0 := by rcases h with rfl | rfl <;> decide
theorem cod_of {r rr : Int} (h : (if r = -1 then 65533 else r) = rr) (hr : r ≠ -1) : badN rr = cod r := by
  rw [if_neg hr] at h; subst h; unfold cod; rw [if_neg hr]
theorem fin_few (u : List UInt8) : (fin u).length ≤ 1 := by unfold fin; split <;> simp
/-- The stream's characters and faults of a whole text. -/
def outc (s : List UInt8) : List Ch := rfs (chs 0 (items s))
theorem drop_at (s : ByteArray) (k : Nat) (h : k < s.size) : s.data.toList.drop k = s[k] :: s.data.toList.drop (k + 1) := by
  rw [List.drop_eq_getElem_cons (by simpa using h)]; rfl
theorem drop_end (s : ByteArray) (k : Nat) (h : s.size ≤ k) : s.data.toList.drop k = [] := List.drop_of_length_le (by rw [Array.length_toList]; exact h)
theorem bad_end {k K : Nat} {n : Nat} (h : k = K) : Ending.returned (.tuple #[.int .i64 (-1), .int .i64 (k : Nat), .bool ((k : Int) == (n : Int))]) = .returned (.tuple #[.int .i64 (-1), .int .i64 (K : Nat), .bool (decide (K = n))]) := by
  subst h
  have : ((k : Int) == (n : Int)) = decide (k = n) := by rw [Bool.eq_iff_iff]; simp; omega
  rw [this]
theorem need_as (b : UInt8) (n : Nat) (w : World) (h : need b.toNat = n) : Calls Try.prog 52 #[.int .u8 (b.toNat : Nat)] w fun e w' => e = .returned (.int .i64 (n : Nat)) ∧ w' = w := by
  subst h; exact need_any b w
theorem second_as (a c : UInt8) (v : Bool) (w : World) (h : secB a.toNat c.toNat = v) : Calls Try.prog 53 #[.int .u8 (a.toNat : Nat), .int .u8 (c.toNat : Nat)] w fun e w' => e = .returned (.bool v) ∧ w' = w := by
  subst h; exact second_any a c w
set_option maxHeartbeats 2000000 in
set_option maxRecDepth 10000 in
theorem one_bad (s : ByteArray) (w : World) (h0 : 0 < s.size) (hs : s.size ≤ 1000000) (a : UInt8) (ha : s[0] = a) (n : Nat) (hn : need a.toNat = n) (K : Nat) (hK : ext n a.toNat 1 (s.data.toList.drop 1) = K) (hKn : K < n) :
    Calls Try.prog 41 #[.string s] w fun e w' => e = .returned (.tuple #[.int .i64 (-1), .int .i64 (K : Nat), .bool (decide (K = s.size))]) ∧ Below w.heap.size w w' := by
  have hn4 : n ≤ 4 := by rw [← hn]; exact need_le _
  have HA : Hid (s[0] = a) := ha
  have HN : Hid (need a.toNat = n) := hn
  have HK : Hid (ext n a.toNat 1 (s.data.toList.drop 1) = K) := hK
  clear ha hn hK
  go_enter Try.func41, Try.ntmps41
  go_wp2_with fail
  refine (need_as _ n _ (by rw [HA.out]; exact HN.out)).mono ?_
  rintro e w' ⟨rfl, rfl⟩
  have hnb : ((n : Int) == 0) = false := by rw [beq_eq_false_iff_ne]; omega
  go_wp2_with fail
  go_loopw [6] (fun i wr => ∃ k : Nat, 1 ≤ k ∧ k ≤ n ∧ k ≤ s.size ∧ i = .int .i64 k ∧ ext n a.toNat k (s.data.toList.drop k) = K ∧ Below w'.heap.size w' wr) (fun i _ => 10 - (intOf i).toNat)
  case atStart => exact ⟨1, Nat.le_refl _, by omega, by omega, rfl, HK.out, Below.refl _ _⟩
  case round =>
    obtain ⟨k, hk1, hkn, hkl, rfl, hx, hbl⟩ := hrel
    have hkn2 : k < n := by have := ext_ge n a.toNat (s.data.toList.drop k) k; omega
    have HX : Hid (ext n a.toNat k (s.data.toList.drop k) = K) := hx
    clear hx
    have g1 : decide (k < n) = true := by simpa using hkn2
    by_cases hlt : k < s.size
    · have g2 : decide (k < s.size) = true := by simpa using hlt
      have hd := drop_at s k hlt
      by_cases hk2 : k = 1
      · have f0 : ((k : Int) == 1) = true := by rw [beq_iff_eq]; omega
        have hs1 : 1 < s.size := by omega
        have hs2 : (1 : Int) < (s.size : Int) := by omega
        have HK2 : Hid (k = 1) := hk2
        have f5 : decide ((1 : Int) < (k : Int)) = false := decide_eq_false (by omega)
        clear hk2
        cases hsec : secB a.toNat s[1].toNat with
        | true =>
          go_wp2_with fail
          go_quiet ((go_at_call 53; exact Calls.quiet_of_same (second_as _ _ true _ (by rw [HA.out]; exact hsec))))
          go_wp2_with fail
          have hk2 := HK2.out
          refine ⟨⟨k + 1, by omega, by omega, by omega, by go_num, ?_, below_drewN hbl nq⟩, by simp [intOf]; omega⟩
          subst hk2
          rw [← HX.out, hd, ext, if_pos ⟨hkn2, hsec⟩]
        | false =>
          have hK : Hid (k = K) := by
            have hk2 := HK2.out
            subst hk2
            have := HX.out
            rw [hd, ext, if_neg (fun c => by have := c.2; unfold okc at this; rw [if_pos rfl] at this; unfold secB at hsec; rw [this] at hsec; cases hsec)] at this
            exact this
          go_wp2_with fail
          go_quiet ((go_at_call 53; exact Calls.quiet_of_same (second_as _ _ false _ (by rw [HA.out]; exact hsec))))
          go_wp2_with fail
          go_ret3
          exact ⟨bad_end hK.out, below_drewN hbl nq⟩
      · have f0 : ((k : Int) == 1) = false := by rw [beq_eq_false_iff_ne]; omega
        have f1 : decide ((1 : Int) < (k : Int)) = true := decide_eq_true (by omega)
        by_cases hc1 : 128 ≤ s[k].toNat
        · have f2 : decide ((128 : Int) ≤ (s[k].toNat : Int)) = true := decide_eq_true (by omega)
          by_cases hc2 : s[k].toNat ≤ 191
          · have f3 : decide ((s[k].toNat : Int) ≤ 191) = true := decide_eq_true (by omega)
            go_wp2_with fail
            go_quiet (fail)
            go_wp2_with fail
            refine ⟨⟨k + 1, by omega, by omega, by omega, by go_num, ?_, below_drewN hbl nq⟩, by simp [intOf]; omega⟩
            rw [← HX.out, hd, ext, if_pos ⟨hkn2, by unfold okc; rw [if_neg hk2]; simp [hc1, hc2]⟩]
          · have f3 : decide ((s[k].toNat : Int) ≤ 191) = false := decide_eq_false (by omega)
            have hK : Hid (k = K) := by
              have := HX.out
              rw [hd, ext, if_neg (fun c => by have := c.2; unfold okc at this; rw [if_neg hk2] at this; simp at this; omega)] at this
              exact this
            go_wp2_with fail
            go_quiet (fail)
            go_wp2_with fail
            go_ret3
            exact ⟨bad_end hK.out, below_drewN hbl nq⟩
        · have f2 : decide ((128 : Int) ≤ (s[k].toNat : Int)) = false := decide_eq_false (by omega)
          have hK : Hid (k = K) := by
            have := HX.out
            rw [hd, ext, if_neg (fun c => by have := c.2; unfold okc at this; rw [if_neg hk2] at this; simp at this; omega)] at this
            exact this
          go_wp2_with fail
          go_quiet (fail)
          go_wp2_with fail
          go_ret3
          exact ⟨bad_end hK.out, below_drewN hbl nq⟩
    · have g2 : decide (k < s.size) = false := by simpa using hlt
      have hK : Hid (k = K) := by
        have := HX.out
        rw [drop_end s k (by omega)] at this
        exact this
      go_wp2_with fail
      go_quiet (fail)
      go_wp2_with fail
      go_ret3
      exact ⟨bad_end hK.out, below_drewN hbl nq⟩
set_option maxHeartbeats 1000000 in
set_option maxRecDepth 10000 in
theorem one_none (s : ByteArray) (w : World) (h0 : 0 < s.size) (a : UInt8) (ha : s[0] = a) (hn : need a.toNat = 0) :
    Calls Try.prog 41 #[.string s] w fun e w' => e = .returned (.tuple #[.int .i64 (-1), .int .i64 1, .bool false]) ∧ Below w.heap.size w w' := by
  have HN : Hid (need s[0].toNat = 0) := by rw [ha]; exact hn
  clear ha hn
  go_enter Try.func41, Try.ntmps41
  go_wp2_with fail
  refine (need_as _ 0 _ HN.out).mono ?_
  rintro e w' ⟨rfl, rfl⟩
  go_wp2_with fail
  go_ret3
  exact ⟨rfl, Below.refl _ _⟩
theorem i64_and31 (x : Int) (h₀ : 0 ≤ x) (h₁ : x < 256) : bits .and .i64 x 31 = x % 32 := bits_mask .i64 63 (by decide) wraps_i64 5 (by decide) x h₀ (by omega)
theorem i64_and15 (x : Int) (h₀ : 0 ≤ x) (h₁ : x < 256) : bits .and .i64 x 15 = x % 16 := bits_mask .i64 63 (by decide) wraps_i64 4 (by decide) x h₀ (by omega)
theorem i64_and7 (x : Int) (h₀ : 0 ≤ x) (h₁ : x < 256) : bits .and .i64 x 7 = x % 8 := bits_mask .i64 63 (by decide) wraps_i64 3 (by decide) x h₀ (by omega)
theorem first_val (n : Nat) (a b : UInt8) (h : b = a) (_h1 : 1 ≤ n) (_h4 : n ≤ 4) {x : Int} (hx : ((n : Int) = 2 ∧ x = (b.toNat : Int) % 32) ∨ ((n : Int) = 3 ∧ x = (b.toNat : Int) % 16) ∨ ((n : Int) = 4 ∧ x = (b.toNat : Int) % 8) ∨ (¬ (n : Int) = 2 ∧ ¬ (n : Int) = 3 ∧ ¬ (n : Int) = 4 ∧ x = (b.toNat : Int))) {l : List UInt8} :
    Value.int .i64 x = .int .i64 (val (mask n a.toNat : Nat) (l.take (1 - 1))) := by
  subst h
  have e : val (mask n b.toNat : Nat) (l.take (1 - 1)) = (mask n b.toNat : Nat) := by simp [val]
  rw [e]
  congr 1
  unfold mask
  rcases hx with ⟨h, hx⟩ | ⟨h, hx⟩ | ⟨h, hx⟩ | ⟨h2, h3, h4, hx⟩
  · rw [if_pos (by omega)]; omega
  · rw [if_neg (by omega), if_pos (by omega)]; omega
  · rw [if_neg (by omega), if_neg (by omega), if_pos (by omega)]; omega
  · rw [if_neg (by omega), if_neg (by omega), if_neg (by omega)]; omega
theorem val_small (n a : Nat) (ha : a < 256) (l : List UInt8) (hl : l.length ≤ 3) : 0 ≤ val (mask n a : Nat) l ∧ val (mask n a : Nat) l ≤ 1000000000 := by
  have hm : mask n a ≤ 255 := by unfold mask; repeat' split
                                 all_goals omega
  obtain ⟨v1, v2⟩ := val_bound l (mask n a : Nat) (by omega)
  have hl : (64 : Int) ^ l.length ≤ 64 ^ 3 := by
    match ht : l.length, hl with
    | 0, _ => decide
    | 1, _ => decide
    | 2, _ => decide
    | 3, _ => decide
  have : ((mask n a : Nat) + 1 : Int) * 64 ^ l.length ≤ 256 * 64 ^ 3 := Int.mul_le_mul (by omega) hl (Int.pow_nonneg (by omega)) (by omega)
  exact ⟨v1, by omega⟩
set_option maxHeartbeats 4000000 in
set_option maxRecDepth 10000 in
theorem one_good (s : ByteArray) (w : World) (h0 : 0 < s.size) (hs : s.size ≤ 1000000) (a : UInt8) (ha : s[0] = a) (n : Nat) (hn : need a.toNat = n) (hn0 : n ≠ 0) (hK : ext n a.toNat 1 (s.data.toList.drop 1) = n) :
    Calls Try.prog 41 #[.string s] w fun e w' => e = .returned (.tuple #[.int .i64 (val (mask n a.toNat : Nat) ((s.data.toList.drop 1).take (n - 1))), .int .i64 (n : Nat), .bool false]) ∧ Below w.heap.size w w' := by
  have hn4 : n ≤ 4 := by rw [← hn]; exact need_le _
  have hns : n ≤ s.size := by
    have := ext_le n a.toNat (s.data.toList.drop 1) 1
    rw [hK, List.length_drop, Array.length_toList] at this
    have hz : s.data.size = s.size := rfl
    omega
  have HA : Hid (s[0] = a) := ha
  have HN : Hid (need a.toNat = n) := hn
  have HK : Hid (ext n a.toNat 1 (s.data.toList.drop 1) = n) := hK
  clear ha hn hK
  go_enter Try.func41, Try.ntmps41
  go_wp2_with fail
  refine (need_as _ n _ (by rw [HA.out]; exact HN.out)).mono ?_
  rintro e w' ⟨rfl, rfl⟩
  have hnb : ((n : Int) == 0) = false := by rw [beq_eq_false_iff_ne]; omega
  go_wp2_with fail
  go_loopw [6] (fun i wr => ∃ k : Nat, 1 ≤ k ∧ k ≤ n ∧ i = .int .i64 k ∧ ext n a.toNat k (s.data.toList.drop k) = n ∧ Below w'.heap.size w' wr) (fun i _ => 10 - (intOf i).toNat)
  case atStart => exact ⟨1, Nat.le_refl _, by omega, rfl, HK.out, Below.refl _ _⟩
  case round =>
    obtain ⟨k, hk1, hkn, rfl, hx, hbl⟩ := hrel
    have HX : Hid (ext n a.toNat k (s.data.toList.drop k) = n) := hx
    clear hx
    by_cases hkn2 : k < n
    · have g1 : decide (k < n) = true := by simpa using hkn2
      have hlt : k < s.size := by omega
      have g2 : decide (k < s.size) = true := by simpa using hlt
      have hd := drop_at s k hlt
      have hok : okc k a.toNat s[k].toNat = true := by
        have := HX.out
        rw [hd, ext] at this
        split at this
        · rename_i c; exact c.2
        · omega
      by_cases hk2 : k = 1
      · have f0 : ((k : Int) == 1) = true := by rw [beq_iff_eq]; omega
        have hs1 : 1 < s.size := by omega
        have hs2 : (1 : Int) < (s.size : Int) := by omega
        have hsec : secB a.toNat s[1].toNat = true := by subst hk2; exact hok
        have HK2 : Hid (k = 1) := hk2
        have HO : Hid (okc k a.toNat s[k].toNat = true) := hok
        clear hk2 hok
        go_wp2_with fail
        go_quiet ((go_at_call 53; exact Calls.quiet_of_same (second_as _ _ true _ (by rw [HA.out]; exact hsec))))
        go_wp2_with fail
        refine ⟨⟨k + 1, by omega, by omega, by go_num, ?_, below_drewN hbl nq⟩, by simp [intOf]; omega⟩
        have := HX.out
        rw [hd, ext, if_pos ⟨hkn2, HO.out⟩] at this
        exact this
      · have f0 : ((k : Int) == 1) = false := by rw [beq_eq_false_iff_ne]; omega
        have f1 : decide ((1 : Int) < (k : Int)) = true := decide_eq_true (by omega)
        have hcc : 128 ≤ s[k].toNat ∧ s[k].toNat ≤ 191 := by have := hok; unfold okc at this; rw [if_neg hk2] at this; simpa using this
        have f2 : decide ((128 : Int) ≤ (s[k].toNat : Int)) = true := decide_eq_true (by omega)
        have f3 : decide ((s[k].toNat : Int) ≤ 191) = true := decide_eq_true (by omega)
        have HO : Hid (okc k a.toNat s[k].toNat = true) := hok
        clear hok hcc
        go_wp2_with fail
        go_quiet (fail)
        go_wp2_with fail
        refine ⟨⟨k + 1, by omega, by omega, by go_num, ?_, below_drewN hbl nq⟩, by simp [intOf]; omega⟩
        have := HX.out
        rw [hd, ext, if_pos ⟨hkn2, HO.out⟩] at this
        exact this
    · have g1 : decide (k < n) = false := by simpa using hkn2
      go_wp2_with fail
      go_quiet (fail)
      have hb0 : (s[0].toNat : Int) < 256 := byte_lt _
      have hb1 : (0 : Int) ≤ (s[0].toNat : Int) := by omega
      go_wp2_with fail
      all_goals
        go_loop [7, 8] (fun r i => ∃ j : Nat, 1 ≤ j ∧ j ≤ n ∧ i = .int .i64 j ∧ r = .int .i64 (val (mask n a.toNat : Nat) ((s.data.toList.drop 1).take (j - 1)))) (fun _ i => 10 - (intOf i).toNat)
        case atStart =>
          refine ⟨1, Nat.le_refl _, by omega, rfl, ?_⟩
          (try simp only [beq_iff_eq, beq_eq_false_iff_ne, ne_eq] at *)
          exact first_val n a s[0] HA.out (by omega) (by omega) (by first | exact .inl ⟨by omega, i64_and31 _ hb1 hb0⟩ | exact .inr (.inl ⟨by omega, i64_and15 _ hb1 hb0⟩) | exact .inr (.inr (.inl ⟨by omega, i64_and7 _ hb1 hb0⟩)) | exact .inr (.inr (.inr ⟨by omega, by omega, by omega, rfl⟩)))
        case round =>
          obtain ⟨j, hj1, hjn, rfl, rfl⟩ := hrel
          obtain ⟨v, hv⟩ : ∃ v, val (mask n a.toNat : Nat) ((s.data.toList.drop 1).take (j - 1)) = v := ⟨_, rfl⟩
          have HV : Hid (val (mask n a.toNat : Nat) ((s.data.toList.drop 1).take (j - 1)) = v) := hv
          by_cases hjlt : j < n
          · have hvb := val_small n a.toNat (UInt8.toNat_lt a) ((s.data.toList.drop 1).take (j - 1)) (by rw [List.length_take]; omega)
            rw [hv] at hvb ⊢
            obtain ⟨v0, v1⟩ := hvb
            clear hv
            have hjs : j < s.size := by omega
            have hsn : Hid (val (mask n a.toNat : Nat) ((s.data.toList.drop 1).take (j + 1 - 1)) = add6 v s[j]) := by
              have e : (s.data.toList.drop 1).take (j + 1 - 1) = (s.data.toList.drop 1).take (j - 1) ++ [s[j]] := by
                obtain ⟨i, rfl⟩ : ∃ i, j = i + 1 := ⟨j - 1, by omega⟩
                rw [Nat.add_sub_cancel, Nat.add_sub_cancel, List.take_succ_eq_append_getElem (by rw [List.length_drop, Array.length_toList]; show i < s.size - 1; omega)]
                congr 2
                rw [List.getElem_drop]
                show s.data.toList[1 + i]'_ = s.data[i + 1]'_
                simp [Nat.add_comm]
              show val _ _ = _
              rw [e, val, List.foldl_append]
              show add6 (val _ _) _ = _
              rw [HV.out]
            go_wp2_with fail
            refine ⟨⟨j + 1, by omega, by omega, by go_num, ?_⟩, by simp [intOf]; omega⟩
            rw [hsn.out, ← add6_eq v s[j] v0 v1]
          · have hje : j = n := by omega
            subst hje
            go_wp2_with fail
            go_ret3
            exact ⟨rfl, below_drewN hbl nq⟩
theorem one_any (s : ByteArray) (w : World) (h0 : 0 < s.size) (hs : s.size ≤ 1000000) :
    Calls Try.prog 41 #[.string s] w fun e w' => e = .returned (.tuple #[.int .i64 (one s.data.toList).1, .int .i64 ((one s.data.toList).2.1 : Nat), .bool (one s.data.toList).2.2]) ∧ Below w.heap.size w w' := by
  have hl : s.data.toList = s[0] :: s.data.toList.drop 1 := by have := drop_at s 0 h0; simpa using this
  have hlen : (s.data.toList.drop 1).length + 1 = s.size := by
    rw [List.length_drop, Array.length_toList]
    have hz : s.data.size = s.size := rfl
    omega
  obtain ⟨t, ht⟩ : ∃ t, s.data.toList.drop 1 = t := ⟨_, rfl⟩
  have e : one s.data.toList = one (s[0] :: t) := by rw [hl, ht]
  rw [e, one_cons]
  rw [ht] at hlen
  by_cases c0 : need s[0].toNat = 0
  · rw [if_pos c0]; exact one_none s w h0 s[0] rfl c0
  · rw [if_neg c0]
    have hx : ext (need s[0].toNat) s[0].toNat 1 (s.data.toList.drop 1) = ext (need s[0].toNat) s[0].toNat 1 t := by rw [ht]
    by_cases c1 : ext (need s[0].toNat) s[0].toNat 1 t < need s[0].toNat
    · rw [if_pos c1]
      refine (one_bad s w h0 hs s[0] rfl _ rfl _ hx c1).mono ?_
      rintro e w' ⟨he, hb⟩
      rw [hlen]
      exact ⟨he, hb⟩
    · rw [if_neg c1]
      have ht2 := ext_top (need s[0].toNat) s[0].toNat t 1 (by omega)
      have := one_good s w h0 hs s[0] rfl _ rfl c0 (by rw [hx]; omega)
      rw [ht] at this
      exact this
/-- 'append' where its run is known by an equation, as one step of a list of operations. -/
theorem list_append_eq {P : Program} {ops : Array Oper} {rest : List Oper} {o : Oper} {a : Act} {w : World} {Q : Exit → Act → World → Prop}
    (hg : o.guard = none) (d x : Operand) (dT sT : TypeId) (hop : o.op = Op.call { callee := Callee.builtin Builtin.append, args := #[d, x], argTypes := #[dT, sT] })
    (v u : Value) (hd : a.eval d = v) (hx : a.eval x = u) {v' : Value} {w' : World} (hr : (Builtin.append_ #[dT, sT] o.type #[v, u]).run P w = .ok v' w') (hK : wpList P ops Q rest (a.put o.dst v') w') :
    wpList P ops Q (o :: rest) a w :=
  wpList_plain hg fun K hK2 => by
    unfold Oper.wp
    simp [execOp, hop, resolve, invoke, builtin, hd, hx, hr, Result.andThen]
    exact hK2 _ _ hK
/-- One more element appended, no order drawn. -/
theorem row_more {B t e size bytes n : Nat} {z : Value} {W : World} {ao : Option Addr} {c : Nat} {xs news : List Value} (ht : Try.prog.underlying t = some (.slice e)) (hinfo : (Try.prog.info? e).map (fun i => (i.zero, i.size, i.bytes)) = some (some z, size, bytes))
    (hzs : z.cells.size = size) (hsz : 0 < size) (hb : bytes ≤ 32) (hown : W.ownsRow B e size (.slice ao n c) n xs) (hB : B ≤ W.heap.size) (hn : n ≤ 1000000) (hl : news.length = size) (h1 : ∀ u ∈ news, u.oneCell' = true) :
    ∃ ao' c' W', (Builtin.append_ #[t, t] t #[.slice ao n c, .slice (some ⟨W.heap.size, 0, none⟩) 1 1]).run Try.prog (W.alloc (.cells news.toArray e)) = .ok (.slice ao' (n + 1) c') W' ∧
      W'.ownsRow B e size (.slice ao' (n + 1) c') (n + 1) (xs ++ news) ∧ Below B W W' ∧ (∀ (k : Nat) (cur : Array Value) (e' : TypeId) (m : Nat × Nat), e' ≠ e → W.heap[k]? = some (Obj.cells cur e' m) → W'.heap[k]? = some (Obj.cells cur e' m)) := by
  obtain ⟨i0, hi0, hz0, hzs0, hzb⟩ := info_parts hinfo
  obtain ⟨W1, hW1⟩ : ∃ W1, W1 = W.alloc (.cells news.toArray e) := ⟨_, rfl⟩
  have hbe : Below W.heap.size W W1 := by rw [hW1]; exact (Below.refl _ _).alloc (Nat.le_refl _) _
  have hnew : W1.heap[W.heap.size]? = some (.cells news.toArray e (0, 0)) := by rw [hW1]; exact heap_alloc_new _ _
  have ho1 : W1.ownsRow B e size (.slice ao n c) n xs := own_below hown hbe
  have hz : W1.heap.size = W.heap.size + 1 := by rw [hW1]; simp
  obtain ⟨v', W', hrun, ho, hg1, _⟩ := run_append_own (P := Try.prog) W1 B t t e i0 _ size bytes ht hi0 hz0 hzs0 hzb hzs hsz (.slice ao n c) n xs ho1 ⟨W.heap.size, 0, none⟩ 1 1 news (by omega)
    (fun j u hj => by
      rw [Addr.add_lit, Nat.zero_add]
      simp [World.cell?, hnew]; exact hj)
    h1 (by unfold maxLen; omega) (by have := Nat.mul_le_mul (show n + 1 ≤ 1000001 by omega) hb; omega) (by omega)
  obtain ⟨ao', c', rfl, _, _⟩ := own_form ho
  have hrow : ∀ k, (Value.slice ao n c).ownBlock = some k → B ≤ k ∧ k < W.heap.size ∧ ∃ cu, W1.heap[k]? = some (.cells cu e (0, 0)) := fun k hk => by
    rcases hown.2 with ⟨hv, _⟩ | ⟨g, cap, cur, hv, hB', hgb, _⟩
    · rw [hv] at hk; simp [Value.ownBlock] at hk
    · rw [hv] at hk; simp [Value.ownBlock] at hk; subst hk
      have hlt := (Array.getElem?_eq_some_iff.1 hgb).1
      exact ⟨hB', hlt, cur, by rw [hbe.block g hlt]; exact hgb⟩
  refine ⟨ao', c', W', by rw [← hW1]; exact hrun, ho, ?_, ?_⟩
  · refine ⟨hg1.os.trans hbe.os, hg1.tape.trans hbe.tape, hg1.output.trans hbe.output, Nat.le_trans hbe.size hg1.size, fun k hk => ?_⟩
    rw [hg1.block k (by omega) (fun e => by have := (hrow k e.symm).1; omega), hbe.block k (by omega)]
  · intro k cur e' m hne hk
    have hlt := (Array.getElem?_eq_some_iff.1 hk).1
    rw [hg1.block k (by omega) (fun e2 => by
      obtain ⟨_, _, cu, hc⟩ := hrow k e2.symm
      rw [hbe.block k hlt, hk] at hc; simp at hc; exact hne hc.2.1), hbe.block k hlt]
    exact hk
theorem fault_more {B n c : Nat} {p : Int} {cv : Value} {cs : List Ch} {fs : List Int} {W : World} {ao : Option Addr} (hB : B ≤ W.heap.size) (hc : Chars B cv cs W) (hf : Faults B (.slice ao n c) fs W) (hfn : fs.length = n) (hn : n ≤ 1000000) :
    ∃ ao' c' W', (Builtin.append_ #[31, 31] 31 #[.slice ao n c, .slice (some ⟨W.heap.size, 0, none⟩) 1 1]).run Try.prog (W.alloc (.cells #[.int .i64 1, .int .i64 p] 64)) = .ok (.slice ao' (n + 1) c') W' ∧
      Faults B (.slice ao' (n + 1) c') (fs ++ [p]) W' ∧ Chars B cv cs W' ∧ Below B W W' := by
  subst hfn
  obtain ⟨ao', c', W', hr, ho, hbe, hk⟩ := row_more (t := 31) (news := fcells p) Try.underlying31 info58 rfl (by decide) (by decide) hf hB hn rfl (by simp [fcells, Value.oneCell'])
  refine ⟨ao', c', W', hr, ?_, own_same hc fun g cur m _ hg => hk g cur 62 m (by decide) hg, hbe⟩
  unfold Faults
  rw [List.length_append, List.flatMap_append]
  simpa using ho
theorem char_more {B n c : Nat} {r p q : Int} {fv : Value} {cs : List Ch} {fs : List Int} {W : World} {ao : Option Addr} (hB : B ≤ W.heap.size) (hf : Faults B fv fs W) (hc : Chars B (.slice ao n c) cs W) (hcn : cs.length = n) (hn : n ≤ 1000000) :
    ∃ ao' c' W', (Builtin.append_ #[50, 50] 50 #[.slice ao n c, .slice (some ⟨W.heap.size, 0, none⟩) 1 1]).run Try.prog (W.alloc (.cells #[.int .i64 r, .int .i64 p, .int .i64 q] 62)) = .ok (.slice ao' (n + 1) c') W' ∧
      Chars B (.slice ao' (n + 1) c') (cs ++ [⟨r, p, q⟩]) W' ∧ Faults B fv fs W' ∧ Below B W W' := by
  subst hcn
  obtain ⟨ao', c', W', hr, ho, hbe, hk⟩ := row_more (t := 50) (news := Ch.cells ⟨r, p, q⟩) Try.underlying50 info37 rfl (by decide) (by decide) hc hB hn rfl (by simp [Ch.cells, Value.oneCell'])
  refine ⟨ao', c', W', hr, ?_, own_same hf fun g cur m _ hg => hk g cur 64 m (by decide) hg, hbe⟩
  unfold Chars
  rw [List.length_append, List.flatMap_append]
  simpa using ho
def sizeOfS : Value → Nat | .string s => s.size | _ => 0
/-- How far the document's Decode has come. -/
structure At (s : ByteArray) (p : Int) (w wr : World) (S : ByteArray) (A : List (Int × Nat)) (lv fv : Value) : Prop where
  it : items s.data.toList = A ++ items S.data.toList
  len : tot A + S.size = s.size
  few : A.length ≤ tot A
  ch : Chars w.heap.size lv (chs p A) wr
  fl : Faults w.heap.size fv (fls p A) wr
  below : Below w.heap.size w wr
theorem bytes_drop (s : ByteArray) (n : Nat) : (s.extract n s.size).data.toList = s.data.toList.drop n := by
  simp [ByteArray.data_extract]
  exact List.take_of_length_le (by simp)
theorem one_ge (s : List UInt8) : (one s).1 = -1 ∨ 0 ≤ (one s).1 := by
  cases s with
  | nil => exact .inl rfl
  | cons a t =>
    rw [one_cons]
    repeat' split
    · exact .inl rfl
    · exact .inl rfl
    · exact .inr (val_bound _ _ (by omega)).1
set_option maxHeartbeats 2000000 in
set_option maxRecDepth 20000 in
theorem rdec_any (s : ByteArray) (p : Int) (w : World) (hp0 : 0 ≤ p) (hp1 : p ≤ 1400000000000) (hs : s.size ≤ 100000) :
    Calls Try.prog 30 #[.string s, .int .i64 p] w fun e w' => ∃ ca cn cc fa fn fc, e = .returned (.tuple #[.slice ca cn cc, .slice fa fn fc]) ∧
      Chars w.heap.size (.slice ca cn cc) (chs p (items s.data.toList)) w' ∧ Faults w.heap.size (.slice fa fn fc) (fls p (items s.data.toList)) w' ∧ Below w.heap.size w w' := by
  go_enter Try.func30, Try.ntmps30
  go_wp2_with fail
  go_loopw [0, 1, 6, 7] (fun sv av lv fv wr => ∃ (S : ByteArray) (A : List (Int × Nat)), sv = .string S ∧ av = .int .i64 (p + (tot A : Nat)) ∧ At s p w wr S A lv fv) (fun sv _ _ _ _ => sizeOfS sv)
  case atStart => exact ⟨s, [], rfl, by simp [tot], ⟨rfl, by simp [tot], Nat.le_refl _, World.ownsRow_nil _ _ _ _, World.ownsRow_nil _ _ _ _, Below.refl _ _⟩⟩
  case round =>
    obtain ⟨S, A, rfl, rfl, hA⟩ := hrel
    have hlen := hA.len
    have hfew := hA.few
    obtain ⟨ca, cc, rfl, _, _⟩ := own_form hA.ch
    obtain ⟨fa, fc, rfl, _, _⟩ := own_form hA.fl
    have HA : Hid (At s p w wr S A (.slice ca (chs p A).length cc) (.slice fa (fls p A).length fc)) := hA
    have hcl := chs_length A p
    have hfl := fls_length A p
    clear hA
    by_cases hS : 0 < S.size
    · have ho1 := one_pos S.data.toList
      have ho2 := one_len S.data.toList (fun e => by have : S.data.toList.length = S.size := Array.length_toList; rw [e] at this; simp at this; omega)
      have ho3 := one_ge S.data.toList
      have hSl : S.data.toList.length = S.size := Array.length_toList
      rw [hSl] at ho2
      go_wp2_with fail
      refine (one_any S _ hS (by omega)).mono ?_
      rintro e w1 ⟨rfl, b1⟩
      obtain ⟨r, hr⟩ : ∃ r, (one S.data.toList).1 = r := ⟨_, rfl⟩
      obtain ⟨n, hn⟩ : ∃ n, (one S.data.toList).2.1 = n := ⟨_, rfl⟩
      obtain ⟨m, hm⟩ : ∃ m, (one S.data.toList).2.2 = m := ⟨_, rfl⟩
      have HR : Hid ((one S.data.toList).1 = r) := hr
      have HN : Hid ((one S.data.toList).2.1 = n) := hn
      rw [hr] at ho3
      rw [hn] at ho1 ho2
      rw [hr, hn, hm]
      clear hr hn hm
      have bw : Below w.heap.size w w1 := HA.out.below.trans (b1.mono HA.out.below.size)
      have c1 : Chars w.heap.size (.slice ca (chs p A).length cc) (chs p A) w1 := own_below HA.out.ch b1
      have f1 : Faults w.heap.size (.slice fa (fls p A).length fc) (fls p A) w1 := own_below HA.out.fl b1
      obtain ⟨q, hq⟩ : ∃ q, p + (tot A : Nat) = q := ⟨_, rfl⟩
      have HQ : Hid (p + (tot A : Nat) = q) := hq
      have hq0 : 0 ≤ q := by omega
      have hq1 : q ≤ 1500000000000 := by omega
      rw [hq]
      have hcl2 : (chs p A).length ≤ 1000000 := by omega
      have hfl2 : (fls p A).length ≤ 1000000 := by omega
      have next : ∀ (lv fv : Value) (W : World) (R : Int), R = (if r = -1 then 65533 else r) → Chars w.heap.size lv (chs p A ++ [⟨R, q, q + (n : Int)⟩]) W → Faults w.heap.size fv (fls p A ++ (if r = -1 then [q] else [])) W → Below w.heap.size w W →
          (∃ (S' : ByteArray) (A' : List (Int × Nat)), Value.string (S.extract n S.size) = .string S' ∧ Value.int .i64 (q + (n : Int)) = .int .i64 (p + (tot A' : Nat)) ∧ At s p w W S' A' lv fv) ∧ sizeOfS (.string (S.extract n S.size)) < sizeOfS (.string S) := by
        intro lv fv W R hR hc hf hb
        have hsz : (S.extract n S.size).size = S.size - n := by rw [ByteArray.size_extract]; omega
        refine ⟨⟨_, A ++ [(r, n)], rfl, ?_, ?_, ?_, ?_, ?_, ?_, hb⟩, ?_⟩
        · rw [tot_append, tot_cons, tot_nil]
          congr 1
          have := HQ.out
          show q + (n : Int) = p + ((tot A + (n + 0) : Nat) : Int)
          omega
        · rw [HA.out.it, items_cons S.data.toList (fun e => by rw [e] at hSl; simp at hSl; omega), HR.out, HN.out, bytes_drop]
          simp
        · rw [tot_append, tot_cons, tot_nil, hsz]; have := HA.out.len; show tot A + (n + 0) + (S.size - n) = s.size; omega
        · rw [tot_append, tot_cons, tot_nil, List.length_append]; have := HA.out.few; show A.length + 1 ≤ tot A + (n + 0); omega
        · rw [chs_append, HQ.out]; simp only [chs]; rw [← hR]; exact hc
        · rw [fls_append, HQ.out]; simp only [fls]; rw [List.append_nil]; exact hf
        · simp only [sizeOfS, hsz]; omega
      have hn9 : n ≤ 100000 := by omega
      have NEXT := fun lv fv W R h1 h2 h3 h4 => (show Hid _ from next lv fv W R h1 h2 h3 h4)
      clear next hq hcl hfl hlen hfew b1
      obtain ⟨cn, hcn⟩ : ∃ n, (chs p A).length = n := ⟨_, rfl⟩
      obtain ⟨fn, hfn⟩ : ∃ n, (fls p A).length = n := ⟨_, rfl⟩
      rw [hcn] at c1 hcl2 ⊢
      rw [hfn] at f1 hfl2 ⊢
      have HCN : Hid ((chs p A).length = cn) := hcn
      have HFN : Hid ((fls p A).length = fn) := hfn
      clear hcn hfn HA
      by_cases hr : r = -1
      · subst hr
        obtain ⟨fa', fc', w2, hrun, f2, c2, b2⟩ := fault_more (p := q) bw.size c1 f1 HFN.out hfl2
        have bw2 : Below w.heap.size w w2 := bw.trans b2
        obtain ⟨ca', cc', w3, hrun2, c3, f3, b3⟩ := char_more (r := 65533) (p := q) (q := q + (n : Int)) bw2.size f2 c2 HCN.out hcl2
        have bw3 : Below w.heap.size w w3 := bw2.trans b3
        have N3 := NEXT _ _ w3 65533 rfl c3 f3 bw3
        clear NEXT c1 f1 c2 f2 c3 f3 b2 b3 bw bw2 bw3
        go_wp2_with (at_builtin; first | refine list_append_eq rfl _ _ 31 31 rfl _ _ rfl rfl hrun ?_ | refine list_append_eq rfl _ _ 50 50 rfl _ _ rfl rfl hrun2 ?_)
        exact N3.out
      · have hr0 : ¬ r < 0 := by omega
        obtain ⟨ca', cc', w3, hrun2, c3, f3, b3⟩ := char_more (r := r) (p := q) (q := q + (n : Int)) bw.size f1 c1 HCN.out hcl2
        have bw3 : Below w.heap.size w w3 := bw.trans b3
        have N3 := NEXT _ _ w3 r (by rw [if_neg hr]) c3 (by rw [if_neg hr, List.append_nil]; exact f3) bw3
        clear NEXT c1 f1 c3 f3 b3 bw bw3
        go_wp2_with (at_builtin; refine list_append_eq rfl _ _ 50 50 rfl _ _ rfl rfl hrun2 ?_)
        exact N3.out
    · have hz : S.size = 0 := by omega
      have hSl : S.data.toList.length = S.size := Array.length_toList
      have hnil : S.data.toList = [] := List.eq_nil_of_length_eq_zero (by omega)
      have e := HA.out.it
      rw [hnil, items_nil, List.append_nil] at e
      go_wp2_with fail
      go_ret2
      rw [e]
      exact ⟨_, _, _, _, _, _, rfl, HA.out.ch, HA.out.fl, HA.out.below⟩
end Go.Proofs.Ytkbakbacomidbaa.G4
