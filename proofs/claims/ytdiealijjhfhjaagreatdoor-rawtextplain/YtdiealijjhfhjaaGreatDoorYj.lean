/- Faults that are put in order: how they lie in memory, what a swap makes of them, the comparison. -/
import Derived.Test.YtdiealijjhfhjaaGreatDoorZh
namespace Go.Proofs.YtdiealijjhfhjaaGreatDoor.So
open Go.RowKit
structure E where
  c : Int
  a : Int
  t : Nat
def E.lt (x y : E) : Prop := x.a < y.a ∨ (x.a = y.a ∧ x.t < y.t)
theorem E.lt.trans {x y z : E} (h : x.lt y) (k : y.lt z) : x.lt z := by unfold E.lt at *; omega
def swp (f : Nat → E) (i j : Nat) : Nat → E := fun p => if p = i then f j else if p = j then f i else f p
def HF (w : World) (k m n : Nat) (f : Nat → E) : Prop := ∃ cur, w.heap[k]? = some (.cells cur 57 (0, 0)) ∧ cur.size = m ∧ n * 2 ≤ m ∧
  ∀ i, i < n → cur[i * 2]? = some (.int .i64 (f i).c) ∧ cur[i * 2 + 1]? = some (.int .i64 (f i).a)
structure Mv (k : Nat) (w w' : World) : Prop where
  os : w'.os = w.os
  tape : w'.tape = w.tape
  output : w'.output = w.output
  size : w.heap.size ≤ w'.heap.size
  block : ∀ i, i < w.heap.size → i ≠ k → w'.heap[i]? = w.heap[i]?
theorem Mv.refl (k : Nat) (w : World) : Mv k w w := ⟨rfl, rfl, rfl, Nat.le_refl _, fun _ _ _ => rfl⟩
theorem Mv.trans {k : Nat} {a b c : World} (h : Mv k a b) (g : Mv k b c) : Mv k a c :=
  ⟨g.os.trans h.os, g.tape.trans h.tape, g.output.trans h.output, Nat.le_trans h.size g.size, fun i h1 h2 => (g.block i (Nat.lt_of_lt_of_le h1 h.size) h2).trans (h.block i h1 h2)⟩
theorem Mv.below {k : Nat} {w w1 w2 : World} (h : Mv k w w1) (b : Below w1.heap.size w1 w2) : Mv k w w2 :=
  h.trans ⟨b.os, b.tape, b.output, b.size, fun i hi _ => b.block i hi⟩
theorem Mv.set {k : Nat} {w w' : World} (h : Mv k w w') (i : Nat) (u : Value) : Mv k w (w'.setCell ⟨k, i, none⟩ u) :=
  h.trans ⟨rfl, rfl, rfl, by simp [World.setCell], fun j _ hj => Below.heap_setCell _ _ _ _ hj⟩
theorem HF.lt {w : World} {k m n : Nat} {f : Nat → E} (h : HF w k m n f) : k < w.heap.size := by
  obtain ⟨cur, h1, _⟩ := h
  exact (Array.getElem?_eq_some_iff.1 h1).1
theorem HF.below {w w' : World} {k m n : Nat} {f : Nat → E} (h : HF w k m n f) (b : Below w.heap.size w w') : HF w' k m n f := by
  have hk := h.lt
  obtain ⟨cur, h1, rest⟩ := h
  exact ⟨cur, (b.block k hk).trans h1, rest⟩
theorem HF.cells {w : World} {k m n : Nat} {f : Nat → E} (h : HF w k m n f) (i : Nat) (hi : i < n) : ∃ c a, (f i).c = c ∧ (f i).a = a ∧ w.cell? ⟨k, i * 2, none⟩ = some (.int .i64 c) ∧ w.cell? ⟨k, i * 2 + 1, none⟩ = some (.int .i64 a) ∧
    w.frozen? ⟨k, i * 2, none⟩ = false ∧ w.frozen? ⟨k, i * 2 + 1, none⟩ = false := by
  obtain ⟨cur, h1, h2, h3, h4⟩ := h
  refine ⟨_, _, rfl, rfl, ?_, ?_, ?_, ?_⟩
  · simp [World.cell?, h1, (h4 i hi).1]
  · simp [World.cell?, h1, (h4 i hi).2]
  · simp [World.frozen?, h1]
  · simp [World.frozen?, h1]
theorem HF.put {w : World} {k m n : Nat} {f : Nat → E} (h : HF w k m n f) (i : Nat) (hi : i < n) (e : E) : HF ((w.setCell ⟨k, i * 2, none⟩ (.int .i64 e.c)).setCell ⟨k, i * 2 + 1, none⟩ (.int .i64 e.a)) k m n (fun p => if p = i then e else f p) := by
  obtain ⟨cur, h1, h2, h3, h4⟩ := h
  refine ⟨(cur.set! (i * 2) (.int .i64 e.c)).set! (i * 2 + 1) (.int .i64 e.a), by simp [World.setCell, Array.getElem?_modify, h1], by simp [h2], h3, fun p hp => ?_⟩
  by_cases e1 : p = i
  · subst e1
    simp only [if_pos]
    constructor
    · rw [Array.set!_eq_setIfInBounds, Array.getElem?_setIfInBounds_ne (by omega), Array.set!_eq_setIfInBounds, Array.getElem?_setIfInBounds_self_of_lt (by omega)]
    · rw [Array.set!_eq_setIfInBounds, Array.getElem?_setIfInBounds_self_of_lt (by rw [Array.set!_eq_setIfInBounds, Array.size_setIfInBounds]; omega)]
  · simp only [if_neg e1]
    constructor
    · rw [Array.set!_eq_setIfInBounds, Array.getElem?_setIfInBounds_ne (by omega), Array.set!_eq_setIfInBounds, Array.getElem?_setIfInBounds_ne (by omega)]; exact (h4 p hp).1
    · rw [Array.set!_eq_setIfInBounds, Array.getElem?_setIfInBounds_ne (by omega), Array.set!_eq_setIfInBounds, Array.getElem?_setIfInBounds_ne (by omega)]; exact (h4 p hp).2
def cmpI (x y : Int) : Int := if x < y then -1 else if x > y then 1 else 0
set_option maxHeartbeats 400000 in
theorem nan_any (x : Int) (w : World) : Calls Tryz.prog 88 #[.int .i64 x] w fun e w' => e = .returned (.bool false) ∧ w' = w := by
  go_enter Tryz.func88, Tryz.ntmps88
  go_wp2_with fail
  go_ret
  simp
set_option maxHeartbeats 400000 in
theorem compare_any (x y : Int) (w : World) : Calls Tryz.prog 57 #[.int .i64 x, .int .i64 y] w fun e w' => e = .returned (.int .i64 (cmpI x y)) ∧ w' = w := by
  go_enter Tryz.func57, Tryz.ntmps57
  go_wp2_with fail
  refine (nan_any x w).mono ?_
  rintro e w1 ⟨rfl, hw⟩
  obtain rfl := hw.symm
  go_wp2_with fail
  refine (nan_any y w).mono ?_
  rintro e w1 ⟨rfl, hw⟩
  obtain rfl := hw.symm
  by_cases h1 : x < y
  · have g1 : decide (x < y) = true := decide_eq_true h1
    go_wp2_with fail
    go_ret
    exact ⟨by simp [cmpI, h1], rfl⟩
  · have g1 : decide (x < y) = false := decide_eq_false h1
    by_cases h2 : x > y
    · have g2 : decide (x > y) = true := decide_eq_true h2
      go_wp2_with fail
      go_ret
      exact ⟨by simp [cmpI, h1, h2], rfl⟩
    · have g2 : decide (x > y) = false := decide_eq_false h2
      go_wp2_with fail
      go_ret
      refine ⟨?_, rfl⟩
      have e : cmpI x y = 0 := by unfold cmpI; rw [if_neg (by omega), if_neg (by omega)]
      rw [e]
      rfl
set_option maxHeartbeats 400000 in
theorem cmp_any (c a c' a' : Int) (w : World) : Calls Tryz.prog 56 #[.agg #[.int .i64 c, .int .i64 a], .agg #[.int .i64 c', .int .i64 a']] w fun e w' => e = .returned (.int .i64 (cmpI a a')) ∧ Below w.heap.size w w' := by
  have hb : Below w.heap.size w ((w.alloc (.cells #[.int .i64 c, .int .i64 a] 57)).alloc (.cells #[.int .i64 c', .int .i64 a'] 57)) := ((Below.refl _ _).alloc (Nat.le_refl _) _).alloc (by simp) _
  have HB : Hid (Below w.heap.size w ((w.alloc (.cells #[.int .i64 c, .int .i64 a] 57)).alloc (.cells #[.int .i64 c', .int .i64 a'] 57))) := hb
  clear hb
  go_enter Tryz.func56, Tryz.ntmps56
  go_wp2_with fail
  refine (compare_any a a' _).mono ?_
  rintro e w1 ⟨rfl, rfl⟩
  go_wp2_with fail
  go_ret
  exact ⟨rfl, HB.out⟩
end Go.Proofs.YtdiealijjhfhjaaGreatDoor.So
namespace Go.Proofs.YtdiealijjhfhjaaGreatDoor.So
open Go.RowKit
def swr (f : Nat → E) (a b n : Nat) : Nat → E := fun p => if a ≤ p ∧ p < a + n then f (p - a + b) else if b ≤ p ∧ p < b + n then f (p - b + a) else f p
theorem swr_zero (f : Nat → E) (a b : Nat) : swr f a b 0 = f := by
  funext p
  unfold swr
  rw [if_neg (by omega), if_neg (by omega)]
theorem swr_succ (f : Nat → E) (a b n : Nat) (h : a + n < b) : swp (swr f a b n) (a + n) (b + n) = swr f a b (n + 1) := by
  funext p
  unfold swp swr
  by_cases h1 : p = a + n
  · subst h1
    rw [if_pos rfl, if_neg (by omega), if_neg (by omega), if_pos (by omega)]
    congr 1; omega
  · rw [if_neg h1]
    by_cases h2 : p = b + n
    · subst h2
      rw [if_pos rfl, if_neg (by omega), if_neg (by omega), if_neg (by omega), if_pos (by omega)]
      congr 1; omega
    · rw [if_neg h2]
      have k1 : (a ≤ p ∧ p < a + n) ↔ (a ≤ p ∧ p < a + (n + 1)) := by omega
      have k2 : (b ≤ p ∧ p < b + n) ↔ (b ≤ p ∧ p < b + (n + 1)) := by omega
      simp only [k1, k2]
theorem swp_put (f : Nat → E) (i j : Nat) : (fun p => if p = j then f i else (if p = i then f j else f p)) = swp f i j ∨ i = j := by
  by_cases h : i = j
  · exact .inr h
  · refine .inl ?_
    funext p
    unfold swp
    by_cases h1 : p = j
    · subst h1
      rw [if_pos rfl, if_neg (fun e => h e.symm), if_pos rfl]
    · rw [if_neg h1]
      by_cases h2 : p = i
      · rw [if_pos h2, if_pos h2]
      · rw [if_neg h2, if_neg h2, if_neg h1]
theorem HF.swap {w : World} {k m n : Nat} {f : Nat → E} (h : HF w k m n f) {i j : Nat} {ci ai cj aj : Int} (hi : i < n) (hj : j < n) (hij : i ≠ j) (h1 : (f i).c = ci) (h2 : (f i).a = ai) (h3 : (f j).c = cj) (h4 : (f j).a = aj) :
    HF ((((w.setCell ⟨k, i * 2, none⟩ (.int .i64 cj)).setCell ⟨k, i * 2 + 1, none⟩ (.int .i64 aj)).setCell ⟨k, j * 2, none⟩ (.int .i64 ci)).setCell ⟨k, j * 2 + 1, none⟩ (.int .i64 ai)) k m n (swp f i j) := by
  have q := (h.put i hi (f j)).put j hj (f i)
  rw [h1, h2, h3, h4] at q
  rcases swp_put f i j with e | e
  · rw [← e]; exact q
  · exact absurd e hij
theorem Mv.swap {k : Nat} {w w' : World} (h : Mv k w w') (i j : Nat) (a b c d : Value) : Mv k w ((((w'.setCell ⟨k, i * 2, none⟩ a).setCell ⟨k, i * 2 + 1, none⟩ b).setCell ⟨k, j * 2, none⟩ c).setCell ⟨k, j * 2 + 1, none⟩ d) :=
  (((h.set _ _).set _ _).set _ _).set _ _
abbrev sl (k n cap : Nat) : Value := .slice (some ⟨k, 0, none⟩) n cap
abbrev cf : Value := .func (.func 56) #[] #[]
set_option maxHeartbeats 1000000 in
theorem swr_any (k m n cap : Nat) (f : Nat → E) (a b c : Nat) (w : World) (hn : n ≤ 1000000) (hH : HF w k m n f) (hab : a + c ≤ b) (hb : b + c ≤ n) :
    Calls Tryz.prog 198 #[sl k n cap, .int .i64 a, .int .i64 b, .int .i64 c, cf] w fun e w' => e = .returned (.tuple #[]) ∧ HF w' k m n (swr f a b c) ∧ Mv k w w' := by
  have HH : Hid (HF w k m n f) := hH
  clear hH
  go_enter Tryz.func198, Tryz.ntmps198
  go_wp2_with fail
  go_loopw [10] (fun iv wr => ∃ i : Nat, iv = .int .i64 i ∧ i ≤ c ∧ HF wr k m n (swr f a b i) ∧ Mv k w wr) (fun iv _ => c - (intOf iv).toNat)
  case atStart => exact ⟨0, rfl, Nat.zero_le _, by rw [swr_zero]; exact HH.out, Mv.refl _ _⟩
  case round =>
    obtain ⟨i, rfl, hic, hh, hm⟩ := hrel
    have HR : Hid (HF wr k m n (swr f a b i) ∧ Mv k w wr) := ⟨hh, hm⟩
    by_cases hlt : i < c
    · obtain ⟨x, hx⟩ : ∃ x, a + i = x := ⟨_, rfl⟩
      obtain ⟨y, hy⟩ : ∃ y, b + i = y := ⟨_, rfl⟩
      obtain ⟨c1, a1, e1, e2, q1, q2, z1, z2⟩ := hh.cells x (by omega)
      obtain ⟨c2, a2, e3, e4, q3, q4, z3, z4⟩ := hh.cells y (by omega)
      have hkr := hh.lt
      have hxn : x < n := by omega
      have hyn : y < n := by omega
      have hxy : x ≠ y := by omega
      have hxx : (a : Int) + (i : Int) = (x : Int) := by omega
      have hyy : (b : Int) + (i : Int) = (y : Int) := by omega
      have HE : Hid ((swr f a b i x).c = c1 ∧ (swr f a b i x).a = a1 ∧ (swr f a b i y).c = c2 ∧ (swr f a b i y).a = a2 ∧ a + i = x ∧ b + i = y) := ⟨e1, e2, e3, e4, hx, hy⟩
      clear hh hm e1 e2 e3 e4 hx hy
      have hlt' : decide ((i : Int) < (c : Int)) = true := decide_eq_true (by omega)
      go_wp2_with fail
      go_region
      have HK : Hid (HF ((((wr.setCell ⟨k, x * 2, none⟩ (.int .i64 c2)).setCell ⟨k, x * 2 + 1, none⟩ (.int .i64 a2)).setCell ⟨k, y * 2, none⟩ (.int .i64 c1)).setCell ⟨k, y * 2 + 1, none⟩ (.int .i64 a1)).drew k m n (swr f a b (i + 1)) ∧
          Mv k w ((((wr.setCell ⟨k, x * 2, none⟩ (.int .i64 c2)).setCell ⟨k, x * 2 + 1, none⟩ (.int .i64 a2)).setCell ⟨k, y * 2, none⟩ (.int .i64 c1)).setCell ⟨k, y * 2 + 1, none⟩ (.int .i64 a1)).drew) := by
        obtain ⟨e1, e2, e3, e4, rfl, rfl⟩ := HE.out
        refine ⟨?_, (HR.out.2.swap _ _ _ _ _ _).below ((Below.refl _ _).drew)⟩
        rw [← swr_succ f a b i (by omega)]
        exact (HR.out.1.swap hxn hyn hxy e1 e2 e3 e4).below ((Below.refl _ _).drew)
      clear HE HR q1 q2 q3 q4 z1 z2 z3 z4 hkr
      generalize ((((wr.setCell ⟨k, x * 2, none⟩ (.int .i64 c2)).setCell ⟨k, x * 2 + 1, none⟩ (.int .i64 a2)).setCell ⟨k, y * 2, none⟩ (.int .i64 c1)).setCell ⟨k, y * 2 + 1, none⟩ (.int .i64 a1)).drew = W at HK ⊢
      go_wp2_with fail
      exact ⟨⟨i + 1, by go_num, by omega, HK.out.1, HK.out.2⟩, by simp [intOf]; omega⟩
    · obtain rfl : i = c := by omega
      have hlt' : decide ((i : Int) < (i : Int)) = false := decide_eq_false (by omega)
      clear hh hm
      go_wp2_with fail
      exact bodyPost_end (results_none rfl _ _ _) rfl ⟨rfl, HR.out.1, HR.out.2⟩
end Go.Proofs.YtdiealijjhfhjaaGreatDoor.So
namespace Go.Proofs.YtdiealijjhfhjaaGreatDoor.So
open Go.RowKit
def rot (f : Nat → E) (a m b : Nat) : Nat → E := fun p => if a ≤ p ∧ p < a + (b - m) then f (p + (m - a)) else if a + (b - m) ≤ p ∧ p < b then f (p - (b - m)) else f p
theorem rot_gt (f : Nat → E) (m i j : Nat) (him : i ≤ m) (h : j < i) : rot (swr f (m - i) m j) (m - (i - j)) m (m + j) = rot f (m - i) m (m + j) := by
  funext p
  unfold rot swr
  have e1 : m - (m - (i - j)) = i - j := by omega
  have e2 : m + j - m = j := by omega
  have e3 : m - (m - i) = i := by omega
  simp only [e1, e2, e3]
  clear e1 e2 e3
  repeat' split
  all_goals first | (exfalso; omega) | rfl | (congr 1; omega)
theorem rot_lt (f : Nat → E) (m i j : Nat) (him : i ≤ m) (h : i < j) : rot (swr f (m - i) (m + j - i) i) (m - i) m (m + (j - i)) = rot f (m - i) m (m + j) := by
  funext p
  unfold rot swr
  have e1 : m + (j - i) - m = j - i := by omega
  have e2 : m + j - m = j := by omega
  have e3 : m - (m - i) = i := by omega
  simp only [e1, e2, e3]
  clear e1 e2 e3
  repeat' split
  all_goals first | (exfalso; omega) | rfl | (congr 1; omega)
theorem rot_eq (f : Nat → E) (m i : Nat) (him : i ≤ m) : swr f (m - i) m i = rot f (m - i) m (m + i) := by
  funext p
  unfold rot swr
  have e2 : m + i - m = i := by omega
  have e3 : m - (m - i) = i := by omega
  simp only [e2, e3]
  clear e2 e3
  repeat' split
  all_goals first | (exfalso; omega) | rfl | (congr 1; omega)
set_option maxHeartbeats 1000000 in
theorem rot_any (k m0 n cap : Nat) (f : Nat → E) (a m b : Nat) (w : World) (hn : n ≤ 1000000) (hH : HF w k m0 n f) (ham : a < m) (hmb : m < b) (hb : b ≤ n) :
    Calls Tryz.prog 165 #[sl k n cap, .int .i64 a, .int .i64 m, .int .i64 b, cf] w fun e w' => e = .returned (.tuple #[]) ∧ HF w' k m0 n (rot f a m b) ∧ Mv k w w' := by
  have HH : Hid (HF w k m0 n f) := hH
  obtain ⟨R, hR⟩ : ∃ R, rot f a m b = R := ⟨_, rfl⟩
  have HR : Hid (rot f a m b = R) := hR
  rw [hR]
  clear hH hR
  go_enter Tryz.func165, Tryz.ntmps165
  go_wp2_with fail
  go_loopw [10, 11] (fun iv jv wr => ∃ (i j : Nat) (g : Nat → E), iv = .int .i64 i ∧ jv = .int .i64 j ∧ 0 < i ∧ 0 < j ∧ i ≤ m ∧ m + j ≤ n ∧ rot g (m - i) m (m + j) = R ∧ HF wr k m0 n g ∧ Mv k w wr) (fun iv jv _ => (intOf iv).toNat + (intOf jv).toNat)
  case atStart =>
    refine ⟨m - a, b - m, f, by go_num, by go_num, by omega, by omega, by omega, by omega, ?_, HH.out, Mv.refl _ _⟩
    rw [show m - (m - a) = a by omega, show m + (b - m) = b by omega]
    exact HR.out
  case round =>
    obtain ⟨i, j, g, rfl, rfl, hi, hj, him, hjn, hg, hh, hm⟩ := hrel
    have HG : Hid (rot g (m - i) m (m + j) = R ∧ HF wr k m0 n g ∧ Mv k w wr) := ⟨hg, hh, hm⟩
    obtain ⟨x, hx⟩ : ∃ x, m - i = x := ⟨_, rfl⟩
    have hxx : (m : Int) - (i : Int) = (x : Int) := by omega
    clear hg hh hm HR HH
    rcases Nat.lt_trichotomy i j with h | h | h
    · have h1 : ((i : Int) != (j : Int)) = true := by simp; omega
      have h2 : decide ((i : Int) > (j : Int)) = false := decide_eq_false (by omega)
      obtain ⟨y, hy⟩ : ∃ y, m + j - i = y := ⟨_, rfl⟩
      have hyy : (m : Int) + (j : Int) - (i : Int) = (y : Int) := by omega
      go_wp2_with fail
      refine (swr_any k m0 n cap g x y i wr hn HG.out.2.1 (by omega) (by omega)).mono ?_
      rintro e w1 ⟨rfl, k1, k2⟩
      have HK : Hid (HF w1 k m0 n (swr g x y i) ∧ Mv k wr w1) := ⟨k1, k2⟩
      clear k1 k2
      go_wp2_with fail
      refine ⟨⟨i, j - i, swr g x y i, rfl, by go_num, by omega, by omega, by omega, by omega, ?_, HK.out.1, HG.out.2.2.trans HK.out.2⟩, by simp [intOf]; omega⟩
      rw [← HG.out.1, ← hx, ← hy]
      exact rot_lt g m i j him h
    · subst h
      have h1 : ((i : Int) != (i : Int)) = false := by simp
      go_wp2_with fail
      refine (swr_any k m0 n cap g x m i wr hn HG.out.2.1 (by omega) (by omega)).mono ?_
      rintro e w1 ⟨rfl, k1, k2⟩
      have HK : Hid (HF w1 k m0 n (swr g x m i) ∧ Mv k wr w1) := ⟨k1, k2⟩
      clear k1 k2
      go_wp2_with fail
      refine bodyPost_end (results_none rfl _ _ _) rfl ⟨rfl, ?_, HG.out.2.2.trans HK.out.2⟩
      rw [← HG.out.1, ← rot_eq g m i him, hx]
      exact HK.out.1
    · have h1 : ((i : Int) != (j : Int)) = true := by simp; omega
      have h2 : decide ((i : Int) > (j : Int)) = true := decide_eq_true (by omega)
      go_wp2_with fail
      refine (swr_any k m0 n cap g x m j wr hn HG.out.2.1 (by omega) (by omega)).mono ?_
      rintro e w1 ⟨rfl, k1, k2⟩
      have HK : Hid (HF w1 k m0 n (swr g x m j) ∧ Mv k wr w1) := ⟨k1, k2⟩
      clear k1 k2
      go_wp2_with fail
      refine ⟨⟨i - j, j, swr g x m j, by go_num, rfl, by omega, by omega, by omega, by omega, ?_, HK.out.1, HG.out.2.2.trans HK.out.2⟩, by simp [intOf]; omega⟩
      rw [← HG.out.1, ← hx]
      exact rot_gt g m i j him h
end Go.Proofs.YtdiealijjhfhjaaGreatDoor.So
