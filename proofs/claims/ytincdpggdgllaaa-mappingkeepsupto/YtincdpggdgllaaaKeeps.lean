/- The law MappingKeeps, as the program runs it, for texts of at most 2^20 bytes. -/
import Derived.Test.YtincdpggdgllaaaArgs
namespace Go.Proofs.Ytincdpggdgllaaa
open Go.ChangeShapes Go.WideShapes Go.ChangeAt Go.RowKit Go.Joins

/-- The byte at a place is the byte at the place behind the edit. -/
theorem byte_same (S s : ByteArray) (x y q v : Int) (h1 : 0 ≤ x) (h2 : x ≤ S.size) (h3 : 0 ≤ y) (h5 : 0 ≤ q) (h6 : q < S.size) (h7 : q < x ∨ x + y ≤ q)
    (hv : v = if q < x then q else q + (s.size - y)) (hq : q.toNat < S.size) (ht : v.toNat < (S.extract 0 x.toNat ++ s ++ S.extract (x + y).toNat S.size).size) :
    (S.extract 0 x.toNat ++ s ++ S.extract (x + y).toNat S.size)[v.toNat] = S[q.toNat] := by
  have z1 : (S.extract 0 x.toNat).size = x.toNat := by rw [ByteArray.size_extract]; omega
  by_cases hc : q < x
  · rw [if_pos hc] at hv
    subst hv
    rw [ByteArray.getElem_append_left (by rw [ByteArray.size_append]; omega), ByteArray.getElem_append_left (by omega), ByteArray.getElem_extract]
    congr 1; omega
  · rw [if_neg hc] at hv
    rw [ByteArray.getElem_append_right (by rw [ByteArray.size_append]; omega), ByteArray.getElem_extract]
    congr 1
    rw [ByteArray.size_append]; omega

theorem Held.drewN {E : Nat} {x y : Int} {s : ByteArray} {w0 w : World} {n : Nat} (h : Held E x y s w0 w) : Held E x y s w0 (w.drewN n) :=
  ⟨⟨h.ed.at_, h.ed.lt⟩, below_drewN h.below n⟩

set_option maxHeartbeats 1000000 in
theorem keeps_in (S s : ByteArray) (x y q : Int) (w : World) (hS : S.size ≤ 1048576) (hs : s.size ≤ 1048576) (h1 : 0 ≤ x) (h2 : x ≤ S.size) (h3 : 0 ≤ y) (h4 : y ≤ S.size - x) (h5 : 0 ≤ q) (h6 : q < S.size) (h7 : q < x ∨ x + y ≤ q) :
    Calls Try.prog 6 #[.string S, .agg #[.int .i64 x, .int .i64 y, .string s], .int .i64 q] w fun e w' => e = .returned (.bool true) ∧ Below w.heap.size w w' := by
  have hb0 : Below w.heap.size w (w.alloc (.cells #[.int .i64 x, .int .i64 y, .string s] 23)) := (Below.refl _ _).alloc (Nat.le_refl _) _
  have x0 : EdAt w.heap.size x y s (w.alloc (.cells #[.int .i64 x, .int .i64 y, .string s] 23)) := ⟨heap_alloc_new _ _, by simp⟩
  have k0 := keeps_of (w0 := w) ⟨x0, hb0⟩
  have hc : chk x y S.size = 0 := by unfold chk; rw [if_pos ⟨h1, h2, h3, h4⟩]
  have HC : Hid (chk x y S.size = 0) := hc
  have hw1 : IntKind.i64.wrap (x + y) = x + y := by rw [IntKind.wrap_i64]; omega
  have HV : Hid (s.size ≤ 140737488355328) := by show _ ≤ _; omega
  have hok : Ok x y := ⟨h1, by omega, h3, by omega⟩
  have hnear : Near q := ⟨by omega, by omega⟩
  obtain ⟨v, hv⟩ : ∃ i, Hid (pt x y s.size q true = i) := ⟨_, rfl⟩
  have hval : v = if q < x then q else q + (s.size - y) := by
    rw [← hv.out]
    unfold pt core
    rw [if_pos hnear, if_pos hok]
    simp only [if_true]
    (repeat' split) <;> omega
  have hbk : bk x y s.size v = (q, true) := by
    have hnear2 : Near v := by unfold Near; rw [hval]; split <;> omega
    unfold bk bcore
    rw [if_pos hnear2, if_pos hok]
    rw [hval]
    (repeat' split) <;> first | rfl | omega | (congr 1; omega)
  have HB : Hid (∀ w, Calls Try.prog 8 #[.agg #[.int .i64 x, .int .i64 y, .string s], .int .i64 v] w fun e w' => e = .returned (.tuple #[.int .i64 q, .bool true]) ∧ Below w.heap.size w w') := by
    intro w
    have := back_any x y s HV.out v w
    rw [hbk] at this
    exact this
  have N0 : 0 ≤ v := by rw [hval]; split <;> omega
  have N1 : Hid (v < ((S.extract 0 x.toNat ++ s ++ S.extract (x + y).toNat S.size).size : Int)) := by
    show _ < _
    rw [hval]
    simp only [ByteArray.size_append, ByteArray.size_extract]
    split <;> omega
  have HVAL : Hid (v = if q < x then q else q + (s.size - y)) := hval
  clear hok hnear hval hbk
  have h8 : x + y ≤ S.size := by omega
  have h9 : 0 ≤ x + y := by omega
  clear hb0 x0 hc
  go_enter Try.func6, Try.ntmps6
  go_wp2_with fail
  refine (rcheck_held (held_of k0) S.size (by omega) 0 HC.out).mono ?_
  rintro e w1 ⟨rfl, k1⟩
  clear k0
  go_wp2_with fail
  all_goals
    go_quiet (fail)
    go_wp2_with fail
    refine (point_held (held_of k1).drewN HV.out q true v hv.out).mono ?_
    rintro e w2 ⟨rfl, k2⟩
    clear k1
    go_wp2_with fail
    refine (call_held (held_of k2) (HB.out _)).mono ?_
    rintro e w3 ⟨rfl, k3⟩
    clear k2
    generalize hT : S.extract 0 x.toNat ++ s ++ S.extract (x + y).toNat S.size = T
    have n1 : v < (T.size : Int) := by rw [← hT]; exact N1.out
    have hTe : T[v.toNat]'(by omega) = S[q.toNat]'(by omega) := by
      subst hT
      exact byte_same S s x y q v h1 h2 h3 h5 h6 h7 HVAL.out _ _
    clear hT
    go_wp2_with fail
    go_region_held3 (fun w' => w'.cell? ⟨w.heap.size, 0, none⟩ = some (.int .i64 x) ∧ w'.cell? ⟨w.heap.size, 1, none⟩ = some (.int .i64 y) ∧ w'.cell? ⟨w.heap.size, 2, none⟩ = some (.string s) ∧ Held w.heap.size x y s w w')
      (first | assumption | exact keeps_of (Held.drew (held_of (by assumption))) | go_keep)
      (first
        | (go_at_call 14; refine (awake_held (E := w.heap.size) (w0 := w) (held_of (by assumption))).mono ?_; rintro e w' ⟨rfl, h⟩))
    all_goals
      rename_i hk
      go_wp2_with fail
      go_ret
      exact ⟨rfl, hk.2.2.2.below⟩

set_option maxHeartbeats 1000000 in
theorem keeps_out (S s : ByteArray) (x y q : Int) (w : World) (hS : S.size ≤ 1048576) (h : ¬ (chk x y S.size = 0 ∧ 0 ≤ q ∧ q < S.size ∧ (q < x ∨ x + y ≤ q))) :
    Calls Try.prog 6 #[.string S, .agg #[.int .i64 x, .int .i64 y, .string s], .int .i64 q] w fun e w' => e = .returned (.bool true) ∧ Below w.heap.size w w' := by
  have hb0 : Below w.heap.size w (w.alloc (.cells #[.int .i64 x, .int .i64 y, .string s] 23)) := (Below.refl _ _).alloc (Nat.le_refl _) _
  have x0 : EdAt w.heap.size x y s (w.alloc (.cells #[.int .i64 x, .int .i64 y, .string s] 23)) := ⟨heap_alloc_new _ _, by simp⟩
  have k0 := keeps_of (w0 := w) ⟨x0, hb0⟩
  clear hb0 x0
  by_cases hc : chk x y S.size = 0
  · have HC : Hid (chk x y S.size = 0) := hc
    have hin : 0 ≤ x ∧ x ≤ S.size ∧ 0 ≤ y ∧ y ≤ S.size - x := by
      unfold chk at hc
      split at hc
      · assumption
      · exact absurd hc (by decide)
    have hw1 : IntKind.i64.wrap (x + y) = x + y := by rw [IntKind.wrap_i64]; omega
    have hcase : q < 0 ∨ (0 ≤ q ∧ (S.size : Int) ≤ q) ∨ (0 ≤ q ∧ q < S.size ∧ x ≤ q ∧ q < x + y) := by
      have h' : ¬ (0 ≤ q ∧ q < S.size ∧ (q < x ∨ x + y ≤ q)) := fun hh => h ⟨hc, hh⟩
      omega
    clear h hc hin
    go_enter Try.func6, Try.ntmps6
    go_wp2_with fail
    refine (rcheck_held (held_of k0) S.size (by omega) 0 HC.out).mono ?_
    rintro e w1 ⟨rfl, k1⟩
    clear k0
    rcases hcase with g1 | ⟨g1, g2⟩ | ⟨g1, g2, g3, g4⟩
    all_goals
      go_wp2_with (go_at_call 14; refine (awake_held (held_of k1)).mono ?_; rintro e w2 ⟨rfl, k2⟩)
    all_goals
      go_ret
      exact ⟨rfl, k2.2.2.2.below⟩
  · have hc1 : chk x y S.size = 1 := by unfold chk at hc ⊢; split <;> simp_all
    have HC : Hid (chk x y S.size = 1) := hc1
    clear h hc hc1
    go_enter Try.func6, Try.ntmps6
    go_wp2_with fail
    refine (rcheck_held (held_of k0) S.size (by omega) 1 HC.out).mono ?_
    rintro e w1 ⟨rfl, k1⟩
    clear k0
    go_wp2_with (go_at_call 14; refine (awake_held (held_of k1)).mono ?_; rintro e w2 ⟨rfl, k2⟩)
    all_goals
      go_ret
      exact ⟨rfl, k2.2.2.2.below⟩

theorem keeps_walk (S s : ByteArray) (x y q : Int) (w : World) (hS : S.size ≤ 1048576) (hs : s.size ≤ 1048576) :
    Calls Try.prog 6 #[.string S, .agg #[.int .i64 x, .int .i64 y, .string s], .int .i64 q] w fun e w' => e = .returned (.bool true) ∧ Below w.heap.size w w' := by
  by_cases h : chk x y S.size = 0 ∧ 0 ≤ q ∧ q < S.size ∧ (q < x ∨ x + y ≤ q)
  · obtain ⟨hc, h5, h6, h7⟩ := h
    have hin : 0 ≤ x ∧ x ≤ S.size ∧ 0 ≤ y ∧ y ≤ S.size - x := by
      unfold chk at hc
      split at hc
      · assumption
      · exact absurd hc (by decide)
    exact keeps_in S s x y q w hS hs hin.1 hin.2.1 hin.2.2.1 hin.2.2.2 h5 h6 h7
  · exact keeps_out S s x y q w hS h
end Go.Proofs.Ytincdpggdgllaaa
