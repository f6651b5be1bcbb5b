/- A place behind any edits, one behind the other: the program's Through and the document's, for texts of at most 2^47 bytes. -/
import Derived.Test.YtincdpggdgllaaaEd
namespace Go.Proofs.Ytincdpggdgllaaa
open Go.RowKit

/-- An edit. -/
structure Edit where
  a : Int
  d : Int
  s : ByteArray

/-- A row of edits that came in. -/
def EdRow (w : World) (lo : Option Addr) (len : Nat) (f : Nat → Edit) : Prop :=
  ∀ i, i < len → ∃ b off, lo = some ⟨b, off, none⟩ ∧ b < w.heap.size ∧ (f i).s.size ≤ 140737488355328 ∧ w.cell? ⟨b, off + i * 3, none⟩ = some (.int .i64 (f i).a) ∧ w.cell? ⟨b, off + i * 3 + 1, none⟩ = some (.int .i64 (f i).d) ∧ w.cell? ⟨b, off + i * 3 + 2, none⟩ = some (.string (f i).s)

/-- A place behind the first k of them. -/
def thr (f : Nat → Edit) (o : Bool) (q : Int) : Nat → Int
  | 0 => q
  | k + 1 => pt (f k).a (f k).d (f k).s.size (thr f o q k) o

set_option maxHeartbeats 1000000 in
theorem through_any (lo : Option Addr) (len cap : Nat) (f : Nat → Edit) (q : Int) (o : Bool) (w : World) (hlen : len ≤ 1000) (hrow : EdRow w lo len f) :
    Calls Try.prog 19 #[.slice lo len cap, .int .i64 q, .bool o] w fun e w' => e = .returned (.int .i64 (thr f o q len)) ∧ Below w.heap.size w w' := by
  have HR : Hid (EdRow w lo len f) := hrow
  clear hrow
  go_enter Try.func19, Try.ntmps19
  go_wp2_with fail
  go_loopw [1, 11] (fun v i wr => ∃ k : Nat, k ≤ len ∧ i = .int .i64 k ∧ v = .int .i64 (thr f o q k) ∧ Below w.heap.size w wr) (fun _ i _ => len - (intOf i).toNat)
  case atStart => exact ⟨0, Nat.zero_le _, rfl, rfl, Below.refl _ _⟩
  case round =>
    obtain ⟨k, hk, rfl, rfl, hbl⟩ := hrel
    by_cases hlt : k < len
    · obtain ⟨b0, off, hlo, hb0, hsz, c0, c1, c2⟩ := HR.out k hlt
      subst hlo
      have HZ : Hid ((f k).s.size ≤ 140737488355328) := hsz
      have d0 := (hbl.cell (p := ⟨b0, off + k * 3, none⟩) hb0).trans c0
      have d1 := (hbl.cell (p := ⟨b0, off + k * 3 + 1, none⟩) hb0).trans c1
      have d2 := (hbl.cell (p := ⟨b0, off + k * 3 + 2, none⟩) hb0).trans c2
      have z2 := hbl.size
      have HT : Hid (thr f o q (k + 1) = pt (f k).a (f k).d (f k).s.size (thr f o q k) o) := rfl
      generalize thr f o q k = v at *
      clear hsz c0 c1 c2
      have hbl2 : Below w.heap.size w (wr.alloc (.cells #[.int .i64 (f k).a, .int .i64 (f k).d, .string (f k).s] 23)) := hbl.alloc z2 _
      go_wp2_with fail
      refine (point_any _ _ _ HZ.out v o _).mono ?_
      rintro e w3 ⟨rfl, b3⟩
      have hbl3 := hbl2.trans (b3.mono hbl2.size)
      clear b3 hbl2 d0 d1 d2 HR
      go_wp2_with fail
      exact ⟨⟨k + 1, by omega, by go_num, by rw [HT.out], hbl3⟩, by simp [intOf]; omega⟩
    · obtain rfl : k = len := by omega
      clear HR
      go_wp2_with fail
      go_ret
      exact ⟨rfl, hbl⟩

set_option maxHeartbeats 1000000 in
theorem rthrough_any (lo : Option Addr) (len cap : Nat) (f : Nat → Edit) (q : Int) (o : Bool) (w : World) (hlen : len ≤ 1000) (hrow : EdRow w lo len f) :
    Calls Try.prog 20 #[.slice lo len cap, .int .i64 q, .bool o] w fun e w' => e = .returned (.int .i64 (thr f o q len)) ∧ Below w.heap.size w w' := by
  have HR : Hid (EdRow w lo len f) := hrow
  clear hrow
  go_enter Try.func20, Try.ntmps20
  go_wp2_with fail
  go_loopw [1, 7] (fun v i wr => ∃ k : Nat, k ≤ len ∧ i = .int .i64 k ∧ v = .int .i64 (thr f o q k) ∧ Below w.heap.size w wr) (fun _ i _ => len - (intOf i).toNat)
  case atStart => exact ⟨0, Nat.zero_le _, rfl, rfl, Below.refl _ _⟩
  case round =>
    obtain ⟨k, hk, rfl, rfl, hbl⟩ := hrel
    by_cases hlt : k < len
    · obtain ⟨b0, off, hlo, hb0, hsz, c0, c1, c2⟩ := HR.out k hlt
      subst hlo
      have HZ : Hid ((f k).s.size ≤ 140737488355328) := hsz
      have d0 := (hbl.cell (p := ⟨b0, off + k * 3, none⟩) hb0).trans c0
      have d1 := (hbl.cell (p := ⟨b0, off + k * 3 + 1, none⟩) hb0).trans c1
      have d2 := (hbl.cell (p := ⟨b0, off + k * 3 + 2, none⟩) hb0).trans c2
      have z2 := hbl.size
      have HT : Hid (thr f o q (k + 1) = pt (f k).a (f k).d (f k).s.size (thr f o q k) o) := rfl
      generalize thr f o q k = v at *
      clear hsz c0 c1 c2
      have hbl2 := hbl
      go_wp2_with fail
      refine (rpoint_any _ _ _ HZ.out v o _).mono ?_
      rintro e w3 ⟨rfl, b3⟩
      have hbl3 := hbl2.trans (b3.mono hbl2.size)
      clear b3 hbl2 d0 d1 d2 HR
      go_wp2_with fail
      exact ⟨⟨k + 1, by omega, by go_num, by rw [HT.out], hbl3⟩, by simp [intOf]; omega⟩
    · obtain rfl : k = len := by omega
      clear HR
      go_wp2_with fail
      go_ret
      exact ⟨rfl, hbl⟩
end Go.Proofs.Ytincdpggdgllaaa
