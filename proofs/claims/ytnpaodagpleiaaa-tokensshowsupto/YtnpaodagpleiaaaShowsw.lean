/- The walk of the law TokensShows. -/
import Derived.Test.YtnpaodagpleiaaaOne
import Derived.Test.YtnpaodagpleiaaaRs
import Derived.Deep.RegionHeld3
namespace Go.Proofs.Ytnpaodagpleiaaa
open Go.ChangeShapes Go.WideShapes Go.ChangeAt Go.RowKit Go.Joins

/-- A token in its box, with its attributes, in a world that came of w0. -/
structure Onb (w0 : World) (b : Nat) (T : Tk) (L : List At) (x : World) : Prop where
  bel : Below w0.heap.size w0 x
  ok : TkOk x T L
  box : TkBox x b T
  lt : b < x.heap.size
theorem Onb.below {w0 x x' : World} {b : Nat} {T : Tk} {L : List At} (h : Onb w0 b T L x) (k : Below x.heap.size x x') : Onb w0 b T L x' :=
  ⟨h.bel.trans (k.mono h.bel.size), h.ok.below k, h.box.below k h.lt, Nat.lt_of_lt_of_le h.lt k.size⟩
theorem Onb.drew {w0 x : World} {b : Nat} {T : Tk} {L : List At} (h : Onb w0 b T L x) : Onb w0 b T L x.drew := h.below (Below.refl _ _).drew
theorem onb_cells {w0 x : World} {b : Nat} {L : List At} {k r : Int} {nm tx : ByteArray} {ao : Option Addr} {n cap : Nat} {s : Bool} {f t : Int} (h : Onb w0 b ⟨k, r, nm, tx, ao, n, cap, s, f, t⟩ L x) :
    x.cell? ⟨b, 0, none⟩ = some (.int .i64 k) ∧ x.cell? ⟨b, 1, none⟩ = some (.int .i64 r) ∧ x.cell? ⟨b, 2, none⟩ = some (.string nm) ∧ x.cell? ⟨b, 3, none⟩ = some (.string tx) ∧ x.cell? ⟨b, 4, none⟩ = some (.slice ao n cap) ∧ x.cell? ⟨b, 5, none⟩ = some (.bool s) ∧ x.cell? ⟨b, 6, none⟩ = some (.int .i64 f) ∧ x.cell? ⟨b, 7, none⟩ = some (.int .i64 t) ∧ Onb w0 b ⟨k, r, nm, tx, ao, n, cap, s, f, t⟩ L x := ⟨h.box.c0, h.box.c1, h.box.c2, h.box.c3, h.box.c4, h.box.c5, h.box.c6, h.box.c7, h⟩
theorem onb_of {w0 x : World} {b : Nat} {L : List At} {k r : Int} {nm tx : ByteArray} {ao : Option Addr} {n cap : Nat} {s : Bool} {f t : Int}
    (h : x.cell? ⟨b, 0, none⟩ = some (.int .i64 k) ∧ x.cell? ⟨b, 1, none⟩ = some (.int .i64 r) ∧ x.cell? ⟨b, 2, none⟩ = some (.string nm) ∧ x.cell? ⟨b, 3, none⟩ = some (.string tx) ∧ x.cell? ⟨b, 4, none⟩ = some (.slice ao n cap) ∧ x.cell? ⟨b, 5, none⟩ = some (.bool s) ∧ x.cell? ⟨b, 6, none⟩ = some (.int .i64 f) ∧ x.cell? ⟨b, 7, none⟩ = some (.int .i64 t) ∧ Onb w0 b ⟨k, r, nm, tx, ao, n, cap, s, f, t⟩ L x) : Onb w0 b ⟨k, r, nm, tx, ao, n, cap, s, f, t⟩ L x := h.2.2.2.2.2.2.2.2
theorem call_onb {w0 x : World} {b : Nat} {L : List At} {k r : Int} {nm tx : ByteArray} {ao : Option Addr} {n cap : Nat} {s : Bool} {f t : Int} {g : FuncId} {args : Array Value} {v : Value} (h : Onb w0 b ⟨k, r, nm, tx, ao, n, cap, s, f, t⟩ L x)
    (hc : Calls Try.prog g args x fun e w' => e = .returned v ∧ Below x.heap.size x w') :
    Calls Try.prog g args x fun e w' => e = .returned v ∧ w'.cell? ⟨b, 0, none⟩ = some (.int .i64 k) ∧ w'.cell? ⟨b, 1, none⟩ = some (.int .i64 r) ∧ w'.cell? ⟨b, 2, none⟩ = some (.string nm) ∧ w'.cell? ⟨b, 3, none⟩ = some (.string tx) ∧ w'.cell? ⟨b, 4, none⟩ = some (.slice ao n cap) ∧ w'.cell? ⟨b, 5, none⟩ = some (.bool s) ∧ w'.cell? ⟨b, 6, none⟩ = some (.int .i64 f) ∧ w'.cell? ⟨b, 7, none⟩ = some (.int .i64 t) ∧ Onb w0 b ⟨k, r, nm, tx, ao, n, cap, s, f, t⟩ L w' := by
  refine hc.mono ?_
  rintro e w' ⟨he, k⟩
  exact ⟨he, onb_cells (h.below k)⟩

set_option maxRecDepth 10000 in
set_option maxHeartbeats 4000000 in
theorem shows_walk (w : World) (T : Tk) (L : List At) (hT : TkOk w T L) (hF : Few T L) :
    Calls Try.prog 3 #[T.val] w fun e w' => e = .returned (.bool true) ∧ Below w.heap.size w w' := by
  obtain ⟨k, r, nm, tx, ao, n, cap, s, f, t⟩ := T
  simp only [Tk.val, Tk.arr]
  obtain ⟨V, hV⟩ : ∃ V, (w.alloc (.cells #[.int .i64 k, .int .i64 r, .string nm, .string tx, .slice ao n cap, .bool s, .int .i64 f, .int .i64 t] 26)).alloc (.cells #[.int .i64 k, .int .i64 r, .string nm, .string tx, .slice ao n cap, .bool s, .int .i64 f, .int .i64 t] 26) = V := ⟨_, rfl⟩
  have B := boxed hT hV
  have ks := size_any 1 1 B.2.2.2.2 rfl (by omega)
  have HB : Hid (Onb w w.heap.size ⟨k, r, nm, tx, ao, n, cap, s, f, t⟩ L V) := ⟨B.1, B.2.1, B.2.2.1, B.2.2.2.1⟩
  have HF : Hid (Few ⟨k, r, nm, tx, ao, n, cap, s, f, t⟩ L) := hF
  clear hT B hF
  go_enter Try.func3, Try.ntmps3
  go_wp2_with fail
  refine ks.mono ?_
  rintro e w1 ⟨⟨b, rfl⟩, b1⟩
  have H1 : Hid (Onb w w.heap.size ⟨k, r, nm, tx, ao, n, cap, s, f, t⟩ L w1) := HB.out.below b1
  clear ks hV b1 HB
  cases b with
  | false =>
    go_wp2_with fail
    refine (awake_any _).mono ?_
    rintro e wz ⟨rfl, bz⟩
    have HZ : Hid (Below w.heap.size w wz) := H1.out.bel.trans (bz.mono H1.out.bel.size)
    clear bz
    go_wp2_with fail
    go_ret
    exact ⟨rfl, HZ.out⟩

  | true =>
    obtain ⟨S, hS⟩ : ∃ S, (⟨(shP ⟨k, r, nm, tx, ao, n, cap, s, f, t⟩ L).toArray⟩ : ByteArray) = S := ⟨_, rfl⟩
    obtain ⟨c, hc⟩ : ∃ c, clsP k s = c := ⟨_, rfl⟩
    have k9 : ∀ x, Onb w w.heap.size ⟨k, r, nm, tx, ao, n, cap, s, f, t⟩ L x → Calls Try.prog 9 #[.agg #[.int .i64 k, .int .i64 r, .string nm, .string tx, .slice ao n cap, .bool s, .int .i64 f, .int .i64 t]] x fun e w' => e = .returned (.string S) ∧ Below x.heap.size x w' := fun x h => by
      have := show_any h.ok HF.out
      rw [hS] at this
      exact this
    have k10 : ∀ x, Onb w w.heap.size ⟨k, r, nm, tx, ao, n, cap, s, f, t⟩ L x → Calls Try.prog 10 #[.agg #[.int .i64 k, .int .i64 r, .string nm, .string tx, .slice ao n cap, .bool s, .int .i64 f, .int .i64 t]] x fun e w' => e = .returned (.string S) ∧ Below x.heap.size x w' := fun x h => by
      have := rshow_any h.ok HF.out
      rw [hS] at this
      exact this
    have k11 : ∀ x, Calls Try.prog 11 #[.agg #[.int .i64 k, .int .i64 r, .string nm, .string tx, .slice ao n cap, .bool s, .int .i64 f, .int .i64 t]] x fun e w' => e = .returned (.int .i64 c) ∧ Below x.heap.size x w' := fun x => by
      have := class_any ⟨k, r, nm, tx, ao, n, cap, s, f, t⟩ x
      simp only at this
      rw [hc] at this
      exact this
    have k12 : ∀ x, Calls Try.prog 12 #[.agg #[.int .i64 k, .int .i64 r, .string nm, .string tx, .slice ao n cap, .bool s, .int .i64 f, .int .i64 t]] x fun e w' => e = .returned (.int .i64 c) ∧ Below x.heap.size x w' := fun x => by
      have := rclass_any ⟨k, r, nm, tx, ao, n, cap, s, f, t⟩ x
      simp only at this
      rw [hc] at this
      exact this
    clear hS hc HF
    have K := onb_cells H1.out
    clear H1
    go_wp2_with fail
    go_region_held3 (fun w' => w'.cell? ⟨w.heap.size, 0, none⟩ = some (.int .i64 k) ∧ w'.cell? ⟨w.heap.size, 1, none⟩ = some (.int .i64 r) ∧ w'.cell? ⟨w.heap.size, 2, none⟩ = some (.string nm) ∧ w'.cell? ⟨w.heap.size, 3, none⟩ = some (.string tx) ∧ w'.cell? ⟨w.heap.size, 4, none⟩ = some (.slice ao n cap) ∧ w'.cell? ⟨w.heap.size, 5, none⟩ = some (.bool s) ∧ w'.cell? ⟨w.heap.size, 6, none⟩ = some (.int .i64 f) ∧ w'.cell? ⟨w.heap.size, 7, none⟩ = some (.int .i64 t) ∧ Onb w w.heap.size ⟨k, r, nm, tx, ao, n, cap, s, f, t⟩ L w')
      (first | assumption | exact onb_cells (Onb.drew (onb_of (by assumption))) | go_keep)
      (first
        | (go_at_call 9; refine (call_onb (onb_of (by assumption)) (k9 _ (onb_of (by assumption)))).mono ?_; rintro e w' ⟨rfl, h⟩)
        | (go_at_call 10; refine (call_onb (onb_of (by assumption)) (k10 _ (onb_of (by assumption)))).mono ?_; rintro e w' ⟨rfl, h⟩)
        | (go_at_call 11; refine (call_onb (onb_of (by assumption)) (k11 _)).mono ?_; rintro e w' ⟨rfl, h⟩)
        | (go_at_call 12; refine (call_onb (onb_of (by assumption)) (k12 _)).mono ?_; rintro e w' ⟨rfl, h⟩)
        | (go_at_call 8; refine (call_onb (onb_of (by assumption)) (awake_any _)).mono ?_; rintro e w' ⟨rfl, h⟩))
    have HZ : Hid (Below w.heap.size w w') := (onb_of h).bel
    clear h K k9 k10 k11 k12
    go_wp2_with fail
    go_ret
    exact ⟨rfl, HZ.out⟩
end Go.Proofs.Ytnpaodagpleiaaa
