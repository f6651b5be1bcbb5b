/- waits, tell, release: the line end that waits, and what is told. -/
import Derived.Test.YtkphiopeclgffaaStr
import Derived.Test.YtkphiopeclgffaaBad
namespace Go.Proofs.Ytkphiopeclgffaa
open Go.RowKit

def Ch.val (c : Ch) : Value := .agg #[.int .i64 c.r, .int .i64 c.a, .int .i64 c.z]

set_option maxHeartbeats 1000000 in
theorem waits_any {x d : Nat} {wt : Ch} {w : World} (h : StrIs x d wt w) : Calls Try.prog 31 #[.pointer (some ⟨x, 0, none⟩)] w fun e w' => e = .returned (.bool (decide (wt.a < wt.z))) ∧ Below w.heap.size w w' := by
  obtain ⟨hx, c0, c1, c2, c3, _⟩ := str_cells h
  clear h
  go_enter Try.func31, Try.ntmps31
  go_wp2_with fail
  go_quiet (fail)
  go_wp2_with fail
  go_ret
  exact ⟨rfl, below_drewN (Below.refl _ _) nq⟩

theorem waits_as {x d : Nat} {wt : Ch} {w : World} (b : Bool) (h : StrIs x d wt w) (hb : decide (wt.a < wt.z) = b) : Calls Try.prog 31 #[.pointer (some ⟨x, 0, none⟩)] w fun e w' => e = .returned (.bool b) ∧ Below w.heap.size w w' := by
  subst hb; exact waits_any h

/-- What stands when a character has been stored. -/
structure MidC (S : Nat → Prop) (t : Nat) (cs : List Ch) (fs : List (Int × Int)) (w wc : World) : Prop where
  lies : Lies S t cs fs wc
  keep : Keep S w wc
  off : Off w wc

set_option maxHeartbeats 4000000 in
theorem tellc_any {S : Nat → Prop} {t : Nat} {cs : List Ch} {fs : List (Int × Int)} {w : World} (c : Ch) (hl : Lies S t cs fs w) (hn : cs.length ≤ 1000000) :
    Calls Try.prog 32 #[.pointer (some ⟨t, 0, none⟩), c.val] w fun e w' => e = .returned (.tuple #[]) ∧ Lies S t (cs ++ [c]) fs w' ∧ Keep S w w' ∧ Off w w' := by
  obtain ⟨r, p, q⟩ := c
  show Calls Try.prog 32 #[.pointer (some ⟨t, 0, none⟩), .agg #[.int .i64 r, .int .i64 p, .int .i64 q]] w _
  have hb0 : Below w.heap.size w (w.alloc (.cells #[.int .i64 r, .int .i64 p, .int .i64 q] 37)) := (Below.refl _ _).alloc (Nat.le_refl _) _
  have hl1 := lies_below hl hb0
  obtain ⟨ao, ca, ao2, ca2, htw, t0, t1, hb, _, _, _, _⟩ := lies_cells hl1
  have htw0 : t < w.heap.size := by obtain ⟨_, _, _, _, h, _⟩ := lies_cells hl; exact h
  obtain ⟨ao', c', W', hrun, x0, xf, hT, hK, hO⟩ := put_char (r := r) (p := p) (q := q) hl1 hn rfl rfl hb
  obtain ⟨k, hk⟩ : ∃ k, cs.length = k := ⟨_, rfl⟩
  rw [hk] at hrun t0 x0 hn hT hK hO
  have HM : Hid (MidC S t (cs ++ [⟨r, p, q⟩]) fs w (W'.setCell ⟨t, 0, none⟩ (.slice ao' (k + 1) c'))) := ⟨hT, (Keep.ofOld hb0).trans hK, (Off.ofOld hb0).trans hO⟩
  have c0 : (w.alloc (.cells #[.int .i64 r, .int .i64 p, .int .i64 q] 37)).cell? ⟨w.heap.size, 0, none⟩ = some (.int .i64 r) := by rw [World.cell?_alloc_at _ _ _ _ rfl]; rfl
  have c1 : (w.alloc (.cells #[.int .i64 r, .int .i64 p, .int .i64 q] 37)).cell? ⟨w.heap.size, 1, none⟩ = some (.int .i64 p) := by rw [World.cell?_alloc_at _ _ _ _ rfl]; rfl
  have c2 : (w.alloc (.cells #[.int .i64 r, .int .i64 p, .int .i64 q] 37)).cell? ⟨w.heap.size, 2, none⟩ = some (.int .i64 q) := by rw [World.cell?_alloc_at _ _ _ _ rfl]; rfl
  have hz : w.heap.size < (w.alloc (.cells #[.int .i64 r, .int .i64 p, .int .i64 q] 37)).heap.size := by simp
  clear hT hK hO hb hl hl1 hk t1 hb0
  go_enter Try.func32, Try.ntmps32
  go_wp2_with fail
  generalize hW : w.alloc (.cells #[.int .i64 r, .int .i64 p, .int .i64 q] 37) = W0 at *
  clear hW
  go_region_law (refine step_append_eq rfl _ _ 23 23 rfl _ _ (by simp [Act.eval]) (by simp [Act.eval]) hrun ?_)
  all_goals
    go_wp2_with fail
    refine bodyPost_end (results_none rfl _ _ _) rfl ?_
    exact ⟨rfl, HM.out.lies, HM.out.keep, HM.out.off⟩

theorem str_set {S : Nat → Prop} {x d t : Nat} {wt c : Ch} {cs : List Ch} {fs : List (Int × Int)} {W : World} (hx : StrIs x d wt W) (hS : ¬ S x) (hl : Lies S t cs fs W) :
    ∀ W', W' = ((W.setCell ⟨x, 1, none⟩ (.int .i64 c.r)).setCell ⟨x, 2, none⟩ (.int .i64 c.a)).setCell ⟨x, 3, none⟩ (.int .i64 c.z) → StrIs x d c W' ∧ Lies S t cs fs W' ∧ Keep S W W' := by
  rintro W' rfl
  unfold StrIs at hx
  refine ⟨by unfold StrIs; simp [World.setCell, Array.getElem?_modify, hx], ?_, ?_⟩
  · refine lies_same hl (fun k hk => by have := hl.low k hk; simp [World.setCell]; omega) (fun _ h _ => h) fun g cur e m he _ hg => ?_
    have hne : g ≠ x := fun y => by
      rw [y, hx] at hg; simp at hg
      rcases he with rfl | rfl | rfl <;> simp at hg
    rw [Below.heap_setCell _ _ _ _ hne, Below.heap_setCell _ _ _ _ hne, Below.heap_setCell _ _ _ _ hne]; exact hg
  · exact (((Keep.refl S W).setCell (p := ⟨x, 1, none⟩) hS _).setCell (p := ⟨x, 2, none⟩) hS _).setCell (p := ⟨x, 3, none⟩) hS _

set_option maxHeartbeats 1000000 in
theorem release_any {S : Nat → Prop} {x d t : Nat} {wt : Ch} {cs : List Ch} {fs : List (Int × Int)} {w : World} (hx : StrIs x d wt w) (hS : ¬ S x) (hl : Lies S t cs fs w) (hn : cs.length ≤ 1000000) :
    Calls Try.prog 26 #[.pointer (some ⟨x, 0, none⟩), .pointer (some ⟨t, 0, none⟩)] w fun e w' => e = .returned (.tuple #[]) ∧ StrIs x d (off wt) w' ∧ Lies S t (cs ++ rel wt) fs w' ∧ Keep S w w' := by
  have HX : Hid (StrIs x d wt w) := hx
  have HL : Hid (Lies S t cs fs w) := hl
  have HS : Hid (¬ S x) := hS
  have hxw := (str_cells hx).1
  clear hx hl hS
  by_cases hw : wt.a < wt.z
  · go_enter Try.func26, Try.ntmps26
    go_wp2_with fail
    refine (waits_as true HX.out (decide_eq_true hw)).mono ?_
    rintro e w1 ⟨rfl, b1⟩
    have HX1 : Hid (StrIs x d wt w1) := str_below HX.out b1
    have HL1 : Hid (Lies S t cs fs w1) := lies_below HL.out b1
    have HK1 : Hid (Keep S w w1) := Keep.ofOld b1
    obtain ⟨hxw1, c0, c1, c2, c3, _⟩ := str_cells HX1.out
    clear b1
    go_wp2_with fail
    refine (tellc_any wt HL1.out hn).mono ?_
    rintro e w2 ⟨rfl, l2, k2, o2⟩
    have HX2 : Hid (StrIs x d wt w2) := str_off HX1.out o2
    have HL2 : Hid (Lies S t (cs ++ [wt]) fs w2) := l2
    have HK2 : Hid (Keep S w w2) := HK1.out.trans k2
    clear l2 k2 o2 c0 c1 c2 c3
    obtain ⟨hxw2, c0, c1, c2, c3, hf⟩ := str_cells HX2.out
    have f1 := hf 1
    have f2 := hf 2
    have f3 := hf 3
    clear hf
    go_wp2_with fail
    refine bodyPost_end (results_none rfl _ _ _) rfl ?_
    obtain ⟨m1, m2, m3⟩ := str_set (c := Ch0) HX2.out HS.out HL2.out _ rfl
    have e1 : off wt = Ch0 := by unfold off; rw [if_pos hw]
    have e2 : rel wt = [wt] := by unfold rel; rw [if_pos hw]
    rw [e1, e2]
    exact ⟨rfl, m1, m2, HK2.out.trans m3⟩
  · go_enter Try.func26, Try.ntmps26
    go_wp2_with fail
    refine (waits_as false HX.out (decide_eq_false (by omega))).mono ?_
    rintro e w1 ⟨rfl, b1⟩
    go_wp2_with fail
    refine bodyPost_end (results_none rfl _ _ _) rfl ?_
    have e1 : off wt = wt := by unfold off; rw [if_neg (by omega)]
    have e2 : rel wt = [] := by unfold rel; rw [if_neg (by omega)]
    rw [e1, e2, List.append_nil]
    exact ⟨rfl, str_below HX.out b1, lies_below HL.out b1, Keep.ofOld b1⟩
end Go.Proofs.Ytkphiopeclgffaa
