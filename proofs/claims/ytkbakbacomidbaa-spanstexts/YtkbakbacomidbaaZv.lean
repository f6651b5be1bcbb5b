/- The document's Number. -/
import Derived.Test.YtkbakbacomidbaaProg
import Derived.BigQuiet
import Derived.BigRegion
import Derived.Deep.DeepCutAuto
import Derived.Deep.QuietTactic
import Derived.Deep.RegionHeld3
import Derived.Deep.RegionLaw
import Derived.Maps.AppendAt
import Derived.ScopeJumps
import Derived.WalkArith
import Derived.WalkKit
import Derived.WalkLawsBesides
import Derived.WalkMore
import Derived.WalkSpells
import Derived.Test.YtkbakbacomidbaaZd
import Derived.Test.YtkbakbacomidbaaZe
namespace Go.Proofs.Ytkbakbacomidbaa.G6
open Go.RowKit
theorem oper_run' {P : Program} {o : Oper} {a : Act} {w w' : World} {v : Value} {K : Act → World → Prop} {Q : Exit → Act → World → Prop} (h : (execOp a.eval o).run P w = .ok (.value v) w') (hk : K (a.put o.dst v) w') : Oper.wp P o a w K Q := by
  unfold Oper.wp
  rw [h]
  exact hk
theorem may_as (r : Int) (v : Bool) (w : World) (h : mayB r = v) : Calls Try.prog 73 #[.int .i64 r] w fun e w' => e = .returned (.bool v) ∧ w' = w := by subst h; exact may_any r w
theorem rbad_any (r : Int) (w : World) (h₀ : 0 ≤ r) (h₁ : r ≤ 1114111) : Calls Try.prog 31 #[.int .i64 r] w fun e w' => ∃ c : Int, e = .returned (.int .i64 c) ∧ (c != 0) = badB r ∧ w' = w := by
  refine (G4.rbad_any r w h₀ (by omega)).mono ?_
  rintro e w' ⟨rfl, rfl⟩
  refine ⟨_, rfl, ?_, rfl⟩
  rw [Bool.eq_iff_iff]
  unfold G4.badN badB
  rw [bne_iff_ne, decide_eq_true_iff]
  repeat' split
  all_goals omega
set_option maxHeartbeats 2000000 in
set_option maxRecDepth 1000000 in
theorem rnumber_any (n : Int) (w : World) (hn : -9223372036854775808 ≤ n ∧ n ≤ 9223372036854775807) :
    Calls Try.prog 68 #[.int .i64 n] w fun e w' => e = .returned (.tuple #[.int .i64 (chrP n).1, .int .i64 (chrP n).2]) ∧ Below w.heap.size w w' := by
  by_cases h1 : n ≤ 0
  · have HP : Hid (chrP n = (65533, 20)) := by show chrP n = _; unfold chrP; rw [if_pos (Or.inl h1)]
    go_enter Try.func68, Try.ntmps68
    go_wp2
    go_ret2
    rw [HP.out]; exact ⟨rfl, Below.refl _ _⟩
  by_cases h2 : n > 1114111 ∨ (55296 ≤ n ∧ n ≤ 57343)
  · have HP : Hid (chrP n = (65533, 20)) := by show chrP n = _; unfold chrP; rw [if_pos (Or.inr h2)]
    have hm : mayB n = false := by unfold mayB; apply decide_eq_false; omega
    clear h2
    go_enter Try.func68, Try.ntmps68
    go_wp2_with (go_at_call 73; refine (may_as _ false _ hm).mono ?_; rintro e w' ⟨rfl, rfl⟩)
    go_ret2
    rw [HP.out]; exact ⟨rfl, Below.refl _ _⟩
  have hn0 : ¬ (n ≤ 0 ∨ n > 1114111 ∨ (55296 ≤ n ∧ n ≤ 57343)) := by omega
  have hm : mayB n = true := by unfold mayB; apply decide_eq_true; omega
  by_cases h4 : 128 ≤ n ∧ n ≤ 159
  · have HP : Hid (chrP n = (tabL.getD (n - 128).toNat 0, 20)) := by show chrP n = _; unfold chrP; rw [if_neg hn0, if_pos h4]
    obtain ⟨i, hi⟩ : ∃ i : Nat, n = i + 128 := ⟨(n - 128).toNat, by omega⟩
    subst hi
    rw [show ((i : Int) + 128 - 128).toNat = i by omega] at HP
    have hc : (w.alloc (.cells (tabL.map (Value.int .i64)).toArray 3)).cell? ⟨w.heap.size, i, none⟩ = some (.int .i64 (tabL.getD i 0)) := by
      have hi32 : i < 32 := by omega
      have e := heap_alloc_new w (.cells (tabL.map (Value.int .i64)).toArray 3)
      have hl : i < tabL.length := hi32
      obtain ⟨W, hW⟩ : ∃ W, W = w.alloc (.cells (tabL.map (Value.int .i64)).toArray 3) := ⟨_, rfl⟩
      rw [← hW] at e ⊢
      clear hW
      obtain ⟨L, hL⟩ : ∃ L, L = tabL := ⟨_, rfl⟩
      rw [← hL] at e hl ⊢
      simp [World.cell?, e, List.getElem?_eq_getElem hl]
    have HB : Hid (Below w.heap.size w (w.alloc (.cells (tabL.map (Value.int .i64)).toArray 3))) := (Below.refl _ _).alloc (Nat.le_refl _) _
    obtain ⟨z, hz⟩ : ∃ z, tabL.getD i 0 = z := ⟨_, rfl⟩
    rw [hz] at hc HP
    have HC : Hid ((w.alloc (.cells (tabL.map (Value.int .i64)).toArray 3)).cell? ⟨w.heap.size, i, none⟩ = some (.int .i64 z)) := hc
    clear hz h2 hn0 hc
    go_enter Try.func68, Try.ntmps68
    go_upto_region 4 with (go_at_call 73; refine (may_as _ true _ hm).mono ?_; rintro e w' ⟨rfl, rfl⟩)
    go_step
    refine wpList_plain rfl fun K hK => ?_
    refine oper_run' (v := .slice (some ⟨w'.heap.size, 0, none⟩) 32 32) (w' := w'.alloc (.cells (tabL.map (Value.int .i64)).toArray 3)) (by kernel_rfl) (hK _ _ ?_)
    clear hK K
    generalize w'.alloc (.cells (tabL.map (Value.int .i64)).toArray 3) = W at HC HB
    have hc := HC.out
    go_wp2
    go_ret2
    rw [HP.out]; exact ⟨rfl, HB.out⟩
  obtain ⟨b, hb⟩ : ∃ b, badB n = b := ⟨_, rfl⟩
  have HP : Hid (chrP n = (n, if b || (n == 13) then 20 else 0)) := by
    show chrP n = _
    unfold chrP
    rw [if_neg hn0, if_neg h4]
    have : (ctl n = true ∨ nonch n = true) ↔ (b || (n == 13)) = true := by
      rw [← hb]
      simp only [ctl, nonch, badB, decide_eq_true_eq, Bool.or_eq_true, beq_iff_eq]
      omega
    by_cases hh : (b || (n == 13)) = true
    · rw [if_pos (this.2 hh), if_pos hh]
    · rw [if_neg (fun c => hh (this.1 c)), if_neg hh]
  have h5 : (0 < n ∧ n < 128) ∨ (159 < n ∧ n ≤ 1114111) := by omega
  have k2 := fun w => rbad_any n w (by omega) (by omega)
  rw [hb] at k2
  clear hb h2 hn0 h4
  rcases h5 with ⟨h5, h6⟩ | ⟨h5, h6⟩
  all_goals
    cases b
    all_goals
      go_enter Try.func68, Try.ntmps68
      go_wp2_with (first | (go_at_call 73; refine (may_as _ true _ hm).mono ?_; rintro e w' ⟨rfl, rfl⟩) | (go_at_call 31; refine (k2 _).mono ?_; rintro e w' ⟨c, rfl, hc, rfl⟩))
      all_goals
        go_ret2
        rw [HP.out]
        refine ⟨?_, Below.refl _ _⟩
        simp_all
end Go.Proofs.Ytkbakbacomidbaa.G6
