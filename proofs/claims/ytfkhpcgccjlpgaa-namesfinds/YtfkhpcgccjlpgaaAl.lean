/- All: all names of a trie. -/
import Derived.Test.YtfkhpcgccjlpgaaLi
namespace Go.Proofs.Ytfkhpcgccjlpgaa
open Go.RowKit

/-- All names of a list, by their bytes. -/
def allP (l : List Rf) : List Rf := listP (val l) (fun q => q.isEmpty || pre l q) 8 []

theorem listP_congr {V V' : Path → Option Int} {E E' : Path → Bool} (hV : ∀ p, V p = V' p) (hE : ∀ p, E p = E' p) (n : Nat) (p : Path) : listP V E n p = listP V' E' n p := by
  rw [funext hV, funext hE]

theorem pre_deep {l : List Rf} {p : Path} (h : 8 < p.length) : pre l p = false := by
  cases hp : pre l p with
  | false => rfl
  | true =>
    exfalso
    simp only [pre, List.any_eq_true, Bool.and_eq_true, List.isPrefixOf_iff_prefix] at hp
    obtain ⟨x, _, hok, t, ht⟩ := hp
    have h8 : x.n.size ≤ 8 := by unfold Rf.ok at hok; simp at hok; omega
    have hl : x.nm.length = x.n.size := Array.length_toList
    have := congrArg List.length ht
    rw [List.length_append] at this
    omega

set_option maxHeartbeats 1000000 in
theorem all_any {w : World} {Bt t : Nat} {l : List Rf} (T : TrieIs w Bt t l) (hl : l.length ≤ 300) (hall : (allP l).length ≤ 1000) :
    Calls Try.prog 18 #[.pointer (some ⟨t, 0, none⟩)] w fun e w' => ∃ v, e = .returned v ∧ RowIs w' w.heap.size v (allP l) ∧ Below w.heap.size w w' := by
  obtain ⟨N, M, k, T, hk, hN⟩ := T
  have hc := cnt_le [] l
  have c3 := T.count
  obtain ⟨cn, hcn⟩ : ∃ cn, cnt [] l = cn := ⟨_, rfl⟩
  rw [hcn] at c3 hc T
  have HT : Hid (TrieAt w Bt t N M (val l) (cn : Int) k ∧ (∀ p, (N p).isSome = (p.isEmpty || pre l p)) ∧ k ≤ 100000) := ⟨T, hN, by omega⟩
  have htw : t < w.heap.size := lt_of_cell c3
  obtain ⟨i0, hi, hz0, hz1, hz2⟩ := info_parts info36
  obtain ⟨w', hrun, ho, hg⟩ := run_make_own (P := Try.prog) w.drew w.heap.size 22 36 i0 _ 2 Try.underlying22 hi hz0 hz1 .i64 .i64 cn (by rw [hz2]; omega) (by unfold maxLen; omega) (Nat.le_refl _)
  have hbe : Below w.heap.size w w' := ⟨hg.os, hg.tape, hg.output, hg.size, fun d hd => hg.block d hd (by simp)⟩
  have hcall := list_any t Bt w.heap.size cn k N M (val l) HT.out.2.2 (fun q d h => (T.node q d h).lt) (fun q d h => (T.maps q d h).lt) (fun p x hp => by
    have h1 := hN (p ++ [x])
    rw [pre_deep (by simp; omega)] at h1
    cases hh : N (p ++ [x]) with
    | none => rfl
    | some d => rw [hh] at h1; simp at h1) 8 [] t (.slice none 0 0) (.slice (some ⟨w.heap.size, 0, none⟩) 0 cn) [] w' rfl T.root (T.below hbe) hbe.size (World.ownsRow_nil _ _ _ _) ho
  have hlp : listP (val l) (fun q => (N q).isSome) 8 [] = allP l := listP_congr (fun _ => rfl) hN 8 []
  rw [hlp] at hcall
  have hcall2 := hcall (by simpa using hall)
  have HBE : Hid (Below w.heap.size w w') := hbe
  clear T hN hcn hcall hlp ho hg hbe
  go_enter Try.func18, Try.ntmps18
  go_wp2_with fail
  go_region_law (refine step_call_eq 22 _ _ _ _ rfl rfl (enters_of Try.func22 (by kernel_rfl) rfl) _ _ _ (by simp [Act.eval]) (by simp [Act.eval]) (by simp [Act.eval]) hcall2 ?_
                 rintro e w3 ⟨l'', rfl, q1, q2, q3, q4⟩
                 refine ⟨l'', rfl, ?_⟩)
  all_goals
    go_wp2_with fail
    go_ret
    refine ⟨l'', rfl, by simpa using q1, HBE.out.trans ⟨q4.os, q4.tape, q4.output, q4.size, fun d hd => q4.block d (Nat.lt_of_lt_of_le hd HBE.out.size) (by simp [Value.ownBlock]) (by simp [Value.ownBlock]; omega)⟩⟩
end Go.Proofs.Ytfkhpcgccjlpgaa
