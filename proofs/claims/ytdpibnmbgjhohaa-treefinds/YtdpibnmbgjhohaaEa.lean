/- What the laws hold on to from call to call. -/
import Derived.Test.YtdpibnmbgjhohaaDf
import Derived.Test.YtdpibnmbgjhohaaAl
namespace Go.Proofs.Ytdpibnmbgjhohaa
open Go.RowKit

mutual
theorem sml_of : ∀ (t : Tr), Few4 t → cT t ≤ 4000 → Sml t
  | .mk d ks, h, hc => by
    cases h with
    | mk ha hk =>
      rw [cT] at hc
      have hl := kids_cL ks
      exact .mk ha (by omega) (sml_ofl ks hk (by omega))
theorem sml_ofl : ∀ (l : List Tr), (∀ t ∈ l, Few4 t) → cL l ≤ 4000 → ∀ t ∈ l, Sml t
  | [], _, _, t, h => by simp at h
  | u :: us, hk, hc, t, h => by
    rw [cL] at hc
    simp only [List.mem_cons] at h
    rcases h with rfl | h
    · exact sml_of t (hk t (by simp)) (by omega)
    · exact sml_ofl us (fun x hx => hk x (by simp [hx])) (by omega) t h
theorem kids_cL : ∀ (l : List Tr), l.length ≤ cL l
  | [] => Nat.zero_le _
  | .mk d ks :: us => by
    have := kids_cL us
    rw [cL, cT, List.length_cons]
    omega
end
/-- A small tree. -/
structure Tiny (t : Tr) : Prop where
  sml : Sml t
  few : Few4 t
  cnt : cT t ≤ 3000
  dep : dT t ≤ 201
theorem tiny_of {t : Tr} (h : ¬ wT t 200 3000 < 0) : Tiny t := by
  obtain ⟨h1, h2⟩ := small_few (t := t) (by omega)
  have h3 := small_few4 (t := t) (by omega)
  exact ⟨sml_of t h3 (by omega), h3, h2, h1⟩
/-- A call that makes new memory alone, from a later world on. -/
theorem later {P : Program} {f : FuncId} {args : Array Value} {V w : World} {R : Ending → World → Prop} (b : Below V.heap.size V w) (h : Calls P f args w fun e w' => R e w' ∧ Below w.heap.size w w') : Calls P f args w fun e w' => R e w' ∧ Below V.heap.size V w' :=
  h.mono fun _ _ h => ⟨h.1, b.trans (h.2.mono b.size)⟩
end Go.Proofs.Ytdpibnmbgjhohaa
