/- Do, any deed: both arenas answer the same, and stay alike. -/
import Derived.Test.YtcdaghlbfclpkaaD0
import Derived.Test.YtcdaghlbfclpkaaD1
import Derived.Test.YtcdaghlbfclpkaaD2
import Derived.Test.YtcdaghlbfclpkaaD3
import Derived.Test.YtcdaghlbfclpkaaD4
import Derived.Test.YtcdaghlbfclpkaaD5
import Derived.Test.YtcdaghlbfclpkaaD6
namespace Go.Proofs.Ytcdaghlbfclpkaa
open Go.RowKit

theorem do_any {Z : Nat → Prop} {w : World} {x y : Nat} {N : List Nd} {P : List Sp} {E : List En} {L : List RN} (t : Two Z w x y N P E L) (hR : Rel N P E L) {n : Nat} (hn : L.length = n) (hn2 : n ≤ 800000000) (T : Dd) (ha : ∀ w', Keep Z w w' → AtRow w' T.ao T.d.al) (hf : T.d.al.length ≤ 1000000000) :
    Calls Try.prog 12 #[ptr x, ptr y, .agg T.arr] w (fun e w' => e = .returned (iv 1) ∧ Fin Z w x y n w') := by
  have hA : ∀ w', Keep Z w w' → Ats w' (.slice T.ao T.d.al.length T.ac) T.d.al := fun w' k => ⟨⟨_, _, rfl, ha w' k⟩, by omega⟩
  obtain ⟨k, a, b, c, d, ao, ac, ko, kn, kc⟩ := T
  simp only at hA hf
  by_cases h0 : k = 0
  · subst h0
    exact do_0 t hR hn hn2 a b c d ao ac ko kn kc hA hf
  by_cases h1 : k = 1
  · subst h1
    exact do_1 t hR hn hn2 a b c d ao ac ko kn kc hA hf
  by_cases h2 : k = 2
  · subst h2
    exact do_2 t hR hn hn2 a b c d ao ac ko kn kc hA hf
  by_cases h3 : k = 3
  · subst h3
    exact do_3 t hR hn hn2 a b c d ao ac ko kn kc hA hf
  by_cases h4 : k = 4
  · subst h4
    exact do_4 t hR hn hn2 a b c d ao ac ko kn kc hA hf
  by_cases h5 : k = 5
  · subst h5
    exact do_5 t hR hn hn2 a b c d ao ac ko kn kc hA hf
  refine (do_6 t hR k a b c d ao ac ko kn kc (beq_false_of_ne h0) (beq_false_of_ne h1) (beq_false_of_ne h2) (beq_false_of_ne h3) (beq_false_of_ne h4) (beq_false_of_ne h5)).mono ?_
  rintro e w' ⟨rfl, b1⟩
  exact ⟨rfl, Keep.old b1, N, P, E, L, hR, by omega, t.old b1⟩
end Go.Proofs.Ytcdaghlbfclpkaa
