/- The document's Longest and Goes of all names. -/
import Derived.Test.YtaadphifagimaaaDoorRnm
namespace Go.Proofs.YtaadphifagimaaaDoor
open Go.RowKit

theorem rlong_best {w : World} {ao : Option Addr} {L : List Rf} (n cap : Nat) (s : ByteArray) (ha : RefRow w ao (allP L)) (hn : (allP L).length = n) (hn2 : n ≤ 100000) :
    Calls Tryd.prog 27 #[.slice ao n cap, .string s] w fun e w' => e = .returned (.tuple #[.int .i64 (best L s.data.toList s.size).1, .int .i64 ((best L s.data.toList s.size).2 : Nat)]) ∧ Below w.heap.size w w' := by
  have h := rlong_any n cap s ha hn hn2 (fun x hx => by
    have h1 := (val_len ((allP_mem x).1 hx)).2
    have h2 : x.nm.length = x.n.size := Array.length_toList
    omega)
  rw [lg_best] at h
  have h2 : s.data.toList.length = s.size := Array.length_toList
  rw [h2] at h
  exact h
theorem rgoes_goes {w : World} {ao : Option Addr} {L : List Rf} (n cap : Nat) (s : ByteArray) (ha : RefRow w ao (allP L)) (hn : (allP L).length = n) (hn2 : n ≤ 100000) :
    Calls Tryd.prog 29 #[.slice ao n cap, .string s] w fun e w' => e = .returned (.bool (goes L s.data.toList)) ∧ w' = w := by
  have h := rgoes_any n cap s ha hn hn2
  rw [any_goes] at h
  exact h

end Go.Proofs.YtaadphifagimaaaDoor
