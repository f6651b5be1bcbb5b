/- The program's lists of names; whether one has a name. -/
import Derived.Test.YtmcjohpopfkjfaaDoorPu
import Derived.WalkSpells
import Derived.WalkLawsBesides
import Derived.Deep.RegionLaw
import Derived.Deep.QuietTactic
import Derived.BigQuiet
import Derived.BigRegion
import Derived.WalkMore
import Derived.WalkArith
namespace Go.Proofs.YtmcjohpopfkjfaaDoor
open Go.RowKit

/-- The program's lists lie in their variable. -/
def Tb (w : World) : Prop := ∀ k : Nat, k < 11 → ∃ b o cap : Nat, w.cell? ⟨0, k, none⟩ = some (.slice (some ⟨b, o, none⟩) (tab k).length cap) ∧
  ∀ i x, (tab k)[i]? = some x → w.cell? ⟨b, o + i, none⟩ = some (.string ⟨x.toArray⟩)

theorem Tb.below {w w' : World} (h : Tb w) (b : Below w.heap.size w w') : Tb w' := fun k hk => by
  obtain ⟨g, o, cap, h1, h2⟩ := h k hk
  exact ⟨g, o, cap, (b.cell (p := ⟨0, k, none⟩) (World.block_lt_of_cell? w _ h1)).trans h1, fun i x hx => (b.cell (p := ⟨g, o + i, none⟩) (World.block_lt_of_cell? w _ (h2 i x hx))).trans (h2 i x hx)⟩

theorem tab_small (k : Nat) : (tab k).length ≤ 100 := by
  by_cases hk : k < 11
  · exact (show ∀ k, k < 11 → (tab k).length ≤ 100 by decide +kernel) k hk
  · match k, hk with
    | k + 11, _ => exact Nat.zero_le _

set_option maxHeartbeats 1000000 in
theorem in_any (k : Nat) (hk : k < 11) (s : ByteArray) {w : World} (T : Tb w) : Calls Tryd.prog 27 #[.int .i64 k, .string s] w fun e w' => e = .returned (.bool (has k s)) ∧ w' = w := by
  obtain ⟨b, o, cap, hc, hrow⟩ := T k hk
  have hsm := tab_small k
  obtain ⟨g, hg0⟩ : ∃ g, has k s = g := ⟨_, rfl⟩
  rw [hg0]
  have HG : Hid (((tab k).any fun x => x == s.data.toList) = g) := hg0
  clear hg0 T
  obtain ⟨A, hA⟩ : ∃ A, tab k = A := ⟨_, rfl⟩
  rw [hA] at hc hrow hsm HG
  obtain ⟨n, hn⟩ : ∃ n, A.length = n := ⟨_, rfl⟩
  rw [hn] at hc hsm
  have HA : Hid (A.length = n) := hn
  have HR : Hid (∀ i x, A[i]? = some x → w.cell? ⟨b, o + i, none⟩ = some (.string ⟨x.toArray⟩)) := hrow
  clear hA hn hrow
  go_enter Tryd.func27, Tryd.ntmps27
  go_wp2_with fail
  go_loop [11] (fun iv => ∃ i : Nat, iv = .int .i64 i ∧ i ≤ n ∧ (A.take i).any (fun x => x == s.data.toList) = false) (fun iv => n - (intOf iv).toNat)
  case atStart => exact ⟨0, rfl, Nat.zero_le _, by simp⟩
  case round =>
    obtain ⟨i, rfl, hi, hno⟩ := hrel
    have HNO : Hid ((A.take i).any (fun x => x == s.data.toList) = false) := hno
    clear hno
    by_cases hin : i < n
    · have hil : i < A.length := by rw [HA.out]; exact hin
      obtain ⟨x, hx⟩ : ∃ x, A[i]? = some x := ⟨_, List.getElem?_eq_getElem hil⟩
      have c1 := HR.out i x hx
      have htk : A.take (i + 1) = A.take i ++ [x] := by
        rw [← List.take_append_getElem hil]
        congr 2
        have := List.getElem?_eq_getElem hil
        rw [hx] at this
        exact (Option.some.inj this).symm
      obtain ⟨y, hy⟩ : ∃ y : ByteArray, y = ⟨x.toArray⟩ := ⟨_, rfl⟩
      have hxy : x = y.data.toList := by rw [hy]
      rw [← hy] at c1
      clear hy
      have hq : (x == s.data.toList) = (y.toList == s.toList) := by rw [hxy, ByteArray.toList_eq, ByteArray.toList_eq]
      cases hp : (y.toList == s.toList) with
      | true =>
        have HF : Hid ((A.any fun x => x == s.data.toList) = true) := List.any_eq_true.2 ⟨x, List.mem_of_getElem? hx, hq.trans hp⟩
        clear hx htk hil hq hxy
        go_wp2_with fail
        go_ret
        rw [show g = true from HG.out.symm.trans HF.out]
        exact ⟨rfl, rfl⟩
      | false =>
        have HF : Hid ((A.take (i + 1)).any (fun x => x == s.data.toList) = false) := by
          show _ = _
          rw [htk, List.any_append, HNO.out]
          simpa using hq.trans hp
        clear hx htk hil hq hxy
        go_wp2_with fail
        exact ⟨⟨i + 1, by go_num, by omega, HF.out⟩, by simp [intOf]; omega⟩
    · have hg : decide ((i : Int) < (n : Int)) = false := decide_eq_false (by omega)
      have HF : Hid ((A.any fun x => x == s.data.toList) = false) := by
        have := HNO.out
        rw [List.take_of_length_le (by rw [HA.out]; omega)] at this
        exact this
      go_wp2_with fail
      go_ret
      rw [show g = false from HG.out.symm.trans HF.out]
      exact ⟨rfl, rfl⟩
end Go.Proofs.YtmcjohpopfkjfaaDoor
