/- The document's Strip of any tree. -/
import Derived.Test.YtdpibnmbgjhohaaIc
import Derived.Test.YtdpibnmbgjhohaaBg
namespace Go.Proofs.Ytdpibnmbgjhohaa
open Go.RowKit

/-- What the document's sorting of attributes answers, in new memory. -/
def Sorts41 : Prop := ∀ (V : World) (lo : Option Addr) (l : List At) (len cap : Nat), AtRow V lo l → l.length = len → len ≤ 4000 →
  Calls Try.prog 41 #[.slice lo len cap] V fun e w' => ∃ so sc, e = .returned (.slice so len sc) ∧ Below V.heap.size V w' ∧ AtRow w' so (sortP l) ∧ ∀ a : Addr, so = some a → V.heap.size ≤ a.block
theorem rstrip_any (H41 : Sorts41) {w : World} {t : Tr} {av kv : Value} (h : TrV w t av kv) : ∀ (_ : Sml t) (w' : World), Below w.heap.size w w' →
    Calls Try.prog 23 #[nv t.d av kv] w' (RStr t w') := by
  induction h with
  | mk ha hp hc hk ih =>
    rename_i d ks ac kc kb ko ao kp avs kvs
    intro hs w' b
    cases hs with
    | mk o1 o2 o3 =>
      refine rstrip_one d ks _ ac _ kc rfl rfl (by omega) (fun V bV => H41 V ao d.al _ ac ((ha.old b).old bV) rfl o1) (sort_len d.al) fun j u hu => ?_
      have hne : ks ≠ [] := fun e => by rw [e] at hu; simp at hu
      obtain ⟨q1, q2⟩ := hc j u hu
      exact ⟨kb, ko, avs j, kvs j, hp hne, Nat.lt_of_lt_of_le q1 b.size, q2.mv (b.block kb q1), fun w2 b2 => ih j u hu (o3 u (List.mem_of_getElem? hu)) w2 (b.trans (b2.mono b.size))⟩
end Go.Proofs.Ytdpibnmbgjhohaa
