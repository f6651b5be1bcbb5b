/- The document's arena: Insert. -/
import Derived.Test.YtcdaghlbfclpkaaCh
namespace Go.Proofs.Ytcdaghlbfclpkaa
open Go.RowKit

/-- What is known where the new row of kids lies. -/
abbrev InsF (S : Nat → Prop) (w : World) (x g n c : Nat) (L : List RN) (p i : Nat) (rp r : RN) (ko : Option Addr) (kl kc : Nat) (K' : List Nat) (W3 : World) (vo : Option Addr) (vn vc : Nat) : Prop :=
  W3.cell? ⟨x, 0, none⟩ = some (.slice (some ⟨g, 0, none⟩) n c) ∧ W3.cell? ⟨g, p * 13 + 12, none⟩ = some (.slice ko kl kc) ∧ W3.frozen? ⟨g, p * 13 + 12, none⟩ = false ∧
    (W3.setCell ⟨g, p * 13 + 12, none⟩ (.slice vo vn vc)).cell? ⟨x, 0, none⟩ = some (.slice (some ⟨g, 0, none⟩) n c) ∧ (W3.setCell ⟨g, p * 13 + 12, none⟩ (.slice vo vn vc)).cell? ⟨g, i * 13 + 11, none⟩ = some (iv (-1)) ∧ (W3.setCell ⟨g, p * 13 + 12, none⟩ (.slice vo vn vc)).frozen? ⟨g, i * 13 + 11, none⟩ = false ∧
    Hid (∃ kv, RO S ((W3.setCell ⟨g, p * 13 + 12, none⟩ (.slice vo vn vc)).setCell ⟨g, i * 13 + 11, none⟩ (iv (p : Int))) x g n c ((L.set p (rp.kids kv K')).set i (r.par (p : Int))) ∧ Keep S w ((W3.setCell ⟨g, p * 13 + 12, none⟩ (.slice vo vn vc)).setCell ⟨g, i * 13 + 11, none⟩ (iv (p : Int))))
theorem ins_fin {S : Nat → Prop} {w : World} {x g n c : Nat} {L : List RN} (o : RO S w x g n c L) {i p : Nat} {r rp : RN} (hr : L[i]? = some r) (hp : r.p = -1) (hrp : L[p]? = some rp) (hip : i ≠ p) {ko : Option Addr} {kl kc : Nat} (hkv : rp.kv = .slice ko kl kc) {W3 : World} (b3 : Below w.heap.size w W3) {vo : Option Addr} {vn vc : Nat} {K' : List Nat} (h3 : Rw (fun k => k < w.heap.size) W3 3 1 (.slice vo vn vc) K'.length (iL K')) : InsF S w x g n c L p i rp r ko kl kc K' W3 vo vn vc := by
  have o2 : RO S W3 x g n c L := o.old b3
  have hkd2 : Rw S W3 3 1 (.slice vo vn vc) K'.length (iL K') := h3.sub (fun k hk => o.v.low k hk)
  obtain ⟨o3, q3, f3⟩ := o2.setR (j := 12) (r' := rp.kids (.slice vo vn vc) K') (u := .slice vo vn vc) hrp (by decide) rfl (o2.ats (r := rp) hrp) hkd2
  have hri : (L.set p (rp.kids (.slice vo vn vc) K'))[i]? = some r := by rw [List.getElem?_set_ne (fun e => hip e.symm)]; exact hr
  obtain ⟨o4, q4, f4⟩ := o3.setR (j := 11) (r' := r.par (p : Int)) (u := iv (p : Int)) hri (by decide) rfl (o3.ats (r := r) hri) (show Rw S _ 3 1 r.kv r.ks.length (iL r.ks) from o3.kds hri)
  have d12' : W3.cell? ⟨g, p * 13 + 12, none⟩ = some rp.kv := o2.nd (j := 12) hrp (by decide)
  rw [hkv] at d12'
  have d11' : (W3.setCell ⟨g, p * 13 + 12, none⟩ (.slice vo vn vc)).cell? ⟨g, i * 13 + 11, none⟩ = some (iv r.p) := o3.nd (j := 11) hri (by decide)
  rw [hp] at d11'
  exact ⟨o2.c, d12', f3, o3.c, d11', f4, _, o4, ((Keep.old b3).trans q3).trans q4⟩
/-- The three rows behind one another, in both orders of what makes memory. -/
abbrev InsR (S : Nat → Prop) (w : World) (x g n c : Nat) (L : List RN) (p i : Nat) (rp r : RN) (ko : Option Addr) (kl kc md t : Nat) (so : Option Addr) (c2 : Nat) (K' : List Nat) : Prop :=
  (∃ v1 W1 v2 W2 vo vn vc W3, (Builtin.append_ #[44, 44] 44 #[.slice none 0 0, .slice ko md kc]).run Try.prog w.drew = .ok v1 W1 ∧ (Builtin.append_ #[44, 44] 44 #[v1, .slice (some ⟨W1.heap.size, 0, none⟩) 1 1]).run Try.prog (W1.alloc (.cells #[iv (i : Int)] 3)) = .ok v2 W2 ∧ (Builtin.append_ #[44, 44] 44 #[v2, .slice so t c2]).run Try.prog W2 = .ok (.slice vo vn vc) W3 ∧ W1.cell? ⟨x, 0, none⟩ = some (.slice (some ⟨g, 0, none⟩) n c) ∧ x < W1.heap.size ∧ W2.cell? ⟨x, 0, none⟩ = some (.slice (some ⟨g, 0, none⟩) n c) ∧ InsF S w x g n c L p i rp r ko kl kc K' W3 vo vn vc) ∧
  (∃ v1 W1 v2 W2 vo vn vc W3, (Builtin.append_ #[44, 44] 44 #[.slice none 0 0, .slice ko md kc]).run Try.prog ((w.alloc (.cells #[iv (i : Int)] 3)).drew) = .ok v1 W1 ∧ (Builtin.append_ #[44, 44] 44 #[v1, .slice (some ⟨w.heap.size, 0, none⟩) 1 1]).run Try.prog W1 = .ok v2 W2 ∧ (Builtin.append_ #[44, 44] 44 #[v2, .slice so t c2]).run Try.prog W2 = .ok (.slice vo vn vc) W3 ∧ W1.cell? ⟨x, 0, none⟩ = some (.slice (some ⟨g, 0, none⟩) n c) ∧ x < W1.heap.size ∧ W2.cell? ⟨x, 0, none⟩ = some (.slice (some ⟨g, 0, none⟩) n c) ∧ InsF S w x g n c L p i rp r ko kl kc K' W3 vo vn vc)
theorem ins_runs {S : Nat → Prop} {w : World} {x g n c : Nat} {L : List RN} (o : RO S w x g n c L) {i p : Nat} {r rp : RN} (hr : L[i]? = some r) (hp : r.p = -1) (hrp : L[p]? = some rp) (hip : i ≠ p) {ko : Option Addr} {kl kc : Nat} (hkv : rp.kv = .slice ko kl kc) {D T : List Nat} (hD : InR w ko D) {so : Option Addr} (c2 : Nat) (hT : InR w so T) (hf : D.length + T.length ≤ 1000000000) {md t : Nat} (hmd : D.length = md) (ht : T.length = t) :
    InsR S w x g n c L p i rp r ko kl kc md t so c2 (D ++ i :: T) := by
  subst hmd ht
  have hxl : x < w.heap.size := (Array.getElem?_eq_some_iff.1 o.v.blk).1
  refine ⟨?_, ?_⟩
  · have bd : Below w.heap.size w w.drew := (Below.refl _ _).drew
    obtain ⟨v1, W1, r1, h1, g1⟩ := app_ints (S := fun k => k < w.heap.size) (v := .slice none 0 0) (D := []) (w := w.drew) (fun k hk => hk) (Rw.nil _ _ _ _) kc (hD.old bd) (by simp; omega)
    have b1 : Below w.heap.size w W1 := bd.trans (grown_below g1)
    rw [List.nil_append] at h1
    obtain ⟨v2, W2, r2, h2, g2⟩ := int_more (S := fun k => k < w.heap.size) (fun k hk => Nat.lt_of_lt_of_le hk b1.size) h1 i (by omega)
    have b2 : Below w.heap.size w W2 := grown_low b1 rfl h1 g2
    obtain ⟨v3, W3, r3, h3, g3⟩ := app_ints (S := fun k => k < w.heap.size) (fun k hk => Nat.lt_of_lt_of_le hk b2.size) h2 c2 (hT.old b2) (by rw [List.length_append]; simp; omega)
    have b3 : Below w.heap.size w W3 := grown_low b2 rfl h2 g3
    rw [List.append_assoc] at h3
    obtain ⟨vo, vc, rfl, _⟩ := h3.slice
    exact ⟨v1, W1, v2, W2, vo, _, vc, W3, r1, r2, r3, (o.old b1).c, Nat.lt_of_lt_of_le hxl b1.size, (o.old b2).c, ins_fin o hr hp hrp hip hkv b3 h3⟩
  · have bd : Below w.heap.size w (w.alloc (.cells #[iv (i : Int)] 3)).drew := ((Below.refl _ _).alloc (Nat.le_refl _) _).drew
    obtain ⟨v1, W1, r1, h1, g1⟩ := app_ints (S := fun k => k < w.heap.size) (v := .slice none 0 0) (D := []) (w := (w.alloc (.cells #[iv (i : Int)] 3)).drew) (fun k hk => Nat.lt_of_lt_of_le hk bd.size) (Rw.nil _ _ _ _) kc (hD.old bd) (by simp; omega)
    have b1' := grown_below g1
    have b1 : Below w.heap.size w W1 := bd.trans (b1'.mono bd.size)
    rw [List.nil_append] at h1
    have hI : InR W1 (some ⟨w.heap.size, 0, none⟩) [i] := by
      refine InR.old (w := (w.alloc (.cells #[iv (i : Int)] 3)).drew) (fun j k hk => ?_) b1'
      match j, hk with
      | 0, hk =>
        simp at hk
        subst hk
        refine ⟨w.heap.size, 0, rfl, by show w.heap.size < (w.alloc _).heap.size; simp, ?_⟩
        show (w.alloc (.cells #[iv (i : Int)] 3)).cell? ⟨w.heap.size, 0 + 0, none⟩ = _
        rw [World.cell?_alloc_at _ _ _ _ rfl]
        rfl
      | j + 1, hk => simp at hk
    obtain ⟨v2, W2, r2, h2, g2⟩ := app_ints (S := fun k => k < w.heap.size) (fun k hk => Nat.lt_of_lt_of_le hk b1.size) h1 1 hI (by simp; omega)
    have b2 : Below w.heap.size w W2 := grown_low b1 rfl h1 g2
    obtain ⟨v3, W3, r3, h3, g3⟩ := app_ints (S := fun k => k < w.heap.size) (fun k hk => Nat.lt_of_lt_of_le hk b2.size) h2 c2 (hT.old b2) (by rw [List.length_append]; simp; omega)
    have b3 : Below w.heap.size w W3 := grown_low b2 rfl h2 g3
    rw [List.append_assoc] at h3
    obtain ⟨vo, vc, rfl, _⟩ := h3.slice
    exact ⟨v1, W1, v2, W2, vo, _, vc, W3, r1, r2, r3, (o.old b1).c, Nat.lt_of_lt_of_le hxl b1.size, (o.old b2).c, ins_fin o hr hp hrp hip hkv b3 h3⟩
end Go.Proofs.Ytcdaghlbfclpkaa
