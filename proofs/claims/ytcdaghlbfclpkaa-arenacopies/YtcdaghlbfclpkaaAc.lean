/- Neighbours: join, link. -/
import Derived.Test.YtcdaghlbfclpkaaAb
namespace Go.Proofs.Ytcdaghlbfclpkaa
open Go.RowKit

theorem Op3.setS {S : Nat → Prop} {w : World} {x g n cn h cs k ce : Nat} {N : List Nd} {P : List Sp} {E : List En} (o : Op3 S w x g n cn h cs k ce N P E) {i j : Nat} {s s' : Sp} {u : Value} (hs : P[i]? = some s) (hj : j < 4) (hu : s.cells.set j u = s'.cells) :
    Op3 S (w.setCell ⟨h, i * 4 + j, none⟩ u) x g n cn h cs k ce N (P.set i s') E ∧ Keep S w (w.setCell ⟨h, i * 4 + j, none⟩ u) ∧ w.frozen? ⟨h, i * 4 + j, none⟩ = false := by
  have hr := o.v.sr
  rw [o.v.pl, o.nn] at hr
  obtain ⟨r1, r2⟩ := hr.set (i * 4 + j) u
  rw [fl_set Sp.cells 4 (fun _ => rfl) P i j s s' u hs hj hu] at r1
  obtain ⟨q1, q2⟩ := o.v.putS (P' := P.set i s') r2 (by rw [List.length_set, o.v.pl, o.nn]; exact r1) (by rw [List.length_set])
  exact ⟨⟨q1, o.nn⟩, q2, World.ownsRow.frozenAt hr.own _⟩
theorem Op3.setE {S : Nat → Prop} {w : World} {x g n cn h cs k ce : Nat} {N : List Nd} {P : List Sp} {E : List En} (o : Op3 S w x g n cn h cs k ce N P E) {i j : Nat} {s s' : En} {u : Value} (hs : E[i]? = some s) (hj : j < 2) (hu : s.cells.set j u = s'.cells) :
    Op3 S (w.setCell ⟨k, i * 2 + j, none⟩ u) x g n cn h cs k ce N P (E.set i s') ∧ Keep S w (w.setCell ⟨k, i * 2 + j, none⟩ u) ∧ w.frozen? ⟨k, i * 2 + j, none⟩ = false := by
  have hr := o.v.er
  rw [o.v.el, o.nn] at hr
  obtain ⟨r1, r2⟩ := hr.set (i * 2 + j) u
  rw [fl_set En.cells 2 (fun _ => rfl) E i j s s' u hs hj hu] at r1
  obtain ⟨q1, q2⟩ := o.v.putE (E' := E.set i s') r2 (by rw [List.length_set, o.v.el, o.nn]; exact r1) (by rw [List.length_set])
  exact ⟨⟨q1, o.nn⟩, q2, World.ownsRow.frozenAt hr.own _⟩
theorem Op3.spAt {S : Nat → Prop} {w : World} {x g n cn h cs k ce : Nat} {N : List Nd} {P : List Sp} {E : List En} (o : Op3 S w x g n cn h cs k ce N P E) {i : Nat} (hi : i < n) : ∃ s, P[i]? = some s := ⟨_, List.getElem?_eq_getElem (by rw [o.v.pl, o.nn]; exact hi)⟩
theorem Op3.enAt {S : Nat → Prop} {w : World} {x g n cn h cs k ce : Nat} {N : List Nd} {P : List Sp} {E : List En} (o : Op3 S w x g n cn h cs k ce N P E) {i : Nat} (hi : i < n) : ∃ s, E[i]? = some s := ⟨_, List.getElem?_eq_getElem (by rw [o.v.el, o.nn]; exact hi)⟩
theorem Op3.ndAt {S : Nat → Prop} {w : World} {x g n cn h cs k ce : Nat} {N : List Nd} {P : List Sp} {E : List En} (o : Op3 S w x g n cn h cs k ce N P E) {i : Nat} (hi : i < n) : ∃ s, N[i]? = some s := ⟨_, List.getElem?_eq_getElem (by rw [o.nn]; exact hi)⟩

def setB (P : List Sp) (i b : Nat) : List Sp := match P[i]? with | some s => P.set i ⟨s.i, s.p, s.a, b⟩ | none => P
def setA (P : List Sp) (i a : Nat) : List Sp := match P[i]? with | some s => P.set i ⟨s.i, s.p, a, s.b⟩ | none => P
def setF (E : List En) (i f : Nat) : List En := match E[i]? with | some s => E.set i ⟨f, s.l⟩ | none => E
def setL (E : List En) (i l : Nat) : List En := match E[i]? with | some s => E.set i ⟨s.f, l⟩ | none => E
theorem Op3.putB {S : Nat → Prop} {w : World} {x g n cn h cs k ce : Nat} {N : List Nd} {P : List Sp} {E : List En} (o : Op3 S w x g n cn h cs k ce N P E) {i : Nat} (hi : i < n) (b : Nat) :
    Op3 S (w.setCell ⟨h, i * 4 + 3, none⟩ (iv (b : Int))) x g n cn h cs k ce N (setB P i b) E ∧ Keep S w (w.setCell ⟨h, i * 4 + 3, none⟩ (iv (b : Int))) ∧ w.frozen? ⟨h, i * 4 + 3, none⟩ = false ∧ ∃ u : Nat, w.cell? ⟨h, i * 4 + 3, none⟩ = some (iv (u : Int)) := by
  obtain ⟨s, hs⟩ := o.spAt hi
  have := o.setS (j := 3) (s' := ⟨s.i, s.p, s.a, b⟩) (u := iv (b : Int)) hs (by decide) rfl
  unfold setB
  rw [hs]
  exact ⟨this.1, this.2.1, this.2.2, s.b, o.sp hs (by decide)⟩
theorem Op3.putA {S : Nat → Prop} {w : World} {x g n cn h cs k ce : Nat} {N : List Nd} {P : List Sp} {E : List En} (o : Op3 S w x g n cn h cs k ce N P E) {i : Nat} (hi : i < n) (b : Nat) :
    Op3 S (w.setCell ⟨h, i * 4 + 2, none⟩ (iv (b : Int))) x g n cn h cs k ce N (setA P i b) E ∧ Keep S w (w.setCell ⟨h, i * 4 + 2, none⟩ (iv (b : Int))) ∧ w.frozen? ⟨h, i * 4 + 2, none⟩ = false ∧ ∃ u : Nat, w.cell? ⟨h, i * 4 + 2, none⟩ = some (iv (u : Int)) := by
  obtain ⟨s, hs⟩ := o.spAt hi
  have := o.setS (j := 2) (s' := ⟨s.i, s.p, b, s.b⟩) (u := iv (b : Int)) hs (by decide) rfl
  unfold setA
  rw [hs]
  exact ⟨this.1, this.2.1, this.2.2, s.a, o.sp hs (by decide)⟩
theorem Op3.putF {S : Nat → Prop} {w : World} {x g n cn h cs k ce : Nat} {N : List Nd} {P : List Sp} {E : List En} (o : Op3 S w x g n cn h cs k ce N P E) {i : Nat} (hi : i < n) (b : Nat) :
    Op3 S (w.setCell ⟨k, i * 2, none⟩ (iv (b : Int))) x g n cn h cs k ce N P (setF E i b) ∧ Keep S w (w.setCell ⟨k, i * 2, none⟩ (iv (b : Int))) ∧ w.frozen? ⟨k, i * 2, none⟩ = false ∧ ∃ u : Nat, w.cell? ⟨k, i * 2, none⟩ = some (iv (u : Int)) := by
  obtain ⟨s, hs⟩ := o.enAt hi
  have := o.setE (j := 0) (s' := ⟨b, s.l⟩) (u := iv (b : Int)) hs (by decide) rfl
  unfold setF
  rw [hs]
  exact ⟨this.1, this.2.1, this.2.2, s.f, o.en (j := 0) hs (by decide)⟩
theorem Op3.putL {S : Nat → Prop} {w : World} {x g n cn h cs k ce : Nat} {N : List Nd} {P : List Sp} {E : List En} (o : Op3 S w x g n cn h cs k ce N P E) {i : Nat} (hi : i < n) (b : Nat) :
    Op3 S (w.setCell ⟨k, i * 2 + 1, none⟩ (iv (b : Int))) x g n cn h cs k ce N P (setL E i b) ∧ Keep S w (w.setCell ⟨k, i * 2 + 1, none⟩ (iv (b : Int))) ∧ w.frozen? ⟨k, i * 2 + 1, none⟩ = false ∧ ∃ u : Nat, w.cell? ⟨k, i * 2 + 1, none⟩ = some (iv (u : Int)) := by
  obtain ⟨s, hs⟩ := o.enAt hi
  have := o.setE (j := 1) (s' := ⟨s.f, b⟩) (u := iv (b : Int)) hs (by decide) rfl
  unfold setL
  rw [hs]
  exact ⟨this.1, this.2.1, this.2.2, s.l, o.en (j := 1) hs (by decide)⟩

/-- Two kids as neighbours. -/
def joinS (P : List Sp) (a b : Nat) : List Sp := if b = 0 then (if a = 0 then P else setB P a b) else setA (if a = 0 then P else setB P a b) b a
def joinE (E : List En) (p a b : Nat) : List En := if b = 0 then setL (if a = 0 then setF E p b else E) p a else (if a = 0 then setF E p b else E)
abbrev Dn (S : Nat → Prop) (x g n cn h cs k ce : Nat) (N : List Nd) (P : List Sp) (E : List En) (w : World) (e : Ending) (w' : World) : Prop := e = .returned (.tuple #[]) ∧ Op3 S w' x g n cn h cs k ce N P E ∧ Keep S w w'

theorem join_any {S : Nat → Prop} {w : World} {x g n cn h cs k ce : Nat} {N : List Nd} {P : List Sp} {E : List En} (o : Op3 S w x g n cn h cs k ce N P E) {p a b : Nat} (hp : p < n) (ha : a < n) (hb : b < n) :
    Calls Try.prog 54 #[ptr x, iv (p : Int), iv (a : Int), iv (b : Int)] w (Dn S x g n cn h cs k ce N (joinS P a b) (joinE E p a b) w) := by
  have hp2 : (p : Int) < (n : Int) := by omega
  have ha2 : (a : Int) < (n : Int) := by omega
  have hb2 : (b : Int) < (n : Int) := by omega
  by_cases h1 : a = 0
  · subst h1
    obtain ⟨c0, c1, c2⟩ := o.c
    obtain ⟨o1, k1, f1, u1, e1⟩ := o.putF hp b
    have hE : joinE E p 0 b = if b = 0 then setL (setF E p b) p 0 else setF E p b := by simp [joinE]
    have hP : joinS P 0 b = if b = 0 then P else setA P b 0 := by simp [joinS]
    rw [hE, hP]
    obtain ⟨W1, hW1⟩ : ∃ W1, w.setCell ⟨k, p * 2, none⟩ (iv (b : Int)) = W1 := ⟨_, rfl⟩
    have HW : Hid (w.setCell ⟨k, p * 2, none⟩ (iv (b : Int)) = W1) := hW1
    rw [hW1] at o1 k1
    clear hW1
    obtain ⟨d0, d1, d2⟩ := o1.c
    by_cases h2 : b = 0
    · subst h2
      obtain ⟨o2, k2, f2, u2, e2⟩ := o1.putL hp 0
      rw [if_pos rfl, if_pos rfl]
      have HZ : Hid (Dn S x g n cn h cs k ce N P (setL (setF E p 0) p 0) w (.returned (.tuple #[])) (W1.setCell ⟨k, p * 2 + 1, none⟩ (iv ((0 : Nat) : Int)))) := ⟨rfl, o2, k1.trans k2⟩
      clear o o1 o2 k1 k2 hE hP
      go_enter Try.func54, Try.ntmps54
      go_upto_region 3 with fail
      rw [show w.setCell ⟨k, p * 2, none⟩ (Value.int IntKind.i64 0) = W1 from HW.out]
      go_wp2_with fail
      refine bodyPost_end (results_none rfl _ _ _) rfl ?_
      exact HZ.out
    · obtain ⟨o2, k2, f2, u2, e2⟩ := o1.putA hb 0
      rw [if_neg h2, if_neg h2]
      have h3 : ¬ (b : Int) = 0 := by omega
      have HZ : Hid (Dn S x g n cn h cs k ce N (setA P b 0) (setF E p b) w (.returned (.tuple #[])) (W1.setCell ⟨h, b * 4 + 2, none⟩ (iv ((0 : Nat) : Int)))) := ⟨rfl, o2, k1.trans k2⟩
      clear o o1 o2 k1 k2 hE hP
      go_enter Try.func54, Try.ntmps54
      go_upto_region 3 with fail
      rw [HW.out]
      go_wp2_with fail
      refine bodyPost_end (results_none rfl _ _ _) rfl ?_
      exact HZ.out
  · have h1' : ¬ (a : Int) = 0 := by omega
    obtain ⟨c0, c1, c2⟩ := o.c
    obtain ⟨o1, k1, f1, u1, e1⟩ := o.putB ha b
    have hE : joinE E p a b = if b = 0 then setL E p a else E := by simp [joinE, h1]
    have hP : joinS P a b = if b = 0 then setB P a b else setA (setB P a b) b a := by simp [joinS, h1]
    rw [hE, hP]
    obtain ⟨W1, hW1⟩ : ∃ W1, w.setCell ⟨h, a * 4 + 3, none⟩ (iv (b : Int)) = W1 := ⟨_, rfl⟩
    have HW : Hid (w.setCell ⟨h, a * 4 + 3, none⟩ (iv (b : Int)) = W1) := hW1
    rw [hW1] at o1 k1
    clear hW1
    obtain ⟨d0, d1, d2⟩ := o1.c
    by_cases h2 : b = 0
    · subst h2
      obtain ⟨o2, k2, f2, u2, e2⟩ := o1.putL hp a
      rw [if_pos rfl, if_pos rfl]
      have HZ : Hid (Dn S x g n cn h cs k ce N (setB P a 0) (setL E p a) w (.returned (.tuple #[])) (W1.setCell ⟨k, p * 2 + 1, none⟩ (iv (a : Int)))) := ⟨rfl, o2, k1.trans k2⟩
      clear o o1 o2 k1 k2 hE hP
      go_enter Try.func54, Try.ntmps54
      go_upto_region 3 with fail
      rw [show w.setCell ⟨h, a * 4 + 3, none⟩ (Value.int IntKind.i64 0) = W1 from HW.out]
      go_wp2_with fail
      refine bodyPost_end (results_none rfl _ _ _) rfl ?_
      exact HZ.out
    · obtain ⟨o2, k2, f2, u2, e2⟩ := o1.putA hb a
      rw [if_neg h2, if_neg h2]
      have h3 : ¬ (b : Int) = 0 := by omega
      have HZ : Hid (Dn S x g n cn h cs k ce N (setA (setB P a b) b a) E w (.returned (.tuple #[])) (W1.setCell ⟨h, b * 4 + 2, none⟩ (iv (a : Int)))) := ⟨rfl, o2, k1.trans k2⟩
      clear o o1 o2 k1 k2 hE hP
      go_enter Try.func54, Try.ntmps54
      go_upto_region 3 with fail
      rw [HW.out]
      go_wp2_with fail
      refine bodyPost_end (results_none rfl _ _ _) rfl ?_
      exact HZ.out
end Go.Proofs.Ytcdaghlbfclpkaa
