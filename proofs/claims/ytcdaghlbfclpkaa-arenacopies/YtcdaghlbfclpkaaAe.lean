/- A node put among kids: link. -/
import Derived.Test.YtcdaghlbfclpkaaAc
namespace Go.Proofs.Ytcdaghlbfclpkaa
open Go.RowKit

def linkS (P : List Sp) (p i a b : Nat) : List Sp := joinS (joinS (P.set i ⟨true, p, 0, 0⟩) a i) i b
def linkE (E : List En) (p i a b : Nat) : List En := joinE (joinE E p a i) p i b
theorem Op3.setS4 {S : Nat → Prop} {w : World} {x g n cn h cs k ce : Nat} {N : List Nd} {P : List Sp} {E : List En} (o : Op3 S w x g n cn h cs k ce N P E) {i : Nat} (hi : i < n) (t : Sp) :
    ∃ s : Sp, w.cell? ⟨h, i * 4, none⟩ = some (.bool s.i) ∧ w.cell? ⟨h, i * 4 + 1, none⟩ = some (iv (s.p : Int)) ∧ w.cell? ⟨h, i * 4 + 2, none⟩ = some (iv (s.a : Int)) ∧ w.cell? ⟨h, i * 4 + 3, none⟩ = some (iv (s.b : Int)) ∧ (∀ j, w.frozen? ⟨h, j, none⟩ = false) ∧
      Op3 S ((((w.setCell ⟨h, i * 4, none⟩ (.bool t.i)).setCell ⟨h, i * 4 + 1, none⟩ (iv (t.p : Int))).setCell ⟨h, i * 4 + 2, none⟩ (iv (t.a : Int))).setCell ⟨h, i * 4 + 3, none⟩ (iv (t.b : Int))) x g n cn h cs k ce N (P.set i t) E ∧
      Keep S w ((((w.setCell ⟨h, i * 4, none⟩ (.bool t.i)).setCell ⟨h, i * 4 + 1, none⟩ (iv (t.p : Int))).setCell ⟨h, i * 4 + 2, none⟩ (iv (t.a : Int))).setCell ⟨h, i * 4 + 3, none⟩ (iv (t.b : Int))) := by
  obtain ⟨s, hs⟩ := o.spAt hi
  have hlt : i < P.length := (List.getElem?_eq_some_iff.1 hs).1
  have hr := o.v.sr
  rw [o.v.pl, o.nn] at hr
  obtain ⟨a1, k1, _⟩ := o.setS (j := 0) (s' := ⟨t.i, s.p, s.a, s.b⟩) (u := .bool t.i) hs (by decide) rfl
  obtain ⟨a2, k2, _⟩ := a1.setS (i := i) (j := 1) (s := ⟨t.i, s.p, s.a, s.b⟩) (s' := ⟨t.i, t.p, s.a, s.b⟩) (u := iv (t.p : Int)) (by rw [List.getElem?_set_self hlt]) (by decide) rfl
  obtain ⟨a3, k3, _⟩ := a2.setS (i := i) (j := 2) (s := ⟨t.i, t.p, s.a, s.b⟩) (s' := ⟨t.i, t.p, t.a, s.b⟩) (u := iv (t.a : Int)) (by rw [List.set_set, List.getElem?_set_self hlt]) (by decide) rfl
  obtain ⟨a4, k4, _⟩ := a3.setS (i := i) (j := 3) (s := ⟨t.i, t.p, t.a, s.b⟩) (s' := ⟨t.i, t.p, t.a, t.b⟩) (u := iv (t.b : Int)) (by rw [List.set_set, List.set_set, List.getElem?_set_self hlt]) (by decide) rfl
  rw [List.set_set, List.set_set, List.set_set] at a4
  exact ⟨s, o.sp (j := 0) hs (by decide), o.sp (j := 1) hs (by decide), o.sp (j := 2) hs (by decide), o.sp (j := 3) hs (by decide), fun j => World.ownsRow.frozenAt hr.own _, a4, ((k1.trans k2).trans k3).trans k4⟩

theorem link_last {S : Nat → Prop} {w : World} {x g n cn h cs k ce : Nat} {N : List Nd} {P : List Sp} {E : List En} (o : Op3 S w x g n cn h cs k ce N P E) {p i : Nat} {e : En} (hp : p < n) (hi : i < n) (he : E[p]? = some e) (hl : e.l < n) :
    Calls Try.prog 47 #[ptr x, iv (p : Int), iv (i : Int), iv (-1)] w (Dn S x g n cn h cs k ce N (linkS P p i e.l 0) (linkE E p i e.l 0) w) := by
  obtain ⟨c0, c1, c2⟩ := o.c
  have hp2 : (p : Int) < (n : Int) := by omega
  have hi2 : (i : Int) < (n : Int) := by omega
  have e1 : w.cell? ⟨k, p * 2 + 1, none⟩ = some (iv (e.l : Int)) := o.en (j := 1) he (by decide)
  obtain ⟨s, d0, d1, d2, d3, fz, o1, k1⟩ := o.setS4 hi ⟨true, p, 0, 0⟩
  have f0 := fz (i * 4)
  have f1 := fz (i * 4 + 1)
  have f2 := fz (i * 4 + 2)
  have f3 := fz (i * 4 + 3)
  simp only at o1 k1
  obtain ⟨W1, hW1⟩ : ∃ W1, ((((w.setCell ⟨h, i * 4, none⟩ (.bool true)).setCell ⟨h, i * 4 + 1, none⟩ (iv (p : Int))).setCell ⟨h, i * 4 + 2, none⟩ (iv ((0 : Nat) : Int))).setCell ⟨h, i * 4 + 3, none⟩ (iv ((0 : Nat) : Int))) = W1 := ⟨_, rfl⟩
  have HW : Hid (((((w.setCell ⟨h, i * 4, none⟩ (.bool true)).setCell ⟨h, i * 4 + 1, none⟩ (iv (p : Int))).setCell ⟨h, i * 4 + 2, none⟩ (.int .i64 0)).setCell ⟨h, i * 4 + 3, none⟩ (.int .i64 0)) = W1) := hW1
  rw [hW1] at o1 k1
  have HO : Hid (Op3 S W1 x g n cn h cs k ce N (P.set i ⟨true, p, 0, 0⟩) E ∧ Keep S w W1) := ⟨o1, k1⟩
  have j1 := join_any o1 (p := p) (a := e.l) (b := i) hp hl hi
  clear hW1 o o1 k1 fz he
  obtain ⟨el, hel⟩ : ∃ el, e.l = el := ⟨_, rfl⟩
  rw [hel] at j1 e1 ⊢
  clear hel hl
  go_enter Try.func47, Try.ntmps47
  go_upto_region 4 with fail
  rw [HW.out]
  go_wp2_with fail
  refine j1.mono ?_
  rintro e2 w2 ⟨rfl, o2, k2⟩
  have j2 := join_any o2 (p := p) (a := i) (b := 0) hp hi (by omega)
  have HO2 : Hid (Keep S w w2) := HO.out.2.trans k2
  clear o2 k2
  go_wp2_with fail
  refine j2.mono ?_
  rintro e3 w3 ⟨rfl, o3, k3⟩
  have HO3 : Hid (Dn S x g n cn h cs k ce N (linkS P p i el 0) (linkE E p i el 0) w (.returned (.tuple #[])) w3) := ⟨rfl, o3, HO2.out.trans k3⟩
  clear o3 k3
  go_wp2_with fail
  refine bodyPost_end (results_none rfl _ _ _) rfl ?_
  exact HO3.out
theorem link_at {S : Nat → Prop} {w : World} {x g n cn h cs k ce : Nat} {N : List Nd} {P : List Sp} {E : List En} (o : Op3 S w x g n cn h cs k ce N P E) {p i b : Nat} {e : Sp} (hp : p < n) (hi : i < n) (hb : b < n) (he : P[b]? = some e) (hl : e.a < n) :
    Calls Try.prog 47 #[ptr x, iv (p : Int), iv (i : Int), iv (b : Int)] w (Dn S x g n cn h cs k ce N (linkS P p i e.a b) (linkE E p i e.a b) w) := by
  obtain ⟨c0, c1, c2⟩ := o.c
  have hp2 : (p : Int) < (n : Int) := by omega
  have hi2 : (i : Int) < (n : Int) := by omega
  have hb2 : (b : Int) < (n : Int) := by omega
  have hb3 : ¬ (b : Int) = -1 := by omega
  obtain ⟨e', he'⟩ := o.enAt hp
  have e0 : w.cell? ⟨k, p * 2 + 1, none⟩ = some (iv (e'.l : Int)) := o.en (j := 1) he' (by decide)
  have e1 : w.cell? ⟨h, b * 4 + 2, none⟩ = some (iv (e.a : Int)) := o.sp (j := 2) he (by decide)
  obtain ⟨s, d0, d1, d2, d3, fz, o1, k1⟩ := o.setS4 hi ⟨true, p, 0, 0⟩
  have f0 := fz (i * 4)
  have f1 := fz (i * 4 + 1)
  have f2 := fz (i * 4 + 2)
  have f3 := fz (i * 4 + 3)
  simp only at o1 k1
  obtain ⟨W1, hW1⟩ : ∃ W1, ((((w.setCell ⟨h, i * 4, none⟩ (.bool true)).setCell ⟨h, i * 4 + 1, none⟩ (iv (p : Int))).setCell ⟨h, i * 4 + 2, none⟩ (iv ((0 : Nat) : Int))).setCell ⟨h, i * 4 + 3, none⟩ (iv ((0 : Nat) : Int))) = W1 := ⟨_, rfl⟩
  have HW : Hid (((((w.setCell ⟨h, i * 4, none⟩ (.bool true)).setCell ⟨h, i * 4 + 1, none⟩ (iv (p : Int))).setCell ⟨h, i * 4 + 2, none⟩ (.int .i64 0)).setCell ⟨h, i * 4 + 3, none⟩ (.int .i64 0)) = W1) := hW1
  rw [hW1] at o1 k1
  have HO : Hid (Op3 S W1 x g n cn h cs k ce N (P.set i ⟨true, p, 0, 0⟩) E ∧ Keep S w W1) := ⟨o1, k1⟩
  have j1 := join_any o1 (p := p) (a := e.a) (b := i) hp hl hi
  clear hW1 o o1 k1 fz he
  obtain ⟨el, hel⟩ : ∃ el, e.a = el := ⟨_, rfl⟩
  rw [hel] at j1 e1 ⊢
  clear hel hl
  go_enter Try.func47, Try.ntmps47
  go_upto_region 4 with fail
  rw [HW.out]
  go_wp2_with fail
  refine j1.mono ?_
  rintro e2 w2 ⟨rfl, o2, k2⟩
  have j2 := join_any o2 (p := p) (a := i) (b := b) hp hi (by omega)
  have HO2 : Hid (Keep S w w2) := HO.out.2.trans k2
  clear o2 k2
  go_wp2_with fail
  refine j2.mono ?_
  rintro e3 w3 ⟨rfl, o3, k3⟩
  have HO3 : Hid (Dn S x g n cn h cs k ce N (linkS P p i el b) (linkE E p i el b) w (.returned (.tuple #[])) w3) := ⟨rfl, o3, HO2.out.trans k3⟩
  clear o3 k3
  go_wp2_with fail
  refine bodyPost_end (results_none rfl _ _ _) rfl ?_
  exact HO3.out
end Go.Proofs.Ytcdaghlbfclpkaa
