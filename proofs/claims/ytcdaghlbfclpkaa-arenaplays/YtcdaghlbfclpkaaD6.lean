/- Do, of any other kind: Get of both arenas. -/
import Derived.Test.YtcdaghlbfclpkaaDh
import Derived.Test.YtcdaghlbfclpkaaEa
import Derived.Test.YtcdaghlbfclpkaaAt
namespace Go.Proofs.Ytcdaghlbfclpkaa
open Go.RowKit

theorem both_get {Z : Nat → Prop} {w : World} {x y : Nat} {N : List Nd} {P : List Sp} {E : List En} {L : List RN} (t : Two Z w x y N P E L) (hR : Rel N P E L) (i : Int) :
    ∃ (i1 i2 i3 : Int) (s1 s2 : ByteArray) (A : List At) (n : Nat) (t1 t2 t3 t4 ev : Int), A.length = n ∧ n ≤ 1000000000 ∧
      (∀ w', Below w.heap.size w w' → Calls Try.prog 25 #[ptr x, iv i] w' (fun e w'' => ∃ ao ac, e = .returned (.tuple #[.agg #[iv i1, iv i2, iv i3, .string s1, .string s2, .slice ao n ac, iv t1, iv t2, iv t3, iv t4, .slice none 0 0], iv ev]) ∧ Below w'.heap.size w' w'' ∧ AtRow w'' ao A)) ∧
      (∀ w', Below w.heap.size w w' → Calls Try.prog 38 #[ptr y, iv i] w' (fun e w'' => ∃ ao ac, e = .returned (.tuple #[.agg #[iv i1, iv i2, iv i3, .string s1, .string s2, .slice ao n ac, iv t1, iv t2, iv t3, iv t4, .slice none 0 0], iv ev]) ∧ Below w'.heap.size w' w'' ∧ AtRow w'' ao A)) := by
  cases hi : isN L.length i with
  | false =>
    refine ⟨0, 0, 0, ⟨#[]⟩, ⟨#[]⟩, [], 0, 0, 0, 0, 0, 4, rfl, by omega, fun w' b => ?_, fun w' b => ?_⟩
    · obtain ⟨F, h⟩ := t.old b
      obtain ⟨g, n', cn, k1, cs, k2, ce, o⟩ := h.a.open (by rw [hR.nl]; exact hR.n0)
      refine (get_no o (i := i) (by rw [← o.nn, hR.nl]; exact hi)).mono ?_
      rintro e w'' ⟨rfl, b1⟩
      exact ⟨none, 0, rfl, b1, fun _ _ hx => by simp at hx⟩
    · obtain ⟨F, h⟩ := t.old b
      obtain ⟨g, n', c, o⟩ := h.r.open hR.n0
      refine (rget_no o (i := i) (by rw [← o.nn]; exact hi)).mono ?_
      rintro e w'' ⟨rfl, b1⟩
      exact ⟨none, 0, rfl, b1, fun _ _ hx => by simp at hx⟩
  | true =>
    have hi' : 0 ≤ i ∧ i < (L.length : Int) := by simpa [isN] using hi
    obtain ⟨j, rfl⟩ : ∃ j : Nat, i = (j : Int) := ⟨i.toNat, by omega⟩
    obtain ⟨d, s, e, r, hd, _, _, hr⟩ := hR.atL (i := j) (by omega)
    obtain ⟨hid, al⟩ := hR.nd j d r hd hr
    have hf := hR.al r (List.mem_of_getElem? hr)
    refine ⟨j, r.d.kind, r.d.space, r.d.name, r.d.text, r.d.al, r.d.al.length, r.d.sf, r.d.st, r.d.ef, r.d.et, 0, rfl, hf, fun w' b => ?_, fun w' b => ?_⟩
    · obtain ⟨F, h⟩ := t.old b
      obtain ⟨g, n', cn, k1, cs, k2, ce, o⟩ := h.a.open (by rw [hR.nl]; exact hR.n0)
      refine (get_any o hd (by rw [al.al]; exact hf)).mono ?_
      rintro e w'' ⟨ao, ac, rfl, b1, hw⟩
      obtain ⟨ao', cap, he, ha⟩ := ((hw (fun _ => False) (fun _ q => q.elim)).atr (by rw [al.al]; omega)).ex
      simp only [Value.slice.injEq, true_and] at he
      obtain ⟨rfl, rfl⟩ := he
      rw [hid, al.kind, al.space, al.name, al.text, al.al, al.sf, al.st, al.ef, al.et]
      rw [al.al] at ha
      exact ⟨_, _, rfl, b1, ha⟩
    · obtain ⟨F, h⟩ := t.old b
      obtain ⟨g, n', c, o⟩ := h.r.open hR.n0
      refine (rget_any o hr hf).mono ?_
      rintro e w'' ⟨ao, ac, rfl, b1, hw⟩
      obtain ⟨ao', cap, he, ha⟩ := ((hw (fun _ => False) (fun _ q => q.elim)).atr (by omega)).ex
      simp only [Value.slice.injEq, true_and] at he
      obtain ⟨rfl, rfl⟩ := he
      exact ⟨_, _, rfl, b1, ha⟩
set_option maxHeartbeats 4000000 in
theorem do_6 {Z : Nat → Prop} {w : World} {x y : Nat} {N : List Nd} {P : List Sp} {E : List En} {L : List RN} (t : Two Z w x y N P E L) (hR : Rel N P E L) (k a b c : Int) (d : Nd) (ao : Option Addr) (ac : Nat) (ko : Option Addr) (kn kc : Nat) (h0 : (k == 0) = false) (h1 : (k == 1) = false) (h2 : (k == 2) = false) (h3 : (k == 3) = false) (h4 : (k == 4) = false) (h5 : (k == 5) = false) :
    Calls Try.prog 12 #[ptr x, ptr y, .agg #[iv k, iv a, iv b, iv c, iv d.id, iv d.kind, iv d.space, .string d.name, .string d.text, .slice ao d.al.length ac, iv d.sf, iv d.st, iv d.ef, iv d.et, .slice ko kn kc]] w (fun e w' => e = .returned (iv 1) ∧ Below w.heap.size w w') := by
  have b0 : Below w.heap.size w (w.alloc (.cells #[iv k, iv a, iv b, iv c, iv d.id, iv d.kind, iv d.space, .string d.name, .string d.text, .slice ao d.al.length ac, iv d.sf, iv d.st, iv d.ef, iv d.et, .slice ko kn kc] 37)) := (Below.refl _ _).alloc (Nat.le_refl _) _
  have n0 : (w.alloc (.cells #[iv k, iv a, iv b, iv c, iv d.id, iv d.kind, iv d.space, .string d.name, .string d.text, .slice ao d.al.length ac, iv d.sf, iv d.st, iv d.ef, iv d.et, .slice ko kn kc] 37)).heap[w.heap.size]? = some (.cells #[iv k, iv a, iv b, iv c, iv d.id, iv d.kind, iv d.space, .string d.name, .string d.text, .slice ao d.al.length ac, iv d.sf, iv d.st, iv d.ef, iv d.et, .slice ko kn kc] 37 (0, 0)) := heap_alloc_new w _
  obtain ⟨W0, hW0⟩ : ∃ W0, w.alloc (.cells #[iv k, iv a, iv b, iv c, iv d.id, iv d.kind, iv d.space, .string d.name, .string d.text, .slice ao d.al.length ac, iv d.sf, iv d.st, iv d.ef, iv d.et, .slice ko kn kc] 37) = W0 := ⟨_, rfl⟩
  have HW0 : Hid (w.alloc (.cells #[iv k, iv a, iv b, iv c, iv d.id, iv d.kind, iv d.space, .string d.name, .string d.text, .slice ao d.al.length ac, iv d.sf, iv d.st, iv d.ef, iv d.et, .slice ko kn kc] 37) = W0) := hW0
  rw [hW0] at b0 n0
  clear hW0
  have hlt := (Array.getElem?_eq_some_iff.1 n0).1
  have t0 := t.old b0
  have e0 : W0.cell? ⟨w.heap.size, 0, none⟩ = some (iv k) := by simp [World.cell?, n0]
  have e1 : W0.cell? ⟨w.heap.size, 1, none⟩ = some (iv a) := by simp [World.cell?, n0]
  obtain ⟨i1, i2, i3, s1, s2, A, n, t1, t2, t3, t4, ev, hA, hn, g1, g2⟩ := both_get t0 hR a
  have c1 := g1 W0 (Below.refl _ _)
  have H : Hid (Below w.heap.size w W0 ∧ A.length = n ∧ n ≤ 1000000000 ∧ w.heap.size < W0.heap.size) := ⟨b0, hA, hn, hlt⟩
  have G2 : Hid (∀ w', Below W0.heap.size W0 w' → Calls Try.prog 38 #[ptr y, iv a] w' (fun e w'' => ∃ ao ac, e = .returned (.tuple #[.agg #[iv i1, iv i2, iv i3, .string s1, .string s2, .slice ao n ac, iv t1, iv t2, iv t3, iv t4, .slice none 0 0], iv ev]) ∧ Below w'.heap.size w' w'' ∧ AtRow w'' ao A)) := g2
  clear t t0 hR n0 b0 hA hn hlt g1 g2
  go_enter Try.func12, Try.ntmps12
  go_upto_region 1 with fail
  rw [HW0.out]
  clear HW0
  go_upto_region 3 with fail
  go_wp2_with fail
  refine c1.mono ?_
  clear c1
  rintro e w1 ⟨ao1, ac1, rfl, b1, r1⟩
  have b2 : Below w1.heap.size w1 (w1.alloc (.cells #[iv i1, iv i2, iv i3, .string s1, .string s2, .slice ao1 n ac1, iv t1, iv t2, iv t3, iv t4, .slice none 0 0] 35)) := (Below.refl _ _).alloc (Nat.le_refl _) _
  have n2 := heap_alloc_new w1 (.cells #[iv i1, iv i2, iv i3, .string s1, .string s2, .slice ao1 n ac1, iv t1, iv t2, iv t3, iv t4, .slice none 0 0] 35)
  go_upto_region 4 with fail
  have fr : ¬ w1.heap.size < W0.heap.size := Nat.not_lt.2 b1.size
  have b3 : Below W0.heap.size W0 (w1.alloc (.cells #[iv i1, iv i2, iv i3, .string s1, .string s2, .slice ao1 n ac1, iv t1, iv t2, iv t3, iv t4, .slice none 0 0] 35)) := b1.trans (b2.mono b1.size)
  have r2 := r1.old b2
  generalize hW2 : w1.alloc (.cells #[iv i1, iv i2, iv i3, .string s1, .string s2, .slice ao1 n ac1, iv t1, iv t2, iv t3, iv t4, .slice none 0 0] 35) = w2 at *
  clear hW2
  have e1' : w2.cell? ⟨w.heap.size, 1, none⟩ = some (iv a) := (cell_same (b3.block w.heap.size H.out.2.2.2) 1).trans e1
  have c2 := G2.out w2 b3
  have H2 : Hid (Below W0.heap.size W0 w2 ∧ AtRow w2 ao1 A ∧ w2.heap[w1.heap.size]? = some (.cells #[iv i1, iv i2, iv i3, .string s1, .string s2, .slice ao1 n ac1, iv t1, iv t2, iv t3, iv t4, .slice none 0 0] 35 (0, 0)) ∧ ¬ w1.heap.size < W0.heap.size) := ⟨b3, r2, n2, fr⟩
  clear b1 b2 b3 r1 r2 n2 fr e0 e1
  go_wp2_with fail
  refine c2.mono ?_
  clear c2
  rintro e w3 ⟨ao2, ac2, rfl, b4, r4⟩
  have b5 : Below w3.heap.size w3 (w3.alloc (.cells #[iv i1, iv i2, iv i3, .string s1, .string s2, .slice ao2 n ac2, iv t1, iv t2, iv t3, iv t4, .slice none 0 0] 35)) := (Below.refl _ _).alloc (Nat.le_refl _) _
  have n5 := heap_alloc_new w3 (.cells #[iv i1, iv i2, iv i3, .string s1, .string s2, .slice ao2 n ac2, iv t1, iv t2, iv t3, iv t4, .slice none 0 0] 35)
  go_upto_region 5 with fail
  have b6 : Below w2.heap.size w2 (w3.alloc (.cells #[iv i1, iv i2, iv i3, .string s1, .string s2, .slice ao2 n ac2, iv t1, iv t2, iv t3, iv t4, .slice none 0 0] 35)) := b4.trans (b5.mono b4.size)
  have r6 := r4.old b5
  generalize hW4 : w3.alloc (.cells #[iv i1, iv i2, iv i3, .string s1, .string s2, .slice ao2 n ac2, iv t1, iv t2, iv t3, iv t4, .slice none 0 0] 35) = w4 at *
  clear hW4
  have q1 : w4.heap[w1.heap.size]? = some (.cells #[iv i1, iv i2, iv i3, .string s1, .string s2, .slice ao1 n ac1, iv t1, iv t2, iv t3, iv t4, .slice none 0 0] 35 (0, 0)) := (b6.block w1.heap.size (Array.getElem?_eq_some_iff.1 H2.out.2.2.1).1).trans H2.out.2.2.1
  obtain ⟨u0, u1, u2, u3, u4, u5, u6, u7, u8, u9, u10⟩ : w4.cell? ⟨w1.heap.size, 0, none⟩ = some (iv i1) ∧ w4.cell? ⟨w1.heap.size, 1, none⟩ = some (iv i2) ∧ w4.cell? ⟨w1.heap.size, 2, none⟩ = some (iv i3) ∧ w4.cell? ⟨w1.heap.size, 3, none⟩ = some (.string s1) ∧ w4.cell? ⟨w1.heap.size, 4, none⟩ = some (.string s2) ∧ w4.cell? ⟨w1.heap.size, 5, none⟩ = some (.slice ao1 n ac1) ∧ w4.cell? ⟨w1.heap.size, 6, none⟩ = some (iv t1) ∧ w4.cell? ⟨w1.heap.size, 7, none⟩ = some (iv t2) ∧ w4.cell? ⟨w1.heap.size, 8, none⟩ = some (iv t3) ∧ w4.cell? ⟨w1.heap.size, 9, none⟩ = some (iv t4) ∧ w4.cell? ⟨w1.heap.size, 10, none⟩ = some (.slice none 0 0) := by
    refine ⟨?_, ?_, ?_, ?_, ?_, ?_, ?_, ?_, ?_, ?_, ?_⟩ <;> simp [World.cell?, q1]
  obtain ⟨v0, v1, v2, v3, v4, v5, v6, v7, v8, v9, v10⟩ : w4.cell? ⟨w3.heap.size, 0, none⟩ = some (iv i1) ∧ w4.cell? ⟨w3.heap.size, 1, none⟩ = some (iv i2) ∧ w4.cell? ⟨w3.heap.size, 2, none⟩ = some (iv i3) ∧ w4.cell? ⟨w3.heap.size, 3, none⟩ = some (.string s1) ∧ w4.cell? ⟨w3.heap.size, 4, none⟩ = some (.string s2) ∧ w4.cell? ⟨w3.heap.size, 5, none⟩ = some (.slice ao2 n ac2) ∧ w4.cell? ⟨w3.heap.size, 6, none⟩ = some (iv t1) ∧ w4.cell? ⟨w3.heap.size, 7, none⟩ = some (iv t2) ∧ w4.cell? ⟨w3.heap.size, 8, none⟩ = some (iv t3) ∧ w4.cell? ⟨w3.heap.size, 9, none⟩ = some (iv t4) ∧ w4.cell? ⟨w3.heap.size, 10, none⟩ = some (.slice none 0 0) := by
    refine ⟨?_, ?_, ?_, ?_, ?_, ?_, ?_, ?_, ?_, ?_, ?_⟩ <;> simp [World.cell?, n5]
  have c3 := same_nd n ac1 ac2 (H2.out.2.1.old b6) r6 H.out.2.1 (by have := H.out.2.2.1; omega) i1 i2 i3 s1 s2 t1 t2 t3 t4
  have bw : Below w.heap.size w w4 := H.out.1.trans ((H2.out.1.trans (b6.mono H2.out.1.size)).mono H.out.1.size)
  clear b4 b5 b6 r4 r6 n5 q1 e1' H H2 G2
  go_wp2_with fail
  refine c3.mono ?_
  clear c3
  rintro e w5 ⟨rfl, b7⟩
  have b8 : Below w.heap.size w w5 := bw.trans (b7.mono bw.size)
  clear b7 bw
  have ee : (ev == ev) = true := by simp
  go_wp2_with fail
  go_ret
  exact ⟨rfl, b8⟩
end Go.Proofs.Ytcdaghlbfclpkaa
