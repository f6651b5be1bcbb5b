/- A node's kids; whether one stands below another. -/
import Derived.Test.YtcdaghlbfclpkaaAc
namespace Go.Proofs.Ytcdaghlbfclpkaa
open Go.RowKit

/-- From a kid on, one behind the other. -/
inductive Chain (P : List Sp) : Nat → List Nat → Prop
  | nil : Chain P 0 []
  | cons {k : Nat} {s : Sp} {L : List Nat} (h0 : k ≠ 0) (hs : P[k]? = some s) (t : Chain P s.b L) : Chain P k (k :: L)
theorem Chain.zero {P : List Sp} {L : List Nat} (h : Chain P 0 L) : L = [] := by cases h with | nil => rfl | cons h0 => exact absurd rfl h0
theorem Chain.pos {P : List Sp} {k : Nat} {L : List Nat} (h : Chain P k L) (h0 : k ≠ 0) : ∃ s L', L = k :: L' ∧ P[k]? = some s ∧ Chain P s.b L' := by cases h with | nil => exact absurd rfl h0 | cons _ hs t => exact ⟨_, _, rfl, hs, t⟩
def iL (L : List Nat) : List Value := L.map fun (k : Nat) => iv (k : Int)
theorem iL_snoc (L : List Nat) (k : Nat) : iL (L ++ [k]) = iL L ++ [iv (k : Int)] := by simp [iL]
/-- A row of numbers of one's own, in new memory. -/
abbrev Kds (L : List Nat) (w : World) (e : Ending) (w' : World) : Prop := ∃ v, e = .returned v ∧ Below w.heap.size w w' ∧ Rw (fun k => k < w.heap.size) w' 3 1 v L.length (iL L)
/-- Going through the kids: what is gathered, the kid, what is left. -/
structure KI (w0 : World) (P : List Sp) (L : List Nat) (v : Value) (k : Nat) (w : World) : Prop where
  ex : ∃ D T, L = D ++ T ∧ Chain P k T ∧ Rw (fun k => k < w0.heap.size) w 3 1 v D.length (iL D) ∧ Below w0.heap.size w0 w
theorem int_more {S : Nat → Prop} {w : World} {v : Value} {D : List Nat} (hlow : ∀ k, S k → k < w.heap.size) (hr : Rw S w 3 1 v D.length (iL D)) (k : Nat) (hD : D.length ≤ 1000000000) :
    ∃ v' W', (Builtin.append_ #[44, 44] 44 #[v, .slice (some ⟨w.heap.size, 0, none⟩) 1 1]).run Try.prog (w.alloc (.cells #[iv (k : Int)] 3)) = .ok v' W' ∧ Rw S W' 3 1 v' (D ++ [k]).length (iL (D ++ [k])) ∧ w.grownBy W' v.ownBlock := by
  have b1 : Below w.heap.size w (w.alloc (.cells #[iv (k : Int)] 3)) := (Below.refl _ _).alloc (Nat.le_refl _) _
  obtain ⟨v', W', h1, h2, h3, _⟩ := Rw.app (t := 44) (e := 3) (S := S) Try.underlying44 info3 rfl (by decide) (by decide) (hr.old b1) (fun k hk => Nat.lt_of_lt_of_le (hlow k hk) b1.size) w.heap.size 0 1 1 [iv (k : Int)] (by simp)
    (fun j u hj => by
      cases j with
      | zero => simp at hj; subst hj; rw [Nat.zero_add, World.cell?_alloc_at _ _ _ _ rfl]; rfl
      | succ j => simp at hj) (by intro u hu; simp at hu; subst hu; rfl) (by omega)
  refine ⟨v', W', h1, by rw [List.length_append, iL_snoc]; exact h2, ⟨h3.os.trans b1.os, h3.tape.trans b1.tape, h3.output.trans b1.output, Nat.le_trans b1.size h3.size, fun d hd hne => (h3.block d (Nat.lt_of_lt_of_le hd b1.size) hne).trans (b1.block d hd)⟩⟩
theorem kids_none {S : Nat → Prop} {w : World} {x g n cn h cs k ce : Nat} {N : List Nd} {P : List Sp} {E : List En} (o : Op3 S w x g n cn h cs k ce N P E) {i : Int} (hi : isN n i = false) :
    Calls Try.prog 17 #[ptr x, iv i] w (Kds [] w) := by
  have kh := has_any o i
  rw [hi] at kh
  have HZ : Hid (Kds [] w (.returned (.slice none 0 0)) w) := ⟨_, rfl, Below.refl _ _, Rw.nil _ w 3 1⟩
  clear o hi
  go_enter Try.func17, Try.ntmps17
  go_wp2_with fail
  refine kh.mono ?_
  rintro e w' ⟨rfl, rfl⟩
  go_wp2_with fail
  go_ret
  exact HZ.out
theorem Chain.len {P : List Sp} {k : Nat} {L : List Nat} (h : Chain P k L) (hn : L.Nodup) : L.length ≤ P.length := by
  have : ∀ {k L}, Chain P k L → ∀ i ∈ L, i < P.length := fun h => by
    induction h with
    | nil => simp
    | cons h0 hs t ih =>
      intro i hi
      rcases List.mem_cons.1 hi with rfl | hi
      · exact (List.getElem?_eq_some_iff.1 hs).1
      · exact ih i hi
  have hm := this h
  have := List.Nodup.length_le_of_subset hn (fun i hi => List.mem_range.2 (hm i hi))
  simpa using this
theorem Op3.old {S : Nat → Prop} {w w' : World} {x g n cn h cs k ce : Nat} {N : List Nd} {P : List Sp} {E : List En} (o : Op3 S w x g n cn h cs k ce N P E) (b : Below w.heap.size w w') : Op3 S w' x g n cn h cs k ce N P E := ⟨o.v.old b, o.nn⟩
theorem grown_low {B : Nat} {w0 w w' : World} {v : Value} {e s n : Nat} {xs : List Value} (b : Below B w0 w) (hB : w0.heap.size = B) (hr : Rw (fun k => k < B) w e s v n xs) (g : w.grownBy w' v.ownBlock) : Below B w0 w' :=
  b.trans ⟨g.os, g.tape, g.output, g.size, fun d hd => g.block d (by have := b.size; omega) (fun e => hr.out d e.symm hd)⟩

set_option maxHeartbeats 1000000 in
theorem kids_any {S : Nat → Prop} {w : World} {x g n cn h cs k ce : Nat} {N : List Nd} {P : List Sp} {E : List En} (o : Op3 S w x g n cn h cs k ce N P E) {i : Nat} {e : En} {L : List Nat} (he : E[i]? = some e) (hc : Chain P e.f L) (hL : L.length ≤ n) :
    Calls Try.prog 17 #[ptr x, iv (i : Int)] w (Kds L w) := by
  have hi : i < n := by rw [← o.nn, ← o.v.el]; exact (List.getElem?_eq_some_iff.1 he).1
  have hn : n ≤ 1000000000 := by rw [← o.nn]; exact o.v.few
  have kh := has_any o (i : Int)
  rw [isN_lt hi] at kh
  have hi2 : (i : Int) < (n : Int) := by omega
  obtain ⟨c0, c1, c2⟩ := o.c
  have e0 : w.cell? ⟨k, i * 2, none⟩ = some (iv (e.f : Int)) := o.en (j := 0) he (by decide)
  have HO : Hid (Op3 S w x g n cn h cs k ce N P E ∧ Chain P e.f L ∧ L.length ≤ n ∧ n ≤ 1000000000) := ⟨o, hc, hL, hn⟩
  obtain ⟨q0, hq0⟩ : ∃ q0, e.f = q0 := ⟨_, rfl⟩
  rw [hq0] at HO e0
  clear o hc hL he hq0 hn
  go_enter Try.func17, Try.ntmps17
  go_wp2_with fail
  refine kh.mono ?_
  rintro e1 w1 ⟨rfl, rfl⟩
  go_wp2_with fail
  go_loopg [5, 6] L.length (fun g2 ov kv wr => ∃ (D T : List Nat) (q : Nat), kv = iv (q : Int) ∧ L = D ++ T ∧ T.length = g2 ∧ Chain P q T ∧ Rw (fun k => k < w1.heap.size) wr 3 1 ov D.length (iL D) ∧ Below w1.heap.size w1 wr)
  case atStart => exact ⟨[], L, q0, rfl, rfl, rfl, HO.out.2.1, Rw.nil _ _ 3 1, Below.refl _ _⟩
  case round =>
    obtain ⟨D, T, q, rfl, hLT, hgk, hch, hrw, hbw⟩ := hrel
    cases gk with
    | zero =>
      obtain rfl := List.eq_nil_of_length_eq_zero hgk
      have hq : q = 0 := by cases hch; rfl
      subst hq
      rw [List.append_nil] at hLT
      have HZ : Hid (Kds L w1 (.returned u5) wr) := ⟨_, rfl, hbw, by rw [hLT]; exact hrw⟩
      clear hLT hgk hch hrw hbw
      go_wp2_with fail
      go_ret
      exact HZ.out
    | succ m =>
      have hq : q ≠ 0 := by rintro rfl; have := hch.zero; subst this; simp at hgk
      obtain ⟨s, T', rfl, hs, ht⟩ := hch.pos hq
      have hqi : ¬ (q : Int) = 0 := by omega
      have hqn : q < n := by rw [← HO.out.1.nn, ← HO.out.1.v.pl]; exact (List.getElem?_eq_some_iff.1 hs).1
      have hq2 : (q : Int) < (n : Int) := by omega
      obtain ⟨v', W', hrun, hr', hg'⟩ := int_more (S := fun k => k < w1.heap.size) (fun k hk => Nat.lt_of_lt_of_le hk hbw.size) hrw q (by have h1 := HO.out.2.2.1; have h2 := HO.out.2.2.2; rw [hLT, List.length_append] at h1; omega)
      have hb' := grown_low hbw rfl hrw hg'
      have o' := HO.out.1.old hb'
      obtain ⟨_, c1', _⟩ := o'.c
      have d3 : W'.cell? ⟨h, q * 4 + 3, none⟩ = some (iv (s.b : Int)) := o'.sp (j := 3) hs (by decide)
      have HZ : Hid (∃ (D T : List Nat) (q : Nat), iv (s.b : Int) = iv (q : Int) ∧ L = D ++ T ∧ T.length = m ∧ Chain P q T ∧ Rw (fun k => k < w1.heap.size) W' 3 1 v' D.length (iL D) ∧ Below w1.heap.size w1 W') :=
        ⟨D ++ [q], T', s.b, rfl, by rw [hLT]; simp, by simpa using hgk, ht, hr', hb'⟩
      clear hLT hgk hch hrw hbw hs ht hr' hg' hb' o' hq
      obtain ⟨sb, hsb⟩ : ∃ sb, s.b = sb := ⟨_, rfl⟩
      rw [hsb] at HZ d3
      clear hsb
      go_wp2_with (at_builtin; refine list_append_eq rfl _ _ 44 44 rfl _ _ rfl rfl hrun ?_)
      go_roundg m
      case measure => omega
      case rel => exact HZ.out

/-- Whether one stands below another: going up, m steps. -/
inductive Up (P : List Sp) (t : Nat) : Nat → Nat → Bool → Prop
  | here : Up P t 0 t true
  | out {i : Nat} {s : Sp} (h : i ≠ t) (hs : P[i]? = some s) (ho : s.i = false) : Up P t 0 i false
  | up {m i : Nat} {s : Sp} {b : Bool} (h : i ≠ t) (hs : P[i]? = some s) (ho : s.i = true) (u : Up P t m s.p b) : Up P t (m + 1) i b
theorem within_new {S : Nat → Prop} {w : World} {x g n cn h cs k ce : Nat} {N : List Nd} {P : List Sp} {E : List En} (o : Op3 S w x g n cn h cs k ce N P E) {i t : Nat} {e : En} (he : E[t]? = some e) (hf : e.f = 0) :
    Calls Try.prog 46 #[ptr x, iv (i : Int), iv (t : Int)] w (Rd (.bool (decide (i = t))) w) := by
  have ht : t < n := by rw [← o.nn, ← o.v.el]; exact (List.getElem?_eq_some_iff.1 he).1
  have ht2 : (t : Int) < (n : Int) := by omega
  obtain ⟨c0, c1, c2⟩ := o.c
  have e0 : w.cell? ⟨k, t * 2, none⟩ = some (iv ((0 : Nat) : Int)) := by rw [← hf]; exact o.en (j := 0) he (by decide)
  have hd : decide (i = t) = decide ((i : Int) = (t : Int)) := by
    rw [decide_eq_decide]
    omega
  rw [hd]
  clear o he hf hd
  go_enter Try.func46, Try.ntmps46
  go_wp2_with fail
  go_ret
  refine ⟨?_, rfl⟩
  show Ending.returned (Value.bool ((i : Int) == (t : Int))) = _
  by_cases h1 : (i : Int) = (t : Int) <;> simp [h1]
end Go.Proofs.Ytcdaghlbfclpkaa
