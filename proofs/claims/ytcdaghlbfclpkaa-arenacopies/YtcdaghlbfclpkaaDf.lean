/- A deed on both arenas: Make, Detach, what is set. -/
import Derived.Test.YtcdaghlbfclpkaaDe
import Derived.Test.YtcdaghlbfclpkaaCj
import Derived.Test.YtcdaghlbfclpkaaCk
import Derived.Test.YtcdaghlbfclpkaaCl
namespace Go.Proofs.Ytcdaghlbfclpkaa
open Go.RowKit

/-- A call of the program's arena and one of the document's: they answer the same, and the arenas stay alike. -/
def Deal (Z : Nat → Prop) (w : World) (x y : Nat) (N : List Nd) (P : List Sp) (E : List En) (L : List RN) (f : FuncId) (args : Array Value) (g : FuncId) (brgs : Array Value) (v : Value) : Prop :=
  ∃ (R : List Nd → List Sp → List En → Prop) (Q : List RN → Prop),
    (∀ w', Keep Z w w' → ∀ S, Ar S w' x N P E → Calls Try.prog f args w' (fun e w'' => e = .returned v ∧ ∃ N' P' E', R N' P' E' ∧ Ar S w'' x N' P' E' ∧ Keep S w' w'')) ∧
    (∀ w', Keep Z w w' → ∀ S, Ra S w' y L → Calls Try.prog g brgs w' (fun e w'' => e = .returned v ∧ ∃ L', Q L' ∧ Ra S w'' y L' ∧ Keep S w' w'')) ∧
    (∀ N' P' E' L', R N' P' E' → Q L' → Rel N' P' E' L' ∧ L'.length ≤ L.length + 1) ∧ (∃ N' P' E', R N' P' E') ∧ ∃ L', Q L'
theorem rd_below {v : Value} {f : FuncId} {args : Array Value} {w : World} (h : Calls Try.prog f args w (Rd v w)) : Calls Try.prog f args w (fun e w' => e = .returned v ∧ Below w.heap.size w w') :=
  h.mono fun e w' ⟨h1, h2⟩ => ⟨h1, by rw [h2]; exact Below.refl _ _⟩
theorem deal_same {Z : Nat → Prop} {w : World} {x y : Nat} {N : List Nd} {P : List Sp} {E : List En} {L : List RN} (h : Rel N P E L) {n : Nat} (hn : L.length = n) {f g : FuncId} {args brgs : Array Value} {v : Value}
    (hp : ∀ S w' g1 cn k1 cs k2 ce, Op3 S w' x g1 n cn k1 cs k2 ce N P E → Calls Try.prog f args w' (fun e w'' => e = .returned v ∧ Below w'.heap.size w' w''))
    (hr : ∀ S w' g1 c, RO S w' y g1 n c L → Calls Try.prog g brgs w' (fun e w'' => e = .returned v ∧ Below w'.heap.size w' w'')) : Deal Z w x y N P E L f args g brgs v := by
  refine ⟨fun N' P' E' => N' = N ∧ P' = P ∧ E' = E, fun L' => L' = L, fun w' _ S ha => ?_, fun w' _ S ha => ?_, ?_, ⟨_, _, _, rfl, rfl, rfl⟩, _, rfl⟩
  · obtain ⟨g1, n', cn, k1, cs, k2, ce, o⟩ := ha.open (by rw [h.nl]; exact h.n0)
    have e : n' = n := by have := o.nn; rw [h.nl, hn] at this; exact this.symm
    subst e
    exact (hp S w' g1 cn k1 cs k2 ce o).mono fun e w'' ⟨h1, h2⟩ => ⟨h1, N, P, E, ⟨rfl, rfl, rfl⟩, ha.old h2, Keep.old h2⟩
  · obtain ⟨g1, n', c, o⟩ := ha.open h.n0
    have e : n' = n := by have := o.nn; rw [hn] at this; exact this.symm
    subst e
    exact (hr S w' g1 c o).mono fun e w'' ⟨h1, h2⟩ => ⟨h1, L, rfl, ha.old h2, Keep.old h2⟩
  · rintro N' P' E' L' ⟨rfl, rfl, rfl⟩ rfl
    exact ⟨h, Nat.le_succ _⟩
theorem deal_turn {Z : Nat → Prop} {w : World} {x y : Nat} {N : List Nd} {P : List Sp} {E : List En} {L : List RN} (h : Rel N P E L) {n : Nat} (hn : L.length = n) {f g : FuncId} {args brgs : Array Value} {v : Value} (R : List Nd → List Sp → List En → Prop) (Q : List RN → Prop)
    (hp : ∀ S w' g1 cn k1 cs k2 ce, Keep Z w w' → Op3 S w' x g1 n cn k1 cs k2 ce N P E → Calls Try.prog f args w' (fun e w'' => e = .returned v ∧ ∃ N' P' E', R N' P' E' ∧ Ar S w'' x N' P' E' ∧ Keep S w' w''))
    (hr : ∀ S w' g1 c, Keep Z w w' → RO S w' y g1 n c L → Calls Try.prog g brgs w' (fun e w'' => e = .returned v ∧ ∃ L', Q L' ∧ Ra S w'' y L' ∧ Keep S w' w''))
    (hq : ∀ N' P' E' L', R N' P' E' → Q L' → Rel N' P' E' L' ∧ L'.length ≤ L.length + 1) (hRi : ∃ N' P' E', R N' P' E') (hQi : ∃ L', Q L') : Deal Z w x y N P E L f args g brgs v := by
  refine ⟨R, Q, fun w' hk S ha => ?_, fun w' hk S ha => ?_, hq, hRi, hQi⟩
  · obtain ⟨g1, n', cn, k1, cs, k2, ce, o⟩ := ha.open (by rw [h.nl]; exact h.n0)
    have e : n' = n := by have := o.nn; rw [h.nl, hn] at this; exact this.symm
    subst e
    exact hp S w' g1 cn k1 cs k2 ce hk o
  · obtain ⟨g1, n', c, o⟩ := ha.open h.n0
    have e : n' = n := by have := o.nn; rw [hn] at this; exact this.symm
    subst e
    exact hr S w' g1 c hk o
theorem Op3.ar {S : Nat → Prop} {w : World} {x g n cn h cs k ce : Nat} {N : List Nd} {P : List Sp} {E : List En} (o : Op3 S w x g n cn h cs k ce N P E) : Ar S w x N P E := ⟨_, _, _, o.v⟩
theorem RO.ra {S : Nat → Prop} {w : World} {x g n c : Nat} {L : List RN} (o : RO S w x g n c L) : Ra S w x L := ⟨_, o.v⟩

/-- Make. -/
theorem deal_make {Z : Nat → Prop} {w : World} {x y : Nat} {N : List Nd} {P : List Sp} {E : List En} {L : List RN} (h : Rel N P E L) {n : Nat} (hn : L.length = n) (hn2 : n ≤ 900000000) (d : Nd) {ao : Option Addr} {ac : Nat} (ha : ∀ w', Keep Z w w' → Ats w' (.slice ao d.al.length ac) d.al) (hf : d.al.length ≤ 1000000000) (ko : Option Addr) (kn kc : Nat) :
    ∃ v : Int, Deal Z w x y N P E L 23 #[ptr x, .agg #[iv d.id, iv d.kind, iv d.space, .string d.name, .string d.text, (.slice ao d.al.length ac), iv d.sf, iv d.st, iv d.ef, iv d.et, (.slice ko kn kc)]] 32 #[ptr y, .agg #[iv d.id, iv d.kind, iv d.space, .string d.name, .string d.text, .slice ao d.al.length ac, iv d.sf, iv d.st, iv d.ef, iv d.et, .slice ko kn kc]] (iv v) := by
  cases hk : mkNo d.kind with
  | true => exact ⟨-1, deal_same h hn (fun S w' g1 cn k1 cs k2 ce o => make_no x d ao ac ko kn kc hk) (fun S w' g1 c o => rmake_no y d ao ac ko kn kc hk)⟩
  | false =>
    refine ⟨(n : Int), deal_turn h hn (fun N' P' E' => ∃ av, N' = N ++ [d.as n av] ∧ P' = P ++ [⟨false, 0, 0, 0⟩] ∧ E' = E ++ [⟨0, 0⟩]) (fun L' => ∃ av, L' = L ++ [d.rn av]) (fun S w' g1 cn k1 cs k2 ce hz o => ?_) (fun S w' g1 c hz o => ?_) ?_ ⟨_, _, _, iv 0, rfl, rfl, rfl⟩ ⟨_, iv 0, rfl⟩⟩
    · refine (make_any o.ar o.nn hn2 d hk (ha w' hz) ko kn kc).mono ?_
      rintro e w2 ⟨av, rfl, h2, k2⟩
      exact ⟨rfl, _, _, _, ⟨av, rfl, rfl, rfl⟩, h2, k2⟩
    · refine (rmake_any o hn2 d hk (ha w' hz) hf ko kn kc).mono ?_
      rintro e w2 ⟨av, rfl, h2, k2⟩
      exact ⟨rfl, _, ⟨av, rfl⟩, h2, k2⟩
    · rintro N' P' E' L' ⟨av, rfl, rfl, rfl⟩ ⟨av', rfl⟩
      exact ⟨rel_make h hn d av av' hf, by simp⟩
/-- Detach. -/
theorem deal_det {Z : Nat → Prop} {w : World} {x y : Nat} {N : List Nd} {P : List Sp} {E : List En} {L : List RN} (h : Rel N P E L) {n : Nat} (hn : L.length = n) (hn2 : n ≤ 900000000) (i : Int) :
    ∃ v : Int, Deal Z w x y N P E L 26 #[ptr x, iv i] 34 #[ptr y, iv i] (iv v) := by
  cases hi : isN n i with
  | false => exact ⟨4, deal_same h hn (fun S w' g1 cn k1 cs k2 ce o => rd_below (det_no o (by rw [hi]; simp))) (fun S w' g1 c o => rd_below (rdet_none o hi))⟩
  | true =>
    obtain ⟨j, rfl, hj⟩ := isN_nat hi
    by_cases hj0 : j = 0
    · subst hj0
      exact ⟨4, deal_same h hn (fun S w' g1 cn k1 cs k2 ce o => rd_below (det_no o (by simp))) (fun S w' g1 c o => rd_below (rdet_zero o hj))⟩
    · obtain ⟨_, s, _, r, _, hs, _, hr⟩ := h.atL (by rw [hn]; exact hj)
      have hup := h.up j s r hs hr
      by_cases hp : r.p = -1
      · have hsi : s.i = false := by
          cases hq : s.i with
          | false => rfl
          | true => rw [hq, hp] at hup; simp at hup
        exact ⟨3, deal_same h hn (fun S w' g1 cn k1 cs k2 ce o => rd_below (det_out o hj0 hs hsi)) (fun S w' g1 c o => rd_below (rdet_out o hj0 hr hp))⟩
      · obtain ⟨p, rp, h1, h2, h3⟩ := h.kp j r hr hp
        obtain ⟨D, T, hK⟩ := List.append_of_mem h3
        have hnd := h.ap p rp h2
        have hD : j ∉ D := fun hm => by
          rw [hK] at hnd
          exact (List.nodup_append.1 hnd).2.2 j hm j (by simp) rfl
        obtain ⟨u1, u2, u3, u4, _⟩ := rel_unlink h h2 hr hs hK (.slice none 0 0)
        have hpl : p < n := by rw [← hn]; exact lt_of h2
        obtain ⟨dp, hdp⟩ := h.dp
        have hip : j ≠ p := fun e => by
          have := hdp j r p hr h1
          rw [e] at this
          omega
        have hKf : rp.ks.length ≤ 1000000000 := by
          obtain ⟨_, _, e, _, _, _, he, _⟩ := h.atL (lt_of h2)
          have := (h.kd p e rp he h2).1.chain.len hnd
          rw [h.pl, hn] at this
          omega
        refine ⟨0, deal_turn h hn (fun N' P' E' => N' = N ∧ P' = unlinkS P j s ∧ E' = unlinkE E s) (fun L' => ∃ kv, L' = (L.set p (rp.kids kv (D ++ T))).set j (r.par (-1))) (fun S w' g1 cn k1 cs k2 ce hz o => ?_) (fun S w' g1 c hz o => ?_) ?_ ⟨_, _, _, rfl, rfl, rfl⟩ ⟨_, iv 0, rfl⟩⟩
        · refine (det_any o hj0 hs u2 (by rw [u1]; exact hpl) (by rw [← hn]; exact u3) (by rw [← hn]; exact u4)).mono ?_
          rintro e w2 ⟨rfl, o2, k2⟩
          exact ⟨rfl, _, _, _, ⟨rfl, rfl, rfl⟩, o2.ar, k2⟩
        · refine (rdet_any o hj0 hr h1 h2 hip hK (by rw [hK, plP_mem hD, Nat.zero_add]) hKf).mono ?_
          rintro e w2 ⟨kv, rfl, o2, k2⟩
          exact ⟨rfl, _, ⟨kv, rfl⟩, o2.ra, k2⟩
        · rintro N' P' E' L' ⟨rfl, rfl, rfl⟩ ⟨kv, rfl⟩
          exact ⟨(rel_unlink h h2 hr hs hK kv).2.2.2.2, by simp⟩
theorem wantP_no {N : List Nd} {n : Nat} (hn : N.length = n) {i a b : Int} (hi : isN n i = false) : wantP N i a b = 4 := by
  unfold wantP
  by_cases h0 : 0 ≤ i
  · rw [if_pos h0, List.getElem?_eq_none (by simp [isN, h0] at hi; omega)]
  · rw [if_neg h0]
theorem wantP_at {N : List Nd} {j : Nat} {d : Nd} (hd : N[j]? = some d) (a b : Int) : wantP N (j : Int) a b = if d.kind < a ∨ d.kind > b then 3 else 0 := by
  unfold wantP
  rw [if_pos (by omega), Int.toNat_natCast, hd]
/-- SetText. -/
theorem deal_text {Z : Nat → Prop} {w : World} {x y : Nat} {N : List Nd} {P : List Sp} {E : List En} {L : List RN} (h : Rel N P E L) {n : Nat} (hn : L.length = n) (i : Int) (s : ByteArray) :
    ∃ v : Int, Deal Z w x y N P E L 27 #[ptr x, iv i, .string s] 36 #[ptr y, iv i, .string s] (iv v) := by
  cases hi : isN n i with
  | false => exact ⟨4, deal_same h hn (fun S w' g1 cn k1 cs k2 ce o => rd_below (text_no o s (wantP_no o.nn hi) (by decide))) (fun S w' g1 c o => rd_below (rtext_none o hi s))⟩
  | true =>
    obtain ⟨j, rfl, hj⟩ := isN_nat hi
    obtain ⟨d, _, _, r, hd, _, _, hr⟩ := h.atL (by rw [hn]; exact hj)
    have hA := (h.nd j d r hd hr)
    by_cases hk : d.kind < 2 ∨ d.kind > 3
    · exact ⟨3, deal_same h hn (fun S w' g1 cn k1 cs k2 ce o => rd_below (text_no o s (by rw [wantP_at hd, if_pos hk]) (by decide))) (fun S w' g1 c o => rd_below (rtext_no o hr (by rw [← hA.2.kind]; omega) (by rw [← hA.2.kind]; omega) s))⟩
    · refine ⟨0, deal_turn h hn (fun N' P' E' => N' = N.set j { d with text := s } ∧ P' = P ∧ E' = E) (fun L' => L' = L.set j (r.text s)) (fun S w' g1 cn k1 cs k2 ce hz o => ?_) (fun S w' g1 c hz o => ?_) ?_ ⟨_, _, _, rfl, rfl, rfl⟩ ⟨_, rfl⟩⟩
      · refine (text_any o s hd (by rw [wantP_at hd, if_neg hk])).mono ?_
        rintro e w2 ⟨rfl, o2, k2⟩
        exact ⟨rfl, _, _, _, ⟨rfl, rfl, rfl⟩, o2.ar, k2⟩
      · refine (rtext_any o hr (by rw [← hA.2.kind]; omega) s).mono ?_
        rintro e w2 ⟨rfl, o2, k2⟩
        exact ⟨rfl, _, rfl, o2.ra, k2⟩
      · rintro N' P' E' L' ⟨rfl, rfl, rfl⟩ rfl
        exact ⟨rel_set h hd hr rfl ⟨hA.2.kind, hA.2.space, hA.2.name, rfl, hA.2.al, hA.2.sf, hA.2.st, hA.2.ef, hA.2.et⟩ rfl rfl (h.al r (List.mem_of_getElem? hr)), by simp⟩
theorem elP_at {n : Nat} {L : List RN} {j : Nat} {r : RN} (hr : L[j]? = some r) (hj : j < n) : elP n L (j : Int) = decide (r.d.kind = 1) := by
  unfold elP
  rw [isN_lt hj, Int.toNat_natCast, hr]
  simp
theorem elP_no {n : Nat} {L : List RN} {i : Int} (hi : isN n i = false) : elP n L i = false := by simp [elP, hi]
/-- SetAttrs. -/
theorem deal_attrs {Z : Nat → Prop} {w : World} {x y : Nat} {N : List Nd} {P : List Sp} {E : List En} {L : List RN} (h : Rel N P E L) {n : Nat} (hn : L.length = n) (i : Int) (A : List At) {ao : Option Addr} {ac : Nat} (ha : ∀ w', Keep Z w w' → Ats w' (.slice ao A.length ac) A) (hf : A.length ≤ 1000000000) :
    ∃ v : Int, Deal Z w x y N P E L 28 #[ptr x, iv i, .slice ao A.length ac] 35 #[ptr y, iv i, .slice ao A.length ac] (iv v) := by
  cases hi : isN n i with
  | false => exact ⟨4, deal_same h hn (fun S w' g1 cn k1 cs k2 ce o => rd_below (attrs_no o ao _ ac (wantP_no o.nn hi) (by decide))) (fun S w' g1 c o => rd_below (rattrs_no o (by rw [elP_no hi]; simp [kindP, hi]) (by decide) ao _ ac))⟩
  | true =>
    obtain ⟨j, rfl, hj⟩ := isN_nat hi
    obtain ⟨d, _, _, r, hd, _, _, hr⟩ := h.atL (by rw [hn]; exact hj)
    have hA := (h.nd j d r hd hr)
    by_cases hk : d.kind = 1
    · refine ⟨0, deal_turn h hn (fun N' P' E' => ∃ av, N' = N.set j { d with av := av, al := A } ∧ P' = P ∧ E' = E) (fun L' => ∃ av, L' = L.set j (r.attrs av A)) (fun S w' g1 cn k1 cs k2 ce hz o => ?_) (fun S w' g1 c hz o => ?_) ?_ ⟨_, _, _, iv 0, rfl, rfl, rfl⟩ ⟨_, iv 0, rfl⟩⟩
      · refine (attrs_any o (ha w' hz) hd (by rw [wantP_at hd, if_neg (by omega)])).mono ?_
        rintro e w2 ⟨av, rfl, o2, k2⟩
        exact ⟨rfl, _, _, _, ⟨av, rfl, rfl, rfl⟩, o2.ar, k2⟩
      · refine (rattrs_any o hr (by rw [← hA.2.kind]; exact hk) (ha w' hz) hf).mono ?_
        rintro e w2 ⟨av, rfl, o2, k2⟩
        exact ⟨rfl, _, ⟨av, rfl⟩, o2.ra, k2⟩
      · rintro N' P' E' L' ⟨av, rfl, rfl, rfl⟩ ⟨av', rfl⟩
        exact ⟨rel_set h hd hr rfl ⟨hA.2.kind, hA.2.space, hA.2.name, hA.2.text, rfl, hA.2.sf, hA.2.st, hA.2.ef, hA.2.et⟩ rfl rfl hf, by simp⟩
    · exact ⟨3, deal_same h hn (fun S w' g1 cn k1 cs k2 ce o => rd_below (attrs_no o ao _ ac (by rw [wantP_at hd, if_pos (by omega)]) (by decide))) (fun S w' g1 c o => rd_below (rattrs_no o (by rw [elP_at hr hj, decide_eq_false (by rw [← hA.2.kind]; exact hk)]; simp [kindP, hi]) (by decide) ao _ ac))⟩
/-- SetEnd. -/
theorem deal_end {Z : Nat → Prop} {w : World} {x y : Nat} {N : List Nd} {P : List Sp} {E : List En} {L : List RN} (h : Rel N P E L) {n : Nat} (hn : L.length = n) (i f t : Int) :
    ∃ v : Int, Deal Z w x y N P E L 29 #[ptr x, iv i, .agg #[iv f, iv t]] 37 #[ptr y, iv i, .agg #[iv f, iv t]] (iv v) := by
  cases hi : isN n i with
  | false => exact ⟨4, deal_same h hn (fun S w' g1 cn k1 cs k2 ce o => end_no o f t (wantP_no o.nn hi) (by decide)) (fun S w' g1 c o => rend_no o (by rw [elP_no hi]; simp [kindP, hi]) (by decide) f t)⟩
  | true =>
    obtain ⟨j, rfl, hj⟩ := isN_nat hi
    obtain ⟨d, _, _, r, hd, _, _, hr⟩ := h.atL (by rw [hn]; exact hj)
    have hA := (h.nd j d r hd hr)
    by_cases hk : d.kind = 1
    · refine ⟨0, deal_turn h hn (fun N' P' E' => N' = N.set j { d with ef := f, et := t } ∧ P' = P ∧ E' = E) (fun L' => L' = L.set j (r.ends f t)) (fun S w' g1 cn k1 cs k2 ce hz o => ?_) (fun S w' g1 c hz o => ?_) ?_ ⟨_, _, _, rfl, rfl, rfl⟩ ⟨_, rfl⟩⟩
      · refine (end_any o f t hd (by rw [wantP_at hd, if_neg (by omega)])).mono ?_
        rintro e w2 ⟨rfl, o2, k2⟩
        exact ⟨rfl, _, _, _, ⟨rfl, rfl, rfl⟩, o2.ar, k2⟩
      · refine (rend_any o hr (by rw [← hA.2.kind]; exact hk) f t).mono ?_
        rintro e w2 ⟨rfl, o2, k2⟩
        exact ⟨rfl, _, rfl, o2.ra, k2⟩
      · rintro N' P' E' L' ⟨rfl, rfl, rfl⟩ rfl
        exact ⟨rel_set h hd hr rfl ⟨hA.2.kind, hA.2.space, hA.2.name, hA.2.text, hA.2.al, hA.2.sf, hA.2.st, rfl, rfl⟩ rfl rfl (h.al r (List.mem_of_getElem? hr)), by simp⟩
    · exact ⟨3, deal_same h hn (fun S w' g1 cn k1 cs k2 ce o => end_no o f t (by rw [wantP_at hd, if_pos (by omega)]) (by decide)) (fun S w' g1 c o => rend_no o (by rw [elP_at hr hj, decide_eq_false (by rw [← hA.2.kind]; exact hk)]; simp [kindP, hi]) (by decide) f t)⟩
end Go.Proofs.Ytcdaghlbfclpkaa
