/- Rows of numbers; parents and kids of both arenas. -/
import Derived.Test.YtcdaghlbfclpkaaDl
import Derived.Test.YtcdaghlbfclpkaaCf
import Derived.Test.YtcdaghlbfclpkaaDm
namespace Go.Proofs.Ytcdaghlbfclpkaa
open Go.RowKit

set_option maxHeartbeats 1000000 in
theorem ints_any {w : World} {ao bo : Option Addr} {K : List Nat} (n ca cb : Nat) (ha : InR w ao K) (hb : InR w bo K) (hn : K.length = n) (hn2 : n ≤ 1000000000) :
    Calls Try.prog 16 #[.slice ao n ca, .slice bo n cb] w fun e w' => e = .returned (.bool true) ∧ Below w.heap.size w w' := by
  have HA : Hid (InR w ao K ∧ InR w bo K ∧ K.length = n) := ⟨ha, hb, hn⟩
  clear ha hb hn
  have hnn : ((n : Int) == (n : Int)) = true := by simp
  go_enter Try.func16, Try.ntmps16
  go_wp2_with fail
  go_loopg [5] n (fun g2 iv wr => ∃ (i q : Nat), iv = .int .i64 i ∧ i + g2 = n ∧ wr = w.drewN q)
  case atStart => exact ⟨0, 0, rfl, by omega, rfl⟩
  case round =>
    obtain ⟨i, q, rfl, hig, rfl⟩ := hrel
    cases gk with
    | zero =>
      obtain rfl : i = n := by omega
      have hg0 : decide ((i : Int) < (i : Int)) = false := decide_eq_false (by omega)
      go_wp2_with fail
      go_ret
      exact ⟨rfl, below_drewN (Below.refl _ _) _⟩
    | succ k =>
      have hin : i < n := by omega
      have g1 : decide ((i : Int) < (n : Int)) = true := decide_eq_true (by omega)
      obtain ⟨x, hx⟩ : ∃ x, K[i]? = some x := ⟨_, List.getElem?_eq_getElem (by rw [HA.out.2.2]; exact hin)⟩
      obtain ⟨b1, o1, rfl, h1, c1⟩ := HA.out.1 i x hx
      obtain ⟨b2, o2, rfl, h2, c2⟩ := HA.out.2.1 i x hx
      have hxx : ((x : Int) == (x : Int)) = true := by simp
      clear hx
      go_wp2_with fail
      go_quiet (fail)
      go_wp2_with fail
      go_roundg k
      case measure => omega
      case rel => exact ⟨i + 1, _, by go_num, by omega, rfl⟩
/-- What both arenas say of a number's parent and kids. -/
structure Both (w : World) (x y : Nat) (a b : Int) : Prop where
  par : ∃ p : Int, (∀ w', Below w.heap.size w w' → Calls Try.prog 14 #[ptr x, iv b] w' (Rd (iv p) w')) ∧ ∀ w', Below w.heap.size w w' → Calls Try.prog 15 #[ptr y, iv b] w' (Rd (iv p) w')
  kids : ∃ (n bc : Nat) (bo : Option Addr) (K : List Nat), K.length = n ∧ n ≤ 1000000000 ∧ InR w bo K ∧ (∀ w', Below w.heap.size w w' → Calls Try.prog 17 #[ptr x, iv a] w' (fun e w'' => ∃ ao ac, e = .returned (.slice ao n ac) ∧ Below w'.heap.size w' w'' ∧ InR w'' ao K)) ∧ ∀ w', Below w.heap.size w w' → Calls Try.prog 18 #[ptr y, iv a] w' (Rd (.slice bo n bc) w')
  len : ∃ (n g c : Nat), w.cell? ⟨y, 0, none⟩ = some (.slice (some ⟨g, 0, none⟩) n c) ∧ y < w.heap.size ∧ ∀ w', Below w.heap.size w w' → Calls Try.prog 13 #[ptr x] w' (Rd (iv (n : Int)) w')
theorem Rw.inr' {S : Nat → Prop} {w : World} {so : Option Addr} {n c : Nat} {K : List Nat} (h : Rw S w 3 1 (.slice so n c) n (iL K)) : InR w so K := (h.inr (D := K) (T := []) (by simp)).1
theorem Two.both {Z : Nat → Prop} {w : World} {x y : Nat} {N : List Nd} {P : List Sp} {E : List En} {L : List RN} (t : Two Z w x y N P E L) (h : Rel N P E L) (a b : Int) : Both w x y a b := by
  obtain ⟨F, t⟩ := t
  obtain ⟨g, n', cn, hh, cs, k, ce, o⟩ := t.a.open (by rw [h.nl]; exact h.n0)
  obtain rfl : n' = L.length := by rw [← o.nn, h.nl]
  obtain ⟨gr, nr, cr, o2⟩ := t.r.open h.n0
  obtain rfl : nr = L.length := o2.nn.symm
  have hfew := o2.v.few
  refine ⟨?_, ?_, L.length, gr, cr, o2.c, o2.v.lt, fun w' b => len_any (o.old b)⟩
  · cases hb : isN L.length b with
    | false => exact ⟨parP P b, fun w' q => parent_any (o.old q) b, fun w' q => by
        have hp : parP P b = -1 := by
          unfold Ytcdaghlbfclpkaa.parP
          by_cases h0 : 0 ≤ b
          · have h1 : ¬ b < (L.length : Int) := by simp [isN, h0] at hb; omega
            have h2 : P[b.toNat]? = none := List.getElem?_eq_none (by rw [h.pl]; omega)
            rw [if_pos h0, h2]
          · rw [if_neg h0]
        rw [hp]
        exact rparent_no (o2.old q) hb⟩
    | true =>
      have hi' : 0 ≤ b ∧ b < (L.length : Int) := by simpa [isN] using hb
      obtain ⟨j, rfl⟩ : ∃ j : Nat, b = (j : Int) := ⟨b.toNat, by omega⟩
      have hj : j < L.length := by omega
      refine ⟨pidOf L j, fun w' q => ?_, fun w' q => ?_⟩
      · rw [← h.parP hj]
        exact parent_any (o.old q) (j : Int)
      · rw [pidOf_of (List.getElem?_eq_getElem hj)]
        exact rparent_any (o2.old q) (List.getElem?_eq_getElem hj)
  · cases ha : isN L.length a with
    | false =>
      refine ⟨0, 0, none, [], rfl, by omega, fun j k hk => by simp at hk, fun w' q => ?_, fun w' q => rkids_no (o2.old q) ha⟩
      refine (kids_none (o.old q) ha).mono ?_
      rintro e w'' ⟨v, rfl, b1, hr⟩
      obtain ⟨ao, cap, rfl, _⟩ := hr.slice
      exact ⟨ao, cap, rfl, b1, hr.inr'⟩
    | true =>
      have hi' : 0 ≤ a ∧ a < (L.length : Int) := by simpa [isN] using ha
      obtain ⟨j, rfl⟩ : ∃ j : Nat, a = (j : Int) := ⟨a.toNat, by omega⟩
      obtain ⟨d, s, e, r, _, _, he, hr⟩ := h.atL (i := j) (by omega)
      have hf := (h.kd j e r he hr).1.chain.len (h.ap j r hr)
      rw [h.pl] at hf
      obtain ⟨bo, bc, hkv, _⟩ := (o2.v.kds r (List.mem_of_getElem? hr)).slice
      have hin := o2.v.kds r (List.mem_of_getElem? hr)
      rw [hkv] at hin
      refine ⟨r.ks.length, bc, bo, r.ks, rfl, by omega, hin.inr', fun w' q => ?_, fun w' q => ?_⟩
      · refine (kids_any (o.old q) he (h.kd j e r he hr).1.chain hf).mono ?_
        rintro e w'' ⟨v, rfl, b1, hr⟩
        obtain ⟨ao, cap, rfl, _⟩ := hr.slice
        exact ⟨ao, cap, rfl, b1, hr.inr'⟩
      · rw [← hkv]
        exact rkids_any (o2.old q) hr
end Go.Proofs.Ytcdaghlbfclpkaa
