/- Going up: within; a node put in ahead of another one, what Insert refuses. -/
import Derived.Test.YtcdaghlbfclpkaaAl
namespace Go.Proofs.Ytcdaghlbfclpkaa
open Go.RowKit

theorem Up.way {P : List Sp} {t m q : Nat} {b : Bool} (h : Up P t m q b) : (q = t ∧ b = true) ∨ (q ≠ t ∧ b = false ∧ ∃ s, P[q]? = some s ∧ s.i = false) ∨ (∃ m' s, m = m' + 1 ∧ q ≠ t ∧ P[q]? = some s ∧ s.i = true ∧ Up P t m' s.p b) := by
  cases h with
  | here => exact .inl ⟨rfl, rfl⟩
  | out h1 h2 h3 => exact .inr (.inl ⟨h1, rfl, _, h2, h3⟩)
  | up h1 h2 h3 h4 => exact .inr (.inr ⟨_, _, rfl, h1, h2, h3, h4⟩)
set_option maxHeartbeats 1000000 in
theorem within_up {S : Nat → Prop} {w : World} {x g n cn h cs k ce : Nat} {N : List Nd} {P : List Sp} {E : List En} (o : Op3 S w x g n cn h cs k ce N P E) {i t m : Nat} {b : Bool} {e : En} (he : E[t]? = some e) (hf : e.f ≠ 0) (hu : Up P t m i b) :
    Calls Try.prog 46 #[ptr x, iv (i : Int), iv (t : Int)] w (Rd (.bool b) w) := by
  have ht : t < n := by rw [← o.nn, ← o.v.el]; exact (List.getElem?_eq_some_iff.1 he).1
  have ht2 : (t : Int) < (n : Int) := by omega
  obtain ⟨c0, c1, c2⟩ := o.c
  have e0 : w.cell? ⟨k, t * 2, none⟩ = some (iv (e.f : Int)) := o.en (j := 0) he (by decide)
  have hf2 : ¬ (e.f : Int) = 0 := by omega
  obtain ⟨ef, hef⟩ : ∃ ef, e.f = ef := ⟨_, rfl⟩
  rw [hef] at e0 hf2
  have HO : Hid (Op3 S w x g n cn h cs k ce N P E ∧ Up P t m i b) := ⟨o, hu⟩
  clear o he hf hef hu
  go_enter Try.func46, Try.ntmps46
  go_wp2_with fail
  go_loopg [1] m (fun g2 qv wr => ∃ q : Nat, qv = iv (q : Int) ∧ Up P t g2 q b ∧ wr = w)
  case atStart => exact ⟨i, rfl, HO.out.2, rfl⟩
  case round =>
    obtain ⟨q, rfl, hq, rfl⟩ := hrel
    rcases hq.way with ⟨rfl, rfl⟩ | ⟨hqt, rfl, s, hs, ho⟩ | ⟨m', s, rfl, hqt, hs, ho, hu⟩
    · clear hq
      go_wp2_with fail
      go_ret
      exact ⟨rfl, rfl⟩
    · clear hq
      have hqn : q < n := by rw [← HO.out.1.nn, ← HO.out.1.v.pl]; exact (List.getElem?_eq_some_iff.1 hs).1
      have hq2 : (q : Int) < (n : Int) := by omega
      have hqt2 : ¬ (q : Int) = (t : Int) := by omega
      have d0 : wr.cell? ⟨h, q * 4, none⟩ = some (.bool false) := by rw [← ho]; exact HO.out.1.sp (j := 0) hs (by decide)
      clear hs ho hqt
      go_wp2_with fail
      go_ret
      exact ⟨rfl, rfl⟩
    · clear hq
      have hqn : q < n := by rw [← HO.out.1.nn, ← HO.out.1.v.pl]; exact (List.getElem?_eq_some_iff.1 hs).1
      have hq2 : (q : Int) < (n : Int) := by omega
      have hqt2 : ¬ (q : Int) = (t : Int) := by omega
      have d0 : wr.cell? ⟨h, q * 4, none⟩ = some (.bool true) := by rw [← ho]; exact HO.out.1.sp (j := 0) hs (by decide)
      have d1 : wr.cell? ⟨h, q * 4 + 1, none⟩ = some (iv (s.p : Int)) := HO.out.1.sp (j := 1) hs (by decide)
      have HU : Hid (Up P t m' s.p b) := hu
      obtain ⟨sp, hsp⟩ : ∃ sp, s.p = sp := ⟨_, rfl⟩
      rw [hsp] at d1 HU
      clear hs ho hqt hu hsp
      go_wp2_with fail
      go_roundg m'
      case measure => omega
      case rel => exact ⟨sp, rfl, HU.out, rfl⟩
end Go.Proofs.Ytcdaghlbfclpkaa
