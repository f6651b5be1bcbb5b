/- A node put in ahead of another one; what Insert refuses. -/
import Derived.Test.YtcdaghlbfclpkaaAl
namespace Go.Proofs.Ytcdaghlbfclpkaa
open Go.RowKit

theorem Up.way {P : List Sp} {t m q : Nat} {b : Bool} (h : Up P t m q b) : (q = t ∧ b = true) ∨ (q ≠ t ∧ b = false ∧ ∃ s, P[q]? = some s ∧ s.i = false) ∨ (∃ m' s, m = m' + 1 ∧ q ≠ t ∧ P[q]? = some s ∧ s.i = true ∧ Up P t m' s.p b) := by
  cases h with
  | here => exact .inl ⟨rfl, rfl⟩
  | out h1 h2 h3 => exact .inr (.inl ⟨h1, rfl, _, h2, h3⟩)
  | up h1 h2 h3 h4 => exact .inr (.inr ⟨_, _, rfl, h1, h2, h3, h4⟩)
set_option maxHeartbeats 1000000 in
theorem within_up {S : Nat → Prop} {w : World} {x g n cn h cs k ce : Nat} {N : List Nd} {P : List Sp} {E : List En} (o : Op3 S w x g n cn h cs k ce N P E) {i t m : Nat} {b : Bool} {e : En} (he : E[t]? = some e) (hf : e.f ≠ 0) (hu : Up P t m i b) :
    Calls Try.prog 46 #[ptr x, iv (i : Int), iv (t : Int)] w (Rd (.bool b) w) := by
  have ht : t < n := by rw [← o.nn, ← o.v.el]; exact (List.getElem?_eq_some_iff.1 he).1
  have ht2 : (t : Int) < (n : Int) := by omega
  obtain ⟨c0, c1, c2⟩ := o.c
  have e0 : w.cell? ⟨k, t * 2, none⟩ = some (iv (e.f : Int)) := o.en (j := 0) he (by decide)
  have hf2 : ¬ (e.f : Int) = 0 := by omega
  obtain ⟨ef, hef⟩ : ∃ ef, e.f = ef := ⟨_, rfl⟩
  rw [hef] at e0 hf2
  have HO : Hid (Op3 S w x g n cn h cs k ce N P E ∧ Up P t m i b) := ⟨o, hu⟩
  clear o he hf hef hu
  go_enter Try.func46, Try.ntmps46
  go_wp2_with fail
  go_loopg [1] m (fun g2 qv wr => ∃ q : Nat, qv = iv (q : Int) ∧ Up P t g2 q b ∧ wr = w)
  case atStart => exact ⟨i, rfl, HO.out.2, rfl⟩
  case round =>
    obtain ⟨q, rfl, hq, rfl⟩ := hrel
    rcases hq.way with ⟨rfl, rfl⟩ | ⟨hqt, rfl, s, hs, ho⟩ | ⟨m', s, rfl, hqt, hs, ho, hu⟩
    · clear hq
      go_wp2_with fail
      go_ret
      exact ⟨rfl, rfl⟩
    · clear hq
      have hqn : q < n := by rw [← HO.out.1.nn, ← HO.out.1.v.pl]; exact (List.getElem?_eq_some_iff.1 hs).1
      have hq2 : (q : Int) < (n : Int) := by omega
      have hqt2 : ¬ (q : Int) = (t : Int) := by omega
      have d0 : wr.cell? ⟨h, q * 4, none⟩ = some (.bool false) := by rw [← ho]; exact HO.out.1.sp (j := 0) hs (by decide)
      clear hs ho hqt
      go_wp2_with fail
      go_ret
      exact ⟨rfl, rfl⟩
    · clear hq
      have hqn : q < n := by rw [← HO.out.1.nn, ← HO.out.1.v.pl]; exact (List.getElem?_eq_some_iff.1 hs).1
      have hq2 : (q : Int) < (n : Int) := by omega
      have hqt2 : ¬ (q : Int) = (t : Int) := by omega
      have d0 : wr.cell? ⟨h, q * 4, none⟩ = some (.bool true) := by rw [← ho]; exact HO.out.1.sp (j := 0) hs (by decide)
      have d1 : wr.cell? ⟨h, q * 4 + 1, none⟩ = some (iv (s.p : Int)) := HO.out.1.sp (j := 1) hs (by decide)
      have HU : Hid (Up P t m' s.p b) := hu
      obtain ⟨sp, hsp⟩ : ∃ sp, s.p = sp := ⟨_, rfl⟩
      rw [hsp] at d1 HU
      clear hs ho hqt hu hsp
      go_wp2_with fail
      go_roundg m'
      case measure => omega
      case rel => exact ⟨sp, rfl, HU.out, rfl⟩
end Go.Proofs.Ytcdaghlbfclpkaa
namespace Go.Proofs.Ytcdaghlbfclpkaa
open Go.RowKit

/-- What Insert asks ahead: all are there, the node stands nowhere. -/
structure Ask (S : Nat → Prop) (w : World) (x g n cn h cs k ce : Nat) (N : List Nd) (P : List Sp) (E : List En) (p i : Nat) : Prop where
  k1 : Calls Try.prog 39 #[ptr x, iv (p : Int)] w (Rd (.bool true) w)
  k2 : Calls Try.prog 44 #[ptr x, iv (i : Int)] w (Rd (.bool true) w)
  c1 : w.cell? ⟨x, 1, none⟩ = some (.slice (some ⟨h, 0, none⟩) n cs)
  d0 : w.cell? ⟨h, i * 4, none⟩ = some (.bool false)
  hi2 : (i : Int) < (n : Int)
theorem ask_of {S : Nat → Prop} {w : World} {x g n cn h cs k ce : Nat} {N : List Nd} {P : List Sp} {E : List En} (o : Op3 S w x g n cn h cs k ce N P E) {p i : Nat} {s : Sp} (hp : p < n) (hi : i < n) (hi0 : i ≠ 0) (hs : P[i]? = some s) (hin : s.i = false) : Ask S w x g n cn h cs k ce N P E p i := by
  have k1 := has_any o (p : Int)
  have k2 := movable_of (has_any o (i : Int))
  rw [isN_lt hp] at k1
  have hz : decide ((i : Int) = 0) = false := decide_eq_false (by omega)
  rw [isN_lt hi, hz] at k2
  simp only [Bool.not_false, Bool.and_self] at k2
  exact ⟨k1, k2, o.c.2.1, by rw [← hin]; exact o.sp (j := 0) hs (by decide), by omega⟩
set_option maxHeartbeats 1000000 in
set_option maxRecDepth 10000 in
/-- The parent is of a kind that has no kids. -/
theorem ins_kind {S : Nat → Prop} {w : World} {x g n cn h cs k ce : Nat} {N : List Nd} {P : List Sp} {E : List En} (o : Op3 S w x g n cn h cs k ce N P E) {p i : Nat} {b : Int} {s : Sp} {d : Nd} (hp : p < n) (hi : i < n) (hi0 : i ≠ 0) (hb : b = -1 ∨ isN n b = true) (hs : P[i]? = some s) (hin : s.i = false) (hd : N[p]? = some d) (hk : hold d.kind = false) :
    Calls Try.prog 24 #[ptr x, iv (p : Int), iv (i : Int), iv b] w (Rd (iv 3) w) := by
  obtain ⟨k1, k2, c1, d0, hi2⟩ := ask_of o hp hi hi0 hs hin
  have k3 := has_any o b
  have k4 := holds_any o hd
  rw [hk] at k4
  clear o hs hin hd hk
  by_cases hb1 : b = -1
  · subst hb1
    clear k3
    go_enter Try.func24, Try.ntmps24
    go_wp2_with fail
    refine k1.mono ?_
    rintro e w' ⟨rfl, rfl⟩
    go_wp2_with fail
    refine k2.mono ?_
    rintro e w' ⟨rfl, rfl⟩
    go_wp2_with fail
    refine k4.mono ?_
    rintro e w' ⟨rfl, rfl⟩
    go_wp2_with fail
    go_ret
    exact ⟨rfl, rfl⟩
  · rw [hb.resolve_left hb1] at k3
    go_enter Try.func24, Try.ntmps24
    go_wp2_with fail
    refine k1.mono ?_
    rintro e w' ⟨rfl, rfl⟩
    go_wp2_with fail
    refine k2.mono ?_
    rintro e w' ⟨rfl, rfl⟩
    go_wp2_with fail
    refine k3.mono ?_
    rintro e w' ⟨rfl, rfl⟩
    go_wp2_with fail
    refine k4.mono ?_
    rintro e w' ⟨rfl, rfl⟩
    go_wp2_with fail
    go_ret
    exact ⟨rfl, rfl⟩
set_option maxHeartbeats 1000000 in
set_option maxRecDepth 10000 in
/-- 'before' is no kid of the parent's. -/
theorem ins_other {S : Nat → Prop} {w : World} {x g n cn h cs k ce : Nat} {N : List Nd} {P : List Sp} {E : List En} (o : Op3 S w x g n cn h cs k ce N P E) {p i : Nat} {b : Int} {s : Sp} {d : Nd} (hp : p < n) (hi : i < n) (hi0 : i ≠ 0) (hb : isN n b = true) (hs : P[i]? = some s) (hin : s.i = false) (hd : N[p]? = some d) (hk : hold d.kind = true) (hpb : parP P b ≠ (p : Int)) :
    Calls Try.prog 24 #[ptr x, iv (p : Int), iv (i : Int), iv b] w (Rd (iv 3) w) := by
  obtain ⟨k1, k2, c1, d0, hi2⟩ := ask_of o hp hi hi0 hs hin
  have hb1 : ¬ b = -1 := by rintro rfl; simp [isN] at hb
  have k3 := has_any o b
  rw [hb] at k3
  have k4 := holds_any o hd
  rw [hk] at k4
  have k5 := parent_any o b
  obtain ⟨q, hq⟩ : ∃ q, parP P b = q := ⟨_, rfl⟩
  rw [hq] at k5 hpb
  clear o hs hin hd hk hq
  go_enter Try.func24, Try.ntmps24
  go_wp2_with fail
  refine k1.mono ?_
  rintro e w' ⟨rfl, rfl⟩
  go_wp2_with fail
  refine k2.mono ?_
  rintro e w' ⟨rfl, rfl⟩
  go_wp2_with fail
  refine k3.mono ?_
  rintro e w' ⟨rfl, rfl⟩
  go_wp2_with fail
  refine k4.mono ?_
  rintro e w' ⟨rfl, rfl⟩
  go_wp2_with fail
  refine k5.mono ?_
  rintro e w' ⟨rfl, rfl⟩
  go_wp2_with fail
  go_ret
  exact ⟨rfl, rfl⟩
set_option maxHeartbeats 1000000 in
set_option maxRecDepth 10000 in
/-- The parent is the node, or stands below it. -/
theorem ins_below {S : Nat → Prop} {w : World} {x g n cn h cs k ce : Nat} {N : List Nd} {P : List Sp} {E : List En} (o : Op3 S w x g n cn h cs k ce N P E) {p i : Nat} {b : Int} {s : Sp} {d : Nd} (hp : p < n) (hi : i < n) (hi0 : i ≠ 0) (hb : b = -1 ∨ isN n b = true ∧ parP P b = (p : Int)) (hs : P[i]? = some s) (hin : s.i = false) (hd : N[p]? = some d) (hk : hold d.kind = true) (hw : Calls Try.prog 46 #[ptr x, iv (p : Int), iv (i : Int)] w (Rd (.bool true) w)) :
    Calls Try.prog 24 #[ptr x, iv (p : Int), iv (i : Int), iv b] w (Rd (iv 3) w) := by
  obtain ⟨k1, k2, c1, d0, hi2⟩ := ask_of o hp hi hi0 hs hin
  have k3 := has_any o b
  have k4 := holds_any o hd
  rw [hk] at k4
  have k5 := parent_any o b
  clear o hs hin hd hk
  by_cases hb1 : b = -1
  · subst hb1
    clear k3 k5
    go_enter Try.func24, Try.ntmps24
    go_wp2_with fail
    refine k1.mono ?_
    rintro e w' ⟨rfl, rfl⟩
    go_wp2_with fail
    refine k2.mono ?_
    rintro e w' ⟨rfl, rfl⟩
    go_wp2_with fail
    refine k4.mono ?_
    rintro e w' ⟨rfl, rfl⟩
    go_wp2_with fail
    refine hw.mono ?_
    rintro e w' ⟨rfl, rfl⟩
    go_wp2_with fail
    go_ret
    exact ⟨rfl, rfl⟩
  · rw [(hb.resolve_left hb1).1] at k3
    rw [(hb.resolve_left hb1).2] at k5
    clear hb
    go_enter Try.func24, Try.ntmps24
    go_wp2_with fail
    refine k1.mono ?_
    rintro e w' ⟨rfl, rfl⟩
    go_wp2_with fail
    refine k2.mono ?_
    rintro e w' ⟨rfl, rfl⟩
    go_wp2_with fail
    refine k3.mono ?_
    rintro e w' ⟨rfl, rfl⟩
    go_wp2_with fail
    refine k4.mono ?_
    rintro e w' ⟨rfl, rfl⟩
    go_wp2_with fail
    refine k5.mono ?_
    rintro e w' ⟨rfl, rfl⟩
    go_wp2_with fail
    refine hw.mono ?_
    rintro e w' ⟨rfl, rfl⟩
    go_wp2_with fail
    go_ret
    exact ⟨rfl, rfl⟩
set_option maxHeartbeats 1000000 in
set_option maxRecDepth 10000 in
/-- Ahead of a kid. -/
theorem ins_at {S : Nat → Prop} {w : World} {x g n cn h cs k ce : Nat} {N : List Nd} {P : List Sp} {E : List En} (o : Op3 S w x g n cn h cs k ce N P E) {p i b : Nat} {s sb : Sp} {d : Nd} (hp : p < n) (hi : i < n) (hi0 : i ≠ 0) (hs : P[i]? = some s) (hin : s.i = false) (hd : N[p]? = some d) (hk : hold d.kind = true) (hb : b < n) (hsb : P[b]? = some sb) (hpb : parP P (b : Int) = (p : Int)) (hw : Calls Try.prog 46 #[ptr x, iv (p : Int), iv (i : Int)] w (Rd (.bool false) w)) (hl : sb.a < n) :
    Calls Try.prog 24 #[ptr x, iv (p : Int), iv (i : Int), iv (b : Int)] w (fun e w' => e = .returned (iv 0) ∧ Op3 S w' x g n cn h cs k ce N (linkS P p i sb.a b) (linkE E p i sb.a b) ∧ Keep S w w') := by
  obtain ⟨k1, k2, c1, d0, hi2⟩ := ask_of o hp hi hi0 hs hin
  have hb1 : ¬ (b : Int) = -1 := by omega
  have k3 := has_any o (b : Int)
  rw [isN_lt hb] at k3
  have k4 := holds_any o hd
  rw [hk] at k4
  have k5 := parent_any o (b : Int)
  rw [hpb] at k5
  have k6 := link_at o hp hi hb hsb hl
  clear o hs hin hd hk hsb hl hpb
  go_enter Try.func24, Try.ntmps24
  go_wp2_with fail
  refine k1.mono ?_
  rintro e w' ⟨rfl, rfl⟩
  go_wp2_with fail
  refine k2.mono ?_
  rintro e w' ⟨rfl, rfl⟩
  go_wp2_with fail
  refine k3.mono ?_
  rintro e w' ⟨rfl, rfl⟩
  go_wp2_with fail
  refine k4.mono ?_
  rintro e w' ⟨rfl, rfl⟩
  go_wp2_with fail
  refine k5.mono ?_
  rintro e w' ⟨rfl, rfl⟩
  go_wp2_with fail
  refine hw.mono ?_
  rintro e w' ⟨rfl, rfl⟩
  go_wp2_with fail
  refine k6.mono ?_
  rintro e w' ⟨rfl, o', kk⟩
  have HZ : Hid (Op3 S w' x g n cn h cs k ce N (linkS P p i sb.a b) (linkE E p i sb.a b)) := o'
  clear o'
  go_wp2_with fail
  go_ret
  exact ⟨rfl, HZ.out, kk⟩
end Go.Proofs.Ytcdaghlbfclpkaa
