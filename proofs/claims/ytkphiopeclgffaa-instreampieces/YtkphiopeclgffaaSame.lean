/- The document's Chars and Faults: rows of the same characters, of the same faults, are the same. -/
import Derived.Test.YtkphiopeclgffaaFeed
import Derived.Test.YtkphiopeclgffaaStr
namespace Go.Proofs.Ytkphiopeclgffaa
open Go.RowKit

/-- A row's cells. -/
theorem row_cells {w : World} {B e s n : Nat} {v : Value} {xs : List Value} (h : w.ownsRow B e s v n xs) (hn : 0 < n) : ∃ g cap, v = .slice (some ⟨g, 0, none⟩) n cap ∧ n ≤ cap ∧ cap ≤ maxLen ∧ g < w.heap.size ∧ ∀ j u, xs[j]? = some u → w.cell? ⟨g, j, none⟩ = some u := by
  rcases h.2 with ⟨_, h0⟩ | ⟨g, cap, cur, hv, hb, hg, h1, h2, h3, ht⟩
  · omega
  · refine ⟨g, cap, hv, h1, h2, (Array.getElem?_eq_some_iff.1 hg).1, fun j u hu => ?_⟩
    rw [← ht, List.getElem?_take] at hu
    split at hu
    · simp [World.cell?, hg]; simpa using hu
    · cases hu

theorem ch_at : ∀ (cs : List Ch) (k : Nat) (c : Ch), cs[k]? = some c → (cs.flatMap Ch.cells)[k * 3]? = some (.int .i64 c.r) ∧ (cs.flatMap Ch.cells)[k * 3 + 1]? = some (.int .i64 c.a) ∧ (cs.flatMap Ch.cells)[k * 3 + 2]? = some (.int .i64 c.z)
  | [], _, _, h => by simp at h
  | x :: l, 0, c, h => by simp at h; subst h; simp [Ch.cells]
  | x :: l, k + 1, c, h => by
    have := ch_at l k c (by simpa using h)
    rw [List.flatMap_cons]
    have e : ∀ j, (x.cells ++ l.flatMap Ch.cells)[(k + 1) * 3 + j]? = (l.flatMap Ch.cells)[k * 3 + j]? := fun j => by
      rw [List.getElem?_append_right (by simp [Ch.cells]; omega)]; congr 1; simp [Ch.cells]; omega
    exact ⟨(e 0).trans this.1, (e 1).trans this.2.1, (e 2).trans this.2.2⟩
/-- A row of faults with their codes, in memory of its own. -/
def FaultsC (B : Nat) (v : Value) (fs : List (Int × Int)) (w : World) : Prop := w.ownsRow B 39 2 v fs.length (fs.flatMap gcells)
theorem gl_at : ∀ (fs : List (Int × Int)) (k : Nat) (c : Int × Int), fs[k]? = some c → (fs.flatMap gcells)[k * 2]? = some (.int .i64 c.1) ∧ (fs.flatMap gcells)[k * 2 + 1]? = some (.int .i64 c.2)
  | [], _, _, h => by simp at h
  | x :: l, 0, c, h => by simp at h; subst h; simp [gcells]
  | x :: l, k + 1, c, h => by
    have := gl_at l k c (by simpa using h)
    rw [List.flatMap_cons]
    have e : ∀ j, (gcells x ++ l.flatMap gcells)[(k + 1) * 2 + j]? = (l.flatMap gcells)[k * 2 + j]? := fun j => by
      rw [List.getElem?_append_right (by simp [gcells]; omega)]; congr 1; simp [gcells]; omega
    exact ⟨(e 0).trans this.1, (e 1).trans this.2⟩

theorem row_nil {w : World} {B e s : Nat} {v : Value} {xs : List Value} (h : w.ownsRow B e s v 0 xs) : ∃ ao c, v = .slice ao 0 c := by
  obtain ⟨ao, c, hv, _, _⟩ := own_form h
  exact ⟨ao, c, hv⟩

set_option maxHeartbeats 1000000 in
theorem chars_same {A B : Nat} {v u : Value} {cs : List Ch} {w : World} (h1 : Chars A v cs w) (h2 : Chars B u cs w) (hn : cs.length ≤ 1000000) :
    Calls Try.prog 10 #[v, u] w fun e w' => e = .returned (.bool true) ∧ Below w.heap.size w w' := by
  obtain ⟨ao, c, rfl, hc, hcm⟩ := own_form h1
  obtain ⟨ao2, c2, rfl, hc2, hcm2⟩ := own_form h2
  obtain ⟨n, hcn⟩ : ∃ n, cs.length = n := ⟨_, rfl⟩
  have HC : Hid (cs.length = n) := hcn
  have H1 : Hid (Chars A (.slice ao cs.length c) cs w) := h1
  have H2 : Hid (Chars B (.slice ao2 cs.length c2) cs w) := h2
  rw [hcn] at hn hc hc2 ⊢
  unfold maxLen at hcm hcm2
  clear hcn h1 h2
  go_enter Try.func10, Try.ntmps10
  go_wp2_with fail
  go_loopw [5] (fun i wr => ∃ k : Nat, k ≤ n ∧ i = .int .i64 k ∧ Below w.heap.size w wr) (fun i _ => n - (intOf i).toNat)
  case atStart => exact ⟨0, Nat.zero_le _, rfl, Below.refl _ _⟩
  case round =>
    obtain ⟨k, hk, rfl, hbl⟩ := hrel
    by_cases hlt : k < n
    · obtain ⟨x, hx⟩ : ∃ x, cs[k]? = some x := ⟨_, List.getElem?_eq_getElem (by rw [HC.out]; exact hlt)⟩
      obtain ⟨g, cap, hv, _, _, hg, hcl⟩ := row_cells H1.out (by rw [HC.out]; omega)
      obtain ⟨g2, cap2, hv2, _, _, hg2, hcl2⟩ := row_cells H2.out (by rw [HC.out]; omega)
      simp only [Value.slice.injEq] at hv hv2
      obtain ⟨rfl, _, rfl⟩ := hv
      obtain ⟨rfl, _, rfl⟩ := hv2
      obtain ⟨q0, q1, q2⟩ := ch_at cs k x hx
      have d0 := (hbl.cell (p := ⟨g, k * 3, none⟩) hg).trans (hcl _ _ q0)
      have d1 := (hbl.cell (p := ⟨g, k * 3 + 1, none⟩) hg).trans (hcl _ _ q1)
      have d2 := (hbl.cell (p := ⟨g, k * 3 + 2, none⟩) hg).trans (hcl _ _ q2)
      have e0 := (hbl.cell (p := ⟨g2, k * 3, none⟩) hg2).trans (hcl2 _ _ q0)
      have e1 := (hbl.cell (p := ⟨g2, k * 3 + 1, none⟩) hg2).trans (hcl2 _ _ q1)
      have e2 := (hbl.cell (p := ⟨g2, k * 3 + 2, none⟩) hg2).trans (hcl2 _ _ q2)
      clear hcl hcl2 q0 q1 q2
      go_wp2_with fail
      go_quiet (fail)
      go_wp2_with fail
      exact ⟨⟨k + 1, by omega, by go_num, below_drewN hbl nq⟩, by simp [intOf]; omega⟩
    · go_wp2_with fail
      go_ret
      exact ⟨rfl, hbl⟩

set_option maxHeartbeats 1000000 in
theorem faults_same {A B : Nat} {v u : Value} {fs : List (Int × Int)} {w : World} (h1 : FaultsC A v fs w) (h2 : FaultsC B u fs w) (hn : fs.length ≤ 1000000) :
    Calls Try.prog 11 #[v, u] w fun e w' => e = .returned (.bool true) ∧ Below w.heap.size w w' := by
  obtain ⟨ao, c, rfl, hc, hcm⟩ := own_form h1
  obtain ⟨ao2, c2, rfl, hc2, hcm2⟩ := own_form h2
  obtain ⟨n, hcn⟩ : ∃ n, fs.length = n := ⟨_, rfl⟩
  have HC : Hid (fs.length = n) := hcn
  have H1 : Hid (FaultsC A (.slice ao fs.length c) fs w) := h1
  have H2 : Hid (FaultsC B (.slice ao2 fs.length c2) fs w) := h2
  rw [hcn] at hn hc hc2 ⊢
  unfold maxLen at hcm hcm2
  clear hcn h1 h2
  go_enter Try.func11, Try.ntmps11
  go_wp2_with fail
  go_loopw [5] (fun i wr => ∃ k : Nat, k ≤ n ∧ i = .int .i64 k ∧ Below w.heap.size w wr) (fun i _ => n - (intOf i).toNat)
  case atStart => exact ⟨0, Nat.zero_le _, rfl, Below.refl _ _⟩
  case round =>
    obtain ⟨k, hk, rfl, hbl⟩ := hrel
    by_cases hlt : k < n
    · obtain ⟨x, hx⟩ : ∃ x, fs[k]? = some x := ⟨_, List.getElem?_eq_getElem (by rw [HC.out]; exact hlt)⟩
      obtain ⟨g, cap, hv, _, _, hg, hcl⟩ := row_cells H1.out (by rw [HC.out]; omega)
      obtain ⟨g2, cap2, hv2, _, _, hg2, hcl2⟩ := row_cells H2.out (by rw [HC.out]; omega)
      simp only [Value.slice.injEq] at hv hv2
      obtain ⟨rfl, _, rfl⟩ := hv
      obtain ⟨rfl, _, rfl⟩ := hv2
      obtain ⟨q0, q1⟩ := gl_at fs k x hx
      have d0 := (hbl.cell (p := ⟨g, k * 2, none⟩) hg).trans (hcl _ _ q0)
      have d1 := (hbl.cell (p := ⟨g, k * 2 + 1, none⟩) hg).trans (hcl _ _ q1)
      have e0 := (hbl.cell (p := ⟨g2, k * 2, none⟩) hg2).trans (hcl2 _ _ q0)
      have e1 := (hbl.cell (p := ⟨g2, k * 2 + 1, none⟩) hg2).trans (hcl2 _ _ q1)
      clear hcl hcl2 q0 q1
      go_wp2_with fail
      go_quiet (fail)
      go_wp2_with fail
      exact ⟨⟨k + 1, by omega, by go_num, below_drewN hbl nq⟩, by simp [intOf]; omega⟩
    · go_wp2_with fail
      go_ret
      exact ⟨rfl, hbl⟩
end Go.Proofs.Ytkphiopeclgffaa
