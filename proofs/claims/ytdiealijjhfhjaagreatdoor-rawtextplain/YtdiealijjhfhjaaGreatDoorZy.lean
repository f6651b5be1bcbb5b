/- Within a call: the machine, and what must stay besides; an open reference that is taken out of the machine. -/
import Derived.Test.YtdiealijjhfhjaaGreatDoorZw
import Derived.Test.YtdiealijjhfhjaaGreatDoorZr
import Derived.Test.YtdiealijjhfhjaaGreatDoorZx
import Derived.Test.YtdiealijjhfhjaaGreatDoorZm
import Derived.Laws.EntriesVeiled
namespace Go.Proofs.YtdiealijjhfhjaaGreatDoor
open Go.RowKit
structure WalkP (Z : Nat → Prop) (S : Nat → Prop) (x : Nat) (m : Mc) (P : World → Prop) (w W : World) : Prop where
  ex : ∃ U, (∀ k, S k → U k) ∧ Mach Z U x m W ∧ Stays U W P
  keep : Keep S w W
theorem WalkP.post {Z : Nat → Prop} {S : Nat → Prop} {x : Nat} {m : Mc} {P : World → Prop} {w W : World} (h : WalkP Z S x m P w W) : Post Z S x m w W := by
  obtain ⟨U, h1, h2, _⟩ := h.ex
  exact ⟨U, h1, h2, h.keep⟩
theorem WalkP.now {Z : Nat → Prop} {S : Nat → Prop} {x : Nat} {m : Mc} {P : World → Prop} {w W : World} (h : WalkP Z S x m P w W) : P W := by
  obtain ⟨U, _, _, h3⟩ := h.ex
  exact h3.now
theorem WalkP.lt {Z : Nat → Prop} {S : Nat → Prop} {x : Nat} {m : Mc} {P : World → Prop} {w W : World} (h : WalkP Z S x m P w W) : x < W.heap.size := by
  obtain ⟨U, _, h2, _⟩ := h.ex
  exact h2.low
theorem WalkP.mach {Z : Nat → Prop} {S : Nat → Prop} {x : Nat} {m : Mc} {P : World → Prop} {w W : World} (h : WalkP Z S x m P w W) : ∃ v : Vs, (∀ i u, (m.cells v)[i]? = some u → W.cell? ⟨x, i, none⟩ = some u) ∧ (∀ i, W.frozen? ⟨x, i, none⟩ = false) := by
  obtain ⟨U, _, ⟨v, T, h2⟩, _⟩ := h.ex
  exact ⟨v, h2.cells, h2.free⟩
theorem WalkP.hi {Z : Nat → Prop} {S : Nat → Prop} {x : Nat} {m : Mc} {P : World → Prop} {w W W' : World} (h : WalkP Z S x m P w W) (b : Below W.heap.size W W') : G6.Hi W' := by
  obtain ⟨U, _, ⟨v, T, h2⟩, _⟩ := h.ex
  exact h2.hi _ (Keep.old b)
theorem WalkP.call {Z : Nat → Prop} {S : Nat → Prop} {x : Nat} {m m' : Mc} {P : World → Prop} {w W : World} (h : WalkP Z S x m P w W) {f : Nat} {args : Array Value} (H : ∀ U, Mach Z U x m W → Calls Tryz.prog f args W (Did Z U x m' W)) : Calls Tryz.prog f args W fun e W' => e = .returned (.tuple #[]) ∧ WalkP Z S x m' P w W' := by
  obtain ⟨U, h1, h2, h3⟩ := h.ex
  refine (H U h2).mono ?_
  rintro e W' ⟨rfl, V, p1, p2, p3⟩
  exact ⟨rfl, ⟨V, fun k hk => p1 k (h1 k hk), p2, (h3.keep p3).mono p1⟩, h.keep.trans (p3.sub h1)⟩
theorem WalkP.below {Z : Nat → Prop} {S : Nat → Prop} {x : Nat} {m : Mc} {P : World → Prop} {w W W' : World} (h : WalkP Z S x m P w W) (b : Below W.heap.size W W') : WalkP Z S x m P w W' := by
  obtain ⟨U, h1, h2, h3⟩ := h.ex
  exact ⟨⟨U, h1, h2.below b, h3.keep (Keep.old b)⟩, h.keep.trans (Keep.old b)⟩
theorem WalkP.drew {Z : Nat → Prop} {S : Nat → Prop} {x : Nat} {m : Mc} {P : World → Prop} {w W : World} (h : WalkP Z S x m P w W) : WalkP Z S x m P w W.drew := h.below (Below.refl _ _).drew
theorem WalkP.add {Z : Nat → Prop} {S : Nat → Prop} {x : Nat} {m : Mc} {P Q : World → Prop} {w W W' : World} (h : WalkP Z S x m P w W) (b : Below W.heap.size W W') (hq : ∀ U : Nat → Prop, (∀ k, W.heap.size ≤ k → k < W'.heap.size → U k) → Stays U W' Q) : WalkP Z S x m (fun w => P w ∧ Q w) w W' := by
  obtain ⟨U, h1, ⟨v, T, h2⟩, h3⟩ := h.ex
  have q := hq (Since U W W') (fun k p1 p2 => .inr ⟨p1, p2⟩)
  exact ⟨⟨Since U W W', fun k hk => .inl (h1 k hk), ⟨v, T, h2.since b⟩, fun w' k => ⟨((h3.keep (Keep.old b)).mono fun _ => .inl) w' k, q w' k⟩⟩, h.keep.trans (Keep.old b)⟩
theorem ChRow.same {b o : Nat} {l : List Ch} {w w' : World} (h : ChRow (some ⟨b, o, none⟩) l w) (e : w'.heap[b]? = w.heap[b]?) : ChRow (some ⟨b, o, none⟩) l w' := fun i c hc => by
  obtain ⟨b', off, h1, h2, h3, h4, h5⟩ := h i c hc
  cases h1
  have hb : b < w'.heap.size := by
    rw [Array.getElem?_eq_getElem h2] at e
    exact (Array.getElem?_eq_some_iff.1 e).1
  refine ⟨b, o, rfl, hb, ?_, ?_, ?_⟩
  · rw [← h3]; simp [World.cell?, e]
  · rw [← h4]; simp [World.cell?, e]
  · rw [← h5]; simp [World.cell?, e]
def IntRow (ao : Option Addr) (l : List Int) (w : World) : Prop :=
  ∀ i c, l[i]? = some c → ∃ b, ao = some ⟨b, 0, none⟩ ∧ b < w.heap.size ∧ w.cell? ⟨b, i, none⟩ = some (.int .i64 c)
theorem IntRow.same {b : Nat} {l : List Int} {w w' : World} (h : IntRow (some ⟨b, 0, none⟩) l w) (e : w'.heap[b]? = w.heap[b]?) : IntRow (some ⟨b, 0, none⟩) l w' := fun i c hc => by
  obtain ⟨b', h1, h2, h3⟩ := h i c hc
  cases h1
  have hb : b < w'.heap.size := by
    rw [Array.getElem?_eq_getElem h2] at e
    exact (Array.getElem?_eq_some_iff.1 e).1
  exact ⟨b, rfl, hb, by rw [← h3]; simp [World.cell?, e]⟩
def OneAt (w : World) (r : Int) (k n : Nat) (C : List Int) (e : Ending) (w' : World) : Prop :=
  ∃ ao cap, e = .returned (.tuple #[.int .i64 r, .int .i64 (k : Nat), .slice ao n cap]) ∧ n ≤ cap ∧ IntRow ao C w' ∧ (∀ b o, ao = some ⟨b, o, none⟩ → o = 0 ∧ w.heap.size ≤ b ∧ b < w'.heap.size) ∧ Below w.heap.size w w'
theorem one_at {w : World} (H : G6.Hi w) (s : ByteArray) (attr : Bool) (hs : s.size ≤ 1000000) (r : Int) (k n : Nat) (C : List Int) (hp : G6.refP G6.refs attr s.data.toList = (r, k, C)) (hn : C.length = n) : Calls Tryz.prog 82 #[.string s, .bool attr] w (OneAt w r k n C) := by
  refine (G6.one_any api_refs H s attr hs).mono ?_
  rintro e w' ⟨v, rfl, h1, h2⟩
  rw [hp] at h1 ⊢
  simp only at h1
  rcases h1.2 with ⟨rfl, h0⟩ | ⟨g, cap, cur, rfl, hB, hg, h3, h4, h5, h6⟩
  · obtain rfl : C = [] := List.eq_nil_of_length_eq_zero h0
    simp at hn
    subst hn
    exact ⟨none, 0, rfl, Nat.le_refl _, fun i c hc => (by simp at hc), fun b o e => (by cases e), h2⟩
  · rw [hn] at h3 h6 ⊢
    refine ⟨some ⟨g, 0, none⟩, cap, rfl, h3, fun i c hc => ?_, fun b o e => ?_, h2⟩
    · have hi := (List.getElem?_eq_some_iff.1 hc).1
      have q0 : (C.map (Value.int .i64))[i]? = some (.int .i64 c) := by simp [hc]
      rw [← h6] at q0
      rw [List.getElem?_take_of_lt (by omega), Array.getElem?_toList] at q0
      exact ⟨g, rfl, (Array.getElem?_eq_some_iff.1 hg).1, by simp [World.cell?, hg, q0]⟩
    · cases e
      exact ⟨rfl, hB, (Array.getElem?_eq_some_iff.1 hg).1⟩
theorem unref {Z : Nat → Prop} {S : Nat → Prop} {x : Nat} {m : Mc} {v : Vs} {T : List TL} {w : World} (h : MachV Z S x m v T w) (hl : m.ref ≠ []) : ∃ g cap, w.cell? ⟨x, 6, none⟩ = some (.slice (some ⟨g, 0, none⟩) m.ref.length cap) ∧ m.ref.length ≤ cap ∧ cap ≤ maxLen ∧ WalkP Z S x { m with ref := [] } (ChRow (some ⟨g, 0, none⟩) m.ref) w (w.setCell ⟨x, 6, none⟩ (.slice none 0 0)) := by
  have ho := h.bag.own 1 _ rfl
  obtain ⟨ao, cap, e6, hca, hrow, hz, hmx⟩ := rowC ho
  obtain ⟨c, t, hct⟩ : ∃ c t, m.ref = c :: t := by
    cases e : m.ref with
    | nil => exact absurd e hl
    | cons c t => exact ⟨c, t, rfl⟩
  obtain ⟨g, off, rfl, hgl, _, _, _⟩ := hrow 0 c (by rw [hct]; rfl)
  obtain ⟨rfl, hg⟩ := hz g off rfl
  obtain ⟨_, cur, z, hcell⟩ := own_blk ho hg
  have hgx : g ≠ x := fun e => by
    subst e
    rw [h.blk] at hcell
    simp at hcell
  have c6 := h.cells 6 v.r rfl
  rw [e6] at c6
  refine ⟨g, cap, c6, hca, hmx, ?_⟩
  obtain ⟨q1, q2⟩ := h.turn (m' := { m with ref := [] }) (v' := { v with r := .slice none 0 0 }) (T' := T) [(6, .slice none 0 0)] rfl (by simp [Mc.cells]) (h.bag.drop h.low 1 _ rfl 44 3) h.names rfl h.told h.toks
  have hW : setAll w x [(6, .slice none 0 0)] = w.setCell ⟨x, 6, none⟩ (.slice none 0 0) := rfl
  rw [hW] at q1 q2
  have hgW : (w.setCell ⟨x, 6, none⟩ (.slice none 0 0)).heap[g]? = w.heap[g]? := Below.heap_setCell _ _ _ _ hgx
  refine ⟨⟨fun k => S k ∨ k = g, fun k hk => .inl hk, ⟨_, T, q1.more (fun k => k = g) ?_ ?_ ?_ ?_⟩, fun w' k => ?_⟩, q2⟩
  · rintro k rfl
    exact Nat.lt_of_lt_of_le hgl q2.size
  · exact fun e => hgx e.symm
  · intro i r hr g' hg' e
    subst e
    by_cases hi : i = 1
    · subst hi
      simp [Mc.rows] at hr
      subst hr
      simp [Value.ownBlock] at hg'
    · have hr' : (m.rows v T)[i]? = some r := by
        have : ({ m with ref := [] } : Mc).rows { v with r := .slice none 0 0 } T = (m.rows v T).set 1 (rwC (.slice none 0 0) []) := rfl
        rw [this, List.getElem?_set_ne (fun e => hi e.symm)] at hr
        exact hr
      exact h.bag.apart i 1 r _ hi hr' rfl g' hg' hg
  · intro b e hb
    subst hb
    have hn := h.names
    have e' : v.m = .map (some b) := e
    rw [e'] at hn
    exact hn.obj _ _ _ hcell
  · have e1 : w'.heap[g]? = (w.setCell ⟨x, 6, none⟩ (.slice none 0 0)).heap[g]? := k.block g (.inr rfl) (Nat.lt_of_lt_of_le hgl q2.size)
    exact hrow.same (e1.trans hgW)
end Go.Proofs.YtdiealijjhfhjaaGreatDoor
namespace Go.Proofs.YtdiealijjhfhjaaGreatDoor
open Go.RowKit
set_option maxHeartbeats 2000000 in
set_option maxRecDepth 20000 in
theorem step_low {Z : Nat → Prop} {S : Nat → Prop} {x : Nat} {m : Mc} {w : World} (h : Mach Z S x m w) (en : Enters m.st) (hr : m.ref = []) (c : Ch) (H : ∀ U W, Mach Z U x m W → Calls Tryz.prog m.st #[mp x, cv c] W (Did Z U x (m.take c) W)) : Calls Tryz.prog 76 #[mp x, cv c] w (Did Z S x (m.take c) w) := by
  obtain ⟨r, p, q⟩ := c
  obtain ⟨W0, hW0, k0⟩ := Walk.start h ⟨r, p, q⟩
  have hxw := h.low
  obtain ⟨hb, d0, d1, d2⟩ := k0.box
  obtain ⟨c0, _⟩ := k0.st0
  have hx0 := k0.lt
  have hne : w.heap.size ≠ x := by omega
  have K0 : Hid (Walk Z S x m w.heap.size ⟨r, p, q⟩ w W0) := k0
  have HH : Hid (∀ U W, Mach Z U x m W → Calls Tryz.prog m.st #[mp x, cv ⟨r, p, q⟩] W (Did Z U x (m.take ⟨r, p, q⟩) W)) := H
  have k34 : Calls Tryz.prog 51 #[mp x] W0 fun e w' => e = .returned (.bool false) ∧ w' = W0 := by
    obtain ⟨U, _, h2, _⟩ := k0.ex
    have := refers_any h2
    rw [hr] at this
    simpa using this
  obtain ⟨s, hs⟩ : ∃ s, m.st = s := ⟨_, rfl⟩
  rw [hs] at c0
  have en' : ∀ args w, (callFunc s args).run Tryz.prog w = .ok (.enter s args) w := by rw [← hs]; exact en
  rw [hs] at HH
  clear h H en k0 hr hs
  go_enter Tryz.func76, Tryz.ntmps76
  go_wp2_with fail
  refine k34.mono ?_
  rintro e w1 ⟨rfl, hw1⟩
  obtain rfl := hw1.symm
  clear hw1 k34
  go_wp2_with fail
  go_still_tail 6, (show Tryz.prog.follows .mixedOrders = true by kernel_rfl)
  go_wp2_with fail
  refine (K0.out.drew.call (fun U => HH.out U _)).mono ?_
  rintro e W1 ⟨rfl, k1⟩
  have K1 : Hid (Walk Z S x (m.take ⟨r, p, q⟩) w.heap.size ⟨r, p, q⟩ w W1) := k1
  clear k1
  go_wp2_with fail
  refine bodyPost_end (results_none rfl _ _ _) rfl ?_
  exact ⟨rfl, K1.out.post⟩
def Mc.more (m : Mc) (c : Ch) : Mc := { m with ref := m.ref ++ [c] }
set_option maxHeartbeats 2000000 in
set_option maxRecDepth 20000 in
theorem refer_any {Z : Nat → Prop} {S : Nat → Prop} {x : Nat} {m : Mc} {w : World} (h : Mach Z S x m w) (hr : m.ref ≠ []) (c : Ch) (hn : m.tot ≤ 400000000) (H : ∀ U W, Mach Z U x (m.more c) W → Mc.sure (m.more c).ref = true → Calls Tryz.prog 52 #[mp x] W (Did Z U x (m.more c).resolve W)) : Calls Tryz.prog 112 #[mp x, cv c] w (Did Z S x (m.refer c) w) := by
  obtain ⟨r, p, q⟩ := c
  obtain ⟨v, T, h⟩ := h
  have b0 : Below w.heap.size w (w.alloc (.cells #[.int .i64 r, .int .i64 p, .int .i64 q] 44)) := (Below.refl _ _).alloc (Nat.le_refl _) _
  have h0 := h.below b0
  have hxw := h.lt
  have hx0 := h0.lt
  obtain ⟨k, hk⟩ : ∃ k, m.ref.length = k := ⟨_, rfl⟩
  obtain ⟨ao', c', W', hrun, q1, q2, q3, q4⟩ := h0.app (m' := m.more ⟨r, p, q⟩) (T' := T) Tryz.underlying35 info37 rfl (by decide) (by decide) 1 6 v.r m.ref.length 1 (m.ref.flatMap G4.Ch.cells) (G4.Ch.cells ⟨r, p, q⟩) rfl rfl (by simp [G4.Ch.cells, Value.oneCell']) (by unfold Mc.tot at hn; omega) (fun a => { v with r := a }) (fun a => by simp [Mc.rows, Mc.more, rwC]) (fun a => by simp [Mc.cells, Mc.more]) rfl (fun _ => rfl) (fun _ => rfl) h0.told h0.toks
  have c5 := h0.cells 6 v.r rfl
  obtain ⟨ao, ca, e5, _, _⟩ := own_form (h0.bag.own 1 _ rfl)
  simp only at e5
  have q3' : W'.cell? ⟨x, 6, none⟩ = some v.r := q3
  rw [e5, hk] at c5 q3' hrun
  rw [hk] at q1 q2
  have HP : Hid (Post Z S x (m.more ⟨r, p, q⟩) w (W'.setCell ⟨x, 6, none⟩ (.slice ao' (k + 1) c'))) := Post.of ⟨_, _, q1⟩ ((Keep.old b0).trans q2)
  have HS : Hid (∀ U W, Mach Z U x (m.more ⟨r, p, q⟩) W → Calls Tryz.prog 156 #[mp x] W (Says Z U x (m.more ⟨r, p, q⟩) W (Mc.sure (m.more ⟨r, p, q⟩).ref))) := fun U W hU => sure_any hU (by
    have : 0 < m.ref.length := List.length_pos_iff.2 hr
    simp [Mc.more]
    omega) (by
    unfold Mc.tot at hn ⊢
    simp [Mc.more]
    omega)
  have HR : Hid (∀ U W, Mach Z U x (m.more ⟨r, p, q⟩) W → Mc.sure (m.more ⟨r, p, q⟩).ref = true → Calls Tryz.prog 52 #[mp x] W (Did Z U x (m.more ⟨r, p, q⟩).resolve W)) := H
  have HE : Hid (m.refer ⟨r, p, q⟩ = if Mc.sure (m.more ⟨r, p, q⟩).ref = true then (m.more ⟨r, p, q⟩).resolve else m.more ⟨r, p, q⟩) := rfl
  have d0 : (w.alloc (.cells #[.int .i64 r, .int .i64 p, .int .i64 q] 44)).cell? ⟨w.heap.size, 0, none⟩ = some (.int .i64 r) := by rw [World.cell?_alloc_at _ _ _ _ rfl]; rfl
  have d1 : (w.alloc (.cells #[.int .i64 r, .int .i64 p, .int .i64 q] 44)).cell? ⟨w.heap.size, 1, none⟩ = some (.int .i64 p) := by rw [World.cell?_alloc_at _ _ _ _ rfl]; rfl
  have d2 : (w.alloc (.cells #[.int .i64 r, .int .i64 p, .int .i64 q] 44)).cell? ⟨w.heap.size, 2, none⟩ = some (.int .i64 q) := by rw [World.cell?_alloc_at _ _ _ _ rfl]; rfl
  have hz : w.heap.size < (w.alloc (.cells #[.int .i64 r, .int .i64 p, .int .i64 q] 44)).heap.size := by simp
  clear h h0 q1 q2 q3 e5 b0 hk H hr hn
  generalize hB : Mc.sure (m.more ⟨r, p, q⟩).ref = B at *
  clear hB
  go_enter Tryz.func112, Tryz.ntmps112
  go_wp2_with fail
  generalize hW : w.alloc (.cells #[.int .i64 r, .int .i64 p, .int .i64 q] 44) = W0 at *
  clear hW
  go_region_law (refine step_append_eq rfl _ _ 35 35 rfl _ _ (by simp [Act.eval]) (by simp [Act.eval]) hrun ?_)
  all_goals
    go_wp2_with fail
    obtain ⟨U, hU1, hU2, hU3⟩ := HP.out
    refine (HS.out U _ hU2).mono ?_
    rintro e W1 ⟨rfl, hw1⟩
    have P1 : Hid (Post Z S x (m.more ⟨r, p, q⟩) w W1) := Post.go hU1 hU3 hw1
    clear hU1 hU2 hU3 hw1
    cases B with
    | false =>
      go_wp2_with fail
      first
        | refine bodyPost_end (results_none rfl _ _ _) rfl ?_
        | refine bodyPost_ret (results_none rfl _ _ _) rfl ?_
      refine ⟨rfl, ?_⟩
      rw [HE.out]
      exact P1.out
    | true =>
      go_wp2_with fail
      refine (P1.out.call (fun U hU => HR.out U _ hU (by simp))).mono ?_
      rintro e W2 ⟨rfl, hw2⟩
      have P2 : Hid (Post Z S x (m.more ⟨r, p, q⟩).resolve w W2) := hw2
      clear hw2
      go_wp2_with fail
      first
        | refine bodyPost_end (results_none rfl _ _ _) rfl ?_
        | refine bodyPost_ret (results_none rfl _ _ _) rfl ?_
      refine ⟨rfl, ?_⟩
      rw [HE.out]
      exact P2.out
set_option maxHeartbeats 2000000 in
set_option maxRecDepth 20000 in
theorem step_high {Z : Nat → Prop} {S : Nat → Prop} {x : Nat} {m : Mc} {w : World} (h : Mach Z S x m w) (hr : m.ref ≠ []) (c : Ch) (H : ∀ U W, Mach Z U x m W → Calls Tryz.prog 112 #[mp x, cv c] W (Did Z U x (m.refer c) W)) : Calls Tryz.prog 76 #[mp x, cv c] w (Did Z S x (m.refer c) w) := by
  obtain ⟨r, p, q⟩ := c
  obtain ⟨W0, hW0, k0⟩ := Walk.start h ⟨r, p, q⟩
  have hxw := h.low
  obtain ⟨hb, d0, d1, d2⟩ := k0.box
  have hx0 := k0.lt
  have hne : w.heap.size ≠ x := by omega
  have K0 : Hid (Walk Z S x m w.heap.size ⟨r, p, q⟩ w W0) := k0
  have HH : Hid (∀ U W, Mach Z U x m W → Calls Tryz.prog 112 #[mp x, cv ⟨r, p, q⟩] W (Did Z U x (m.refer ⟨r, p, q⟩) W)) := H
  have k34 : Calls Tryz.prog 51 #[mp x] W0 fun e w' => e = .returned (.bool true) ∧ w' = W0 := by
    obtain ⟨U, _, h2, _⟩ := k0.ex
    have := refers_any h2
    rw [decide_eq_true hr] at this
    exact this
  clear h H k0 hr
  go_enter Tryz.func76, Tryz.ntmps76
  go_wp2_with fail
  refine k34.mono ?_
  rintro e w1 ⟨rfl, hw1⟩
  obtain rfl := hw1.symm
  clear hw1 k34
  go_wp2_with fail
  refine (K0.out.call (fun U => HH.out U _)).mono ?_
  rintro e W1 ⟨rfl, k1⟩
  have K1 : Hid (Walk Z S x (m.refer ⟨r, p, q⟩) w.heap.size ⟨r, p, q⟩ w W1) := k1
  clear k1
  go_wp2_with fail
  refine bodyPost_ret (results_none rfl _ _ _) rfl ?_
  exact ⟨rfl, K1.out.post⟩
theorem ent49 : Enters 71 := enters_of Tryz.func71 (by kernel_rfl) rfl
theorem ent75 : Enters 102 := enters_of Tryz.func102 (by kernel_rfl) rfl
theorem ent73 : Enters 100 := enters_of Tryz.func100 (by kernel_rfl) rfl
theorem ent84 : Enters 111 := enters_of Tryz.func111 (by kernel_rfl) rfl
theorem ent123 : Enters 155 := enters_of Tryz.func155 (by kernel_rfl) rfl
theorem ent169 : Enters 208 := enters_of Tryz.func208 (by kernel_rfl) rfl
theorem ent51 : Enters 73 := enters_of Tryz.func73 (by kernel_rfl) rfl
theorem ent145 : Enters 178 := enters_of Tryz.func178 (by kernel_rfl) rfl
theorem ent27 : Enters 46 := enters_of Tryz.func46 (by kernel_rfl) rfl
theorem ent81 : Enters 108 := enters_of Tryz.func108 (by kernel_rfl) rfl
theorem ent119 : Enters 151 := enters_of Tryz.func151 (by kernel_rfl) rfl
theorem ent151 : Enters 184 := enters_of Tryz.func184 (by kernel_rfl) rfl
theorem ent148 : Enters 181 := enters_of Tryz.func181 (by kernel_rfl) rfl
theorem ent170 : Enters 209 := enters_of Tryz.func209 (by kernel_rfl) rfl
theorem ent181 : Enters 220 := enters_of Tryz.func220 (by kernel_rfl) rfl
theorem ent182 : Enters 221 := enters_of Tryz.func221 (by kernel_rfl) rfl
theorem ent183 : Enters 222 := enters_of Tryz.func222 (by kernel_rfl) rfl
theorem ent187 : Enters 226 := enters_of Tryz.func226 (by kernel_rfl) rfl
theorem ent120 : Enters 152 := enters_of Tryz.func152 (by kernel_rfl) rfl
theorem ent147 : Enters 180 := enters_of Tryz.func180 (by kernel_rfl) rfl
theorem ent109 : Enters 141 := enters_of Tryz.func141 (by kernel_rfl) rfl
theorem ent140 : Enters 173 := enters_of Tryz.func173 (by kernel_rfl) rfl
theorem ent142 : Enters 175 := enters_of Tryz.func175 (by kernel_rfl) rfl
theorem ent166 : Enters 205 := enters_of Tryz.func205 (by kernel_rfl) rfl
theorem ent164 : Enters 203 := enters_of Tryz.func203 (by kernel_rfl) rfl
theorem ent178 : Enters 217 := enters_of Tryz.func217 (by kernel_rfl) rfl
theorem ent112 : Enters 144 := enters_of Tryz.func144 (by kernel_rfl) rfl
theorem ent144 : Enters 177 := enters_of Tryz.func177 (by kernel_rfl) rfl
theorem ent168 : Enters 207 := enters_of Tryz.func207 (by kernel_rfl) rfl
theorem ent180 : Enters 219 := enters_of Tryz.func219 (by kernel_rfl) rfl
theorem ent113 : Enters 145 := enters_of Tryz.func145 (by kernel_rfl) rfl
theorem ent74 : Enters 101 := enters_of Tryz.func101 (by kernel_rfl) rfl
theorem ent28 : Enters 47 := enters_of Tryz.func47 (by kernel_rfl) rfl
theorem ent50 : Enters 72 := enters_of Tryz.func72 (by kernel_rfl) rfl
theorem ent76 : Enters 103 := enters_of Tryz.func103 (by kernel_rfl) rfl
theorem ent79 : Enters 106 := enters_of Tryz.func106 (by kernel_rfl) rfl
theorem ent146 : Enters 179 := enters_of Tryz.func179 (by kernel_rfl) rfl
theorem ent108 : Enters 140 := enters_of Tryz.func140 (by kernel_rfl) rfl
theorem ent111 : Enters 143 := enters_of Tryz.func143 (by kernel_rfl) rfl
theorem enters_take {m : Mc} (hi : Inv m) : Enters m.st := by
  rcases hi.1 with k | k | k | k | k | k | k | k | ⟨k, hw⟩
  · rw [k.1]; exact ent49
  · rw [k.1]; exact ent75
  · rw [k.1]; exact ent73
  · rw [k.1]; exact ent84
  · rw [k.1]; exact ent123
  · rw [k.1]; exact ent169
  · rw [k.1]; exact ent51
  · rw [k.1]; exact ent145
  · rcases k with k | k | k | k | k | k | k | k | k | k | k | k | k | k | k | k | k | k | k | k | k | k | k
    · rw [k]; exact ent27
    · rw [k]; exact ent81
    · rw [k]; exact ent119
    · rw [k]; exact ent151
    · rw [k]; exact ent148
    · rw [k]; exact ent170
    · rw [k]; exact ent181
    · rw [k]; exact ent182
    · rw [k]; exact ent183
    · rw [k]; exact ent187
    · rw [k]; exact ent120
    · rw [k]; exact ent147
    · rw [k]; exact ent109
    · rw [k]; exact ent140
    · rw [k]; exact ent142
    · rw [k]; exact ent166
    · rw [k]; exact ent164
    · rw [k]; exact ent178
    · rw [k]; exact ent112
    · rw [k]; exact ent144
    · rw [k]; exact ent168
    · rw [k]; exact ent180
    · rw [k]; exact ent113
theorem enters_end {m : Mc} (hi : Inv m) : Enters m.en := by
  rcases hi.2 with ⟨k, _⟩ | k | k | k | k | k | k | k
  · rw [k]; exact ent74
  · rw [k]; exact ent28
  · rw [k]; exact ent50
  · rw [k]; exact ent76
  · rw [k]; exact ent79
  · rw [k]; exact ent146
  · rw [k]; exact ent108
  · rw [k]; exact ent111
end Go.Proofs.YtdiealijjhfhjaaGreatDoor
namespace Go.Proofs.YtdiealijjhfhjaaGreatDoor
open Go.RowKit
def newV : Vs := ⟨.slice none 0 0, .slice none 0 0, .pointer none, .slice none 0 0, .slice none 0 0, .slice none 0 0, .map none, .slice none 0 0, .slice none 0 0, .slice none 0 0, .slice none 0 0⟩
theorem own_none (w : World) (q : Bool) (e s : Nat) : OwnQ w q e s (.slice none 0 0) 0 [] := ⟨by simp, .inl ⟨rfl, rfl⟩⟩
theorem bag_new (S : Nat → Prop) (w : World) : Bag S w (Mc.new.rows newV []) := by
  have hv : ∀ (i : Nat) (r : Rw), (Mc.new.rows newV [])[i]? = some r → r.v.ownBlock = none ∧ r.own w := fun i r hr => by
    have := List.mem_of_getElem? hr
    simp only [Mc.rows, newV, Mc.new, List.mem_cons, List.not_mem_nil, or_false] at this
    rcases this with rfl | rfl | rfl | rfl | rfl | rfl | rfl | rfl | rfl <;> exact ⟨rfl, own_none _ _ _ _⟩
  refine ⟨fun i r hr => (hv i r hr).2, fun i r hr g hg => ?_, fun i j a b _ ha _ g hg => ?_⟩
  · rw [(hv i r hr).1] at hg; cases hg
  · rw [(hv i a ha).1] at hg; cases hg
theorem mach_new {S : Nat → Prop} {w : World} (H : G6.Hi w) (low : ∀ k, S k → k < w.heap.size) (h0 : S 1) : MachV NoZ S w.heap.size Mc.new newV [] (w.alloc (.cells (Mc.new.cells newV) 75)) := by
  have b0 : Below w.heap.size w (w.alloc (.cells (Mc.new.cells newV) 75)) := (Below.refl _ _).alloc (Nat.le_refl _) _
  refine ⟨fun k hk => Nat.lt_of_lt_of_le (low k hk) b0.size, ⟨fun hx => ?_, fun _ h => h.elim⟩, fun w' k => ?_, heap_alloc_new _ _, bag_new _ _, Names.none _ _, .inl rfl, rfl, fun t ht => by cases ht⟩
  · have := low _ hx
    omega
  · have hl := H.lt
    have e : w'.heap[1]? = w.heap[1]? := (k.block 1 h0 (Nat.lt_of_lt_of_le hl b0.size)).trans (b0.block 1 hl)
    intro i hi
    rw [← H i hi]
    simp [World.cell?, e]
set_option maxHeartbeats 1000000 in
set_option maxRecDepth 20000 in
theorem new_any {S : Nat → Prop} {w : World} (H : G6.Hi w) (low : ∀ k, S k → k < w.heap.size) (h0 : S 1) : Calls Tryz.prog 31 #[] w fun e w' => e = .returned (mp w.heap.size) ∧ MachV NoZ S w.heap.size Mc.new newV [] w' ∧ Below w.heap.size w w' := by
  have b0 : Below w.heap.size w (w.alloc (.cells (Mc.new.cells newV) 75)) := (Below.refl _ _).alloc (Nat.le_refl _) _
  have HM : Hid (MachV NoZ S w.heap.size Mc.new newV [] (w.alloc (.cells (Mc.new.cells newV) 75)) ∧ Below w.heap.size w (w.alloc (.cells (Mc.new.cells newV) 75))) := ⟨mach_new H low h0, b0⟩
  clear H low h0 b0
  go_enter Tryz.func31, Tryz.ntmps31
  go_wp2_with fail
  go_ret
  exact ⟨rfl, HM.out.1, HM.out.2⟩
abbrev DidV (Z : Nat → Prop) (S : Nat → Prop) (x : Nat) (m : Mc) (v : Vs) (T : List TL) (w : World) (e : Ending) (w' : World) : Prop := e = .returned (.tuple #[]) ∧ MachV Z S x m v T w' ∧ Keep S w w'
set_option maxHeartbeats 1000000 in
set_option maxRecDepth 20000 in
theorem set_v {Z : Nat → Prop} {S : Nat → Prop} {x : Nat} {m : Mc} {v : Vs} {T : List TL} {w : World} (h : MachV Z S x m v T w) (t : Int) : Calls Tryz.prog 21 #[mp x, .int .i64 t] w (DidV Z S x (m.set t) v T w) := by
  have hxw := h.lt
  have c2 := h.cells 2 _ rfl
  have f2 := h.free 2
  have HP : Hid (∀ u, MachV Z S x { m with text := u } v T (setAll w x [(2, .int .i64 u)]) ∧ Keep S w (setAll w x [(2, .int .i64 u)])) := fun u => h.turn [(2, .int .i64 u)] rfl (by simp [Mc.cells]) h.bag h.names rfl h.told h.toks
  by_cases hlo : t < 0
  · have HE : Hid (m.set t = { m with text := 0 }) := by
      show m.set t = _
      unfold Mc.set
      rw [if_pos (by omega)]
    have g1 : decide (t < 0) = true := decide_eq_true hlo
    clear h hlo
    go_enter Tryz.func21, Tryz.ntmps21
    go_wp2_with fail
    refine bodyPost_end (results_none rfl _ _ _) rfl ?_
    refine ⟨rfl, ?_⟩
    rw [HE.out]
    exact HP.out 0
  · by_cases hhi : t > 3
    · have HE : Hid (m.set t = { m with text := 0 }) := by
        show m.set t = _
        unfold Mc.set
        rw [if_pos (by omega)]
      have g1 : decide (t < 0) = false := decide_eq_false hlo
      have g2 : decide (3 < t) = true := decide_eq_true hhi
      clear h
      go_enter Tryz.func21, Tryz.ntmps21
      go_wp2_with fail
      refine bodyPost_end (results_none rfl _ _ _) rfl ?_
      refine ⟨rfl, ?_⟩
      rw [HE.out]
      exact HP.out 0
    · have HE : Hid (m.set t = { m with text := t }) := by
        show m.set t = _
        unfold Mc.set
        rw [if_neg (by omega)]
      have g1 : decide (t < 0) = false := decide_eq_false hlo
      have g2 : decide (3 < t) = false := decide_eq_false hhi
      clear h
      go_enter Tryz.func21, Tryz.ntmps21
      go_wp2_with fail
      refine bodyPost_end (results_none rfl _ _ _) rfl ?_
      refine ⟨rfl, ?_⟩
      rw [HE.out]
      exact HP.out t
end Go.Proofs.YtdiealijjhfhjaaGreatDoor
