/- resolve and step of a machine in good order. -/
import Derived.Test.YtdiealijjhfhjaaGreatDoorZz
import Derived.Test.YtdiealijjhfhjaaGreatDoorZy
namespace Go.Proofs.YtdiealijjhfhjaaGreatDoor
open Go.RowKit
theorem resolve_any {Z : Nat → Prop} {S : Nat → Prop} {x : Nat} {m : Mc} {w : World} (h : Mach Z S x m w) {n : Nat} (hg : GoodW n m) (hr : RefW m.ref) (hn : n ≤ 20000) : Calls Tryz.prog 52 #[mp x] w (Did Z S x m.resolve w) := by
  obtain ⟨a0, t0, hl⟩ : ∃ a t, m.ref = a :: t := by
    cases e : m.ref with
    | nil => exact absurd e hr.ne
    | cons a t => exact ⟨a, t, rfl⟩
  have hlen := oneR_len hr
  have hf := hg.few
  obtain ⟨b1, b2, b3⟩ := hg.wl hn
  have H : ∀ (U : Nat → Prop) (W : World) (i : Nat) (c : Ch), m.left[i]? = some c → Mach Z U x ((m.left.take i).foldl Mc.take m.mid) W → Calls Tryz.prog 76 #[mp x, cv c] W (Did Z U x ((m.left.take (i + 1)).foldl Mc.take m.mid) W) := fun U W i c hc hU => by
    obtain ⟨hil, rfl⟩ := List.getElem?_eq_some_iff.1 hc
    obtain ⟨r1, r2, r3, _⟩ := run_ok m.left (left_38 hr) m.mid (mid_inv hg.inv) (mid_ctl m).2.2.2.1 i (by omega)
    have g2 := mid_good hg hr.ne _ i (by omega) r1 r2
    obtain ⟨c1, c2, c3⟩ := g2.wl hn
    rw [← List.take_append_getElem hil, List.foldl_append]
    exact step_low hU (enters_take r1) (r3 hil) _ fun V W' hV => take_any hV r1 _ c1 c2 c3
  by_cases hk : m.oneR.2.1 = 0
  · exact resolve_1 h a0 t0 hl hlen (by omega) m.kind rfl b3 hk H
  · exact resolve_2 h a0 t0 hl hlen (by omega) m.kind rfl b3 (m.oneR.2.1 - 1) (by omega) H
theorem step_any {Z : Nat → Prop} {S : Nat → Prop} {x : Nat} {m : Mc} {w : World} (h : Mach Z S x m w) {n : Nat} (hg : Good n m) (c : Ch) (hn : n < 20000) : Calls Tryz.prog 76 #[mp x, cv c] w (Did Z S x (m.step c) w) := by
  obtain ⟨b1, b2, b3⟩ := hg.w.wl (by omega)
  by_cases hr : m.ref = []
  · have e : m.step c = m.take c := by unfold Mc.step; rw [if_neg (by simpa using hr)]
    rw [e]
    exact step_low h (enters_take hg.w.inv) hr c fun V W' hV => take_any hV hg.w.inv c b1 b2 b3
  · have e : m.step c = m.refer c := by unfold Mc.step; rw [if_pos hr]
    rw [e]
    have hro := hg.ref.resolve_left hr
    exact step_high h hr c fun U W hU => refer_any hU hr c b3 fun V W' hV _ => resolve_any hV (app_good hg c) (.inr ⟨_, _, rfl, hro⟩) (by omega)
end Go.Proofs.YtdiealijjhfhjaaGreatDoor
namespace Go.Proofs.YtdiealijjhfhjaaGreatDoor
open Go.RowKit
theorem tk_cell : ∀ (T : List TL) (i j : Nat) (t : TL), T[i]? = some t → j < 8 → (T.flatMap tkCells)[i * 8 + j]? = t.1.arr[j]?
  | [], i, j, t, h, _ => by simp at h
  | y :: T, 0, j, t, h, hj => by
    simp at h
    subst h
    rw [List.flatMap_cons, List.getElem?_append_left (by rw [tk_len]; omega)]
    simp [tkCells]
  | y :: T, i + 1, j, t, h, hj => by
    rw [List.flatMap_cons, List.getElem?_append_right (by rw [tk_len]; omega), tk_len, show (i + 1) * 8 + j - 8 = i * 8 + j by omega]
    exact tk_cell T i j t (by simpa using h) hj
def TkRowS (Z : Nat → Prop) (w : World) (ao : Option Addr) (T : List TL) : Prop := G9.TkRow w ao T ∧ ∀ t ∈ T, TkS Z w t.1 t.2
theorem TkRowS.nil {Z : Nat → Prop} (w : World) (ao : Option Addr) : TkRowS Z w ao [] := ⟨G9.TkRow.nil _ _, fun t h => by cases h⟩
theorem own_row {Z : Nat → Prop} {w : World} {g : Nat} {cur : Array Value} {z : Nat × Nat} {T : List TL} (hg : w.heap[g]? = some (.cells cur 42 z)) (h4 : cur.toList.take (T.length * 8) = T.flatMap tkCells) (hk : ∀ t ∈ T, TkS Z w t.1 t.2) : TkRowS Z w (some ⟨g, 0, none⟩) T := by
  refine ⟨fun i t ht => ⟨⟨g, 0, rfl, (Array.getElem?_eq_some_iff.1 hg).1, fun j u hj => ?_⟩, (hk t (List.mem_of_getElem? ht)).1⟩, hk⟩
  have hi := (List.getElem?_eq_some_iff.1 ht).1
  have hj8 : j < 8 := by
    have := (Array.getElem?_eq_some_iff.1 hj).1
    simpa using this
  have q := tk_cell T i j t ht hj8
  rw [hj, ← h4, List.getElem?_take_of_lt (by omega), Array.getElem?_toList] at q
  simp [World.cell?, hg, q]
def MachN (Z : Nat → Prop) (S : Nat → Prop) (x : Nat) (m : Mc) (w : World) : Prop := ∃ v, MachV Z S x m v [] w ∧ v.o = .slice none 0 0
def Gave (Z : Nat → Prop) (S : Nat → Prop) (x : Nat) (m : Mc) (L : List Pt) (w : World) (e : Ending) (w' : World) : Prop :=
  ∃ U T ao cap, e = .returned (.slice ao T.length cap) ∧ T.map ptOf = L ∧ T.length ≤ cap ∧ (∀ k, S k → U k) ∧ MachN Z U x m w' ∧ Keep S w w' ∧ (Stays U w' fun w => TkRowS Z w ao T) ∧ ∀ b o, ao = some ⟨b, o, none⟩ → ¬ S b
theorem unout {Z : Nat → Prop} {S : Nat → Prop} {x : Nat} {m : Mc} {v : Vs} {T : List TL} {w : World} (h : MachV Z S x m v T w) : ∃ ao cap, w.cell? ⟨x, 19, none⟩ = some (.slice ao T.length cap) ∧ T.length ≤ cap ∧ ∃ U, (∀ k, S k → U k) ∧ MachV Z U x { m with out := [] } { v with o := .slice none 0 0 } [] (w.setCell ⟨x, 19, none⟩ (.slice none 0 0)) ∧ Keep S w (w.setCell ⟨x, 19, none⟩ (.slice none 0 0)) ∧ (Stays U (w.setCell ⟨x, 19, none⟩ (.slice none 0 0)) fun w => TkRowS Z w ao T) ∧ ∀ b o, ao = some ⟨b, o, none⟩ → ¬ S b := by
  have ho := h.bag.own 7 _ rfl
  have c := h.cells 19 v.o rfl
  obtain ⟨q1, q2⟩ := h.turn (m' := { m with out := [] }) (v' := { v with o := .slice none 0 0 }) (T' := []) [(19, .slice none 0 0)] rfl (by simp [Mc.cells]) (h.bag.drop h.low 7 _ rfl 42 8) h.names rfl rfl (fun t ht => by cases ht)
  have hW : setAll w x [(19, .slice none 0 0)] = w.setCell ⟨x, 19, none⟩ (.slice none 0 0) := rfl
  rw [hW] at q1 q2
  rcases ho.2 with ⟨e, h0⟩ | ⟨g, cap, cur, z, e, hg, _, h1, h2, h3, h4⟩
  · simp only at e h0
    have : T = [] := List.eq_nil_of_length_eq_zero h0
    subst this
    rw [e] at c
    exact ⟨none, 0, c, Nat.le_refl _, S, fun _ h => h, q1, q2, fun w' _ => TkRowS.nil _ _, fun b o e => (by cases e)⟩
  · simp only at e h1 h4 hg
    rw [e] at c
    have hgl := (Array.getElem?_eq_some_iff.1 hg).1
    have hgx : g ≠ x := fun e => by
      subst e
      rw [h.blk] at hg
      simp at hg
    have hgW : (w.setCell ⟨x, 19, none⟩ (.slice none 0 0)).heap[g]? = w.heap[g]? := Below.heap_setCell _ _ _ _ hgx
    refine ⟨_, cap, c, h1, fun k => S k ∨ k = g, fun k hk => .inl hk, q1.more (fun k => k = g) ?_ ?_ ?_ ?_, q2, fun w' k => ?_, fun b o e' => ?_⟩
    · rintro k rfl
      exact Nat.lt_of_lt_of_le hgl q2.size
    · exact fun e => hgx e.symm
    · intro i r hr g' hg' e'
      subst e'
      by_cases hi : i = 7
      · subst hi
        simp [Mc.rows] at hr
        subst hr
        simp [Value.ownBlock] at hg'
      · have hr' : (m.rows v T)[i]? = some r := by
          have : ({ m with out := [] } : Mc).rows { v with o := .slice none 0 0 } [] = (m.rows v T).set 7 (rwT (.slice none 0 0) []) := rfl
          rw [this, List.getElem?_set_ne (fun e => hi e.symm)] at hr
          exact hr
        exact h.bag.apart i 7 r _ hi hr' rfl g' hg' (by show v.o.ownBlock = _; rw [e]; rfl)
    · intro b e' hb
      subst hb
      have hn := h.names
      have e2 : v.m = .map (some b) := e'
      rw [e2] at hn
      exact hn.obj _ _ _ hg
    · have e1 : w'.heap[g]? = (w.setCell ⟨x, 19, none⟩ (.slice none 0 0)).heap[g]? := k.block g (.inr rfl) (Nat.lt_of_lt_of_le hgl q2.size)
      exact own_row ((e1.trans hgW).trans hg) h4 fun t ht => h.toks t ht w' (q2.trans (k.sub fun _ => .inl))
    · cases e'
      exact h.bag.out 7 _ rfl g (by show v.o.ownBlock = _; rw [e]; rfl)
set_option maxHeartbeats 2000000 in
set_option maxRecDepth 20000 in
theorem feed_any {Z : Nat → Prop} {S : Nat → Prop} {x : Nat} {m : Mc} {w : World} (h : Mach Z S x m w) {n : Nat} (hg : Good n m) (c : Ch) (hn : n < 20000) : Calls Tryz.prog 48 #[mp x, cv c] w (Gave Z S x (m.feed c).2 (m.feed c).1 w) := by
  have HH : Hid (∀ U W, Mach Z U x m W → Calls Tryz.prog 76 #[mp x, cv c] W (Did Z U x (m.step c) W)) := fun U W hU => step_any hU hg c hn
  obtain ⟨r, p, q⟩ := c
  obtain ⟨W0, hW0, k0⟩ := Walk.start h ⟨r, p, q⟩
  have hxw := h.low
  obtain ⟨hb, d0, d1, d2⟩ := k0.box
  have hx0 := k0.lt
  have K0 : Hid (Walk Z S x m w.heap.size ⟨r, p, q⟩ w W0) := k0
  clear h k0 hg
  go_enter Tryz.func48, Tryz.ntmps48
  go_wp2_with fail
  refine (K0.out.call (fun U => HH.out U _)).mono ?_
  rintro e W1 ⟨rfl, k1⟩
  obtain ⟨U1, s1, ⟨v, T, h1⟩, _⟩ := k1.ex
  have hx1 := h1.lt
  have f19 := h1.free 19
  obtain ⟨ao, cap, c19, hcap, U2, s2, h2, kk2, st2, nS⟩ := unout h1
  obtain ⟨nT, hnT⟩ : ∃ nT, T.length = nT := ⟨_, rfl⟩
  rw [hnT] at c19 hcap
  have HG : Hid (Gave Z S x (m.feed ⟨r, p, q⟩).2 (m.feed ⟨r, p, q⟩).1 w (.returned (.slice ao nT cap)) (W1.setCell ⟨x, 19, none⟩ (.slice none 0 0))) :=
    ⟨U2, T, ao, cap, by rw [hnT], h1.told, by rw [hnT]; exact hcap, fun k hk => s2 k (s1 k hk), ⟨_, h2, rfl⟩, k1.keep.trans (kk2.sub s1), st2, fun b o e hS => nS b o e (s1 b hS)⟩
  clear h1 k1 h2 st2 kk2 hnT s1 s2 nS
  go_wp2_with fail
  go_ret
  exact HG.out
end Go.Proofs.YtdiealijjhfhjaaGreatDoor
namespace Go.Proofs.YtdiealijjhfhjaaGreatDoor
open Go.RowKit
theorem clone_run {t e size bytes : Nat} {z0 : Value} (ht : Tryz.prog.underlying t = some (.slice e)) (hinfo : (Tryz.prog.info? e).map (fun i => (i.zero, i.size, i.bytes)) = some (some z0, size, bytes)) (hzs : z0.cells.size = size) (hsz : 0 < size) (hb : bytes ≤ 96)
    {w : World} {g n cap : Nat} {xs : List Value} {q : Bool} (hown : OwnQ w q e size (.slice (some ⟨g, 0, none⟩) n cap) n xs) (h1 : ∀ u ∈ xs, u.oneCell' = true) (hn : n ≤ 1000000000000) :
    ∃ ao' c' W', (Builtin.append_ #[t, t] t #[.slice (some ⟨w.heap.size, 0, none⟩) 0 0, .slice (some ⟨g, 0, none⟩) n cap]).run Tryz.prog (w.alloc (.cells #[] e)) = .ok (.slice ao' n c') W' ∧ W'.ownsRow w.heap.size e size (.slice ao' n c') n xs ∧ Below w.heap.size w W' := by
  obtain ⟨i0, hi0, hz0, hzs0, hzb⟩ := info_parts hinfo
  have b0 : Below w.heap.size w (w.alloc (.cells #[] e)) := (Below.refl _ _).alloc (Nat.le_refl _) _
  have hnew := heap_alloc_new w (.cells #[] e)
  have ho : (w.alloc (.cells #[] e)).ownsRow w.heap.size e size (.slice (some ⟨w.heap.size, 0, none⟩) 0 0) 0 [] := ⟨by simp, .inr ⟨w.heap.size, 0, #[], rfl, Nat.le_refl _, hnew, Nat.le_refl _, Nat.zero_le _, by simp, by simp⟩⟩
  obtain ⟨v', W', hrun, ho', hg', _, _⟩ := run_append_own_at (P := Tryz.prog) (w.alloc (.cells #[] e)) w.heap.size t t e i0 _ size bytes ht hi0 hz0 hzs0 hzb hzs hsz _ 0 [] ho ⟨g, 0, none⟩ n cap xs hown.1 (fun j u hj => by
    rw [Addr.add_lit, Nat.zero_add]
    rcases hown.2 with ⟨e2, _⟩ | ⟨g2, cap2, cur, z, e2, hg2, _, _, _, _, htake⟩
    · cases e2
    · simp only [Value.slice.injEq, Option.some.injEq, Addr.mk.injEq, and_true, true_and] at e2
      obtain ⟨rfl, rfl⟩ := e2
      have hjl := (List.getElem?_eq_some_iff.1 hj).1
      rw [← htake, List.getElem?_take_of_lt (by rw [← hown.1]; exact hjl), Array.getElem?_toList] at hj
      rw [b0.cell (p := ⟨g, j, none⟩) (Array.getElem?_eq_some_iff.1 hg2).1]
      simp [World.cell?, hg2, hj]) h1 (by unfold maxLen; omega) (by have := Nat.mul_le_mul hn hb; simp; omega) b0.size
  have hf : ∃ ao c, v' = .slice ao n c := by
    rcases ho'.2 with ⟨e2, h2⟩ | ⟨g2, cap2, cur, e2, _⟩
    · rw [Nat.zero_add] at h2
      subst h2
      exact ⟨_, _, e2⟩
    · rw [Nat.zero_add] at e2
      exact ⟨_, _, e2⟩
  obtain ⟨ao, c, rfl⟩ := hf
  rw [Nat.zero_add, List.nil_append] at ho'
  refine ⟨ao, c, W', hrun, ho', b0.trans ⟨hg'.os, hg'.tape, hg'.output, hg'.size, fun d hd => hg'.block d (Nat.lt_of_lt_of_le hd b0.size) (fun e2 => ?_)⟩⟩
  simp [Value.ownBlock] at e2
  omega
theorem eqIn_nil (d t e : Nat) (a : Option Addr) (l c : Nat) (w : World) (h : Tryz.prog.underlying t = some (.slice e)) : (Op.equalIn (d + 1) t (.slice a l c) (.slice none 0 0)).run Tryz.prog w = .ok a.isNone w := by
  cases a <;> simp [Op.equalIn, run_underlying h]
theorem eq_nil (t e : Nat) (a : Option Addr) (l c : Nat) (w : World) (b : Bool) (hb : a.isNone = b) (h : Tryz.prog.underlying t = some (.slice e)) : (binOp .eql t (.slice a l c) (.slice none 0 0)).run Tryz.prog w = .ok (.bool b) w := by
  subst hb
  simp only [binOp]
  simp [show Op.equal t (.slice a l c) (.slice none 0 0) = Op.equalIn (9999 + 1) t (.slice a l c) (.slice none 0 0) from rfl, eqIn_nil 9999 t e a l c w h]
def Cloned (e s n : Nat) (xs : List Value) (w : World) (en : Ending) (w' : World) : Prop := ∃ ao c, en = .returned (.slice ao n c) ∧ w'.ownsRow w.heap.size e s (.slice ao n c) n xs ∧ Below w.heap.size w w'
set_option maxHeartbeats 1000000 in
set_option maxRecDepth 20000 in
theorem cloneF_any {w : World} {v : Value} {n : Nat} {xs : List Value} {q : Bool} (hown : OwnQ w q 57 2 v n xs) (h1 : ∀ u ∈ xs, u.oneCell' = true) (hn : n ≤ 1000000000000) : Calls Tryz.prog 86 #[v] w (Cloned 57 2 n xs w) := by
  rcases hown.2 with ⟨rfl, rfl⟩ | ⟨g, cap, cur, z, rfl, rest⟩
  · have HC : Hid (Cloned 57 2 0 xs w (.returned (.slice none 0 0)) w) := ⟨none, 0, rfl, ⟨hown.1, .inl ⟨rfl, rfl⟩⟩, Below.refl _ _⟩
    have en := fun w => eq_nil 24 57 none 0 0 w true rfl Tryz.underlying24
    clear hown h1 hn
    go_enter Tryz.func86, Tryz.ntmps86
    go_wp2_with fail
    go_ret
    exact HC.out
  · obtain ⟨ao', c', W', hrun, ho, hb⟩ := clone_run Tryz.underlying24 info58 rfl (by decide) (by decide) hown h1 hn
    have HC : Hid (Cloned 57 2 n xs w (.returned (.slice ao' n c')) W') := ⟨ao', c', rfl, ho, hb⟩
    have en := fun w => eq_nil 24 57 (some ⟨g, 0, none⟩) n cap w false rfl Tryz.underlying24
    clear hown h1 hn rest ho hb
    go_enter Tryz.func86, Tryz.ntmps86
    go_wp2_with (at_builtin; refine list_append_eq rfl _ _ 24 24 rfl _ _ rfl rfl hrun ?_)
    go_ret
    exact HC.out
theorem fl_one (fs : List (Int × Int)) : ∀ u ∈ fs.flatMap gcells, u.oneCell' = true := fun u hu => by
  rw [List.mem_flatMap] at hu
  obtain ⟨x, _, hu⟩ := hu
  simp only [gcells, G4.gcells, List.mem_cons, List.not_mem_nil, or_false] at hu
  rcases hu with rfl | rfl <;> rfl
set_option maxHeartbeats 1000000 in
set_option maxRecDepth 20000 in
theorem faults_any {Z : Nat → Prop} {S : Nat → Prop} {x : Nat} {m : Mc} {w : World} (h : Mach Z S x m w) (hn : m.tot ≤ 1000000000) : Calls Tryz.prog 54 #[mp x] w (Cloned 57 2 m.fs.length (m.fs.flatMap gcells) w) := by
  obtain ⟨v, T, h⟩ := h
  have hxw := h.lt
  have c20 := h.cells 20 v.f rfl
  have k := cloneF_any (h.bag.own 8 _ rfl) (fl_one _) (by show m.fs.length ≤ _; unfold Mc.tot at hn; omega)
  obtain ⟨ao, ca, e5, _, _⟩ := own_form (h.bag.own 8 _ rfl)
  simp only at e5 k
  rw [e5] at c20 k
  obtain ⟨n, hnn⟩ : ∃ n, m.fs.length = n := ⟨_, rfl⟩
  rw [hnn] at c20 k ⊢
  obtain ⟨xs, hxs⟩ : ∃ xs, m.fs.flatMap gcells = xs := ⟨_, rfl⟩
  rw [hxs] at k ⊢
  clear h e5 hxs
  go_enter Tryz.func54, Tryz.ntmps54
  go_wp2_with fail
  refine k.mono ?_
  rintro e w1 ⟨ao', c', rfl, ho, hb⟩
  have HC : Hid (Cloned 57 2 n xs w (.returned (.slice ao' n c')) w1) := ⟨ao', c', rfl, ho, hb⟩
  clear ho hb k
  go_wp2_with fail
  go_ret
  exact HC.out
end Go.Proofs.YtdiealijjhfhjaaGreatDoor
