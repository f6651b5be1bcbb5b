/- The closure that characters are handed on to: one character, with its fault. -/
import Derived.Test.YtkphiopeclgffaaRel
namespace Go.Proofs.Ytkphiopeclgffaa
open Go.RowKit

/-- A variable that a closure has: one cell of its own. -/
def BoxIs (b : Nat) (p : Nat) (ty : TypeId) (w : World) : Prop := w.heap[b]? = some (.cells #[.pointer (some ⟨p, 0, none⟩)] ty (0, 0))
theorem box_cell {b p : Nat} {ty : TypeId} {w : World} (h : BoxIs b p ty w) : b < w.heap.size ∧ w.cell? ⟨b, 0, none⟩ = some (.pointer (some ⟨p, 0, none⟩)) := by
  unfold BoxIs at h
  exact ⟨(Array.getElem?_eq_some_iff.1 h).1, by simp [World.cell?, h]⟩
theorem box_keep {S : Nat → Prop} {b p : Nat} {ty : TypeId} {w w' : World} (h : BoxIs b p ty w) (hS : S b) (k : Keep S w w') : BoxIs b p ty w' := (k.block b hS (box_cell h).1).trans h
theorem box_below {b p : Nat} {ty : TypeId} {w w' : World} (h : BoxIs b p ty w) (k : Below w.heap.size w w') : BoxIs b p ty w' := (k.block b (box_cell h).1).trans h
def ChIs (b : Nat) (c : Ch) (w : World) : Prop := w.heap[b]? = some (.cells #[.int .i64 c.r, .int .i64 c.a, .int .i64 c.z] 37 (0, 0))
theorem ch_cell {b : Nat} {c : Ch} {w : World} (h : ChIs b c w) : b < w.heap.size ∧ w.cell? ⟨b, 0, none⟩ = some (.int .i64 c.r) ∧ w.cell? ⟨b, 1, none⟩ = some (.int .i64 c.a) ∧ w.cell? ⟨b, 2, none⟩ = some (.int .i64 c.z) ∧ w.frozen? ⟨b, 0, none⟩ = false := by
  unfold ChIs at h
  exact ⟨(Array.getElem?_eq_some_iff.1 h).1, by simp [World.cell?, h], by simp [World.cell?, h], by simp [World.cell?, h], by simp [World.frozen?, h]⟩
theorem ch_keep {S : Nat → Prop} {b : Nat} {c : Ch} {w w' : World} (h : ChIs b c w) (hS : S b) (k : Keep S w w') : ChIs b c w' := (k.block b hS (ch_cell h).1).trans h

theorem lies_sub {S U : Nat → Prop} {t : Nat} {cs : List Ch} {fs : List (Int × Int)} {w : World} (h : Lies S t cs fs w) (k : ∀ i, U i → S i) : Lies U t cs fs w :=
  lies_same h (fun i hi => h.low i (k i hi)) (fun _ h _ hu => h (k _ hu)) fun _ _ _ _ _ _ hg => hg

/-- What stands within the closure: S and the character's own block are kept. -/
structure MidK (S : Nat → Prop) (x d t bx bt cb : Nat) (wt c : Ch) (cs : List Ch) (fs : List (Int × Int)) (w wc : World) : Prop where
  str : StrIs x d wt wc
  lies : Lies (fun k => S k ∨ k = cb) t cs fs wc
  box1 : BoxIs bx x 31 wc
  box2 : BoxIs bt t 43 wc
  chr : ChIs cb c wc
  keep : Keep S w wc

theorem MidK.under {S : Nat → Prop} {x d t bx bt cb : Nat} {wt c : Ch} {cs : List Ch} {fs : List (Int × Int)} {w wc wn : World} (h : MidK S x d t bx bt cb wt c cs fs w wc) (b : Below wc.heap.size wc wn) : MidK S x d t bx bt cb wt c cs fs w wn :=
  ⟨str_below h.str b, lies_below h.lies b, box_below h.box1 b, box_below h.box2 b, (b.block cb (ch_cell h.chr).1).trans h.chr, h.keep.trans (Keep.ofOld b)⟩
theorem MidK.next {S : Nat → Prop} {x d t bx bt cb : Nat} {wt wt' c : Ch} {cs cs' : List Ch} {fs fs' : List (Int × Int)} {w wc wn : World} (h : MidK S x d t bx bt cb wt c cs fs w wc) (h1 : S bx) (h2 : S bt) (s : StrIs x d wt' wn) (l : Lies (fun k => S k ∨ k = cb) t cs' fs' wn) (k : Keep (fun k => S k ∨ k = cb) wc wn) : MidK S x d t bx bt cb wt' c cs' fs' w wn :=
  ⟨s, l, box_keep h.box1 (.inl h1) k, box_keep h.box2 (.inl h2) k, ch_keep h.chr (.inr rfl) k, h.keep.trans (k.sub fun _ h => .inl h)⟩

/-- The frame of the closure: what it begins with. -/
theorem mid_start {S : Nat → Prop} {x d t bx bt : Nat} {wt c : Ch} {cs : List Ch} {fs : List (Int × Int)} {w : World} (hx : StrIs x d wt w) (hl : Lies S t cs fs w) (h1 : BoxIs bx x 31 w) (h2 : BoxIs bt t 43 w) :
    MidK S x d t bx bt w.heap.size wt c cs fs w (w.alloc (.cells #[.int .i64 c.r, .int .i64 c.a, .int .i64 c.z] 37)) := by
  have hb : Below w.heap.size w (w.alloc (.cells #[.int .i64 c.r, .int .i64 c.a, .int .i64 c.z] 37)) := (Below.refl _ _).alloc (Nat.le_refl _) _
  refine ⟨str_below hx hb, ?_, box_below h1 hb, box_below h2 hb, heap_alloc_new _ _, Keep.ofOld hb⟩
  refine lies_same hl (fun k hk => ?_) (fun k h hlt hu => ?_) fun g _ _ _ _ _ hg => (hb.block g (Array.getElem?_eq_some_iff.1 hg).1).trans hg
  · rcases hk with hk | rfl
    · have := hl.low k hk; simp; omega
    · simp
  · rcases hu with hu | rfl
    · exact h hu
    · omega

theorem fault_in {S : Nat → Prop} {x d t bx bt cb : Nat} {wt c : Ch} {cs : List Ch} {fs : List (Int × Int)} {w W : World} (h : MidK S x d t bx bt cb wt c cs fs w W) (h1 : S bx) (h2 : S bt) (code : Int) (hm : fs.length ≤ 1000000) :
    ∃ ao n c1 ao2 m c2 ao' c' W', t < W.heap.size ∧ W.cell? ⟨t, 0, none⟩ = some (.slice ao n c1) ∧ W.cell? ⟨t, 1, none⟩ = some (.slice ao2 m c2) ∧
      (Builtin.append_ #[24, 24] 24 #[.slice ao2 m c2, .slice (some ⟨W.heap.size, 0, none⟩) 1 1]).run Try.prog (W.alloc (.cells #[.int .i64 code, .int .i64 c.a] 39)).drew = .ok (.slice ao' (m + 1) c') W' ∧
      W'.cell? ⟨t, 1, none⟩ = some (.slice ao2 m c2) ∧ W'.cell? ⟨bt, 0, none⟩ = some (.pointer (some ⟨t, 0, none⟩)) ∧ W'.frozen? ⟨t, 1, none⟩ = false ∧ MidK S x d t bx bt cb wt c cs (fs ++ [(code, c.a)]) w (W'.setCell ⟨t, 1, none⟩ (.slice ao' (m + 1) c')) := by
  obtain ⟨ao, c1, ao2, c2, ht, t0, t1, hb, _, _, _, _⟩ := lies_cells h.lies
  obtain ⟨ao', c', W', hrun, x0, xf, hT, hK, hO⟩ := put_fault (r := code) (p := c.a) h.lies hm rfl rfl hb
  have hN := h.next h1 h2 (str_off h.str hO) hT hK
  have hbt : W'.cell? ⟨bt, 0, none⟩ = some (.pointer (some ⟨t, 0, none⟩)) := by
    rw [← (box_cell hN.box2).2]
    simp only [World.cell?]
    rw [Below.heap_setCell _ _ _ _ (fun e => by simp only at e; exact h.lies.ht (.inl (e ▸ h2)))]
  exact ⟨ao, _, c1, ao2, _, c2, ao', c', W', ht, t0, t1, hrun, x0, hbt, xf, hN⟩

theorem mid_to {S : Nat → Prop} {x d t bx bt cb : Nat} {wt c : Ch} {cs : List Ch} {fs : List (Int × Int)} {w W : World} (h : MidK S x d t bx bt cb wt c cs fs w W) (h1 : S bx) (h2 : S bt) (hS : ¬ (S x ∨ x = cb)) (q : Int) :
    ∀ W', W' = W.setCell ⟨x, 3, none⟩ (.int .i64 q) → MidK S x d t bx bt cb ⟨wt.r, wt.a, q⟩ c cs fs w W' := by
  rintro W' rfl
  have hx := h.str
  unfold StrIs at hx
  refine h.next h1 h2 (by unfold StrIs; simp [World.setCell, Array.getElem?_modify, hx]) ?_ ((Keep.refl _ W).setCell (p := ⟨x, 3, none⟩) hS _)
  refine lies_same h.lies (fun k hk => by have := h.lies.low k hk; simp [World.setCell]; omega) (fun _ h _ => h) fun g cur e m he _ hg => ?_
  have hne : g ≠ x := fun y => by
    rw [y, hx] at hg; simp at hg
    rcases he with rfl | rfl | rfl <;> simp at hg
  rw [Below.heap_setCell _ _ _ _ hne]; exact hg
theorem mid_set {S : Nat → Prop} {x d t bx bt cb : Nat} {wt c c2 : Ch} {cs : List Ch} {fs : List (Int × Int)} {w W : World} (h : MidK S x d t bx bt cb wt c cs fs w W) (h1 : S bx) (h2 : S bt) (hS : ¬ (S x ∨ x = cb)) :
    ∀ W', W' = ((W.setCell ⟨x, 1, none⟩ (.int .i64 c2.r)).setCell ⟨x, 2, none⟩ (.int .i64 c2.a)).setCell ⟨x, 3, none⟩ (.int .i64 c2.z) → MidK S x d t bx bt cb c2 c cs fs w W' := by
  intro W' hW
  obtain ⟨m1, m2, m3⟩ := str_set h.str hS h.lies W' hW
  exact h.next h1 h2 m1 m2 m3
/-- The character's own number is another now. -/
theorem mid_chr {S : Nat → Prop} {x d t bx bt cb : Nat} {wt c : Ch} {cs : List Ch} {fs : List (Int × Int)} {w W : World} (h : MidK S x d t bx bt cb wt c cs fs w W) (hcb : w.heap.size ≤ cb) (hlow : ∀ k, S k → k < w.heap.size) (r : Int) :
    ∀ W', W' = W.setCell ⟨cb, 0, none⟩ (.int .i64 r) → StrIs x d wt W' ∧ Lies S t cs fs W' ∧ ChIs cb ⟨r, c.a, c.z⟩ W' ∧ BoxIs bt t 43 W' ∧ Keep S w W' := by
  rintro W' rfl
  have hc := h.chr
  unfold ChIs at hc
  have hst : ∀ (g : Nat) (cur : Array Value) (e : TypeId) (m : Nat × Nat), e ≠ 37 → W.heap[g]? = some (.cells cur e m) → (W.setCell ⟨cb, 0, none⟩ (.int .i64 r)).heap[g]? = some (.cells cur e m) := fun g cur e m he hg => by
    rw [Below.heap_setCell _ _ _ _ (fun y => by simp only at y; rw [y, hc] at hg; simp at hg; exact he hg.2.1.symm)]; exact hg
  refine ⟨hst x _ 50 _ (by decide) h.str, ?_, by unfold ChIs; simp [World.setCell, Array.getElem?_modify, hc], hst bt _ 43 _ (by decide) h.box2, h.keep.setCell (p := ⟨cb, 0, none⟩) (fun hS => by have := hlow cb hS; omega) _⟩
  refine lies_same h.lies (fun k hk => by have := hlow k hk; have := h.keep.size; simp [World.setCell]; omega) (fun k hk _ hu => hk (.inl hu)) fun g cur e m he hne hg => ?_
  rw [Below.heap_setCell _ _ _ _ (fun y => hne (.inr y))]; exact hg

set_option maxHeartbeats 4000000 in
theorem hand_join {S : Nat → Prop} {x d t bx bt : Nat} {wt : Ch} {p q : Int} {cs : List Ch} {fs : List (Int × Int)} {w : World} (code : Int) (hx : StrIs x d wt w) (hS : ¬ S x) (hl : Lies S t cs fs w) (h1 : BoxIs bx x 31 w) (h2 : BoxIs bt t 43 w) (s1 : S bx) (s2 : S bt) (hn : cs.length ≤ 900000) (_hm : fs.length ≤ 900000) (h0 : code = 0) (hw : wt.a < wt.z) (hq : wt.a < q) :
    Calls Try.prog 30 #[.agg #[.int .i64 10, .int .i64 p, .int .i64 q], .int .i64 code, .pointer (some ⟨bt, 0, none⟩), .pointer (some ⟨bx, 0, none⟩)] w fun e w' => e = .returned (.tuple #[]) ∧ StrIs x d Ch0 w' ∧ Lies S t (cs ++ [⟨wt.r, wt.a, q⟩]) (fs ++ if code = 0 then [] else [(code, p)]) w' ∧ Keep S w w' := by
  have HM : Hid (MidK S x d t bx bt w.heap.size wt ⟨10, p, q⟩ cs fs w (w.alloc (.cells #[.int .i64 10, .int .i64 p, .int .i64 q] 37))) := mid_start hx hl h1 h2
  have HS : Hid (¬ (S x ∨ x = w.heap.size)) := fun h => by
    rcases h with h | h
    · exact hS h
    · have := (str_cells hx).1; omega
  have HLOW : Hid (∀ k, S k → k < w.heap.size) := hl.low
  obtain ⟨G, hG⟩ : ∃ G, fs ++ (if code = 0 then [] else [(code, p)]) = G := ⟨_, rfl⟩
  rw [hG]
  have HG : Hid (fs ++ (if code = 0 then [] else [(code, p)]) = G) := hG
  have hrel : (rel wt).length ≤ 1 := rel_len wt
  clear hx hl h1 h2 hS hG
  subst h0
  have HM0 : Hid (MidK S x d t bx bt w.heap.size wt ⟨10, p, q⟩ cs G w (w.alloc (.cells #[.int .i64 10, .int .i64 p, .int .i64 q] 37))) := by
    have e : fs = G := by have := HG.out; simpa using this
    rw [← e]; exact HM.out
  obtain ⟨hxw, y0, y1, y2, y3, _⟩ := str_cells HM0.out.str
  obtain ⟨hbxw, bx0⟩ := box_cell HM0.out.box1
  obtain ⟨hbtw, bt0⟩ := box_cell HM0.out.box2
  obtain ⟨hcw, ch0, ch1, ch2, hcf⟩ := ch_cell HM0.out.chr
  clear HM
  go_enter Try.func30, Try.ntmps30
  go_wp2_with fail
  generalize w.alloc (.cells #[.int .i64 10, .int .i64 p, .int .i64 q] 37) = wc at *
  refine (waits_as true HM0.out.str (by simpa using hw)).mono ?_
  rintro e w1 ⟨rfl, b1⟩
  have HM1 : Hid (MidK S x d t bx bt w.heap.size wt ⟨10, p, q⟩ cs G w w1) := HM0.out.under b1
  clear b1 HM0 hxw y0 y1 y2 y3 hbxw bx0 hbtw bt0 hcw ch0 ch1 ch2 hcf
  obtain ⟨hxw, y0, y1, y2, y3, hyf⟩ := str_cells HM1.out.str
  have f3 := hyf 3
  obtain ⟨hbxw, bx0⟩ := box_cell HM1.out.box1
  obtain ⟨hbtw, bt0⟩ := box_cell HM1.out.box2
  obtain ⟨hcw, ch0, ch1, ch2, hcf⟩ := ch_cell HM1.out.chr
  clear hyf
  go_wp2_with fail
  have hM2 := mid_to HM1.out s1 s2 HS.out q _ rfl
  refine (release_any hM2.str HS.out hM2.lies (by omega)).mono ?_
  rintro e w2 ⟨rfl, r1, r2, r3⟩
  have HM3 := hM2.next s1 s2 r1 r2 r3
  have R1 : Hid (StrIs x d (off ⟨wt.r, wt.a, q⟩) w2) := r1
  have R2 : Hid (Lies S t (cs ++ rel ⟨wt.r, wt.a, q⟩) G w2) := lies_sub r2 (fun _ h => .inl h)
  have R3 : Hid (Keep S w w2) := HM3.keep
  clear hM2 r1 r2 r3 HM3
  go_wp2_with fail
  refine bodyPost_ret (results_none rfl _ _ _) rfl ?_
  have e1 : off ⟨wt.r, wt.a, q⟩ = Ch0 := by unfold off; rw [if_pos (by exact hq)]
  have e2 : rel ⟨wt.r, wt.a, q⟩ = [⟨wt.r, wt.a, q⟩] := by unfold rel; rw [if_pos (by exact hq)]
  have R1' := R1.out
  have R2' := R2.out
  rw [e1] at R1'
  rw [e2] at R2'
  exact ⟨rfl, R1', R2', R3.out⟩

set_option maxHeartbeats 4000000 in
theorem hand_lone {S : Nat → Prop} {x d t bx bt : Nat} {wt : Ch} {p q : Int} {cs : List Ch} {fs : List (Int × Int)} {w : World} (code : Int) (hx : StrIs x d wt w) (hS : ¬ S x) (hl : Lies S t cs fs w) (h1 : BoxIs bx x 31 w) (h2 : BoxIs bt t 43 w) (s1 : S bx) (s2 : S bt) (hn : cs.length ≤ 900000) (_hm : fs.length ≤ 900000) (h0 : code = 0) (hw : ¬ wt.a < wt.z) :
    Calls Try.prog 30 #[.agg #[.int .i64 10, .int .i64 p, .int .i64 q], .int .i64 code, .pointer (some ⟨bt, 0, none⟩), .pointer (some ⟨bx, 0, none⟩)] w fun e w' => e = .returned (.tuple #[]) ∧ StrIs x d (off wt) w' ∧ Lies S t (cs ++ (rel wt ++ [⟨10, p, q⟩])) (fs ++ if code = 0 then [] else [(code, p)]) w' ∧ Keep S w w' := by
  have HM : Hid (MidK S x d t bx bt w.heap.size wt ⟨10, p, q⟩ cs fs w (w.alloc (.cells #[.int .i64 10, .int .i64 p, .int .i64 q] 37))) := mid_start hx hl h1 h2
  have HS : Hid (¬ (S x ∨ x = w.heap.size)) := fun h => by
    rcases h with h | h
    · exact hS h
    · have := (str_cells hx).1; omega
  have HLOW : Hid (∀ k, S k → k < w.heap.size) := hl.low
  obtain ⟨G, hG⟩ : ∃ G, fs ++ (if code = 0 then [] else [(code, p)]) = G := ⟨_, rfl⟩
  rw [hG]
  have HG : Hid (fs ++ (if code = 0 then [] else [(code, p)]) = G) := hG
  have hrel : (rel wt).length ≤ 1 := rel_len wt
  clear hx hl h1 h2 hS hG
  subst h0
  have HM0 : Hid (MidK S x d t bx bt w.heap.size wt ⟨10, p, q⟩ cs G w (w.alloc (.cells #[.int .i64 10, .int .i64 p, .int .i64 q] 37))) := by
    have e : fs = G := by have := HG.out; simpa using this
    rw [← e]; exact HM.out
  obtain ⟨hxw, y0, y1, y2, y3, _⟩ := str_cells HM0.out.str
  obtain ⟨hbxw, bx0⟩ := box_cell HM0.out.box1
  obtain ⟨hbtw, bt0⟩ := box_cell HM0.out.box2
  obtain ⟨hcw, ch0, ch1, ch2, hcf⟩ := ch_cell HM0.out.chr
  clear HM
  go_enter Try.func30, Try.ntmps30
  go_wp2_with fail
  generalize w.alloc (.cells #[.int .i64 10, .int .i64 p, .int .i64 q] 37) = wc at *
  refine (waits_as false HM0.out.str (by simpa using hw)).mono ?_
  rintro e w1 ⟨rfl, b1⟩
  have HM1 : Hid (MidK S x d t bx bt w.heap.size wt ⟨10, p, q⟩ cs G w w1) := HM0.out.under b1
  clear b1 HM0 hxw y0 y1 y2 y3 hbxw bx0 hbtw bt0 hcw ch0 ch1 ch2 hcf
  obtain ⟨hxw, y0, y1, y2, y3, hyf⟩ := str_cells HM1.out.str
  have f3 := hyf 3
  obtain ⟨hbxw, bx0⟩ := box_cell HM1.out.box1
  obtain ⟨hbtw, bt0⟩ := box_cell HM1.out.box2
  obtain ⟨hcw, ch0, ch1, ch2, hcf⟩ := ch_cell HM1.out.chr
  clear hyf
  go_wp2_with fail
  refine (release_any HM1.out.str HS.out HM1.out.lies (by omega)).mono ?_
  rintro e w2 ⟨rfl, r1, r2, r3⟩
  have HM2 : Hid (MidK S x d t bx bt w.heap.size (off wt) ⟨10, p, q⟩ (cs ++ rel wt) G w w2) := HM1.out.next s1 s2 r1 r2 r3
  clear r1 r2 r3 HM1 hxw y0 y1 y2 y3 hbxw bx0 hbtw bt0 hcw ch0 ch1 ch2 hcf
  obtain ⟨hxw, y0, y1, y2, y3, hyf⟩ := str_cells HM2.out.str
  have f1 := hyf 1
  have f2 := hyf 2
  have f3 := hyf 3
  obtain ⟨hbxw, bx0⟩ := box_cell HM2.out.box1
  obtain ⟨hbtw, bt0⟩ := box_cell HM2.out.box2
  obtain ⟨hcw, ch0, ch1, ch2, hcf⟩ := ch_cell HM2.out.chr
  clear hyf
  go_wp2_with fail
  refine (tellc_any ⟨10, p, q⟩ (lies_sub HM2.out.lies (U := S) (fun _ h => .inl h)) (by rw [List.length_append]; omega)).mono ?_
  rintro e w3 ⟨rfl, l3, k3, o3⟩
  have L3 : Hid (Lies S t (cs ++ rel wt ++ [⟨10, p, q⟩]) G w3) := l3
  have K3 : Hid (Keep S w w3) := HM2.out.keep.trans k3
  have X3 : Hid (StrIs x d (off wt) w3) := str_off HM2.out.str o3
  clear l3 k3 o3
  go_wp2_with fail
  refine bodyPost_end (results_none rfl _ _ _) rfl ?_
  have L3' := L3.out
  rw [List.append_assoc] at L3'
  exact ⟨rfl, X3.out, L3', K3.out⟩

set_option maxHeartbeats 4000000 in
theorem hand_cr {S : Nat → Prop} {x d t bx bt : Nat} {wt : Ch} {p q : Int} {cs : List Ch} {fs : List (Int × Int)} {w : World} (code : Int) (hx : StrIs x d wt w) (hS : ¬ S x) (hl : Lies S t cs fs w) (h1 : BoxIs bx x 31 w) (h2 : BoxIs bt t 43 w) (s1 : S bx) (s2 : S bt) (hn : cs.length ≤ 900000) (_hm : fs.length ≤ 900000) (h0 : code = 0)  :
    Calls Try.prog 30 #[.agg #[.int .i64 13, .int .i64 p, .int .i64 q], .int .i64 code, .pointer (some ⟨bt, 0, none⟩), .pointer (some ⟨bx, 0, none⟩)] w fun e w' => e = .returned (.tuple #[]) ∧ StrIs x d ⟨10, p, q⟩ w' ∧ Lies S t (cs ++ rel wt) (fs ++ if code = 0 then [] else [(code, p)]) w' ∧ Keep S w w' := by
  have HM : Hid (MidK S x d t bx bt w.heap.size wt ⟨13, p, q⟩ cs fs w (w.alloc (.cells #[.int .i64 13, .int .i64 p, .int .i64 q] 37))) := mid_start hx hl h1 h2
  have HS : Hid (¬ (S x ∨ x = w.heap.size)) := fun h => by
    rcases h with h | h
    · exact hS h
    · have := (str_cells hx).1; omega
  have HLOW : Hid (∀ k, S k → k < w.heap.size) := hl.low
  obtain ⟨G, hG⟩ : ∃ G, fs ++ (if code = 0 then [] else [(code, p)]) = G := ⟨_, rfl⟩
  rw [hG]
  have HG : Hid (fs ++ (if code = 0 then [] else [(code, p)]) = G) := hG
  have hrel : (rel wt).length ≤ 1 := rel_len wt
  clear hx hl h1 h2 hS hG
  subst h0
  have HM0 : Hid (MidK S x d t bx bt w.heap.size wt ⟨13, p, q⟩ cs G w (w.alloc (.cells #[.int .i64 13, .int .i64 p, .int .i64 q] 37))) := by
    have e : fs = G := by have := HG.out; simpa using this
    rw [← e]; exact HM.out
  obtain ⟨hxw, y0, y1, y2, y3, _⟩ := str_cells HM0.out.str
  obtain ⟨hbxw, bx0⟩ := box_cell HM0.out.box1
  obtain ⟨hbtw, bt0⟩ := box_cell HM0.out.box2
  obtain ⟨hcw, ch0, ch1, ch2, hcf⟩ := ch_cell HM0.out.chr
  clear HM
  go_enter Try.func30, Try.ntmps30
  go_wp2_with fail
  generalize w.alloc (.cells #[.int .i64 13, .int .i64 p, .int .i64 q] 37) = wc at *
  refine (release_any HM0.out.str HS.out HM0.out.lies (by omega)).mono ?_
  rintro e w2 ⟨rfl, r1, r2, r3⟩
  have HM2 : Hid (MidK S x d t bx bt w.heap.size (off wt) ⟨13, p, q⟩ (cs ++ rel wt) G w w2) := HM0.out.next s1 s2 r1 r2 r3
  clear r1 r2 r3 HM0 hxw y0 y1 y2 y3 hbxw bx0 hbtw bt0 hcw ch0 ch1 ch2 hcf
  obtain ⟨hxw, y0, y1, y2, y3, hyf⟩ := str_cells HM2.out.str
  have f1 := hyf 1
  have f2 := hyf 2
  have f3 := hyf 3
  obtain ⟨hbxw, bx0⟩ := box_cell HM2.out.box1
  obtain ⟨hbtw, bt0⟩ := box_cell HM2.out.box2
  obtain ⟨hcw, ch0, ch1, ch2, hcf⟩ := ch_cell HM2.out.chr
  clear hyf
  go_wp2_with fail
  refine bodyPost_ret (results_none rfl _ _ _) rfl ?_
  have hM3 := mid_set (c2 := ⟨10, p, q⟩) HM2.out s1 s2 HS.out _ rfl
  exact ⟨rfl, hM3.str, lies_sub hM3.lies (fun _ h => .inl h), hM3.keep⟩

end Go.Proofs.Ytkphiopeclgffaa
