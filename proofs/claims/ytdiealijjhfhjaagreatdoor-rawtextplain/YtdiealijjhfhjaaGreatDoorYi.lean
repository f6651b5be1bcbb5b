/- The closure at a byte 0. -/
import Derived.Test.YtdiealijjhfhjaaGreatDoorYh
import Derived.Test.YtdiealijjhfhjaaGreatDoorYg
namespace Go.Proofs.YtdiealijjhfhjaaGreatDoor.G4
open Go.RowKit
set_option maxRecDepth 20000 in
set_option maxHeartbeats 4000000 in
theorem hand_null {S : Nat → Prop} {x d t bx bt : Nat} {wt : Ch} {p q : Int} {cs : List Ch} {fs : List (Int × Int)} {w : World} (code : Int) (hx : StrIs x d wt w) (hS : ¬ S x) (hl : Lies S t cs fs w) (h1 : BoxIs bx x 49 w) (h2 : BoxIs bt t 100 w) (s1 : S bx) (s2 : S bt) (hn : cs.length ≤ 900000) (hm : fs.length ≤ 900000) (h0 : code ≠ 0)  :
    Calls Tryz.prog 116 #[.agg #[.int .i64 0, .int .i64 p, .int .i64 q], .int .i64 code, .pointer (some ⟨bt, 0, none⟩), .pointer (some ⟨bx, 0, none⟩)] w fun e w' => e = .returned (.tuple #[]) ∧ StrIs x d (off wt) w' ∧ Lies S t (cs ++ (rel wt ++ [⟨65533, p, q⟩])) (fs ++ if code = 0 then [] else [(code, p)]) w' ∧ Keep S w w' := by
  have HM : Hid (MidK S x d t bx bt w.heap.size wt ⟨0, p, q⟩ cs fs w (w.alloc (.cells #[.int .i64 0, .int .i64 p, .int .i64 q] 44))) := mid_start hx hl h1 h2
  have HS : Hid (¬ (S x ∨ x = w.heap.size)) := fun h => by
    rcases h with h | h
    · exact hS h
    · have := (str_cells hx).1; omega
  have HLOW : Hid (∀ k, S k → k < w.heap.size) := hl.low
  obtain ⟨G, hG⟩ : ∃ G, fs ++ (if code = 0 then [] else [(code, p)]) = G := ⟨_, rfl⟩
  rw [hG]
  have HG : Hid (fs ++ (if code = 0 then [] else [(code, p)]) = G) := hG
  have hrel : (rel wt).length ≤ 1 := rel_len wt
  clear hx hl h1 h2 hS hG
  have hcb : (code != 0) = true := by simpa using h0
  obtain ⟨hxw, y0, y1, y2, y3, _⟩ := str_cells HM.out.str
  obtain ⟨hbxw, bx0⟩ := box_cell HM.out.box1
  obtain ⟨hbtw, bt0⟩ := box_cell HM.out.box2
  obtain ⟨hcw, ch0, ch1, ch2, hcf⟩ := ch_cell HM.out.chr
  obtain ⟨ao, n, c1, ao2, m, c2, ao', c', W', htw, t0, t1, hrun, z0, zb, zf, hM1⟩ := fault_in HM.out s1 s2 code (by omega)
  have HM1 : Hid (MidK S x d t bx bt w.heap.size wt ⟨0, p, q⟩ cs G w (W'.setCell ⟨t, 1, none⟩ (.slice ao' (m + 1) c'))) := by
    have e : fs ++ [(code, p)] = G := by have := HG.out; rw [if_neg h0] at this; exact this
    rw [← e]; exact hM1
  clear hM1 HM
  go_enter Tryz.func116, Tryz.ntmps116
  go_wp2_with fail
  generalize w.alloc (.cells #[.int .i64 0, .int .i64 p, .int .i64 q] 44) = W0 at *
  go_cut [] (fun wc => MidK S x d t bx bt w.heap.size wt ⟨0, p, q⟩ cs G w wc)
  case first =>
    go_region_law (refine step_append_eq rfl _ _ 24 24 rfl _ _ (by simp [Act.eval]) (by simp [Act.eval]) hrun ?_)
    all_goals
      go_wp2_with fail
      go_meet
      case rel => exact HM1.out
  case rest =>
    clear hrun z0 zb zf t0 t1 HM1 hxw y0 y1 y2 y3 hbxw bx0 hbtw bt0 hcw ch0 ch1 ch2 hcf htw
    have HM0 : Hid (MidK S x d t bx bt w.heap.size wt ⟨0, p, q⟩ cs G w wc) := hcut
    clear hcut
    obtain ⟨hxw, y0, y1, y2, y3, _⟩ := str_cells HM0.out.str
    obtain ⟨hbxw, bx0⟩ := box_cell HM0.out.box1
    obtain ⟨hbtw, bt0⟩ := box_cell HM0.out.box2
    obtain ⟨hcw, ch0, ch1, ch2, hcf⟩ := ch_cell HM0.out.chr
    go_wp2_with fail
    refine (release_any HM0.out.str HS.out HM0.out.lies (by omega)).mono ?_
    rintro e w2 ⟨rfl, r1, r2, r3⟩
    have HM2 : Hid (MidK S x d t bx bt w.heap.size (off wt) ⟨0, p, q⟩ (cs ++ rel wt) G w w2) := HM0.out.next s1 s2 r1 r2 r3
    clear r1 r2 r3 HM0 hxw y0 y1 y2 y3 hbxw bx0 hbtw bt0 hcw ch0 ch1 ch2 hcf
    obtain ⟨hxw, y0, y1, y2, y3, hyf⟩ := str_cells HM2.out.str
    have f1 := hyf 1
    have f2 := hyf 2
    have f3 := hyf 3
    obtain ⟨hbxw, bx0⟩ := box_cell HM2.out.box1
    obtain ⟨hbtw, bt0⟩ := box_cell HM2.out.box2
    obtain ⟨hcw, ch0, ch1, ch2, hcf⟩ := ch_cell HM2.out.chr
    clear hyf
    have hbtl : bt < w.heap.size := HLOW.out bt s2
    have hbtn : bt ≠ w.heap.size := Nat.ne_of_lt hbtl
    go_wp2_with fail
    obtain ⟨m1, m2, m3, m4, m5⟩ := mid_chr HM2.out (Nat.le_refl _) HLOW.out 65533 _ rfl
    refine (tellc_any ⟨65533, p, q⟩ m2 (by rw [List.length_append]; omega)).mono ?_
    rintro e w3 ⟨rfl, l3, k3, o3⟩
    have L3 : Hid (Lies S t (cs ++ rel wt ++ [⟨65533, p, q⟩]) G w3) := l3
    have K3 : Hid (Keep S w w3) := m5.trans k3
    have X3 : Hid (StrIs x d (off wt) w3) := str_off m1 o3
    clear l3 k3 o3 m1 m2 m3 m4 m5
    go_wp2_with fail
    refine bodyPost_end (results_none rfl _ _ _) rfl ?_
    have L3' := L3.out
    rw [List.append_assoc] at L3'
    exact ⟨rfl, X3.out, L3', K3.out⟩
end Go.Proofs.YtdiealijjhfhjaaGreatDoor.G4
namespace Go.Proofs.YtdiealijjhfhjaaGreatDoor.G4
open Go.RowKit
set_option maxRecDepth 20000 in
set_option maxHeartbeats 4000000 in
theorem hand_plain {S : Nat → Prop} {x d t bx bt : Nat} {wt : Ch} {r p q : Int} {cs : List Ch} {fs : List (Int × Int)} {w : World} (code : Int) (hx : StrIs x d wt w) (hS : ¬ S x) (hl : Lies S t cs fs w) (h1 : BoxIs bx x 49 w) (h2 : BoxIs bt t 100 w) (s1 : S bx) (s2 : S bt) (hn : cs.length ≤ 900000) (hm : fs.length ≤ 900000) (hr1 : (r == 10) = false) (hr2 : (r == 13) = false) (hr3 : (r == 0) = false) :
    Calls Tryz.prog 116 #[.agg #[.int .i64 r, .int .i64 p, .int .i64 q], .int .i64 code, .pointer (some ⟨bt, 0, none⟩), .pointer (some ⟨bx, 0, none⟩)] w fun e w' => e = .returned (.tuple #[]) ∧ StrIs x d (off wt) w' ∧ Lies S t (cs ++ (rel wt ++ [⟨r, p, q⟩])) (fs ++ if code = 0 then [] else [(code, p)]) w' ∧ Keep S w w' := by
  have HM : Hid (MidK S x d t bx bt w.heap.size wt ⟨r, p, q⟩ cs fs w (w.alloc (.cells #[.int .i64 r, .int .i64 p, .int .i64 q] 44))) := mid_start hx hl h1 h2
  have HS : Hid (¬ (S x ∨ x = w.heap.size)) := fun h => by
    rcases h with h | h
    · exact hS h
    · have := (str_cells hx).1; omega
  have HLOW : Hid (∀ k, S k → k < w.heap.size) := hl.low
  obtain ⟨G, hG⟩ : ∃ G, fs ++ (if code = 0 then [] else [(code, p)]) = G := ⟨_, rfl⟩
  rw [hG]
  have HG : Hid (fs ++ (if code = 0 then [] else [(code, p)]) = G) := hG
  have hrel : (rel wt).length ≤ 1 := rel_len wt
  clear hx hl h1 h2 hS hG
  by_cases h0 : code = 0
  case' pos =>
    subst h0
    have HM0 : Hid (MidK S x d t bx bt w.heap.size wt ⟨r, p, q⟩ cs G w (w.alloc (.cells #[.int .i64 r, .int .i64 p, .int .i64 q] 44))) := by
      have e : fs = G := by have := HG.out; simpa using this
      rw [← e]; exact HM.out
    obtain ⟨hxw, y0, y1, y2, y3, _⟩ := str_cells HM0.out.str
    obtain ⟨hbxw, bx0⟩ := box_cell HM0.out.box1
    obtain ⟨hbtw, bt0⟩ := box_cell HM0.out.box2
    obtain ⟨hcw, ch0, ch1, ch2, hcf⟩ := ch_cell HM0.out.chr
    clear HM
    go_enter Tryz.func116, Tryz.ntmps116
    go_wp2_with fail
    generalize w.alloc (.cells #[.int .i64 r, .int .i64 p, .int .i64 q] 44) = wc at *
  case' neg =>
    have hcb : (code != 0) = true := by simpa using h0
    obtain ⟨hxw, y0, y1, y2, y3, _⟩ := str_cells HM.out.str
    obtain ⟨hbxw, bx0⟩ := box_cell HM.out.box1
    obtain ⟨hbtw, bt0⟩ := box_cell HM.out.box2
    obtain ⟨hcw, ch0, ch1, ch2, hcf⟩ := ch_cell HM.out.chr
    obtain ⟨ao, n, c1, ao2, m, c2, ao', c', W', htw, t0, t1, hrun, z0, zb, zf, hM1⟩ := fault_in HM.out s1 s2 code (by omega)
    have HM1 : Hid (MidK S x d t bx bt w.heap.size wt ⟨r, p, q⟩ cs G w (W'.setCell ⟨t, 1, none⟩ (.slice ao' (m + 1) c'))) := by
      have e : fs ++ [(code, p)] = G := by have := HG.out; rw [if_neg h0] at this; exact this
      rw [← e]; exact hM1
    clear hM1 HM
    go_enter Tryz.func116, Tryz.ntmps116
    go_wp2_with fail
    generalize w.alloc (.cells #[.int .i64 r, .int .i64 p, .int .i64 q] 44) = W0 at *
    go_cut [] (fun wc => MidK S x d t bx bt w.heap.size wt ⟨r, p, q⟩ cs G w wc)
    case first =>
      go_region_law (refine step_append_eq rfl _ _ 24 24 rfl _ _ (by simp [Act.eval]) (by simp [Act.eval]) hrun ?_)
      all_goals
        go_wp2_with fail
        go_meet
        case rel => exact HM1.out
    case' rest =>
      clear hrun z0 zb zf t0 t1 HM1 hxw y0 y1 y2 y3 hbxw bx0 hbtw bt0 hcw ch0 ch1 ch2 hcf htw
      have HM0 : Hid (MidK S x d t bx bt w.heap.size wt ⟨r, p, q⟩ cs G w wc) := hcut
      clear hcut
      obtain ⟨hxw, y0, y1, y2, y3, _⟩ := str_cells HM0.out.str
      obtain ⟨hbxw, bx0⟩ := box_cell HM0.out.box1
      obtain ⟨hbtw, bt0⟩ := box_cell HM0.out.box2
      obtain ⟨hcw, ch0, ch1, ch2, hcf⟩ := ch_cell HM0.out.chr
      go_wp2_with fail
  all_goals
    refine (release_any HM0.out.str HS.out HM0.out.lies (by omega)).mono ?_
    rintro e w2 ⟨rfl, r1, r2, r3⟩
    have HM2 : Hid (MidK S x d t bx bt w.heap.size (off wt) ⟨r, p, q⟩ (cs ++ rel wt) G w w2) := HM0.out.next s1 s2 r1 r2 r3
    clear r1 r2 r3 HM0 hxw y0 y1 y2 y3 hbxw bx0 hbtw bt0 hcw ch0 ch1 ch2 hcf
    obtain ⟨hxw, y0, y1, y2, y3, hyf⟩ := str_cells HM2.out.str
    have f1 := hyf 1
    have f2 := hyf 2
    have f3 := hyf 3
    obtain ⟨hbxw, bx0⟩ := box_cell HM2.out.box1
    obtain ⟨hbtw, bt0⟩ := box_cell HM2.out.box2
    obtain ⟨hcw, ch0, ch1, ch2, hcf⟩ := ch_cell HM2.out.chr
    clear hyf
    go_wp2_with fail
    refine (tellc_any ⟨r, p, q⟩ (lies_sub HM2.out.lies (U := S) (fun _ h => .inl h)) (by rw [List.length_append]; omega)).mono ?_
    rintro e w3 ⟨rfl, l3, k3, o3⟩
    have L3 : Hid (Lies S t (cs ++ rel wt ++ [⟨r, p, q⟩]) G w3) := l3
    have K3 : Hid (Keep S w w3) := HM2.out.keep.trans k3
    have X3 : Hid (StrIs x d (off wt) w3) := str_off HM2.out.str o3
    clear l3 k3 o3
    go_wp2_with fail
    refine bodyPost_end (results_none rfl _ _ _) rfl ?_
    have L3' := L3.out
    rw [List.append_assoc] at L3'
    exact ⟨rfl, X3.out, L3', K3.out⟩
end Go.Proofs.YtdiealijjhfhjaaGreatDoor.G4
namespace Go.Proofs.YtdiealijjhfhjaaGreatDoor.G4
open Go.RowKit
theorem hand_any {S : Nat → Prop} {x d t bx bt : Nat} {wt : Ch} {r p q : Int} {cs : List Ch} {fs : List (Int × Int)} {w : World} (code : Int) (hx : StrIs x d wt w) (hS : ¬ S x) (hl : Lies S t cs fs w) (h1 : BoxIs bx x 49 w) (h2 : BoxIs bt t 100 w) (s1 : S bx) (s2 : S bt) (hn : cs.length ≤ 900000) (hm : fs.length ≤ 900000)
    (hwz : wt.a < wt.z → wt.a < q) (hz : r = 10 ∨ r = 13 → code = 0) (hnz : r = 0 → code ≠ 0) :
    Calls Tryz.prog 116 #[.agg #[.int .i64 r, .int .i64 p, .int .i64 q], .int .i64 code, .pointer (some ⟨bt, 0, none⟩), .pointer (some ⟨bx, 0, none⟩)] w fun e w' => e = .returned (.tuple #[]) ∧ StrIs x d (ts wt ⟨r, p, q⟩).1 w' ∧ Lies S t (cs ++ (ts wt ⟨r, p, q⟩).2) (fs ++ if code = 0 then [] else [(code, p)]) w' ∧ Keep S w w' := by
  by_cases h10 : r = 10
  · subst h10
    by_cases hw : wt.a < wt.z
    · have e : ts wt ⟨10, p, q⟩ = (Ch0, [⟨wt.r, wt.a, q⟩]) := by unfold ts; rw [if_pos ⟨rfl, hw⟩]
      rw [e]
      exact hand_join code hx hS hl h1 h2 s1 s2 hn hm (hz (.inl rfl)) hw (hwz hw)
    · have e : ts wt ⟨10, p, q⟩ = (off wt, rel wt ++ [⟨10, p, q⟩]) := by unfold ts; rw [if_neg (fun x => hw x.2), if_neg (by simp)]; rfl
      rw [e]
      exact hand_lone code hx hS hl h1 h2 s1 s2 hn hm (hz (.inl rfl)) hw
  · by_cases h13 : r = 13
    · subst h13
      have e : ts wt ⟨13, p, q⟩ = (⟨10, p, q⟩, rel wt) := by unfold ts; rw [if_neg (fun x => by cases x.1), if_pos rfl]
      rw [e]
      exact hand_cr code hx hS hl h1 h2 s1 s2 hn hm (hz (.inr rfl))
    · by_cases h0 : r = 0
      · subst h0
        have e : ts wt ⟨0, p, q⟩ = (off wt, rel wt ++ [⟨65533, p, q⟩]) := by unfold ts; rw [if_neg (fun x => by cases x.1), if_neg (by simp)]; rfl
        rw [e]
        exact hand_null code hx hS hl h1 h2 s1 s2 hn hm (hnz rfl)
      · have e : ts wt ⟨r, p, q⟩ = (off wt, rel wt ++ [⟨r, p, q⟩]) := by unfold ts; rw [if_neg (fun x => h10 x.1), if_neg h13]; simp [h0]
        rw [e]
        exact hand_plain code hx hS hl h1 h2 s1 s2 hn hm (by simpa using h10) (by simpa using h13) (by simpa using h0)
set_option maxRecDepth 20000 in
set_option maxHeartbeats 400000 in
theorem turn_any {x t : Nat} {w : World} : Calls Tryz.prog 80 #[.pointer (some ⟨x, 0, none⟩), .pointer (some ⟨t, 0, none⟩)] w fun e w' => e = .returned (.func (.func 116) #[] #[.pointer (some ⟨w.heap.size + 1, 0, none⟩), .pointer (some ⟨w.heap.size, 0, none⟩)]) ∧
    BoxIs w.heap.size x 49 w' ∧ BoxIs (w.heap.size + 1) t 100 w' ∧ Below w.heap.size w w' ∧ w'.heap.size = w.heap.size + 2 := by
  have hmf : ∀ (fn : Fn) (first cap : Array Value) (w : World), (Instr.makeFunc fn first cap).run Tryz.prog w = .ok (.func fn first cap) w := fun _ _ _ _ => rfl
  go_enter Tryz.func80, Tryz.ntmps80
  go_wp2
  go_ret
  refine ⟨rfl, ?_, ?_, ((Below.refl _ _).alloc (Nat.le_refl _) _).alloc (by simp) _, by simp⟩
  · exact (Below.heap_alloc _ _ _ (by simp)).trans (heap_alloc_new _ _)
  · have := heap_alloc_new (w.alloc (.cells #[.pointer (some ⟨x, 0, none⟩)] 49)) (.cells #[.pointer (some ⟨t, 0, none⟩)] 100)
    simpa [BoxIs] using this
def wok (wt : Ch) (p : Int) : Prop := wt.a < wt.z → wt.z ≤ p
theorem off_not (wt : Ch) : ¬ (off wt).a < (off wt).z := by
  unfold off
  split
  · decide
  · assumption
theorem ts_wok {wt c : Ch} (_h : wok wt c.a) (_hc : c.a < c.z) : wok (ts wt c).1 c.z := by
  intro hw
  unfold ts at hw ⊢
  split
  · rename_i h; rw [if_pos h] at hw; exact absurd hw (show ¬ Ch0.a < Ch0.z by decide)
  · rename_i h1
    rw [if_neg h1] at hw
    split
    · exact Int.le_refl _
    · rename_i h2
      rw [if_neg h2] at hw
      exact absurd hw (off_not wt)
theorem tsL_wok : ∀ (L : List (Int × Nat)) (wt : Ch) (p : Int), (∀ y ∈ L, 1 ≤ y.2) → wok wt p → wok (tsL wt (chs p L)).1 (p + (tot L : Nat))
  | [], wt, p, _, h => by simpa [tsL, chs, tot] using h
  | (r, n) :: L, wt, p, hp, h => by
    have h1 := hp (r, n) (by simp)
    have h2 := ts_wok (wt := wt) (c := ⟨if r = -1 then 65533 else r, p, p + (n : Int)⟩) h (by show p < p + (n : Int); simp only at h1; omega)
    have h3 := tsL_wok L _ (p + (n : Int)) (fun y hy => hp y (by simp [hy])) h2
    rw [tot_cons]
    have e : p + ((n + tot L : Nat) : Int) = p + (n : Int) + (tot L : Nat) := by omega
    show wok _ (p + ((n + tot L : Nat) : Int))
    rw [e]
    exact h3
def FRow (S : Nat → Prop) (fv : Value) (l : List Int) (w : World) : Prop :=
  ∃ ao n c, fv = .slice ao n c ∧ n = l.length ∧ n ≤ c ∧ c ≤ maxLen ∧ (0 < n → ∃ g o, ao = some ⟨g, o, none⟩ ∧ S g ∧ g < w.heap.size ∧ ∀ j u, (l.flatMap fcells)[j]? = some u → w.cell? ⟨g, o + j, none⟩ = some u)
theorem FRow.keep {S : Nat → Prop} {fv : Value} {l : List Int} {w w' : World} (h : FRow S fv l w) (k : Keep S w w') : FRow S fv l w' := by
  obtain ⟨ao, n, c, e, hn, h1, h2, h3⟩ := h
  refine ⟨ao, n, c, e, hn, h1, h2, fun h0 => ?_⟩
  obtain ⟨g, o, ea, hS, hg, hc⟩ := h3 h0
  exact ⟨g, o, ea, hS, Nat.lt_of_lt_of_le hg k.size, fun j u hu => (k.cell (p := ⟨g, o + j, none⟩) hS hg).trans (hc j u hu)⟩
theorem FRow.ofRow {S : Nat → Prop} {B : Nat} {fv : Value} {l : List Int} {w : World} (h : Faults B fv l w) (hS : ∀ k, B ≤ k → k < w.heap.size → S k) : FRow S fv l w := by
  obtain ⟨ao, c, e, h1, h2⟩ := own_form h
  refine ⟨ao, l.length, c, e, rfl, h1, h2, fun h0 => ?_⟩
  rcases h.2 with ⟨_, hz⟩ | ⟨g, cap, cur, hv, hb, hg, _, _, _, ht⟩
  · omega
  · have hlt := (Array.getElem?_eq_some_iff.1 hg).1
    rw [hv] at e
    simp only [Value.slice.injEq] at e
    refine ⟨g, 0, e.1.symm, hS g hb hlt, hlt, fun j u hu => ?_⟩
    rw [← ht, List.getElem?_take] at hu
    split at hu
    · simp [World.cell?, hg]; simpa using hu
    · cases hu
theorem cod_null {r : Int} (h : r = 0) : cod r ≠ 0 := by subst h; decide
structure At4 (S : Nat → Prop) (x d t : Nat) (p : Int) (wt : Ch) (cs : List Ch) (fs : List (Int × Int)) (A R : List (Int × Nat)) (fv : Value) (w wr : World) : Prop where
  row : FRow S fv (fls (p + (tot A : Nat)) R) wr
  str : StrIs x d (tsL wt (chs p A)).1 wr
  lies : Lies S t (cs ++ (tsL wt (chs p A)).2) (fs ++ fcs p A) wr
  keep : Keep S w wr
theorem frow_cells {S : Nat → Prop} {ao : Option Addr} {m c : Nat} {y : Int} {l : List Int} {w : World} (h : FRow S (.slice ao m c) (y :: l) w) : ∃ g o, ao = some ⟨g, o, none⟩ ∧ S g ∧ g < w.heap.size ∧ w.cell? ⟨g, o, none⟩ = some (.int .i64 1) ∧ w.cell? ⟨g, o + 1, none⟩ = some (.int .i64 y) ∧ m = l.length + 1 ∧ m ≤ c := by
  obtain ⟨ao', n', c', e, hn, h1, h2, h3⟩ := h
  simp only [Value.slice.injEq] at e
  obtain ⟨rfl, rfl, rfl⟩ := e
  obtain ⟨g, o, ea, hS, hg, hc⟩ := h3 (by rw [hn]; simp)
  refine ⟨g, o, ea, hS, hg, ?_, ?_, by rw [hn]; simp, h1⟩
  · exact hc 0 _ (by simp [fcells])
  · exact hc 1 _ (by simp [fcells])
theorem frow_tail {S : Nat → Prop} {g o m c : Nat} {y : Int} {l : List Int} {w : World} (h : FRow S (.slice (some ⟨g, o, none⟩) m c) (y :: l) w) (ao : Option Addr) (ha : c ≠ 1 → ao = some ⟨g, o + 2, none⟩) : FRow S (.slice ao (m - 1) (c - 1)) l w := by
  obtain ⟨ao', n', c', e, hn, h1, h2, h3⟩ := h
  simp only [Value.slice.injEq] at e
  obtain ⟨rfl, rfl, rfl⟩ := e
  obtain ⟨g', o', ea, hS, hg, hc⟩ := h3 (by rw [hn]; simp)
  simp only [Option.some.injEq, Addr.mk.injEq] at ea
  obtain ⟨rfl, rfl, _⟩ := ea
  refine ⟨ao, m - 1, c - 1, rfl, by rw [hn]; simp, by omega, by omega, fun h0 => ⟨g, o + 2, ha (by omega), hS, hg, fun j u hu => ?_⟩⟩
  have := hc (j + 2) u (by simp [fcells]; exact hu)
  rw [show o + 2 + j = o + (j + 2) by omega]
  exact this
theorem at4_next {S : Nat → Prop} {x d t : Nat} {p q z rr : Int} {r : Int} {n : Nat} {wt : Ch} {cs : List Ch} {fs : List (Int × Int)} {A R : List (Int × Nat)} {fv fv' : Value} {w wr W1 w2 : World}
    (h : At4 S x d t p wt cs fs A ((r, n) :: R) fv w wr) (hq : p + (tot A : Nat) = q) (hz : q + (n : Int) = z) (hr : (if r = -1 then 65533 else r) = rr) (b : Below wr.heap.size wr W1) (hf : FRow S fv' (fls z R) W1)
    (x2 : StrIs x d (ts (tsL wt (chs p A)).1 ⟨rr, q, z⟩).1 w2) (l2 : Lies S t (cs ++ (tsL wt (chs p A)).2 ++ (ts (tsL wt (chs p A)).1 ⟨rr, q, z⟩).2) (fs ++ fcs p A ++ if cod r = 0 then [] else [(cod r, q)]) w2) (k2 : Keep S W1 w2) : At4 S x d t p wt cs fs (A ++ [(r, n)]) R fv' w w2 := by
  subst hz
  subst hq
  subst hr
  have ec : chs p (A ++ [(r, n)]) = chs p A ++ [⟨if r = -1 then 65533 else r, p + (tot A : Nat), p + (tot A : Nat) + (n : Int)⟩] := by rw [chs_append]; rfl
  have ef : fcs p (A ++ [(r, n)]) = fcs p A ++ if cod r = 0 then [] else [(cod r, p + (tot A : Nat))] := by rw [fcs_append]; simp [fcs]
  have et : p + ((tot (A ++ [(r, n)]) : Nat) : Int) = p + (tot A : Nat) + (n : Int) := by rw [tot_append, tot_cons, tot_nil]; simp; omega
  refine ⟨?_, ?_, ?_, h.keep.trans ((Keep.ofOld b).trans k2)⟩
  · rw [et]; exact hf.keep k2
  · rw [ec, tsL_append]; exact x2
  · rw [ec, ef, tsL_append]
    simp only [tsL, List.append_nil]
    rw [← List.append_assoc, ← List.append_assoc]; exact l2
theorem at4_hand {S : Nat → Prop} {x d t bx bt : Nat} {p q z rr code : Int} {r : Int} {n K : Nat} {wt : Ch} {cs : List Ch} {fs : List (Int × Int)} {A R : List (Int × Nat)} {fv : Value} {w wr W : World}
    (h : At4 S x d t p wt cs fs A ((r, n) :: R) fv w wr) (hq : p + (tot A : Nat) = q) (hz : q + (n : Int) = z) (hr : (if r = -1 then 65533 else r) = rr) (b : Below wr.heap.size wr W) (hS : ¬ S x) (h1 : BoxIs bx x 49 w) (h2 : BoxIs bt t 100 w) (s1 : S bx) (s2 : S bt)
    (hw : wok (tsL wt (chs p A)).1 q) (hn1 : 1 ≤ n) (hcode : code = cod r) (hn : cs.length ≤ 300000) (hm : fs.length ≤ 300000) (hK : K ≤ 200000) (htl : (tsL wt (chs p A)).2.length ≤ 2 * K) (hfl : (fcs p A).length ≤ K) :
    Calls Tryz.prog 116 #[.agg #[.int .i64 rr, .int .i64 q, .int .i64 z], .int .i64 code, .pointer (some ⟨bt, 0, none⟩), .pointer (some ⟨bx, 0, none⟩)] W fun e w' => e = .returned (.tuple #[]) ∧ ∀ fv', FRow S fv' (fls z R) W → At4 S x d t p wt cs fs (A ++ [(r, n)]) R fv' w w' := by
  have k1 := h.keep.trans (Keep.ofOld b)
  subst hcode
  refine (hand_any (cod r) (str_below h.str b) hS (lies_below h.lies b) (box_keep h1 s1 k1) (box_keep h2 s2 k1) s1 s2 (by rw [List.length_append]; omega) (by rw [List.length_append]; omega) (fun hw' => by have := hw hw'; omega) (fun e => ?_) (fun e => ?_)).mono ?_
  · rw [← hr] at e
    split at e
    · omega
    · exact cod_low e
  · rw [← hr] at e
    split at e
    · omega
    · exact cod_null e
  · rintro e w' ⟨he, x2, l2, k2⟩
    exact ⟨he, fun fv' hf => at4_next h hq hz hr b hf x2 l2 k2⟩
set_option maxRecDepth 20000 in
set_option maxHeartbeats 4000000 in
theorem each_any {S : Nat → Prop} {B x d t bx bt : Nat} {wt : Ch} {cs : List Ch} {fs : List (Int × Int)} {w : World} (p : Int) (L : List (Int × Nat)) (ca : Option Addr) (cn cc : Nat) (fv : Value) (hL1 : ∀ y ∈ L, 1 ≤ y.2) (hL2 : ∀ y ∈ L, y.1 = -1 ∨ (0 ≤ y.1 ∧ y.1 ≤ 1000000000))
    (hc : Chars B (.slice ca cn cc) (chs p L) w) (hf : FRow S fv (fls p L) w) (hB : ∀ k, B ≤ k → k < w.heap.size → S k) (hx : StrIs x d wt w) (hS : ¬ S x) (hl : Lies S t cs fs w) (h1 : BoxIs bx x 49 w) (h2 : BoxIs bt t 100 w) (s1 : S bx) (s2 : S bt)
    (hn : cs.length ≤ 300000) (hm : fs.length ≤ 300000) (hLn : L.length ≤ 200000) (hwt : wok wt p) :
    Calls Tryz.prog 79 #[.slice ca cn cc, fv, .func (.func 116) #[] #[.pointer (some ⟨bt, 0, none⟩), .pointer (some ⟨bx, 0, none⟩)]] w fun e w' => e = .returned (.tuple #[]) ∧ StrIs x d (tsL wt (chs p L)).1 w' ∧ Lies S t (cs ++ (tsL wt (chs p L)).2) (fs ++ fcs p L) w' ∧ Keep S w w' := by
  obtain ⟨ao, c, e1, hcc, hcm⟩ := own_form hc
  simp only [Value.slice.injEq] at e1
  obtain ⟨rfl, hcn, rfl⟩ := e1
  rw [chs_length] at hcn
  have HC : Hid (Chars B (.slice ca cn cc) (chs p L) w) := hc
  have HB : Hid (∀ k, B ≤ k → k < w.heap.size → S k) := hB
  have HL1 : Hid (∀ y ∈ L, 1 ≤ y.2) := hL1
  have HL2 : Hid (∀ y ∈ L, y.1 = -1 ∨ (0 ≤ y.1 ∧ y.1 ≤ 1000000000)) := hL2
  have HCN : Hid (cn = L.length) := hcn
  have HW : Hid (wok wt p) := hwt
  have HS : Hid (¬ S x) := hS
  have HB1 : Hid (BoxIs bx x 49 w) := h1
  have HB2 : Hid (BoxIs bt t 100 w) := h2
  have H0 : Hid (At4 S x d t p wt cs fs [] L fv w w) := ⟨by simpa [tot] using hf, hx, by simpa [tsL, chs, fcs] using hl, Keep.refl _ _⟩
  have hcn2 : cn ≤ 200000 := by omega
  unfold maxLen at hcm
  rw [chs_length] at hcc
  clear hc hB hL1 hL2 hwt hS h1 h2 hx hl hf hcn
  go_enter Tryz.func79, Tryz.ntmps79
  go_wp2_with fail
  go_loopw [1, 11] (fun v iv wr => ∃ (A R : List (Int × Nat)), L = A ++ R ∧ iv = .int .i64 (A.length : Nat) ∧ At4 S x d t p wt cs fs A R v w wr) (fun _ iv _ => cn - (intOf iv).toNat)
  case atStart => exact ⟨[], L, rfl, rfl, H0.out⟩
  case round =>
    obtain ⟨A, R, hAR, rfl, hat⟩ := hrel
    obtain ⟨K, hK⟩ : ∃ K, A.length = K := ⟨_, rfl⟩
    have HK : Hid (A.length = K) := hK
    have hcnL := HCN.out
    have htl := tsL_len (chs p A) wt
    have hfl := fcs_length A p
    rw [chs_length, hK] at htl
    rw [hK] at hfl
    rw [hK]
    cases R with
    | nil =>
      have hAL : Hid (A = L) := by show A = L; rw [hAR, List.append_nil]
      have hge : ¬ K < cn := by rw [hcnL, ← hAL.out, hK]; omega
      have HAT : Hid (At4 S x d t p wt cs fs A [] u1 w wr) := hat
      clear hat hAR hcnL hK
      go_wp2_with fail
      refine bodyPost_end (results_none rfl _ _ _) rfl ?_
      rw [← hAL.out]
      exact ⟨rfl, HAT.out.str, HAT.out.lies, HAT.out.keep⟩
    | cons y R =>
      obtain ⟨r, n⟩ := y
      have hLl : L.length = A.length + (R.length + 1) := by rw [hAR]; simp
      have hlt : K < cn := by omega
      have hmem : (r, n) ∈ L := by rw [hAR]; simp
      have hn1 : 1 ≤ n := HL1.out (r, n) hmem
      have hrr := HL2.out (r, n) hmem
      simp only at hrr
      have hwok := tsL_wok A wt p (fun y hy => HL1.out y (by rw [hAR]; simp [hy])) HW.out
      obtain ⟨q, hq⟩ : ∃ q, p + (tot A : Nat) = q := ⟨_, rfl⟩
      obtain ⟨z, hz⟩ : ∃ z, q + (n : Int) = z := ⟨_, rfl⟩
      obtain ⟨rr, hr⟩ : ∃ rr, (if r = -1 then 65533 else r) = rr := ⟨_, rfl⟩
      rw [hq] at hwok
      have hrr2 : 0 ≤ rr ∧ rr ≤ 1000000000 := by rw [← hr]; split <;> omega
      have hx := chs_at A R r n p
      rw [← hAR, hq, hz, hr, hK] at hx
      obtain ⟨g, cap, hv, hw1, hw2, hg, hcl⟩ := row_cells HC.out (by rw [chs_length]; omega)
      have hgB : B ≤ g := by
        rcases HC.out.2 with ⟨e0, _⟩ | ⟨g', _, _, hv', hb', _⟩
        · rw [hv] at e0; simp at e0
        · rw [hv] at hv'; simp at hv'; omega
      simp only [Value.slice.injEq] at hv
      obtain ⟨rfl, hcq, rfl⟩ := hv
      clear hcq hw1 hw2
      have hSg : S g := HB.out g hgB hg
      obtain ⟨q0, q1, q2⟩ := ch_at _ K _ hx
      have d0 := (hat.keep.cell (p := ⟨g, K * 3, none⟩) hSg hg).trans (hcl _ _ q0)
      have d1 := (hat.keep.cell (p := ⟨g, K * 3 + 1, none⟩) hSg hg).trans (hcl _ _ q1)
      have d2 := (hat.keep.cell (p := ⟨g, K * 3 + 2, none⟩) hSg hg).trans (hcl _ _ q2)
      have hgw : g < wr.heap.size := Nat.lt_of_lt_of_le hg hat.keep.size
      simp only at d0 d1 d2
      have HAT : Hid (At4 S x d t p wt cs fs A ((r, n) :: R) u1 w wr) := hat
      have hrow := hat.row
      rw [hq] at hrow
      have hwt2 : Hid (wok (tsL wt (chs p A)).1 q) := hwok
      have HAR : Hid (L = A ++ (r, n) :: R) := hAR
      have HQ : Hid (p + (tot A : Nat) = q) := hq
      have HZ : Hid (q + (n : Int) = z) := hz
      have HR : Hid ((if r = -1 then 65533 else r) = rr) := hr
      obtain ⟨hr0, hr1⟩ := hrr2
      clear hat hAR hcnL hK hwok hx hcl q0 q1 q2 hmem hLl hq hz hr
      have HBW : Hid (Below wr.heap.size wr (wr.alloc (.cells #[.int .i64 rr, .int .i64 q, .int .i64 z] 44))) := (Below.refl _ _).alloc (Nat.le_refl _) _
      have hch : ChIs wr.heap.size ⟨rr, q, z⟩ (wr.alloc (.cells #[.int .i64 rr, .int .i64 q, .int .i64 z] 44)) := heap_alloc_new _ _
      obtain ⟨hcw, ch0, ch1, ch2, _⟩ := ch_cell hch
      simp only at ch0 ch1 ch2
      clear hch
      rcases (show r = -1 ∨ (r ≠ -1 ∧ fls z R = []) ∨ (r ≠ -1 ∧ fls z R ≠ []) by by_cases h : r = -1 <;> by_cases h' : fls z R = [] <;> simp [h, h']) with hc1 | ⟨hc1, hc2⟩ | ⟨hc1, hc2⟩
      · subst hc1
        have e0 : fls q ((-1, n) :: R) = q :: fls z R := by simp only [fls]; rw [HZ.out]; rfl
        rw [e0] at hrow
        obtain ⟨fa, m, fc, rfl, hm0, hk1, hk2, _⟩ := id hrow
        have HROW : Hid (FRow S (.slice fa m fc) (q :: fls z R) wr) := hrow
        obtain ⟨g2, o2, rfl, hS2, hg2, i0, i1, hm1, hk3⟩ := frow_cells hrow
        have hg0 : decide (0 < m) = true := decide_eq_true (by omega)
        have hm2 : 0 < m := by omega
        have hfc : (fc : Int) ≤ 9223372036854775807 := by unfold maxLen at hk2; omega
        have j0 := ((HBW.out).cell (p := ⟨g2, o2, none⟩) hg2).trans i0
        have j1 := ((HBW.out).cell (p := ⟨g2, o2 + 1, none⟩) hg2).trans i1
        clear hm0 hm1 hrow i0 i1 hk2
        go_wp2_with fail
        refine (bad_any rr _ hr0 hr1).mono ?_
        rintro e w1 ⟨rfl, rfl⟩
        generalize wr.alloc (.cells #[.int .i64 rr, .int .i64 q, .int .i64 z] 44) = W1 at *
        go_wp2_with fail
        go_quiet (fail)
        go_wp2_with fail
        go_quiet (fail)
        go_wp2_with fail
        all_goals
          refine (at4_hand (K := K) HAT.out HQ.out HZ.out HR.out (below_drewN HBW.out _) HS.out HB1.out HB2.out s1 s2 hwt2.out hn1 rfl hn hm (by omega) htl hfl).mono ?_
          rintro e w2 ⟨rfl, nx⟩
          have NX := fun (ao : Option Addr) (ha : _ → ao = some ⟨g2, o2 + 2, none⟩) => (show Hid _ from nx _ ((frow_tail HROW.out ao ha).keep (Keep.ofOld (below_drewN HBW.out _))))
          clear nx
          go_wp2_with fail
          go_roundw
          case rel =>
            refine ⟨A ++ [(-1, n)], R, by rw [HAR.out]; simp, by rw [List.length_append, HK.out]; go_num, ?_⟩
            first
              | exact (NX _ (fun _ => rfl)).out
              | exact (NX _ (fun h => absurd rfl h)).out
              | (have hf1 : fc = 1 := by first | assumption | omega
                 have hn2 := (NX (some ⟨g2, o2, none⟩) (fun h => absurd hf1 h)).out
                 rw [hf1] at hn2
                 exact hn2)
          case measure => simp [intOf]; omega
      · have hrow2 : FRow S u1 [] wr := by
          have e : fls q ((r, n) :: R) = [] := by simp only [fls]; rw [if_neg hc1, HZ.out, hc2]; rfl
          rw [e] at hrow; exact hrow
        have HROW : Hid (FRow S u1 (fls z R) wr) := by show FRow S u1 (fls z R) wr; rw [hc2]; exact hrow2
        obtain ⟨fa, m, fc, rfl, hm0, hk1, hk2, hk3⟩ := hrow2
        clear hk1 hk2 hk3
        rw [List.length_nil] at hm0
        have hg0 : decide (0 < m) = false := decide_eq_false (by omega)
        clear hm0 hrow
        go_wp2_with fail
        refine (bad_any rr _ hr0 hr1).mono ?_
        rintro e w1 ⟨rfl, rfl⟩
        generalize wr.alloc (.cells #[.int .i64 rr, .int .i64 q, .int .i64 z] 44) = W1 at *
        go_wp2_with fail
        go_quiet (fail)
        go_wp2_with fail
        have bq := below_drewN HBW.out nq
        refine (at4_hand (K := K) HAT.out HQ.out HZ.out HR.out bq HS.out HB1.out HB2.out s1 s2 hwt2.out hn1 (cod_of HR.out hc1) hn hm (by omega) htl hfl).mono ?_
        rintro e w2 ⟨rfl, nx⟩
        have NX : Hid (At4 S x d t p wt cs fs (A ++ [(r, n)]) R (.slice fa m fc) w w2) := nx _ (HROW.out.keep (Keep.ofOld bq))
        clear nx bq
        go_wp2_with fail
        go_roundw
        case rel => exact ⟨A ++ [(r, n)], R, by rw [HAR.out]; simp, by rw [List.length_append, HK.out]; go_num, NX.out⟩
        case measure => simp [intOf]; omega
      · have e0 : fls q ((r, n) :: R) = fls z R := by simp only [fls]; rw [if_neg hc1, HZ.out]; rfl
        rw [e0] at hrow
        obtain ⟨y, l, hyl⟩ : ∃ y l, fls z R = y :: l := by
          cases h : fls z R with
          | nil => exact absurd h hc2
          | cons y l => exact ⟨y, l, rfl⟩
        have hyz : z ≤ y := fls_ge R z y (by rw [hyl]; simp)
        have hyq : (y == q) = false := by rw [beq_eq_false_iff_ne]; have := HZ.out; omega
        have HROW : Hid (FRow S u1 (fls z R) wr) := hrow
        obtain ⟨fa, m, fc, rfl, hm0, hk1, hk2, hk3⟩ := id hrow
        rw [hyl] at hrow
        obtain ⟨g2, o2, rfl, hS2, hg2, i0, i1, hm1, _⟩ := frow_cells hrow
        have hg0 : decide (0 < m) = true := decide_eq_true (by omega)
        have hm2 : 0 < m := by omega
        have j0 := ((HBW.out).cell (p := ⟨g2, o2, none⟩) hg2).trans i0
        have j1 := ((HBW.out).cell (p := ⟨g2, o2 + 1, none⟩) hg2).trans i1
        clear hm0 hm1 hrow i0 i1 hk1 hk2 hk3 hyz
        go_wp2_with fail
        refine (bad_any rr _ hr0 hr1).mono ?_
        rintro e w1 ⟨rfl, rfl⟩
        generalize wr.alloc (.cells #[.int .i64 rr, .int .i64 q, .int .i64 z] 44) = W1 at *
        go_wp2_with fail
        go_quiet (fail)
        go_wp2_with fail
        have bq := below_drewN HBW.out nq
        refine (at4_hand (K := K) HAT.out HQ.out HZ.out HR.out bq HS.out HB1.out HB2.out s1 s2 hwt2.out hn1 (cod_of HR.out hc1) hn hm (by omega) htl hfl).mono ?_
        rintro e w2 ⟨rfl, nx⟩
        have NX : Hid (At4 S x d t p wt cs fs (A ++ [(r, n)]) R (.slice (some ⟨g2, o2, none⟩) m fc) w w2) := nx _ (HROW.out.keep (Keep.ofOld bq))
        clear nx bq
        go_wp2_with fail
        go_roundw
        case rel => exact ⟨A ++ [(r, n)], R, by rw [HAR.out]; simp, by rw [List.length_append, HK.out]; go_num, NX.out⟩
        case measure => simp [intOf]; omega
end Go.Proofs.YtdiealijjhfhjaaGreatDoor.G4
namespace Go.Proofs.YtdiealijjhfhjaaGreatDoor.G4
open Go.RowKit
theorem lies_to {S U : Nat → Prop} {t : Nat} {cs : List Ch} {fs : List (Int × Int)} {w w' : World} (h : Lies S t cs fs w) (hU : ∀ k, U k → k < w'.heap.size)
    (ho : ∀ (g : Nat) (cur : Array Value) (e : TypeId) (m : Nat × Nat), (e = 44 ∨ e = 57 ∨ e = 98) → ¬ S g → w.heap[g]? = some (.cells cur e m) → ¬ U g)
    (k : ∀ (g : Nat) (cur : Array Value) (e : TypeId) (m : Nat × Nat), (e = 44 ∨ e = 57 ∨ e = 98) → ¬ S g → w.heap[g]? = some (.cells cur e m) → w'.heap[g]? = some (.cells cur e m)) : Lies U t cs fs w' := by
  obtain ⟨cv, fv, hb, h1, h2, h3, h4⟩ := h.blk
  have stay : ∀ (e s n : Nat) (v : Value) (xs : List Value), (e = 44 ∨ e = 57 ∨ e = 98) → w.ownsRow 0 e s v n xs → (∀ g, v.ownBlock = some g → ¬ S g) → w'.ownsRow 0 e s v n xs ∧ (∀ g, v.ownBlock = some g → ¬ U g) := by
    intro e s n v xs he hv hs
    rcases hv.2 with hn | ⟨g, cap, cur, hv', hb', hg, rest⟩
    · refine ⟨⟨hv.1, .inl hn⟩, fun g hg => ?_⟩
      rw [hn.1] at hg; simp [Value.ownBlock] at hg
    · have hSg : ¬ S g := hs g (by rw [hv']; simp [Value.ownBlock])
      refine ⟨⟨hv.1, .inr ⟨g, cap, cur, hv', hb', k g cur e (0, 0) he hSg hg, rest⟩⟩, fun g' hg' => ?_⟩
      rw [hv'] at hg'; simp [Value.ownBlock] at hg'; subst hg'
      exact ho g cur e (0, 0) he hSg hg
  obtain ⟨a1, a2⟩ := stay 44 3 _ cv _ (.inl rfl) h1 h3
  obtain ⟨b1, b2⟩ := stay 57 2 _ fv _ (.inr (.inl rfl)) h2 h4
  exact ⟨hU, ho t _ 98 (0, 0) (.inr (.inr rfl)) h.ht hb, cv, fv, k t _ 98 (0, 0) (.inr (.inr rfl)) h.ht hb, a1, b1, a2, b2⟩
def Wide (S : Nat → Prop) (d lo hi : Nat) : Nat → Prop := fun k => S k ∨ k = d ∨ (lo ≤ k ∧ k < hi)
theorem str_ne_dec {x d : Nat} {p q : Int} {f : F} {wt : Ch} {w : World} (hx : StrIs x d wt w) (hd : DecIs d p q f w) : x ≠ d := fun e => by
  unfold StrIs at hx
  unfold DecIs at hd
  rw [e, hd] at hx
  simp at hx
theorem wide_start {S : Nat → Prop} {x d t : Nat} {p : Int} {u : List UInt8} {wt : Ch} {cs : List Ch} {fs : List (Int × Int)} {w w1 w2 : World} (hd : Dec d p u w) (hx : StrIs x d wt w) (hl : Lies S t cs fs w) (hSx : ¬ S x) (hSd : ¬ S d) (ht : Turn w.heap.size d w w1) (hb : Below w1.heap.size w1 w2) :
    StrIs x d wt w2 ∧ ¬ Wide S d w.heap.size w2.heap.size x ∧ Lies (Wide S d w.heap.size w2.heap.size) t cs fs w2 ∧ Keep S w w2 := by
  have hxd := str_ne_dec hx hd
  have hxw := (str_cells hx).1
  have hdw := (dec_cells hd).1
  have z1 := ht.size
  have z2 := hb.size
  have stay : ∀ k, k < w.heap.size → k ≠ d → w2.heap[k]? = w.heap[k]? := fun k hk hne => (hb.block k (by omega)).trans (ht.block k hk hk hne)
  refine ⟨(stay x hxw hxd).trans hx, fun h => ?_, ?_, ⟨hb.os.trans ht.os, hb.tape.trans ht.tape, hb.output.trans ht.output, by omega, fun k hS hk => stay k hk (fun e => hSd (e ▸ hS))⟩⟩
  · rcases h with h | h | h
    · exact hSx h
    · exact hxd h
    · omega
  · refine lies_to hl (fun k hk => ?_) (fun g cur e m he hS hg hw => ?_) fun g cur e m he hS hg => ?_
    · rcases hk with h | h | h
      · have := hl.low k h; omega
      · omega
      · exact h.2
    · have hlt := (Array.getElem?_eq_some_iff.1 hg).1
      rcases hw with h | h | h
      · exact hS h
      · unfold Dec DecIs at hd
        rw [h, hd] at hg; simp at hg
        rcases he with rfl | rfl | rfl <;> simp at hg
      · omega
    · have hlt := (Array.getElem?_eq_some_iff.1 hg).1
      rw [stay g hlt (fun h => by
        unfold Dec DecIs at hd
        rw [h, hd] at hg; simp at hg
        rcases he with rfl | rfl | rfl <;> simp at hg)]
      exact hg
theorem wide_end {S : Nat → Prop} {d lo hi : Nat} {p : Int} {u : List UInt8} {w w2 w3 : World} (hk : Keep S w w2) (hd : Dec d p u w2) (h : Keep (Wide S d lo hi) w2 w3) : Dec d p u w3 ∧ Keep S w w3 :=
  ⟨(h.block d (.inr (.inl rfl)) (dec_cells hd).1).trans hd, hk.trans (h.sub fun _ h => .inl h)⟩
set_option maxRecDepth 20000 in
set_option maxHeartbeats 1000000 in
theorem sread_any {S : Nat → Prop} {x d t : Nat} {p : Int} {u : List UInt8} {wt : Ch} {cs : List Ch} {fs : List (Int × Int)} {w : World} (s : ByteArray) (hu : pend u) (hp0 : 0 ≤ p) (hp1 : p ≤ 1400000000000) (hd : Dec d p u w) (hx : StrIs x d wt w) (hl : Lies S t cs fs w) (hSx : ¬ S x) (hSd : ¬ S d) (hn : cs.length ≤ 300000) (hm : fs.length ≤ 300000) (hs : s.size ≤ 50000) (hw : wok wt p) :
    Calls Tryz.prog 67 #[.pointer (some ⟨x, 0, none⟩), .string s, .pointer (some ⟨t, 0, none⟩)] w fun e w' => e = .returned (.tuple #[]) ∧ Dec d (p + (tot (run u s.data.toList).2 : Nat)) (run u s.data.toList).1 w' ∧ StrIs x d (tsL wt (chs p (run u s.data.toList).2)).1 w' ∧
      Lies S t (cs ++ (tsL wt (chs p (run u s.data.toList).2)).2) (fs ++ fcs p (run u s.data.toList).2) w' ∧ Keep S w w' := by
  have hfew := run_few s.data.toList u
  have hsl : s.data.toList.length = s.size := Array.length_toList
  rw [hsl] at hfew
  have HP1 : Hid (∀ y ∈ (run u s.data.toList).2, 1 ≤ y.2) := run_pos s.data.toList u
  have HP2 : Hid (∀ y ∈ (run u s.data.toList).2, y.1 = -1 ∨ (0 ≤ y.1 ∧ y.1 ≤ 1000000000)) := run_range s.data.toList u hu
  have HD : Hid (Dec d p u w) := hd
  have HX : Hid (StrIs x d wt w) := hx
  have HL : Hid (Lies S t cs fs w) := hl
  have HSX : Hid (¬ S x) := hSx
  have HSD : Hid (¬ S d) := hSd
  have HW : Hid (wok wt p) := hw
  have HU : Hid (pend u) := hu
  obtain ⟨hxw, c0, _, _, _, _⟩ := str_cells hx
  clear hd hx hl hSx hSd hw hu hsl
  go_enter Tryz.func67, Tryz.ntmps67
  go_wp2_with fail
  refine (feed_any s HU.out hp0 hp1 HD.out (by omega)).mono ?_
  rintro e w1 ⟨ca, cn, cc, fa, fn, fc, rfl, d1, rc, rf, t1⟩
  have D1 : Hid (Dec d (p + (tot (run u s.data.toList).2 : Nat)) (run u s.data.toList).1 w1) := d1
  have RC : Hid (Chars w.heap.size (.slice ca cn cc) (chs p (run u s.data.toList).2) w1) := rc
  have RF : Hid (Faults w.heap.size (.slice fa fn fc) (fls p (run u s.data.toList).2) w1) := rf
  have T1 : Hid (Turn w.heap.size d w w1) := t1
  clear d1 rc rf t1 c0
  go_wp2_with fail
  refine turn_any.mono ?_
  rintro e w2 ⟨rfl, b1, b2, bb, z2⟩
  obtain ⟨x2, nx2, l2, k2⟩ := wide_start HD.out HX.out HL.out HSX.out HSD.out T1.out bb
  have zz := T1.out.size
  have D2 : Hid (Dec d (p + (tot (run u s.data.toList).2 : Nat)) (run u s.data.toList).1 w2) := dec_below D1.out bb
  have EA := each_any (S := Wide S d w.heap.size w2.heap.size) (B := w.heap.size) p (run u s.data.toList).2 ca cn cc (.slice fa fn fc) HP1.out HP2.out (own_below RC.out bb) (FRow.ofRow (own_below RF.out bb) (fun k h1 h2 => .inr (.inr ⟨h1, h2⟩))) (fun k h1 h2 => .inr (.inr ⟨h1, h2⟩)) x2 nx2 l2 b1 b2 (.inr (.inr ⟨by omega, by omega⟩)) (.inr (.inr ⟨by omega, by omega⟩)) hn hm (by omega) HW.out
  have K2 : Hid (Keep S w w2) := k2
  clear x2 nx2 l2 k2 b1 b2 bb z2 zz RC RF T1 D1
  go_wp2_with fail
  refine EA.mono ?_
  rintro e w3 ⟨rfl, x3, l3, k3⟩
  obtain ⟨d3, k3'⟩ := wide_end K2.out D2.out k3
  have D3 : Hid (Dec d (p + (tot (run u s.data.toList).2 : Nat)) (run u s.data.toList).1 w3) := d3
  have X3 : Hid (StrIs x d (tsL wt (chs p (run u s.data.toList).2)).1 w3) := x3
  have L3 : Hid (Lies S t (cs ++ (tsL wt (chs p (run u s.data.toList).2)).2) (fs ++ fcs p (run u s.data.toList).2) w3) := lies_sub l3 (fun _ h => .inl h)
  have K3 : Hid (Keep S w w3) := k3'
  clear d3 x3 l3 k3 k3' EA
  go_wp2_with fail
  refine bodyPost_end (results_none rfl _ _ _) rfl ?_
  exact ⟨rfl, D3.out, X3.out, L3.out, K3.out⟩
set_option maxRecDepth 20000 in
set_option maxHeartbeats 1000000 in
theorem sfinish_any {S : Nat → Prop} {x d t : Nat} {p : Int} {u : List UInt8} {wt : Ch} {cs : List Ch} {fs : List (Int × Int)} {w : World} (hd : Dec d p u w) (hx : StrIs x d wt w) (hl : Lies S t cs fs w) (hSx : ¬ S x) (hSd : ¬ S d) (hn : cs.length ≤ 300000) (hm : fs.length ≤ 300000) (hw : wok wt p) :
    Calls Tryz.prog 50 #[.pointer (some ⟨x, 0, none⟩), .pointer (some ⟨t, 0, none⟩)] w fun e w' => e = .returned (.tuple #[]) ∧ Dec d (p + (u.length : Nat)) [] w' ∧ StrIs x d (off (tsL wt (chs p (fin u))).1) w' ∧
      Lies S t (cs ++ ((tsL wt (chs p (fin u))).2 ++ rel (tsL wt (chs p (fin u))).1)) (fs ++ fcs p (fin u)) w' ∧ Keep S w w' := by
  have hfew := fin_few u
  have hts := tsL_len (chs p (fin u)) wt
  rw [chs_length] at hts
  have HP1 : Hid (∀ y ∈ fin u, 1 ≤ y.2) := fin_pos u
  have HP2 : Hid (∀ y ∈ fin u, y.1 = -1 ∨ (0 ≤ y.1 ∧ y.1 ≤ 1000000000)) := fin_range u
  have HD : Hid (Dec d p u w) := hd
  have HX : Hid (StrIs x d wt w) := hx
  have HL : Hid (Lies S t cs fs w) := hl
  have HSX : Hid (¬ S x) := hSx
  have HSD : Hid (¬ S d) := hSd
  have HW : Hid (wok wt p) := hw
  obtain ⟨hxw, c0, _, _, _, _⟩ := str_cells hx
  clear hd hx hl hSx hSd hw
  go_enter Tryz.func50, Tryz.ntmps50
  go_wp2_with fail
  refine (end_any HD.out).mono ?_
  rintro e w1 ⟨ca, cn, cc, fa, fn, fc, rfl, d1, rc, rf, t1⟩
  have D1 : Hid (Dec d (p + (u.length : Nat)) [] w1) := d1
  have RC : Hid (Chars w.heap.size (.slice ca cn cc) (chs p (fin u)) w1) := rc
  have RF : Hid (Faults w.heap.size (.slice fa fn fc) (fls p (fin u)) w1) := rf
  have T1 : Hid (Turn w.heap.size d w w1) := t1
  clear d1 rc rf t1 c0
  go_wp2_with fail
  refine turn_any.mono ?_
  rintro e w2 ⟨rfl, b1, b2, bb, z2⟩
  obtain ⟨x2, nx2, l2, k2⟩ := wide_start HD.out HX.out HL.out HSX.out HSD.out T1.out bb
  have zz := T1.out.size
  have D2 : Hid (Dec d (p + (u.length : Nat)) [] w2) := dec_below D1.out bb
  have EA := each_any (S := Wide S d w.heap.size w2.heap.size) (B := w.heap.size) p (fin u) ca cn cc (.slice fa fn fc) HP1.out HP2.out (own_below RC.out bb) (FRow.ofRow (own_below RF.out bb) (fun k h1 h2 => .inr (.inr ⟨h1, h2⟩))) (fun k h1 h2 => .inr (.inr ⟨h1, h2⟩)) x2 nx2 l2 b1 b2 (.inr (.inr ⟨by omega, by omega⟩)) (.inr (.inr ⟨by omega, by omega⟩)) hn hm (by omega) HW.out
  have K2 : Hid (Keep S w w2) := k2
  clear x2 nx2 l2 k2 b1 b2 bb z2 zz RC RF T1 D1
  go_wp2_with fail
  refine EA.mono ?_
  rintro e w3 ⟨rfl, x3, l3, k3⟩
  obtain ⟨d3, k3'⟩ := wide_end K2.out D2.out k3
  have D3 : Hid (Dec d (p + (u.length : Nat)) [] w3) := d3
  have X3 : Hid (StrIs x d (tsL wt (chs p (fin u))).1 w3) := x3
  have L3 : Hid (Lies S t (cs ++ (tsL wt (chs p (fin u))).2) (fs ++ fcs p (fin u)) w3) := lies_sub l3 (fun _ h => .inl h)
  have K3 : Hid (Keep S w w3) := k3'
  clear d3 x3 l3 k3 k3' EA
  go_wp2_with fail
  have LL : Lies (fun k => S k ∨ k = d) t (cs ++ (tsL wt (chs p (fin u))).2) (fs ++ fcs p (fin u)) w3 := by
    refine lies_to L3.out (fun k hk => hk.elim (L3.out.low k) (fun e => by have := (dec_cells D3.out).1; omega)) (fun g cur e m he hS hg hw => ?_) fun _ _ _ _ _ _ hg => hg
    rcases hw with h | h
    · exact hS h
    · have hd := D3.out
      unfold Dec DecIs at hd
      rw [h, hd] at hg; simp at hg
      rcases he with rfl | rfl | rfl <;> simp at hg
  refine (release_any X3.out (fun h => h.elim HSX.out (str_ne_dec X3.out D3.out)) LL (by rw [List.length_append]; omega)).mono ?_
  rintro e w4 ⟨rfl, x4, l4, k4⟩
  have D4 : Hid (Dec d (p + (u.length : Nat)) [] w4) := (k4.block d (.inr rfl) (dec_cells D3.out).1).trans D3.out
  have X4 : Hid (StrIs x d (off (tsL wt (chs p (fin u))).1) w4) := x4
  have L4 : Hid (Lies S t (cs ++ (tsL wt (chs p (fin u))).2 ++ rel (tsL wt (chs p (fin u))).1) (fs ++ fcs p (fin u)) w4) := lies_sub l4 (fun _ h => .inl h)
  have K4 : Hid (Keep S w w4) := K3.out.trans (k4.sub fun _ h => .inl h)
  clear x4 l4 k4 D3 X3 L3 K3 LL
  go_wp2_with fail
  refine bodyPost_end (results_none rfl _ _ _) rfl ?_
  have l5 := L4.out
  rw [List.append_assoc] at l5
  exact ⟨rfl, D4.out, X4.out, l5, K4.out⟩
structure Strm (x d : Nat) (p : Int) (u : List UInt8) (wt : Ch) (w : World) : Prop where
  str : StrIs x d wt w
  dec : Dec d p u w
  ok : wok wt p
theorem Strm.below {x d : Nat} {p : Int} {u : List UInt8} {wt : Ch} {w w' : World} (h : Strm x d p u wt w) (b : Below w.heap.size w w') : Strm x d p u wt w' := ⟨str_below h.str b, dec_below h.dec b, h.ok⟩
def Rest (B x d : Nat) : Nat → Prop := fun k => k < B ∧ k ≠ x ∧ k ≠ d
theorem lies_new {S : Nat → Prop} {w : World} (h : ∀ k, S k → k < w.heap.size) : Lies S w.heap.size [] [] (w.alloc (.cells #[.slice none 0 0, .slice none 0 0] 98)) :=
  ⟨fun k hk => by have := h k hk; simp; omega, fun hk => by have := h _ hk; omega, _, _, heap_alloc_new _ _, World.ownsRow_nil _ _ _ _, World.ownsRow_nil _ _ _ _, fun g hg => by simp [Value.ownBlock] at hg, fun g hg => by simp [Value.ownBlock] at hg⟩
theorem lies_rows {B x d t : Nat} {p : Int} {u : List UInt8} {wt : Ch} {cs : List Ch} {fs : List (Int × Int)} {w : World} (h : Lies (Rest B x d) t cs fs w) (hs : StrIs x d wt w) (hd : Dec d p u w) : ∃ ao c ao2 c2, t < w.heap.size ∧ w.cell? ⟨t, 0, none⟩ = some (.slice ao cs.length c) ∧ w.cell? ⟨t, 1, none⟩ = some (.slice ao2 fs.length c2) ∧
    Chars B (.slice ao cs.length c) cs w ∧ FaultsC B (.slice ao2 fs.length c2) fs w ∧ c ≤ maxLen ∧ c2 ≤ maxLen := by
  obtain ⟨ao, c, ao2, c2, htw, t0, t1, _, h1, h2, h3, h4⟩ := lies_cells h
  have up : ∀ (e s n : Nat) (v : Value) (xs : List Value), e ≠ 94 → e ≠ 115 → w.ownsRow 0 e s v n xs → (∀ g, v.ownBlock = some g → ¬ Rest B x d g) → w.ownsRow B e s v n xs := by
    intro e s n v xs he1 he2 hv hS
    rcases hv.2 with hn | ⟨g, cap, cur, hv', _, hg, rest⟩
    · exact ⟨hv.1, .inl hn⟩
    · refine ⟨hv.1, .inr ⟨g, cap, cur, hv', ?_, hg, rest⟩⟩
      have hn := hS g (by rw [hv']; simp [Value.ownBlock])
      by_cases hlt : g < B
      · refine absurd ⟨hlt, fun e => ?_, fun e => ?_⟩ hn
        · unfold StrIs at hs; rw [e, hs] at hg; simp at hg; exact he1 hg.2.symm
        · unfold Dec DecIs at hd; rw [e, hd] at hg; simp at hg; exact he2 hg.2.symm
      · omega
  obtain ⟨_, _, e1, _, q1⟩ := own_form h1
  obtain ⟨_, _, e2, _, q2⟩ := own_form h2
  simp only [Value.slice.injEq] at e1 e2
  obtain ⟨_, _, rfl⟩ := e1
  obtain ⟨_, _, rfl⟩ := e2
  exact ⟨ao, c, ao2, c2, htw, t0, t1, up 44 3 _ _ _ (by decide) (by decide) h1 h3, up 57 2 _ _ _ (by decide) (by decide) h2 h4, q1, q2⟩
set_option maxRecDepth 20000 in
set_option maxHeartbeats 1000000 in
theorem sfeed_any {x d : Nat} {p : Int} {u : List UInt8} {wt : Ch} {w : World} (s : ByteArray) (hu : pend u) (hp0 : 0 ≤ p) (hp1 : p ≤ 1400000000000) (h : Strm x d p u wt w) (hs : s.size ≤ 50000) :
    Calls Tryz.prog 42 #[.pointer (some ⟨x, 0, none⟩), .string s] w fun e w' => ∃ ca cn cc fa fn fc, e = .returned (.tuple #[.slice ca cn cc, .slice fa fn fc]) ∧ Strm x d (p + (tot (run u s.data.toList).2 : Nat)) (run u s.data.toList).1 (tsL wt (chs p (run u s.data.toList).2)).1 w' ∧
      Chars w.heap.size (.slice ca cn cc) (tsL wt (chs p (run u s.data.toList).2)).2 w' ∧ FaultsC w.heap.size (.slice fa fn fc) (fcs p (run u s.data.toList).2) w' ∧ Keep (Rest w.heap.size x d) w w' := by
  have hb0 : Below w.heap.size w (w.alloc (.cells #[.slice none 0 0, .slice none 0 0] 98)) := (Below.refl _ _).alloc (Nat.le_refl _) _
  have HM : Hid (Strm x d p u wt (w.alloc (.cells #[.slice none 0 0, .slice none 0 0] 98))) := h.below hb0
  have HK : Hid (Keep (Rest w.heap.size x d) w (w.alloc (.cells #[.slice none 0 0, .slice none 0 0] 98))) := Keep.ofOld hb0
  have HWK : Hid (wok (tsL wt (chs p (run u s.data.toList).2)).1 (p + (tot (run u s.data.toList).2 : Nat))) := tsL_wok _ _ _ (run_pos _ _) h.ok
  have hxw := (str_cells h.str).1
  have HU : Hid (pend u) := hu
  clear h hu hb0
  go_enter Tryz.func42, Tryz.ntmps42
  go_wp2_with fail
  refine (sread_any s HU.out hp0 hp1 HM.out.dec HM.out.str (lies_new (S := Rest w.heap.size x d) (fun k hk => hk.1)) (fun hk => hk.2.1 rfl) (fun hk => hk.2.2 rfl) (by simp) (by simp) hs HM.out.ok).mono ?_
  rintro e w1 ⟨rfl, d1, x1, l1, k1⟩
  rw [List.nil_append, List.nil_append] at l1
  obtain ⟨ao, c, ao2, c2, htw, t0, t1, o1, o2, hc1, hc2⟩ := lies_rows l1 x1 d1
  have HM1 : Hid (Strm x d (p + (tot (run u s.data.toList).2 : Nat)) (run u s.data.toList).1 (tsL wt (chs p (run u s.data.toList).2)).1 w1) := ⟨x1, d1, HWK.out⟩
  have K1 : Hid (Keep (Rest w.heap.size x d) w w1) := HK.out.trans k1
  have O1 : Hid (Chars w.heap.size (.slice ao (tsL wt (chs p (run u s.data.toList).2)).2.length c) (tsL wt (chs p (run u s.data.toList).2)).2 w1) := o1
  have O2 : Hid (FaultsC w.heap.size (.slice ao2 (fcs p (run u s.data.toList).2).length c2) (fcs p (run u s.data.toList).2) w1) := o2
  clear d1 x1 l1 k1 o1 o2
  go_wp2_with fail
  go_quiet (fail)
  go_wp2_with fail
  go_ret2
  have hb := below_drewN (Below.refl w1.heap.size w1) nq
  exact ⟨_, _, _, _, _, _, rfl, HM1.out.below hb, own_below O1.out hb, own_below O2.out hb, K1.out.trans (Keep.ofOld hb)⟩
theorem wok_off (wt : Ch) (p : Int) : wok (off wt) p := fun h => absurd h (off_not wt)
set_option maxRecDepth 20000 in
set_option maxHeartbeats 1000000 in
theorem send_any {x d : Nat} {p : Int} {u : List UInt8} {wt : Ch} {w : World} (h : Strm x d p u wt w) :
    Calls Tryz.prog 35 #[.pointer (some ⟨x, 0, none⟩)] w fun e w' => ∃ ca cn cc fa fn fc, e = .returned (.tuple #[.slice ca cn cc, .slice fa fn fc]) ∧ Strm x d (p + (u.length : Nat)) [] (off (tsL wt (chs p (fin u))).1) w' ∧
      Chars w.heap.size (.slice ca cn cc) ((tsL wt (chs p (fin u))).2 ++ rel (tsL wt (chs p (fin u))).1) w' ∧ FaultsC w.heap.size (.slice fa fn fc) (fcs p (fin u)) w' ∧ Keep (Rest w.heap.size x d) w w' := by
  have hb0 : Below w.heap.size w (w.alloc (.cells #[.slice none 0 0, .slice none 0 0] 98)) := (Below.refl _ _).alloc (Nat.le_refl _) _
  have HM : Hid (Strm x d p u wt (w.alloc (.cells #[.slice none 0 0, .slice none 0 0] 98))) := h.below hb0
  have HK : Hid (Keep (Rest w.heap.size x d) w (w.alloc (.cells #[.slice none 0 0, .slice none 0 0] 98))) := Keep.ofOld hb0
  have hxw := (str_cells h.str).1
  obtain ⟨T, hT⟩ : ∃ T, (tsL wt (chs p (fin u))).2 ++ rel (tsL wt (chs p (fin u))).1 = T := ⟨_, rfl⟩
  rw [hT]
  have HT : Hid ((tsL wt (chs p (fin u))).2 ++ rel (tsL wt (chs p (fin u))).1 = T) := hT
  clear h hb0 hT
  go_enter Tryz.func35, Tryz.ntmps35
  go_wp2_with fail
  refine (sfinish_any HM.out.dec HM.out.str (lies_new (S := Rest w.heap.size x d) (fun k hk => hk.1)) (fun hk => hk.2.1 rfl) (fun hk => hk.2.2 rfl) (by simp) (by simp) HM.out.ok).mono ?_
  rintro e w1 ⟨rfl, d1, x1, l1, k1⟩
  rw [List.nil_append, List.nil_append, HT.out] at l1
  obtain ⟨ao, c, ao2, c2, htw, t0, t1, o1, o2, hc1, hc2⟩ := lies_rows l1 x1 d1
  have HM1 : Hid (Strm x d (p + (u.length : Nat)) [] (off (tsL wt (chs p (fin u))).1) w1) := ⟨x1, d1, wok_off _ _⟩
  have K1 : Hid (Keep (Rest w.heap.size x d) w w1) := HK.out.trans k1
  have O1 : Hid (Chars w.heap.size (.slice ao T.length c) T w1) := o1
  have O2 : Hid (FaultsC w.heap.size (.slice ao2 (fcs p (fin u)).length c2) (fcs p (fin u)) w1) := o2
  clear d1 x1 l1 k1 o1 o2
  go_wp2_with fail
  go_quiet (fail)
  go_wp2_with fail
  go_ret2
  have hb := below_drewN (Below.refl w1.heap.size w1) nq
  exact ⟨_, _, _, _, _, _, rfl, HM1.out.below hb, own_below O1.out hb, own_below O2.out hb, K1.out.trans (Keep.ofOld hb)⟩
set_option maxRecDepth 20000 in
set_option maxHeartbeats 400000 in
theorem snew_any (w : World) : Calls Tryz.prog 30 #[] w fun e w' => e = .returned (.pointer (some ⟨w.heap.size + 1, 0, none⟩)) ∧ Strm (w.heap.size + 1) w.heap.size 0 [] Ch0 w' ∧ Below w.heap.size w w' ∧ w'.heap.size = w.heap.size + 2 := by
  go_enter Tryz.func30, Tryz.ntmps30
  go_wp2_with fail
  refine (new_ok 0 (by omega) (by omega) _).mono ?_
  rintro e w1 ⟨rfl, n1, n2, n3⟩
  have N1 : Hid (DecIs w.heap.size 0 0 F0 w1) := n1
  have N2 : Hid (Below w.heap.size w w1) := n2
  have N3 : Hid (w1.heap.size = w.heap.size + 1) := n3
  clear n1 n2 n3
  go_wp2_with fail
  go_ret
  have hb : ∀ o, Below w1.heap.size w1 (w1.alloc o) := fun o => (Below.refl _ _).alloc (Nat.le_refl _) _
  refine ⟨by rw [N3.out]; rfl, ⟨?_, dec_below N1.out (hb _), fun h => absurd h (by decide)⟩, N2.out.trans ((hb _).mono N2.out.size), by simp [N3.out]⟩
  have := heap_alloc_new w1 (.cells #[.pointer (some ⟨w.heap.size, 0, none⟩), .int .i64 0, .int .i64 0, .int .i64 0] 94)
  rw [N3.out] at this
  exact this
end Go.Proofs.YtdiealijjhfhjaaGreatDoor.G4
namespace Go.Proofs.YtdiealijjhfhjaaGreatDoor.G4
open Go.RowKit
theorem rfs_cons (c : Ch) (l : List Ch) (h : c.r ≠ 13) : rfs (c :: l) = fix c :: rfs l := by
  cases l with
  | nil => rfl
  | cons d l => rw [rfs, if_neg (fun x => h x.1)]
theorem tsL_rfs : ∀ (l : List Ch) (w : Ch), (∀ c ∈ l, c.a < c.z) → ((w.a < w.z → w.r = 10 → (tsL w l).2 ++ rel (tsL w l).1 = rfs (⟨13, w.a, w.z⟩ :: l)) ∧ (¬ w.a < w.z → (tsL w l).2 ++ rel (tsL w l).1 = rfs l))
  | [], w, _ => by
    refine ⟨fun h1 h2 => ?_, fun h => ?_⟩
    · simp [tsL, rel, rfs, fix, h1]; cases w; simp_all
    · simp [tsL, rel, rfs, h]
  | c :: l, w, hl => by
    have hc := hl c (by simp)
    have hl2 : ∀ c ∈ l, c.a < c.z := fun x hx => hl x (by simp [hx])
    have h0 : ¬ Ch0.a < Ch0.z := by decide
    refine ⟨fun h1 h2 => ?_, fun h => ?_⟩
    · by_cases h10 : c.r = 10
      · have e : ts w c = (Ch0, [⟨w.r, w.a, c.z⟩]) := by unfold ts; rw [if_pos ⟨h10, h1⟩]
        have := (tsL_rfs l Ch0 hl2).2 h0
        rw [tsL, e]
        simp only [List.append_assoc]
        rw [this, rfs, if_pos ⟨rfl, h10⟩, h2]; rfl
      · have er : rfs (⟨13, w.a, w.z⟩ :: c :: l) = w :: rfs (c :: l) := by
          rw [rfs, if_neg (fun x => h10 x.2)]
          congr 1
          cases w; simp_all [fix]
        have hre : rel w = [w] := by unfold rel; rw [if_pos h1]
        have hof : off w = Ch0 := by unfold off; rw [if_pos h1]
        rw [er]
        by_cases h13 : c.r = 13
        · have e : ts w c = (⟨10, c.a, c.z⟩, [w]) := by unfold ts; rw [if_neg (fun x => h10 x.1), if_pos h13, hre]
          have := (tsL_rfs l ⟨10, c.a, c.z⟩ hl2).1 hc rfl
          rw [tsL, e]
          simp only [List.append_assoc]
          rw [this]
          have : c = ⟨13, c.a, c.z⟩ := by cases c; simp_all
          rw [← this]; rfl
        · have e : ts w c = (Ch0, [w, fix c]) := by
            unfold ts; rw [if_neg (fun x => h10 x.1), if_neg h13, hre, hof]; simp [fix, h13]
          have := (tsL_rfs l Ch0 hl2).2 h0
          rw [tsL, e]
          simp only [List.append_assoc]
          rw [this, rfs_cons c l h13]; rfl
    · have hre : rel w = [] := by unfold rel; rw [if_neg h]
      have hof : off w = w := by unfold off; rw [if_neg h]
      by_cases h13 : c.r = 13
      · have e : ts w c = (⟨10, c.a, c.z⟩, []) := by unfold ts; rw [if_neg (fun x => h x.2), if_pos h13, hre]
        have := (tsL_rfs l ⟨10, c.a, c.z⟩ hl2).1 hc rfl
        rw [tsL, e]
        simp only [List.nil_append]
        rw [this]
        have : c = ⟨13, c.a, c.z⟩ := by cases c; simp_all
        rw [← this]
      · have e : ts w c = (w, [fix c]) := by
          unfold ts; rw [if_neg (fun x => h x.2), if_neg h13, hre, hof]; simp [fix, h13]
        have := (tsL_rfs l w hl2).2 h
        rw [tsL, e]
        simp only [List.append_assoc]
        rw [this, rfs_cons c l h13]; rfl
theorem chs_wide : ∀ (l : List (Int × Nat)) (p : Int), (∀ x ∈ l, 1 ≤ x.2) → ∀ c ∈ chs p l, c.a < c.z
  | [], _, _ => by simp [chs]
  | (r, n) :: l, p, h => by
    intro c hc
    have := h (r, n) (by simp)
    simp only [chs, List.mem_cons] at hc
    rcases hc with rfl | hc
    · show p < p + (n : Int); simp only at this; omega
    · exact chs_wide l _ (fun x hx => h x (by simp [hx])) c hc
end Go.Proofs.YtdiealijjhfhjaaGreatDoor.G4
