/- The closure at a byte 0. -/
import Derived.Test.YtkphiopeclgffaaHand
namespace Go.Proofs.Ytkphiopeclgffaa
open Go.RowKit

set_option maxHeartbeats 4000000 in
theorem hand_null {S : Nat → Prop} {x d t bx bt : Nat} {wt : Ch} {p q : Int} {cs : List Ch} {fs : List (Int × Int)} {w : World} (code : Int) (hx : StrIs x d wt w) (hS : ¬ S x) (hl : Lies S t cs fs w) (h1 : BoxIs bx x 31 w) (h2 : BoxIs bt t 43 w) (s1 : S bx) (s2 : S bt) (hn : cs.length ≤ 900000) (hm : fs.length ≤ 900000) (h0 : code ≠ 0)  :
    Calls Try.prog 30 #[.agg #[.int .i64 0, .int .i64 p, .int .i64 q], .int .i64 code, .pointer (some ⟨bt, 0, none⟩), .pointer (some ⟨bx, 0, none⟩)] w fun e w' => e = .returned (.tuple #[]) ∧ StrIs x d (off wt) w' ∧ Lies S t (cs ++ (rel wt ++ [⟨65533, p, q⟩])) (fs ++ if code = 0 then [] else [(code, p)]) w' ∧ Keep S w w' := by
  have HM : Hid (MidK S x d t bx bt w.heap.size wt ⟨0, p, q⟩ cs fs w (w.alloc (.cells #[.int .i64 0, .int .i64 p, .int .i64 q] 37))) := mid_start hx hl h1 h2
  have HS : Hid (¬ (S x ∨ x = w.heap.size)) := fun h => by
    rcases h with h | h
    · exact hS h
    · have := (str_cells hx).1; omega
  have HLOW : Hid (∀ k, S k → k < w.heap.size) := hl.low
  obtain ⟨G, hG⟩ : ∃ G, fs ++ (if code = 0 then [] else [(code, p)]) = G := ⟨_, rfl⟩
  rw [hG]
  have HG : Hid (fs ++ (if code = 0 then [] else [(code, p)]) = G) := hG
  have hrel : (rel wt).length ≤ 1 := rel_len wt
  clear hx hl h1 h2 hS hG
  have hcb : (code != 0) = true := by simpa using h0
  obtain ⟨hxw, y0, y1, y2, y3, _⟩ := str_cells HM.out.str
  obtain ⟨hbxw, bx0⟩ := box_cell HM.out.box1
  obtain ⟨hbtw, bt0⟩ := box_cell HM.out.box2
  obtain ⟨hcw, ch0, ch1, ch2, hcf⟩ := ch_cell HM.out.chr
  obtain ⟨ao, n, c1, ao2, m, c2, ao', c', W', htw, t0, t1, hrun, z0, zb, zf, hM1⟩ := fault_in HM.out s1 s2 code (by omega)
  have HM1 : Hid (MidK S x d t bx bt w.heap.size wt ⟨0, p, q⟩ cs G w (W'.setCell ⟨t, 1, none⟩ (.slice ao' (m + 1) c'))) := by
    have e : fs ++ [(code, p)] = G := by have := HG.out; rw [if_neg h0] at this; exact this
    rw [← e]; exact hM1
  clear hM1 HM
  go_enter Try.func30, Try.ntmps30
  go_wp2_with fail
  generalize w.alloc (.cells #[.int .i64 0, .int .i64 p, .int .i64 q] 37) = W0 at *
  go_cut [] (fun wc => MidK S x d t bx bt w.heap.size wt ⟨0, p, q⟩ cs G w wc)
  case first =>
    go_region_law (refine step_append_eq rfl _ _ 24 24 rfl _ _ (by simp [Act.eval]) (by simp [Act.eval]) hrun ?_)
    all_goals
      go_wp2_with fail
      go_meet
      case rel => exact HM1.out
  case rest =>
    clear hrun z0 zb zf t0 t1 HM1 hxw y0 y1 y2 y3 hbxw bx0 hbtw bt0 hcw ch0 ch1 ch2 hcf htw
    have HM0 : Hid (MidK S x d t bx bt w.heap.size wt ⟨0, p, q⟩ cs G w wc) := hcut
    clear hcut
    obtain ⟨hxw, y0, y1, y2, y3, _⟩ := str_cells HM0.out.str
    obtain ⟨hbxw, bx0⟩ := box_cell HM0.out.box1
    obtain ⟨hbtw, bt0⟩ := box_cell HM0.out.box2
    obtain ⟨hcw, ch0, ch1, ch2, hcf⟩ := ch_cell HM0.out.chr
    go_wp2_with fail
    refine (release_any HM0.out.str HS.out HM0.out.lies (by omega)).mono ?_
    rintro e w2 ⟨rfl, r1, r2, r3⟩
    have HM2 : Hid (MidK S x d t bx bt w.heap.size (off wt) ⟨0, p, q⟩ (cs ++ rel wt) G w w2) := HM0.out.next s1 s2 r1 r2 r3
    clear r1 r2 r3 HM0 hxw y0 y1 y2 y3 hbxw bx0 hbtw bt0 hcw ch0 ch1 ch2 hcf
    obtain ⟨hxw, y0, y1, y2, y3, hyf⟩ := str_cells HM2.out.str
    have f1 := hyf 1
    have f2 := hyf 2
    have f3 := hyf 3
    obtain ⟨hbxw, bx0⟩ := box_cell HM2.out.box1
    obtain ⟨hbtw, bt0⟩ := box_cell HM2.out.box2
    obtain ⟨hcw, ch0, ch1, ch2, hcf⟩ := ch_cell HM2.out.chr
    clear hyf
    have hbtl : bt < w.heap.size := HLOW.out bt s2
    have hbtn : bt ≠ w.heap.size := Nat.ne_of_lt hbtl
    go_wp2_with fail
    obtain ⟨m1, m2, m3, m4, m5⟩ := mid_chr HM2.out (Nat.le_refl _) HLOW.out 65533 _ rfl
    refine (tellc_any ⟨65533, p, q⟩ m2 (by rw [List.length_append]; omega)).mono ?_
    rintro e w3 ⟨rfl, l3, k3, o3⟩
    have L3 : Hid (Lies S t (cs ++ rel wt ++ [⟨65533, p, q⟩]) G w3) := l3
    have K3 : Hid (Keep S w w3) := m5.trans k3
    have X3 : Hid (StrIs x d (off wt) w3) := str_off m1 o3
    clear l3 k3 o3 m1 m2 m3 m4 m5
    go_wp2_with fail
    refine bodyPost_end (results_none rfl _ _ _) rfl ?_
    have L3' := L3.out
    rw [List.append_assoc] at L3'
    exact ⟨rfl, X3.out, L3', K3.out⟩

end Go.Proofs.Ytkphiopeclgffaa
