/- The stream's Copy; Chars. -/
import Derived.Test.YtkphiopeclgffaaFlow4
namespace Go.Proofs.Ytkphiopeclgffaa
open Go.RowKit

structure Cop (x d B : Nat) (p : Int) (u : List UInt8) (wt : Ch) (w w' : World) : Prop where
  old : Strm x d p u wt w'
  new : Dec B p u w'
  below : Below B w w'
  size : w'.heap.size = B + 1

theorem copy_of {x d : Nat} {p : Int} {u : List UInt8} {wt : Ch} {w W : World} (h : Strm x d p u wt w) (b : Below w.heap.size w W) (hz : W.heap.size = w.heap.size) : Calls Try.prog 21 #[.pointer (some ⟨d, 0, none⟩)] W fun e w' => e = .returned (.pointer (some ⟨w.heap.size, 0, none⟩)) ∧ Cop x d w.heap.size p u wt w w' := by
  refine (copy_any (dec_below h.dec b)).mono ?_
  rintro e w' ⟨he, h1, h2, h3⟩
  rw [hz] at he h1 h2 h3
  exact ⟨he, (h.below b).below (by rw [hz]; exact h2), h1, b.trans h2, h3⟩

set_option maxHeartbeats 2000000 in
theorem scopy_any {x d : Nat} {p : Int} {u : List UInt8} {wt : Ch} {w : World} (h : Strm x d p u wt w) : Calls Try.prog 15 #[.pointer (some ⟨x, 0, none⟩)] w fun e w' => e = .returned (.pointer (some ⟨w.heap.size + 1, 0, none⟩)) ∧ Strm (w.heap.size + 1) w.heap.size p u wt w' ∧ Strm x d p u wt w' ∧ Below w.heap.size w w' ∧ w'.heap.size = w.heap.size + 2 := by
  have HM : Hid (Strm x d p u wt w) := h
  obtain ⟨hxw, y0, y1, y2, y3, _⟩ := str_cells h.str
  clear h
  go_enter Try.func15, Try.ntmps15
  go_wp2_with fail
  go_region_with (go_at_call 21; refine (copy_of HM.out ((Below.refl _ _).drew) rfl).mono ?_; rintro e w1 ⟨rfl, c1⟩; have C1 : Hid (Cop x d w.heap.size p u wt w w1) := c1; obtain ⟨hxw1, z0, z1, z2, z3, _⟩ := str_cells c1.old.str; clear c1)
  all_goals
    go_wp2_with fail
    go_ret
    have c1 := C1.out
    have hb : ∀ o, Below w1.heap.size w1 (w1.alloc o) := fun o => (Below.refl _ _).alloc (Nat.le_refl _) _
    refine ⟨by rw [c1.size]; rfl, ⟨?_, dec_below c1.new (hb _), HM.out.ok⟩, c1.old.below (hb _), c1.below.trans ((hb _).mono c1.below.size), by simp [c1.size]⟩
    have := heap_alloc_new w1 (.cells #[.pointer (some ⟨w.heap.size, 0, none⟩), .int .i64 wt.r, .int .i64 wt.a, .int .i64 wt.z] 50)
    rw [c1.size] at this
    exact this

/-- The stream's characters and faults of a whole text. -/
def outc (s : List UInt8) : List Ch := rfs (chs 0 (items s))
theorem out_ok (s : List UInt8) : (tsL Ch0 (chs 0 (run [] s).2)).2 ++ ((tsL (tsL Ch0 (chs 0 (run [] s).2)).1 (chs (0 + (tot (run [] s).2 : Nat)) (fin (run [] s).1))).2 ++ rel (tsL (tsL Ch0 (chs 0 (run [] s).2)).1 (chs (0 + (tot (run [] s).2 : Nat)) (fin (run [] s).1))).1) = outc s ∧
    fcs 0 (run [] s).2 ++ fcs (0 + (tot (run [] s).2 : Nat)) (fin (run [] s).1) = fcs 0 (items s) := by
  obtain ⟨_, r2, _, _⟩ := run_ok s [] trivial
  rw [List.nil_append] at r2
  have h := (tsL_rfs (chs 0 (items s)) Ch0 (chs_wide _ _ (items_pos s))).2 (by decide)
  refine ⟨?_, ?_⟩
  · unfold outc
    rw [← h, r2, chs_append, tsL_append]
    simp only [List.append_assoc]
  · rw [r2, fcs_append]

set_option maxHeartbeats 1000000 in
theorem chars_any {w : World} (s : ByteArray) (hs : s.size ≤ 50000) :
    Calls Try.prog 8 #[.string s] w fun e w' => ∃ ca cn cc fa fn fc, e = .returned (.tuple #[.slice ca cn cc, .slice fa fn fc]) ∧
      Chars w.heap.size (.slice ca cn cc) (outc s.data.toList) w' ∧ FaultsC w.heap.size (.slice fa fn fc) (fcs 0 (items s.data.toList)) w' ∧ Below w.heap.size w w' := by
  obtain ⟨o1, o2⟩ := out_ok s.data.toList
  have hfew := run_few s.data.toList []
  have hsl : s.data.toList.length = s.size := Array.length_toList
  rw [hsl] at hfew
  have hts := tsL_len (chs 0 (run [] s.data.toList).2) Ch0
  rw [chs_length] at hts
  have hfc := fcs_length (run [] s.data.toList).2 0
  have hrw := tsL_wok (run [] s.data.toList).2 Ch0 0 (run_pos _ _) (fun h => absurd h (by decide))
  obtain ⟨U, hU⟩ : ∃ U, (run [] s.data.toList).1 = U := ⟨_, rfl⟩
  obtain ⟨L, hL⟩ : ∃ L, (run [] s.data.toList).2 = L := ⟨_, rfl⟩
  rw [hU, hL] at o1 o2
  rw [hL] at hfew hts hfc hrw
  have HU : Hid ((run [] s.data.toList).1 = U) := hU
  have HL : Hid ((run [] s.data.toList).2 = L) := hL
  have O1 : Hid ((tsL Ch0 (chs 0 L)).2 ++ ((tsL (tsL Ch0 (chs 0 L)).1 (chs (0 + (tot L : Nat)) (fin U))).2 ++ rel (tsL (tsL Ch0 (chs 0 L)).1 (chs (0 + (tot L : Nat)) (fin U))).1) = outc s.data.toList) := o1
  have O2 : Hid (fcs 0 L ++ fcs (0 + (tot L : Nat)) (fin U) = fcs 0 (items s.data.toList)) := o2
  have HW : Hid (wok (tsL Ch0 (chs 0 L)).1 (0 + (tot L : Nat))) := hrw
  clear hU hL o1 o2 hrw hsl
  go_enter Try.func8, Try.ntmps8
  go_wp2_with fail
  refine (snew_any _).mono ?_
  rintro e w1 ⟨rfl, n1, n2, n3⟩
  have hb0 : Below w1.heap.size w1 (w1.alloc (.cells #[.slice none 0 0, .slice none 0 0] 41)) := (Below.refl _ _).alloc (Nat.le_refl _) _
  have HM : Hid (Strm (w.heap.size + 1) w.heap.size 0 [] Ch0 (w1.alloc (.cells #[.slice none 0 0, .slice none 0 0] 41))) := n1.below hb0
  have HB1 : Hid (Below w.heap.size w (w1.alloc (.cells #[.slice none 0 0, .slice none 0 0] 41))) := n2.trans (hb0.mono n2.size)
  have HN : Hid (w1.heap.size = w.heap.size + 2) := n3
  clear n1 n2 n3 hb0
  go_wp2_with fail
  refine (sread_any (u := []) s trivial (Int.le_refl 0) (by omega) HM.out.dec HM.out.str (lies_new (S := fun k => k < w.heap.size) (fun k hk => by have := HN.out; omega)) (by omega) (by omega) (by simp) (by simp) hs HM.out.ok).mono ?_
  rintro e w2 ⟨rfl, d2, x2, l2, k2⟩
  rw [HU.out, HL.out] at d2
  rw [HL.out] at x2 l2
  rw [List.nil_append, List.nil_append] at l2
  have D2 : Hid (Dec w.heap.size (0 + (tot L : Nat)) U w2) := d2
  have X2 : Hid (StrIs (w.heap.size + 1) w.heap.size (tsL Ch0 (chs 0 L)).1 w2) := x2
  have L2 : Hid (Lies (fun k => k < w.heap.size) w1.heap.size (tsL Ch0 (chs 0 L)).2 (fcs 0 L) w2) := l2
  have K2 : Hid (Keep (fun k => k < w.heap.size) w w2) := (Keep.mk HB1.out.os HB1.out.tape HB1.out.output HB1.out.size (fun k hk _ => HB1.out.block k hk)).trans k2
  clear d2 x2 l2 k2
  go_wp2_with fail
  refine (sfinish_any D2.out X2.out L2.out (by omega) (by omega) (by omega) (by omega) HW.out).mono ?_
  rintro e w3 ⟨rfl, d3, x3, l3, k3⟩
  rw [O1.out, O2.out] at l3
  have hlow : Lies (Rest w.heap.size (w.heap.size + 1) w.heap.size) w1.heap.size (outc s.data.toList) (fcs 0 (items s.data.toList)) w3 := lies_sub l3 (fun _ h => h.1)
  obtain ⟨ao, c, ao2, c2, htw, t0, t1, q1, q2, hc1, hc2⟩ := lies_rows hlow x3 d3
  have kk := K2.out.trans k3
  have G3 : Hid (Below w.heap.size w w3) := ⟨kk.os, kk.tape, kk.output, kk.size, fun k hk => kk.block k hk hk⟩
  have Q1 : Hid (Chars w.heap.size (.slice ao (outc s.data.toList).length c) (outc s.data.toList) w3) := q1
  have Q2 : Hid (FaultsC w.heap.size (.slice ao2 (fcs 0 (items s.data.toList)).length c2) (fcs 0 (items s.data.toList)) w3) := q2
  clear d3 x3 l3 k3 hlow q1 q2 kk
  go_wp2_with fail
  go_quiet (fail)
  go_wp2_with fail
  go_ret2
  have hb := below_drewN (Below.refl w3.heap.size w3) nq
  exact ⟨_, _, _, _, _, _, rfl, own_below Q1.out hb, own_below Q2.out hb, below_drewN G3.out nq⟩
end Go.Proofs.Ytkphiopeclgffaa
