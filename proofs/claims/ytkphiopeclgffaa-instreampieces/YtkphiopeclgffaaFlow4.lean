/- The stream's read, finish, New, Copy, Feed, End; Chars. -/
import Derived.Test.YtkphiopeclgffaaEach
namespace Go.Proofs.Ytkphiopeclgffaa
open Go.RowKit

theorem lies_to {S U : Nat → Prop} {t : Nat} {cs : List Ch} {fs : List (Int × Int)} {w w' : World} (h : Lies S t cs fs w) (hU : ∀ k, U k → k < w'.heap.size)
    (ho : ∀ (g : Nat) (cur : Array Value) (e : TypeId) (m : Nat × Nat), (e = 37 ∨ e = 39 ∨ e = 41) → ¬ S g → w.heap[g]? = some (.cells cur e m) → ¬ U g)
    (k : ∀ (g : Nat) (cur : Array Value) (e : TypeId) (m : Nat × Nat), (e = 37 ∨ e = 39 ∨ e = 41) → ¬ S g → w.heap[g]? = some (.cells cur e m) → w'.heap[g]? = some (.cells cur e m)) : Lies U t cs fs w' := by
  obtain ⟨cv, fv, hb, h1, h2, h3, h4⟩ := h.blk
  have stay : ∀ (e s n : Nat) (v : Value) (xs : List Value), (e = 37 ∨ e = 39 ∨ e = 41) → w.ownsRow 0 e s v n xs → (∀ g, v.ownBlock = some g → ¬ S g) → w'.ownsRow 0 e s v n xs ∧ (∀ g, v.ownBlock = some g → ¬ U g) := by
    intro e s n v xs he hv hs
    rcases hv.2 with hn | ⟨g, cap, cur, hv', hb', hg, rest⟩
    · refine ⟨⟨hv.1, .inl hn⟩, fun g hg => ?_⟩
      rw [hn.1] at hg; simp [Value.ownBlock] at hg
    · have hSg : ¬ S g := hs g (by rw [hv']; simp [Value.ownBlock])
      refine ⟨⟨hv.1, .inr ⟨g, cap, cur, hv', hb', k g cur e (0, 0) he hSg hg, rest⟩⟩, fun g' hg' => ?_⟩
      rw [hv'] at hg'; simp [Value.ownBlock] at hg'; subst hg'
      exact ho g cur e (0, 0) he hSg hg
  obtain ⟨a1, a2⟩ := stay 37 3 _ cv _ (.inl rfl) h1 h3
  obtain ⟨b1, b2⟩ := stay 39 2 _ fv _ (.inr (.inl rfl)) h2 h4
  exact ⟨hU, ho t _ 41 (0, 0) (.inr (.inr rfl)) h.ht hb, cv, fv, k t _ 41 (0, 0) (.inr (.inr rfl)) h.ht hb, a1, b1, a2, b2⟩

/-- What is kept while characters are handed on: S, the decoder, and what its call and the closure have made. -/
def Wide (S : Nat → Prop) (d lo hi : Nat) : Nat → Prop := fun k => S k ∨ k = d ∨ (lo ≤ k ∧ k < hi)

theorem str_ne_dec {x d : Nat} {p q : Int} {f : F} {wt : Ch} {w : World} (hx : StrIs x d wt w) (hd : DecIs d p q f w) : x ≠ d := fun e => by
  unfold StrIs at hx
  unfold DecIs at hd
  rw [e, hd] at hx
  simp at hx

theorem wide_start {S : Nat → Prop} {x d t : Nat} {p : Int} {u : List UInt8} {wt : Ch} {cs : List Ch} {fs : List (Int × Int)} {w w1 w2 : World} (hd : Dec d p u w) (hx : StrIs x d wt w) (hl : Lies S t cs fs w) (hSx : ¬ S x) (hSd : ¬ S d) (ht : Turn w.heap.size d w w1) (hb : Below w1.heap.size w1 w2) :
    StrIs x d wt w2 ∧ ¬ Wide S d w.heap.size w2.heap.size x ∧ Lies (Wide S d w.heap.size w2.heap.size) t cs fs w2 ∧ Keep S w w2 := by
  have hxd := str_ne_dec hx hd
  have hxw := (str_cells hx).1
  have hdw := (dec_cells hd).1
  have z1 := ht.size
  have z2 := hb.size
  have stay : ∀ k, k < w.heap.size → k ≠ d → w2.heap[k]? = w.heap[k]? := fun k hk hne => (hb.block k (by omega)).trans (ht.block k hk hk hne)
  refine ⟨(stay x hxw hxd).trans hx, fun h => ?_, ?_, ⟨hb.os.trans ht.os, hb.tape.trans ht.tape, hb.output.trans ht.output, by omega, fun k hS hk => stay k hk (fun e => hSd (e ▸ hS))⟩⟩
  · rcases h with h | h | h
    · exact hSx h
    · exact hxd h
    · omega
  · refine lies_to hl (fun k hk => ?_) (fun g cur e m he hS hg hw => ?_) fun g cur e m he hS hg => ?_
    · rcases hk with h | h | h
      · have := hl.low k h; omega
      · omega
      · exact h.2
    · have hlt := (Array.getElem?_eq_some_iff.1 hg).1
      rcases hw with h | h | h
      · exact hS h
      · unfold Dec DecIs at hd
        rw [h, hd] at hg; simp at hg
        rcases he with rfl | rfl | rfl <;> simp at hg
      · omega
    · have hlt := (Array.getElem?_eq_some_iff.1 hg).1
      rw [stay g hlt (fun h => by
        unfold Dec DecIs at hd
        rw [h, hd] at hg; simp at hg
        rcases he with rfl | rfl | rfl <;> simp at hg)]
      exact hg

theorem wide_end {S : Nat → Prop} {d lo hi : Nat} {p : Int} {u : List UInt8} {w w2 w3 : World} (hk : Keep S w w2) (hd : Dec d p u w2) (h : Keep (Wide S d lo hi) w2 w3) : Dec d p u w3 ∧ Keep S w w3 :=
  ⟨(h.block d (.inr (.inl rfl)) (dec_cells hd).1).trans hd, hk.trans (h.sub fun _ h => .inl h)⟩

set_option maxHeartbeats 1000000 in
theorem sread_any {S : Nat → Prop} {x d t : Nat} {p : Int} {u : List UInt8} {wt : Ch} {cs : List Ch} {fs : List (Int × Int)} {w : World} (s : ByteArray) (hu : pend u) (hp0 : 0 ≤ p) (hp1 : p ≤ 1400000000000) (hd : Dec d p u w) (hx : StrIs x d wt w) (hl : Lies S t cs fs w) (hSx : ¬ S x) (hSd : ¬ S d) (hn : cs.length ≤ 300000) (hm : fs.length ≤ 300000) (hs : s.size ≤ 50000) (hw : wok wt p) :
    Calls Try.prog 16 #[.pointer (some ⟨x, 0, none⟩), .string s, .pointer (some ⟨t, 0, none⟩)] w fun e w' => e = .returned (.tuple #[]) ∧ Dec d (p + (tot (run u s.data.toList).2 : Nat)) (run u s.data.toList).1 w' ∧ StrIs x d (tsL wt (chs p (run u s.data.toList).2)).1 w' ∧
      Lies S t (cs ++ (tsL wt (chs p (run u s.data.toList).2)).2) (fs ++ fcs p (run u s.data.toList).2) w' ∧ Keep S w w' := by
  have hfew := run_few s.data.toList u
  have hsl : s.data.toList.length = s.size := Array.length_toList
  rw [hsl] at hfew
  have HP1 : Hid (∀ y ∈ (run u s.data.toList).2, 1 ≤ y.2) := run_pos s.data.toList u
  have HP2 : Hid (∀ y ∈ (run u s.data.toList).2, y.1 = -1 ∨ (0 ≤ y.1 ∧ y.1 ≤ 1000000000)) := run_range s.data.toList u hu
  have HD : Hid (Dec d p u w) := hd
  have HX : Hid (StrIs x d wt w) := hx
  have HL : Hid (Lies S t cs fs w) := hl
  have HSX : Hid (¬ S x) := hSx
  have HSD : Hid (¬ S d) := hSd
  have HW : Hid (wok wt p) := hw
  have HU : Hid (pend u) := hu
  obtain ⟨hxw, c0, _, _, _, _⟩ := str_cells hx
  clear hd hx hl hSx hSd hw hu hsl
  go_enter Try.func16, Try.ntmps16
  go_wp2_with fail
  refine (feed_any s HU.out hp0 hp1 HD.out (by omega)).mono ?_
  rintro e w1 ⟨ca, cn, cc, fa, fn, fc, rfl, d1, rc, rf, t1⟩
  have D1 : Hid (Dec d (p + (tot (run u s.data.toList).2 : Nat)) (run u s.data.toList).1 w1) := d1
  have RC : Hid (Chars w.heap.size (.slice ca cn cc) (chs p (run u s.data.toList).2) w1) := rc
  have RF : Hid (Faults w.heap.size (.slice fa fn fc) (fls p (run u s.data.toList).2) w1) := rf
  have T1 : Hid (Turn w.heap.size d w w1) := t1
  clear d1 rc rf t1 c0
  go_wp2_with fail
  refine turn_any.mono ?_
  rintro e w2 ⟨rfl, b1, b2, bb, z2⟩
  obtain ⟨x2, nx2, l2, k2⟩ := wide_start HD.out HX.out HL.out HSX.out HSD.out T1.out bb
  have zz := T1.out.size
  have D2 : Hid (Dec d (p + (tot (run u s.data.toList).2 : Nat)) (run u s.data.toList).1 w2) := dec_below D1.out bb
  have EA := each_any (S := Wide S d w.heap.size w2.heap.size) (B := w.heap.size) p (run u s.data.toList).2 ca cn cc (.slice fa fn fc) HP1.out HP2.out (own_below RC.out bb) (FRow.ofRow (own_below RF.out bb) (fun k h1 h2 => .inr (.inr ⟨h1, h2⟩))) (fun k h1 h2 => .inr (.inr ⟨h1, h2⟩)) x2 nx2 l2 b1 b2 (.inr (.inr ⟨by omega, by omega⟩)) (.inr (.inr ⟨by omega, by omega⟩)) hn hm (by omega) HW.out
  have K2 : Hid (Keep S w w2) := k2
  clear x2 nx2 l2 k2 b1 b2 bb z2 zz RC RF T1 D1
  go_wp2_with fail
  refine EA.mono ?_
  rintro e w3 ⟨rfl, x3, l3, k3⟩
  obtain ⟨d3, k3'⟩ := wide_end K2.out D2.out k3
  have D3 : Hid (Dec d (p + (tot (run u s.data.toList).2 : Nat)) (run u s.data.toList).1 w3) := d3
  have X3 : Hid (StrIs x d (tsL wt (chs p (run u s.data.toList).2)).1 w3) := x3
  have L3 : Hid (Lies S t (cs ++ (tsL wt (chs p (run u s.data.toList).2)).2) (fs ++ fcs p (run u s.data.toList).2) w3) := lies_sub l3 (fun _ h => .inl h)
  have K3 : Hid (Keep S w w3) := k3'
  clear d3 x3 l3 k3 k3' EA
  go_wp2_with fail
  refine bodyPost_end (results_none rfl _ _ _) rfl ?_
  exact ⟨rfl, D3.out, X3.out, L3.out, K3.out⟩

theorem fin_few (u : List UInt8) : (fin u).length ≤ 1 := by unfold fin; split <;> simp

set_option maxHeartbeats 1000000 in
theorem sfinish_any {S : Nat → Prop} {x d t : Nat} {p : Int} {u : List UInt8} {wt : Ch} {cs : List Ch} {fs : List (Int × Int)} {w : World} (hd : Dec d p u w) (hx : StrIs x d wt w) (hl : Lies S t cs fs w) (hSx : ¬ S x) (hSd : ¬ S d) (hn : cs.length ≤ 300000) (hm : fs.length ≤ 300000) (hw : wok wt p) :
    Calls Try.prog 17 #[.pointer (some ⟨x, 0, none⟩), .pointer (some ⟨t, 0, none⟩)] w fun e w' => e = .returned (.tuple #[]) ∧ Dec d (p + (u.length : Nat)) [] w' ∧ StrIs x d (off (tsL wt (chs p (fin u))).1) w' ∧
      Lies S t (cs ++ ((tsL wt (chs p (fin u))).2 ++ rel (tsL wt (chs p (fin u))).1)) (fs ++ fcs p (fin u)) w' ∧ Keep S w w' := by
  have hfew := fin_few u
  have hts := tsL_len (chs p (fin u)) wt
  rw [chs_length] at hts
  have HP1 : Hid (∀ y ∈ fin u, 1 ≤ y.2) := fin_pos u
  have HP2 : Hid (∀ y ∈ fin u, y.1 = -1 ∨ (0 ≤ y.1 ∧ y.1 ≤ 1000000000)) := fin_range u
  have HD : Hid (Dec d p u w) := hd
  have HX : Hid (StrIs x d wt w) := hx
  have HL : Hid (Lies S t cs fs w) := hl
  have HSX : Hid (¬ S x) := hSx
  have HSD : Hid (¬ S d) := hSd
  have HW : Hid (wok wt p) := hw
  obtain ⟨hxw, c0, _, _, _, _⟩ := str_cells hx
  clear hd hx hl hSx hSd hw
  go_enter Try.func17, Try.ntmps17
  go_wp2_with fail
  refine (end_any HD.out).mono ?_
  rintro e w1 ⟨ca, cn, cc, fa, fn, fc, rfl, d1, rc, rf, t1⟩
  have D1 : Hid (Dec d (p + (u.length : Nat)) [] w1) := d1
  have RC : Hid (Chars w.heap.size (.slice ca cn cc) (chs p (fin u)) w1) := rc
  have RF : Hid (Faults w.heap.size (.slice fa fn fc) (fls p (fin u)) w1) := rf
  have T1 : Hid (Turn w.heap.size d w w1) := t1
  clear d1 rc rf t1 c0
  go_wp2_with fail
  refine turn_any.mono ?_
  rintro e w2 ⟨rfl, b1, b2, bb, z2⟩
  obtain ⟨x2, nx2, l2, k2⟩ := wide_start HD.out HX.out HL.out HSX.out HSD.out T1.out bb
  have zz := T1.out.size
  have D2 : Hid (Dec d (p + (u.length : Nat)) [] w2) := dec_below D1.out bb
  have EA := each_any (S := Wide S d w.heap.size w2.heap.size) (B := w.heap.size) p (fin u) ca cn cc (.slice fa fn fc) HP1.out HP2.out (own_below RC.out bb) (FRow.ofRow (own_below RF.out bb) (fun k h1 h2 => .inr (.inr ⟨h1, h2⟩))) (fun k h1 h2 => .inr (.inr ⟨h1, h2⟩)) x2 nx2 l2 b1 b2 (.inr (.inr ⟨by omega, by omega⟩)) (.inr (.inr ⟨by omega, by omega⟩)) hn hm (by omega) HW.out
  have K2 : Hid (Keep S w w2) := k2
  clear x2 nx2 l2 k2 b1 b2 bb z2 zz RC RF T1 D1
  go_wp2_with fail
  refine EA.mono ?_
  rintro e w3 ⟨rfl, x3, l3, k3⟩
  obtain ⟨d3, k3'⟩ := wide_end K2.out D2.out k3
  have D3 : Hid (Dec d (p + (u.length : Nat)) [] w3) := d3
  have X3 : Hid (StrIs x d (tsL wt (chs p (fin u))).1 w3) := x3
  have L3 : Hid (Lies S t (cs ++ (tsL wt (chs p (fin u))).2) (fs ++ fcs p (fin u)) w3) := lies_sub l3 (fun _ h => .inl h)
  have K3 : Hid (Keep S w w3) := k3'
  clear d3 x3 l3 k3 k3' EA
  go_wp2_with fail
  have LL : Lies (fun k => S k ∨ k = d) t (cs ++ (tsL wt (chs p (fin u))).2) (fs ++ fcs p (fin u)) w3 := by
    refine lies_to L3.out (fun k hk => hk.elim (L3.out.low k) (fun e => by have := (dec_cells D3.out).1; omega)) (fun g cur e m he hS hg hw => ?_) fun _ _ _ _ _ _ hg => hg
    rcases hw with h | h
    · exact hS h
    · have hd := D3.out
      unfold Dec DecIs at hd
      rw [h, hd] at hg; simp at hg
      rcases he with rfl | rfl | rfl <;> simp at hg
  refine (release_any X3.out (fun h => h.elim HSX.out (str_ne_dec X3.out D3.out)) LL (by rw [List.length_append]; omega)).mono ?_
  rintro e w4 ⟨rfl, x4, l4, k4⟩
  have D4 : Hid (Dec d (p + (u.length : Nat)) [] w4) := (k4.block d (.inr rfl) (dec_cells D3.out).1).trans D3.out
  have X4 : Hid (StrIs x d (off (tsL wt (chs p (fin u))).1) w4) := x4
  have L4 : Hid (Lies S t (cs ++ (tsL wt (chs p (fin u))).2 ++ rel (tsL wt (chs p (fin u))).1) (fs ++ fcs p (fin u)) w4) := lies_sub l4 (fun _ h => .inl h)
  have K4 : Hid (Keep S w w4) := K3.out.trans (k4.sub fun _ h => .inl h)
  clear x4 l4 k4 D3 X3 L3 K3 LL
  go_wp2_with fail
  refine bodyPost_end (results_none rfl _ _ _) rfl ?_
  have l5 := L4.out
  rw [List.append_assoc] at l5
  exact ⟨rfl, D4.out, X4.out, l5, K4.out⟩

/-- A stream at place p, the bytes u waiting, and a line end. -/
structure Strm (x d : Nat) (p : Int) (u : List UInt8) (wt : Ch) (w : World) : Prop where
  str : StrIs x d wt w
  dec : Dec d p u w
  ok : wok wt p
theorem Strm.ne {x d : Nat} {p : Int} {u : List UInt8} {wt : Ch} {w : World} (h : Strm x d p u wt w) : x ≠ d := str_ne_dec h.str h.dec
theorem Strm.below {x d : Nat} {p : Int} {u : List UInt8} {wt : Ch} {w w' : World} (h : Strm x d p u wt w) (b : Below w.heap.size w w') : Strm x d p u wt w' := ⟨str_below h.str b, dec_below h.dec b, h.ok⟩

/-- All that was there is as it was but the stream and its decoder. -/
def Rest (B x d : Nat) : Nat → Prop := fun k => k < B ∧ k ≠ x ∧ k ≠ d
theorem lies_new {S : Nat → Prop} {w : World} (h : ∀ k, S k → k < w.heap.size) : Lies S w.heap.size [] [] (w.alloc (.cells #[.slice none 0 0, .slice none 0 0] 41)) :=
  ⟨fun k hk => by have := h k hk; simp; omega, fun hk => by have := h _ hk; omega, _, _, heap_alloc_new _ _, World.ownsRow_nil _ _ _ _, World.ownsRow_nil _ _ _ _, fun g hg => by simp [Value.ownBlock] at hg, fun g hg => by simp [Value.ownBlock] at hg⟩
/-- What was told, in memory of its own. -/
theorem lies_rows {B x d t : Nat} {p : Int} {u : List UInt8} {wt : Ch} {cs : List Ch} {fs : List (Int × Int)} {w : World} (h : Lies (Rest B x d) t cs fs w) (hs : StrIs x d wt w) (hd : Dec d p u w) : ∃ ao c ao2 c2, t < w.heap.size ∧ w.cell? ⟨t, 0, none⟩ = some (.slice ao cs.length c) ∧ w.cell? ⟨t, 1, none⟩ = some (.slice ao2 fs.length c2) ∧
    Chars B (.slice ao cs.length c) cs w ∧ FaultsC B (.slice ao2 fs.length c2) fs w ∧ c ≤ maxLen ∧ c2 ≤ maxLen := by
  obtain ⟨ao, c, ao2, c2, htw, t0, t1, _, h1, h2, h3, h4⟩ := lies_cells h
  have up : ∀ (e s n : Nat) (v : Value) (xs : List Value), e ≠ 50 → e ≠ 61 → w.ownsRow 0 e s v n xs → (∀ g, v.ownBlock = some g → ¬ Rest B x d g) → w.ownsRow B e s v n xs := by
    intro e s n v xs he1 he2 hv hS
    rcases hv.2 with hn | ⟨g, cap, cur, hv', _, hg, rest⟩
    · exact ⟨hv.1, .inl hn⟩
    · refine ⟨hv.1, .inr ⟨g, cap, cur, hv', ?_, hg, rest⟩⟩
      have hn := hS g (by rw [hv']; simp [Value.ownBlock])
      by_cases hlt : g < B
      · refine absurd ⟨hlt, fun e => ?_, fun e => ?_⟩ hn
        · unfold StrIs at hs; rw [e, hs] at hg; simp at hg; exact he1 hg.2.symm
        · unfold Dec DecIs at hd; rw [e, hd] at hg; simp at hg; exact he2 hg.2.symm
      · omega
  obtain ⟨_, _, e1, _, q1⟩ := own_form h1
  obtain ⟨_, _, e2, _, q2⟩ := own_form h2
  simp only [Value.slice.injEq] at e1 e2
  obtain ⟨_, _, rfl⟩ := e1
  obtain ⟨_, _, rfl⟩ := e2
  exact ⟨ao, c, ao2, c2, htw, t0, t1, up 37 3 _ _ _ (by decide) (by decide) h1 h3, up 39 2 _ _ _ (by decide) (by decide) h2 h4, q1, q2⟩

set_option maxHeartbeats 1000000 in
theorem sfeed_any {x d : Nat} {p : Int} {u : List UInt8} {wt : Ch} {w : World} (s : ByteArray) (hu : pend u) (hp0 : 0 ≤ p) (hp1 : p ≤ 1400000000000) (h : Strm x d p u wt w) (hs : s.size ≤ 50000) :
    Calls Try.prog 13 #[.pointer (some ⟨x, 0, none⟩), .string s] w fun e w' => ∃ ca cn cc fa fn fc, e = .returned (.tuple #[.slice ca cn cc, .slice fa fn fc]) ∧ Strm x d (p + (tot (run u s.data.toList).2 : Nat)) (run u s.data.toList).1 (tsL wt (chs p (run u s.data.toList).2)).1 w' ∧
      Chars w.heap.size (.slice ca cn cc) (tsL wt (chs p (run u s.data.toList).2)).2 w' ∧ FaultsC w.heap.size (.slice fa fn fc) (fcs p (run u s.data.toList).2) w' ∧ Keep (Rest w.heap.size x d) w w' := by
  have hb0 : Below w.heap.size w (w.alloc (.cells #[.slice none 0 0, .slice none 0 0] 41)) := (Below.refl _ _).alloc (Nat.le_refl _) _
  have HM : Hid (Strm x d p u wt (w.alloc (.cells #[.slice none 0 0, .slice none 0 0] 41))) := h.below hb0
  have HK : Hid (Keep (Rest w.heap.size x d) w (w.alloc (.cells #[.slice none 0 0, .slice none 0 0] 41))) := Keep.ofOld hb0
  have HWK : Hid (wok (tsL wt (chs p (run u s.data.toList).2)).1 (p + (tot (run u s.data.toList).2 : Nat))) := tsL_wok _ _ _ (run_pos _ _) h.ok
  have hxw := (str_cells h.str).1
  have HU : Hid (pend u) := hu
  clear h hu hb0
  go_enter Try.func13, Try.ntmps13
  go_wp2_with fail
  refine (sread_any s HU.out hp0 hp1 HM.out.dec HM.out.str (lies_new (S := Rest w.heap.size x d) (fun k hk => hk.1)) (fun hk => hk.2.1 rfl) (fun hk => hk.2.2 rfl) (by simp) (by simp) hs HM.out.ok).mono ?_
  rintro e w1 ⟨rfl, d1, x1, l1, k1⟩
  rw [List.nil_append, List.nil_append] at l1
  obtain ⟨ao, c, ao2, c2, htw, t0, t1, o1, o2, hc1, hc2⟩ := lies_rows l1 x1 d1
  have HM1 : Hid (Strm x d (p + (tot (run u s.data.toList).2 : Nat)) (run u s.data.toList).1 (tsL wt (chs p (run u s.data.toList).2)).1 w1) := ⟨x1, d1, HWK.out⟩
  have K1 : Hid (Keep (Rest w.heap.size x d) w w1) := HK.out.trans k1
  have O1 : Hid (Chars w.heap.size (.slice ao (tsL wt (chs p (run u s.data.toList).2)).2.length c) (tsL wt (chs p (run u s.data.toList).2)).2 w1) := o1
  have O2 : Hid (FaultsC w.heap.size (.slice ao2 (fcs p (run u s.data.toList).2).length c2) (fcs p (run u s.data.toList).2) w1) := o2
  clear d1 x1 l1 k1 o1 o2
  go_wp2_with fail
  go_quiet (fail)
  go_wp2_with fail
  go_ret2
  have hb := below_drewN (Below.refl w1.heap.size w1) nq
  exact ⟨_, _, _, _, _, _, rfl, HM1.out.below hb, own_below O1.out hb, own_below O2.out hb, K1.out.trans (Keep.ofOld hb)⟩

theorem wok_off (wt : Ch) (p : Int) : wok (off wt) p := fun h => absurd h (off_not wt)

set_option maxHeartbeats 1000000 in
theorem send_any {x d : Nat} {p : Int} {u : List UInt8} {wt : Ch} {w : World} (h : Strm x d p u wt w) :
    Calls Try.prog 14 #[.pointer (some ⟨x, 0, none⟩)] w fun e w' => ∃ ca cn cc fa fn fc, e = .returned (.tuple #[.slice ca cn cc, .slice fa fn fc]) ∧ Strm x d (p + (u.length : Nat)) [] (off (tsL wt (chs p (fin u))).1) w' ∧
      Chars w.heap.size (.slice ca cn cc) ((tsL wt (chs p (fin u))).2 ++ rel (tsL wt (chs p (fin u))).1) w' ∧ FaultsC w.heap.size (.slice fa fn fc) (fcs p (fin u)) w' ∧ Keep (Rest w.heap.size x d) w w' := by
  have hb0 : Below w.heap.size w (w.alloc (.cells #[.slice none 0 0, .slice none 0 0] 41)) := (Below.refl _ _).alloc (Nat.le_refl _) _
  have HM : Hid (Strm x d p u wt (w.alloc (.cells #[.slice none 0 0, .slice none 0 0] 41))) := h.below hb0
  have HK : Hid (Keep (Rest w.heap.size x d) w (w.alloc (.cells #[.slice none 0 0, .slice none 0 0] 41))) := Keep.ofOld hb0
  have hxw := (str_cells h.str).1
  obtain ⟨T, hT⟩ : ∃ T, (tsL wt (chs p (fin u))).2 ++ rel (tsL wt (chs p (fin u))).1 = T := ⟨_, rfl⟩
  rw [hT]
  have HT : Hid ((tsL wt (chs p (fin u))).2 ++ rel (tsL wt (chs p (fin u))).1 = T) := hT
  clear h hb0 hT
  go_enter Try.func14, Try.ntmps14
  go_wp2_with fail
  refine (sfinish_any HM.out.dec HM.out.str (lies_new (S := Rest w.heap.size x d) (fun k hk => hk.1)) (fun hk => hk.2.1 rfl) (fun hk => hk.2.2 rfl) (by simp) (by simp) HM.out.ok).mono ?_
  rintro e w1 ⟨rfl, d1, x1, l1, k1⟩
  rw [List.nil_append, List.nil_append, HT.out] at l1
  obtain ⟨ao, c, ao2, c2, htw, t0, t1, o1, o2, hc1, hc2⟩ := lies_rows l1 x1 d1
  have HM1 : Hid (Strm x d (p + (u.length : Nat)) [] (off (tsL wt (chs p (fin u))).1) w1) := ⟨x1, d1, wok_off _ _⟩
  have K1 : Hid (Keep (Rest w.heap.size x d) w w1) := HK.out.trans k1
  have O1 : Hid (Chars w.heap.size (.slice ao T.length c) T w1) := o1
  have O2 : Hid (FaultsC w.heap.size (.slice ao2 (fcs p (fin u)).length c2) (fcs p (fin u)) w1) := o2
  clear d1 x1 l1 k1 o1 o2
  go_wp2_with fail
  go_quiet (fail)
  go_wp2_with fail
  go_ret2
  have hb := below_drewN (Below.refl w1.heap.size w1) nq
  exact ⟨_, _, _, _, _, _, rfl, HM1.out.below hb, own_below O1.out hb, own_below O2.out hb, K1.out.trans (Keep.ofOld hb)⟩

set_option maxHeartbeats 400000 in
theorem snew_any (w : World) : Calls Try.prog 12 #[] w fun e w' => e = .returned (.pointer (some ⟨w.heap.size + 1, 0, none⟩)) ∧ Strm (w.heap.size + 1) w.heap.size 0 [] Ch0 w' ∧ Below w.heap.size w w' ∧ w'.heap.size = w.heap.size + 2 := by
  go_enter Try.func12, Try.ntmps12
  go_wp2_with fail
  refine (new_ok 0 (by omega) (by omega) _).mono ?_
  rintro e w1 ⟨rfl, n1, n2, n3⟩
  have N1 : Hid (DecIs w.heap.size 0 0 F0 w1) := n1
  have N2 : Hid (Below w.heap.size w w1) := n2
  have N3 : Hid (w1.heap.size = w.heap.size + 1) := n3
  clear n1 n2 n3
  go_wp2_with fail
  go_ret
  have hb : ∀ o, Below w1.heap.size w1 (w1.alloc o) := fun o => (Below.refl _ _).alloc (Nat.le_refl _) _
  refine ⟨by rw [N3.out]; rfl, ⟨?_, dec_below N1.out (hb _), fun h => absurd h (by decide)⟩, N2.out.trans ((hb _).mono N2.out.size), by simp [N3.out]⟩
  have := heap_alloc_new w1 (.cells #[.pointer (some ⟨w.heap.size, 0, none⟩), .int .i64 0, .int .i64 0, .int .i64 0] 50)
  rw [N3.out] at this
  exact this
end Go.Proofs.Ytkphiopeclgffaa
