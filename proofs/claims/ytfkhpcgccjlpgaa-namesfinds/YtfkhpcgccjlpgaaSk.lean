/- math/bits.Len, nextPowerOfTwo, xorshift's Next, breakPatternsOrdered, at bytes. -/
import Derived.Test.YtfkhpcgccjlpgaaSc
import Derived.OpenShut
namespace Go.Proofs.Ytfkhpcgccjlpgaa
open Go.RowKit Go.Sort

/-- What is asked of the table of lengths. -/
def tabOk (B : ByteArray) : Bool := (List.range B.size).all fun x => decide (B[x]!.toNat ≤ 8) && decide (x < 2 ^ B[x]!.toNat) && (decide (x = 0) || decide (2 ^ B[x]!.toNat ≤ 2 * x))
theorem tab_at {B : ByteArray} {x : Nat} (hx : x < B.size) (h : tabOk B = true) : B[x].toNat ≤ 8 ∧ x < 2 ^ B[x].toNat ∧ (0 < x → 2 ^ B[x].toNat ≤ 2 * x) := by
  have := List.all_eq_true.1 h x (List.mem_range.2 hx)
  simp only [Bool.and_eq_true, Bool.or_eq_true, decide_eq_true_eq] at this
  rw [getElem!_pos B x hx] at this
  exact ⟨this.1.1, this.1.2, fun h0 => this.2.resolve_left (by omega)⟩
theorem tab_ret {B : ByteArray} {x : Nat} {hx : x < B.size} {w : World} (h : tabOk B = true) : ∃ t : Nat, Ending.returned (.int .i64 (wrap64 (wrap64 (B[x].toNat : Int)))) = .returned (.int .i64 t) ∧ (t ≤ 9 ∧ x < 2 ^ t ∧ (0 < x → 2 ^ t ≤ 2 * x)) ∧ w = w := by
  have h1 := tab_at hx h
  refine ⟨B[x].toNat, ?_, ⟨by omega, h1.2.1, h1.2.2⟩, rfl⟩
  have : wrap64 (B[x].toNat : Int) = (B[x].toNat : Int) := by unfold wrap64; omega
  rw [this, this]

theorem tab9 {B : ByteArray} {hx : 1 < B.size} (h : B[1]!.toNat = 1) : Ending.returned (.int .i64 (wrap64 ((8 : Int) + wrap64 (B[1].toNat : Int)))) = .returned (.int .i64 9) := by
  rw [getElem!_pos B 1 hx] at h
  rw [h, show wrap64 ((8 : Int) + wrap64 ((1 : Nat) : Int)) = 9 by unfold wrap64; omega]
theorem pow_all : ∀ t : Fin 10, IntKind.u64.wrap ((2 : Int) ^ t.val) = ((2 ^ t.val : Nat) : Int) := by decide +kernel
theorem pow_ret {t : Nat} (h : t ≤ 9) : Ending.returned (.int .u64 (IntKind.u64.wrap ((2 : Int) ^ t))) = .returned (.int .u64 ((2 ^ t : Nat) : Int)) := by rw [pow_all ⟨t, by omega⟩]

set_option maxHeartbeats 1000000 in
set_option maxRecDepth 10000 in
theorem len64_lo (x : Nat) (hx : x < 256) (w : World) : Calls Try.prog 42 #[.int .u64 (x : Int)] w fun e w' => ∃ t : Nat, e = .returned (.int .i64 t) ∧ (t ≤ 9 ∧ x < 2 ^ t ∧ (0 < x → 2 ^ t ≤ 2 * x)) ∧ w' = w := by
  have g1 : decide ((4294967296 : Int) ≤ (x : Int)) = false := decide_eq_false (by omega)
  have g2 : decide ((65536 : Int) ≤ (x : Int)) = false := decide_eq_false (by omega)
  have g3 : decide ((256 : Int) ≤ (x : Int)) = false := decide_eq_false (by omega)
  go_enter Try.func42, Try.ntmps42
  go_wp2_with fail
  go_ret
  exact tab_ret (by decide +kernel)

set_option maxHeartbeats 1000000 in
set_option maxRecDepth 100000 in
theorem len64_256 (w : World) : Calls Try.prog 42 #[.int .u64 256] w fun e w' => e = .returned (.int .i64 9) ∧ w' = w := by
  go_enter Try.func42, Try.ntmps42
  go_wp2_with fail
  go_ret
  exact ⟨tab9 (by decide +kernel), rfl⟩

theorem len64_any (x : Nat) (hx : x ≤ 256) (w : World) : Calls Try.prog 42 #[.int .u64 (x : Int)] w fun e w' => ∃ t : Nat, e = .returned (.int .i64 t) ∧ (t ≤ 9 ∧ x < 2 ^ t ∧ (0 < x → 2 ^ t ≤ 2 * x)) ∧ w' = w := by
  by_cases h : x < 256
  · exact len64_lo x h w
  · obtain rfl : x = 256 := by omega
    refine (len64_256 w).mono ?_
    rintro e w' ⟨rfl, rfl⟩
    exact ⟨9, rfl, by decide, rfl⟩

set_option maxHeartbeats 400000 in
theorem len_any (x : Nat) (hx : x ≤ 256) (w : World) : Calls Try.prog 31 #[.int .u64 (x : Int)] w fun e w' => ∃ t : Nat, e = .returned (.int .i64 t) ∧ (t ≤ 9 ∧ x < 2 ^ t ∧ (0 < x → 2 ^ t ≤ 2 * x)) ∧ w' = w := by
  go_enter Try.func31, Try.ntmps31
  go_wp2_with fail
  refine (len64_any x hx w).mono ?_
  rintro e w' ⟨t, rfl, ht, rfl⟩
  go_wp2_with fail
  go_ret
  exact ⟨t, rfl, ht, rfl⟩

set_option maxHeartbeats 400000 in
theorem npow_any (x : Nat) (hx : x ≤ 256) (w : World) : Calls Try.prog 44 #[.int .i64 (x : Int)] w fun e w' => ∃ t : Nat, e = .returned (.int .u64 ((2 ^ t : Nat) : Int)) ∧ (t ≤ 9 ∧ x < 2 ^ t ∧ (0 < x → 2 ^ t ≤ 2 * x)) ∧ w' = w := by
  have hw : IntKind.u64.wrap (x : Int) = (x : Int) := by rw [IntKind.wrap_u64]; omega
  go_enter Try.func44, Try.ntmps44
  go_wp2_with fail
  refine (len_any x hx w).mono ?_
  rintro e w' ⟨t, rfl, ht, rfl⟩
  have h9 := ht.1
  go_wp2_with fail
  go_ret
  exact ⟨t, pow_ret h9, ht, rfl⟩

theorem xor_wf (x y : Int) : 0 ≤ bits .xor .u64 x y ∧ bits .xor .u64 x y < 18446744073709551616 := by
  have := wf_bits .xor .u64 x y
  simp only [Lit.wf, Bool.and_eq_true, decide_eq_true_eq] at this
  have h1 : IntKind.u64.max = 18446744073709551615 := rfl
  have h0 : IntKind.u64.min = 0 := rfl
  rw [h1, h0] at this
  omega

set_option maxHeartbeats 1000000 in
theorem next_any {w : World} {p : Nat} {r : Int} (h : w.cell? ⟨p, 0, none⟩ = some (.int .u64 r)) (hf : w.frozen? ⟨p, 0, none⟩ = false) :
    Calls Try.prog 45 #[.pointer (some ⟨p, 0, none⟩)] w fun e w' => ∃ r' : Int, e = .returned (.int .u64 r') ∧ 0 ≤ r' ∧ r' < 18446744073709551616 ∧ w'.cell? ⟨p, 0, none⟩ = some (.int .u64 r') ∧ w'.frozen? ⟨p, 0, none⟩ = false ∧ Mv p w w' := by
  have hp : p < w.heap.size := lt_of_cell h
  have step : ∀ (W : World) (v : Value) (u : Int), Mv p w W → W.cell? ⟨p, 0, none⟩ = some v → W.frozen? ⟨p, 0, none⟩ = false → Mv p w (W.setCell ⟨p, 0, none⟩ (.int .u64 u)).drew ∧ (W.setCell ⟨p, 0, none⟩ (.int .u64 u)).drew.cell? ⟨p, 0, none⟩ = some (.int .u64 u) ∧ (W.setCell ⟨p, 0, none⟩ (.int .u64 u)).drew.frozen? ⟨p, 0, none⟩ = false := fun W v u h1 h2 h3 =>
    ⟨(h1.set 0 _).drew, World.cell?_setCell_same _ _ _ h2, by rw [World.frozen?_drew, World.frozen?_setCell]; exact h3⟩
  have HS := (show Hid _ from step)
  clear step
  go_enter Try.func45, Try.ntmps45
  go_wp2_with fail
  go_region
  generalize bits BinOp.xor IntKind.u64 r (IntKind.u64.wrap (r * 8192)) = r1
  have H1 := HS.out w _ r1 (Mv.refl p w) h hf
  generalize (w.setCell ⟨p, 0, none⟩ (.int .u64 r1)).drew = W1 at H1 ⊢
  obtain ⟨m1, c1, f1⟩ := H1
  have M1 : Hid (Mv p w W1) := m1
  have hp1 : p < W1.heap.size := lt_of_cell c1
  clear m1 h hf
  go_wp2_with fail
  go_region
  generalize bits BinOp.xor IntKind.u64 r1 (r1 / 128) = r2
  have H2 := HS.out W1 _ r2 M1.out c1 f1
  generalize (W1.setCell ⟨p, 0, none⟩ (.int .u64 r2)).drew = W2 at H2 ⊢
  obtain ⟨m2, c2, f2⟩ := H2
  have M2 : Hid (Mv p w W2) := m2
  have hp2 : p < W2.heap.size := lt_of_cell c2
  clear m2 c1 f1
  go_wp2_with fail
  go_region
  have hwf := xor_wf r2 (IntKind.u64.wrap (r2 * 131072))
  generalize bits BinOp.xor IntKind.u64 r2 (IntKind.u64.wrap (r2 * 131072)) = r3 at hwf ⊢
  have H3 := HS.out W2 _ r3 M2.out c2 f2
  generalize (W2.setCell ⟨p, 0, none⟩ (.int .u64 r3)).drew = W3 at H3 ⊢
  obtain ⟨m3, c3, f3⟩ := H3
  have M3 : Hid (Mv p w W3) := m3
  have hp3 : p < W3.heap.size := lt_of_cell c3
  clear m3 c2 f2
  go_wp2_with fail
  go_ret
  exact ⟨r3, rfl, hwf.1, hwf.2, c3, f3, M3.out⟩
theorem and_mask (t M1 : Nat) (r : Int) (ht : t ≤ 9) (hM : 2 ^ t = M1 + 1) (h0 : 0 ≤ r) (h1 : r < 18446744073709551616) : ∃ o : Nat, bits .and .u64 r (M1 : Int) = (o : Int) ∧ o < 2 ^ t := by
  have e : bits .and .u64 r (2 ^ t - 1) = r % 2 ^ t := bits_mask .u64 64 (by decide) (fun n h0 h1 => by rw [IntKind.wrap_u64]; omega) t (by omega) r h0 h1
  have e2 : ((2 : Int) ^ t) = ((2 ^ t : Nat) : Int) := by simp
  rw [e2, hM, show ((M1 + 1 : Nat) : Int) - 1 = (M1 : Int) by omega] at e
  rw [hM]
  have g0 := Int.emod_nonneg r (b := ((M1 + 1 : Nat) : Int)) (by omega)
  have g1 := Int.emod_lt_of_pos r (b := ((M1 + 1 : Nat) : Int)) (by omega)
  obtain ⟨z, hz⟩ : ∃ z, r % ((M1 + 1 : Nat) : Int) = z := ⟨_, rfl⟩
  rw [hz] at g0 g1 e
  exact ⟨z.toNat, by rw [e]; omega, by omega⟩

theorem mv_new {k p : Nat} {w wr w2 : World} (h : Mv k w wr) (m : Mv p wr w2) (hp : w.heap.size ≤ p) : Mv k w w2 :=
  ⟨m.os.trans h.os, m.tape.trans h.tape, m.output.trans h.output, Nat.le_trans h.size m.size, fun i hi hk => (m.block i (Nat.lt_of_lt_of_le hi h.size) (by omega)).trans (h.block i hi hk)⟩

set_option maxHeartbeats 2000000 in
theorem brk_any {w : World} {k n : Nat} (cap : Nat) {d : Array Int} {a b : Nat} (hz : d.size = n) (hn : n ≤ 256) (hH : HB w k d) (hk : k < w.heap.size) (hb : b ≤ n) (hl : a + 8 ≤ b) :
    Calls Try.prog 34 #[.slice (some ⟨k, 0, none⟩) n cap, .int .i64 a, .int .i64 b] w fun e w' => e = .returned (.tuple #[]) ∧ ∃ d', PermIn a b d d' ∧ d'.size = n ∧ HB w' k d' ∧ Mv k w w' := by
  obtain ⟨l, hl0⟩ : ∃ l, b - a = l := ⟨_, rfl⟩
  have el : (b : Int) - (a : Int) = (l : Int) := by omega
  have hl8 : decide ((8 : Int) ≤ (l : Int)) = true := decide_eq_true (by omega)
  have hl2 : l ≤ 256 := by omega
  have lw : IntKind.u64.wrap (l : Int) = (l : Int) := by rw [IntKind.wrap_u64]; omega
  obtain ⟨q, hq⟩ : ∃ q, l / 4 = q := ⟨_, rfl⟩
  have eq : (l : Int).tdiv 4 = (q : Int) := by rw [Int.tdiv_eq_ediv_of_nonneg (by omega)]; omega
  obtain ⟨q2, hq2⟩ : ∃ q2, q * 2 = q2 := ⟨_, rfl⟩
  have eq2 : (q : Int) * 2 = (q2 : Int) := by omega
  obtain ⟨j, hj⟩ : ∃ j, a + q2 = j := ⟨_, rfl⟩
  have ej : (a : Int) + (q2 : Int) = (j : Int) := by omega
  obtain ⟨j0, hj0⟩ : ∃ j0, j - 1 = j0 := ⟨_, rfl⟩
  have ej0 : (j : Int) - 1 = (j0 : Int) := by omega
  obtain ⟨j1, hj1⟩ : ∃ j1, j + 1 = j1 := ⟨_, rfl⟩
  have ej1 : (j : Int) + 1 = (j1 : Int) := by omega
  have bj : a ≤ j0 ∧ j0 ≤ j1 ∧ j1 < b := by omega
  obtain ⟨W, hW⟩ : ∃ W, W = w.alloc (.cells #[.int .u64 (l : Int)] 72) := ⟨_, rfl⟩
  have HW : Hid (W = w.alloc (.cells #[.int .u64 (l : Int)] 72)) := hW
  have H0 : Hid (d.size = n ∧ HB W k d ∧ W.cell? ⟨w.heap.size, 0, none⟩ = some (.int .u64 (l : Int)) ∧ W.frozen? ⟨w.heap.size, 0, none⟩ = false ∧ Mv k w W) := by
    have hbe : Below w.heap.size w W := by rw [hW]; exact (Below.refl _ _).alloc (Nat.le_refl _) _
    refine ⟨hz, fun j hj => ⟨(hbe.cell (p := ⟨k, j, none⟩) hk).trans (hH j hj).1, (hbe.frozen (p := ⟨k, j, none⟩) hk).trans (hH j hj).2⟩, by rw [hW]; simp, by rw [hW]; simp, hbe.os, hbe.tape, hbe.output, hbe.size, fun i hi _ => hbe.block i hi⟩
  have HL : Hid (b - a = l) := hl0
  obtain ⟨p, hp⟩ : ∃ p, w.heap.size = p := ⟨_, rfl⟩
  have hkp : k ≠ p := by omega
  have hpk : p ≠ k := by omega
  clear hW hz hH hl0 hq hq2 hj hj0 hj1
  go_enter Try.func34, Try.ntmps34
  go_wp2_with fail
  rw [← HW.out]
  refine (npow_any l hl2 W).mono ?_
  rintro e w1 ⟨t, rfl, ht, rfl⟩
  obtain ⟨M1, hM1⟩ : ∃ M1, 2 ^ t = M1 + 1 := ⟨2 ^ t - 1, by have := Nat.two_pow_pos t; omega⟩
  have HM : Hid (2 ^ t = M1 + 1 ∧ t ≤ 9 ∧ 2 ^ t ≤ 2 * l) := ⟨hM1, ht.1, ht.2.2 (by omega)⟩
  obtain ⟨M, hM⟩ : ∃ M, 2 ^ t = M := ⟨_, rfl⟩
  rw [hM]
  have eM : (M : Int) - 1 = (M1 : Int) := by omega
  have hMb : M ≤ 1000 := by have := HM.out; omega
  rw [hp] at H0
  clear hM hM1 ht HW
  go_wp2_with fail
  go_loopw [9, 10] (fun iv _ wr => ∃ (i : Nat) (di : Array Int) (r : Int), iv = .int .i64 i ∧ j0 ≤ i ∧ i ≤ j1 + 1 ∧ PermIn a b d di ∧ di.size = n ∧ HB wr k di ∧ wr.cell? ⟨p, 0, none⟩ = some (.int .u64 r) ∧ wr.frozen? ⟨p, 0, none⟩ = false ∧ Mv k w wr) (fun iv _ _ => j1 + 1 - (intOf iv).toNat)
  case atStart => exact ⟨j0, d, l, rfl, Nat.le_refl _, by omega, permIn_refl d a b, H0.out.1, H0.out.2.1, H0.out.2.2.1, H0.out.2.2.2.1, H0.out.2.2.2.2⟩
  case round =>
    obtain ⟨i, di, r, rfl, hi0, hi1, hpm, hz, hH, hc, hf, hmv⟩ := hrel
    by_cases hij : i ≤ j1
    · have HI : Hid (PermIn a b d di ∧ di.size = n ∧ HB wr k di ∧ Mv k w wr) := ⟨hpm, hz, hH, hmv⟩
      have hnx := next_any hc hf
      have hkr : k < wr.heap.size := by have := hmv.size; omega
      clear hpm hz hH hmv hc hf H0
      go_wp2_with fail
      refine hnx.mono ?_
      rintro e w2 ⟨r', rfl, r0, r1, c2, f2, m2⟩
      obtain ⟨o, ho, hom⟩ := and_mask t M1 r' HM.out.2.1 HM.out.1 r0 r1
      have ho2 : o < 2 * l := by have := HM.out; omega
      have H2 : Hid (HB w2 k di ∧ w2.cell? ⟨p, 0, none⟩ = some (.int .u64 r') ∧ w2.frozen? ⟨p, 0, none⟩ = false ∧ Mv k w w2) := ⟨hb_mv HI.out.2.2.1 hkr hkp m2, c2, f2, mv_new HI.out.2.2.2 m2 (by omega)⟩
      have hkw : k < w2.heap.size := Nat.lt_of_lt_of_le hkr m2.size
      clear m2 hnx hom c2 f2
      by_cases hol : l ≤ o
      · have hgo : decide ((l : Int) ≤ (o : Int)) = true := decide_eq_true (by omega)
        obtain ⟨o2, ho2'⟩ : ∃ o2, o - l = o2 := ⟨_, rfl⟩
        have eo : (o : Int) - (l : Int) = (o2 : Int) := by omega
        obtain ⟨g, hg⟩ : ∃ g, a + o2 = g := ⟨_, rfl⟩
        have eg : (a : Int) + (o2 : Int) = (g : Int) := by omega
        have gn : g < n := by have := HL.out; omega
        have gi : i < n := by omega
        obtain ⟨xi, hxi, s1, f1, _, _⟩ := hb_at H2.out.1 HI.out.2.1 (by omega) i gi
        obtain ⟨xg, hxg, s0, f0, _, _⟩ := hb_at H2.out.1 HI.out.2.1 (by omega) g gn
        obtain ⟨u, hst⟩ := st_any s1 s0 (.int .u8 xg)
        have HF : Hid (Mv k w ((w2.setCell ⟨k, i, none⟩ (.int .u8 xg)).setCell ⟨k, g, none⟩ (.int .u8 xi)).drew ∧ HB ((w2.setCell ⟨k, i, none⟩ (.int .u8 xg)).setCell ⟨k, g, none⟩ (.int .u8 xi)).drew k (swp di i g) ∧ (swp di i g).size = n) := sw_drew H2.out.2.2.2 H2.out.1 HI.out.2.1 gi gn hxi hxg
        have HP : Hid (PermIn a b d (swp di i g)) := permIn_trans d di _ a b HI.out.1 (swp_permIn di a b i g (by omega) (by omega) (by omega) (by have := HL.out; omega) (by rw [HI.out.2.1]; exact hb))
        have HQ : Hid (((w2.setCell ⟨k, i, none⟩ (.int .u8 xg)).setCell ⟨k, g, none⟩ (.int .u8 xi)).drew.cell? ⟨p, 0, none⟩ = some (.int .u64 r') ∧ ((w2.setCell ⟨k, i, none⟩ (.int .u8 xg)).setCell ⟨k, g, none⟩ (.int .u8 xi)).drew.frozen? ⟨p, 0, none⟩ = false) := by
          refine ⟨?_, ?_⟩
          · rw [World.cell?_drew, World.cell?_setCell_other _ _ _ _ (fun e => hkp (by injection e)), World.cell?_setCell_other _ _ _ _ (fun e => hkp (by injection e))]; exact H2.out.2.1
          · rw [World.frozen?_drew, World.frozen?_setCell, World.frozen?_setCell]; exact H2.out.2.2.1
        clear hxi hxg HI hg ho2'
        go_wp2_with fail
        go_region
        go_wp2_with fail
        exact ⟨⟨i + 1, swp di i g, r', by go_num, by omega, by omega, HP.out, HF.out.2.2, HF.out.2.1, HQ.out.1, HQ.out.2, HF.out.1⟩, by simp [intOf]; omega⟩
      · have hgo : decide ((l : Int) ≤ (o : Int)) = false := decide_eq_false (by omega)
        obtain ⟨g, hg⟩ : ∃ g, a + o = g := ⟨_, rfl⟩
        have eg : (a : Int) + (o : Int) = (g : Int) := by omega
        have gn : g < n := by have := HL.out; omega
        have gi : i < n := by omega
        obtain ⟨xi, hxi, s1, f1, _, _⟩ := hb_at H2.out.1 HI.out.2.1 (by omega) i gi
        obtain ⟨xg, hxg, s0, f0, _, _⟩ := hb_at H2.out.1 HI.out.2.1 (by omega) g gn
        obtain ⟨u, hst⟩ := st_any s1 s0 (.int .u8 xg)
        have HF : Hid (Mv k w ((w2.setCell ⟨k, i, none⟩ (.int .u8 xg)).setCell ⟨k, g, none⟩ (.int .u8 xi)).drew ∧ HB ((w2.setCell ⟨k, i, none⟩ (.int .u8 xg)).setCell ⟨k, g, none⟩ (.int .u8 xi)).drew k (swp di i g) ∧ (swp di i g).size = n) := sw_drew H2.out.2.2.2 H2.out.1 HI.out.2.1 gi gn hxi hxg
        have HP : Hid (PermIn a b d (swp di i g)) := permIn_trans d di _ a b HI.out.1 (swp_permIn di a b i g (by omega) (by omega) (by omega) (by have := HL.out; omega) (by rw [HI.out.2.1]; exact hb))
        have HQ : Hid (((w2.setCell ⟨k, i, none⟩ (.int .u8 xg)).setCell ⟨k, g, none⟩ (.int .u8 xi)).drew.cell? ⟨p, 0, none⟩ = some (.int .u64 r') ∧ ((w2.setCell ⟨k, i, none⟩ (.int .u8 xg)).setCell ⟨k, g, none⟩ (.int .u8 xi)).drew.frozen? ⟨p, 0, none⟩ = false) := by
          refine ⟨?_, ?_⟩
          · rw [World.cell?_drew, World.cell?_setCell_other _ _ _ _ (fun e => hkp (by injection e)), World.cell?_setCell_other _ _ _ _ (fun e => hkp (by injection e))]; exact H2.out.2.1
          · rw [World.frozen?_drew, World.frozen?_setCell, World.frozen?_setCell]; exact H2.out.2.2.1
        clear hxi hxg HI hg
        go_wp2_with fail
        go_region
        go_wp2_with fail
        exact ⟨⟨i + 1, swp di i g, r', by go_num, by omega, by omega, HP.out, HF.out.2.2, HF.out.2.1, HQ.out.1, HQ.out.2, HF.out.1⟩, by simp [intOf]; omega⟩
    · have hgo : decide ((i : Int) ≤ (j1 : Int)) = false := decide_eq_false (by omega)
      have HI : Hid (PermIn a b d di ∧ di.size = n ∧ HB wr k di ∧ Mv k w wr) := ⟨hpm, hz, hH, hmv⟩
      clear hpm hz hH hmv hc hf H0
      go_wp2_with fail
      refine bodyPost_end (results_none rfl _ _ _) rfl ⟨rfl, di, HI.out⟩
end Go.Proofs.Ytfkhpcgccjlpgaa
