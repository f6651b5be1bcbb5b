/- The law TextbufPlays where the buffer is made. -/
import Derived.Test.YtfphmdkbcibcmaaPlay
namespace Go.Proofs.Ytfphmdkbcibcmaa
open Go.RowKit

theorem sliceH_no {B b : Nat} {most : Int} {t : List UInt8} {olds : List (List UInt8)} {w : World} (h : BufH B b most t olds w) (f k : Int) (hno : ¬ (0 ≤ f ∧ f ≤ k ∧ k ≤ (t.length : Nat))) :
    Calls Try.prog 17 #[.pointer (some ⟨b, 0, none⟩), .int .i64 f, .int .i64 k] w fun e w' => e = .returned (.tuple #[.string ⟨#[]⟩, .int .i64 1]) ∧ w' = w := by
  obtain ⟨r, h1, h2⟩ := h.is
  have := h.le; have := h.max
  exact slice_no B b most t _ w h1 (by omega) f k hno

theorem cut_str (t : List UInt8) (x y : Nat) : (⟨((t.take y).drop x).toArray⟩ : ByteArray) = (⟨t.toArray⟩ : ByteArray).extract x y := by
  apply bytes_ext
  simp [ByteArray.data_extract, List.drop_take]

set_option maxRecDepth 100000 in
set_option maxHeartbeats 4000000 in
theorem play_yes (s : ByteArray) (most : Int) (lo : Option Addr) (len cap : Nat) (f : Nat → De) (w : World) (hm0 : (s.size : Int) ≤ most) (hm1 : most ≤ 65536) (hrow : DeRow w lo len f) :
    Calls Try.prog 3 #[.string s, .int .i64 most, .slice lo len cap] w fun e w' => e = .returned (.bool true) ∧ Below w.heap.size w w' := by
  have HR : Hid (DeRow w lo len f) := hrow
  obtain ⟨S, hS⟩ : ∃ S, s.data.toList = S := ⟨_, rfl⟩
  have HS : Hid (s.data.toList = S) := hS
  clear hrow hS
  go_enter Try.func3, Try.ntmps3
  go_wp2_with fail
  refine (newH s most _ hm0 hm1).mono ?_
  rintro e w1 ⟨rfl, hb, b1⟩
  rw [HS.out] at hb
  have z1 := b1.size
  go_wp2_with fail
  refine (rnew_ok s most _ w.heap.size z1 S HS.out hm0 hm1).mono ?_
  rintro e w2 ⟨rfl, hp, b2⟩
  have z2 := b2.size
  have hboth : Both w.heap.size w.heap.size w1.heap.size most S [] S [] w w2 := ⟨hb.below b2, hp, b1.trans (b2.mono z1), Nat.le_trans z1 z2, by omega⟩
  obtain ⟨X, hX⟩ : ∃ X, w1.heap.size = X := ⟨_, rfl⟩
  rw [hX] at hboth ⊢
  clear hX hp hb b1 b2 z1 z2
  go_wp2_with fail
  go_loopw [11] (fun i wr => ∃ (k : Nat) (t : List UInt8) (olds : List (List UInt8)), k ≤ len ∧ k ≤ 60 ∧ i = .int .i64 k ∧ olds.length ≤ k ∧ Both w.heap.size w.heap.size X most t olds t olds w wr) (fun i _ => len - (intOf i).toNat)
  case atStart => exact ⟨0, S, [], Nat.zero_le _, Nat.zero_le _, rfl, Nat.le_refl _, hboth⟩
  case round =>
    obtain ⟨k, t, olds, hk1, hk2, rfl, hol, hbo⟩ := hrel
    by_cases hlt : k < len ∧ k < 60
    · obtain ⟨hl1, hl2⟩ := hlt
      obtain ⟨hbig, b0, off, hlo, hb0, c0, c1, c2, c3⟩ := HR.out k hl1
      subst hlo
      obtain ⟨xa, hxa⟩ : ∃ xa, (f k).e.a = xa := ⟨_, rfl⟩
      obtain ⟨ya, hya⟩ : ∃ ya, (f k).e.d = ya := ⟨_, rfl⟩
      obtain ⟨sa, hsa⟩ : ∃ sa, (f k).e.s = sa := ⟨_, rfl⟩
      obtain ⟨ua, hua⟩ : ∃ ua, (f k).u = ua := ⟨_, rfl⟩
      rw [hxa] at c0; rw [hya] at c1; rw [hsa] at c2 hbig; rw [hua] at c3
      clear hxa hya hsa hua
      have d0 := (hbo.old.cell (p := ⟨b0, off + k * 4, none⟩) hb0).trans c0
      have d1 := (hbo.old.cell (p := ⟨b0, off + k * 4 + 1, none⟩) hb0).trans c1
      have d2 := (hbo.old.cell (p := ⟨b0, off + k * 4 + 2, none⟩) hb0).trans c2
      have d3 := (hbo.old.cell (p := ⟨b0, off + k * 4 + 3, none⟩) hb0).trans c3
      have hmx := hbo.buf.max
      have htl : t.length ≤ 65536 := by have := hbo.buf.le; omega
      go_upto_if 57 with (fail)
      go_cut [] (fun wc => ∃ (t' : List UInt8) (o' : List (List UInt8)), o'.length ≤ k + 1 ∧ Both w.heap.size w.heap.size X most t' o' t' o' w wc)
      case first =>
        cases ua
        · obtain ⟨n, t', o', hout⟩ := splOut most t olds xa ya sa
          have hlen := hout.len
          have HOUT : Hid (SplOut most t olds xa ya sa n t' o') := hout
          have HBD := hbo.below ((Below.refl wr.heap.size wr).drew)
          clear hout
          go_wp2_with fail
          go_region_held3 (fun w' => w'.cell? ⟨b0, off + k * 4, none⟩ = some (.int .i64 xa) ∧ w'.cell? ⟨b0, off + k * 4 + 1, none⟩ = some (.int .i64 ya) ∧ w'.cell? ⟨b0, off + k * 4 + 2, none⟩ = some (.string sa)) (go_keep)
            (first
              | (go_at_call 12; refine (bspl HBD HOUT.out (by omega)).mono ?_; rintro e w3 ⟨rfl, h3⟩; have m0 := (h3.old.cell (p := ⟨b0, off + k * 4, none⟩) hb0).trans c0; have m1 := (h3.old.cell (p := ⟨b0, off + k * 4 + 1, none⟩) hb0).trans c1; have m2 := (h3.old.cell (p := ⟨b0, off + k * 4 + 2, none⟩) hb0).trans c2)
              | (go_at_call 13; refine (xspl h3 HOUT.out (by omega) htl hbig).mono ?_; rintro e w4 ⟨rfl, h4⟩; have q0 := (h4.old.cell (p := ⟨b0, off + k * 4, none⟩) hb0).trans c0; have q1 := (h4.old.cell (p := ⟨b0, off + k * 4 + 1, none⟩) hb0).trans c1; have q2 := (h4.old.cell (p := ⟨b0, off + k * 4 + 2, none⟩) hb0).trans c2))
          all_goals
            go_wp2_with fail
            go_meet
            exact ⟨t', o', by omega, h4⟩
        · obtain ⟨r, t', o', hout⟩ := undOut t olds
          have hlen := hout.len
          have HOUT : Hid (UndOut t olds r t' o') := hout
          clear hout
          go_wp2_with fail
          refine (bund hbo HOUT.out (by omega)).mono ?_
          rintro e w3 ⟨rfl, h3⟩
          go_wp2_with fail
          refine (xund h3 HOUT.out (by omega)).mono ?_
          rintro e w4 ⟨rfl, h4⟩
          go_wp2_with fail
          all_goals
            go_meet
            exact ⟨t', o', by omega, h4⟩
      case rest =>
        obtain ⟨t', o', ho', hb4⟩ := hcut
        clear hbo d0 d1 d2 d3 htl
        obtain ⟨vo, vc, hxs, _, _, _, _, x0, _, x2, _⟩ := hb4.plain.cells
        have HBD := hb4.below ((Below.refl wc.heap.size wc).drew)
        have htl : t'.length ≤ 65536 := by have := hb4.buf.le; omega
        go_wp2_with fail
        go_region_held3 (fun w' => w'.cell? ⟨X, 0, none⟩ = some (.string ⟨t'.toArray⟩) ∧ w'.cell? ⟨X, 2, none⟩ = some (.slice vo o'.length vc)) (go_keep)
          (first
            | (go_at_call 14; refine (textH HBD.buf).mono ?_; rintro e w5 ⟨rfl, b5⟩; have h5 := HBD.below b5; have m0 := (b5.cell (p := ⟨X, 0, none⟩) hxs).trans x0; have m2 := (b5.cell (p := ⟨X, 2, none⟩) hxs).trans x2)
            | (go_at_call 15; refine (lenH h5.buf).mono ?_; rintro e w6 ⟨rfl, hw6⟩; subst hw6)
            | (go_at_call 16; refine (versionH h5.buf).mono ?_; rintro e w7 ⟨rfl, hw7⟩; subst hw7))
        have n0 := (h5.old.cell (p := ⟨b0, off + k * 4, none⟩) hb0).trans c0
        have n1 := (h5.old.cell (p := ⟨b0, off + k * 4 + 1, none⟩) hb0).trans c1
        clear m0 m2 x0 x2 hxs
        go_wp2_with fail
        go_quiet (fail)
        have h6 := h5.below (below_drewN (Below.refl _ _) nq)
        clear n0 n1 h5 HBD b5
        generalize World.drewN _ nq = W6 at h6 ⊢
        by_cases hin : 0 ≤ xa ∧ xa ≤ ya ∧ ya ≤ (t'.length : Int)
        · obtain ⟨i1, i2, i3⟩ := hin
          obtain ⟨G, hG⟩ : ∃ G, (⟨t'.toArray⟩ : ByteArray).extract xa.toNat ya.toNat = G := ⟨_, rfl⟩
          go_wp2_with fail
          refine (sliceH_ok h6.buf xa.toNat ya.toNat _ _ (by omega) (by omega) (by omega) (by omega) G (by rw [cut_str]; exact hG)).mono ?_
          rintro e w8 ⟨rfl, b8⟩
          have h8 := h6.below b8
          obtain ⟨vo8, vc8, _, _, _, _, _, y0, _, _, _⟩ := h8.plain.cells
          go_wp2_with fail
          exact ⟨⟨k + 1, t', o', by omega, by omega, by go_num, ho', h8⟩, by simp [intOf]; omega⟩
        · go_wp2_with fail
          refine (sliceH_no h6.buf xa ya hin).mono ?_
          rintro e w8 ⟨rfl, hw8⟩
          subst hw8
          obtain ⟨vo8, vc8, _, _, _, _, _, y0, _, _, _⟩ := h6.plain.cells
          go_wp2_with fail
          all_goals exact ⟨⟨k + 1, t', o', by omega, by omega, by go_num, ho', h6⟩, by simp [intOf]; omega⟩
    · have hcase : ((k : Int) < (len : Int) ∧ ¬ ((k : Int) < 60)) ∨ ¬ ((k : Int) < (len : Int)) := by omega
      have z6 := hbo.size
      clear hlt
      rcases hcase with ⟨hx1, hx2⟩ | hx
      all_goals
        go_wp2_with fail
        refine (awake_any _).mono ?_
        rintro e w3 ⟨rfl, b3⟩
        go_wp2_with fail
        go_ret
        exact ⟨rfl, hbo.old.trans (b3.mono z6)⟩
end Go.Proofs.Ytfphmdkbcibcmaa
