/- The law TextbufBack, as the program runs it. -/
import Derived.Test.YtfphmdkbcibcmaaSli
namespace Go.Proofs.Ytfphmdkbcibcmaa
open Go.RowKit

theorem info9 : (Try.prog.info? 9).map (fun i => (i.zero, i.size, i.bytes)) = some (some (.string ⟨#[]⟩), 1, 16) := by kernel_rfl

/-- A text as a Go string. -/
def strV (t : List UInt8) : Value := .string ⟨t.toArray⟩

/-- A row of edits that came in. -/
def EdRow (w : World) (lo : Option Addr) (len : Nat) (f : Nat → Ed) : Prop :=
  ∀ i, i < len → ∃ b off, lo = some ⟨b, off, none⟩ ∧ b < w.heap.size ∧ w.cell? ⟨b, off + i * 3, none⟩ = some (.int .i64 (f i).a) ∧ w.cell? ⟨b, off + i * 3 + 1, none⟩ = some (.int .i64 (f i).d) ∧ w.cell? ⟨b, off + i * 3 + 2, none⟩ = some (.string (f i).s)

/-- The row of texts that were, the oldest first. -/
def WasRow (B : Nat) (v : Value) (olds : List (List UInt8)) (w : World) : Prop := w.ownsRow B 9 1 v olds.length (olds.reverse.map strV)

/-- Splice in one statement: taken, or not. -/
theorem splice_any {B b : Nat} {most : Int} {t : List UInt8} {olds : List (List UInt8)} {w : World} (h : BufH B b most t olds w) (x y : Int) (s : ByteArray) (ho : olds.length ≤ 900) :
    Calls Try.prog 12 #[.pointer (some ⟨b, 0, none⟩), .agg #[.int .i64 x, .int .i64 y, .string s]] w fun e w' => ∃ n : Int, e = .returned (.int .i64 n) ∧ Kept [59, 54, 5, 31] B w w' ∧
      ((n = 0 ∧ InB t.length x y ∧ (s.size : Int) ≤ most - ((t.length : Int) - y) ∧ BufH B b most (splT t x.toNat y.toNat s) (t :: olds) w') ∨ ((n = 2 ∧ InB t.length x y ∧ most - ((t.length : Int) - y) < (s.size : Int) ∨ n = 1 ∧ ¬ InB t.length x y) ∧ BufH B b most t olds w')) := by
  by_cases hin : InB t.length x y
  · by_cases hs : most - ((t.length : Int) - y) < (s.size : Int)
    · refine (spliceH_size h x y s hin hs).mono ?_
      rintro e w' ⟨he, hb⟩
      exact ⟨2, he, Kept.ofBelow hb, .inr ⟨.inl ⟨rfl, hin, hs⟩, h.below hb⟩⟩
    · refine (spliceH_ok h x y s hin (by omega) ho).mono ?_
      rintro e w' ⟨he, hb, hk⟩
      exact ⟨0, he, hk, .inl ⟨rfl, hin, by omega, hb⟩⟩
  · refine (spliceH_range h x y s hin).mono ?_
    rintro e w' ⟨he, hb⟩
    exact ⟨1, he, Kept.ofBelow hb, .inr ⟨.inr ⟨rfl, hin⟩, h.below hb⟩⟩

theorem was_kept {T : List Nat} {B C : Nat} {v : Value} {olds : List (List UInt8)} {w w' : World} (h : WasRow B v olds w) (k : Kept T C w w') (hT : 9 ∉ T) : WasRow B v olds w' := own_kept h k hT

set_option maxHeartbeats 400000 in
theorem back_long (s : ByteArray) (lo : Option Addr) (len cap : Nat) (w : World) (h : 65536 < s.size) :
    Calls Try.prog 4 #[.string s, .slice lo len cap] w fun e w' => e = .returned (.bool true) ∧ Below w.heap.size w w' := by
  go_enter Try.func4, Try.ntmps4
  go_wp2_with (first | (go_at_call 8; refine (new_size s 65536 _ (by omega) (by omega) (by omega)).mono ?_; rintro e w' ⟨rfl, rfl⟩) | (go_at_call 18; refine (awake_any _).mono ?_; rintro e w2 ⟨rfl, b2⟩))
  go_ret
  exact ⟨rfl, b2⟩

/-- One text more behind those that were: a new row, the old one's own row, nothing else. -/
theorem was_more {B : Nat} {v v' : Value} {t : List UInt8} {olds : List (List UInt8)} {w w' : World} (h : WasRow B v olds w) (ho : w'.ownsRow B 9 1 v' (olds.length + 1) (olds.reverse.map strV ++ [strV t])) (hg : (w.alloc (.cells #[strV t] 9)).grownBy w' v.ownBlock) :
    WasRow B v' (t :: olds) w' ∧ Kept [9] B w w' := by
  refine ⟨?_, ((Kept.refl _ _ _).alloc _).trans (Kept.ofGrown hg (fun k hk => ?_))⟩
  · unfold WasRow
    rw [List.reverse_cons, List.map_append, List.length_cons]; exact ho
  · rcases h.2 with ⟨hv, _⟩ | ⟨g, cap, cur, hv, hB, hgb, _⟩
    · rw [hv] at hk; simp [Value.ownBlock] at hk
    · rw [hv] at hk; simp [Value.ownBlock] at hk; subst hk
      exact ⟨hB, cur, 9, (0, 0), by rw [Below.heap_alloc _ _ _ (Array.getElem?_eq_some_iff.1 hgb).1]; exact hgb, by simp⟩

theorem one_str (t : List UInt8) (w : World) : ∀ j u, [strV t][j]? = some u → (w.alloc (.cells #[strV t] 9)).cell? ((⟨w.heap.size, 0, none⟩ : Addr).add j) = some u := by
  intro j u hj
  match j, hj with
  | 0, hj =>
    simp at hj; subst hj
    have := heap_alloc_new w (.cells #[strV t] 9)
    rw [Addr.add_lit]
    simp only [World.cell?, this]
    rfl

/-- Undo and Text, with a row of strings beside them that stays. -/
theorem undoX {B b : Nat} {most : Int} {t o : List UInt8} {olds all : List (List UInt8)} {w : World} {v x : Value} {vb j : Nat} (h : BufH B b most t (o :: olds) w) (ho : olds.length ≤ 900) (hw : WasRow B v all w) (hc : w.cell? ⟨vb, j, none⟩ = some x) (hv : v.ownBlock = some vb) :
    Calls Try.prog 10 #[.pointer (some ⟨b, 0, none⟩)] w fun r w' => r = .returned (.bool true) ∧ BufH B b most o olds w' ∧ Kept [59, 54, 5, 31] B w w' ∧ WasRow B v all w' ∧ w'.cell? ⟨vb, j, none⟩ = some x := by
  refine (undoH_ok h ho).mono ?_
  rintro e w' ⟨he, hb, hk⟩
  refine ⟨he, hb, hk, was_kept hw hk (by simp), ?_⟩
  rcases hw.2 with ⟨hv0, _⟩ | ⟨g, cap, cur, hv0, hB, hgb, _⟩
  · rw [hv0] at hv; simp [Value.ownBlock] at hv
  · rw [hv0] at hv; simp [Value.ownBlock] at hv; subst hv
    rw [← hc]
    exact World.cell?_of_block (by rw [hk.at hgb (by simp), hgb])
theorem textX {B b : Nat} {most : Int} {t : List UInt8} {olds : List (List UInt8)} {w : World} {x : Value} {vb j : Nat} (h : BufH B b most t olds w) (hc : w.cell? ⟨vb, j, none⟩ = some x) :
    Calls Try.prog 14 #[.pointer (some ⟨b, 0, none⟩)] w fun e w' => e = .returned (.string ⟨t.toArray⟩) ∧ Below w.heap.size w w' ∧ w'.cell? ⟨vb, j, none⟩ = some x := by
  refine (textH h).mono ?_
  rintro e w' ⟨he, hb⟩
  exact ⟨he, hb, by rw [hb.cell (p := ⟨vb, j, none⟩) (World.block_lt_of_cell? w _ hc)]; exact hc⟩

theorem textS {B b : Nat} {most : Int} {t : List UInt8} {olds : List (List UInt8)} {w : World} (h : BufH B b most t olds w) (s : ByteArray) (hs : s.data.toList = t) :
    Calls Try.prog 14 #[.pointer (some ⟨b, 0, none⟩)] w fun e w' => e = .returned (.string s) ∧ Below w.heap.size w w' := by
  have := textH h
  rw [← hs] at this
  have e : (⟨s.data.toList.toArray⟩ : ByteArray) = s := by cases s; simp
  rw [e] at this
  exact this

theorem drop_head {α : Type} (olds : List α) (j : Nat) (h : j + 1 ≤ olds.length) : ∃ o, olds.drop (olds.length - (j + 1)) = o :: olds.drop (olds.length - j) ∧ olds.reverse[j]? = some o := by
  have hi : olds.length - (j + 1) < olds.length := by omega
  refine ⟨olds[olds.length - (j + 1)], ?_, ?_⟩
  · rw [List.drop_eq_getElem_cons hi]; congr 2; omega
  · rw [List.getElem?_reverse (by omega), List.getElem?_eq_getElem (by omega)]
    congr 2; omega

set_option maxHeartbeats 1000000 in
theorem back_short (s : ByteArray) (lo : Option Addr) (len cap : Nat) (f : Nat → Ed) (w : World) (h : s.size ≤ 65536) (_hl : len ≤ cap) (_hcap : cap ≤ 9223372036854775807) (hrow : EdRow w lo len f) :
    Calls Try.prog 4 #[.string s, .slice lo len cap] w fun e w' => e = .returned (.bool true) ∧ Below w.heap.size w w' := by
  have HR : Hid (EdRow w lo len f) := hrow
  obtain ⟨S, hS⟩ : ∃ S, s.data.toList = S := ⟨_, rfl⟩
  have HS : Hid (s.data.toList = S) := hS
  clear hrow hS
  go_enter Try.func4, Try.ntmps4
  go_wp2_with fail
  refine (newH s 65536 _ (by omega) (by omega)).mono ?_
  rintro e w1 ⟨rfl, hb, b1⟩
  rw [HS.out] at hb
  have z1 := b1.size
  go_wp2_with fail
  go_loopw [7, 8] (fun v i wr => ∃ (k : Nat) (t : List UInt8) (olds : List (List UInt8)), k ≤ len ∧ k ≤ 40 ∧ i = .int .i64 k ∧ olds.length ≤ k ∧ BufH w.heap.size w.heap.size 65536 t olds wr ∧ WasRow w.heap.size v olds wr ∧ Below w.heap.size w wr ∧ (t :: olds).getLast? = some S) (fun _ i _ => len - (intOf i).toNat)
  case atStart => exact ⟨0, S, [], Nat.zero_le _, Nat.zero_le _, rfl, Nat.le_refl _, hb, World.ownsRow_nil _ _ _ _, b1, rfl⟩
  case round =>
    obtain ⟨k, t, olds, hk1, hk2, rfl, hol, hbt, hwas, hbl, hlast⟩ := hrel
    have HL : Hid ((t :: olds).getLast? = some S) := hlast
    clear hlast
    by_cases hlt : k < len ∧ k < 40
    · obtain ⟨hl1, hl2⟩ := hlt
      obtain ⟨b0, off, hlo, hb0, c0, c1, c2⟩ := HR.out k hl1
      subst hlo
      go_wp2_with fail
      refine (textH hbt).mono ?_
      rintro e w2 ⟨rfl, b2⟩
      have hbt2 := hbt.below b2
      have hwas2 := was_kept hwas (Kept.ofBelow (T := []) (B := 0) b2) (by simp)
      have bl2 : Below w.heap.size w w2 := hbl.trans (b2.mono hbl.size)
      have d0 := (bl2.cell (p := ⟨b0, off + k * 3, none⟩) hb0).trans c0
      have d1 := (bl2.cell (p := ⟨b0, off + k * 3 + 1, none⟩) hb0).trans c1
      have d2 := (bl2.cell (p := ⟨b0, off + k * 3 + 2, none⟩) hb0).trans c2
      have z2 := bl2.size
      go_wp2_with fail
      refine (splice_any hbt2 (f k).a (f k).d (f k).s (by omega)).mono ?_
      rintro e w3 ⟨n, rfl, K3, hcase⟩
      have hwas3 := was_kept hwas2 K3 (by simp)
      have bl3 : Below w.heap.size w w3 := bl2.trans (K3.below z2)
      have z3 := bl3.size
      clear d0 d1 d2 c0 c1 c2
      rcases hcase with ⟨hn, _, _, hb3⟩ | ⟨hn, hb3⟩
      · subst hn
        obtain ⟨i0, hi, hz0, hz1, hz2⟩ := info_parts info9
        have hon : (w3.alloc (.cells #[strV t] 9)).ownsRow w.heap.size 9 1 u7 olds.length (olds.reverse.map strV) := World.ownsRow.alloc hwas3 _
        have hnew := one_str t w3
        have h63 : olds.length + 1 ≤ maxLen := by unfold maxLen; omega
        have hb16 : (olds.length + 1) * 16 ≤ 140737488355328 := by omega
        have hc1 : ∀ u ∈ [strV t], u.oneCell' = true := by intro u hu; simp at hu; subst hu; rfl
        have hbase : w.heap.size ≤ (w3.alloc (.cells #[strV t] 9)).heap.size := by simp; omega
        have HON : Hid ((w3.alloc (.cells #[strV t] 9)).ownsRow w.heap.size 9 1 u7 olds.length (olds.reverse.map strV)) := hon
        have HNEW : Hid (∀ j u, [strV t][j]? = some u → (w3.alloc (.cells #[strV t] 9)).cell? ((⟨w3.heap.size, 0, none⟩ : Addr).add j) = some u) := hnew
        have HBA : Hid (w.heap.size ≤ (w3.alloc (.cells #[strV t] 9)).heap.size) := hbase
        clear hon hnew hbase
        go_wp2_with (at_builtin; refine wpList_append_own _ rfl _ _ 38 rfl w.heap.size 9 i0 (.string ⟨#[]⟩) 1 16 Try.underlying38 hi hz0 hz1 hz2 rfl (by decide) _ _ _ rfl HON.out ⟨w3.heap.size, 0, none⟩ 1 1 [strV t] rfl rfl HNEW.out hc1 h63 hb16 HBA.out ?_; intro v' w4 ho hg _)
        obtain ⟨hw4, K4⟩ := was_more hwas3 ho hg
        refine ⟨⟨k + 1, _, t :: olds, by omega, by omega, by go_num, by simp; omega, hb3.kept K4 (by simp) (by simp) (by simp) (by simp), hw4, bl3.trans (K4.below z3), ?_⟩, by simp [intOf]; omega⟩
        rw [List.getLast?_cons_cons]; exact HL.out
      · have hn0 : (n == 0) = false := by rw [beq_eq_false_iff_ne]; omega
        clear hn
        go_wp2_with fail
        exact ⟨⟨k + 1, t, olds, by omega, by omega, by go_num, by omega, hb3, hwas3, bl3, HL.out⟩, by simp [intOf]; omega⟩
    · clear HR
      have hlt2 : ¬ ((k : Int) < (len : Int)) ∨ ¬ ((k : Int) < 40) := by omega
      have hcase : ((k : Int) < (len : Int) ∧ ¬ ((k : Int) < 40)) ∨ ¬ ((k : Int) < (len : Int)) := by omega
      clear hlt hlt2
      obtain ⟨vo, vc, hv⟩ : ∃ vo vc, u7 = .slice vo olds.length vc := by
        rcases hwas.2 with ⟨hv, h0⟩ | ⟨g, cap, cur, hv, _⟩
        · exact ⟨none, 0, by rw [hv, h0]⟩
        · exact ⟨_, _, hv⟩
      rcases hcase with ⟨hx1, hx2⟩ | hx
      all_goals
        rw [hv]
        have hwas1 : WasRow w.heap.size (.slice vo olds.length vc) olds wr := by rw [← hv]; exact hwas
        clear hv hwas
        go_wp2_with fail
        go_loopw [10] (fun i w5 => ∃ (m : Nat) (t2 : List UInt8), m ≤ olds.length ∧ i = .int .i64 ((m : Int) - 1) ∧ BufH w.heap.size w.heap.size 65536 t2 (olds.drop (olds.length - m)) w5 ∧ WasRow w.heap.size (.slice vo olds.length vc) olds w5 ∧ Below w.heap.size w w5 ∧ (t2 :: olds.drop (olds.length - m)).getLast? = some S) (fun i _ => (intOf i + 1).toNat)
        case atStart => exact ⟨olds.length, t, Nat.le_refl _, rfl, by rw [Nat.sub_self]; exact hbt, hwas1, hbl, by rw [Nat.sub_self]; exact HL.out⟩
        case round =>
          obtain ⟨m, t2, hm, rfl, hb5, hw5, bl5, hl5⟩ := hrel
          have z5 := bl5.size
          cases m with
          | zero =>
            rw [Nat.sub_zero, List.drop_length] at hb5 hl5
            simp at hl5
            subst hl5
            go_wp2_with fail
            refine (undoH_no hb5).mono ?_
            rintro e w6 ⟨rfl, hw6⟩
            subst hw6
            go_wp2_with fail
            refine (textS hb5 s HS.out).mono ?_
            rintro e w7 ⟨rfl, b7⟩
            have z7 := b7.size
            go_wp2_with (go_at_call 18; refine (awake_any _).mono ?_; rintro e w8 ⟨rfl, b8⟩)
            go_ret
            exact ⟨rfl, bl5.trans ((b7.mono z5).trans (b8.mono (by omega)))⟩
          | succ j =>
            obtain ⟨o, hd, hrv⟩ := drop_head olds j hm
            rw [hd] at hb5 hl5
            obtain ⟨vb, hvo, hcell⟩ : ∃ vb, vo = some ⟨vb, 0, none⟩ ∧ wr.cell? ⟨vb, j, none⟩ = some (.string ⟨o.toArray⟩) := by
              rcases (own_open hw5).2 with ⟨_, h0⟩ | ⟨g, cp, cur, hv5, _, _, _, _, _, hc5, _⟩
              · omega
              · simp only [Value.slice.injEq] at hv5
                exact ⟨g, hv5.1, hc5 j (strV o) (by rw [List.getElem?_map, hrv]; rfl)⟩
            subst hvo
            have hji : ((j + 1 : Nat) : Int) - 1 = (j : Int) := by omega
            rw [hji]
            have hq : (olds.drop (olds.length - j)).length ≤ 900 := by simp; omega
            have hjl : (j : Int) < (olds.length : Int) := by omega
            have HL5 : Hid ((t2 :: o :: olds.drop (olds.length - j)).getLast? = some S) := hl5
            have hb5d := hb5.below ((Below.refl wr.heap.size wr).drew)
            have hw5d : WasRow w.heap.size (.slice (some ⟨vb, 0, none⟩) olds.length vc) olds wr.drew := was_kept hw5 (Kept.ofBelow (T := []) (B := 0) ((Below.refl wr.heap.size wr).drew)) (by simp)
            have HCD : Hid (wr.drew.cell? ⟨vb, j, none⟩ = some (.string ⟨o.toArray⟩)) := hcell
            clear hji hrv hd hl5
            go_wp2_with fail
            go_region_with (first | (go_at_call 10; refine (undoX hb5d hq hw5d HCD.out rfl).mono ?_; rintro e w6 ⟨rfl, hb6, K6, hw6, hc6⟩) | (go_at_call 14; refine (textX hb6 hc6).mono ?_; rintro e w7 ⟨rfl, b7, hc7⟩))
            all_goals
              go_wp2_with fail
              have z6 := K6.size
              have z7 := b7.size
              refine ⟨⟨j, o, by omega, rfl, hb6.below b7, was_kept hw6 (Kept.ofBelow (T := []) (B := 0) b7) (by simp), ?_, ?_⟩, by simp [intOf]⟩
              · exact bl5.drew.trans ((K6.below z5).trans (b7.mono (Nat.le_trans z5 z6)))
              · have := HL5.out
                rw [List.getLast?_cons_cons] at this
                exact this
end Go.Proofs.Ytfphmdkbcibcmaa
