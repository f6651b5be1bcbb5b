/- The document's reference by a number. -/
import Derived.Test.YtkbakbacomidbaaProg
import Derived.BigQuiet
import Derived.BigRegion
import Derived.Deep.DeepCutAuto
import Derived.Deep.QuietTactic
import Derived.Deep.RegionHeld3
import Derived.Deep.RegionLaw
import Derived.Laws.AppendOwn
import Derived.Maps.AppendAt
import Derived.Maps.OwnSet
import Derived.ScopeJumps
import Derived.Shelf.Small.Strs
import Derived.Shelf.Strings.Builder1
import Derived.Shelf.Strings.BuilderF
import Derived.Shelf.Strings.BuilderK
import Derived.Shelf.Strings.BuilderRune
import Derived.Shelf.Strings.Prefix
import Derived.WalkArith
import Derived.WalkKit
import Derived.WalkLawsBesides
import Derived.WalkMore
import Derived.WalkSpells
import Derived.Test.YtkbakbacomidbaaZg
import Derived.Test.YtkbakbacomidbaaZv
namespace Go.Proofs.Ytkbakbacomidbaa.G6
open Go.RowKit
def bs (hex : Bool) : Nat := if hex = true then 16 else 10
def rdig (hex : Bool) (b : Nat) : Int := if dig b < bs hex then (dig b : Int) else -1
set_option maxHeartbeats 1000000 in
theorem rdigit_any (b : Nat) (hex : Bool) (w : World) (hb : b ≤ 255) : Calls Try.prog 67 #[.int .u8 (b : Int), .bool hex] w fun e w' => e = .returned (.int .i64 (rdig hex b)) ∧ w' = w := by
  cases hex
  all_goals
    go_enter Try.func67, Try.ntmps67
    go_wp2
    all_goals
      go_ret
      refine ⟨ret_int ?_, rfl⟩
      unfold rdig bs dig
      repeat' split
      all_goals first | omega | (simp at *; omega) | simp_all
def hexB (s : ByteArray) : Bool := decide (s.data.toList[2]? = some 120 ∨ s.data.toList[2]? = some 88)
/-- The number's end is found. -/
def atEnd (s : ByteArray) (k base i a : Nat) : Prop := (digs base (s.data.toList.drop k)).length = i ∧ accN base (digs base (s.data.toList.drop k)) = a
theorem numB_of {s : ByteArray} {k base i a : Nat} (h : atEnd s k base i a) : numB k base s.data.toList = if i = 0 then (0, 0, [20]) else
    if [59].isPrefixOf (s.data.toList.drop (k + i)) = true then ((chrP (a : Nat)).1, k + i + 1, if (chrP (a : Nat)).2 = 0 then [] else [(chrP (a : Nat)).2])
    else ((chrP (a : Nat)).1, k + i, (if (chrP (a : Nat)).2 = 0 then [] else [(chrP (a : Nat)).2]) ++ [18]) := by
  unfold numB
  rw [h.1, h.2]
theorem semi_at (s : ByteArray) (n : Nat) (h : n < s.size) : [59].isPrefixOf (s.data.toList.drop n) = ((s[n].toNat : Int) == 59) := by
  have h0 : n < s.data.toList.length := by rw [Array.length_toList]; exact h
  rw [List.drop_eq_getElem_cons h0]
  show ((59 : UInt8) == s[n] && true) = _
  rw [Bool.and_true, Bool.eq_iff_iff, beq_iff_eq, beq_iff_eq]
  constructor
  · intro e; rw [← e]; rfl
  · intro e; exact UInt8.toNat_inj.1 (by show 59 = s[n].toNat; omega)
theorem semi_end (s : ByteArray) (n : Nat) (h : s.size ≤ n) : [59].isPrefixOf (s.data.toList.drop n) = false := by
  rw [List.drop_eq_nil_of_le (by rw [Array.length_toList]; exact h)]; rfl
set_option maxHeartbeats 1000000 in
set_option maxRecDepth 10000 in
theorem rnum_any (s : ByteArray) (w : World) (h2 : 2 ≤ s.size) (hs : s.size ≤ 1000000) :
    Calls Try.prog 54 #[.string s] w fun e w' => Refd w .i64 (numbP s.data.toList) e w' := by
  have HS : Hid (s.data.toList.length = s.size) := Array.length_toList
  obtain ⟨hb, hbx⟩ : ∃ hb, hexB s = hb := ⟨_, rfl⟩
  have HX : Hid (numbP s.data.toList = if hb = true then numB 3 16 s.data.toList else numB 2 10 s.data.toList) := by
    show _ = _
    unfold numbP
    rw [← hbx]
    unfold hexB
    by_cases h : s.data.toList[2]? = some 120 ∨ s.data.toList[2]? = some 88
    · rw [if_pos h, if_pos (decide_eq_true h)]
    · rw [if_neg h, if_neg (by simp only [decide_eq_true_eq]; exact h)]
  have HXl : Hid (hb = true → 3 ≤ s.size) := fun e => by
    rw [← hbx] at e
    unfold hexB at e
    simp only [decide_eq_true_eq] at e
    by_cases hl : 3 ≤ s.size
    · exact hl
    · rw [List.getElem?_eq_none (by rw [HS.out]; omega)] at e
      simp at e
  have HXB : Hid (hexB s = hb) := hbx
  clear hbx
  go_enter Try.func54, Try.ntmps54
  go_upto_region 2 with fail
  go_cut [6] (fun sv wc => sv = .bool hb ∧ wc = w)
  case first =>
    have hx := HXB.out
    unfold hexB at hx
    by_cases hlt : 2 < s.size
    · by_cases h120 : (s[2].toNat : Int) = 120
      · have : hb = true := by rw [← hx]; exact decide_eq_true (.inl ((byte_at s 2 hlt 120).2 h120))
        subst this
        clear hx
        go_wp2_with fail
        go_meet
        exact ⟨rfl, rfl⟩
      · by_cases h88 : (s[2].toNat : Int) = 88
        · have : hb = true := by rw [← hx]; exact decide_eq_true (.inr ((byte_at s 2 hlt 88).2 h88))
          subst this
          have h120' := beq_false_of_ne h120
          clear hx
          go_wp2_with fail
          go_meet
          exact ⟨rfl, rfl⟩
        · have : hb = false := by
            rw [← hx]
            apply decide_eq_false
            rintro (e | e)
            · exact h120 ((byte_at s 2 hlt 120).1 e)
            · exact h88 ((byte_at s 2 hlt 88).1 e)
          subst this
          have h120' := beq_false_of_ne h120
          have h88' := beq_false_of_ne h88
          clear hx
          go_wp2_with fail
          go_meet
          exact ⟨rfl, rfl⟩
    · have : hb = false := by
        rw [← hx]
        apply decide_eq_false
        rw [List.getElem?_eq_none (by rw [HS.out]; omega)]
        simp
      subst this
      clear hx
      go_wp2_with fail
      go_meet
      exact ⟨rfl, rfl⟩
  case rest =>
    obtain ⟨rfl, hw'⟩ := hcut
    obtain rfl := hw'.symm
    clear HXB
    cases hb
    · have HN : Hid (numbP s.data.toList = numB 2 10 s.data.toList) := HX.out
      go_wp2_with fail
      go_loopw [5, 9] (fun av nv wr => ∃ (i : Nat), av = .int .i64 (2 + i : Int) ∧ 2 + i ≤ s.size ∧ nv = .int .i64 (accN 10 ((s.data.toList.drop 2).take i) : Nat) ∧ ((s.data.toList.drop 2).take i).all (fun b => decide (dig b.toNat < 10)) = true ∧ wr = w) (fun av _ _ => s.size - (intOf av).toNat)
      case atStart => exact ⟨0, rfl, h2, rfl, rfl, rfl⟩
      case round =>
        obtain ⟨i, rfl, hi, rfl, hall, hw'⟩ := hrel
        obtain rfl := hw'.symm
        have HA : Hid (((s.data.toList.drop 2).take i).all (fun b => decide (dig b.toNat < 10)) = true) := hall
        have hle := accN_le 10 ((s.data.toList.drop 2).take i)
        obtain ⟨a, ha⟩ : ∃ a, accN 10 ((s.data.toList.drop 2).take i) = a := ⟨_, rfl⟩
        rw [ha] at hle ⊢
        have HNa : Hid (accN 10 ((s.data.toList.drop 2).take i) = a) := ha
        have hli : ((s.data.toList.drop 2).take i).length = i := by
          rw [List.length_take, List.length_drop, HS.out]; omega
        have HLi : Hid (((s.data.toList.drop 2).take i).length = i) := hli
        clear hall ha hli
        by_cases hlt : 2 + i < s.size
        · have hat : (s.data.toList.drop 2)[i]? = some s[2 + i] := by rw [List.getElem?_drop]; exact at_i s (2 + i) hlt
          have hdg := fun w => rdigit_any (s[2 + i].toNat) false w (by have := UInt8.toNat_lt s[2 + i]; omega)
          have hdl := dig_le s[2 + i].toNat
          by_cases hdb : dig s[2 + i].toNat < 10
          · have hrd : rdig false s[2 + i].toNat = (dig s[2 + i].toNat : Int) := by unfold rdig; rw [if_pos (show dig s[2 + i].toNat < bs false from hdb)]
            rw [hrd] at hdg
            have HSn : Hid ((s.data.toList.drop 2).take (i + 1) = (s.data.toList.drop 2).take i ++ [s[2 + i]]) := by
              show _ = _
              have hl2 : i < (s.data.toList.drop 2).length := by rw [List.length_drop, HS.out]; omega
              rw [← List.take_append_getElem hl2]
              congr 2
              rw [List.getElem?_eq_getElem hl2] at hat
              exact Option.some.inj hat
            obtain ⟨d, hd⟩ : ∃ d, dig s[2 + i].toNat = d := ⟨_, rfl⟩
            rw [hd] at hdg hdl hdb
            have HD : Hid (dig s[2 + i].toNat = d) := hd
            have hmul : 10 * a ≤ 16777216 * 16 := by omega
            clear hd hat hrd
            go_wp2_with (go_at_call 67; refine (hdg _).mono ?_; rintro e w' ⟨rfl, hw'⟩; obtain rfl := hw'.symm)
            all_goals
              refine ⟨⟨i + 1, by go_num, by omega, ?_, ?_, by first | rfl | trivial⟩, by simp [intOf]; omega⟩
              · rw [HSn.out, accN_snoc, HNa.out, HD.out]
                congr 1
                first | omega | (split <;> omega)
              · rw [HSn.out, List.all_append, HA.out]
                simp [HD.out, hdb]
          · have hrd : rdig false s[2 + i].toNat = -1 := by unfold rdig; rw [if_neg (show ¬ dig s[2 + i].toNat < bs false from hdb)]
            rw [hrd] at hdg
            have hE : atEnd s 2 10 i a := by
              have e := digs_stop HA.out hat hdb
              exact ⟨by rw [e]; exact HLi.out, by rw [e]; exact HNa.out⟩
            have HP : Hid (numB 2 10 s.data.toList = _) := numB_of hE
            clear hE hat hrd hdb hdl
            by_cases hi0 : i = 0
            · subst hi0
              have hdg2 : ∀ w, Calls Try.prog 67 #[.int .u8 ((s[2]).toNat : Int), .bool false] w fun e w' => e = .returned (.int .i64 (-1)) ∧ w' = w := hdg
              clear hdg
              have HP2 : Hid (numB 2 10 s.data.toList = (0, 0, [20])) := by show _ = _; rw [HP.out, if_pos rfl]
              clear HP
              go_wp2_with (go_at_call 67; refine (hdg2 _).mono ?_; rintro e w' ⟨rfl, hw'⟩; obtain rfl := hw'.symm)
              go_ret3
              rw [HN.out, HP2.out]
              exact ⟨_, rfl, cds_one _ _ _ (Nat.le_refl _), (Below.refl _ _).alloc (Nat.le_refl _) _⟩
            · rw [if_neg hi0] at HP
              have hne : ((2 : Int) + (i : Int) == 2) = false := beq_false_of_ne (by omega)
              obtain ⟨rc, hrc⟩ : ∃ rc, chrP (a : Nat) = rc := ⟨_, rfl⟩
              have k9 := fun w => rnumber_any (a : Nat) w (by omega)
              rw [hrc] at k9 HP
              obtain ⟨r, c⟩ := rc
              simp only at k9 HP
              clear hrc
              rw [semi_at s (2 + i) hlt] at HP
              by_cases h59 : (s[2 + i].toNat : Int) = 59
              · rw [if_pos (by rw [h59]; rfl)] at HP
                rw [h59] at hdg
                by_cases hc0 : c = 0
                · have HP2 : Hid (numB 2 10 s.data.toList = (r, 2 + i + 1, [])) := by show _ = _; rw [HP.out, if_pos hc0] <;> rfl
                  subst hc0
                  clear HP
                  go_wp2_with (go_at_call 67; refine (hdg _).mono ?_; rintro e w' ⟨rfl, hw'⟩; obtain rfl := hw'.symm)
                  refine (k9 _).mono ?_
                  rintro e w1 ⟨rfl, b1⟩
                  have HB1 : Hid (Below w.heap.size w w1) := b1
                  clear b1
                  go_wp2_with fail
                  go_ret3
                  rw [HN.out, HP2.out]
                  exact ⟨_, rfl, cds_nil _ _, HB1.out⟩
                · have HP2 : Hid (numB 2 10 s.data.toList = (r, 2 + i + 1, [c])) := by show _ = _; rw [HP.out, if_neg hc0] <;> rfl
                  have hc1 : (c != 0) = true := by rw [bne_iff_ne]; exact hc0
                  clear HP
                  go_wp2_with (go_at_call 67; refine (hdg _).mono ?_; rintro e w' ⟨rfl, hw'⟩; obtain rfl := hw'.symm)
                  refine (k9 _).mono ?_
                  rintro e w1 ⟨rfl, b1⟩
                  obtain ⟨v1, w2, e1, C1, b2⟩ := cds_app (cds_nil w1 w.heap.size) c b1.size (by decide)
                  have HB1 : Hid (Cds w2 w.heap.size v1 [c] ∧ Below w.heap.size w w2) := ⟨C1, b1.trans b2⟩
                  clear b1 b2 C1
                  go_wp2_with (at_builtin; refine list_append_eq rfl _ _ 72 72 rfl _ _ rfl rfl e1 ?_)
                  go_ret3
                  rw [HN.out, HP2.out]
                  exact ⟨_, rfl, HB1.out⟩
              · have h59' := beq_false_of_ne h59
                rw [if_neg (by rw [h59']; simp)] at HP
                by_cases hc0 : c = 0
                · have HP2 : Hid (numB 2 10 s.data.toList = (r, 2 + i, [18])) := by show _ = _; rw [HP.out, if_pos hc0] <;> rfl
                  subst hc0
                  clear HP
                  go_wp2_with (go_at_call 67; refine (hdg _).mono ?_; rintro e w' ⟨rfl, hw'⟩; obtain rfl := hw'.symm)
                  refine (k9 _).mono ?_
                  rintro e w1 ⟨rfl, b1⟩
                  obtain ⟨v1, w2, e1, C1, b2⟩ := cds_app (cds_nil w1 w.heap.size) 18 b1.size (by decide)
                  have HB1 : Hid (Cds w2 w.heap.size v1 [18] ∧ Below w.heap.size w w2) := ⟨C1, b1.trans b2⟩
                  clear b1 b2 C1
                  go_wp2_with (at_builtin; refine list_append_eq rfl _ _ 72 72 rfl _ _ rfl rfl e1 ?_)
                  go_ret3
                  rw [HN.out, HP2.out]
                  exact ⟨_, rfl, HB1.out⟩
                · have HP2 : Hid (numB 2 10 s.data.toList = (r, 2 + i, [c, 18])) := by show _ = _; rw [HP.out, if_neg hc0] <;> rfl
                  have hc1 : (c != 0) = true := by rw [bne_iff_ne]; exact hc0
                  clear HP
                  go_wp2_with (go_at_call 67; refine (hdg _).mono ?_; rintro e w' ⟨rfl, hw'⟩; obtain rfl := hw'.symm)
                  refine (k9 _).mono ?_
                  rintro e w1 ⟨rfl, b1⟩
                  obtain ⟨v1, w2, e1, C1, b2⟩ := cds_app (cds_nil w1 w.heap.size) c b1.size (by decide)
                  obtain ⟨v2, w3, e2, C2, b3⟩ := cds_app C1 18 (b1.trans b2).size (by simp)
                  have HB1 : Hid (Cds w3 w.heap.size v2 [c, 18] ∧ Below w.heap.size w w3) := ⟨C2, (b1.trans b2).trans b3⟩
                  have E2 : Hid ((Builtin.append_ #[72, 72] 72 #[v1, .slice (some ⟨w2.heap.size, 0, none⟩) 1 1]).run Try.prog (w2.alloc (.cells #[.int .i64 18] 3)) = .ok v2 w3) := e2
                  clear b1 b2 b3 C1 C2 e2
                  go_upto_region 16 with (at_builtin; refine list_append_eq rfl _ _ 72 72 rfl _ _ rfl rfl e1 ?_)
                  have e2 := E2.out
                  clear e1
                  go_wp2_with (at_builtin; refine list_append_eq rfl _ _ 72 72 rfl _ _ rfl rfl e2 ?_)
                  go_ret3
                  rw [HN.out, HP2.out]
                  exact ⟨_, rfl, HB1.out⟩
        · have hie : 2 + i = s.size := by omega
          have hE : atEnd s 2 10 i a := by
            have e : digs 10 (s.data.toList.drop 2) = (s.data.toList.drop 2).take i := by
              have h1 := HA.out
              rw [List.take_of_length_le (by rw [List.length_drop, HS.out]; omega)] at h1 ⊢
              exact digs_all h1
            exact ⟨by rw [e]; exact HLi.out, by rw [e]; exact HNa.out⟩
          have HP : Hid (numB 2 10 s.data.toList = _) := numB_of hE
          clear hE
          by_cases hi0 : i = 0
          · subst hi0
            have hsz : s.size = 2 := by omega
            have HP2 : Hid (numB 2 10 s.data.toList = (0, 0, [20])) := by show _ = _; rw [HP.out, if_pos rfl]
            clear HP
            go_wp2_with fail
            go_ret3
            rw [HN.out, HP2.out]
            exact ⟨_, rfl, cds_one _ _ _ (Nat.le_refl _), (Below.refl _ _).alloc (Nat.le_refl _) _⟩
          · rw [if_neg hi0] at HP
            have hne : ((2 : Int) + (i : Int) == 2) = false := beq_false_of_ne (by omega)
            obtain ⟨rc, hrc⟩ : ∃ rc, chrP (a : Nat) = rc := ⟨_, rfl⟩
            have k9 := fun w => rnumber_any (a : Nat) w (by omega)
            rw [hrc] at k9 HP
            obtain ⟨r, c⟩ := rc
            simp only at k9 HP
            clear hrc
            rw [semi_end s (2 + i) (by omega), if_neg (by simp)] at HP
            by_cases hc0 : c = 0
            · have HP2 : Hid (numB 2 10 s.data.toList = (r, 2 + i, [18])) := by show _ = _; rw [HP.out, if_pos hc0] <;> rfl
              subst hc0
              clear HP
              go_wp2_with fail
              refine (k9 _).mono ?_
              rintro e w1 ⟨rfl, b1⟩
              obtain ⟨v1, w2, e1, C1, b2⟩ := cds_app (cds_nil w1 w.heap.size) 18 b1.size (by decide)
              have HB1 : Hid (Cds w2 w.heap.size v1 [18] ∧ Below w.heap.size w w2) := ⟨C1, b1.trans b2⟩
              clear b1 b2 C1
              go_wp2_with (at_builtin; refine list_append_eq rfl _ _ 72 72 rfl _ _ rfl rfl e1 ?_)
              go_ret3
              rw [HN.out, HP2.out]
              exact ⟨_, rfl, HB1.out⟩
            · have HP2 : Hid (numB 2 10 s.data.toList = (r, 2 + i, [c, 18])) := by show _ = _; rw [HP.out, if_neg hc0] <;> rfl
              have hc1 : (c != 0) = true := by rw [bne_iff_ne]; exact hc0
              clear HP
              go_wp2_with fail
              refine (k9 _).mono ?_
              rintro e w1 ⟨rfl, b1⟩
              obtain ⟨v1, w2, e1, C1, b2⟩ := cds_app (cds_nil w1 w.heap.size) c b1.size (by decide)
              obtain ⟨v2, w3, e2, C2, b3⟩ := cds_app C1 18 (b1.trans b2).size (by simp)
              have HB1 : Hid (Cds w3 w.heap.size v2 [c, 18] ∧ Below w.heap.size w w3) := ⟨C2, (b1.trans b2).trans b3⟩
              have E2 : Hid ((Builtin.append_ #[72, 72] 72 #[v1, .slice (some ⟨w2.heap.size, 0, none⟩) 1 1]).run Try.prog (w2.alloc (.cells #[.int .i64 18] 3)) = .ok v2 w3) := e2
              clear b1 b2 b3 C1 C2 e2
              go_upto_region 16 with (at_builtin; refine list_append_eq rfl _ _ 72 72 rfl _ _ rfl rfl e1 ?_)
              have e2 := E2.out
              clear e1
              go_wp2_with (at_builtin; refine list_append_eq rfl _ _ 72 72 rfl _ _ rfl rfl e2 ?_)
              go_ret3
              rw [HN.out, HP2.out]
              exact ⟨_, rfl, HB1.out⟩
    · have HN : Hid (numbP s.data.toList = numB 3 16 s.data.toList) := HX.out
      go_wp2_with fail
      go_loopw [5, 9] (fun av nv wr => ∃ (i : Nat), av = .int .i64 (3 + i : Int) ∧ 3 + i ≤ s.size ∧ nv = .int .i64 (accN 16 ((s.data.toList.drop 3).take i) : Nat) ∧ ((s.data.toList.drop 3).take i).all (fun b => decide (dig b.toNat < 16)) = true ∧ wr = w) (fun av _ _ => s.size - (intOf av).toNat)
      case atStart => exact ⟨0, rfl, HXl.out (by trivial), rfl, rfl, rfl⟩
      case round =>
        obtain ⟨i, rfl, hi, rfl, hall, hw'⟩ := hrel
        obtain rfl := hw'.symm
        have HA : Hid (((s.data.toList.drop 3).take i).all (fun b => decide (dig b.toNat < 16)) = true) := hall
        have hle := accN_le 16 ((s.data.toList.drop 3).take i)
        obtain ⟨a, ha⟩ : ∃ a, accN 16 ((s.data.toList.drop 3).take i) = a := ⟨_, rfl⟩
        rw [ha] at hle ⊢
        have HNa : Hid (accN 16 ((s.data.toList.drop 3).take i) = a) := ha
        have hli : ((s.data.toList.drop 3).take i).length = i := by
          rw [List.length_take, List.length_drop, HS.out]; omega
        have HLi : Hid (((s.data.toList.drop 3).take i).length = i) := hli
        clear hall ha hli
        by_cases hlt : 3 + i < s.size
        · have hat : (s.data.toList.drop 3)[i]? = some s[3 + i] := by rw [List.getElem?_drop]; exact at_i s (3 + i) hlt
          have hdg := fun w => rdigit_any (s[3 + i].toNat) true w (by have := UInt8.toNat_lt s[3 + i]; omega)
          have hdl := dig_le s[3 + i].toNat
          by_cases hdb : dig s[3 + i].toNat < 16
          · have hrd : rdig true s[3 + i].toNat = (dig s[3 + i].toNat : Int) := by unfold rdig; rw [if_pos (show dig s[3 + i].toNat < bs true from hdb)]
            rw [hrd] at hdg
            have HSn : Hid ((s.data.toList.drop 3).take (i + 1) = (s.data.toList.drop 3).take i ++ [s[3 + i]]) := by
              show _ = _
              have hl2 : i < (s.data.toList.drop 3).length := by rw [List.length_drop, HS.out]; omega
              rw [← List.take_append_getElem hl2]
              congr 2
              rw [List.getElem?_eq_getElem hl2] at hat
              exact Option.some.inj hat
            obtain ⟨d, hd⟩ : ∃ d, dig s[3 + i].toNat = d := ⟨_, rfl⟩
            rw [hd] at hdg hdl hdb
            have HD : Hid (dig s[3 + i].toNat = d) := hd
            have hmul : 16 * a ≤ 16777216 * 16 := by omega
            clear hd hat hrd
            go_wp2_with (go_at_call 67; refine (hdg _).mono ?_; rintro e w' ⟨rfl, hw'⟩; obtain rfl := hw'.symm)
            all_goals
              refine ⟨⟨i + 1, by go_num, by omega, ?_, ?_, by first | rfl | trivial⟩, by simp [intOf]; omega⟩
              · rw [HSn.out, accN_snoc, HNa.out, HD.out]
                congr 1
                first | omega | (split <;> omega)
              · rw [HSn.out, List.all_append, HA.out]
                simp [HD.out, hdb]
          · have hrd : rdig true s[3 + i].toNat = -1 := by unfold rdig; rw [if_neg (show ¬ dig s[3 + i].toNat < bs true from hdb)]
            rw [hrd] at hdg
            have hE : atEnd s 3 16 i a := by
              have e := digs_stop HA.out hat hdb
              exact ⟨by rw [e]; exact HLi.out, by rw [e]; exact HNa.out⟩
            have HP : Hid (numB 3 16 s.data.toList = _) := numB_of hE
            clear hE hat hrd hdb hdl
            by_cases hi0 : i = 0
            · subst hi0
              have hdg2 : ∀ w, Calls Try.prog 67 #[.int .u8 ((s[3]).toNat : Int), .bool true] w fun e w' => e = .returned (.int .i64 (-1)) ∧ w' = w := hdg
              clear hdg
              have HP2 : Hid (numB 3 16 s.data.toList = (0, 0, [20])) := by show _ = _; rw [HP.out, if_pos rfl]
              clear HP
              go_wp2_with (go_at_call 67; refine (hdg2 _).mono ?_; rintro e w' ⟨rfl, hw'⟩; obtain rfl := hw'.symm)
              go_ret3
              rw [HN.out, HP2.out]
              exact ⟨_, rfl, cds_one _ _ _ (Nat.le_refl _), (Below.refl _ _).alloc (Nat.le_refl _) _⟩
            · rw [if_neg hi0] at HP
              have hne : ((3 : Int) + (i : Int) == 3) = false := beq_false_of_ne (by omega)
              obtain ⟨rc, hrc⟩ : ∃ rc, chrP (a : Nat) = rc := ⟨_, rfl⟩
              have k9 := fun w => rnumber_any (a : Nat) w (by omega)
              rw [hrc] at k9 HP
              obtain ⟨r, c⟩ := rc
              simp only at k9 HP
              clear hrc
              rw [semi_at s (3 + i) hlt] at HP
              by_cases h59 : (s[3 + i].toNat : Int) = 59
              · rw [if_pos (by rw [h59]; rfl)] at HP
                rw [h59] at hdg
                by_cases hc0 : c = 0
                · have HP2 : Hid (numB 3 16 s.data.toList = (r, 3 + i + 1, [])) := by show _ = _; rw [HP.out, if_pos hc0] <;> rfl
                  subst hc0
                  clear HP
                  go_wp2_with (go_at_call 67; refine (hdg _).mono ?_; rintro e w' ⟨rfl, hw'⟩; obtain rfl := hw'.symm)
                  refine (k9 _).mono ?_
                  rintro e w1 ⟨rfl, b1⟩
                  have HB1 : Hid (Below w.heap.size w w1) := b1
                  clear b1
                  go_wp2_with fail
                  go_ret3
                  rw [HN.out, HP2.out]
                  exact ⟨_, rfl, cds_nil _ _, HB1.out⟩
                · have HP2 : Hid (numB 3 16 s.data.toList = (r, 3 + i + 1, [c])) := by show _ = _; rw [HP.out, if_neg hc0] <;> rfl
                  have hc1 : (c != 0) = true := by rw [bne_iff_ne]; exact hc0
                  clear HP
                  go_wp2_with (go_at_call 67; refine (hdg _).mono ?_; rintro e w' ⟨rfl, hw'⟩; obtain rfl := hw'.symm)
                  refine (k9 _).mono ?_
                  rintro e w1 ⟨rfl, b1⟩
                  obtain ⟨v1, w2, e1, C1, b2⟩ := cds_app (cds_nil w1 w.heap.size) c b1.size (by decide)
                  have HB1 : Hid (Cds w2 w.heap.size v1 [c] ∧ Below w.heap.size w w2) := ⟨C1, b1.trans b2⟩
                  clear b1 b2 C1
                  go_wp2_with (at_builtin; refine list_append_eq rfl _ _ 72 72 rfl _ _ rfl rfl e1 ?_)
                  go_ret3
                  rw [HN.out, HP2.out]
                  exact ⟨_, rfl, HB1.out⟩
              · have h59' := beq_false_of_ne h59
                rw [if_neg (by rw [h59']; simp)] at HP
                by_cases hc0 : c = 0
                · have HP2 : Hid (numB 3 16 s.data.toList = (r, 3 + i, [18])) := by show _ = _; rw [HP.out, if_pos hc0] <;> rfl
                  subst hc0
                  clear HP
                  go_wp2_with (go_at_call 67; refine (hdg _).mono ?_; rintro e w' ⟨rfl, hw'⟩; obtain rfl := hw'.symm)
                  refine (k9 _).mono ?_
                  rintro e w1 ⟨rfl, b1⟩
                  obtain ⟨v1, w2, e1, C1, b2⟩ := cds_app (cds_nil w1 w.heap.size) 18 b1.size (by decide)
                  have HB1 : Hid (Cds w2 w.heap.size v1 [18] ∧ Below w.heap.size w w2) := ⟨C1, b1.trans b2⟩
                  clear b1 b2 C1
                  go_wp2_with (at_builtin; refine list_append_eq rfl _ _ 72 72 rfl _ _ rfl rfl e1 ?_)
                  go_ret3
                  rw [HN.out, HP2.out]
                  exact ⟨_, rfl, HB1.out⟩
                · have HP2 : Hid (numB 3 16 s.data.toList = (r, 3 + i, [c, 18])) := by show _ = _; rw [HP.out, if_neg hc0] <;> rfl
                  have hc1 : (c != 0) = true := by rw [bne_iff_ne]; exact hc0
                  clear HP
                  go_wp2_with (go_at_call 67; refine (hdg _).mono ?_; rintro e w' ⟨rfl, hw'⟩; obtain rfl := hw'.symm)
                  refine (k9 _).mono ?_
                  rintro e w1 ⟨rfl, b1⟩
                  obtain ⟨v1, w2, e1, C1, b2⟩ := cds_app (cds_nil w1 w.heap.size) c b1.size (by decide)
                  obtain ⟨v2, w3, e2, C2, b3⟩ := cds_app C1 18 (b1.trans b2).size (by simp)
                  have HB1 : Hid (Cds w3 w.heap.size v2 [c, 18] ∧ Below w.heap.size w w3) := ⟨C2, (b1.trans b2).trans b3⟩
                  have E2 : Hid ((Builtin.append_ #[72, 72] 72 #[v1, .slice (some ⟨w2.heap.size, 0, none⟩) 1 1]).run Try.prog (w2.alloc (.cells #[.int .i64 18] 3)) = .ok v2 w3) := e2
                  clear b1 b2 b3 C1 C2 e2
                  go_upto_region 16 with (at_builtin; refine list_append_eq rfl _ _ 72 72 rfl _ _ rfl rfl e1 ?_)
                  have e2 := E2.out
                  clear e1
                  go_wp2_with (at_builtin; refine list_append_eq rfl _ _ 72 72 rfl _ _ rfl rfl e2 ?_)
                  go_ret3
                  rw [HN.out, HP2.out]
                  exact ⟨_, rfl, HB1.out⟩
        · have hie : 3 + i = s.size := by omega
          have hE : atEnd s 3 16 i a := by
            have e : digs 16 (s.data.toList.drop 3) = (s.data.toList.drop 3).take i := by
              have h1 := HA.out
              rw [List.take_of_length_le (by rw [List.length_drop, HS.out]; omega)] at h1 ⊢
              exact digs_all h1
            exact ⟨by rw [e]; exact HLi.out, by rw [e]; exact HNa.out⟩
          have HP : Hid (numB 3 16 s.data.toList = _) := numB_of hE
          clear hE
          by_cases hi0 : i = 0
          · subst hi0
            have hsz : s.size = 3 := by omega
            have HP2 : Hid (numB 3 16 s.data.toList = (0, 0, [20])) := by show _ = _; rw [HP.out, if_pos rfl]
            clear HP
            go_wp2_with fail
            go_ret3
            rw [HN.out, HP2.out]
            exact ⟨_, rfl, cds_one _ _ _ (Nat.le_refl _), (Below.refl _ _).alloc (Nat.le_refl _) _⟩
          · rw [if_neg hi0] at HP
            have hne : ((3 : Int) + (i : Int) == 3) = false := beq_false_of_ne (by omega)
            obtain ⟨rc, hrc⟩ : ∃ rc, chrP (a : Nat) = rc := ⟨_, rfl⟩
            have k9 := fun w => rnumber_any (a : Nat) w (by omega)
            rw [hrc] at k9 HP
            obtain ⟨r, c⟩ := rc
            simp only at k9 HP
            clear hrc
            rw [semi_end s (3 + i) (by omega), if_neg (by simp)] at HP
            by_cases hc0 : c = 0
            · have HP2 : Hid (numB 3 16 s.data.toList = (r, 3 + i, [18])) := by show _ = _; rw [HP.out, if_pos hc0] <;> rfl
              subst hc0
              clear HP
              go_wp2_with fail
              refine (k9 _).mono ?_
              rintro e w1 ⟨rfl, b1⟩
              obtain ⟨v1, w2, e1, C1, b2⟩ := cds_app (cds_nil w1 w.heap.size) 18 b1.size (by decide)
              have HB1 : Hid (Cds w2 w.heap.size v1 [18] ∧ Below w.heap.size w w2) := ⟨C1, b1.trans b2⟩
              clear b1 b2 C1
              go_wp2_with (at_builtin; refine list_append_eq rfl _ _ 72 72 rfl _ _ rfl rfl e1 ?_)
              go_ret3
              rw [HN.out, HP2.out]
              exact ⟨_, rfl, HB1.out⟩
            · have HP2 : Hid (numB 3 16 s.data.toList = (r, 3 + i, [c, 18])) := by show _ = _; rw [HP.out, if_neg hc0] <;> rfl
              have hc1 : (c != 0) = true := by rw [bne_iff_ne]; exact hc0
              clear HP
              go_wp2_with fail
              refine (k9 _).mono ?_
              rintro e w1 ⟨rfl, b1⟩
              obtain ⟨v1, w2, e1, C1, b2⟩ := cds_app (cds_nil w1 w.heap.size) c b1.size (by decide)
              obtain ⟨v2, w3, e2, C2, b3⟩ := cds_app C1 18 (b1.trans b2).size (by simp)
              have HB1 : Hid (Cds w3 w.heap.size v2 [c, 18] ∧ Below w.heap.size w w3) := ⟨C2, (b1.trans b2).trans b3⟩
              have E2 : Hid ((Builtin.append_ #[72, 72] 72 #[v1, .slice (some ⟨w2.heap.size, 0, none⟩) 1 1]).run Try.prog (w2.alloc (.cells #[.int .i64 18] 3)) = .ok v2 w3) := e2
              clear b1 b2 b3 C1 C2 e2
              go_upto_region 16 with (at_builtin; refine list_append_eq rfl _ _ 72 72 rfl _ _ rfl rfl e1 ?_)
              have e2 := E2.out
              clear e1
              go_wp2_with (at_builtin; refine list_append_eq rfl _ _ 72 72 rfl _ _ rfl rfl e2 ?_)
              go_ret3
              rw [HN.out, HP2.out]
              exact ⟨_, rfl, HB1.out⟩
end Go.Proofs.Ytkbakbacomidbaa.G6
