/- The document's One. -/
import Derived.Test.YtkbakbacomidbaaProg
import Derived.BigQuiet
import Derived.BigRegion
import Derived.Deep.DeepCutAuto
import Derived.Deep.QuietTactic
import Derived.Deep.RegionHeld3
import Derived.Deep.RegionLaw
import Derived.Deep.Upon
import Derived.Laws.AppendOwn
import Derived.Maps.AppendAt
import Derived.Maps.OwnSet
import Derived.ScopeJumps
import Derived.Shelf.Small.Strs
import Derived.Shelf.Strings.Builder1
import Derived.Shelf.Strings.BuilderF
import Derived.Shelf.Strings.BuilderK
import Derived.Shelf.Strings.BuilderRune
import Derived.Shelf.Strings.Prefix
import Derived.WalkArith
import Derived.WalkKit
import Derived.WalkLawsBesides
import Derived.WalkMore
import Derived.WalkSpells
import Derived.Test.YtkbakbacomidbaaZw
import Derived.Test.YtkbakbacomidbaaZy
namespace Go.Proofs.Ytkbakbacomidbaa.G6
open Go.RowKit
theorem drop_at (s : ByteArray) (i : Nat) (h : i < s.size) : s.data.toList.drop i = s[i] :: s.data.toList.drop (i + 1) := by
  have h0 : i < s.data.toList.length := by rw [Array.length_toList]; exact h
  exact List.drop_eq_getElem_cons h0
set_option maxHeartbeats 1000000 in
theorem alnum_any (b : Nat) (w : World) : Calls Try.prog 58 #[.int .u8 (b : Int)] w fun e w' => e = .returned (.bool (wordyP b)) ∧ w' = w := by
  go_enter Try.func58, Try.ntmps58
  go_wp2
  all_goals
    go_ret
    refine ⟨ret_bool ?_, rfl⟩
    unfold wordyP
    first | (symm; apply decide_eq_true; omega) | (symm; apply decide_eq_false; omega) | (rw [Bool.eq_iff_iff]; simp; omega)
theorem ref_amp {L : List Rf} {attr : Bool} {s : ByteArray} (h1 : 1 ≤ s.size) (h0 : (s[0].toNat : Int) = 38) (hno : ¬ ∃ h : 1 < s.size, (s[1].toNat : Int) = 35) : refP L attr s.data.toList = namedP L attr (s.data.toList.drop 1) := by
  have e0 : s[0] = 38 := UInt8.toNat_inj.1 (by show s[0].toNat = 38; omega)
  unfold refP
  rw [if_neg, if_pos]
  · rw [list1 s h1, e0]; rfl
  · by_cases h2 : 2 ≤ s.size
    · rw [list2 s h2]
      simp only [List.isPrefixOf, Bool.and_eq_true, beq_iff_eq]
      rintro ⟨_, e, _⟩
      exact hno ⟨by omega, by rw [← e]; rfl⟩
    · have hl := list1 s h1
      have hd : s.data.toList.drop 1 = [] := List.drop_eq_nil_of_le (by rw [Array.length_toList]; show s.size ≤ 1; omega)
      rw [hl, hd]
      simp [List.isPrefixOf]
theorem ref_num35 {L : List Rf} {attr : Bool} {s : ByteArray} (h2 : 2 ≤ s.size) (h0 : (s[0].toNat : Int) = 38) (h1 : (s[1].toNat : Int) = 35) : refP L attr s.data.toList = numbP s.data.toList := by
  have e0 : s[0] = 38 := UInt8.toNat_inj.1 (by show s[0].toNat = 38; omega)
  have e1 : s[1] = 35 := UInt8.toNat_inj.1 (by show s[1].toNat = 35; omega)
  unfold refP
  rw [if_pos]
  rw [list2 s h2, e0, e1]; rfl
theorem ref_not {L : List Rf} {attr : Bool} {s : ByteArray} (h1 : 1 ≤ s.size) (h0 : ¬ (s[0].toNat : Int) = 38) : refP L attr s.data.toList = (0, 0, []) := by
  have e0 : ¬ (38 : UInt8) = s[0] := fun e => h0 (by rw [← e]; rfl)
  unfold refP
  rw [list1 s h1, if_neg (by simp [List.isPrefixOf, e0]), if_neg (by simp [List.isPrefixOf, e0])]
theorem goesOn_at (s : ByteArray) (n : Nat) : goesOnP ((s.data.toList.drop 1).drop n) = if h : n + 1 < s.size then ((s[n + 1].toNat : Int) == 61 || wordyP s[n + 1].toNat) else false := by
  rw [List.drop_drop, Nat.add_comm 1 n]
  by_cases h : n + 1 < s.size
  · rw [dif_pos h, drop_at s (n + 1) h]
    show (s[n + 1].toNat == 61 || _) = _
    congr 1
    rw [Bool.eq_iff_iff]; simp; omega
  · rw [dif_neg h, List.drop_eq_nil_of_le (by rw [Array.length_toList]; show s.size ≤ n + 1; omega)]
    rfl
theorem named_of {L : List Rf} {l : List UInt8} {r : Int} {z : Nat} (hbt : best L l l.length = (r, z)) (attr : Bool) : namedP L attr l = if z = 0 then (if begunP L l = true then (0, 0, [19]) else (0, 0, [])) else if l[z - 1]? = some 59 then (r, 1 + z, []) else if (attr && goesOnP (l.drop z)) = true then (0, 0, []) else (r, 1 + z, [18]) := by
  unfold namedP
  rw [hbt]
set_option maxHeartbeats 1000000 in
set_option maxRecDepth 10000 in
theorem rone_named {L : List Rf} (A : Api L) (s : ByteArray) (attr : Bool) (w : World) (h1 : 1 ≤ s.size) (hs : s.size ≤ 1000000) (h0 : (s[0].toNat : Int) = 38) (hno : ¬ ∃ h : 1 < s.size, (s[1].toNat : Int) = 35) :
    Calls Try.prog 42 #[.string s, .bool attr] w fun e w' => Refd w .i64 (namedP L attr (s.data.toList.drop 1)) e w' := by
  have HA : Hid (Api L) := A
  have hlen : s.data.toList.length = s.size := Array.length_toList
  have hsz : (s.extract 1 s.size).size = s.size - 1 := by simp [ByteArray.size_extract]
  have hd := bytes_drop s 1
  have hse : s.toList.isEmpty = false := by rw [ByteArray.toList_eq, list1 s h1]; rfl
  have hse2 : ¬ s.toList = [] := by rw [ByteArray.toList_eq, list1 s h1]; simp
  have HD : Hid ((s.extract 1 s.size).data.toList = s.data.toList.drop 1 ∧ (s.extract 1 s.size).size = s.size - 1 ∧ (s.data.toList.drop 1).length = s.size - 1) := ⟨hd, hsz, by rw [List.length_drop, hlen]⟩
  have HL : Hid (s.data.toList.length = s.size) := hlen
  clear hlen hsz hd A
  go_enter Try.func42, Try.ntmps42
  go_upto_region 3 with fail
  go_cut [25] (fun sv wc => sv = .bool false ∧ wc = w)
  case first =>
    by_cases hl1 : 1 < s.size
    · have h35 : ((s[1].toNat : Int) == 35) = false := beq_false_of_ne fun e => hno ⟨hl1, e⟩
      clear hno
      go_wp2_with fail
      go_meet
      exact ⟨rfl, rfl⟩
    · clear hno
      go_wp2_with fail
      go_meet
      exact ⟨rfl, rfl⟩
  case rest =>
    obtain ⟨rfl, hw'⟩ := hcut
    obtain rfl := hw'.symm
    clear hno hse hse2 hw'
    go_wp2_with fail
    refine (HA.out.refs _).mono ?_
    rintro e w1 ⟨rfl, hr1, b1, _⟩
    have hnm := names_any (w := w1) 78 78 hr1 HA.out.len (by decide)
    have HB1 : Hid (Below w.heap.size w w1) := b1
    clear hr1 b1
    go_wp2_with fail
    refine hnm.mono ?_
    rintro e w2 ⟨ao, nn, cp, rfl, hnn, hrow, b2⟩
    have hnl : nn ≤ 100000 := by
      rw [← hnn, all_len]
      have := cnt_le [] L
      rw [HA.out.len] at this
      omega
    have HB2 : Hid (Below w.heap.size w w2 ∧ RefRow w2 ao (allP L) ∧ (allP L).length = nn) := ⟨HB1.out.trans (b2.mono HB1.out.size), hrow, hnn⟩
    have hlg := rlong_best nn cp (s.extract 1 s.size) hrow hnn hnl
    rw [HD.out.1, HD.out.2.1, ← HD.out.2.2] at hlg
    have hble := best_le L (s.data.toList.drop 1) (s.data.toList.drop 1).length
    obtain ⟨bt, hbt⟩ : ∃ bt, best L (s.data.toList.drop 1) (s.data.toList.drop 1).length = bt := ⟨_, rfl⟩
    rw [hbt] at hlg hble
    obtain ⟨r, z⟩ := bt
    have HP : Hid (namedP L attr (s.data.toList.drop 1) = _) := named_of hbt attr
    simp only at hlg hble
    rw [HD.out.2.2] at hble
    clear hbt hnm hrow hnn b2 HB1
    go_wp2_with fail
    refine hlg.mono ?_
    rintro e w3 ⟨rfl, b3⟩
    have HB3 : Hid (Below w.heap.size w w3 ∧ RefRow w3 ao (allP L) ∧ (allP L).length = nn) := ⟨HB2.out.1.trans (b3.mono HB2.out.1.size), HB2.out.2.1.below b3, HB2.out.2.2⟩
    clear hlg b3 HB2
    by_cases hz : z = 0
    · subst hz
      rw [if_pos rfl] at HP
      have hgs : ∀ k, Calls Try.prog 59 #[.slice ao nn cp, .string (s.extract 1 (k + 1))] w3 fun e w' => e = .returned (.bool (goes L ((s.data.toList.drop 1).take k))) ∧ w' = w3 := fun k => by
        have := rgoes_goes nn cp (s.extract 1 (k + 1)) HB3.out.2.1 HB3.out.2.2 hnl
        have e : (s.extract 1 (k + 1)).data.toList = (s.data.toList.drop 1).take k := by
          simp only [ByteArray.data_extract, Array.toList_extract, List.extract_eq_take_drop]
          rfl
        rw [e] at this
        exact this
      go_wp2_with fail
      go_loopw [10] (fun kv wr => ∃ (n : Nat), kv = .int .i64 ((n : Int) + 1) ∧ n + 1 ≤ s.size ∧ begF L (s.data.toList.drop 1) ((s.data.toList.drop 1).length - n) n = begN L (s.data.toList.drop 1) ∧ wr = w3) (fun kv _ => s.size - (intOf kv).toNat)
      case atStart => exact ⟨0, rfl, h1, rfl, rfl⟩
      case round =>
        obtain ⟨n, rfl, hn, hbg, hw'⟩ := hrel
        obtain rfl := hw'.symm
        have HEnd : Hid (begC L (s.data.toList.drop 1) n = false → begN L (s.data.toList.drop 1) = n) := fun h => by
          have h2 := hbg
          rw [begF_stop h] at h2
          exact h2.symm
        have HBg : Hid (begF L (s.data.toList.drop 1) ((s.data.toList.drop 1).length - n) n = begN L (s.data.toList.drop 1)) := hbg
        clear hbg hw'
        by_cases hlt : n + 1 < s.size
        · have hwd := alnum_any s[n + 1].toNat
          have HC : Hid (begC L (s.data.toList.drop 1) n = (wordyP s[n + 1].toNat && goes L ((s.data.toList.drop 1).take (n + 1)))) := by
            show _ = _
            unfold begC
            rw [List.getElem?_drop, Nat.add_comm 1 n, at_i s (n + 1) hlt]
          obtain ⟨wd, hwd2⟩ : ∃ wd, wordyP s[n + 1].toNat = wd := ⟨_, rfl⟩
          rw [hwd2] at hwd HC
          clear hwd2
          have hg := hgs (n + 1)
          obtain ⟨g, hgg⟩ : ∃ g, goes L ((s.data.toList.drop 1).take (n + 1)) = g := ⟨_, rfl⟩
          rw [hgg] at hg HC
          clear hgg hgs
          by_cases hwg : (wd && g) = true
          · obtain ⟨rfl, rfl⟩ : wd = true ∧ g = true := by simpa using hwg
            clear HP HEnd
            go_wp2_with (first | (go_at_call 58; refine (hwd _).mono ?_; rintro e w' ⟨rfl, hw'⟩; obtain rfl := hw'.symm) | (go_at_call 59; refine hg.mono ?_; rintro e w' ⟨rfl, hw'⟩; obtain rfl := hw'.symm))
            refine ⟨⟨n + 1, by go_num, by omega, ?_, by first | rfl | trivial⟩, by simp [intOf]; omega⟩
            rw [← HBg.out]
            exact (begF_step (by rw [HC.out]; rfl)).symm
          · have hbc : begC L (s.data.toList.drop 1) n = false := by rw [HC.out]; simpa using hwg
            have hsm := semi_at s (n + 1) hlt
            have HF : Hid (namedP L attr (s.data.toList.drop 1) = if (decide (1 < (n : Int) + 1) && ((s[n + 1].toNat : Int) == 59)) = true then (0, 0, [19]) else (0, 0, [])) := by
              show _ = _
              rw [HP.out, ← hsm]
              unfold begunP
              rw [HEnd.out hbc, List.drop_drop, Nat.add_comm 1 n]
              have : decide (0 < n) = decide (1 < (n : Int) + 1) := by rw [Bool.eq_iff_iff]; simp; omega
              rw [this]
            clear HP HEnd hsm hbc HBg HC
            by_cases hn0 : n = 0
            · subst hn0
              have HF2 : Hid (namedP L attr (s.data.toList.drop 1) = (0, 0, [])) := by show _ = _; rw [HF.out]; rfl
              clear HF
              have hwd' : ∀ w, Calls Try.prog 58 #[.int .u8 ((s[1]).toNat : Int)] w fun e w' => e = .returned (.bool wd) ∧ w' = w := hwd
              have hg' : Calls Try.prog 59 #[.slice ao nn cp, .string (s.extract 1 2)] w3 fun e w' => e = .returned (.bool g) ∧ w' = w3 := hg
              clear hwd hg
              cases wd
              · go_wp2_with (first | (go_at_call 58; refine (hwd' _).mono ?_; rintro e w' ⟨rfl, hw'⟩; obtain rfl := hw'.symm))
                go_ret3
                first | rw [HF2.out] | rw [← List.drop_one, HF2.out]
                exact ⟨_, rfl, cds_nil _ _, HB3.out.1⟩
              · obtain rfl : g = false := by simpa using hwg
                go_wp2_with (first | (go_at_call 58; refine (hwd' _).mono ?_; rintro e w' ⟨rfl, hw'⟩; obtain rfl := hw'.symm) | (go_at_call 59; refine hg'.mono ?_; rintro e w' ⟨rfl, hw'⟩; obtain rfl := hw'.symm))
                go_ret3
                first | rw [HF2.out] | rw [← List.drop_one, HF2.out]
                exact ⟨_, rfl, cds_nil _ _, HB3.out.1⟩
            · have hn1 : (1 : Int) < (n : Int) + 1 := by omega
              rw [decide_eq_true hn1, Bool.true_and] at HF
              by_cases h59 : (s[n + 1].toNat : Int) = 59
              · have HF2 : Hid (namedP L attr (s.data.toList.drop 1) = (0, 0, [19])) := by show _ = _; rw [HF.out, if_pos (by rw [h59]; rfl)]
                clear HF
                rw [h59] at hwd
                cases wd
                · go_wp2_with (first | (go_at_call 58; refine (hwd _).mono ?_; rintro e w' ⟨rfl, hw'⟩; obtain rfl := hw'.symm))
                  go_ret3
                  first | rw [HF2.out] | rw [← List.drop_one, HF2.out]
                  exact ⟨_, rfl, cds_one _ _ _ HB3.out.1.size, HB3.out.1.alloc HB3.out.1.size _⟩
                · obtain rfl : g = false := by simpa using hwg
                  go_wp2_with (first | (go_at_call 58; refine (hwd _).mono ?_; rintro e w' ⟨rfl, hw'⟩; obtain rfl := hw'.symm) | (go_at_call 59; refine hg.mono ?_; rintro e w' ⟨rfl, hw'⟩; obtain rfl := hw'.symm))
                  go_ret3
                  first | rw [HF2.out] | rw [← List.drop_one, HF2.out]
                  exact ⟨_, rfl, cds_one _ _ _ HB3.out.1.size, HB3.out.1.alloc HB3.out.1.size _⟩
              · have h59' := beq_false_of_ne h59
                have HF2 : Hid (namedP L attr (s.data.toList.drop 1) = (0, 0, [])) := by show _ = _; rw [HF.out, if_neg (by rw [h59']; simp)]
                clear HF
                cases wd
                · go_wp2_with (first | (go_at_call 58; refine (hwd _).mono ?_; rintro e w' ⟨rfl, hw'⟩; obtain rfl := hw'.symm))
                  go_ret3
                  first | rw [HF2.out] | rw [← List.drop_one, HF2.out]
                  exact ⟨_, rfl, cds_nil _ _, HB3.out.1⟩
                · obtain rfl : g = false := by simpa using hwg
                  go_wp2_with (first | (go_at_call 58; refine (hwd _).mono ?_; rintro e w' ⟨rfl, hw'⟩; obtain rfl := hw'.symm) | (go_at_call 59; refine hg.mono ?_; rintro e w' ⟨rfl, hw'⟩; obtain rfl := hw'.symm))
                  go_ret3
                  first | rw [HF2.out] | rw [← List.drop_one, HF2.out]
                  exact ⟨_, rfl, cds_nil _ _, HB3.out.1⟩
        · have hbc : begC L (s.data.toList.drop 1) n = false := by
            unfold begC
            rw [List.getElem?_eq_none (by rw [HD.out.2.2]; omega)]
          have HF2 : Hid (namedP L attr (s.data.toList.drop 1) = (0, 0, [])) := by
            show _ = _
            rw [HP.out]
            unfold begunP
            rw [HEnd.out hbc, List.drop_drop, semi_end s (1 + n) (by omega), Bool.and_false]
            rfl
          clear HP HEnd hbc HBg hgs
          have hie : n + 1 = s.size := by omega
          by_cases hn0 : n = 0
          · subst hn0
            go_wp2_with fail
            go_ret3
            first | rw [HF2.out] | rw [← List.drop_one, HF2.out]
            exact ⟨_, rfl, cds_nil _ _, HB3.out.1⟩
          · have hn1 : (1 : Int) < (n : Int) + 1 := by omega
            go_wp2_with fail
            go_ret3
            first | rw [HF2.out] | rw [← List.drop_one, HF2.out]
            exact ⟨_, rfl, cds_nil _ _, HB3.out.1⟩
    · rw [if_neg hz] at HP
      obtain ⟨y, rfl⟩ : ∃ y, z = y + 1 := ⟨z - 1, by omega⟩
      rw [show y + 1 - 1 = y from rfl] at HP
      have hyl : y + 1 < s.size := by omega
      have hb59 : (s.data.toList.drop 1)[y]? = some 59 ↔ (s[y + 1].toNat : Int) = 59 := by
        rw [List.getElem?_drop, Nat.add_comm 1 y]
        exact byte_at s (y + 1) hyl 59
      by_cases h59 : (s[y + 1].toNat : Int) = 59
      · have HF2 : Hid (namedP L attr (s.data.toList.drop 1) = (r, y + 1 + 1, [])) := by show _ = _; rw [HP.out, if_pos (hb59.2 h59), Nat.add_comm 1]
        clear HP hb59
        go_wp2_with fail
        go_ret3
        first | rw [HF2.out] | rw [← List.drop_one, HF2.out]
        exact ⟨_, rfl, cds_nil _ _, HB3.out.1⟩
      · have h59' := beq_false_of_ne h59
        rw [if_neg (fun c => h59 (hb59.1 c)), goesOn_at, Nat.add_comm 1] at HP
        clear hb59
        have fin0 : ∀ {P : Prop}, P → P := fun h => h
        cases attr
        · have HF2 : Hid (namedP L false (s.data.toList.drop 1) = (r, y + 1 + 1, [18])) := by show _ = _; rw [HP.out]; rfl
          clear HP
          go_wp2_with fail
          go_ret3
          first | rw [HF2.out] | rw [← List.drop_one, HF2.out]
          exact ⟨_, rfl, cds_one _ _ _ HB3.out.1.size, HB3.out.1.alloc HB3.out.1.size _⟩
        · by_cases hl2 : y + 1 + 1 < s.size
          · rw [dif_pos hl2, Bool.true_and] at HP
            by_cases h61 : (s[y + 1 + 1].toNat : Int) = 61
            · have HF2 : Hid (namedP L true (s.data.toList.drop 1) = (0, 0, [])) := by show _ = _; rw [HP.out, h61]; rfl
              clear HP
              go_wp2_with fail
              go_ret3
              first | rw [HF2.out] | rw [← List.drop_one, HF2.out]
              exact ⟨_, rfl, cds_nil _ _, HB3.out.1⟩
            · have h61' := beq_false_of_ne h61
              have hwd := alnum_any s[y + 1 + 1].toNat
              rw [h61', Bool.false_or] at HP
              obtain ⟨wd, hwd2⟩ : ∃ wd, wordyP s[y + 1 + 1].toNat = wd := ⟨_, rfl⟩
              rw [hwd2] at hwd HP
              clear hwd2
              cases wd
              · have HF2 : Hid (namedP L true (s.data.toList.drop 1) = (r, y + 1 + 1, [18])) := by show _ = _; rw [HP.out]; rfl
                clear HP
                go_wp2_with (go_at_call 58; refine (hwd _).mono ?_; rintro e w' ⟨rfl, hw'⟩; obtain rfl := hw'.symm)
                go_ret3
                first | rw [HF2.out] | rw [← List.drop_one, HF2.out]
                exact ⟨_, rfl, cds_one _ _ _ HB3.out.1.size, HB3.out.1.alloc HB3.out.1.size _⟩
              · have HF2 : Hid (namedP L true (s.data.toList.drop 1) = (0, 0, [])) := by show _ = _; rw [HP.out]; rfl
                clear HP
                go_wp2_with (go_at_call 58; refine (hwd _).mono ?_; rintro e w' ⟨rfl, hw'⟩; obtain rfl := hw'.symm)
                go_ret3
                first | rw [HF2.out] | rw [← List.drop_one, HF2.out]
                exact ⟨_, rfl, cds_nil _ _, HB3.out.1⟩
          · rw [dif_neg hl2] at HP
            have HF2 : Hid (namedP L true (s.data.toList.drop 1) = (r, y + 1 + 1, [18])) := by show _ = _; rw [HP.out]; rfl
            clear HP
            go_wp2_with fail
            go_ret3
            first | rw [HF2.out] | rw [← List.drop_one, HF2.out]
            exact ⟨_, rfl, cds_one _ _ _ HB3.out.1.size, HB3.out.1.alloc HB3.out.1.size _⟩
set_option maxHeartbeats 1000000 in
theorem rone_any {L : List Rf} (A : Api L) (s : ByteArray) (attr : Bool) (w : World) (hs : s.size ≤ 1000000) :
    Calls Try.prog 42 #[.string s, .bool attr] w fun e w' => Refd w .i64 (refP L attr s.data.toList) e w' := by
  by_cases hz : s.size = 0
  · have := empty_of_size s hz
    subst this
    go_enter Try.func42, Try.ntmps42
    go_wp2
    go_ret3
    exact ⟨_, rfl, cds_nil _ _, Below.refl _ _⟩
  have h1 : 1 ≤ s.size := by omega
  have hse : s.toList.isEmpty = false := by rw [ByteArray.toList_eq, list1 s h1]; rfl
  have hse2 : ¬ s.toList = [] := by rw [ByteArray.toList_eq, list1 s h1]; simp
  by_cases h0 : (s[0].toNat : Int) = 38
  · by_cases h35 : ∃ h : 1 < s.size, (s[1].toNat : Int) = 35
    · obtain ⟨hl, h35⟩ := h35
      rw [ref_num35 hl h0 h35]
      have hnd := rnum_any s w hl hs
      have HR : Hid (∀ e w', Refd w .i64 (numbP s.data.toList) e w' → ∃ r n v, e = .returned (.tuple #[.int .i64 r, .int .i64 n, v]) ∧ Refd w .i64 (numbP s.data.toList) (.returned (.tuple #[.int .i64 r, .int .i64 n, v])) w') := fun e w' h => by
        obtain ⟨v, rfl, h2⟩ := h
        exact ⟨_, _, v, rfl, v, rfl, h2⟩
      go_enter Try.func42, Try.ntmps42
      go_wp2_with (go_at_call 54; refine hnd.mono ?_; intro e w2 hr; obtain ⟨r, n, v, rfl, hr2⟩ := HR.out _ _ hr; clear hr; have HR2 : Hid _ := hr2; clear hr2)
      go_ret3
      exact HR2.out
    · rw [ref_amp h1 h0 h35]
      exact rone_named A s attr w h1 hs h0 h35
  · have HR : Hid (refP L attr s.data.toList = (0, 0, [])) := ref_not h1 h0
    have h0' : ((s[0].toNat : Int) != 38) = true := by rw [bne_iff_ne]; exact h0
    go_enter Try.func42, Try.ntmps42
    go_wp2
    go_ret3
    rw [HR.out]
    exact ⟨_, rfl, cds_nil _ _, Below.refl _ _⟩
end Go.Proofs.Ytkbakbacomidbaa.G6
