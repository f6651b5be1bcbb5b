/- The end of a comment that is cut off. -/
import Derived.Test.YtkbakbacomidbaaProg
import Derived.Below
import Derived.BigCall
import Derived.BigQuiet
import Derived.BigRegion
import Derived.Deep.DeepCutAuto
import Derived.Deep.LoopGhost
import Derived.Deep.QuietTactic
import Derived.Deep.RegionHeld3
import Derived.Deep.RegionLaw
import Derived.Deep.RegionWith
import Derived.Deep.Upon
import Derived.Laws.AppendOwn
import Derived.Laws.BytesArg
import Derived.Laws.EntriesVeiled
import Derived.Laws.IdiomStrings
import Derived.Laws.StructEq
import Derived.Lib.AppendStr
import Derived.Lib.RuneBytes
import Derived.Maps.AppendAt
import Derived.Maps.OwnSet
import Derived.OwnWalk
import Derived.ScopeJumps
import Derived.Shelf.Abstract
import Derived.Shelf.Small.Strs
import Derived.Shelf.Strings.Builder1
import Derived.Shelf.Strings.BuilderF
import Derived.Shelf.Strings.BuilderK
import Derived.Shelf.Strings.BuilderRune
import Derived.Shelf.Strings.Prefix
import Derived.StillTailTactics
import Derived.StringKeys
import Derived.WalkArith
import Derived.WalkKit
import Derived.WalkLawsBesides
import Derived.WalkMore
import Derived.WalkSpells
import Derived.Test.YtkbakbacomidbaaYb
namespace Go.Proofs.Ytkbakbacomidbaa
open Go.RowKit
def cutI : Nat → List UInt8 → List UInt8
  | 0, s => cutR s
  | 1, s => if [45, 45].isSuffixOf s = true then s.take (s.length - 2) else if [45].isSuffixOf s = true then s.take (s.length - 1) else s
  | 2, s => if [45].isSuffixOf s = true then s.take (s.length - 1) else s
  | _, s => s
def CutRow (B : Nat) (w : World) : Prop := w.cell? ⟨B, 0, none⟩ = some (.string ⟨#[45, 45, 33]⟩) ∧ w.cell? ⟨B, 1, none⟩ = some (.string ⟨#[45, 45]⟩) ∧ w.cell? ⟨B, 2, none⟩ = some (.string ⟨#[45]⟩) ∧ B < w.heap.size
theorem suf_drop {p s : List UInt8} (h : p.length ≤ s.length) : (p.isSuffixOf s = true) ↔ s.drop (s.length - p.length) = p := by
  rw [List.isSuffixOf_iff_suffix]
  constructor
  · rintro ⟨u, rfl⟩
    simp
  · intro e
    rw [← e]
    exact List.drop_suffix _ _
theorem bs_tail (s : List UInt8) (m : Nat) : (bs s).extract m (bs s).size = bs (s.drop m) := by
  apply G9.bytes_eq
  rw [G6.bytes_drop, bs_list, bs_list]
theorem bs_front (s : List UInt8) (m : Nat) : (bs s).extract 0 m = bs (s.take m) := by
  apply G9.bytes_eq
  simp [ByteArray.data_extract, bs]
theorem cutI_pos : ∀ (i : Nat) {s : List UInt8}, (i = 0 → [45, 45, 33].isSuffixOf s = true) → (i = 1 → [45, 45].isSuffixOf s = true) → (i = 2 → [45].isSuffixOf s = true) → i < 3 → cutI i s = s.take (s.length - (3 - i))
  | 0, s, h, _, _, _ => by
    show cutR s = _
    unfold cutR
    rw [if_pos (h rfl)]
  | 1, s, _, h, _, _ => by
    show ite _ _ _ = _
    rw [if_pos (h rfl)]
  | 2, s, _, _, h, _ => by
    show ite _ _ _ = _
    rw [if_pos (h rfl)]
  | n + 3, _, _, _, _, h => absurd h (by omega)
theorem cutI_neg : ∀ (i : Nat) {s : List UInt8}, (i = 0 → ¬ [45, 45, 33].isSuffixOf s = true) → (i = 1 → ¬ [45, 45].isSuffixOf s = true) → (i = 2 → ¬ [45].isSuffixOf s = true) → i < 3 → cutI i s = cutI (i + 1) s
  | 0, s, h, _, _, _ => by
    show cutR s = _
    unfold cutR
    rw [if_neg (h rfl)]
    rfl
  | 1, s, _, h, _, _ => by
    show ite _ _ _ = _
    rw [if_neg (h rfl)]
    rfl
  | 2, s, _, _, h, _ => by
    show ite _ _ _ = _
    rw [if_neg (h rfl)]
    rfl
  | n + 3, _, _, _, _, h => absurd h (by omega)
theorem alloc_cell (w : World) (c : Array Value) (e i : Nat) {v : Value} (h : c[i]? = some v) : (w.alloc (.cells c e)).cell? ⟨w.heap.size, i, none⟩ = some v := by
  have h0 : (w.alloc (.cells c e)).heap[w.heap.size]? = some (.cells c e) := by
    show (w.heap.push _)[w.heap.size]? = _
    exact Array.getElem?_push_size
  simp only [World.cell?, h0, h]
  rfl
set_option maxHeartbeats 4000000 in
set_option maxRecDepth 20000 in
theorem cut_any (s : List UInt8) (w : World) (hs : s.length ≤ 500000) : Calls Try.prog 71 #[.string (bs s)] w fun e w' => e = .returned (.string (bs (cutR s))) ∧ Below w.heap.size w w' := by
  obtain ⟨C, hC⟩ : ∃ C, cutR s = C := ⟨_, rfl⟩
  have HC : Hid (cutI 0 s = C) := hC
  rw [hC]
  obtain ⟨sv, hsv⟩ : ∃ sv, bs s = sv := ⟨_, rfl⟩
  have HSV : Hid (bs s = sv) := hsv
  have hsz : sv.size ≤ 500000 := by rw [← hsv, bs_size]; exact hs
  rw [hsv]
  clear hC hsv hs
  go_enter Try.func71, Try.ntmps71
  go_wp2_with fail
  go_loopw [4] (fun iv wr => ∃ i : Nat, iv = .int .i64 i ∧ i ≤ 3 ∧ cutI i s = C ∧ CutRow w.heap.size wr ∧ Below w.heap.size w wr) (fun iv _ => 3 - (intOf iv).toNat)
  case atStart =>
    refine ⟨0, rfl, by omega, HC.out, ⟨?_, ?_, ?_, ?_⟩, ?_⟩
    · exact alloc_cell _ _ _ _ rfl
    · exact alloc_cell _ _ _ _ rfl
    · exact alloc_cell _ _ _ _ rfl
    · simp
    · exact (Below.refl _ _).alloc (Nat.le_refl _) _
  case round =>
    obtain ⟨i, rfl, hi, hc, ⟨c0, c1, c2, hB⟩, b0⟩ := hrel
    have HRow : Hid (∀ n, CutRow w.heap.size (wr.drewN n) ∧ Below w.heap.size w (wr.drewN n)) := fun n => ⟨⟨c0, c1, c2, hB⟩, G9.below_drewN b0 n⟩
    have HRow0 : Hid (CutRow w.heap.size wr ∧ Below w.heap.size w wr) := ⟨⟨c0, c1, c2, hB⟩, b0⟩
    have h4 : i = 0 ∨ i = 1 ∨ i = 2 ∨ i = 3 := by omega
    clear hi b0
    rcases h4 with rfl | rfl | rfl | rfl
    · clear c1 c2
      by_cases hk : 3 ≤ s.length
      · obtain ⟨m, hm⟩ : ∃ m, s.length = m + 3 := ⟨s.length - 3, by omega⟩
        have hm2 : sv.size = m + 3 := by rw [← HSV.out, bs_size]; exact hm
        have hwr : IntKind.i64.wrap ((sv.size : Int) - 3) = (m : Int) := by rw [IntKind.wrap_i64]; omega
        have gm : decide ((m : Int) ≥ 0) = true := decide_eq_true (by omega)
        have hmz : m ≤ sv.size := by omega
        have hse : sv.extract m sv.size = bs (s.drop m) := by rw [← HSV.out, bs_tail]
        have hfe : sv.extract 0 m = bs (s.take m) := by rw [← HSV.out, bs_front]
        by_cases hsf : [45, 45, 33].isSuffixOf s = true
        · have HN : Hid (s.take m = C) := by
            show _ = _
            rw [← hc, cutI_pos 0 (fun _ => hsf) (fun h => absurd h (by decide)) (fun h => absurd h (by decide)) (by omega), hm]
            rfl
          have hdr : s.drop m = [45, 45, 33] := by
            have := (suf_drop (p := [45, 45, 33]) (by simpa using hk)).1 hsf
            rw [hm] at this
            simpa using this
          have hse2 : ((sv.extract m sv.size).toList == [45, 45, 33]) = true := by rw [hse, hdr, ByteArray.toList_eq, bs_list]; rfl
          have HFE : Hid (sv.extract 0 m = bs (s.take m)) := hfe
          clear hc hse hfe hdr hsf hk hm hm2
          go_wp2_with fail
          go_quiet (fail)
          go_wp2_with fail
          go_ret
          exact ⟨by rw [← HN.out, ← HFE.out]; rfl, (HRow.out _).2⟩
        · have HN : Hid (cutI 1 s = C) := by
            show _ = _
            rw [← hc, cutI_neg 0 (fun _ => hsf) (fun h => absurd h (by decide)) (fun h => absurd h (by decide)) (by omega)]
          have hse2 : ((sv.extract m sv.size).toList == [45, 45, 33]) = false := by
            rw [hse, ByteArray.toList_eq, bs_list]
            refine beq_false_of_ne fun e2 => ?_
            refine hsf ((suf_drop (p := [45, 45, 33]) (by simpa using hk)).2 ?_)
            rw [hm]
            simpa using e2
          clear hc hse hfe hsf hk hm hm2
          go_wp2_with fail
          go_quiet (fail)
          go_wp2_with fail
          go_roundw
          case rel => exact ⟨1, by go_num, by omega, HN.out, (HRow.out _).1, (HRow.out _).2⟩
          case measure => simp [intOf]
      · have HN : Hid (cutI 1 s = C) := by
          have hsf : ¬ [45, 45, 33].isSuffixOf s = true := fun h => hk (List.isSuffixOf_iff_suffix.1 h).length_le
          show _ = _
          rw [← hc, cutI_neg 0 (fun _ => hsf) (fun h => absurd h (by decide)) (fun h => absurd h (by decide)) (by omega)]
        obtain ⟨nn, hnn⟩ : ∃ nn : Int, (sv.size : Int) - 3 = nn := ⟨_, rfl⟩
        have hsl : sv.size < 3 := by rw [← HSV.out, bs_size]; omega
        have hwr : IntKind.i64.wrap ((sv.size : Int) - 3) = nn := by rw [IntKind.wrap_i64]; omega
        have gm : decide (nn ≥ 0) = false := decide_eq_false (by omega)
        clear hc hk hnn hsl
        go_wp2_with fail
        go_quiet (fail)
        go_wp2_with fail
        go_roundw
        case rel => exact ⟨1, by go_num, by omega, HN.out, (HRow.out _).1, (HRow.out _).2⟩
        case measure => simp [intOf]
    · clear c0 c2
      by_cases hk : 2 ≤ s.length
      · obtain ⟨m, hm⟩ : ∃ m, s.length = m + 2 := ⟨s.length - 2, by omega⟩
        have hm2 : sv.size = m + 2 := by rw [← HSV.out, bs_size]; exact hm
        have hwr : IntKind.i64.wrap ((sv.size : Int) - 2) = (m : Int) := by rw [IntKind.wrap_i64]; omega
        have gm : decide ((m : Int) ≥ 0) = true := decide_eq_true (by omega)
        have hmz : m ≤ sv.size := by omega
        have hse : sv.extract m sv.size = bs (s.drop m) := by rw [← HSV.out, bs_tail]
        have hfe : sv.extract 0 m = bs (s.take m) := by rw [← HSV.out, bs_front]
        by_cases hsf : [45, 45].isSuffixOf s = true
        · have HN : Hid (s.take m = C) := by
            show _ = _
            rw [← hc, cutI_pos 1 (fun h => absurd h (by decide)) (fun _ => hsf) (fun h => absurd h (by decide)) (by omega), hm]
            rfl
          have hdr : s.drop m = [45, 45] := by
            have := (suf_drop (p := [45, 45]) (by simpa using hk)).1 hsf
            rw [hm] at this
            simpa using this
          have hse2 : ((sv.extract m sv.size).toList == [45, 45]) = true := by rw [hse, hdr, ByteArray.toList_eq, bs_list]; rfl
          have HFE : Hid (sv.extract 0 m = bs (s.take m)) := hfe
          clear hc hse hfe hdr hsf hk hm hm2
          go_wp2_with fail
          go_quiet (fail)
          go_wp2_with fail
          go_ret
          exact ⟨by rw [← HN.out, ← HFE.out]; rfl, (HRow.out _).2⟩
        · have HN : Hid (cutI 2 s = C) := by
            show _ = _
            rw [← hc, cutI_neg 1 (fun h => absurd h (by decide)) (fun _ => hsf) (fun h => absurd h (by decide)) (by omega)]
          have hse2 : ((sv.extract m sv.size).toList == [45, 45]) = false := by
            rw [hse, ByteArray.toList_eq, bs_list]
            refine beq_false_of_ne fun e2 => ?_
            refine hsf ((suf_drop (p := [45, 45]) (by simpa using hk)).2 ?_)
            rw [hm]
            simpa using e2
          clear hc hse hfe hsf hk hm hm2
          go_wp2_with fail
          go_quiet (fail)
          go_wp2_with fail
          go_roundw
          case rel => exact ⟨2, by go_num, by omega, HN.out, (HRow.out _).1, (HRow.out _).2⟩
          case measure => simp [intOf]
      · have HN : Hid (cutI 2 s = C) := by
          have hsf : ¬ [45, 45].isSuffixOf s = true := fun h => hk (List.isSuffixOf_iff_suffix.1 h).length_le
          show _ = _
          rw [← hc, cutI_neg 1 (fun h => absurd h (by decide)) (fun _ => hsf) (fun h => absurd h (by decide)) (by omega)]
        obtain ⟨nn, hnn⟩ : ∃ nn : Int, (sv.size : Int) - 2 = nn := ⟨_, rfl⟩
        have hsl : sv.size < 2 := by rw [← HSV.out, bs_size]; omega
        have hwr : IntKind.i64.wrap ((sv.size : Int) - 2) = nn := by rw [IntKind.wrap_i64]; omega
        have gm : decide (nn ≥ 0) = false := decide_eq_false (by omega)
        clear hc hk hnn hsl
        go_wp2_with fail
        go_quiet (fail)
        go_wp2_with fail
        go_roundw
        case rel => exact ⟨2, by go_num, by omega, HN.out, (HRow.out _).1, (HRow.out _).2⟩
        case measure => simp [intOf]
    · clear c0 c1
      by_cases hk : 1 ≤ s.length
      · obtain ⟨m, hm⟩ : ∃ m, s.length = m + 1 := ⟨s.length - 1, by omega⟩
        have hm2 : sv.size = m + 1 := by rw [← HSV.out, bs_size]; exact hm
        have hwr : IntKind.i64.wrap ((sv.size : Int) - 1) = (m : Int) := by rw [IntKind.wrap_i64]; omega
        have gm : decide ((m : Int) ≥ 0) = true := decide_eq_true (by omega)
        have hmz : m ≤ sv.size := by omega
        have hse : sv.extract m sv.size = bs (s.drop m) := by rw [← HSV.out, bs_tail]
        have hfe : sv.extract 0 m = bs (s.take m) := by rw [← HSV.out, bs_front]
        by_cases hsf : [45].isSuffixOf s = true
        · have HN : Hid (s.take m = C) := by
            show _ = _
            rw [← hc, cutI_pos 2 (fun h => absurd h (by decide)) (fun h => absurd h (by decide)) (fun _ => hsf) (by omega), hm]
            rfl
          have hdr : s.drop m = [45] := by
            have := (suf_drop (p := [45]) (by simpa using hk)).1 hsf
            rw [hm] at this
            simpa using this
          have hse2 : ((sv.extract m sv.size).toList == [45]) = true := by rw [hse, hdr, ByteArray.toList_eq, bs_list]; rfl
          have HFE : Hid (sv.extract 0 m = bs (s.take m)) := hfe
          clear hc hse hfe hdr hsf hk hm hm2
          go_wp2_with fail
          go_quiet (fail)
          go_wp2_with fail
          go_ret
          exact ⟨by rw [← HN.out, ← HFE.out]; rfl, (HRow.out _).2⟩
        · have HN : Hid (cutI 3 s = C) := by
            show _ = _
            rw [← hc, cutI_neg 2 (fun h => absurd h (by decide)) (fun h => absurd h (by decide)) (fun _ => hsf) (by omega)]
          have hse2 : ((sv.extract m sv.size).toList == [45]) = false := by
            rw [hse, ByteArray.toList_eq, bs_list]
            refine beq_false_of_ne fun e2 => ?_
            refine hsf ((suf_drop (p := [45]) (by simpa using hk)).2 ?_)
            rw [hm]
            simpa using e2
          clear hc hse hfe hsf hk hm hm2
          go_wp2_with fail
          go_quiet (fail)
          go_wp2_with fail
          go_roundw
          case rel => exact ⟨3, by go_num, by omega, HN.out, (HRow.out _).1, (HRow.out _).2⟩
          case measure => simp [intOf]
      · have HN : Hid (cutI 3 s = C) := by
          have hsf : ¬ [45].isSuffixOf s = true := fun h => hk (List.isSuffixOf_iff_suffix.1 h).length_le
          show _ = _
          rw [← hc, cutI_neg 2 (fun h => absurd h (by decide)) (fun h => absurd h (by decide)) (fun _ => hsf) (by omega)]
        obtain ⟨nn, hnn⟩ : ∃ nn : Int, (sv.size : Int) - 1 = nn := ⟨_, rfl⟩
        have hsl : sv.size < 1 := by rw [← HSV.out, bs_size]; omega
        have hwr : IntKind.i64.wrap ((sv.size : Int) - 1) = nn := by rw [IntKind.wrap_i64]; omega
        have gm : decide (nn ≥ 0) = false := decide_eq_false (by omega)
        clear hc hk hnn hsl
        go_wp2_with fail
        go_quiet (fail)
        go_wp2_with fail
        go_roundw
        case rel => exact ⟨3, by go_num, by omega, HN.out, (HRow.out _).1, (HRow.out _).2⟩
        case measure => simp [intOf]
    · have HN : Hid (s = C) := hc
      clear c0 c1 c2
      go_wp2_with fail
      go_ret
      exact ⟨by rw [← HN.out, HSV.out]; rfl, HRow0.out.2⟩
end Go.Proofs.Ytkbakbacomidbaa
