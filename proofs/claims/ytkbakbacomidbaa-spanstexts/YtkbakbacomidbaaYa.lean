/- The scanner looks ahead for a reference. -/
import Derived.Test.YtkbakbacomidbaaProg
import Derived.Below
import Derived.BigCall
import Derived.BigQuiet
import Derived.BigRegion
import Derived.Deep.DeepCutAuto
import Derived.Deep.LoopGhost
import Derived.Deep.QuietTactic
import Derived.Deep.RegionHeld3
import Derived.Deep.RegionLaw
import Derived.Deep.RegionWith
import Derived.Deep.Upon
import Derived.Laws.AppendOwn
import Derived.Laws.BytesArg
import Derived.Laws.EntriesVeiled
import Derived.Laws.IdiomStrings
import Derived.Laws.StructEq
import Derived.Lib.AppendStr
import Derived.Lib.RuneBytes
import Derived.Maps.AppendAt
import Derived.Maps.OwnSet
import Derived.OwnWalk
import Derived.ScopeJumps
import Derived.Shelf.Abstract
import Derived.Shelf.Small.Strs
import Derived.Shelf.Strings.Builder1
import Derived.Shelf.Strings.BuilderF
import Derived.Shelf.Strings.BuilderK
import Derived.Shelf.Strings.BuilderRune
import Derived.Shelf.Strings.Prefix
import Derived.StillTailTactics
import Derived.StringKeys
import Derived.WalkArith
import Derived.WalkKit
import Derived.WalkLawsBesides
import Derived.WalkMore
import Derived.WalkSpells
import Derived.Test.YtkbakbacomidbaaZu
import Derived.Test.YtkbakbacomidbaaZz
namespace Go.Proofs.Ytkbakbacomidbaa
open Go.RowKit
/-- A byte more in a row of the call's own. -/
theorem byte_app {W : World} {v : Value} {l : List UInt8} {B n : Nat} (ho : OwnQ W false 5 1 v n (Lib.byteCells l)) (hn : l.length = n) (hB : ∀ g, v.ownBlock = some g → B ≤ g) (hBW : B ≤ W.heap.size) (b : UInt8) (bn : Int) (hb : bn = (b.toNat : Int)) (hl : n ≤ 200000) :
    ∃ ao c W', (Builtin.append_ #[92, 92] 92 #[v, .slice (some ⟨W.heap.size, 0, none⟩) 1 1]).run Try.prog (W.alloc (.cells #[.int .u8 bn] 5)) = .ok (.slice ao (n + 1) c) W' ∧ OwnQ W' false 5 1 (.slice ao (n + 1) c) (n + 1) (Lib.byteCells (l ++ [b])) ∧ (∀ g, (Value.slice ao (n + 1) c).ownBlock = some g → B ≤ g) ∧ (W.alloc (.cells #[.int .u8 bn] 5)).grownBy W' v.ownBlock := by
  have b0 : Below W.heap.size W (W.alloc (.cells #[.int .u8 bn] 5)) := (Below.refl _ _).alloc (Nat.le_refl _) _
  have hnew : (W.alloc (.cells #[.int .u8 bn] 5)).heap[W.heap.size]? = some (.cells #[.int .u8 bn] 5 (0, 0)) := heap_alloc_new W _
  obtain ⟨W0, hW0⟩ : ∃ W0, W.alloc (.cells #[.int .u8 bn] 5) = W0 := ⟨_, rfl⟩
  rw [hW0] at b0 hnew ⊢
  obtain ⟨v', W', hrun, ho', hg', hat⟩ := row_app Try.underlying92 info5 rfl (by decide) (by decide) (own_mv ho fun g hg => b0.block g (own_blk ho hg).1) W.heap.size 0 1 1 [.int .u8 bn] rfl (fun i u hi => by rw [Nat.zero_add]; simp [World.cell?, hnew]; exact hi) (by simp [Value.oneCell']) (by omega)
  obtain ⟨ao', c', rfl, _, _⟩ := own_form ho'
  refine ⟨ao', c', W', hrun, ?_, fun g hg => ?_, hg'⟩
  · have e : Lib.byteCells (l ++ [b]) = Lib.byteCells l ++ [.int .u8 bn] := by simp [Lib.byteCells, hb]
    rw [e]
    exact ho'
  · rcases hat with hat | hat
    · rw [hat] at hg; exact hB g hg
    · rw [hg] at hat
      have := Option.some.inj hat
      have := b0.size
      omega
/-- What is still to be seen ahead. -/
def ahD (r : List Ch) (k : Nat) : List UInt8 := if k = 0 then ahead r else ahT (r.drop k)
theorem ahD_nil {r : List Ch} {k : Nat} (h : r.length ≤ k) : ahD r k = [] := by
  unfold ahD
  split
  · have : r = [] := List.eq_nil_of_length_eq_zero (by omega)
    subst this
    rfl
  · rw [List.drop_of_length_le h]
    rfl
theorem ahD_high {r : List Ch} {k : Nat} {c : Ch} {t : List Ch} (h : r.drop k = c :: t) (hc : 128 ≤ c.r) : ahD r k = [128] := by
  unfold ahD
  split
  · next h0 =>
    subst h0
    simp only [List.drop_zero] at h
    rw [h]
    unfold ahead
    simp only [if_pos hc]
  · rw [h]
    unfold ahT
    rw [if_pos hc]
theorem ahD_on {r : List Ch} {k : Nat} {c : Ch} {t : List Ch} (h : r.drop k = c :: t) (hc : ¬ 128 ≤ c.r) (hw : k = 0 ∨ wrd c.r = true) : ahD r k = byt c.r :: ahD r (k + 1) := by
  have hd : r.drop (k + 1) = t := by
    have := congrArg (List.drop 1) h
    rw [List.drop_drop] at this
    exact this
  have e : ahD r (k + 1) = ahT t := by
    unfold ahD
    rw [if_neg (by omega), hd]
  rw [e]
  unfold ahD
  split
  · next h0 =>
    subst h0
    simp only [List.drop_zero] at h
    rw [h]
    unfold ahead
    simp only [if_neg hc]
  · next h0 =>
    rw [h]
    conv => lhs; unfold ahT
    rw [if_neg hc, if_neg (by have := hw.resolve_left h0; simp [this])]
theorem ahD_stop {r : List Ch} {k : Nat} {c : Ch} {t : List Ch} (h : r.drop k = c :: t) (hc : ¬ 128 ≤ c.r) (hk : k ≠ 0) (hw : wrd c.r = false) : ahD r k = [byt c.r] := by
  unfold ahD
  rw [if_neg hk, h]
  unfold ahT
  rw [if_neg hc, if_pos hw]
set_option maxHeartbeats 4000000 in
set_option maxRecDepth 20000 in
theorem ahead_any {S : Nat → Prop} {x : Nat} {E : Env} {r : List Ch} {sc : Sc} {dn : Bool} {w : World} (h : Tm S x E r sc dn w) (hpos : ∀ d ∈ r, 0 ≤ d.r) : Calls Try.prog 43 #[mp x] w fun e w' => e = .returned (.string (bs (ahead r))) ∧ TW S x E r sc dn w w' := by
  have HS : Hid (TW S x E r sc dn w w) := TW.start h
  have hxw := h.lt
  obtain ⟨a1, _, _, _, a0⟩ := HS.out.at
  obtain ⟨hfew, hsuf, hlow⟩ := HS.out.facts
  have hcap : E.L.length ≤ E.cap := by obtain ⟨fv, h⟩ := h; exact h.cap
  have hrl := hsuf.length_le
  obtain ⟨p, hp⟩ : ∃ p : Nat, E.L.length - r.length = p := ⟨_, rfl⟩
  have hpp : pos E r = (p : Int) := by unfold pos; omega
  have HP : Hid (pos E r = (p : Int) ∧ E.L.length - r.length = p ∧ r <:+ E.L ∧ (∀ d ∈ r, 0 ≤ d.r) ∧ (∀ k, S k → k < w.heap.size) ∧ r.length ≤ E.L.length) := ⟨hpp, hp, hsuf, hpos, hlow, hrl⟩
  rw [hpp] at a1
  obtain ⟨A, hA⟩ : ∃ A, ahead r = A := ⟨_, rfl⟩
  have HA : Hid (ahead r = A) := hA
  rw [hA]
  clear h hA hpp hp hsuf hpos hlow a0 hrl
  go_enter Try.func43, Try.ntmps43
  go_wp2_with fail
  go_loopw [3, 4, 5] (fun bv iv _ wr => ∃ (j : Nat) (l : List UInt8), iv = .int .i64 j ∧ p ≤ j ∧ j ≤ E.L.length ∧ l ++ ahD r (j - p) = A ∧ l.length = j - p ∧ OwnQ wr false 5 1 bv (j - p) (Lib.byteCells l) ∧ (∀ g, bv.ownBlock = some g → w.heap.size ≤ g) ∧ TW S x E r sc dn w wr) (fun _ iv _ _ => E.L.length - (intOf iv).toNat)
  case atStart => exact ⟨p, [], rfl, Nat.le_refl _, by have := HP.out; omega, by rw [Nat.sub_self]; exact HA.out, by simp, by rw [Nat.sub_self]; exact ⟨rfl, .inl ⟨rfl, rfl⟩⟩, fun g hg => (by simp [Value.ownBlock] at hg), HS.out⟩
  case round =>
    obtain ⟨j, l, rfl, hpj, hjl, hAl, hll, ho, hB, hk⟩ := hrel
    have K0 : Hid (TW S x E r sc dn w wr) := hk
    have hxr := hk.lt
    obtain ⟨c1, _, _, _, c0⟩ := hk.at
    rw [HP.out.1] at c1
    obtain ⟨m, hm⟩ : ∃ m, j - p = m := ⟨_, rfl⟩
    rw [hm] at hAl hll ho
    have hm5 : m ≤ 100000 := by omega
    have hBW : w.heap.size ≤ wr.heap.size := hk.keep.size
    obtain ⟨ao, cb, ebv, _, _⟩ := own_form ho
    have HO : Hid (OwnQ wr false 5 1 u3 m (Lib.byteCells l) ∧ l.length = m ∧ l ++ ahD r m = A ∧ (∀ g, u3.ownBlock = some g → w.heap.size ≤ g) ∧ j - p = m) := ⟨ho, hll, hAl, hB, hm⟩
    by_cases hlt : j < E.L.length
    · obtain ⟨c, hc⟩ : ∃ c, E.L[j]? = some c := ⟨_, List.getElem?_eq_getElem hlt⟩
      obtain ⟨t, hdr⟩ : ∃ t, r.drop m = c :: t := by
        obtain ⟨q, hq⟩ := HP.out.2.2.1
        have hql : q.length = p := by rw [← HP.out.2.1, ← hq]; simp
        rw [← hq, List.getElem?_append_right (by omega), show j - q.length = m by omega] at hc
        obtain ⟨h1, h2⟩ := List.getElem?_eq_some_iff.1 hc
        exact ⟨r.drop (m + 1), by rw [List.drop_eq_getElem_cons h1, h2]⟩
      obtain ⟨b, off, elo, hb, q0⟩ : ∃ b off, E.lo = some ⟨b, off, none⟩ ∧ b < wr.heap.size ∧ wr.cell? ⟨b, off + j * 3, none⟩ = some (.int .i64 c.r) := by
        obtain ⟨fv, h1⟩ := hk.tm
        obtain ⟨b, off, e, h2, h3, _⟩ := h1.row.now _ _ hc
        exact ⟨b, off, e, h2, h3⟩
      rw [elo] at c0
      have hc0 : 0 ≤ c.r := HP.out.2.2.2.1 c (by have : c ∈ r.drop m := by rw [hdr]; simp
                                                 exact List.mem_of_mem_drop this)
      obtain ⟨n, hn⟩ : ∃ n : Nat, c.r = (n : Int) := ⟨c.r.toNat, by omega⟩
      rw [hn] at q0
      obtain ⟨L0, hL0⟩ : ∃ L0, E.L.length = L0 := ⟨_, rfl⟩
      have HD : Hid (r.drop m = c :: t ∧ c.r = (n : Int) ∧ E.L.length = L0) := ⟨hdr, hn, hL0⟩
      rw [hL0] at c0 hlt hcap hfew hjl
      have hlt' : decide ((j : Int) < (L0 : Int)) = true := decide_eq_true (by omega)
      have hji : (j : Int) < (L0 : Int) := by omega
      rw [ebv] at HO
      by_cases hh : 128 ≤ n
      · obtain ⟨ao', c', W', hrun, ho', hB', hg'⟩ := byte_app HO.out.1 HO.out.2.1 HO.out.2.2.2.1 hBW 128 128 rfl (by omega)
        have H1 : Hid (TW S x E r sc dn w W') := TW.grown (K0.out.below ((Below.refl _ _).alloc (Nat.le_refl _) _)) hg' (fun g hg => by
          obtain ⟨hgl, cur, z, hgb⟩ := own_blk HO.out.1 hg
          refine ⟨fun hS => ?_, cur, 5, z, ?_, by decide, by decide⟩
          · have h7 := HO.out.2.2.2.1 g hg
            have h8 := HP.out.2.2.2.2.1 g hS
            omega
          · rw [((Below.refl wr.heap.size wr).alloc (Nat.le_refl _) _).block g hgl]; exact hgb)
        have hconv : (convert 92 9 (.slice ao' (m + 1) c')).run Try.prog W' = .ok (.string (bs A)) W' := by
          have e : l ++ [128] = A := by rw [← HO.out.2.2.1, ahD_high HD.out.1 (by rw [HD.out.2.1]; omega)]
          rw [← e]
          refine conv_own (q := false) ?_
          have e2 : (l ++ [128]).length = m + 1 := by simp [HO.out.2.1]
          rw [e2]
          exact ho'
        have hxW := H1.out.lt
        have g1 : decide ((n : Int) ≥ 128) = true := decide_eq_true (by omega)
        subst ebv
        clear hk ho hB hAl hll hc hdr elo hc0 hn hL0 ho' hB' hg'
        go_wp2_with (at_builtin; refine list_append_eq rfl _ _ 92 92 rfl _ _ rfl rfl hrun ?_)
        go_ret
        exact ⟨rfl, H1.out⟩
      · obtain ⟨ao', c', W', hrun, ho', hB', hg'⟩ := byte_app HO.out.1 HO.out.2.1 HO.out.2.2.2.1 hBW (byt c.r) (n : Int) (by rw [(wc_byte hc0 (by omega)).2, hn]; simp) (by omega)
        have H1 : Hid (OwnQ W' false 5 1 (.slice ao' (m + 1) c') (m + 1) (Lib.byteCells (l ++ [byt c.r])) ∧ (∀ g, (Value.slice ao' (m + 1) c').ownBlock = some g → w.heap.size ≤ g) ∧ TW S x E r sc dn w W') := ⟨ho', hB', TW.grown (K0.out.below ((Below.refl _ _).alloc (Nat.le_refl _) _)) hg' (fun g hg => by
          obtain ⟨hgl, cur, z, hgb⟩ := own_blk HO.out.1 hg
          refine ⟨fun hS => ?_, cur, 5, z, ?_, by decide, by decide⟩
          · have h7 := HO.out.2.2.2.1 g hg
            have h8 := HP.out.2.2.2.2.1 g hS
            omega
          · rw [((Below.refl wr.heap.size wr).alloc (Nat.le_refl _) _).block g hgl]; exact hgb)⟩
        have hxW := H1.out.2.2.lt
        obtain ⟨d1, _, _, _, _⟩ := H1.out.2.2.at
        rw [HP.out.1] at d1
        have g1 : decide ((n : Int) ≥ 128) = false := decide_eq_false (by omega)
        have hw8 : IntKind.u8.wrap (n : Int) = (n : Int) := by rw [IntKind.wrap_u8]; omega
        have k99 := G6.alnum_any n W'
        have HWR : Hid (wrd c.r = (G6.wordyP n || (c.r == 35))) := by
          show wrd c.r = _
          unfold wrd
          rw [HD.out.2.1]
          simp
        subst ebv
        clear hk ho hB hAl hll hc hdr elo hc0 hn hL0 ho' hB' hg'
        by_cases hm0 : m = 0
        · have g2 : decide ((j : Int) > (p : Int)) = false := decide_eq_false (by have := HO.out.2.2.2.2; omega)
          have HM0 : Hid (m = 0) := hm0
          have hle : ¬ (p : Int) < (j : Int) := by have := HO.out.2.2.2.2; omega
          have hle2 : (j : Int) ≤ (p : Int) := by omega
          have g4 : decide ((p : Int) < (j : Int)) = false := decide_eq_false (by omega)
          clear hm0
          have HN : Hid (∃ (j' : Nat) (l' : List UInt8), (j : Int) + 1 = (j' : Int) ∧ p ≤ j' ∧ j' ≤ E.L.length ∧ l' ++ ahD r (j' - p) = A ∧ l'.length = j' - p ∧ OwnQ W' false 5 1 (.slice ao' (m + 1) c') (j' - p) (Lib.byteCells l') ∧ (∀ g, (Value.slice ao' (m + 1) c').ownBlock = some g → w.heap.size ≤ g) ∧ TW S x E r sc dn w W') := by
            have e : j + 1 - p = m + 1 := by have := HO.out.2.2.2.2; omega
            refine ⟨j + 1, l ++ [byt c.r], by omega, by omega, by have := HD.out.2.2; omega, ?_, ?_, ?_, H1.out.2.1, H1.out.2.2⟩
            · rw [e, ← HO.out.2.2.1, ahD_on HD.out.1 (by rw [HD.out.2.1]; omega) (.inl HM0.out), List.append_assoc]
              rfl
            · rw [e]; simp [HO.out.2.1]
            · rw [e]; exact H1.out.1
          go_wp2_with (at_builtin; refine list_append_eq rfl _ _ 92 92 rfl _ _ rfl rfl hrun ?_)
          go_roundw
          case rel =>
            obtain ⟨j', l', e1, e2, e3, e4, e5, e6, e7, e8⟩ := HN.out
            exact ⟨j', l', by rw [← e1], e2, e3, e4, e5, e6, e7, e8⟩
          case measure => simp [intOf]; have := HD.out.2.2; omega
        · have g2 : decide ((j : Int) > (p : Int)) = true := decide_eq_true (by have := HO.out.2.2.2.2; omega)
          go_wp2_with (at_builtin; refine list_append_eq rfl _ _ 92 92 rfl _ _ rfl rfl hrun ?_)
          refine k99.mono ?_
          rintro e w2 ⟨rfl, hw2⟩
          obtain rfl := hw2.symm
          clear hw2
          cases hwo : G6.wordyP n with
          | true =>
            have HN : Hid (∃ (j' : Nat) (l' : List UInt8), (j : Int) + 1 = (j' : Int) ∧ p ≤ j' ∧ j' ≤ E.L.length ∧ l' ++ ahD r (j' - p) = A ∧ l'.length = j' - p ∧ OwnQ W' false 5 1 (.slice ao' (m + 1) c') (j' - p) (Lib.byteCells l') ∧ (∀ g, (Value.slice ao' (m + 1) c').ownBlock = some g → w.heap.size ≤ g) ∧ TW S x E r sc dn w W') := by
              have e : j + 1 - p = m + 1 := by have := HO.out.2.2.2.2; omega
              refine ⟨j + 1, l ++ [byt c.r], by omega, by omega, by have := HD.out.2.2; omega, ?_, ?_, ?_, H1.out.2.1, H1.out.2.2⟩
              · rw [e, ← HO.out.2.2.1, ahD_on HD.out.1 (by rw [HD.out.2.1]; omega) (.inr (by rw [HWR.out, hwo]; rfl)), List.append_assoc]
                rfl
              · rw [e]; simp [HO.out.2.1]
              · rw [e]; exact H1.out.1
            go_wp2_with fail
            go_roundw
            case rel =>
              obtain ⟨j', l', e1, e2, e3, e4, e5, e6, e7, e8⟩ := HN.out
              exact ⟨j', l', by rw [← e1], e2, e3, e4, e5, e6, e7, e8⟩
            case measure => simp [intOf]; have := HD.out.2.2; omega
          | false =>
            by_cases h35 : n = 35
            · have g3 : ((n : Int) != 35) = false := by simp [h35]
              have HN : Hid (∃ (j' : Nat) (l' : List UInt8), (j : Int) + 1 = (j' : Int) ∧ p ≤ j' ∧ j' ≤ E.L.length ∧ l' ++ ahD r (j' - p) = A ∧ l'.length = j' - p ∧ OwnQ W' false 5 1 (.slice ao' (m + 1) c') (j' - p) (Lib.byteCells l') ∧ (∀ g, (Value.slice ao' (m + 1) c').ownBlock = some g → w.heap.size ≤ g) ∧ TW S x E r sc dn w W') := by
                have e : j + 1 - p = m + 1 := by have := HO.out.2.2.2.2; omega
                refine ⟨j + 1, l ++ [byt c.r], by omega, by omega, by have := HD.out.2.2; omega, ?_, ?_, ?_, H1.out.2.1, H1.out.2.2⟩
                · rw [e, ← HO.out.2.2.1, ahD_on HD.out.1 (by rw [HD.out.2.1]; omega) (.inr (by rw [HWR.out, HD.out.2.1, h35]; decide)), List.append_assoc]
                  rfl
                · rw [e]; simp [HO.out.2.1]
                · rw [e]; exact H1.out.1
              go_wp2_with fail
              go_roundw
              case rel =>
                obtain ⟨j', l', e1, e2, e3, e4, e5, e6, e7, e8⟩ := HN.out
                exact ⟨j', l', by rw [← e1], e2, e3, e4, e5, e6, e7, e8⟩
              case measure => simp [intOf]; have := HD.out.2.2; omega
            · have g3 : ((n : Int) != 35) = true := by simp; omega
              have hconv : (convert 92 9 (.slice ao' (m + 1) c')).run Try.prog W' = .ok (.string (bs A)) W' := by
                have e : l ++ [byt c.r] = A := by rw [← HO.out.2.2.1, ahD_stop HD.out.1 (by rw [HD.out.2.1]; omega) hm0 (by rw [HWR.out, hwo, HD.out.2.1]; simp; omega)]
                rw [← e]
                refine conv_own (q := false) ?_
                have e2 : (l ++ [byt c.r]).length = m + 1 := by simp [HO.out.2.1]
                rw [e2]
                exact H1.out.1
              go_wp2_with fail
              go_ret
              exact ⟨rfl, H1.out.2.2⟩
    · have hlt' : decide ((j : Int) < (E.L.length : Int)) = false := decide_eq_false (by omega)
      have hconv : (convert 92 9 u3).run Try.prog wr = .ok (.string (bs A)) wr := by
        have e : l = A := by
          rw [← HO.out.2.2.1, ahD_nil (by have h1 := HP.out; have h2 := HO.out.2.2.2.2; omega)]
          simp
        rw [← e]
        refine conv_own (q := false) ?_
        rw [HO.out.2.1]
        exact HO.out.1
      obtain ⟨L0, hL0⟩ : ∃ L0, E.L.length = L0 := ⟨_, rfl⟩
      rw [hL0] at c0 hlt' hlt
      have hge : ¬ (j : Int) < (L0 : Int) := by omega
      subst ebv
      clear hk ho hB hAl hll hL0
      go_wp2_with fail
      go_ret
      exact ⟨rfl, K0.out⟩
end Go.Proofs.Ytkbakbacomidbaa
