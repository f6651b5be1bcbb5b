/- The document's Plain. -/
import Derived.Test.YtkbakbacomidbaaProg
import Derived.Below
import Derived.BigCall
import Derived.BigQuiet
import Derived.BigRegion
import Derived.Deep.DeepCutAuto
import Derived.Deep.LoopGhost
import Derived.Deep.QuietTactic
import Derived.Deep.RegionHeld3
import Derived.Deep.RegionLaw
import Derived.Deep.RegionWith
import Derived.Deep.Upon
import Derived.Laws.AppendOwn
import Derived.Laws.BytesArg
import Derived.Laws.EntriesVeiled
import Derived.Laws.IdiomStrings
import Derived.Laws.StructEq
import Derived.Lib.AppendStr
import Derived.Lib.RuneBytes
import Derived.Maps.AppendAt
import Derived.Maps.OwnSet
import Derived.OwnWalk
import Derived.ScopeJumps
import Derived.Shelf.Abstract
import Derived.Shelf.Small.Strs
import Derived.Shelf.Strings.Builder1
import Derived.Shelf.Strings.BuilderF
import Derived.Shelf.Strings.BuilderK
import Derived.Shelf.Strings.BuilderRune
import Derived.Shelf.Strings.Prefix
import Derived.StillTailTactics
import Derived.StringKeys
import Derived.WalkArith
import Derived.WalkKit
import Derived.WalkLawsBesides
import Derived.WalkMore
import Derived.WalkSpells
import Derived.Test.YtkbakbacomidbaaZo
import Derived.Test.YtkbakbacomidbaaYp
namespace Go.Proofs.Ytkbakbacomidbaa
open Go.RowKit
def lowD (b : UInt8) : Bool := decide (97 ≤ b.toNat ∧ b.toNat ≤ 122)
/-- A name of letters a to z alone, one or more. -/
def plainR (s : ByteArray) : Bool := s.data.toList.all lowD && decide (s.data.toList ≠ [])
set_option maxHeartbeats 1000000 in
set_option maxRecDepth 20000 in
theorem rplain_any (s : ByteArray) (w : World) (hs : s.size ≤ 100000) : Calls Try.prog 26 #[.string s] w fun e w' => e = .returned (.bool (plainR s)) ∧ w' = w := by
  go_enter Try.func26, Try.ntmps26
  go_wp2_with fail
  go_loopw [3] (fun iv wr => ∃ i : Nat, iv = .int .i64 i ∧ i ≤ s.size ∧ wr = w ∧ (s.data.toList.take i).all lowD = true) (fun iv _ => s.size - (intOf iv).toNat)
  case atStart => exact ⟨0, rfl, Nat.zero_le _, rfl, rfl⟩
  case round =>
    obtain ⟨i, rfl, hin, rfl, ha⟩ := hrel
    have HA : Hid ((s.data.toList.take i).all lowD = true) := ha
    clear ha
    by_cases hlt : i < s.size
    · have hlt' : decide ((i : Int) < (s.size : Int)) = true := decide_eq_true (by omega)
      have h1 : i < s.data.toList.length := by rw [Array.length_toList]; exact hlt
      have hb : s.data.toList[i] = s[i] := by simp [ByteArray.getElem_eq_getElem_data]
      have HT : Hid (s.data.toList.take (i + 1) = s.data.toList.take i ++ [s[i]] ∧ s[i] ∈ s.data.toList) := ⟨by rw [List.take_succ_eq_append_getElem h1, hb], by rw [← hb]; exact List.getElem_mem h1⟩
      clear hb
      by_cases g1 : s[i].toNat < 97
      · have g1' : decide ((s[i].toNat : Int) < 97) = true := decide_eq_true (by omega)
        go_wp2_with fail
        go_ret
        refine ⟨?_, rfl⟩
        have : plainR s = false := by
          unfold plainR
          rw [Bool.and_eq_false_iff]
          left
          rw [List.all_eq_false]
          exact ⟨s[i], HT.out.2, by unfold lowD; simp; omega⟩
        rw [this]
        rfl
      · have g1' : decide ((s[i].toNat : Int) < 97) = false := decide_eq_false (by omega)
        by_cases g2 : s[i].toNat > 122
        · have g2' : decide ((s[i].toNat : Int) > 122) = true := decide_eq_true (by omega)
          go_wp2_with fail
          go_ret
          refine ⟨?_, rfl⟩
          have : plainR s = false := by
            unfold plainR
            rw [Bool.and_eq_false_iff]
            left
            rw [List.all_eq_false]
            exact ⟨s[i], HT.out.2, by unfold lowD; simp; omega⟩
          rw [this]
          rfl
        · have g2' : decide ((s[i].toNat : Int) > 122) = false := decide_eq_false (by omega)
          go_wp2_with fail
          refine ⟨⟨i + 1, by go_num, by omega, trivial, ?_⟩, by simp [intOf]; omega⟩
          rw [HT.out.1, List.all_append, HA.out]
          simp [lowD]; omega
    · have hlt' : decide ((i : Int) < (s.size : Int)) = false := decide_eq_false (by omega)
      have hall : s.data.toList.all lowD = true := by
        have := HA.out
        rw [List.take_of_length_le (by rw [Array.length_toList]; have h3 : s.data.size = s.size := rfl; omega)] at this
        exact this
      have HB : Hid (plainR s = !s.toList.isEmpty) := by
        show _ = _
        unfold plainR
        rw [hall, ByteArray.toList_eq]
        cases s.data.toList <;> simp
      clear hall
      go_wp2_with fail
      go_ret
      exact ⟨by rw [HB.out]; rfl, rfl⟩
end Go.Proofs.Ytkbakbacomidbaa
namespace Go.Proofs.Ytkbakbacomidbaa
open Go.RowKit
def sc1 (text : Int) (last : ByteArray) : Sc := ⟨if text < 0 ∨ text > 3 then 0 else text, if plainR last = true then last else ByteArray.empty, false, []⟩
theorem fcs_ge : ∀ (l : List (Int × Nat)) (p : Int) (x : Int × Int), x ∈ G4.fcs p l → p ≤ x.2
  | [], _, _, h => by simp [G4.fcs] at h
  | (r, n) :: l, p, x, h => by
    rw [G4.fcs, List.mem_append] at h
    rcases h with h | h
    · split at h
      · simp at h
      · rw [List.mem_singleton] at h; subst h; exact Int.le_refl _
    · have := fcs_ge l _ x h
      omega
theorem fcs_rise : ∀ (l : List (Int × Nat)) (p : Int), (G4.fcs p l).Pairwise fun x y => x.2 ≤ y.2
  | [], _ => List.Pairwise.nil
  | (r, n) :: l, p => by
    rw [G4.fcs, List.pairwise_append]
    refine ⟨?_, fcs_rise l _, fun x hx y hy => ?_⟩
    · split
      · exact List.Pairwise.nil
      · exact List.pairwise_singleton _ _
    · have h2 := fcs_ge l _ y hy
      split at hx
      · simp at hx
      · rw [List.mem_singleton] at hx; subst hx; simp only; omega
def Ran (L : List Pt) (F : List (Int × Int)) (w : World) (e : Ending) (w' : World) : Prop := ∃ FM, Mrg 0 F FM ∧ Alled L FM w e w'
set_option maxHeartbeats 4000000 in
set_option maxRecDepth 20000 in
theorem run_any (s last : ByteArray) (text : Int) (auto : Bool) (w : World) (hs : s.size < 20000) (hl : last.size ≤ 100000) :
    Calls Try.prog 24 #[.string s, .int .i64 text, .string last, .bool auto] w (Ran (refT auto false s.size ((chars s).length + 1) (sc1 text last) (chars s)).1 (G4.fcs 0 (G4.items s.data.toList) ++ (refT auto false s.size ((chars s).length + 1) (sc1 text last) (chars s)).2) w) := by
  have HLn : Hid ((chars s).length < 20000) := by
    have := outc_le s.data.toList
    rw [show s.data.toList.length = s.size from Array.length_toList] at this
    show (G4.outc s.data.toList).length < 20000
    omega
  have k15 := fun w => G4.rchs_any s w (by omega)
  obtain ⟨FC, hFC⟩ : ∃ FC, G4.fcs 0 (G4.items s.data.toList) = FC := ⟨_, rfl⟩
  rw [hFC]
  have HFE : Hid (G4.fcs 0 (G4.items s.data.toList) = FC) := hFC
  clear hFC
  obtain ⟨L, hL⟩ : ∃ L, (refT auto false s.size ((chars s).length + 1) (sc1 text last) (chars s)).1 = L := ⟨_, rfl⟩
  obtain ⟨F, hF⟩ : ∃ F, (refT auto false s.size ((chars s).length + 1) (sc1 text last) (chars s)).2 = F := ⟨_, rfl⟩
  rw [hL, hF]
  have HLF : Hid ((refT auto false s.size ((chars s).length + 1) (sc1 text last) (chars s)).1 = L ∧ (refT auto false s.size ((chars s).length + 1) (sc1 text last) (chars s)).2 = F) := ⟨hL, hF⟩
  clear hL hF
  go_enter Try.func24, Try.ntmps24
  go_wp2_with fail
  refine (k15 _).mono ?_
  rintro e w1 ⟨ca, cn, cc, fa, fn', fc', rfl, hc4, hf4, b4⟩
  have hFC := HFE.out
  have hFl : FC.length < 20000 := by
    have h1 := G4.fcs_length (G4.items s.data.toList) 0
    have h2 := items_le s.data.toList
    rw [show s.data.toList.length = s.size from Array.length_toList] at h2
    rw [hFC] at h1
    omega
  have hFs : FC.Pairwise fun x y => x.2 ≤ y.2 := by rw [← hFC]; exact fcs_rise _ _
  have hf5 : Mg.RowIs w1 w.heap.size (.slice fa fn' fc') FC := by rw [← hFC]; exact hf4
  obtain ⟨fa2, fc2, ef2, hfr, hfc1, hfc2⟩ := Mg.row_ref4 hf5
  simp only [Value.slice.injEq] at ef2
  obtain ⟨rfl, rfl, rfl⟩ := ef2
  obtain ⟨fn, hfn⟩ : ∃ fn, FC.length = fn := ⟨_, rfl⟩
  have HFC : Hid (FC.length = fn ∧ FC.length < 20000 ∧ (FC.Pairwise fun x y => x.2 ≤ y.2) ∧ FRow w1 fa FC ∧ fn ≤ fc' ∧ fc' ≤ maxLen) := ⟨hfn, hFl, hFs, hfr, by rw [← hfn]; exact hfc1, hfc2⟩
  rw [hfn]
  clear hf4 hf5 hFl hFs hfr hfc1 hfc2 hfn hFC
  have hrow : cn = (chars s).length ∧ (chars s).length ≤ cc ∧ ChRow ca (chars s) w1 ∧ ∀ (i : Nat) (c : Ch), (chars s)[i]? = some c → ∃ b, ca = some ⟨b, 0, none⟩ ∧ b < w1.heap.size := by
    obtain ⟨ao, cap, e1, hcp, hr, hz, _⟩ := rowC (OwnQ.of hc4 : Rw.own w1 (rwC _ (chars s)))
    simp only [Value.slice.injEq] at e1
    obtain ⟨rfl, rfl, rfl⟩ := e1
    refine ⟨rfl, hcp, hr, fun i c hi => ?_⟩
    obtain ⟨b, off, e2, hb, _⟩ := hr i c hi
    have := (hz b off e2).1
    subst this
    exact ⟨b, e2, hb⟩
  obtain ⟨rfl, hcp, hch, hcb⟩ := hrow
  obtain ⟨tx, htx⟩ : ∃ tx, (sc1 text last).text = tx := ⟨_, rfl⟩
  obtain ⟨la, hla⟩ : ∃ la, (sc1 text last).last = la := ⟨_, rfl⟩
  obtain ⟨E, hE⟩ : ∃ E : Env, (⟨ca, cc, chars s, s.size, false⟩ : Env) = E := ⟨_, rfl⟩
  obtain ⟨m, hm⟩ : ∃ m, (chars s).length = m := ⟨_, rfl⟩
  obtain ⟨N, hN⟩ : ∃ N, s.size = N := ⟨_, rfl⟩
  obtain ⟨W2, hW2⟩ : ∃ W2, w1.alloc (.cells #[.slice ca m cc, .int .i64 0, .int .i64 N, .int .i64 tx, .string la, .bool false, .slice none 0 0, .bool false, .bool false] 56) = W2 := ⟨_, rfl⟩
  have bW : Below w1.heap.size w1 W2 := by rw [← hW2]; exact (Below.refl _ _).alloc (Nat.le_refl _) _
  have hblk : W2.heap[w1.heap.size]? = some (.cells #[.slice ca m cc, .int .i64 0, .int .i64 N, .int .i64 tx, .string la, .bool false, .slice none 0 0, .bool false, .bool false] 56 (0, 0)) := by rw [← hW2]; exact heap_alloc_new _ _
  have hEf : E.fo = false ∧ E.N = (N : Int) ∧ E.L = chars s := by subst hE; rw [← hN]; exact ⟨rfl, rfl, rfl⟩
  have hws : WS w1.heap.size w1.heap.size E (chars s) (sc1 text last) false W2 (.slice none 0 0) [] W2 := by
    subst hE
    refine ⟨⟨⟨.slice none 0 0, fun k hk => Nat.lt_of_lt_of_le hk bW.size, fun h => Nat.lt_irrefl _ h, List.suffix_refl _, by show (chars s).length ≤ _; have := HLn.out; omega, hcp, fun w' kk => ?_, ?_, ⟨rfl, .inl ⟨rfl, rfl⟩⟩, fun g hg => by simp [Value.ownBlock] at hg⟩, Keep.refl _ _⟩, ⟨rfl, .inl ⟨rfl, rfl⟩⟩, fun g hg => by simp [Value.ownBlock] at hg, fun t ht => by cases ht⟩
    · intro i c hi
      obtain ⟨b, off, e1, hb, q0, q1, q2⟩ := hch i c hi
      have hbk : w'.heap[b]? = w1.heap[b]? := (kk.block b hb (Nat.lt_of_lt_of_le hb bW.size)).trans (bW.block b hb)
      refine ⟨b, off, e1, Nat.lt_of_lt_of_le hb (Nat.le_trans bW.size kk.size), ?_, ?_, ?_⟩
      · rw [← q0]; simp [World.cell?, hbk]
      · rw [← q1]; simp [World.cell?, hbk]
      · rw [← q2]; simp [World.cell?, hbk]
    · rw [hblk]
      have e3 : pos (⟨ca, cc, chars s, s.size, false⟩ : Env) (chars s) = 0 := by unfold pos; simp
      unfold Env.cells
      rw [e3]
      dsimp only
      rw [hm, hN, htx, hla]
      rfl
  have HW : Hid (WS w1.heap.size w1.heap.size E (chars s) (sc1 text last) false W2 (.slice none 0 0) [] W2 ∧ Below w.heap.size w w1 ∧ Below w1.heap.size w1 W2) := ⟨hws, b4, bW⟩
  have HEf : Hid (E.fo = false ∧ E.N = (N : Int) ∧ E.L = chars s ∧ (∀ d ∈ chars s, 0 ≤ d.r) ∧ m ≤ 100000) := ⟨hEf.1, hEf.2.1, hEf.2.2, (chars_ends s).1, by have := HLn.out; omega⟩
  have HW2 : Hid (w1.alloc (.cells #[.slice ca m cc, .int .i64 0, .int .i64 N, .int .i64 tx, .string la, .bool false, .slice none 0 0, .bool false, .bool false] 56) = W2) := hW2
  have HWR : Hid (WR auto false N L F m (m + 1) [] (sc1 text last) (chars s) false) := by
    have h0 := HLF.out
    rw [hm, hN] at h0
    refine .inl ⟨rfl, by omega, h0.1, h0.2, ?_, ?_⟩
    · show 0 + _ ≤ _
      omega
    · show 0 + _ ≤ _
      omega
  have HLA : Hid ((if plainR last = true then last else ByteArray.empty) = la) := hla
  have HTX : Hid ((if text < 0 ∨ text > 3 then 0 else text) = tx) := htx
  have hx2 : w1.heap.size < W2.heap.size := (Array.getElem?_eq_some_iff.1 hblk).1
  have hNb : N < 20000 := by omega
  have hsz : s.size = N := hN
  have HM : Hid ((chars s).length = m) := hm
  rw [hm]
  clear k15 hc4 b4 hcp hch hcb htx hla hE hm hN hW2 bW hblk hEf hws HLF
  go_upto_region 2 with fail
  go_cut [25] (fun sv wc => sv = .bool (decide (text < 0 ∨ text > 3)) ∧ w1 = wc)
  case first =>
    by_cases h1 : text < 0
    · have g1 : decide (text < 0) = true := decide_eq_true h1
      have hd : Hid (decide (text < 0 ∨ text > 3) = true) := decide_eq_true (.inl h1)
      go_wp2_with fail
      go_meet
      case rel => exact ⟨by rw [hd.out], rfl⟩
    · have g1 : decide (text < 0) = false := decide_eq_false h1
      by_cases h2 : text > 3
      · have g2 : decide (text > 3) = true := decide_eq_true h2
        have hd : Hid (decide (text < 0 ∨ text > 3) = true) := decide_eq_true (.inr h2)
        go_wp2_with fail
        go_meet
        case rel => exact ⟨by rw [hd.out], rfl⟩
      · have g2 : decide (text > 3) = false := decide_eq_false h2
        have hd : Hid (decide (text < 0 ∨ text > 3) = false) := decide_eq_false (by omega)
        go_wp2_with fail
        go_meet
        case rel => exact ⟨by rw [hd.out], rfl⟩
  case rest =>
    obtain ⟨hu, rfl⟩ := hcut
    obtain ⟨tb, htb⟩ : ∃ tb, decide (text < 0 ∨ text > 3) = tb := ⟨_, rfl⟩
    have HTB : Hid (decide (text < 0 ∨ text > 3) = tb) := htb
    rw [htb] at hu
    subst hu
    clear htb
    go_upto_if 25 with fail
    go_cut [1] (fun sv wc => sv = .int .i64 tx ∧ w1 = wc)
    case first =>
      cases tb with
      | true =>
        have hx : Hid (tx = 0) := by
          show tx = 0
          rw [← HTX.out, if_pos (of_decide_eq_true HTB.out)]
        go_wp2_with fail
        go_meet
        case rel => exact ⟨by rw [hx.out], rfl⟩
      | false =>
        have hx : Hid (text = tx) := by
          show text = tx
          rw [← HTX.out, if_neg (of_decide_eq_false HTB.out)]
        go_wp2_with fail
        go_meet
        case rel => exact ⟨by rw [hx.out], rfl⟩
    case rest =>
      obtain ⟨hu, rfl⟩ := hcut
      subst hu
      have k26 := fun w => rplain_any last w hl
      obtain ⟨pb, hpb⟩ : ∃ pb, plainR last = pb := ⟨_, rfl⟩
      have HPB : Hid (plainR last = pb) := hpb
      rw [hpb] at k26
      clear hpb
      go_wp2_with fail
      refine (k26 _).mono ?_
      rintro e w1' ⟨rfl, hw1'⟩
      obtain rfl := hw1'.symm
      clear hw1' k26
      go_upto_if 28 with fail
      go_cut [2] (fun sv wc => sv = .string la ∧ w1 = wc)
      case first =>
        cases pb with
        | true =>
          have hx : Hid (last = la) := by
            show last = la
            rw [← HLA.out, if_pos HPB.out]
          go_wp2_with fail
          go_meet
          case rel => exact ⟨by rw [hx.out], rfl⟩
        | false =>
          have hx : Hid (la = ByteArray.empty) := by
            show la = _
            rw [← HLA.out, if_neg (by rw [HPB.out]; decide)]
          go_wp2_with fail
          go_meet
          case rel => exact ⟨by rw [hx.out]; rfl, rfl⟩
      case rest =>
        obtain ⟨hu, rfl⟩ := hcut
        subst hu
        go_wp2_with fail
        rw [HW2.out]
        go_loopg [13, 14] (m + 1) (fun g ov _ wr => ∃ (T : List TL) (sc : Sc) (r : List Ch) (dn : Bool), WR auto false N L F m g T sc r dn ∧ WS w1.heap.size w1.heap.size E r sc dn W2 ov T wr)
        case atStart => exact ⟨[], _, _, _, HWR.out, HW.out.1⟩
        case round =>
          obtain ⟨T, sc, r, dn, hwr, hk⟩ := hrel
          have KW : Hid (WR auto false N L F m gk T sc r dn ∧ WS w1.heap.size w1.heap.size E r sc dn W2 u13 T wr) := ⟨hwr, hk⟩
          have hxr := hk.tw.lt
          have c8 : wr.cell? ⟨w1.heap.size, 8, none⟩ = some (.bool dn) := by obtain ⟨fv, h1⟩ := hk.tw.tm; exact h1.cells 8 _ rfl
          cases dn with
          | true =>
            obtain ⟨hT, hsc, hTl, hFl⟩ := hwr.done
            obtain ⟨fv, h1⟩ := hk.tw.tm
            have c6 : wr.cell? ⟨w1.heap.size, 6, none⟩ = some fv := h1.cells 6 _ rfl
            obtain ⟨oo, oc, eov, _, _⟩ := own_form hk.own
            simp only at eov
            obtain ⟨fo', fc, efv, hq1, hq2⟩ := own_form h1.fo
            simp only at efv
            have hfo : OwnQ wr false 64 2 fv sc.fs.length (sc.fs.flatMap gcells) := h1.fo
            have bB : Below w1.heap.size w1 wr := HW.out.2.2.trans (hk.tw.keep.below (fun _ h => h) HW.out.2.2.size)
            obtain ⟨fo2, fc2, ef2, hrb, hq3, hq4⟩ := Mg.row_ref4 (hfo.row : Mg.RowIs wr _ fv sc.fs)
            rw [ef2] at c6
            rw [hsc] at hrb hFl c6 hq3
            obtain ⟨nf, hnf⟩ : ∃ nf, F.length = nf := ⟨_, rfl⟩
            rw [hnf] at c6 hFl hq3
            have HR : Hid (FRow wr fo2 F ∧ FRow wr fa FC ∧ F.length = nf ∧ (nf ≤ fc2 ∧ fc2 ≤ maxLen) ∧ fn + nf ≤ 200000) := ⟨hrb, HFC.out.2.2.2.1.below bB, hnf, ⟨hq3, hq4⟩, by have h2 := HFC.out.1; have h3 := HFC.out.2.1; have h4 := HEf.out.2.2.2.2; have h5 := HLn.out; have h6 := HM.out; omega⟩
            have HA : Hid (∀ (W9 : World) (lo : Option Addr) (FM : List (Int × Int)) (lc : Nat), Mrg 0 (FC ++ F) FM → W9.ownsRow wr.heap.size 64 2 (.slice lo FM.length lc) FM.length (FM.flatMap gcells) → Below wr.heap.size wr W9 → Ran L (FC ++ F) w (.returned (.tuple #[u13, .slice lo FM.length lc])) W9) := fun W9 lo FM lc hM hown bn => by
              have hk' := hk.below bn
              have kk : Keep (fun k => k < w1.heap.size) W2 W9 := hk'.tw.keep
              have bb : Below w.heap.size w W9 := HW.out.2.1.trans ((HW.out.2.2.trans ((kk.below (fun _ h => h) HW.out.2.2.size))).mono HW.out.2.1.size)
              refine ⟨FM, hM, oo, T, oc, lo, lc, by rw [eov], hT, by have := HEf.out.2.2.2.2; omega, ⟨by rw [← eov]; exact hk'.own, fun g hg => ?_, hk'.toks⟩, ?_, bb⟩
              · rw [← eov] at hg
                have h2 := hk.out g hg
                have h3 := HW.out.2.1.size
                omega
              · refine ⟨hown.1, ?_⟩
                rcases hown.2 with e2 | ⟨g, cap, cur, e2, hg, rest⟩
                · exact .inl e2
                · refine .inr ⟨g, cap, cur, e2, ?_, rest⟩
                  have h4 := HW.out.2.1.size
                  have h5 := bB.size
                  omega
            clear hwr hk hT hsc hTl h1 eov efv KW HW hfo bB ef2 hrb hq1 hq2 hq3 hq4 hnf hFl
            go_wp2_with fail
            refine (merge_any HR.out.2.1 HR.out.1 HFC.out.1 HR.out.2.2.1 HFC.out.2.2.2.2 HR.out.2.2.2.1 HFC.out.2.2.1 HR.out.2.2.2.2).mono ?_
            rintro e W9 ⟨lo, FM, lc, rfl, hM, hown, bM⟩
            have HZ := HA.out W9 lo FM lc hM hown bM
            have HZ2 : Hid (Ran L (FC ++ F) w (.returned (.tuple #[u13, .slice lo FM.length lc])) W9) := HZ
            obtain ⟨nm, hnm⟩ : ∃ nm, FM.length = nm := ⟨_, rfl⟩
            rw [hnm] at HZ2 ⊢
            clear HZ HA hM hown bM hnm
            go_wp2_with fail
            go_ret2
            exact HZ2.out
          | false =>
            obtain ⟨f1, f2, f3⟩ := hwr.few
            obtain ⟨g0, rfl⟩ : ∃ g0, gk = g0 + 1 := ⟨gk - 1, by omega⟩
            have hwr2 : WR auto E.fo E.N L F m (g0 + 1) T sc r false := by rw [HEf.out.1, HEf.out.2.1]; exact hwr
            obtain ⟨p, dn', hcon, hpl, hnew⟩ := hwr2.go HEf.out.2.2.2.2 (suf_pos (by have := hk.tw.facts.2.1; rw [HEf.out.2.2.1] at this; exact this) HEf.out.2.2.2.1)
            rw [HEf.out.1, HEf.out.2.1] at hnew
            have HC : Hid ((∀ (x : Nat) (W : World) (S' : Nat → Prop), Tm S' x E r sc false W → Calls Try.prog 27 #[mp x] W (Tokd S' x E p dn' W)) ∧ p.1.length ≤ 200000 ∧ (∀ T' : List TL, T'.map ptOf = p.1 → WR auto false N L F m g0 (T ++ T') (autoSc auto p.1 p.2.1) p.2.2 dn') ∧ T.length ≤ 200000 * m) := ⟨hcon, hpl, hnew, f3⟩
            clear hwr hwr2 hk f1 f2 f3 hcon hpl hnew
            go_wp2_with fail
            refine (KW.out.2.next (HC.out.1 w1.heap.size wr)).mono ?_
            rintro e W3 ⟨ao, T', cp, rfl, hT', hcp, hs3, htk, hg0⟩
            have hl' : T'.length ≤ 200000 := by
              have := HC.out.2.1
              rw [← hT', List.length_map] at this
              exact this
            obtain ⟨ov', W4, hrun, hs4, hrow2⟩ := hs3.app htk hg0 (by have h1 := HC.out.2.2.2; have h2 := HEf.out.2.2.2.2; omega) cp
            have HT2 : Hid (T'.map ptOf = p.1 ∧ T'.length ≤ 200000) := ⟨hT', hl'⟩
            have HS4 : Hid (WS w1.heap.size w1.heap.size E p.2.2 p.2.1 dn' W2 ov' (T ++ T') W4) := hs4
            have hx4 := hs4.tw.lt
            obtain ⟨nT, hnT⟩ : ∃ nT, T'.length = nT := ⟨_, rfl⟩
            rw [hnT] at hrun hcp ⊢
            clear hs3 htk hT' hl' hs4 KW hg0 c8 hxr
            cases auto with
            | false =>
              clear hrow2 hnT
              go_wp2_with (at_builtin; refine list_append_eq rfl _ _ 22 22 rfl _ _ rfl rfl hrun ?_)
              go_roundg g0
              case measure => exact Nat.lt_succ_self _
              case rel => exact ⟨T ++ T', p.2.1, p.2.2, dn', HC.out.2.2.1 T' HT2.out.1, HS4.out⟩
            | true =>
              cases hTl : T'.getLast? with
              | none =>
                have hT0 : T' = [] := by simpa using hTl
                obtain rfl : nT = 0 := by rw [← hnT, hT0]; rfl
                have HX : Hid (autoSc true p.1 p.2.1 = p.2.1) := by
                  show autoSc _ _ _ = _
                  rw [← HT2.out.1, hT0]
                  rfl
                clear hrow2 hnT hTl hT0
                go_wp2_with (at_builtin; refine list_append_eq rfl _ _ 22 22 rfl _ _ rfl rfl hrun ?_)
                go_roundg g0
                case measure => exact Nat.lt_succ_self _
                case rel => exact ⟨T ++ T', p.2.1, p.2.2, dn', by have h0 := HC.out.2.2.1 T' HT2.out.1; rw [HX.out] at h0; exact h0, HS4.out⟩
              | some t =>
                obtain ⟨j, hj⟩ : ∃ j, nT = j + 1 := by
                  cases nT with
                  | zero => rw [List.eq_nil_of_length_eq_zero hnT] at hTl; simp at hTl
                  | succ j => exact ⟨j, rfl⟩
                subst hj
                have htj : T'[j]? = some t := by rw [List.getLast?_eq_getElem?, hnT] at hTl; exact hTl
                obtain ⟨b2, off2, rfl, hb2, tc, _⟩ := hrow2.at htj
                have t0 := tc.c0
                have t2 := tc.c2
                obtain ⟨kd, hkd⟩ : ∃ kd, t.1.k = kd := ⟨_, rfl⟩
                obtain ⟨nm, hnm⟩ : ∃ nm, t.1.nm = nm := ⟨_, rfl⟩
                rw [hkd] at t0
                rw [hnm] at t2
                have hsz2 : j < 200000 := by have := HT2.out.2; omega
                have HX : Hid (autoSc true p.1 p.2.1 = if kd = 2 then { p.2.1 with text := G7.textK nm } else p.2.1) := by
                  show autoSc _ _ _ = _
                  have e1 : lastSt p.1 = if kd = 2 then some nm else none := by
                    rw [← HT2.out.1]
                    unfold lastSt
                    rw [List.getLast?_map, hTl, ← hkd, ← hnm]
                    rfl
                  unfold autoSc
                  rw [if_pos rfl, e1]
                  by_cases hk2 : kd = 2
                  · rw [if_pos hk2, if_pos hk2]
                  · rw [if_neg hk2, if_neg hk2]
                clear hrow2 hTl htj tc hkd hnm hnT
                cases h2 : (kd == 2) with
                | false =>
                  have HX2 : Hid (autoSc true p.1 p.2.1 = p.2.1) := by
                    have h0 := HX.out
                    rw [if_neg (by simpa using h2)] at h0
                    exact h0
                  go_wp2_with (at_builtin; refine list_append_eq rfl _ _ 22 22 rfl _ _ rfl rfl hrun ?_)
                  go_roundg g0
                  case measure => exact Nat.lt_succ_self _
                  case rel => exact ⟨T ++ T', p.2.1, p.2.2, dn', by have h0 := HC.out.2.2.1 T' HT2.out.1; rw [HX2.out] at h0; exact h0, HS4.out⟩
                | true =>
                  have HX2 : Hid (autoSc true p.1 p.2.1 = { p.2.1 with text := G7.textK nm }) := by
                    have h0 := HX.out
                    rw [if_pos (by simpa using h2)] at h0
                    exact h0
                  have k26 := G7.rtext_any nm
                  obtain ⟨d3, d4, _, _, _⟩ := HS4.out.tw.c3
                  obtain ⟨tk, htk⟩ : ∃ tk, G7.textK nm = tk := ⟨_, rfl⟩
                  rw [htk] at HX2
                  simp only [htk] at k26
                  have HS5 : Hid (WS w1.heap.size w1.heap.size E p.2.2 { p.2.1 with text := tk } dn' W2 ov' (T ++ T') (W4.setCell ⟨w1.heap.size, 3, none⟩ (.int .i64 tk))) := HS4.out.settext tk
                  clear htk
                  go_wp2_with (at_builtin; refine list_append_eq rfl _ _ 22 22 rfl _ _ rfl rfl hrun ?_)
                  refine (k26 _).mono ?_
                  rintro e W5 ⟨rfl, hW5⟩
                  obtain rfl := hW5.symm
                  clear hW5 k26
                  go_wp2_with fail
                  go_roundg g0
                  case measure => exact Nat.lt_succ_self _
                  case rel => exact ⟨T ++ T', _, p.2.2, dn', by have h0 := HC.out.2.2.1 T' HT2.out.1; rw [HX2.out] at h0; exact h0, HS5.out⟩
end Go.Proofs.Ytkbakbacomidbaa
namespace Go.Proofs.Ytkbakbacomidbaa
open Go.RowKit
set_option maxHeartbeats 1000000 in
theorem rdata_any (s : ByteArray) (w : World) (hs : s.size < 20000) :
    Calls Try.prog 16 #[.string s] w (Ran (refT true false s.size ((chars s).length + 1) (sc1 0 ⟨#[]⟩) (chars s)).1 (G4.fcs 0 (G4.items s.data.toList) ++ (refT true false s.size ((chars s).length + 1) (sc1 0 ⟨#[]⟩) (chars s)).2) w) := by
  have k := fun w => run_any s ⟨#[]⟩ 0 true w hs (by decide)
  obtain ⟨L, hL⟩ : ∃ L, (refT true false s.size ((chars s).length + 1) (sc1 0 ⟨#[]⟩) (chars s)).1 = L := ⟨_, rfl⟩
  obtain ⟨F, hF⟩ : ∃ F, (G4.fcs 0 (G4.items s.data.toList) ++ (refT true false s.size ((chars s).length + 1) (sc1 0 ⟨#[]⟩) (chars s)).2) = F := ⟨_, rfl⟩
  rw [hL, hF]
  simp only [hL, hF] at k
  clear hL hF
  go_enter Try.func16, Try.ntmps16
  go_wp2_with fail
  refine (k _).mono ?_
  rintro e w1 ⟨FM, hM, oo, T, oc, fo, fc, rfl, h⟩
  have HZ : Hid (Ran L F w (.returned (.tuple #[.slice oo T.length oc, .slice fo FM.length fc])) w1) := ⟨FM, hM, oo, T, oc, fo, fc, rfl, h⟩
  obtain ⟨n1, h1⟩ : ∃ n1, T.length = n1 := ⟨_, rfl⟩
  obtain ⟨n2, h2⟩ : ∃ n2, FM.length = n2 := ⟨_, rfl⟩
  rw [h1, h2] at HZ ⊢
  clear h hM h1 h2 k
  go_wp2_with fail
  go_ret2
  exact HZ.out
end Go.Proofs.Ytkbakbacomidbaa
