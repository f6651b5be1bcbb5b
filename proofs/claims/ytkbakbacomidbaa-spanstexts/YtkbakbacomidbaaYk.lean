/- The scanner reads an attribute. -/
import Derived.Test.YtkbakbacomidbaaProg
import Derived.Below
import Derived.BigCall
import Derived.BigQuiet
import Derived.BigRegion
import Derived.Deep.DeepCutAuto
import Derived.Deep.LoopGhost
import Derived.Deep.QuietTactic
import Derived.Deep.RegionHeld3
import Derived.Deep.RegionLaw
import Derived.Deep.RegionWith
import Derived.Deep.Upon
import Derived.Laws.AppendOwn
import Derived.Laws.BytesArg
import Derived.Laws.EntriesVeiled
import Derived.Laws.IdiomStrings
import Derived.Laws.StructEq
import Derived.Lib.AppendStr
import Derived.Lib.RuneBytes
import Derived.Maps.AppendAt
import Derived.Maps.OwnSet
import Derived.OwnWalk
import Derived.ScopeJumps
import Derived.Shelf.Abstract
import Derived.Shelf.Small.Strs
import Derived.Shelf.Strings.Builder1
import Derived.Shelf.Strings.BuilderF
import Derived.Shelf.Strings.BuilderK
import Derived.Shelf.Strings.BuilderRune
import Derived.Shelf.Strings.Prefix
import Derived.StillTailTactics
import Derived.StringKeys
import Derived.WalkArith
import Derived.WalkKit
import Derived.WalkLawsBesides
import Derived.WalkMore
import Derived.WalkSpells
import Derived.Test.YtkbakbacomidbaaYj
namespace Go.Proofs.Ytkbakbacomidbaa
open Go.RowKit
set_option maxRecDepth 20000 in
theorem results_attr {tmps : Array Value} {w : World} {R : Nat} {a b : ByteArray} {r : Bool} (hp : tmps.getD 4 undef = .pointer (some ⟨R, 0, none⟩)) (hr : tmps.getD 5 undef = .bool r)
    (h1 : w.cell? ⟨R, 0, none⟩ = some (.string a)) (h2 : w.cell? ⟨R, 1, none⟩ = some (.string b)) : (results Try.f64 tmps).run Try.prog w = .ok (.tuple #[.agg #[.string a, .string b], .bool r]) w := by
  have hp' : tmps[4]?.getD undef = .pointer (some ⟨R, 0, none⟩) := by simpa using hp
  have hr' : tmps[5]?.getD undef = .bool r := by simpa using hr
  simp [results, hp', hr', asAddr, G9.load49 h1 h2]
/-- The answer's block is written at the end. -/
theorem attr_end {S : Nat → Prop} {x : Nat} {E : Env} {r0 r' : List Ch} {sc sc' : Sc} {dn : Bool} {w w1 W : World} {z y : Nat} {cur : Array Value} {S1 : Nat → Prop} (hS1 : (fun k => S k ∨ k = z) = S1) (h0 : TW S x E r0 sc dn w w1) (hz : w1.heap[z]? = some (.cells #[.string ⟨#[]⟩, .string ⟨#[]⟩] 96 (0, 0))) (hn : ¬ S z) (K : TY S1 x E r' sc' dn w1 y cur 96 W) (nv vv : ByteArray) :
    W.cell? ⟨z, 0, none⟩ = some (.string ⟨#[]⟩) ∧ W.cell? ⟨z, 1, none⟩ = some (.string ⟨#[]⟩) ∧ W.frozen? ⟨z, 0, none⟩ = false ∧ W.frozen? ⟨z, 1, none⟩ = false ∧ z < W.heap.size ∧ z ≠ y ∧ TW S x E r' sc' dn w ((W.setCell ⟨z, 0, none⟩ (.string nv)).setCell ⟨z, 1, none⟩ (.string vv)) ∧ ((W.setCell ⟨z, 0, none⟩ (.string nv)).setCell ⟨z, 1, none⟩ (.string vv)).cell? ⟨z, 0, none⟩ = some (.string nv) ∧ ((W.setCell ⟨z, 0, none⟩ (.string nv)).setCell ⟨z, 1, none⟩ (.string vv)).cell? ⟨z, 1, none⟩ = some (.string vv) := by
  subst hS1
  have hzl : z < w1.heap.size := (Array.getElem?_eq_some_iff.1 hz).1
  have hb : W.heap[z]? = some (.cells #[.string ⟨#[]⟩, .string ⟨#[]⟩] 96 (0, 0)) := (K.tw.keep.block z (.inr rfl) hzl).trans hz
  have k0 : TY S x E r' sc' dn w z #[.string ⟨#[]⟩, .string ⟨#[]⟩] 96 W := ⟨h0.less K.tw fun _ => .inl, hb, hn, by decide, by decide⟩
  obtain ⟨c0, f0⟩ := k0.cell 0 rfl
  obtain ⟨c1, f1⟩ := k0.cell 1 rfl
  obtain ⟨n0, n1⟩ := G9.two_set (.string nv) (.string vv) c0 c1
  exact ⟨c0, c1, f0, f1, k0.lt, fun e => K.ns (.inr e.symm), ((k0.put 0 (.string nv) rfl).put 1 (.string vv) rfl).tw, n0, n1⟩
/-- How far a name is read. -/
def NmR (fs : Fs) (r0 : List Ch) (q : List UInt8) (fs1 : Fs) (r1 : List Ch) : Prop := anameR fs r0 = (q ++ lows (r1.takeWhile anC), fs1 ++ odds (r1.takeWhile anC), r1.dropWhile anC) ∧ r1 <:+ r0 ∧ q.length + 4 * r1.length ≤ 4 * r0.length + 1 ∧ fs1.length + r1.length ≤ fs.length + r0.length
theorem NmR.start0 {fs : Fs} {c : Ch} {t : List Ch} (h : c.r ≠ 61) : NmR fs (c :: t) [] fs (c :: t) := by
  refine ⟨?_, List.suffix_refl _, by simp, Nat.le_refl _⟩
  unfold anameR
  simp only
  rw [if_neg h]
  rfl
theorem NmR.start1 {fs : Fs} {c : Ch} {t : List Ch} (h : c.r = 61) : NmR fs (c :: t) [61] (fs ++ [(8, c.a)]) t := by
  refine ⟨?_, List.suffix_cons _ _, by simp; omega, by simp; omega⟩
  unfold anameR
  simp only
  rw [if_pos h]
theorem odds_cons (c : Ch) (l : List Ch) : odds (c :: l) = (if odd c.r = true then [(8, c.a)] else []) ++ odds l := by
  unfold odds
  rw [List.filter_cons]
  split <;> simp
theorem NmR.step {fs : Fs} {r0 : List Ch} {q : List UInt8} {fs1 : Fs} {c : Ch} {t : List Ch} (h : NmR fs r0 q fs1 (c :: t)) (hc : anC c = true) : NmR fs r0 (q ++ enc (lowr c.r)) (fs1 ++ if odd c.r = true then [(8, c.a)] else []) t := by
  obtain ⟨h1, h2, h3, h4⟩ := h
  rw [List.takeWhile_cons, List.dropWhile_cons, hc] at h1
  simp only [if_true] at h1
  refine ⟨?_, (List.suffix_cons _ _).trans h2, ?_, ?_⟩
  · rw [h1, odds_cons]
    simp [lows]
  · have := enc_len (lowr c.r)
    simp only [List.length_append, List.length_cons] at h3 ⊢
    omega
  · simp only [List.length_append, List.length_cons] at h4 ⊢
    split
    · simp only [List.length_cons, List.length_nil]
      omega
    · simp only [List.length_nil]
      omega
theorem NmR.stop {fs : Fs} {r0 : List Ch} {q : List UInt8} {fs1 : Fs} {r1 : List Ch} (h : NmR fs r0 q fs1 r1) (ht : tst anC r1 = false) : anameR fs r0 = (q, fs1, r1) := by
  obtain ⟨h1, _⟩ := h
  obtain ⟨e1, e2⟩ := tst_no ht
  rw [h1, e1, e2]
  simp [lows, odds]
theorem dups_take_few {A : List At} (h : Once A) (i : Nat) (nm : List UInt8) (a : Int) : (dups (A.take i) nm a).length ≤ 1 := by
  unfold dups
  rw [List.length_map]
  exact Nat.le_trans ((List.take_sublist i A).filter _).length_le (h nm)
theorem dups_one_yes {a : At} {nm : List UInt8} (p : Int) (h : a.nm = nm) : dups [a] nm p = [(9, p)] := by
  unfold dups
  rw [List.filter_cons_of_pos (by simpa using h)]
  rfl
theorem dups_one_no {a : At} {nm : List UInt8} (p : Int) (h : ¬ a.nm = nm) : dups [a] nm p = [] := by
  unfold dups
  rw [List.filter_cons_of_neg (by simpa using h)]
  rfl
theorem take_one {A : List At} {i : Nat} {a : At} (h : A[i]? = some a) : A.take (i + 1) = A.take i ++ [a] := by
  obtain ⟨hl, rfl⟩ := List.getElem?_eq_some_iff.1 h
  rw [← List.take_append_getElem hl]
theorem TY.value {S : Nat → Prop} {x : Nat} {E : Env} {r : List Ch} {sc : Sc} {dn : Bool} {w : World} {y : Nat} {cur : Array Value} {ty : Nat} {W : World} (h : TY S x E r sc dn w y cur ty W) (hpos : ∀ d ∈ r, 0 ≤ d.r) (hB : sc.fs.length + 8 * r.length + 8 ≤ 1000000000) : Calls Try.prog 72 #[mp x] W fun e w' => e = .returned (.string (bs (valueR E.N sc.fs r).1)) ∧ TY S x E (valueR E.N sc.fs r).2.2 (sc.fsd (valueR E.N sc.fs r).2.1) dn w y cur ty w' := h.lift fun _ _ k => value_any k hpos hB
set_option maxHeartbeats 4000000 in
set_option maxRecDepth 20000 in
theorem attr_any {S : Nat → Prop} {x : Nat} {E : Env} {cr ca cz : Int} {t : List Ch} {sc : Sc} {dn : Bool} {w : World} (h : Tm S x E (⟨cr, ca, cz⟩ :: t) sc dn w) (hpos : ∀ d ∈ (⟨cr, ca, cz⟩ : Ch) :: t, 0 ≤ d.r) (hB : sc.fs.length + 8 * (t.length + 1) + 8 ≤ 1000000000) {lo : Option Addr} {cap n : Nat} {A : List At} (hA : Stays S w fun w => G9.AtRow w lo A) (hn : A.length = n) (hn2 : n ≤ 100000) (hnc : n ≤ cap) (hO : Once A) :
    Calls Try.prog 64 #[mp x, .slice lo n cap] w fun e w' => e = .returned (.tuple #[.agg #[.string (bs (attrR E.N A sc.fs (⟨cr, ca, cz⟩ :: t)).1.1), .string (bs (attrR E.N A sc.fs (⟨cr, ca, cz⟩ :: t)).1.2)], .bool (attrR E.N A sc.fs (⟨cr, ca, cz⟩ :: t)).2.1]) ∧ TW S x E (attrR E.N A sc.fs (⟨cr, ca, cz⟩ :: t)).2.2.2 (sc.fsd (attrR E.N A sc.fs (⟨cr, ca, cz⟩ :: t)).2.2.1) dn w w' := by
  have k00 := TW.start h
  have hxw := h.lt
  obtain ⟨hfew, hsuf, hlow⟩ := k00.facts
  obtain ⟨P, hP⟩ : ∃ P, attrR E.N A sc.fs (⟨cr, ca, cz⟩ :: t) = P := ⟨_, rfl⟩
  rw [hP]
  have hr5 : t.length + 1 ≤ 100000 := by have := hsuf.length_le; simp only [List.length_cons] at this; omega
  have HPP : Hid (attrR E.N A sc.fs (⟨cr, ca, cz⟩ :: t) = P ∧ ⟨cr, ca, cz⟩ :: t <:+ E.L ∧ t.length + 1 ≤ 100000) := ⟨hP, hsuf, hr5⟩
  have HPO : Hid ((∀ d ∈ (⟨cr, ca, cz⟩ : Ch) :: t, 0 ≤ d.r) ∧ sc.fs.length + 8 * (t.length + 1) + 8 ≤ 1000000000) := ⟨hpos, hB⟩
  have hc0 : 0 ≤ cr := hpos ⟨cr, ca, cz⟩ (by simp)
  obtain ⟨w1, hw1⟩ : ∃ w1, w.alloc (.cells #[.string ⟨#[]⟩, .string ⟨#[]⟩] 96) = w1 := ⟨_, rfl⟩
  have b1 : Below w.heap.size w w1 := by rw [← hw1]; exact (Below.refl _ _).alloc (Nat.le_refl _) _
  have hz1 : w1.heap[w.heap.size]? = some (.cells #[.string ⟨#[]⟩, .string ⟨#[]⟩] 96 (0, 0)) := by rw [← hw1]; exact heap_alloc_new _ _
  obtain ⟨S1, hS1⟩ : ∃ S1 : Nat → Prop, (fun k => S k ∨ k = w.heap.size) = S1 := ⟨_, rfl⟩
  have k0 : TW S1 x E (⟨cr, ca, cz⟩ :: t) sc dn w1 w1 := by
    rw [← hS1]
    refine (k00.below b1).more _ (fun k hk => ?_) (fun k hk => ?_)
    · subst hk; exact (Array.getElem?_eq_some_iff.1 hz1).1
    · subst hk; exact ⟨_, _, _, hz1, by decide, by decide⟩
  have HE : Hid ((fun k => S k ∨ k = w.heap.size) = S1 ∧ TW S x E (⟨cr, ca, cz⟩ :: t) sc dn w w1 ∧ w1.heap[w.heap.size]? = some (.cells #[.string ⟨#[]⟩, .string ⟨#[]⟩] 96 (0, 0)) ∧ ¬ S w.heap.size) := ⟨hS1, k00.below b1, hz1, fun hS => Nat.lt_irrefl _ (hlow _ hS)⟩
  have HA : Hid (Stays S1 w1 fun w => G9.AtRow w lo A) := by
    show Stays _ _ _
    rw [← hS1]
    exact (hA.keep (Keep.old b1)).mono fun _ => .inl
  have HN : Hid (A.length = n ∧ Once A) := ⟨hn, hO⟩
  have HW1 : Hid (w.alloc (.cells #[.string ⟨#[]⟩, .string ⟨#[]⟩] 96) = w1) := hw1
  have hzl : w.heap.size < w1.heap.size := (Array.getElem?_eq_some_iff.1 hz1).1
  have K0 : Hid (TW S1 x E (⟨cr, ca, cz⟩ :: t) sc dn w1 w1) := k0
  have hx0 := k0.lt
  clear h hpos hB hA hn hO k00 hfew hsuf hlow hP hr5 hw1 b1 hz1 hS1 k0
  go_enter Try.func64, Try.ntmps64
  go_wp2_with fail
  rw [HW1.out]
  refine K0.out.ba.mono ?_
  rintro e W1 ⟨rfl, k'⟩
  obtain ⟨y, hy⟩ : ∃ y, W1.heap.size = y := ⟨_, rfl⟩
  obtain ⟨W2, hW2⟩ : ∃ W2, W1.alloc (.cells #[.string ⟨#[]⟩, .string ⟨#[]⟩] 96) = W2 := ⟨_, rfl⟩
  have HW2 : Hid (W1.alloc (.cells #[.string ⟨#[]⟩, .string ⟨#[]⟩] 96) = W2 ∧ W1.heap.size = y) := ⟨hW2, hy⟩
  have K2 : Hid (TY S1 x E (⟨cr, ca, cz⟩ :: t) sc dn w1 y #[.string ⟨#[]⟩, .string ⟨#[]⟩] 96 W2) := by
    show TY _ _ _ _ _ _ _ _ _ _ _
    rw [← hW2, ← hy]
    exact TY.new k' _ 96 (by decide) (by decide)
  have hx2 := K2.out.tw.lt
  have hy2 := K2.out.lt
  clear k' hy hW2
  go_wp2_with fail
  rw [HW2.out.1, HW2.out.2]
  clear HW2
  go_wp2_with fail
  refine K2.out.cc.mono ?_
  rintro e W3 ⟨rfl, k'⟩
  have K3 : Hid (TY S1 x E (⟨cr, ca, cz⟩ :: t) sc dn w1 y #[.string ⟨#[]⟩, .string ⟨#[]⟩] 96 W3) := k'
  have hx3 := k'.tw.lt
  have hy3 := k'.lt
  clear k'
  go_upto_if 17 with fail
  go_cut [] (fun wc => ∃ (q : List UInt8) (fs1 : Fs) (r1 : List Ch), NmR sc.fs (⟨cr, ca, cz⟩ :: t) q fs1 r1 ∧ TY S1 x E r1 (sc.fsd fs1) dn w1 y #[.string (bs q), .string ⟨#[]⟩] 96 wc)
  case first =>
    by_cases h61 : cr = 61
    · have g61 : (cr == 61) = true := by simp [h61]
      have HQ : Hid (NmR sc.fs (⟨cr, ca, cz⟩ :: t) [61] (sc.fs ++ [(8, ca)]) t) := NmR.start1 h61
      clear h61
      go_wp2_with fail
      refine (K3.out.tfl 8 ca (by have := HPO.out.2; omega)).mono ?_
      rintro e W4 ⟨rfl, k'⟩
      have K4 : Hid (TY S1 x E (⟨cr, ca, cz⟩ :: t) (sc.fsd (sc.fs ++ [(8, ca)])) dn w1 y #[.string ⟨#[]⟩, .string ⟨#[]⟩] 96 W4) := k'
      have hx4 := k'.tw.lt
      have hy4 := k'.lt
      clear k'
      obtain ⟨b0, f0⟩ := K4.out.cell 0 rfl
      obtain ⟨a1, a2, a3, a4, _⟩ := K4.out.tw.at
      obtain ⟨pq, hpq⟩ : ∃ p, pos E (⟨cr, ca, cz⟩ :: t) = p := ⟨_, rfl⟩
      have hne : y ≠ x := K4.out.ne
      have KA : Hid (TY S1 x E t (sc.fsd (sc.fs ++ [(8, ca)])) dn w1 y #[.string ⟨#[61]⟩, .string ⟨#[]⟩] 96 ((W4.setCell ⟨y, 0, none⟩ (.string ⟨#[61]⟩)).setCell ⟨x, 1, none⟩ (.int .i64 (pq + 1)))) := by
        show TY _ _ _ _ _ _ _ _ _ _ _
        rw [← hpq]
        exact (K4.out.put 0 (.string ⟨#[61]⟩) rfl).adv
      rw [hpq] at a1 a3 a4
      clear hpq
      go_wp2_with fail
      go_meet
      case rel => exact ⟨[61], _, t, HQ.out, KA.out⟩
    · have g61 : (cr == 61) = false := by simp [h61]
      have HQ : Hid (NmR sc.fs (⟨cr, ca, cz⟩ :: t) [] sc.fs (⟨cr, ca, cz⟩ :: t)) := NmR.start0 h61
      clear h61
      go_wp2_with fail
      go_meet
      case rel => exact ⟨[], _, _, HQ.out, K3.out⟩
  case rest =>
    obtain ⟨q0, fs0, r0, hq0, k0⟩ := hcut
    have H0 : Hid (NmR sc.fs (⟨cr, ca, cz⟩ :: t) q0 fs0 r0 ∧ TY S1 x E r0 (sc.fsd fs0) dn w1 y #[.string (bs q0), .string ⟨#[]⟩] 96 wc) := ⟨hq0, k0⟩
    have hxc := k0.tw.lt
    have hyc := k0.lt
    clear hq0 k0 K0 K2 K3
    go_wp2_with fail
    go_loopg [8] r0.length (fun g _ wr => ∃ (q : List UInt8) (fs1 : Fs) (r1 : List Ch), r1.length ≤ g ∧ NmR sc.fs (⟨cr, ca, cz⟩ :: t) q fs1 r1 ∧ TY S1 x E r1 (sc.fsd fs1) dn w1 y #[.string (bs q), .string ⟨#[]⟩] 96 wr)
    case atStart => exact ⟨q0, fs0, r0, Nat.le_refl _, H0.out.1, H0.out.2⟩
    case round =>
      obtain ⟨q, fs1, r1, hgl, hnm, hk⟩ := hrel
      have HNM : Hid (NmR sc.fs (⟨cr, ca, cz⟩ :: t) q fs1 r1 ∧ r1.length ≤ gk) := ⟨hnm, hgl⟩
      have HPR : Hid (∀ d ∈ r1, 0 ≤ d.r) := suf_pos hnm.2.1 HPO.out.1
      have K0 : Hid (TY S1 x E r1 (sc.fsd fs1) dn w1 y #[.string (bs q), .string ⟨#[]⟩] 96 wr) := hk
      have hxr := hk.tw.lt
      have hyr := hk.lt
      clear hgl hnm hk H0
      go_upto_region 7 with fail
      go_cut [52] (fun s wc => s = .bool (tst anC r1) ∧ TY S1 x E r1 (sc.fsd fs1) dn w1 y #[.string (bs q), .string ⟨#[]⟩] 96 wc)
      case first =>
        cases r1 with
        | nil =>
          have HTS : Hid (tst anC [] = false) := rfl
          go_wp2_with fail
          refine K0.out.c0.mono ?_
          rintro e W1 ⟨rfl, k'⟩
          have K1 : Hid (TY S1 x E [] (sc.fsd fs1) dn w1 y #[.string (bs q), .string ⟨#[]⟩] 96 W1) := k'
          have hx1 := k'.tw.lt
          have hy1 := k'.lt
          clear k'
          go_wp2_with fail
          go_meet
          case rel => exact ⟨by rw [HTS.out], K1.out⟩
        | cons d t1 =>
          obtain ⟨dr, da, dz⟩ := d
          have hd0 : 0 ≤ dr := HPR.out ⟨dr, da, dz⟩ (by simp)
          have gd0 : decide (dr ≥ 0) = true := decide_eq_true (by omega)
          clear hd0
          by_cases hbk : blk dr = true
          · have HTS : Hid (tst anC (⟨dr, da, dz⟩ :: t1) = false) := by
              show anC _ = _
              unfold anC
              simp [hbk]
            go_wp2_with fail
            refine K0.out.cc.mono ?_
            rintro e W1 ⟨rfl, k'⟩
            have K1 : Hid (TY S1 x E (⟨dr, da, dz⟩ :: t1) (sc.fsd fs1) dn w1 y #[.string (bs q), .string ⟨#[]⟩] 96 W1) := k'
            have hx1 := k'.tw.lt
            have hy1 := k'.lt
            clear k'
            go_wp2_with fail
            refine K1.out.cc.mono ?_
            rintro e W2 ⟨rfl, k'⟩
            have K2 : Hid (TY S1 x E (⟨dr, da, dz⟩ :: t1) (sc.fsd fs1) dn w1 y #[.string (bs q), .string ⟨#[]⟩] 96 W2) := k'
            have hx2 := k'.tw.lt
            have hy2 := k'.lt
            clear k'
            go_wp2_with fail
            refine (G7.rblank_any dr _).mono ?_
            rintro e w0 ⟨rfl, hw0⟩
            rw [hw0]
            clear hw0
            go_wp2_with fail
            go_meet
            case rel => exact ⟨by rw [HTS.out], K2.out⟩
          · have hbk' : blk dr = false := by simpa using hbk
            by_cases h47 : dr = 47
            · have g47 : (dr != 47) = false := by simp [h47]
              have HTS : Hid (tst anC (⟨dr, da, dz⟩ :: t1) = false) := by
                show anC _ = _
                unfold anC
                simp [h47]
              clear h47
              go_wp2_with fail
              refine K0.out.cc.mono ?_
              rintro e W1 ⟨rfl, k'⟩
              have K1 : Hid (TY S1 x E (⟨dr, da, dz⟩ :: t1) (sc.fsd fs1) dn w1 y #[.string (bs q), .string ⟨#[]⟩] 96 W1) := k'
              have hx1 := k'.tw.lt
              have hy1 := k'.lt
              clear k'
              go_wp2_with fail
              refine K1.out.cc.mono ?_
              rintro e W2 ⟨rfl, k'⟩
              have K2 : Hid (TY S1 x E (⟨dr, da, dz⟩ :: t1) (sc.fsd fs1) dn w1 y #[.string (bs q), .string ⟨#[]⟩] 96 W2) := k'
              have hx2 := k'.tw.lt
              have hy2 := k'.lt
              clear k'
              go_wp2_with fail
              refine (G7.rblank_any dr _).mono ?_
              rintro e w0 ⟨rfl, hw0⟩
              rw [hw0]
              clear hw0
              go_wp2_with fail
              refine K2.out.cc.mono ?_
              rintro e W3 ⟨rfl, k'⟩
              have K3 : Hid (TY S1 x E (⟨dr, da, dz⟩ :: t1) (sc.fsd fs1) dn w1 y #[.string (bs q), .string ⟨#[]⟩] 96 W3) := k'
              have hx3 := k'.tw.lt
              have hy3 := k'.lt
              clear k'
              go_wp2_with fail
              go_meet
              case rel => exact ⟨by rw [HTS.out], K3.out⟩
            · have g47 : (dr != 47) = true := by simp [h47]
              by_cases h62 : dr = 62
              · have g62 : (dr != 62) = false := by simp [h62]
                have HTS : Hid (tst anC (⟨dr, da, dz⟩ :: t1) = false) := by
                  show anC _ = _
                  unfold anC
                  simp [h62]
                clear h62
                go_wp2_with fail
                refine K0.out.cc.mono ?_
                rintro e W1 ⟨rfl, k'⟩
                have K1 : Hid (TY S1 x E (⟨dr, da, dz⟩ :: t1) (sc.fsd fs1) dn w1 y #[.string (bs q), .string ⟨#[]⟩] 96 W1) := k'
                have hx1 := k'.tw.lt
                have hy1 := k'.lt
                clear k'
                go_wp2_with fail
                refine K1.out.cc.mono ?_
                rintro e W2 ⟨rfl, k'⟩
                have K2 : Hid (TY S1 x E (⟨dr, da, dz⟩ :: t1) (sc.fsd fs1) dn w1 y #[.string (bs q), .string ⟨#[]⟩] 96 W2) := k'
                have hx2 := k'.tw.lt
                have hy2 := k'.lt
                clear k'
                go_wp2_with fail
                refine (G7.rblank_any dr _).mono ?_
                rintro e w0 ⟨rfl, hw0⟩
                rw [hw0]
                clear hw0
                go_wp2_with fail
                refine K2.out.cc.mono ?_
                rintro e W3 ⟨rfl, k'⟩
                have K3 : Hid (TY S1 x E (⟨dr, da, dz⟩ :: t1) (sc.fsd fs1) dn w1 y #[.string (bs q), .string ⟨#[]⟩] 96 W3) := k'
                have hx3 := k'.tw.lt
                have hy3 := k'.lt
                clear k'
                go_wp2_with fail
                refine K3.out.cc.mono ?_
                rintro e W4 ⟨rfl, k'⟩
                have K4 : Hid (TY S1 x E (⟨dr, da, dz⟩ :: t1) (sc.fsd fs1) dn w1 y #[.string (bs q), .string ⟨#[]⟩] 96 W4) := k'
                have hx4 := k'.tw.lt
                have hy4 := k'.lt
                clear k'
                go_wp2_with fail
                go_meet
                case rel => exact ⟨by rw [HTS.out], K4.out⟩
              · have g62 : (dr != 62) = true := by simp [h62]
                by_cases h61 : dr = 61
                · have g61 : (dr != 61) = false := by simp [h61]
                  have HTS : Hid (tst anC (⟨dr, da, dz⟩ :: t1) = false) := by
                    show anC _ = _
                    unfold anC
                    simp [h61]
                  clear h61
                  go_wp2_with fail
                  refine K0.out.cc.mono ?_
                  rintro e W1 ⟨rfl, k'⟩
                  have K1 : Hid (TY S1 x E (⟨dr, da, dz⟩ :: t1) (sc.fsd fs1) dn w1 y #[.string (bs q), .string ⟨#[]⟩] 96 W1) := k'
                  have hx1 := k'.tw.lt
                  have hy1 := k'.lt
                  clear k'
                  go_wp2_with fail
                  refine K1.out.cc.mono ?_
                  rintro e W2 ⟨rfl, k'⟩
                  have K2 : Hid (TY S1 x E (⟨dr, da, dz⟩ :: t1) (sc.fsd fs1) dn w1 y #[.string (bs q), .string ⟨#[]⟩] 96 W2) := k'
                  have hx2 := k'.tw.lt
                  have hy2 := k'.lt
                  clear k'
                  go_wp2_with fail
                  refine (G7.rblank_any dr _).mono ?_
                  rintro e w0 ⟨rfl, hw0⟩
                  rw [hw0]
                  clear hw0
                  go_wp2_with fail
                  refine K2.out.cc.mono ?_
                  rintro e W3 ⟨rfl, k'⟩
                  have K3 : Hid (TY S1 x E (⟨dr, da, dz⟩ :: t1) (sc.fsd fs1) dn w1 y #[.string (bs q), .string ⟨#[]⟩] 96 W3) := k'
                  have hx3 := k'.tw.lt
                  have hy3 := k'.lt
                  clear k'
                  go_wp2_with fail
                  refine K3.out.cc.mono ?_
                  rintro e W4 ⟨rfl, k'⟩
                  have K4 : Hid (TY S1 x E (⟨dr, da, dz⟩ :: t1) (sc.fsd fs1) dn w1 y #[.string (bs q), .string ⟨#[]⟩] 96 W4) := k'
                  have hx4 := k'.tw.lt
                  have hy4 := k'.lt
                  clear k'
                  go_wp2_with fail
                  refine K4.out.cc.mono ?_
                  rintro e W5 ⟨rfl, k'⟩
                  have K5 : Hid (TY S1 x E (⟨dr, da, dz⟩ :: t1) (sc.fsd fs1) dn w1 y #[.string (bs q), .string ⟨#[]⟩] 96 W5) := k'
                  have hx5 := k'.tw.lt
                  have hy5 := k'.lt
                  clear k'
                  go_wp2_with fail
                  go_meet
                  case rel => exact ⟨by rw [HTS.out], K5.out⟩
                · have g61 : (dr != 61) = true := by simp [h61]
                  have HTS : Hid (tst anC (⟨dr, da, dz⟩ :: t1) = true) := by
                    show anC _ = _
                    unfold anC
                    simp [hbk', h47, h62, h61]
                  go_wp2_with fail
                  refine K0.out.cc.mono ?_
                  rintro e W1 ⟨rfl, k'⟩
                  have K1 : Hid (TY S1 x E (⟨dr, da, dz⟩ :: t1) (sc.fsd fs1) dn w1 y #[.string (bs q), .string ⟨#[]⟩] 96 W1) := k'
                  have hx1 := k'.tw.lt
                  have hy1 := k'.lt
                  clear k'
                  go_wp2_with fail
                  refine K1.out.cc.mono ?_
                  rintro e W2 ⟨rfl, k'⟩
                  have K2 : Hid (TY S1 x E (⟨dr, da, dz⟩ :: t1) (sc.fsd fs1) dn w1 y #[.string (bs q), .string ⟨#[]⟩] 96 W2) := k'
                  have hx2 := k'.tw.lt
                  have hy2 := k'.lt
                  clear k'
                  go_wp2_with fail
                  refine (G7.rblank_any dr _).mono ?_
                  rintro e w0 ⟨rfl, hw0⟩
                  rw [hw0]
                  clear hw0
                  go_wp2_with fail
                  refine K2.out.cc.mono ?_
                  rintro e W3 ⟨rfl, k'⟩
                  have K3 : Hid (TY S1 x E (⟨dr, da, dz⟩ :: t1) (sc.fsd fs1) dn w1 y #[.string (bs q), .string ⟨#[]⟩] 96 W3) := k'
                  have hx3 := k'.tw.lt
                  have hy3 := k'.lt
                  clear k'
                  go_wp2_with fail
                  refine K3.out.cc.mono ?_
                  rintro e W4 ⟨rfl, k'⟩
                  have K4 : Hid (TY S1 x E (⟨dr, da, dz⟩ :: t1) (sc.fsd fs1) dn w1 y #[.string (bs q), .string ⟨#[]⟩] 96 W4) := k'
                  have hx4 := k'.tw.lt
                  have hy4 := k'.lt
                  clear k'
                  go_wp2_with fail
                  refine K4.out.cc.mono ?_
                  rintro e W5 ⟨rfl, k'⟩
                  have K5 : Hid (TY S1 x E (⟨dr, da, dz⟩ :: t1) (sc.fsd fs1) dn w1 y #[.string (bs q), .string ⟨#[]⟩] 96 W5) := k'
                  have hx5 := k'.tw.lt
                  have hy5 := k'.lt
                  clear k'
                  go_wp2_with fail
                  go_meet
                  case rel => exact ⟨by rw [HTS.out], K5.out⟩
      case rest =>
        obtain ⟨hu, k0⟩ := hcut
        clear K0
        have K0 : Hid (TY S1 x E r1 (sc.fsd fs1) dn w1 y #[.string (bs q), .string ⟨#[]⟩] 96 wc) := k0
        have hxc := k0.tw.lt
        have hyc := k0.lt
        clear k0
        cases ht : tst anC r1 with
        | true =>
          rw [ht] at hu
          subst hu
          obtain ⟨⟨dr, da, dz⟩, t1, rfl, hdc, _, _⟩ := tst_yes ht
          have HST : Hid (NmR sc.fs (⟨cr, ca, cz⟩ :: t) (q ++ enc (lowr dr)) (fs1 ++ if odd dr = true then [(8, da)] else []) t1 ∧ t1.length + 1 ≤ gk) := ⟨HNM.out.1.step hdc, HNM.out.2⟩
          have HB1 : Hid (fs1.length ≤ 900000000 ∨ fs1.length + 1 ≤ 1000000000) := by
            have h1 := HNM.out.1.2.2.2
            have h2 := HPO.out.2
            simp only [List.length_cons] at h1
            exact .inr (by omega)
          obtain ⟨nv, hnv⟩ : ∃ nv, bs q = nv := ⟨_, rfl⟩
          have hnz : nv.size ≤ 400005 := by
            have h1 := HNM.out.1.2.2.1
            have h2 := HPP.out.2.2
            rw [← hnv, bs_size]
            simp only [List.length_cons] at h1
            omega
          have HNV : Hid (bs q = nv) := hnv
          rw [hnv] at K0
          clear hnv ht hdc
          go_wp2_with fail
          refine K0.out.cc.mono ?_
          rintro e W1 ⟨rfl, k'⟩
          have K1 : Hid (TY S1 x E (⟨dr, da, dz⟩ :: t1) (sc.fsd fs1) dn w1 y #[.string nv, .string ⟨#[]⟩] 96 W1) := k'
          have hx1 := k'.tw.lt
          have hy1 := k'.lt
          clear k'
          go_upto_region 9 with fail
          go_cut [64] (fun s wc => s = .bool (odd dr) ∧ W1 = wc)
          case first =>
            have hodd : dr = 34 ∨ dr = 39 ∨ dr = 60 ∨ (dr ≠ 34 ∧ dr ≠ 39 ∧ dr ≠ 60) := by omega
            rcases hodd with hodd | hodd | hodd | hodd
            · have o34 : (dr == 34) = true := by simp; omega
              have HO : Hid (odd dr = true) := by
                show _ = _
                unfold odd
                simp; omega
              clear hodd
              go_wp2_with fail
              go_meet
              case rel => exact ⟨by rw [HO.out], rfl⟩
            · have o34 : (dr == 34) = false := by simp; omega
              have o39 : (dr == 39) = true := by simp; omega
              have HO : Hid (odd dr = true) := by
                show _ = _
                unfold odd
                simp; omega
              clear hodd
              go_wp2_with fail
              go_meet
              case rel => exact ⟨by rw [HO.out], rfl⟩
            · have o34 : (dr == 34) = false := by simp; omega
              have o39 : (dr == 39) = false := by simp; omega
              have o60 : (dr == 60) = true := by simp; omega
              have HO : Hid (odd dr = true) := by
                show _ = _
                unfold odd
                simp; omega
              clear hodd
              go_wp2_with fail
              go_meet
              case rel => exact ⟨by rw [HO.out], rfl⟩
            · have o34 : (dr == 34) = false := by simp; omega
              have o39 : (dr == 39) = false := by simp; omega
              have o60 : (dr == 60) = false := by simp; omega
              have HO : Hid (odd dr = false) := by
                show _ = _
                unfold odd
                simp; omega
              clear hodd
              go_wp2_with fail
              go_meet
              case rel => exact ⟨by rw [HO.out], rfl⟩
          case rest =>
            obtain ⟨hu, rfl⟩ := hcut
            obtain ⟨ob, hob⟩ : ∃ ob, odd dr = ob := ⟨_, rfl⟩
            obtain ⟨fs2, hfs2⟩ : ∃ fs2 : Fs, (fs1 ++ if odd dr = true then [(8, da)] else []) = fs2 := ⟨_, rfl⟩
            rw [hfs2] at HST
            rw [hob] at hu hfs2
            subst hu
            have HF2 : Hid ((fs1 ++ if ob = true then [(8, da)] else []) = fs2) := hfs2
            clear hob hfs2
            go_upto_if 64 with fail
            go_cut [] (fun wc => TY S1 x E (⟨dr, da, dz⟩ :: t1) (sc.fsd fs2) dn w1 y #[.string nv, .string ⟨#[]⟩] 96 wc)
            case first =>
              cases ob with
              | true =>
                go_wp2_with fail
                refine K1.out.ba.mono ?_
                rintro e W2 ⟨rfl, k'⟩
                have K2 : Hid (TY S1 x E (⟨dr, da, dz⟩ :: t1) (sc.fsd fs1) dn w1 y #[.string nv, .string ⟨#[]⟩] 96 W2) := k'
                have hx2 := k'.tw.lt
                have hy2 := k'.lt
                clear k'
                go_wp2_with fail
                refine (K2.out.tfl 8 da (by have := HB1.out; show fs1.length ≤ _; omega)).mono ?_
                rintro e W3 ⟨rfl, k'⟩
                have K3 : Hid (TY S1 x E (⟨dr, da, dz⟩ :: t1) (sc.fsd (fs1 ++ [(8, da)])) dn w1 y #[.string nv, .string ⟨#[]⟩] 96 W3) := k'
                have hx3 := k'.tw.lt
                have hy3 := k'.lt
                clear k'
                go_wp2_with fail
                go_meet
                case rel => rw [← HF2.out]; exact K3.out
              | false =>
                go_wp2_with fail
                go_meet
                case rel => rw [← HF2.out, if_neg (by decide), List.append_nil]; exact K1.out
            case rest =>
              clear K0 K1
              have K0 : Hid (TY S1 x E (⟨dr, da, dz⟩ :: t1) (sc.fsd fs2) dn w1 y #[.string nv, .string ⟨#[]⟩] 96 wc) := hcut
              have hx0 := hcut.tw.lt
              have hy0 := hcut.lt
              clear hcut
              obtain ⟨b0, f0⟩ := K0.out.cell 0 rfl
              go_upto_region 11 with fail
              go_cut [] (fun wc => TY S1 x E (⟨dr, da, dz⟩ :: t1) (sc.fsd fs2) dn w1 y #[.string (bs (q ++ enc (lowr dr))), .string ⟨#[]⟩] 96 wc)
              case first =>
                have hev : (bs (enc (lowr dr))).size ≤ 4 := by rw [bs_size]; exact enc_len _
                obtain ⟨ev, hev2⟩ : ∃ ev, bs (enc (lowr dr)) = ev := ⟨_, rfl⟩
                have HEV : Hid (bs (enc (lowr dr)) = ev) := hev2
                rw [hev2] at hev
                clear hev2
                go_region_with (first
                  | (go_at_call 32; refine ((K0.out.below ((Below.refl _ _).drew)).cc).mono ?_; rintro e wa ⟨rfl, ka⟩; have KA : Hid (TY S1 x E (⟨dr, da, dz⟩ :: t1) (sc.fsd fs2) dn w1 y #[.string nv, .string ⟨#[]⟩] 96 wa) := ka; obtain ⟨ba, fa⟩ := ka.cell 0 rfl; have hxa := ka.tw.lt; have hya := ka.lt; clear ka)
                  | (go_at_call 50; refine (KA.out.lower dr).mono ?_; rintro e wb ⟨rfl, kb⟩; rw [HEV.out]; have KB : Hid (TY S1 x E (⟨dr, da, dz⟩ :: t1) (sc.fsd fs2) dn w1 y #[.string nv, .string ⟨#[]⟩] 96 wb) := kb; obtain ⟨bb, fb⟩ := kb.cell 0 rfl; have hxb := kb.tw.lt; have hyb := kb.lt; clear kb))
                all_goals
                  go_wp2_with fail
                  go_meet
                  case rel =>
                    rw [show bs (q ++ enc (lowr dr)) = nv ++ ev by rw [← bs_app, HNV.out, HEV.out]]
                    exact KB.out.put 0 (.string (nv ++ ev)) rfl
              case rest =>
                have KC : Hid (TY S1 x E (⟨dr, da, dz⟩ :: t1) (sc.fsd fs2) dn w1 y #[.string (bs (q ++ enc (lowr dr))), .string ⟨#[]⟩] 96 wc) := hcut
                have hxd := hcut.tw.lt
                have hyd := hcut.lt
                obtain ⟨a1, a2, a3, a4, _⟩ := hcut.tw.at
                obtain ⟨pq, hpq⟩ : ∃ p, pos E (⟨dr, da, dz⟩ :: t1) = p := ⟨_, rfl⟩
                have KN : Hid (TY S1 x E t1 (sc.fsd fs2) dn w1 y #[.string (bs (q ++ enc (lowr dr))), .string ⟨#[]⟩] 96 (wc.setCell ⟨x, 1, none⟩ (.int .i64 (pq + 1)))) := by
                  show TY _ _ _ _ _ _ _ _ _ _ _
                  rw [← hpq]
                  exact hcut.adv
                rw [hpq] at a1 a3 a4
                clear hcut hpq
                go_wp2_with fail
                go_roundg (gk - 1)
                case measure => have := HST.out.2; omega
                case rel => exact ⟨q ++ enc (lowr dr), fs2, t1, by have := HST.out.2; omega, HST.out.1, KN.out⟩
        | false =>
          rw [ht] at hu
          subst hu
          have HNS : Hid (anameR sc.fs (⟨cr, ca, cz⟩ :: t) = (q, fs1, r1)) := HNM.out.1.stop ht
          clear ht
          obtain ⟨nv, hnv⟩ : ∃ nv, bs q = nv := ⟨_, rfl⟩
          have HNV : Hid (bs q = nv) := hnv
          rw [hnv] at K0
          clear hnv
          cases r1 with
          | nil =>
            have HPF : Hid (P = ((q, []), false, fs1, [])) := by
              show P = _
              rw [← HPP.out.1]
              unfold attrR
              rw [HNS.out]
              rfl
            go_wp2_with fail
            refine K0.out.c0.mono ?_
            rintro e W1 ⟨rfl, k'⟩
            have K1 : Hid (TY S1 x E [] (sc.fsd fs1) dn w1 y #[.string nv, .string ⟨#[]⟩] 96 W1) := k'
            have hx1 := k'.tw.lt
            have hy1 := k'.lt
            clear k'
            obtain ⟨z0, z1, zf0, zf1, hzl, hzy, kz, n0, n1⟩ := attr_end HE.out.1 HE.out.2.1 HE.out.2.2.1 HE.out.2.2.2 K1.out nv ⟨#[]⟩
            obtain ⟨b0, f0⟩ := K1.out.cell 0 rfl
            obtain ⟨b1, f1⟩ := K1.out.cell 1 rfl
            have KZ : Hid (_ ∧ _ ∧ _) := ⟨kz, n0, n1⟩
            clear kz n0 n1
            go_wp2_with fail
            exact bodyPost_ret (results_attr rfl rfl KZ.out.2.1 KZ.out.2.2) rfl ⟨by rw [HPF.out, ← HNV.out]; rfl, by rw [HPF.out]; exact KZ.out.1⟩
          | cons d t1 =>
            obtain ⟨dr, da, dz⟩ := d
            have hd0 : 0 ≤ dr := HPR.out ⟨dr, da, dz⟩ (by simp)
            have gd0 : decide (dr < 0) = false := decide_eq_false (by omega)
            have HPF : Hid ((if hd (skipB (⟨dr, da, dz⟩ :: t1)) = 61 then ((q, (valueR E.N (fs1 ++ dups A q ca) (skipB (⟨dr, da, dz⟩ :: t1)).tail).1), !dup A q, (valueR E.N (fs1 ++ dups A q ca) (skipB (⟨dr, da, dz⟩ :: t1)).tail).2.1, (valueR E.N (fs1 ++ dups A q ca) (skipB (⟨dr, da, dz⟩ :: t1)).tail).2.2) else ((q, []), !dup A q, fs1 ++ dups A q ca, ⟨dr, da, dz⟩ :: t1)) = P) := by
              show _ = P
              rw [← HPP.out.1]
              unfold attrR
              rw [HNS.out]
              rfl
            have HSU : Hid ((⟨dr, da, dz⟩ : Ch) :: t1 <:+ E.L) := HNM.out.1.2.1.trans HPP.out.2.1
            have HBB : Hid (fs1.length + 8 * (t1.length + 1) + 8 ≤ 1000000000) := by
              have h1 := HNM.out.1.2.2.2
              have h2 := HPO.out.2
              have h3 := HNM.out.1.2.1.length_le
              simp only [List.length_cons] at h1 h3
              show _ ≤ _
              omega
            clear hd0 HNM
            go_wp2_with fail
            refine K0.out.cc.mono ?_
            rintro e W1 ⟨rfl, k'⟩
            have K1 : Hid (TY S1 x E (⟨dr, da, dz⟩ :: t1) (sc.fsd fs1) dn w1 y #[.string nv, .string ⟨#[]⟩] 96 W1) := k'
            have hx1 := k'.tw.lt
            have hy1 := k'.lt
            clear k'
            go_wp2_with fail
            go_loopg [9, 10] n (fun g kv iv wr => ∃ (i : Nat) (kb : Bool), iv = .int .i64 i ∧ i + g = n ∧ kv = .bool kb ∧ (kb = !dup (A.take i) q) ∧ TY S1 x E (⟨dr, da, dz⟩ :: t1) (sc.fsd (fs1 ++ dups (A.take i) q ca)) dn w1 y #[.string nv, .string ⟨#[]⟩] 96 wr)
            case atStart => exact ⟨0, true, rfl, by omega, rfl, rfl, by rw [show dups (A.take 0) q ca = [] from rfl, List.append_nil]; exact K1.out⟩
            case round =>
              obtain ⟨i, kb, rfl, hig, rfl, hkb, hk⟩ := hrel
              have HKB : Hid (kb = !dup (A.take i) q) := hkb
              clear K0 K1
              have K0 : Hid (TY S1 x E (⟨dr, da, dz⟩ :: t1) (sc.fsd (fs1 ++ dups (A.take i) q ca)) dn w1 y #[.string nv, .string ⟨#[]⟩] 96 wr) := hk
              have hxr := hk.tw.lt
              have hyr := hk.lt
              have HFL : Hid ((fs1 ++ dups (A.take i) q ca).length ≤ 1000000000) := by
                have h1 := dups_take_few HN.out.2 i q ca
                have h2 := HBB.out
                show _ ≤ _
                rw [List.length_append]
                omega
              clear hkb hk
              cases gk with
              | zero =>
                obtain rfl : i = n := by omega
                have hlt' : decide ((i : Int) < (i : Int)) = false := decide_eq_false (by omega)
                have HTK : Hid (A.take i = A) := List.take_of_length_le (by rw [HN.out.1]; exact Nat.le_refl _)
                rw [HTK.out] at K0 HKB HFL
                obtain ⟨R3, hR3⟩ : ∃ R3, skipB (⟨dr, da, dz⟩ :: t1) = R3 := ⟨_, rfl⟩
                have HR3 : Hid (skipB (⟨dr, da, dz⟩ :: t1) = R3 ∧ R3 <:+ ⟨dr, da, dz⟩ :: t1) := ⟨hR3, by rw [← hR3]; exact skip_suf _⟩
                rw [hR3] at HPF
                clear hR3
                obtain ⟨a1, a2, a3, a4, _⟩ := K0.out.tw.at
                obtain ⟨pb, hpb⟩ : ∃ p, pos E (⟨dr, da, dz⟩ :: t1) = p := ⟨_, rfl⟩
                rw [hpb] at a1 a3 a4
                have HPQ : Hid (pos E (⟨dr, da, dz⟩ :: t1) = pb) := hpb
                clear hpb
                go_wp2_with fail
                go_loopg [110] (t1.length + 1) (fun g _ wr => ∃ r2 : List Ch, r2.length ≤ g ∧ skipB r2 = R3 ∧ TY S1 x E r2 (sc.fsd (fs1 ++ dups A q ca)) dn w1 y #[.string nv, .string ⟨#[]⟩] 96 wr)
                case atStart => exact ⟨_, Nat.le_refl _, HR3.out.1, K0.out⟩
                case round =>
                  obtain ⟨r2, hgl, hr2, hk⟩ := hrel
                  clear K0 a1 a2
                  have K0 : Hid (TY S1 x E r2 (sc.fsd (fs1 ++ dups A q ca)) dn w1 y #[.string nv, .string ⟨#[]⟩] 96 wr) := hk
                  have hxr := hk.tw.lt
                  have hyr := hk.lt
                  by_cases hb : ∃ c t, r2 = c :: t ∧ blk c.r = true
                  · obtain ⟨⟨er, ea, ez⟩, t2, rfl, hb⟩ := hb
                    have HNX : Hid (skipB t2 = R3 ∧ t2.length + 1 ≤ gk) := by
                      rw [skipB_cons, if_pos hb] at hr2
                      exact ⟨hr2, hgl⟩
                    have hb' : blk er = true := hb
                    clear hk hr2 hb hgl
                    go_wp2_with fail
                    refine K0.out.cc.mono ?_
                    rintro e W1 ⟨rfl, k'⟩
                    have K1 : Hid (TY S1 x E (⟨er, ea, ez⟩ :: t2) (sc.fsd (fs1 ++ dups A q ca)) dn w1 y #[.string nv, .string ⟨#[]⟩] 96 W1) := k'
                    have hx1 := k'.tw.lt
                    have hy1 := k'.lt
                    clear k'
                    go_wp2_with fail
                    refine (G7.rblank_any er _).mono ?_
                    rintro e w0 ⟨rfl, hw0⟩
                    rw [hw0]
                    clear hw0
                    obtain ⟨c1, c2, c3, c4, _⟩ := K1.out.tw.at
                    obtain ⟨pq, hpq⟩ : ∃ p, pos E (⟨er, ea, ez⟩ :: t2) = p := ⟨_, rfl⟩
                    have KN : Hid (TY S1 x E t2 (sc.fsd (fs1 ++ dups A q ca)) dn w1 y #[.string nv, .string ⟨#[]⟩] 96 (W1.setCell ⟨x, 1, none⟩ (.int .i64 (pq + 1)))) := by
                      show TY _ _ _ _ _ _ _ _ _ _ _
                      rw [← hpq]
                      exact K1.out.adv
                    rw [hpq] at c1 c3 c4
                    clear hpq
                    go_wp2_with fail
                    go_roundg (gk - 1)
                    case measure => have := HNX.out.2; omega
                    case rel => exact ⟨t2, by have := HNX.out.2; omega, HNX.out.1, KN.out⟩
                  · have HRR : Hid (r2 = R3) := by
                      show r2 = R3
                      cases r2 with
                      | nil => exact hr2
                      | cons c t =>
                        rw [skipB_cons, if_neg fun h => hb ⟨c, t, rfl, h⟩] at hr2
                        exact hr2
                    have hbv : blk (hd r2) = false := by
                      cases r2 with
                      | nil => decide
                      | cons c t =>
                        cases hbb : blk c.r with
                        | false => exact hbb
                        | true => exact absurd ⟨c, t, rfl, hbb⟩ hb
                    clear hb hk hr2 hgl
                    obtain rfl := HRR.out
                    clear HRR
                    obtain ⟨cv, hcv⟩ : ∃ cv, hd r2 = cv := ⟨_, rfl⟩
                    have HCV : Hid (hd r2 = cv) := hcv
                    rw [hcv] at hbv
                    by_cases h61 : cv = 61
                    · have g61 : (cv != 61) = false := by simp [h61]
                      cases r2 with
                      | nil => rw [← hcv] at h61; exact absurd h61 (by decide)
                      | cons e0 t2 =>
                        obtain ⟨er, ea, ez⟩ := e0
                        have HPG : Hid (P = ((q, (valueR E.N (fs1 ++ dups A q ca) t2).1), !dup A q, (valueR E.N (fs1 ++ dups A q ca) t2).2.1, (valueR E.N (fs1 ++ dups A q ca) t2).2.2)) := by
                          have h0 := HPF.out
                          rw [hcv, if_pos h61] at h0
                          exact h0.symm
                        have HT2 : Hid ((∀ d ∈ t2, 0 ≤ d.r) ∧ (fs1 ++ dups A q ca).length + 8 * t2.length + 8 ≤ 1000000000) := by
                          have h1 := HR3.out.2
                          refine ⟨fun d hd => HPR.out d (h1.subset (List.mem_cons_of_mem _ hd)), ?_⟩
                          have h2 := h1.length_le
                          have h3 := dups_few HN.out.2 q ca
                          have h4 := HBB.out
                          rw [List.length_append]
                          simp only [List.length_cons] at h2
                          omega
                        clear hcv h61
                        go_wp2_with fail
                        refine K0.out.c.mono ?_
                        rintro e W1 ⟨rfl, k'⟩
                        have K1 : Hid (TY S1 x E (⟨er, ea, ez⟩ :: t2) (sc.fsd (fs1 ++ dups A q ca)) dn w1 y #[.string nv, .string ⟨#[]⟩] 96 W1) := k'
                        have hx1 := k'.tw.lt
                        have hy1 := k'.lt
                        clear k'
                        rw [HCV.out]
                        go_wp2_with fail
                        refine (G7.rblank_any cv _).mono ?_
                        rintro e w0 ⟨rfl, hw0⟩
                        rw [hw0]
                        clear hw0
                        go_wp2_with fail
                        refine K1.out.c.mono ?_
                        rintro e W2 ⟨rfl, k'⟩
                        have K2 : Hid (TY S1 x E (⟨er, ea, ez⟩ :: t2) (sc.fsd (fs1 ++ dups A q ca)) dn w1 y #[.string nv, .string ⟨#[]⟩] 96 W2) := k'
                        have hx2 := k'.tw.lt
                        have hy2 := k'.lt
                        clear k'
                        rw [HCV.out]
                        obtain ⟨c1, c2, c3, c4, _⟩ := K2.out.tw.at
                        obtain ⟨pq, hpq⟩ : ∃ p, pos E (⟨er, ea, ez⟩ :: t2) = p := ⟨_, rfl⟩
                        have KN : Hid (TY S1 x E t2 (sc.fsd (fs1 ++ dups A q ca)) dn w1 y #[.string nv, .string ⟨#[]⟩] 96 (W2.setCell ⟨x, 1, none⟩ (.int .i64 (pq + 1)))) := by
                          show TY _ _ _ _ _ _ _ _ _ _ _
                          rw [← hpq]
                          exact K2.out.adv
                        rw [hpq] at c1 c3 c4
                        clear hpq
                        go_wp2_with fail
                        refine (KN.out.value HT2.out.1 HT2.out.2).mono ?_
                        rintro e W4 ⟨rfl, k'⟩
                        have K4 : Hid (TY S1 x E (valueR E.N (fs1 ++ dups A q ca) t2).2.2 (sc.fsd (valueR E.N (fs1 ++ dups A q ca) t2).2.1) dn w1 y #[.string nv, .string ⟨#[]⟩] 96 W4) := k'
                        have hx4 := k'.tw.lt
                        have hy4 := k'.lt
                        obtain ⟨d0, d1⟩ := k'.cell 1 rfl
                        obtain ⟨d2, d3⟩ := k'.cell 0 rfl
                        clear k'
                        obtain ⟨vv, hvv⟩ : ∃ vv, bs (valueR E.N (sc.fsd (fs1 ++ dups A q ca)).fs t2).1 = vv := ⟨_, rfl⟩
                        have HVV : Hid (bs (valueR E.N (fs1 ++ dups A q ca) t2).1 = vv) := hvv
                        rw [hvv]
                        clear hvv
                        obtain ⟨W5, hW5⟩ : ∃ W5, W4.setCell ⟨y, 1, none⟩ (.string vv) = W5 := ⟨_, rfl⟩
                        have HW5 : Hid (W4.setCell ⟨y, 1, none⟩ (.string vv) = W5) := hW5
                        have K5 : Hid (TY S1 x E (valueR E.N (fs1 ++ dups A q ca) t2).2.2 (sc.fsd (valueR E.N (fs1 ++ dups A q ca) t2).2.1) dn w1 y #[.string nv, .string vv] 96 W5) := by
                          show TY _ _ _ _ _ _ _ _ _ _ _
                          rw [← hW5]
                          exact K4.out.put 1 (.string vv) rfl
                        clear hW5
                        obtain ⟨z0, z1, zf0, zf1, hzl5, hzy, kz, n0, n1⟩ := attr_end HE.out.1 HE.out.2.1 HE.out.2.2.1 HE.out.2.2.2 K5.out nv vv
                        obtain ⟨b0, f0⟩ := K5.out.cell 0 rfl
                        obtain ⟨b1, f1⟩ := K5.out.cell 1 rfl
                        have KZ : Hid (_ ∧ _ ∧ _) := ⟨kz, n0, n1⟩
                        clear kz n0 n1
                        go_upto_region 30 with fail
                        rw [HW5.out]
                        clear d0 d1 d2 d3
                        go_wp2_with fail
                        exact bodyPost_ret (results_attr rfl rfl KZ.out.2.1 KZ.out.2.2) rfl ⟨by rw [HPG.out, ← HNV.out, ← HVV.out, HKB.out], by rw [HPG.out]; exact KZ.out.1⟩
                    · have g61 : (cv != 61) = true := by simp [h61]
                      have HPG : Hid (P = ((q, []), !dup A q, fs1 ++ dups A q ca, ⟨dr, da, dz⟩ :: t1)) := by
                        have h0 := HPF.out
                        rw [hcv, if_neg h61] at h0
                        exact h0.symm
                      clear hcv h61
                      go_wp2_with fail
                      refine K0.out.c.mono ?_
                      rintro e W1 ⟨rfl, k'⟩
                      have K1 : Hid (TY S1 x E r2 (sc.fsd (fs1 ++ dups A q ca)) dn w1 y #[.string nv, .string ⟨#[]⟩] 96 W1) := k'
                      have hx1 := k'.tw.lt
                      have hy1 := k'.lt
                      clear k'
                      rw [HCV.out]
                      go_wp2_with fail
                      refine (G7.rblank_any cv _).mono ?_
                      rintro e w0 ⟨rfl, hw0⟩
                      rw [hw0]
                      clear hw0
                      go_wp2_with fail
                      refine K1.out.c.mono ?_
                      rintro e W2 ⟨rfl, k'⟩
                      have K2 : Hid (TY S1 x E r2 (sc.fsd (fs1 ++ dups A q ca)) dn w1 y #[.string nv, .string ⟨#[]⟩] 96 W2) := k'
                      have hx2 := k'.tw.lt
                      have hy2 := k'.lt
                      clear k'
                      rw [HCV.out]
                      obtain ⟨c1, c2, c3, c4, _⟩ := K2.out.tw.at
                      have KN0 := K2.out.hop (K2.out.tw.go HSU.out (pos E (⟨dr, da, dz⟩ :: t1)) rfl)
                      rw [HPQ.out] at KN0
                      obtain ⟨W3, hW3⟩ : ∃ W3, W2.setCell ⟨x, 1, none⟩ (.int .i64 pb) = W3 := ⟨_, rfl⟩
                      have HW3 : Hid (W2.setCell ⟨x, 1, none⟩ (.int .i64 pb) = W3) := hW3
                      rw [hW3] at KN0
                      have K3 : Hid (TY S1 x E (⟨dr, da, dz⟩ :: t1) (sc.fsd (fs1 ++ dups A q ca)) dn w1 y #[.string nv, .string ⟨#[]⟩] 96 W3) := KN0
                      clear KN0 hW3
                      obtain ⟨z0, z1, zf0, zf1, hzl5, hzy, kz, n0, n1⟩ := attr_end HE.out.1 HE.out.2.1 HE.out.2.2.1 HE.out.2.2.2 K3.out nv ⟨#[]⟩
                      obtain ⟨b0, f0⟩ := K3.out.cell 0 rfl
                      obtain ⟨b1, f1⟩ := K3.out.cell 1 rfl
                      have KZ : Hid (_ ∧ _ ∧ _) := ⟨kz, n0, n1⟩
                      clear kz n0 n1
                      go_upto_region 27 with fail
                      rw [HW3.out]
                      clear c1 c2 c3 c4
                      go_wp2_with fail
                      exact bodyPost_ret (results_attr rfl rfl KZ.out.2.1 KZ.out.2.2) rfl ⟨by rw [HPG.out, ← HNV.out, HKB.out]; rfl, by rw [HPG.out]; exact KZ.out.1⟩
              | succ g =>
                have hin : i < n := by omega
                have hlt' : decide ((i : Int) < (n : Int)) = true := decide_eq_true (by omega)
                obtain ⟨av, hav⟩ : ∃ av, A[i]? = some av := ⟨_, List.getElem?_eq_getElem (by rw [HN.out.1]; exact hin)⟩
                obtain ⟨bb, off, elo, hbb, q1, _⟩ := (HA.out.keep K0.out.tw.keep).now i av hav
                have HTK : Hid (A.take (i + 1) = A.take i ++ [av]) := take_one hav
                subst elo
                obtain ⟨an, avl⟩ := av
                simp only at q1
                obtain ⟨b0, f0⟩ := K0.out.cell 0 rfl
                have hini : (i : Int) < (n : Int) := by omega
                have hnci : (n : Int) ≤ (cap : Int) := by omega
                clear hav
                by_cases heq : an.data.toList = nv.data.toList
                · have hcm : (an.toList == nv.toList) = true := G9.beq_yes heq
                  have heq2 : an.data.toList = q := by rw [heq, ← HNV.out, bs_list]
                  have HNX : Hid (false = !dup (A.take (i + 1)) q ∧ fs1 ++ dups (A.take (i + 1)) q ca = fs1 ++ dups (A.take i) q ca ++ [(9, ca)]) := by
                    rw [HTK.out, dup_cons, dups_app, dups_one_yes ca (show (⟨an, avl⟩ : At).nm = q from heq2), decide_eq_true (show (⟨an, avl⟩ : At).nm = q from heq2)]
                    exact ⟨by simp, by rw [List.append_assoc]⟩
                  clear heq heq2
                  go_wp2_with fail
                  go_quiet (fail)
                  have K1 : Hid (TY S1 x E (⟨dr, da, dz⟩ :: t1) (sc.fsd (fs1 ++ dups (A.take i) q ca)) dn w1 y #[.string nv, .string ⟨#[]⟩] 96 (wr.drewN nq)) := K0.out.below (G9.below_drewN (Below.refl _ _) nq)
                  go_wp2_with fail
                  refine (K1.out.tfl 9 ca (show (fs1 ++ dups (A.take i) q ca).length ≤ _ from HFL.out)).mono ?_
                  rintro e W2 ⟨rfl, k'⟩
                  have K2 : Hid (TY S1 x E (⟨dr, da, dz⟩ :: t1) (sc.fsd (fs1 ++ dups (A.take i) q ca ++ [(9, ca)])) dn w1 y #[.string nv, .string ⟨#[]⟩] 96 W2) := k'
                  have hx2 := k'.tw.lt
                  have hy2 := k'.lt
                  clear k'
                  go_wp2_with fail
                  go_roundg g
                  case measure => omega
                  case rel =>
                    refine ⟨i + 1, false, by go_num, by omega, rfl, HNX.out.1, ?_⟩
                    rw [HNX.out.2]
                    exact K2.out
                · have hcm : (an.toList == nv.toList) = false := G9.beq_no heq
                  have heq2 : ¬ an.data.toList = q := fun h => heq (by rw [h, ← HNV.out, bs_list])
                  have HNX : Hid (kb = !dup (A.take (i + 1)) q ∧ fs1 ++ dups (A.take (i + 1)) q ca = fs1 ++ dups (A.take i) q ca) := by
                    rw [HTK.out, dup_cons, dups_app, dups_one_no ca (show ¬ (⟨an, avl⟩ : At).nm = q from heq2), decide_eq_false (show ¬ (⟨an, avl⟩ : At).nm = q from heq2)]
                    exact ⟨by rw [HKB.out]; simp, by rw [List.append_nil]⟩
                  clear heq heq2
                  go_wp2_with fail
                  go_quiet (fail)
                  have K1 : Hid (TY S1 x E (⟨dr, da, dz⟩ :: t1) (sc.fsd (fs1 ++ dups (A.take i) q ca)) dn w1 y #[.string nv, .string ⟨#[]⟩] 96 (wr.drewN nq)) := K0.out.below (G9.below_drewN (Below.refl _ _) nq)
                  go_wp2_with fail
                  go_roundg g
                  case measure => omega
                  case rel =>
                    refine ⟨i + 1, kb, by go_num, by omega, rfl, HNX.out.1, ?_⟩
                    rw [HNX.out.2]
                    exact K1.out
end Go.Proofs.Ytkbakbacomidbaa
