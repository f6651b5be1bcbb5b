/- The scanner reads a reference. -/
import Derived.Test.YtkbakbacomidbaaProg
import Derived.Below
import Derived.BigCall
import Derived.BigQuiet
import Derived.BigRegion
import Derived.Deep.DeepCutAuto
import Derived.Deep.LoopGhost
import Derived.Deep.QuietTactic
import Derived.Deep.RegionHeld3
import Derived.Deep.RegionLaw
import Derived.Deep.RegionWith
import Derived.Deep.Upon
import Derived.Laws.AppendOwn
import Derived.Laws.BytesArg
import Derived.Laws.EntriesVeiled
import Derived.Laws.IdiomStrings
import Derived.Laws.StructEq
import Derived.Lib.AppendStr
import Derived.Lib.RuneBytes
import Derived.Maps.AppendAt
import Derived.Maps.OwnSet
import Derived.OwnWalk
import Derived.ScopeJumps
import Derived.Shelf.Abstract
import Derived.Shelf.Small.Strs
import Derived.Shelf.Strings.Builder1
import Derived.Shelf.Strings.BuilderF
import Derived.Shelf.Strings.BuilderK
import Derived.Shelf.Strings.BuilderRune
import Derived.Shelf.Strings.Prefix
import Derived.StillTailTactics
import Derived.StringKeys
import Derived.WalkArith
import Derived.WalkKit
import Derived.WalkLawsBesides
import Derived.WalkMore
import Derived.WalkSpells
import Derived.Test.YtkbakbacomidbaaZj
import Derived.Test.YtkbakbacomidbaaYa
namespace Go.Proofs.Ytkbakbacomidbaa
open Go.RowKit
theorem ahT_len : ∀ r : List Ch, (ahT r).length ≤ r.length
  | [] => Nat.le_refl _
  | c :: t => by
    unfold ahT
    split
    · simp
    · split
      · simp
      · simp only [List.length_cons]
        have := ahT_len t
        omega
theorem ahead_len (r : List Ch) : (ahead r).length ≤ r.length := by
  cases r with
  | nil => exact Nat.le_refl _
  | cons c t =>
    unfold ahead
    dsimp only
    split
    · simp
    · simp only [List.length_cons]
      have := ahT_len t
      omega
theorem refR_len (attr : Bool) (r : List Ch) : (refR attr r).2.1 ≤ r.length := Nat.le_trans (refP_low attr (ahead r)).1 (ahead_len r)
/-- More blocks are held fast. -/
theorem TW.more {S : Nat → Prop} {x : Nat} {E : Env} {r : List Ch} {sc : Sc} {dn : Bool} {w W : World} (h : TW S x E r sc dn w W) (P : Nat → Prop) (hl : ∀ k, P k → k < W.heap.size) (hP : ∀ k, P k → ∃ cur e z, W.heap[k]? = some (.cells cur e z) ∧ e ≠ 56 ∧ e ≠ 64) : TW (fun k => S k ∨ P k) x E r sc dn W W := by
  obtain ⟨fv, h1⟩ := h.tm
  refine ⟨⟨fv, fun k hk => hk.elim (h1.low k) (hl k), fun hk => hk.elim h1.hx fun hp => ?_, h1.suf, h1.few, h1.cap, h1.row.mono fun _ => .inl, h1.blk, h1.fo, fun g hg hk => hk.elim (h1.fout g hg) fun hp => ?_⟩, Keep.refl _ _⟩
  · obtain ⟨cur, e, z, h2, h3, _⟩ := hP x hp
    rw [h1.blk] at h2
    simp at h2
    exact h3 h2.2.1.symm
  · obtain ⟨cur, e, z, h2, _, h4⟩ := hP g hp
    obtain ⟨_, cur', z', h5⟩ := own_blk h1.fo hg
    rw [h5] at h2
    simp at h2
    exact h4 h2.2.1.symm
/-- Fewer blocks are held fast. -/
theorem TW.less {S S' : Nat → Prop} {x : Nat} {E : Env} {r r' : List Ch} {sc sc' : Sc} {dn dn' : Bool} {w W W' : World} (h : TW S x E r sc dn w W) (k : TW S' x E r' sc' dn' W W') (hS : ∀ i, S i → S' i) : TW S x E r' sc' dn' w W' := by
  obtain ⟨fv, h1⟩ := h.tm
  obtain ⟨fv', k1⟩ := k.tm
  have hk := k.keep.sub hS
  exact ⟨⟨fv', fun i hi => k1.low i (hS i hi), h1.hx, k1.suf, k1.few, k1.cap, h1.row.keep hk, k1.blk, k1.fo, fun g hg hi => k1.fout g hg (hS g hi)⟩, h.keep.trans hk⟩
theorem endZ_drop {L r : List Ch} {n : Nat} (hs : r <:+ L) (h0 : n ≠ 0) (hn : n ≤ r.length) : endZ L (r.drop n) = Mc.toAt r (n - 1) := by
  rw [← endZ_suf hs (by rw [List.length_drop]; omega)]
  unfold endZ
  rw [List.length_drop]
  congr 1
  omega
def Sc.faults (sc : Sc) (l : Fs) : Sc := { sc with fs := sc.fs ++ l }
theorem Sc.faults_nil (sc : Sc) : sc.faults [] = sc := by cases sc; simp [Sc.faults]
set_option maxHeartbeats 4000000 in
set_option maxRecDepth 20000 in
theorem tref_any {S : Nat → Prop} {x : Nat} {E : Env} {cr ca cz : Int} {t : List Ch} {sc : Sc} {dn : Bool} {w : World} (h : Tm S x E (⟨cr, ca, cz⟩ :: t) sc dn w) (hpos : ∀ d ∈ (⟨cr, ca, cz⟩ : Ch) :: t, 0 ≤ d.r) (attr : Bool) (hB : sc.fs.length + 3 ≤ 1000000000) :
    Calls Try.prog 35 #[mp x, .bool attr] w fun e w' => e = .returned (.int .i64 (if (refR attr (⟨cr, ca, cz⟩ :: t)).2.1 = 0 then -1 else (refR attr (⟨cr, ca, cz⟩ :: t)).1)) ∧ TW S x E ((⟨cr, ca, cz⟩ :: t : List Ch).drop (refR attr (⟨cr, ca, cz⟩ :: t)).2.1) (sc.faults (Mc.refFaults (⟨cr, ca, cz⟩ :: t) (refR attr (⟨cr, ca, cz⟩ :: t)).2.1 (refR attr (⟨cr, ca, cz⟩ :: t)).2.2)) dn w w' := by
  have K0 : Hid (TW S x E (⟨cr, ca, cz⟩ :: t) sc dn w w) := TW.start h
  have hxw := h.lt
  obtain ⟨hfew, hsuf, _⟩ := K0.out.facts
  have hal := ahead_len (⟨cr, ca, cz⟩ :: t)
  have hrl := hsuf.length_le
  have ka := ahead_any h hpos
  have ko := fun W => G6.rone_any api_refs (bs (ahead (⟨cr, ca, cz⟩ :: t))) attr W (by rw [bs_size]; omega)
  have hrl2 := refR_len attr (⟨cr, ca, cz⟩ :: t)
  have h18 := refP_18 G6.refs attr (ahead (⟨cr, ca, cz⟩ :: t))
  have hco := refP_codes G6.refs attr (ahead (⟨cr, ca, cz⟩ :: t))
  simp only [bs_list] at ko
  have hR : G6.refP G6.refs attr (ahead (⟨cr, ca, cz⟩ :: t)) = refR attr (⟨cr, ca, cz⟩ :: t) := rfl
  rw [hR] at h18 hco
  simp only [hR] at ko
  obtain ⟨o, ho⟩ : ∃ o, refR attr (⟨cr, ca, cz⟩ :: t) = o := ⟨_, rfl⟩
  rw [ho] at h18 hco hrl2 ⊢
  simp only [ho] at ko
  obtain ⟨ro, n, codes⟩ := o
  simp only at h18 hco hrl2 ko ⊢
  obtain ⟨sv, hsv⟩ : ∃ sv, bs (ahead (⟨cr, ca, cz⟩ :: t)) = sv := ⟨_, rfl⟩
  rw [hsv] at ka
  simp only [hsv] at ko
  obtain ⟨nc, hnc⟩ : ∃ nc, codes.length = nc := ⟨_, rfl⟩
  have HC : Hid (codes.length = nc ∧ nc ≤ 3 ∧ (n = 0 → (18 : Int) ∉ codes) ∧ n ≤ (⟨cr, ca, cz⟩ :: t : List Ch).length ∧ (⟨cr, ca, cz⟩ :: t : List Ch) <:+ E.L ∧ sc.fs.length + 3 ≤ 1000000000) := ⟨hnc, by omega, h18, hrl2, hsuf, hB⟩
  have hn5 : n ≤ 100000 := by omega
  obtain ⟨R, hRr⟩ : ∃ R, (if n = 0 then -1 else ro : Int) = R := ⟨_, rfl⟩
  have HR : Hid ((if n = 0 then -1 else ro : Int) = R) := hRr
  rw [hRr]
  have HKA : Hid (∀ W, TW S x E (⟨cr, ca, cz⟩ :: t) sc dn w W → Calls Try.prog 43 #[mp x] W fun e w' => e = .returned (.string sv) ∧ TW S x E (⟨cr, ca, cz⟩ :: t) sc dn w w') := fun W hW => by
    refine (ahead_any hW.tm hpos).mono ?_
    rintro e w' ⟨rfl, k'⟩
    exact ⟨by rw [hsv], hW.trans k'⟩
  obtain ⟨nn, hnn⟩ : ∃ nn : Int, (n : Int) = nn := ⟨_, rfl⟩
  have HNN : Hid ((n : Int) = nn) := hnn
  have hnn0 : 0 ≤ nn := by omega
  have hnn1 : nn ≤ 100000 := by omega
  clear hnn hn5 h hfew hsuf hal hrl ka hrl2 h18 hco hR ho hsv hnc hRr hpos hB
  go_enter Try.func35, Try.ntmps35
  go_wp2_with fail
  refine K0.out.ba.mono ?_
  rintro e W1 ⟨rfl, k'⟩
  have K1 : Hid (TW S x E (⟨cr, ca, cz⟩ :: t) sc dn w W1) := k'
  have hx1 := k'.lt
  clear k'
  go_wp2_with fail
  refine (HKA.out _ K1.out).mono ?_
  rintro e W2 ⟨rfl, k'⟩
  have K2 : Hid (TW S x E (⟨cr, ca, cz⟩ :: t) sc dn w W2) := k'
  have hx2 := k'.lt
  clear k'
  go_wp2_with fail
  refine (ko _).mono ?_
  rintro e W3 ⟨v, rfl, hcd, b3⟩
  have K3 : Hid (TW S x E (⟨cr, ca, cz⟩ :: t) sc dn w W3) := K2.out.below b3
  have hx3 := K3.out.lt
  have how : OwnQ W3 false 3 1 v codes.length (codes.map (Value.int .i64)) := OwnQ.of hcd
  rw [HC.out.1] at how
  obtain ⟨ao, cap, rfl, hcc1, hcc2⟩ := own_form how
  have HOW : Hid (OwnQ W3 false 3 1 (.slice ao nc cap) nc (codes.map (Value.int .i64))) := how
  have hnc3 := HC.out.2.1
  clear hcd b3 how ko HKA
  simp only
  rw [HNN.out]
  obtain ⟨D, hD⟩ : ∃ D, (⟨cr, ca, cz⟩ :: t : List Ch).drop n = D := ⟨_, rfl⟩
  have HD : Hid ((⟨cr, ca, cz⟩ :: t : List Ch).drop n = D) := hD
  obtain ⟨RF, hRF⟩ : ∃ RF, Mc.refFaults (⟨cr, ca, cz⟩ :: t) n codes = RF := ⟨_, rfl⟩
  have HRF : Hid (Mc.refFaults (⟨cr, ca, cz⟩ :: t) n codes = RF) := hRF
  obtain ⟨SS, hSS⟩ : ∃ SS : Nat → Prop, (fun k => S k ∨ (Value.slice ao nc cap).ownBlock = some k) = SS := ⟨_, rfl⟩
  have HSS : Hid ((fun k => S k ∨ (Value.slice ao nc cap).ownBlock = some k) = SS) := hSS
  clear hD hRF hSS
  go_upto_if 21 with fail
  go_cut [] (fun wc => TW S x E D sc dn w wc ∧ OwnQ wc false 3 1 (.slice ao nc cap) nc (codes.map (Value.int .i64)))
  case first =>
    by_cases hn0 : n = 0
    · have gn : ¬ (0 < nn) := by have := HNN.out; omega
      have K4 : Hid (TW S x E D sc dn w W3) := by show TW _ _ _ _ _ _ _ _; rw [← HD.out, hn0]; exact K3.out
      clear hn0
      go_wp2_with fail
      go_meet
      case rel => exact ⟨K4.out, HOW.out⟩
    · have gn : 0 < nn := by have := HNN.out; omega
      obtain ⟨a1, a2, a3, a4, _⟩ := K3.out.at
      have HP4 : Hid (pos E D = pos E (⟨cr, ca, cz⟩ :: t) + n) := by
        have := HC.out.2.2.2.1
        show _ = _
        rw [← HD.out]
        unfold pos
        rw [List.length_drop]
        omega
      obtain ⟨p3, hp3⟩ : ∃ p, pos E (⟨cr, ca, cz⟩ :: t) = p := ⟨_, rfl⟩
      rw [hp3] at a1 a3 a4
      have hwr : IntKind.i64.wrap (p3 + nn) = p3 + nn := by rw [IntKind.wrap_i64]; omega
      have K4 : Hid (TW S x E D sc dn w (W3.setCell ⟨x, 1, none⟩ (.int .i64 (p3 + nn)))) := K3.out.go (by rw [← HD.out]; exact (List.drop_suffix _ _).trans HC.out.2.2.2.2.1) (p3 + nn) (by rw [HP4.out, hp3, HNN.out])
      have HO4 : Hid (OwnQ (W3.setCell ⟨x, 1, none⟩ (.int .i64 (p3 + nn))) false 3 1 (.slice ao nc cap) nc (codes.map (Value.int .i64))) := by
        refine own_mv HOW.out fun g hg => Below.heap_setCell _ _ _ _ fun e => ?_
        obtain ⟨fv, h1⟩ := K3.out.tm
        obtain ⟨_, cur, z, h2⟩ := own_blk HOW.out hg
        rw [e, h1.blk] at h2
        simp at h2
      clear hn0 hp3
      go_wp2_with fail
      go_meet
      case rel => exact ⟨K4.out, HO4.out⟩
  case rest =>
    obtain ⟨k4, ho4⟩ := hcut
    have K4 : Hid (TW S x E D sc dn w wc) := k4
    have HO4 : Hid (OwnQ wc false 3 1 (.slice ao nc cap) nc (codes.map (Value.int .i64))) := ho4
    have hx4 := k4.lt
    clear k4 ho4 K3 HOW
    have HM : Hid (TW SS x E D (sc.faults (RF.take 0)) dn wc wc) := by
      have := K4.out.more (fun k => (Value.slice ao nc cap).ownBlock = some k) (fun k hk => (own_blk HO4.out hk).1) (fun k hk => by
        obtain ⟨_, cur, z, h2⟩ := own_blk HO4.out hk
        exact ⟨cur, 3, z, h2, by decide, by decide⟩)
      show TW _ _ _ _ _ _ _ _
      rw [List.take_zero, Sc.faults_nil, ← HSS.out]
      exact this
    have HCELL : Hid (∀ (i : Nat) (kd : Int), codes[i]? = some kd → ∃ g, ao = some ⟨g, 0, none⟩ ∧ g < (wc).heap.size ∧ ∀ W, Keep SS wc W → W.cell? ⟨g, i, none⟩ = some (.int .i64 kd)) := fun i kd hkd => by
      rcases HO4.out.2 with ⟨e, h0⟩ | ⟨g, cap', cur, z, e, hg, _, _, _, _, h4⟩
      · have h1 := (List.getElem?_eq_some_iff.1 hkd).1
        have h2 := HC.out.1
        omega
      · simp only [Value.slice.injEq] at e
        obtain ⟨rfl, _, _⟩ := e
        have hgl := (Array.getElem?_eq_some_iff.1 hg).1
        refine ⟨g, rfl, hgl, fun W hW => ?_⟩
        have hb := hW.block g (by rw [← HSS.out]; exact .inr rfl) hgl
        have hq : (codes.map (Value.int .i64))[i]? = some (.int .i64 kd) := by rw [List.getElem?_map, hkd]; rfl
        have h4' : cur.toList.take (nc * 1) = codes.map (Value.int .i64) := h4
        rw [← h4', List.getElem?_take_of_lt (by have h1 := (List.getElem?_eq_some_iff.1 hkd).1; have h2 := HC.out.1; omega), Array.getElem?_toList] at hq
        simp [World.cell?, hb, hg, hq]
    go_wp2_with fail
    go_loopw [9] (fun iv wr => ∃ i : Nat, iv = .int .i64 i ∧ i ≤ nc ∧ TW SS x E D (sc.faults (RF.take i)) dn wc wr) (fun iv _ => nc - (intOf iv).toNat)
    case atStart => exact ⟨0, rfl, Nat.zero_le _, HM.out⟩
    case round =>
      obtain ⟨i, rfl, hin, hk⟩ := hrel
      have hxr := hk.lt
      by_cases hlt : i < nc
      · obtain ⟨kd, hkd⟩ : ∃ kd, codes[i]? = some kd := ⟨_, List.getElem?_eq_getElem (by rw [HC.out.1]; exact hlt)⟩
        obtain ⟨g, hao, hgw, hcell⟩ := HCELL.out i kd hkd
        have HCi : Hid (∀ W, Keep SS wc W → W.cell? ⟨g, i, none⟩ = some (.int .i64 kd)) := hcell
        have q0 := hcell wr hk.keep
        have hgr : g < wr.heap.size := Nat.lt_of_lt_of_le hgw hk.keep.size
        have hlt' : decide ((i : Int) < (nc : Int)) = true := decide_eq_true (by omega)
        have hii : (i : Int) < (nc : Int) := by omega
        have HFi : Hid ((sc.faults (RF.take i)).fs.length ≤ 1000000000) := by
          have h5 : (RF.take i).length ≤ 3 := by
            rw [List.length_take]
            have := HC.out.2.1
            omega
          show (sc.fs ++ _).length ≤ _
          rw [List.length_append]
          have := HC.out.2.2.2.2.2
          omega
        have HT : Hid (RF.take (i + 1) = RF.take i ++ [(kd, if kd = 18 then Mc.toAt (⟨cr, ca, cz⟩ :: t) (n - 1) else ca)]) := by
          show _ = _
          rw [List.take_add_one]
          congr 1
          rw [← HRF.out]
          unfold Mc.refFaults
          rw [List.getElem?_map, hkd]
          rfl
        have K5 : Hid (TW SS x E D (sc.faults (RF.take i)) dn wc wr) := hk
        subst hao
        by_cases h18 : kd = 18
        · have HZ : Hid (n ≠ 0 ∧ endZ E.L D = Mc.toAt (⟨cr, ca, cz⟩ :: t) (n - 1)) := by
            have hn0 : n ≠ 0 := fun e => HC.out.2.2.1 e (by rw [← h18]; exact List.mem_of_getElem? hkd)
            exact ⟨hn0, by rw [← HD.out]; exact endZ_drop HC.out.2.2.2.2.1 hn0 HC.out.2.2.2.1⟩
          have HN : Hid (∀ W, TW SS x E D ((sc.faults (RF.take i)).fault kd (Mc.toAt (⟨cr, ca, cz⟩ :: t) (n - 1))) dn wc W → TW SS x E D (sc.faults (RF.take (i + 1))) dn wc W) := fun W hW => by
            rw [HT.out, if_pos h18]
            simpa [Sc.faults, Sc.fault] using hW
          have g1 : (kd == 18) = true := by simp [h18]
          have hk0 := hk.below ((Below.refl _ _).drew)
          have hl : D.length < E.L.length := by
            have h1 := HC.out.2.2.2.2.1.length_le
            have h2 := HZ.out.1
            rw [← HD.out, List.length_drop]
            simp at h1 ⊢
            omega
          obtain ⟨z, hz⟩ : ∃ z, Mc.toAt (⟨cr, ca, cz⟩ :: t) (n - 1) = z := ⟨_, rfl⟩
          have HE : Hid (∀ W, TW SS x E D (sc.faults (RF.take i)) dn wc W → Calls Try.prog 36 #[mp x] W fun e w' => e = .returned (.int .i64 z) ∧ TW SS x E D (sc.faults (RF.take i)) dn wc w') := fun W hW => by
            rw [← hz, ← HZ.out.2]
            exact hW.endz hl
          have HFt : Hid (∀ W, TW SS x E D (sc.faults (RF.take i)) dn wc W → Calls Try.prog 44 #[mp x, .int .i64 kd, .int .i64 z] W fun e w' => e = .returned (.tuple #[]) ∧ TW SS x E D (sc.faults (RF.take (i + 1))) dn wc w') := fun W hW => by
            refine (tfault_any hW.tm kd z HFi.out).mono ?_
            rintro e w' ⟨rfl, k'⟩
            refine ⟨rfl, HN.out _ ?_⟩
            rw [hz]
            exact hW.trans k'
          clear hk hcell hkd h18 hl hz
          go_wp2_with fail
          go_region_held3 (fun w' => w'.cell? ⟨g, i, none⟩ = some (.int .i64 kd))
            (first | assumption | go_keep)
            (first
              | (go_at_call 36; refine (HE.out _ (by assumption)).mono ?_; rintro e w' ⟨rfl, hkk⟩; have hcc := HCi.out _ hkk.keep)
              | (go_at_call 44; refine (HFt.out _ (by assumption)).mono ?_; rintro e w'' ⟨rfl, hkk2⟩; have hcc2 := HCi.out _ hkk2.keep))
          have K6 : Hid (TW SS x E D (sc.faults (RF.take (i + 1))) dn wc w'') := by assumption
          clear hkk hcc hcc2 hkk2 hk0
          go_wp2_with fail
          go_roundw
          case rel => exact ⟨i + 1, by go_num, by omega, K6.out⟩
          case measure => simp [intOf]; omega
        · have HN : Hid (∀ W, TW SS x E D ((sc.faults (RF.take i)).fault kd ca) dn wc W → TW SS x E D (sc.faults (RF.take (i + 1))) dn wc W) := fun W hW => by
            rw [HT.out, if_neg h18]
            simpa [Sc.faults, Sc.fault] using hW
          have g1 : (kd == 18) = false := by simp [h18]
          clear hk hcell hkd h18
          go_wp2_with fail
          refine (tfault_any K5.out.tm kd ca HFi.out).mono ?_
          rintro e W6 ⟨rfl, k'⟩
          have K6 : Hid (TW SS x E D (sc.faults (RF.take (i + 1))) dn wc W6) := HN.out _ (K5.out.trans k')
          clear k'
          go_wp2_with fail
          go_roundw
          case rel => exact ⟨i + 1, by go_num, by omega, K6.out⟩
          case measure => simp [intOf]; omega
      · obtain rfl : i = nc := by omega
        have hlt' : decide ((i : Int) < (i : Int)) = false := decide_eq_false (by omega)
        have K7 : Hid (TW S x E D (sc.faults RF) dn w wr) := by
          have := TW.less K4.out hk (fun _ h => by rw [← HSS.out]; exact .inl h)
          rw [List.take_of_length_le (by rw [← HRF.out]; unfold Mc.refFaults; rw [List.length_map, HC.out.1]; exact Nat.le_refl _)] at this
          exact this
        clear hk
        by_cases hn0 : n = 0
        · have gn2 : (nn == 0) = true := by have := HNN.out; simp; omega
          have HRR : Hid (R = -1) := by show R = -1; rw [← HR.out, if_pos hn0]
          clear hn0
          go_wp2_with fail
          go_ret
          exact ⟨by rw [HRR.out]; rfl, by rw [HD.out, HRF.out]; exact K7.out⟩
        · have gn2 : (nn == 0) = false := by have := HNN.out; simp; omega
          have HRR : Hid (R = ro) := by show R = ro; rw [← HR.out, if_neg hn0]
          clear hn0
          go_wp2_with fail
          go_ret
          exact ⟨by rw [HRR.out]; rfl, by rw [HD.out, HRF.out]; exact K7.out⟩
end Go.Proofs.Ytkbakbacomidbaa
namespace Go.Proofs.Ytkbakbacomidbaa
open Go.RowKit
theorem numB_nn (k base : Nat) (l : List UInt8) : 0 ≤ (G6.numB k base l).1 := by
  unfold G6.numB
  split
  · exact Int.le_refl _
  · split
    · exact Int.le_of_lt (G6.chrP_ok _).1
    · exact Int.le_of_lt (G6.chrP_ok _).1
theorem refR_nn (attr : Bool) (r : List Ch) : 0 ≤ (refR attr r).1 := by
  unfold refR G6.refP
  split
  · unfold G6.numbP
    split <;> exact numB_nn _ _ _
  · split
    · unfold G6.namedP
      have := (G6.best_fine api_refs.fine ((ahead r).drop 1) ((ahead r).drop 1).length).1
      split
      · split <;> exact Int.le_refl _
      · split
        · exact this
        · split
          · exact Int.le_refl _
          · exact this
    · exact Int.le_refl _
def Sc.fsd (sc : Sc) (l : Fs) : Sc := { sc with fs := l }
theorem TW.tref {S : Nat → Prop} {x : Nat} {E : Env} {cr ca cz : Int} {t : List Ch} {sc : Sc} {dn : Bool} {w W : World} (h : TW S x E (⟨cr, ca, cz⟩ :: t) sc dn w W) (hpos : ∀ d ∈ (⟨cr, ca, cz⟩ : Ch) :: t, 0 ≤ d.r) (attr : Bool) (hB : sc.fs.length + 3 ≤ 1000000000) :
    Calls Try.prog 35 #[mp x, .bool attr] W fun e w' => e = .returned (.int .i64 (if (refR attr (⟨cr, ca, cz⟩ :: t)).2.1 = 0 then -1 else (refR attr (⟨cr, ca, cz⟩ :: t)).1)) ∧ TW S x E ((⟨cr, ca, cz⟩ :: t : List Ch).drop (refR attr (⟨cr, ca, cz⟩ :: t)).2.1) (sc.faults (Mc.refFaults (⟨cr, ca, cz⟩ :: t) (refR attr (⟨cr, ca, cz⟩ :: t)).2.1 (refR attr (⟨cr, ca, cz⟩ :: t)).2.2)) dn w w' := by
  refine (tref_any h.tm hpos attr hB).mono ?_
  rintro e w' ⟨rfl, k'⟩
  exact ⟨rfl, h.trans k'⟩
set_option maxHeartbeats 4000000 in
set_option maxRecDepth 20000 in
theorem piece_any {S : Nat → Prop} {x : Nat} {E : Env} {cr ca cz : Int} {t : List Ch} {sc : Sc} {dn : Bool} {w : World} (h : Tm S x E (⟨cr, ca, cz⟩ :: t) sc dn w) (hpos : ∀ d ∈ (⟨cr, ca, cz⟩ : Ch) :: t, 0 ≤ d.r) (hB : sc.fs.length + 3 ≤ 1000000000) :
    Calls Try.prog 74 #[mp x] w fun e w' => e = .returned (.string (bs (pieceR (⟨cr, ca, cz⟩ :: t) sc.fs).1)) ∧ TW S x E (pieceR (⟨cr, ca, cz⟩ :: t) sc.fs).2.2 (sc.fsd (pieceR (⟨cr, ca, cz⟩ :: t) sc.fs).2.1) dn w w' := by
  have K0 : Hid (TW S x E (⟨cr, ca, cz⟩ :: t) sc dn w w) := TW.start h
  have hxw := h.lt
  obtain ⟨PR, hPR⟩ : ∃ PR, pieceR (⟨cr, ca, cz⟩ :: t) sc.fs = PR := ⟨_, rfl⟩
  have HPR : Hid (pieceR (⟨cr, ca, cz⟩ :: t) sc.fs = PR) := hPR
  have HPO : Hid ((∀ d ∈ (⟨cr, ca, cz⟩ : Ch) :: t, 0 ≤ d.r) ∧ sc.fs.length + 3 ≤ 1000000000) := ⟨hpos, hB⟩
  rw [hPR]
  clear hPR h hpos hB
  by_cases h38 : cr = 38
  · have g0 : (cr == 38) = true := by simp [h38]
    have hnn := refR_nn true (⟨cr, ca, cz⟩ :: t)
    have HCR : Hid (cr = 38) := h38
    clear h38
    by_cases hn0 : (refR true (⟨cr, ca, cz⟩ :: t)).2.1 = 0
    · have HN : Hid (PR = (enc cr, sc.fs ++ Mc.refFaults (⟨cr, ca, cz⟩ :: t) (refR true (⟨cr, ca, cz⟩ :: t)).2.1 (refR true (⟨cr, ca, cz⟩ :: t)).2.2, t)) := by
        show PR = _
        rw [← HPR.out]
        unfold pieceR
        dsimp only
        rw [if_pos HCR.out, if_pos hn0]
      have kr := fun W (hW : TW S x E (⟨cr, ca, cz⟩ :: t) sc dn w W) => hW.tref HPO.out.1 true HPO.out.2
      simp only [if_pos hn0] at kr
      obtain ⟨FF, hFF⟩ : ∃ FF, sc.faults (Mc.refFaults (⟨cr, ca, cz⟩ :: t) (refR true (⟨cr, ca, cz⟩ :: t)).2.1 (refR true (⟨cr, ca, cz⟩ :: t)).2.2) = FF := ⟨_, rfl⟩
      have HFF : Hid (FF = sc.fsd PR.2.1 ∧ PR.1 = enc cr ∧ PR.2.2 = t) := ⟨by rw [HN.out, ← hFF]; rfl, by rw [HN.out], by rw [HN.out]⟩
      simp only [hFF] at kr
      simp only [hn0, List.drop_zero] at kr
      clear hn0 hFF
      go_enter Try.func74, Try.ntmps74
      go_wp2_with fail
      refine K0.out.cc.mono ?_
      rintro e W1 ⟨rfl, k'⟩
      have K1 : Hid (TW S x E (⟨cr, ca, cz⟩ :: t) sc dn w W1) := k'
      have hx1 := k'.lt
      clear k'
      go_wp2_with fail
      refine (kr _ K1.out).mono ?_
      rintro e W2 ⟨rfl, k'⟩
      have K2 : Hid (TW S x E (⟨cr, ca, cz⟩ :: t) FF dn w W2) := k'
      have hx2 := k'.lt
      clear k' kr
      go_wp2_with fail
      refine K2.out.cc.mono ?_
      rintro e W3 ⟨rfl, k'⟩
      have K3 : Hid (TW S x E (⟨cr, ca, cz⟩ :: t) FF dn w W3) := k'
      have hx3 := k'.lt
      clear k'
      go_wp2_with fail
      refine (enc_any' cr _).mono ?_
      rintro e W4 ⟨rfl, b4⟩
      have K4 : Hid (TW S x E (⟨cr, ca, cz⟩ :: t) FF dn w W4) := K3.out.below b4
      have hx4 := K4.out.lt
      clear b4
      obtain ⟨a1, a2, a3, a4, _⟩ := K4.out.at
      obtain ⟨p4, hp4⟩ : ∃ p, pos E (⟨cr, ca, cz⟩ :: t) = p := ⟨_, rfl⟩
      have KA : Hid (TW S x E t FF dn w (W4.setCell ⟨x, 1, none⟩ (.int .i64 (p4 + 1)))) := by rw [← hp4]; exact K4.out.adv
      rw [hp4] at a1 a3 a4
      clear hp4
      go_wp2_with fail
      go_ret
      refine ⟨by rw [HFF.out.2.1]; rfl, ?_⟩
      rw [← HFF.out.1, HFF.out.2.2]
      exact KA.out
    · have HN : Hid (PR = (enc (refR true (⟨cr, ca, cz⟩ :: t)).1, sc.fs ++ Mc.refFaults (⟨cr, ca, cz⟩ :: t) (refR true (⟨cr, ca, cz⟩ :: t)).2.1 (refR true (⟨cr, ca, cz⟩ :: t)).2.2, (⟨cr, ca, cz⟩ :: t : List Ch).drop (refR true (⟨cr, ca, cz⟩ :: t)).2.1)) := by
        show PR = _
        rw [← HPR.out]
        unfold pieceR
        dsimp only
        rw [if_pos HCR.out, if_neg hn0]
      have kr := fun W (hW : TW S x E (⟨cr, ca, cz⟩ :: t) sc dn w W) => hW.tref HPO.out.1 true HPO.out.2
      simp only [if_neg hn0] at kr
      obtain ⟨FF, hFF⟩ : ∃ FF, sc.faults (Mc.refFaults (⟨cr, ca, cz⟩ :: t) (refR true (⟨cr, ca, cz⟩ :: t)).2.1 (refR true (⟨cr, ca, cz⟩ :: t)).2.2) = FF := ⟨_, rfl⟩
      obtain ⟨rr, hrr⟩ : ∃ rr, (⟨cr, ca, cz⟩ :: t : List Ch).drop (refR true (⟨cr, ca, cz⟩ :: t)).2.1 = rr := ⟨_, rfl⟩
      obtain ⟨ro, hro⟩ : ∃ ro, (refR true (⟨cr, ca, cz⟩ :: t)).1 = ro := ⟨_, rfl⟩
      have HFF : Hid (FF = sc.fsd PR.2.1 ∧ PR.1 = enc ro ∧ PR.2.2 = rr) := ⟨by rw [HN.out, ← hFF]; rfl, by rw [HN.out, hro], by rw [HN.out, hrr]⟩
      simp only [hFF, hrr, hro] at kr
      rw [hro] at hnn
      clear hn0 hFF hrr hro
      go_enter Try.func74, Try.ntmps74
      go_wp2_with fail
      refine K0.out.cc.mono ?_
      rintro e W1 ⟨rfl, k'⟩
      have K1 : Hid (TW S x E (⟨cr, ca, cz⟩ :: t) sc dn w W1) := k'
      have hx1 := k'.lt
      clear k'
      go_wp2_with fail
      refine (kr _ K1.out).mono ?_
      rintro e W2 ⟨rfl, k'⟩
      have K2 : Hid (TW S x E rr FF dn w W2) := k'
      have hx2 := k'.lt
      clear k' kr
      go_wp2_with fail
      refine (enc_any' ro _).mono ?_
      rintro e W3 ⟨rfl, b4⟩
      have K3 : Hid (TW S x E rr FF dn w W3) := K2.out.below b4
      have hx3 := K3.out.lt
      clear b4
      go_wp2_with fail
      go_ret
      refine ⟨by rw [HFF.out.2.1]; rfl, ?_⟩
      rw [← HFF.out.1, HFF.out.2.2]
      exact K3.out
  · have g0 : (cr == 38) = false := by simp [h38]
    have HN : Hid (PR = (enc cr, sc.fs, t)) := by
      show PR = _
      rw [← HPR.out]
      unfold pieceR
      dsimp only
      rw [if_neg h38]
    clear h38
    go_enter Try.func74, Try.ntmps74
    go_wp2_with fail
    refine K0.out.cc.mono ?_
    rintro e W1 ⟨rfl, k'⟩
    have K1 : Hid (TW S x E (⟨cr, ca, cz⟩ :: t) sc dn w W1) := k'
    have hx1 := k'.lt
    clear k'
    go_wp2_with fail
    refine K1.out.cc.mono ?_
    rintro e W2 ⟨rfl, k'⟩
    have K2 : Hid (TW S x E (⟨cr, ca, cz⟩ :: t) sc dn w W2) := k'
    have hx2 := k'.lt
    clear k'
    go_wp2_with fail
    refine (enc_any' cr _).mono ?_
    rintro e W3 ⟨rfl, b4⟩
    have K3 : Hid (TW S x E (⟨cr, ca, cz⟩ :: t) sc dn w W3) := K2.out.below b4
    have hx3 := K3.out.lt
    clear b4
    obtain ⟨a1, a2, a3, a4, _⟩ := K3.out.at
    obtain ⟨p3, hp3⟩ : ∃ p, pos E (⟨cr, ca, cz⟩ :: t) = p := ⟨_, rfl⟩
    have KA : Hid (TW S x E t sc dn w (W3.setCell ⟨x, 1, none⟩ (.int .i64 (p3 + 1)))) := by rw [← hp3]; exact K3.out.adv
    rw [hp3] at a1 a3 a4
    clear hp3
    go_wp2_with fail
    go_ret
    refine ⟨by rw [HN.out]; rfl, ?_⟩
    rw [HN.out]
    exact KA.out
end Go.Proofs.Ytkbakbacomidbaa
