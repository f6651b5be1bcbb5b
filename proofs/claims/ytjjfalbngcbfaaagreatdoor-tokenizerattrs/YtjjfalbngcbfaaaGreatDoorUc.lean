/- A row of attributes that came in; the law TokenizerAttrs, walked. -/
import Derived.Test.YtjjfalbngcbfaaaGreatDoorYd
import Derived.ProofKit
import Derived.OpenShut
import Derived.ShutString
import Derived.ChangeOld
import Derived.ChangeMaps
import Derived.Lib.SmallJoins
import Derived.Test.YtjjfalbngcbfaaaGreatDoorUb
import Derived.BigQuiet
import Derived.Laws.Concat
namespace Go.Proofs.YtjjfalbngcbfaaaGreatDoor
open Go.ChangeShapes Go.WideShapes Go.ChangeAt Go.RowKit Go.Joins

theorem cells49 : Tryz.prog.cellsOf 49 = 2 := by kernel_rfl
theorem at_cells {H : Type} {enc : TypeId × Value → H} {W : World} {n : Nat} {cs : List Value} {x : DataW H × List MemPlace} (h : DataW.trod enc Tryz.prog W 0 (fun _ => true) true n 49 cs = some x) :
    ∃ r : At, cs = [.string r.n, .string r.v] ∧ r.n.size ≤ maxLen ∧ r.v.size ≤ maxLen := by
  obtain ⟨y0, y1, m, _, hl, h0, h1⟩ := trod_struct2 Tryz.underlying49 h
  rw [cells49] at hl
  obtain ⟨c0, c1, rfl⟩ : ∃ c0 c1, cs = [c0, c1] := by
    cases cs with
    | nil => simp at hl
    | cons c0 cs =>
      cases cs with
      | nil => simp at hl
      | cons c1 cs =>
        cases cs with
        | nil => exact ⟨c0, c1, rfl⟩
        | cons _ _ => simp at hl
  have k9 : Tryz.prog.cellsOf 9 = 1 := by kernel_rfl
  simp only [k9] at h0 h1
  obtain ⟨s, e0, _, s0⟩ := DataW.trod_string Tryz.underlying9 h0
  obtain ⟨a, e1, _, s1⟩ := DataW.trod_string Tryz.underlying9 h1
  simp at e0 e1
  subst e0 e1
  exact ⟨⟨s, a⟩, rfl, s0, s1⟩
/-- A row of attributes that came in. -/
structure Came (W : World) (lo : Option Addr) (len cap : Nat) (L : List At) : Prop where
  hlen : L.length = len
  row : G9.AtRow W lo L
  fine : ∀ x ∈ L, x.n.size ≤ maxLen ∧ x.v.size ≤ maxLen
  hcap : len ≤ cap
  hmax : cap ≤ maxLen
theorem open_attrs {H : Type} {enc : TypeId × Value → H} {W : World} {n : Nat} {lo : Option Addr} {len cap : Nat} {x : DataW H × List MemPlace} (h : DataW.trod enc Tryz.prog W 0 (fun _ => true) true n 41 [.slice lo len cap] = some x) : ∃ L : List At, Came W lo len cap L := by
  rcases Go.Deep.open_slice Tryz.underlying41 h with ⟨h0, _⟩ | ⟨a, len', cap', m, k, D, Pl, hcs, _, hl, hm, hmm, hxe, hx⟩
  · simp only [List.cons.injEq, Value.slice.injEq, and_true] at h0
    obtain ⟨_, rfl, rfl⟩ := h0
    exact ⟨[], ⟨rfl, G9.AtRow.nil _ _, fun x hx => (by simp at hx), Nat.le_refl _, Nat.zero_le _⟩⟩
  · simp only [List.cons.injEq, Value.slice.injEq, and_true] at hcs
    obtain ⟨rfl, rfl, rfl⟩ := hcs
    rw [if_pos rfl] at hmm
    have each : ∀ i, i < len → ∃ r : At, (W.cell? (a.add (i * 2)) = some (.string r.n) ∧ W.cell? (a.add (i * 2 + 1)) = some (.string r.v)) ∧ r.n.size ≤ maxLen ∧ r.v.size ≤ maxLen := by
      intro i hi
      obtain ⟨cs', h1, h2⟩ := hx i (by omega)
      rw [cells49] at h1
      obtain ⟨_, hlen, hcell⟩ := World.cells?_some h1
      obtain ⟨d, rfl, z1, z2⟩ := at_cells h2
      refine ⟨d, ⟨?_, ?_⟩, z1, z2⟩
      · have := hcell 0 (by omega); rw [Go.Deep.add_add] at this; simpa using this
      · have := hcell 1 (by omega); rw [Go.Deep.add_add] at this; simpa using this
    obtain ⟨f, hf⟩ : ∃ f : Nat → At, ∀ i, i < len → (W.cell? (a.add (i * 2)) = some (.string (f i).n) ∧ W.cell? (a.add (i * 2 + 1)) = some (.string (f i).v)) ∧ (f i).n.size ≤ maxLen ∧ (f i).v.size ≤ maxLen := by
      haveI : Inhabited At := ⟨⟨⟨#[]⟩, ⟨#[]⟩⟩⟩
      exact Go.Deep.choose_lt each
    refine ⟨(List.range len).map f, ⟨by simp, fun i x hx => ?_, fun x hx => ?_, hl, hm⟩⟩
    · have hi : i < len := by have := (List.getElem?_eq_some_iff.1 hx).1; simpa using this
      have hfi : f i = x := by
        rw [List.getElem?_map, List.getElem?_range hi] at hx
        simpa using hx
      obtain ⟨⟨g0, g1⟩, _⟩ := hf i hi
      obtain ⟨b, off, spot⟩ := a
      have hspot : spot = none := by
        have := World.cell?_spot (hf 0 (by omega)).1.1
        simpa [Addr.add] using this
      subst hspot
      rw [Addr.add_lit] at g0 g1
      rw [hfi] at g0 g1
      exact ⟨b, off, rfl, World.block_lt_of_cell? W _ g0, g0, by rw [Nat.add_assoc]; exact g1⟩
    · obtain ⟨i, hi, rfl⟩ := List.mem_map.1 hx
      exact (hf i (by simpa using hi)).2

/-- Plain attributes, no two of one name. -/
def OkL (l : List At) : Prop := (∀ x ∈ l, x.nm.all nameB = true ∧ x.nm ≠ [] ∧ x.vl.all valB = true) ∧ l.Pairwise (fun x y => x.nm ≠ y.nm)
theorem okl_snoc {l : List At} {x : At} (h : OkL l) (h1 : x.nm.all nameB = true) (h2 : x.nm ≠ []) (h3 : x.vl.all valB = true) (h4 : ∀ y ∈ l, y.nm ≠ x.nm) : OkL (l ++ [x]) := by
  refine ⟨fun y hy => ?_, List.pairwise_append.2 ⟨h.2, by simp, fun y hy z hz => ?_⟩⟩
  · rcases List.mem_append.1 hy with hy | hy
    · exact h.1 y hy
    · simp at hy; subst hy; exact ⟨h1, h2, h3⟩
  · simp at hz; subst hz; exact h4 y hy
theorem app_list (a b : ByteArray) : (a ++ b).data.toList = a.data.toList ++ b.data.toList := by simp [ByteArray.data_append]
theorem plain_ok {s : ByteArray} (h : plainB s = true) : s.data.toList.all nameB = true ∧ 0 < s.size ∧ s.size ≤ 200 := by
  unfold plainB at h
  simp only [Bool.and_eq_true, decide_eq_true_eq] at h
  exact ⟨h.1, h.2.1, h.2.2⟩

set_option maxHeartbeats 8000000 in
set_option maxRecDepth 20000 in
theorem attrs_main {w : World} (H : G6.Hi w) (name : ByteArray) (lo : Option Addr) (len cap : Nat) (L : List At) (hL : Came w lo len cap L) (h30 : len ≤ 30) (hpn : plainB name = true) (b0 : UInt8) (n1 : List UInt8) (h0 : name.data.toList = b0 :: n1) (hb0 : 97 ≤ b0.toNat ∧ b0.toNat ≤ 122) : Calls Tryz.prog 7 #[.string name, .slice lo len cap] w fun e w' => e = .returned (.bool true) ∧ Below w.heap.size w w' := by
  have hw0 := H.lt
  have HAW : Hid (∀ w', Below w.heap.size w w' → Calls Tryz.prog 9 #[] w' fun e w2 => e = .returned (.bool true) ∧ Below w'.heap.size w' w2) := fun w' b => awake_any (H.below b hw0)
  have HH : Hid (G6.Hi w) := H
  obtain ⟨hnall, hnpos, hnsz⟩ := plain_ok hpn
  have k19 := fun w => plain_any name w (by omega)
  rw [hpn] at k19
  have hidx : (name[0].toNat : Int) = (b0.toNat : Int) := by
    have h1 := G6.at_i name 0 hnpos
    rw [h0] at h1
    simp at h1
    rw [← h1]
  obtain ⟨bb, hbb⟩ : ∃ bb : Int, (b0.toNat : Int) = bb := ⟨_, rfl⟩
  rw [hbb] at hidx
  have hbr : 97 ≤ bb ∧ bb ≤ 122 := by omega
  have i1 : ((name[0].toNat : Int) == 45) = false := by rw [hidx]; simp; omega
  have i2 : decide ((name[0].toNat : Int) ≥ 48) = true := decide_eq_true (by rw [hidx]; omega)
  have i3 : decide ((name[0].toNat : Int) ≤ 57) = false := decide_eq_false (by rw [hidx]; omega)
  have g1 : decide ((len : Int) > 30) = false := decide_eq_false (by omega)
  have HN : Hid (name.data.toList.all nameB = true ∧ name.data.toList = b0 :: n1 ∧ 97 ≤ b0.toNat ∧ b0.toNat ≤ 122) := ⟨hnall, h0, hb0⟩
  have HL : Hid (Came w lo len cap L) := hL
  have hcap := hL.hcap
  clear H hL hpn h0 hb0 hnall hidx hbr hbb
  go_enter Tryz.func7, Tryz.ntmps7
  go_wp2_with (go_at_call 19; refine (k19 _).mono ?_; rintro e w' ⟨rfl, hw'⟩; obtain rfl := hw'.symm; clear hw')
  go_loopw [5, 6] (fun sv iv wr => ∃ (i : Nat) (s : ByteArray), sv = .string s ∧ iv = .int .i64 i ∧ i ≤ len ∧ s.data.toList = [60] ++ name.data.toList ++ (L.take i).flatMap chunk ∧ s.size ≤ 201 + 404 * i ∧ OkL (L.take i) ∧ Below w.heap.size w wr) (fun _ iv _ => len - (intOf iv).toNat)
  case atStart =>
    refine ⟨0, _, rfl, rfl, Nat.zero_le _, ?_, ?_, ⟨fun x hx => (by simp at hx), by simp⟩, Below.refl _ _⟩
    · rw [app_list]
      simp
    · rw [ByteArray.size_append]
      show 1 + name.size ≤ _
      omega
  case round =>
    obtain ⟨i, s, rfl, rfl, hin, hsl, hsz, hok, hb⟩ := hrel
    have HB : Hid (Below w.heap.size w wr) := hb
    have HS : Hid (s.data.toList = [60] ++ name.data.toList ++ (L.take i).flatMap chunk ∧ OkL (L.take i)) := ⟨hsl, hok⟩
    by_cases hlt : i < len
    · obtain ⟨x, hx⟩ : ∃ x, L[i]? = some x := ⟨_, List.getElem?_eq_getElem (by rw [HL.out.hlen]; exact hlt)⟩
      obtain ⟨gb, off, rfl, hgb, q0, q1⟩ := HL.out.row i x hx
      have q0' := (hb.cell (p := ⟨gb, off + i * 2, none⟩) hgb).trans q0
      have q1' := (hb.cell (p := ⟨gb, off + i * 2 + 1, none⟩) hgb).trans q1
      have hfx := HL.out.fine x (List.mem_of_getElem? hx)
      have HX : Hid (L[i]? = some x) := hx
      obtain ⟨xn, xv⟩ := x
      simp only at q0' q1' hfx
      have hlt' : decide ((i : Int) < (len : Int)) = true := decide_eq_true (by omega)
      have hmx : maxLen ≤ 9223372036854775807 := by unfold maxLen; omega
      have k19x := fun w => plain_any xn w (by omega)
      have HQ : Hid (∀ wr', Below w.heap.size w wr' → wr'.cell? ⟨gb, off + i * 2, none⟩ = some (.string xn) ∧ wr'.cell? ⟨gb, off + i * 2 + 1, none⟩ = some (.string xv)) := fun wr' b' => ⟨(b'.cell (p := ⟨gb, off + i * 2, none⟩) hgb).trans q0, (b'.cell (p := ⟨gb, off + i * 2 + 1, none⟩) hgb).trans q1⟩
      clear hsl hok hx q0 q1 hb
      cases hpx : plainB xn with
      | false =>
        rw [hpx] at k19x
        clear hpx
        go_wp2_with (go_at_call 19; refine (k19x _).mono ?_; rintro e w' ⟨rfl, hw'⟩; obtain rfl := hw'.symm; clear hw')
        go_wp2_with fail
        refine (HAW.out _ (HB.out)).mono ?_
        rintro e w3 ⟨rfl, b3⟩
        have B3 : Hid (Below w.heap.size w w3) := (HB.out).trans (b3.mono (HB.out).size)
        clear b3
        go_wp2_with fail
        go_ret
        exact ⟨rfl, B3.out⟩
      | true =>
        rw [hpx] at k19x
        obtain ⟨hxall, hxpos, hxsz⟩ := plain_ok hpx
        have HP : Hid (xn.data.toList.all nameB = true ∧ 0 < xn.size ∧ xn.size ≤ 200) := ⟨hxall, hxpos, hxsz⟩
        clear hpx hxall
        by_cases hv2 : xv.size ≤ 200
        · have g2 : decide ((xv.size : Int) > 200) = false := decide_eq_false (by omega)
          go_wp2_with (go_at_call 19; refine (k19x _).mono ?_; rintro e w' ⟨rfl, hw'⟩; obtain rfl := hw'.symm; clear hw')
          go_loopw [7] (fun kv wk => ∃ k : Nat, kv = .int .i64 k ∧ k ≤ i ∧ (∀ k' y, k' < k → L[k']? = some y → y.nm ≠ xn.data.toList) ∧ Below w.heap.size w wk) (fun kv _ => i - (intOf kv).toNat)
          case atStart => exact ⟨0, rfl, Nat.zero_le _, fun k' y h => (by omega), HB.out⟩
          case round =>
            obtain ⟨k, rfl, hki, hkd, hbk⟩ := hrel
            have HK : Hid ((∀ k' y, k' < k → L[k']? = some y → y.nm ≠ xn.data.toList) ∧ Below w.heap.size w wr) := ⟨hkd, hbk⟩
            obtain ⟨p0, p1⟩ := HQ.out _ hbk
            have hgk : gb < wr.heap.size := Nat.lt_of_lt_of_le hgb hbk.size
            by_cases hlk : k < i
            · obtain ⟨y, hy⟩ : ∃ y, L[k]? = some y := ⟨_, List.getElem?_eq_getElem (by rw [HL.out.hlen]; omega)⟩
              obtain ⟨gb', off', eg, _, r0, _⟩ := HL.out.row k y hy
              cases eg
              have r0' := (hbk.cell (p := ⟨gb, off + k * 2, none⟩) hgb).trans r0
              have HY : Hid (L[k]? = some y) := hy
              obtain ⟨yn, yv⟩ := y
              simp only at r0'
              have hkl : k < len := by omega
              have hlk' : decide ((k : Int) < (i : Int)) = true := decide_eq_true (by omega)
              cases he : (yn.toList == xn.toList) with
              | true =>
                clear hkd hbk hy r0 q0' q1'
                go_wp2_with fail
                go_quiet (fail)
                go_wp2_with fail
                refine (HAW.out _ (G9.below_drewN HK.out.2 _)).mono ?_
                rintro e w3 ⟨rfl, b3⟩
                have B3 : Hid (Below w.heap.size w w3) := (G9.below_drewN HK.out.2 _).trans (b3.mono (G9.below_drewN HK.out.2 _).size)
                clear b3
                go_wp2_with fail
                go_ret
                exact ⟨rfl, B3.out⟩
              | false =>
                have HD : Hid (yn.data.toList ≠ xn.data.toList) := fun e => by
                  have := G9.beq_yes e
                  rw [he] at this
                  cases this
                clear hkd hbk hy r0 q0' q1'
                go_wp2_with fail
                go_quiet (fail)
                go_wp2_with fail
                go_roundw
                case rel =>
                  refine ⟨k + 1, by go_num, by omega, fun k' y' hk' hy' => ?_, G9.below_drewN HK.out.2 _⟩
                  by_cases ek : k' = k
                  · subst ek
                    have : some y' = some ⟨yn, yv⟩ := hy'.symm.trans HY.out
                    cases this
                    exact HD.out
                  · exact HK.out.1 k' y' (by omega) hy'
                case measure => simp [intOf]; omega
            · obtain rfl : k = i := by omega
              have hlk' : decide ((k : Int) < (k : Int)) = false := decide_eq_false (by omega)
              have HDI : Hid (∀ y ∈ L.take k, y.nm ≠ xn.data.toList) := fun y hy => by
                obtain ⟨k', hk', e⟩ := List.mem_take_iff_getElem.1 hy
                exact hkd k' y (by omega) (by rw [List.getElem?_eq_getElem (by omega), e])
              clear hkd hbk q0' q1' hlk
              go_wp2_with fail
              go_loopw [8] (fun kv wr => ∃ k : Nat, kv = .int .i64 k ∧ k ≤ xv.size ∧ (xv.data.toList.take k).all valB = true ∧ Below w.heap.size w wr) (fun kv _ => xv.size - (intOf kv).toNat)
              case atStart => exact ⟨0, rfl, Nat.zero_le _, rfl, HK.out.2⟩
              case round =>
                obtain ⟨kq, rfl, hkv, hkall, hbv⟩ := hrel
                have HV : Hid ((xv.data.toList.take kq).all valB = true ∧ Below w.heap.size w wr) := ⟨hkall, hbv⟩
                obtain ⟨c0, c1⟩ := HQ.out _ hbv
                have hgv : gb < wr.heap.size := Nat.lt_of_lt_of_le hgb hbv.size
                clear hkall hbv p0 p1 hgk
                by_cases hlv : kq < xv.size
                · have hlv' : decide ((kq : Int) < (xv.size : Int)) = true := decide_eq_true (by omega)
                  obtain ⟨vb, hvb⟩ : ∃ vb : Int, (xv[kq].toNat : Int) = vb := ⟨_, rfl⟩
                  have hr : (32 ≤ vb ∧ vb ≤ 126 ∧ vb ≠ 34 ∧ vb ≠ 38) ∨ (vb < 32) ∨ (126 < vb) ∨ (vb = 34) ∨ (vb = 38) := by omega
                  rcases hr with hr | hr | hr | hr | hr
                  · have HVb : Hid (valB xv[kq] = true) := by
                      show valB xv[kq] = true
                      unfold valB
                      simp
                      omega
                    have fa : decide ((xv[kq].toNat : Int) < 32) = false := decide_eq_false (by omega)
                    have fb : decide (126 < (xv[kq].toNat : Int)) = false := decide_eq_false (by omega)
                    have fc : ((xv[kq].toNat : Int) == 34) = false := by simp; omega
                    have fd : ((xv[kq].toNat : Int) == 38) = false := by simp; omega
                    clear hr hvb
                    go_wp2_with fail
                    go_roundw
                    case rel => exact ⟨kq + 1, by go_num, by omega, by rw [G6.take_snoc' xv kq hlv, List.all_append, HV.out.1]; simp [HVb.out], HV.out.2⟩
                    case measure => simp [intOf]; omega
                  · have fa : decide ((xv[kq].toNat : Int) < 32) = true := decide_eq_true (by omega)
                    clear hr hvb
                    go_wp2_with fail
                    refine (HAW.out _ (HV.out.2)).mono ?_
                    rintro e w3 ⟨rfl, b3⟩
                    have B3 : Hid (Below w.heap.size w w3) := (HV.out.2).trans (b3.mono (HV.out.2).size)
                    clear b3
                    go_wp2_with fail
                    go_ret
                    exact ⟨rfl, B3.out⟩
                  · have fa : decide ((xv[kq].toNat : Int) < 32) = false := decide_eq_false (by omega)
                    have fb : decide (126 < (xv[kq].toNat : Int)) = true := decide_eq_true (by omega)
                    clear hr hvb
                    go_wp2_with fail
                    refine (HAW.out _ (HV.out.2)).mono ?_
                    rintro e w3 ⟨rfl, b3⟩
                    have B3 : Hid (Below w.heap.size w w3) := (HV.out.2).trans (b3.mono (HV.out.2).size)
                    clear b3
                    go_wp2_with fail
                    go_ret
                    exact ⟨rfl, B3.out⟩
                  · have fa : decide ((xv[kq].toNat : Int) < 32) = false := decide_eq_false (by omega)
                    have fb : decide (126 < (xv[kq].toNat : Int)) = false := decide_eq_false (by omega)
                    have fc : ((xv[kq].toNat : Int) == 34) = true := by simp; omega
                    clear hr hvb
                    go_wp2_with fail
                    refine (HAW.out _ (HV.out.2)).mono ?_
                    rintro e w3 ⟨rfl, b3⟩
                    have B3 : Hid (Below w.heap.size w w3) := (HV.out.2).trans (b3.mono (HV.out.2).size)
                    clear b3
                    go_wp2_with fail
                    go_ret
                    exact ⟨rfl, B3.out⟩
                  · have fa : decide ((xv[kq].toNat : Int) < 32) = false := decide_eq_false (by omega)
                    have fb : decide (126 < (xv[kq].toNat : Int)) = false := decide_eq_false (by omega)
                    have fc : ((xv[kq].toNat : Int) == 34) = false := by simp; omega
                    have fd : ((xv[kq].toNat : Int) == 38) = true := by simp; omega
                    clear hr hvb
                    go_wp2_with fail
                    refine (HAW.out _ (HV.out.2)).mono ?_
                    rintro e w3 ⟨rfl, b3⟩
                    have B3 : Hid (Below w.heap.size w w3) := (HV.out.2).trans (b3.mono (HV.out.2).size)
                    clear b3
                    go_wp2_with fail
                    go_ret
                    exact ⟨rfl, B3.out⟩
                · obtain rfl : kq = xv.size := by omega
                  have hlv' : decide (((xv.size : Nat) : Int) < (xv.size : Int)) = false := decide_eq_false (by omega)
                  obtain ⟨hp1, hp2, hp3⟩ := HP.out
                  have a1 := fun (w : World) => run_string_add_sum (P := Tryz.prog) (w := w) ⟨#[32]⟩ xn (by show 1 + xn.size ≤ _; omega)
                  have a2 := fun (w : World) => run_string_add_sum (P := Tryz.prog) (w := w) (⟨#[32]⟩ ++ xn) ⟨#[61, 34]⟩ (by rw [ByteArray.size_append]; show 1 + xn.size + 2 ≤ _; omega)
                  have a3 := fun (w : World) => run_string_add_sum (P := Tryz.prog) (w := w) (⟨#[32]⟩ ++ xn ++ ⟨#[61, 34]⟩) xv (by rw [ByteArray.size_append, ByteArray.size_append]; show 1 + xn.size + 2 + xv.size ≤ _; omega)
                  have a4 := fun (w : World) => run_string_add_sum (P := Tryz.prog) (w := w) (⟨#[32]⟩ ++ xn ++ ⟨#[61, 34]⟩ ++ xv) ⟨#[34]⟩ (by rw [ByteArray.size_append, ByteArray.size_append, ByteArray.size_append]; show 1 + xn.size + 2 + xv.size + 1 ≤ _; omega)
                  have a5 := fun (w : World) => run_string_add_sum (P := Tryz.prog) (w := w) s (⟨#[32]⟩ ++ xn ++ ⟨#[61, 34]⟩ ++ xv ++ ⟨#[34]⟩) (by rw [ByteArray.size_append, ByteArray.size_append, ByteArray.size_append, ByteArray.size_append]; show s.size + (1 + xn.size + 2 + xv.size + 1) ≤ _; omega)
                  have HNX : Hid ((s ++ (⟨#[32]⟩ ++ xn ++ ⟨#[61, 34]⟩ ++ xv ++ ⟨#[34]⟩)).data.toList = [60] ++ name.data.toList ++ (L.take (k + 1)).flatMap chunk ∧ (s ++ (⟨#[32]⟩ ++ xn ++ ⟨#[61, 34]⟩ ++ xv ++ ⟨#[34]⟩)).size ≤ 201 + 404 * (k + 1) ∧ OkL (L.take (k + 1))) := by
                    obtain ⟨hkl, ex⟩ := List.getElem?_eq_some_iff.1 HX.out
                    have et : L.take (k + 1) = L.take k ++ [⟨xn, xv⟩] := by rw [← List.take_append_getElem hkl, ex]
                    refine ⟨?_, ?_, ?_⟩
                    · rw [et, app_list, app_list, app_list, app_list, app_list, HS.out.1, List.flatMap_append]
                      simp [chunk]
                    · rw [ByteArray.size_append, ByteArray.size_append, ByteArray.size_append, ByteArray.size_append, ByteArray.size_append]
                      show s.size + (1 + xn.size + 2 + xv.size + 1) ≤ _
                      omega
                    · rw [et]
                      refine okl_snoc HS.out.2 hp1 ?_ ?_ HDI.out
                      · intro e
                        have e : xn.data.toList = [] := e
                        have : xn.data.toList.length = 0 := by rw [e]; rfl
                        rw [Array.length_toList] at this
                        have h2 : xn.data.size = xn.size := rfl
                        omega
                      · have := HV.out.1
                        rw [List.take_of_length_le (by rw [Array.length_toList]; exact Nat.le_refl _)] at this
                        exact this
                  clear hp1
                  go_wp2_with fail
                  go_quiet (fail)
                  go_wp2_with fail
                  go_roundw
                  case rel => exact ⟨k + 1, _, rfl, by go_num, by omega, HNX.out.1, HNX.out.2.1, HNX.out.2.2, G9.below_drewN HV.out.2 _⟩
                  case measure => simp [intOf]; omega
        · have g2 : decide ((xv.size : Int) > 200) = true := decide_eq_true (by omega)
          go_wp2_with (go_at_call 19; refine (k19x _).mono ?_; rintro e w' ⟨rfl, hw'⟩; obtain rfl := hw'.symm; clear hw')
          go_wp2_with fail
          refine (HAW.out _ (HB.out)).mono ?_
          rintro e w3 ⟨rfl, b3⟩
          have B3 : Hid (Below w.heap.size w w3) := (HB.out).trans (b3.mono (HB.out).size)
          clear b3
          go_wp2_with fail
          go_ret
          exact ⟨rfl, B3.out⟩
    · obtain rfl : i = len := by omega
      have hlt' : decide ((i : Int) < (i : Int)) = false := decide_eq_false (by omega)
      obtain ⟨s2, hs2⟩ : ∃ s2, s ++ (⟨#[62]⟩ : ByteArray) = s2 := ⟨_, rfl⟩
      have hsz2 : s2.size = s.size + 1 := by rw [← hs2, ByteArray.size_append]; rfl
      have e2 : s2.data.toList = tagB name.data.toList L := by
        rw [← hs2, app_list, hsl, List.take_of_length_le (by rw [HL.out.hlen]; exact Nat.le_refl _)]
        rfl
      have hok' : OkL L := by
        rw [List.take_of_length_le (by rw [HL.out.hlen]; exact Nat.le_refl _)] at hok
        exact hok
      have hall := tag_all s2 name L e2 HN.out.1 b0 n1 HN.out.2.1 HN.out.2.2 hok'.1 hok'.2
      have k10 := all_any (HH.out.below hb hw0) s2 0 false false (by omega)
      rw [hall] at k10
      have ha := fun (w : World) => run_string_add_sum (P := Tryz.prog) (w := w) s ⟨#[62]⟩ (by show s.size + 1 ≤ _; omega)
      simp only [hs2] at ha
      clear hsl hok e2 hok' hall HS hsz2
      go_wp2_with fail
      refine k10.mono ?_
      rintro e w1 ⟨oo, T, oc, fo, fc, rfl, hT, _, h1, _, b1⟩
      obtain ⟨t0, t1, rfl, x1, _⟩ := map_two hT
      obtain ⟨g, rfl, hg, tc, hk⟩ := h1.at rfl (i := 0) rfl
      have B1 : Hid (Below w.heap.size w w1) := hb.trans (b1.mono hb.size)
      obtain ⟨⟨tk, tr, tnm, ttx, tao, tn, tcap, ts, tf, tt⟩, A⟩ := t0
      simp only [ptOf, Pt.mk.injEq] at x1
      obtain ⟨rfl, rfl, rfl, rfl, rfl, rfl, rfl, rfl⟩ := x1
      have c0 := tc.c0
      have c1 := tc.c1
      have c2 := tc.c2
      have c3 := tc.c3
      have c4 := tc.c4
      have c5 := tc.c5
      have c6 := tc.c6
      have c7 := tc.c7
      simp only [Nat.zero_mul, Nat.zero_add] at c0 c1 c2 c3 c4 c5 c6 c7
      have hUk : G9.TkOk w1 ⟨2, 0, tnm, ByteArray.empty, lo, i, cap, false, 0, (s2.size : Int)⟩ A := ⟨HL.out.hlen, HL.out.row.below B1.out, by have := HL.out.hmax; have := HL.out.hcap; unfold maxLen at *; show i ≤ _; omega⟩
      have k20 := G9.rsame_any hk.1 hUk
      have heq : G9.Tk.eqb ⟨2, 0, tnm, ByteArray.empty, tao, tn, tcap, false, 0, (s2.size : Int)⟩ ⟨2, 0, tnm, ByteArray.empty, lo, i, cap, false, 0, (s2.size : Int)⟩ A A = true := by
        unfold G9.Tk.eqb
        simp [G9.eqL_iff]
      rw [heq] at k20
      have K20 : Hid (Calls Tryz.prog 20 #[.agg #[.int .i64 2, .int .i64 0, .string tnm, .string ByteArray.empty, .slice tao tn tcap, .bool false, .int .i64 0, .int .i64 (s2.size : Int)], .agg #[.int .i64 2, .int .i64 0, .string tnm, .string ⟨#[]⟩, .slice lo i cap, .bool false, .int .i64 0, .int .i64 (s2.size : Int)]] w1 fun e w' => e = .returned (.bool true) ∧ Below w1.heap.size w1 w') := k20
      clear h1 hT b1 tc hk hUk k20 heq k10 hb
      go_wp2_with fail
      refine Calls.mono K20.out ?_
      rintro e w2 ⟨rfl, b2⟩
      have B2 : Hid (Below w.heap.size w w2) := B1.out.trans (b2.mono B1.out.size)
      clear b2
      go_wp2_with fail
      refine (HAW.out _ (B2.out)).mono ?_
      rintro e w3 ⟨rfl, b3⟩
      have B3 : Hid (Below w.heap.size w w3) := (B2.out).trans (b3.mono (B2.out).size)
      clear b3
      go_wp2_with fail
      go_ret
      exact ⟨rfl, B3.out⟩
end Go.Proofs.YtjjfalbngcbfaaaGreatDoor
