/- The document's begins, Goes, Longest: over a row of names. -/
import Derived.Test.YtkbakbacomidbaaProg
import Derived.BigQuiet
import Derived.BigRegion
import Derived.Deep.DeepCutAuto
import Derived.Deep.QuietTactic
import Derived.Deep.RegionLaw
import Derived.Laws.AppendOwn
import Derived.Maps.AppendAt
import Derived.Maps.OwnSet
import Derived.Shelf.Small.Strs
import Derived.Shelf.Strings.Builder1
import Derived.Shelf.Strings.BuilderF
import Derived.Shelf.Strings.BuilderK
import Derived.Shelf.Strings.BuilderRune
import Derived.Shelf.Strings.Prefix
import Derived.WalkArith
import Derived.WalkKit
import Derived.WalkLawsBesides
import Derived.WalkMore
import Derived.WalkSpells
import Derived.Test.YtkbakbacomidbaaZm
import Derived.Deep.Upon
namespace Go.Proofs.Ytkbakbacomidbaa.G6
open Go.RowKit
theorem bytes_eq {a b : ByteArray} (h : a.data.toList = b.data.toList) : a = b := by
  obtain ⟨⟨x⟩⟩ := a
  obtain ⟨⟨y⟩⟩ := b
  have : x = y := h
  rw [this]
theorem extract_toList (s : ByteArray) (k : Nat) : (s.extract 0 k).data.toList = s.data.toList.take k := by
  rw [ByteArray.data_extract, Array.toList_extract]
  simp
theorem begins_eq (s t : ByteArray) : ((s.extract 0 t.size).toList == t.toList) = t.data.toList.isPrefixOf s.data.toList := by
  rw [ByteArray.toList_eq, ByteArray.toList_eq, Bool.eq_iff_iff, List.isPrefixOf_iff_prefix, beq_iff_eq]
  have hl : t.data.toList.length = t.size := Array.length_toList
  constructor
  · intro e
    rw [← e, extract_toList]
    exact List.take_prefix _ _
  · intro hp
    rw [extract_toList, ← hl]
    exact (List.prefix_iff_eq_take.1 hp).symm
theorem begins_no {s t : ByteArray} (h : ¬ t.size ≤ s.size) : t.data.toList.isPrefixOf s.data.toList = false := by
  cases hp : t.data.toList.isPrefixOf s.data.toList with
  | false => rfl
  | true =>
    exfalso
    have := (List.isPrefixOf_iff_prefix.1 hp).length_le
    rw [Array.length_toList, Array.length_toList] at this
    exact h this
set_option maxHeartbeats 400000 in
theorem begins_any (s t : ByteArray) (w : World) : Calls Try.prog 69 #[.string s, .string t] w fun e w' => e = .returned (.bool (t.data.toList.isPrefixOf s.data.toList)) ∧ w' = w := by
  by_cases h : t.size ≤ s.size
  · have hb := begins_eq s t
    have hg : decide ((t.size : Int) ≤ (s.size : Int)) = true := decide_eq_true (by omega)
    rw [← hb]
    clear hb
    go_enter Try.func69, Try.ntmps69
    go_wp2_with fail
    go_ret
    exact ⟨rfl, rfl⟩
  · have hg : decide ((t.size : Int) ≤ (s.size : Int)) = false := decide_eq_false (by omega)
    rw [begins_no h]
    go_enter Try.func69, Try.ntmps69
    go_wp2_with fail
    go_ret
    exact ⟨rfl, rfl⟩
set_option maxHeartbeats 1000000 in
theorem rgoes_any {w : World} {ao : Option Addr} {A : List Rf} (n cap : Nat) (s : ByteArray) (ha : RefRow w ao A) (hn : A.length = n) (hn2 : n ≤ 100000) :
    Calls Try.prog 59 #[.slice ao n cap, .string s] w fun e w' => e = .returned (.bool (A.any fun r => s.data.toList.isPrefixOf r.nm)) ∧ w' = w := by
  have HA : Hid (RefRow w ao A ∧ A.length = n) := ⟨ha, hn⟩
  obtain ⟨g, hg0⟩ : ∃ g, (A.any fun r => s.data.toList.isPrefixOf r.nm) = g := ⟨_, rfl⟩
  rw [hg0]
  have HG : Hid ((A.any fun r => s.data.toList.isPrefixOf r.nm) = g) := hg0
  clear ha hn hg0
  go_enter Try.func59, Try.ntmps59
  go_wp2_with fail
  go_loop [5] (fun iv => ∃ i : Nat, iv = .int .i64 i ∧ i ≤ n ∧ (A.take i).any (fun r => s.data.toList.isPrefixOf r.nm) = false) (fun iv => n - (intOf iv).toNat)
  case atStart => exact ⟨0, rfl, Nat.zero_le _, by simp⟩
  case round =>
    obtain ⟨i, rfl, hi, hno⟩ := hrel
    have HNO : Hid ((A.take i).any (fun r => s.data.toList.isPrefixOf r.nm) = false) := hno
    clear hno
    by_cases hin : i < n
    · have hil : i < A.length := by rw [HA.out.2]; exact hin
      obtain ⟨x, hx⟩ : ∃ x, A[i]? = some x := ⟨_, List.getElem?_eq_getElem hil⟩
      obtain ⟨b1, o1, rfl, h1, c1, c2⟩ := HA.out.1 i x hx
      have htk : A.take (i + 1) = A.take i ++ [x] := by
        rw [← List.take_append_getElem hil]
        congr 2
        have := List.getElem?_eq_getElem hil
        rw [hx] at this
        exact (Option.some.inj this).symm
      have hbg := begins_any x.n s w
      obtain ⟨nm, r⟩ := x
      simp only at c1 c2 hbg
      cases hp : s.data.toList.isPrefixOf nm.data.toList with
      | true =>
        rw [hp] at hbg
        have HF : Hid ((A.any fun r => s.data.toList.isPrefixOf r.nm) = true) := List.any_eq_true.2 ⟨⟨nm, r⟩, List.mem_of_getElem? hx, hp⟩
        clear hx htk hil hp
        go_wp2_with fail
        refine hbg.mono ?_
        rintro e w1 ⟨rfl, rfl⟩
        go_wp2_with fail
        go_ret
        rw [show g = true from HG.out.symm.trans HF.out]
        exact ⟨rfl, rfl⟩
      | false =>
        rw [hp] at hbg
        have HF : Hid ((A.take (i + 1)).any (fun r => s.data.toList.isPrefixOf r.nm) = false) := by
          show _ = _
          rw [htk, List.any_append, HNO.out]
          simpa using hp
        clear hx htk hil hp
        go_wp2_with fail
        refine hbg.mono ?_
        rintro e w1 ⟨rfl, rfl⟩
        go_wp2_with fail
        exact ⟨⟨i + 1, by go_num, by omega, HF.out⟩, by simp [intOf]; omega⟩
    · have hg : decide ((i : Int) < (n : Int)) = false := decide_eq_false (by omega)
      have HF : Hid ((A.any fun r => s.data.toList.isPrefixOf r.nm) = false) := by
        have := HNO.out
        rw [List.take_of_length_le (by rw [HA.out.2]; omega)] at this
        exact this
      go_wp2_with fail
      go_ret
      rw [show g = false from HG.out.symm.trans HF.out]
      exact ⟨rfl, rfl⟩
/-- One name more is looked at. -/
def lgStep (s : Path) (acc : Int × Nat) (x : Rf) : Int × Nat := if decide (acc.2 < x.n.size) && x.nm.isPrefixOf s then (x.r, x.n.size) else acc
def lg (A : List Rf) (s : Path) : Int × Nat := A.foldl (lgStep s) (0, 0)
set_option maxHeartbeats 1000000 in
theorem rlong_any {w : World} {ao : Option Addr} {A : List Rf} (n cap : Nat) (s : ByteArray) (ha : RefRow w ao A) (hn : A.length = n) (hn2 : n ≤ 100000) (hz : ∀ x ∈ A, x.n.size ≤ 8) :
    Calls Try.prog 57 #[.slice ao n cap, .string s] w fun e w' => e = .returned (.tuple #[.int .i64 (lg A s.data.toList).1, .int .i64 ((lg A s.data.toList).2 : Nat)]) ∧ Below w.heap.size w w' := by
  have HA : Hid (RefRow w ao A ∧ A.length = n ∧ ∀ x ∈ A, x.n.size ≤ 8) := ⟨ha, hn, hz⟩
  clear ha hn hz
  go_enter Try.func57, Try.ntmps57
  go_wp2_with fail
  go_loopw [6, 7, 8] (fun rv zv iv wr => ∃ (i q : Nat), iv = .int .i64 i ∧ i ≤ n ∧ rv = .int .i64 (lg (A.take i) s.data.toList).1 ∧ zv = .int .i64 ((lg (A.take i) s.data.toList).2 : Nat) ∧ wr = w.drewN q) (fun _ _ iv _ => n - (intOf iv).toNat)
  case atStart => exact ⟨0, 0, rfl, Nat.zero_le _, rfl, rfl, rfl⟩
  case round =>
    obtain ⟨i, q, rfl, hi, rfl, rfl, rfl⟩ := hrel
    obtain ⟨ar, hr⟩ : ∃ ar, (lg (A.take i) s.data.toList).1 = ar := ⟨_, rfl⟩
    obtain ⟨ak, hk⟩ : ∃ ak, (lg (A.take i) s.data.toList).2 = ak := ⟨_, rfl⟩
    rw [hr, hk]
    have HL : Hid (lg (A.take i) s.data.toList = (ar, ak)) := by show _ = _; rw [← hr, ← hk]
    clear hr hk
    by_cases hin : i < n
    · have hil : i < A.length := by rw [HA.out.2.1]; exact hin
      obtain ⟨x, hx⟩ : ∃ x, A[i]? = some x := ⟨_, List.getElem?_eq_getElem hil⟩
      obtain ⟨b1, o1, rfl, h1, c1, c2⟩ := HA.out.1 i x hx
      have hx8 := HA.out.2.2 x (List.mem_of_getElem? hx)
      have hst : lg (A.take (i + 1)) s.data.toList = lgStep s.data.toList (ar, ak) x := by
        have htk : A.take (i + 1) = A.take i ++ [x] := by
          rw [← List.take_append_getElem hil]
          congr 2
          have := List.getElem?_eq_getElem hil
          rw [hx] at this
          exact (Option.some.inj this).symm
        rw [htk, lg, List.foldl_append, ← lg, HL.out]
        rfl
      have hbg := begins_any s x.n
      obtain ⟨nm, r⟩ := x
      simp only at c1 c2 hbg hx8
      obtain ⟨z, hz⟩ : ∃ z, nm.size = z := ⟨_, rfl⟩
      cases hp : nm.data.toList.isPrefixOf s.data.toList with
      | true =>
        by_cases hlt : ak < nm.size
        · have hg : decide ((ak : Int) < (nm.size : Int)) = true := decide_eq_true (by omega)
          have HF : Hid (lg (A.take (i + 1)) s.data.toList = (r, nm.size)) := by show _ = _; rw [hst, lgStep, if_pos (by show (decide (ak < nm.size) && nm.data.toList.isPrefixOf s.data.toList) = true; rw [hp]; simp [hlt])]
          rw [hp] at hbg
          clear hx hil hp hst hz
          go_wp2_with fail
          refine (hbg _).mono ?_
          rintro e w1 ⟨rfl, rfl⟩
          go_wp2_with fail
          go_quiet (fail)
          go_wp2_with fail
          exact ⟨⟨i + 1, _, by go_num, by omega, by rw [HF.out], by rw [HF.out], rfl⟩, by simp [intOf]; omega⟩
        · have hg : decide ((ak : Int) < (nm.size : Int)) = false := decide_eq_false (by omega)
          have HF : Hid (lg (A.take (i + 1)) s.data.toList = (ar, ak)) := by show _ = _; rw [hst, lgStep, if_neg (by simp [hlt])]
          clear hx hil hp hst hz hbg
          go_wp2_with fail
          exact ⟨⟨i + 1, _, by go_num, by omega, by rw [HF.out], by rw [HF.out], rfl⟩, by simp [intOf]; omega⟩
      | false =>
        have HF : Hid (lg (A.take (i + 1)) s.data.toList = (ar, ak)) := by
          show _ = _
          rw [hst, lgStep, if_neg]
          show ¬ (decide (ak < nm.size) && nm.data.toList.isPrefixOf s.data.toList) = true
          rw [hp]
          simp
        rw [hp] at hbg
        by_cases hlt : ak < nm.size
        · have hg : decide ((ak : Int) < (nm.size : Int)) = true := decide_eq_true (by omega)
          clear hx hil hp hst hz
          go_wp2_with fail
          refine (hbg _).mono ?_
          rintro e w1 ⟨rfl, rfl⟩
          go_wp2_with fail
          exact ⟨⟨i + 1, _, by go_num, by omega, by rw [HF.out], by rw [HF.out], rfl⟩, by simp [intOf]; omega⟩
        · have hg : decide ((ak : Int) < (nm.size : Int)) = false := decide_eq_false (by omega)
          clear hx hil hp hst hz hbg
          go_wp2_with fail
          exact ⟨⟨i + 1, _, by go_num, by omega, by rw [HF.out], by rw [HF.out], rfl⟩, by simp [intOf]; omega⟩
    · have hg : decide ((i : Int) < (n : Int)) = false := decide_eq_false (by omega)
      have HF : Hid (lg A s.data.toList = (ar, ak)) := by
        have := HL.out
        rw [List.take_of_length_le (by rw [HA.out.2.1]; omega)] at this
        exact this
      go_wp2_with fail
      go_ret2
      rw [HF.out]
      exact ⟨rfl, below_drewN (Below.refl _ _) _⟩
end Go.Proofs.Ytkbakbacomidbaa.G6
namespace Go.Proofs.Ytkbakbacomidbaa.G6
open Go.RowKit
theorem less_eq : ∀ a b : List UInt8, Op.bytesLess a b = ltP a b
  | [], [] => rfl
  | [], _ :: _ => rfl
  | _ :: _, [] => rfl
  | x :: a, y :: b => by
    rw [Op.bytesLess, ltP, less_eq a b]
    rfl
/-- What the document's Longest has, by what it has seen. -/
theorem lg_fold (s : Path) : ∀ (A : List Rf) (acc : Int × Nat), acc.2 ≤ (A.foldl (lgStep s) acc).2 ∧ (∀ x ∈ A, x.nm <+: s → x.n.size ≤ (A.foldl (lgStep s) acc).2) ∧
    (A.foldl (lgStep s) acc = acc ∨ ∃ x ∈ A, x.nm <+: s ∧ A.foldl (lgStep s) acc = (x.r, x.n.size) ∧ acc.2 < x.n.size)
  | [], acc => ⟨Nat.le_refl _, by simp, .inl rfl⟩
  | y :: A, acc => by
    rw [List.foldl_cons]
    obtain ⟨h1, h2, h3⟩ := lg_fold s A (lgStep s acc y)
    by_cases hy : acc.2 < y.n.size ∧ y.nm <+: s
    · have e : lgStep s acc y = (y.r, y.n.size) := by
        unfold lgStep
        rw [if_pos]
        rw [Bool.and_eq_true]
        exact ⟨decide_eq_true hy.1, List.isPrefixOf_iff_prefix.2 hy.2⟩
      rw [e] at h1 h2 h3 ⊢
      simp only at h1 h3
      refine ⟨by omega, fun x hx hp => ?_, .inr ?_⟩
      · rcases List.mem_cons.1 hx with rfl | hx
        · exact h1
        · exact h2 x hx hp
      · rcases h3 with h3 | ⟨x, hx, hp, hr, hz⟩
        · exact ⟨y, by simp, hy.2, h3, hy.1⟩
        · exact ⟨x, by simp [hx], hp, hr, by omega⟩
    · have e : lgStep s acc y = acc := by
        unfold lgStep
        rw [if_neg]
        rw [Bool.and_eq_true]
        exact fun h => hy ⟨of_decide_eq_true h.1, List.isPrefixOf_iff_prefix.1 h.2⟩
      rw [e] at h1 h2 h3 ⊢
      refine ⟨h1, fun x hx hp => ?_, ?_⟩
      · rcases List.mem_cons.1 hx with rfl | hx
        · have : ¬ acc.2 < x.n.size := fun h => hy ⟨h, hp⟩
          omega
        · exact h2 x hx hp
      · rcases h3 with h3 | ⟨x, hx, hp, hr, hz⟩
        · exact .inl h3
        · exact .inr ⟨x, by simp [hx], hp, hr, hz⟩
theorem best_is (l : List Rf) (s : Path) : ∀ n, (∀ j v, 0 < j → j ≤ n → val l (s.take j) = some v → j ≤ (best l s n).2) ∧
    (best l s n = (0, 0) ∨ ∃ r k, best l s n = (r, k) ∧ 0 < k ∧ k ≤ n ∧ val l (s.take k) = some r)
  | 0 => ⟨fun j v h1 h2 => by omega, .inl rfl⟩
  | n + 1 => by
    obtain ⟨h1, h2⟩ := best_is l s n
    cases hv : val l (s.take (n + 1)) with
    | some r =>
      have e : best l s (n + 1) = (r, n + 1) := by rw [best, hv]
      rw [e]
      exact ⟨fun j v _ hj _ => hj, .inr ⟨r, n + 1, rfl, by omega, Nat.le_refl _, hv⟩⟩
    | none =>
      have e : best l s (n + 1) = best l s n := by rw [best, hv]
      rw [e]
      refine ⟨fun j v h0 hj hjv => ?_, ?_⟩
      · by_cases hjn : j = n + 1
        · rw [hjn, hv] at hjv; cases hjv
        · exact h1 j v h0 (by omega) hjv
      · rcases h2 with h2 | ⟨r, k, h3, h4, h5, h6⟩
        · exact .inl h2
        · exact .inr ⟨r, k, h3, h4, by omega, h6⟩
theorem pre_take {x s : Path} (h : x <+: s) {n : Nat} (hn : x.length = n) : x = s.take n := by
  have := List.prefix_iff_eq_take.1 h
  rw [hn] at this
  exact this
theorem lg_best (l : List Rf) (s : Path) : lg (allP l) s = best l s s.length := by
  obtain ⟨_, a2, a3⟩ := lg_fold s (allP l) (0, 0)
  obtain ⟨b2, b3⟩ := best_is l s s.length
  unfold lg
  have hsz : ∀ x : Rf, x.nm.length = x.n.size := fun x => Array.length_toList
  obtain ⟨p, hp⟩ : ∃ p, (allP l).foldl (lgStep s) (0, 0) = p := ⟨_, rfl⟩
  obtain ⟨q, hq⟩ : ∃ q, best l s s.length = q := ⟨_, rfl⟩
  rw [hp] at a2 a3 ⊢
  rw [hq] at b2 b3 ⊢
  -- each of the two is no longer than the other
  have h1 : p.2 ≤ q.2 := by
    rcases a3 with a3 | ⟨x, hx, hpx, hr, hz⟩
    · rw [a3]; exact Nat.zero_le _
    · rw [hr]
      have hv := (allP_mem x).1 hx
      rw [pre_take hpx (hsz x)] at hv
      have := hpx.length_le
      rw [hsz] at this
      exact b2 _ _ hz this hv
  have h2 : q.2 ≤ p.2 := by
    rcases b3 with b3 | ⟨r, k, h3, h4, h5, h6⟩
    · rw [b3]; exact Nat.zero_le _
    · rw [h3]
      have hm : (⟨⟨(s.take k).toArray⟩, r⟩ : Rf) ∈ allP l := (allP_mem _).2 h6
      have := a2 _ hm (List.take_prefix _ _)
      have hs : (⟨⟨(s.take k).toArray⟩, r⟩ : Rf).n.size = k := by
        show (s.take k).toArray.size = k
        rw [List.size_toArray, List.length_take]
        omega
      rw [hs] at this
      exact this
  rcases a3 with a3 | ⟨x, hx, hpx, hr, hz⟩
  · rcases b3 with b3 | ⟨r, k, h3, h4, h5, h6⟩
    · rw [a3, b3]
    · rw [a3, h3] at h2; simp only at h2; omega
  · rcases b3 with b3 | ⟨r, k, h3, h4, h5, h6⟩
    · rw [hr, b3] at h1; simp only at h1 hz; omega
    · have hv := (allP_mem x).1 hx
      rw [pre_take hpx (hsz x)] at hv
      rw [hr, h3] at h1 h2
      simp only at h1 h2
      have hk : x.n.size = k := by omega
      rw [hk, h6] at hv
      rw [hr, h3, hk, Option.some.inj hv]
theorem any_goes (l : List Rf) (s : Path) : ((allP l).any fun r => s.isPrefixOf r.nm) = goes l s := by
  rw [Bool.eq_iff_iff, List.any_eq_true]
  constructor
  · rintro ⟨x, hx, hp⟩
    obtain ⟨t, ht⟩ := List.isPrefixOf_iff_prefix.1 hp
    have hpre : pre l s = true := pre_val.2 ⟨t, x.r, by rw [ht]; exact (allP_mem x).1 hx⟩
    unfold goes
    rw [hpre, Bool.and_true]
    apply decide_eq_true
    by_cases h0 : cnt [] l = 0
    · rw [cnt_pos h0 s] at hpre; cases hpre
    · omega
  · intro h
    unfold goes at h
    rw [Bool.and_eq_true] at h
    obtain ⟨q, v, hv⟩ := pre_val.1 h.2
    refine ⟨⟨⟨(s ++ q).toArray⟩, v⟩, (allP_mem _).2 hv, List.isPrefixOf_iff_prefix.2 (List.prefix_append s q)⟩
theorem val_single (x : Rf) (p : Path) : val [x] p = if x.ok = true ∧ x.nm = p then some x.r else none := rfl
theorem ins_skip {l : List Rf} {x : Rf} (h : x.ok = false) : allP (l ++ [x]) = allP l := by
  apply all_same
  funext p
  rw [val_append, val_single, if_neg (by rw [h]; simp)]
  cases val l p <;> rfl
theorem ins_same {l : List Rf} {x y : Rf} (hy : y ∈ allP l) (e : y.nm = x.nm) : allP (l ++ [x]) = allP l := by
  have hv := (allP_mem y).1 hy
  apply all_same
  funext p
  rw [val_append, val_single]
  by_cases hp : x.nm = p
  · rw [← hp, ← e, hv]; rfl
  · rw [if_neg fun h => hp h.2]
    cases val l p <;> rfl
theorem ins_new {l : List Rf} {x : Rf} {k : Nat} (hok : x.ok = true) (h1 : ∀ j y, j < k → (allP l)[j]? = some y → ltP y.nm x.nm = true)
    (h2 : ∀ y, (allP l)[k]? = some y → ltP y.nm x.nm = false ∧ y.nm ≠ x.nm) : allP (l ++ [x]) = (allP l).take k ++ [x] ++ (allP l).drop k := by
  have hs := allP_sorted l
  have lo : ∀ y ∈ (allP l).take k, ltP y.nm x.nm = true := fun y hy => by
    obtain ⟨j, hj⟩ := List.getElem?_of_mem hy
    have hjk : j < k := by
      have := (List.getElem?_eq_some_iff.1 hj).1
      rw [List.length_take] at this
      omega
    rw [List.getElem?_take_of_lt hjk] at hj
    exact h1 j y hjk hj
  have hi : ∀ y ∈ (allP l).drop k, ltP x.nm y.nm = true := fun y hy => by
    have hd : Sorted ((allP l).drop k) := hs.drop
    cases hc : (allP l).drop k with
    | nil => rw [hc] at hy; simp at hy
    | cons z T =>
      have hz : (allP l)[k]? = some z := by
        have : ((allP l).drop k)[0]? = some z := by rw [hc]; rfl
        rw [List.getElem?_drop] at this
        simpa using this
      obtain ⟨g1, g2⟩ := h2 z hz
      have g3 : ltP x.nm z.nm = true := by
        rcases ltP_total g2 with g | g
        · rw [g] at g1; cases g1
        · exact g
      rw [hc] at hd hy
      rcases List.mem_cons.1 hy with rfl | hy
      · exact g3
      · exact ltP_trans g3 ((List.pairwise_cons.1 hd).1 y hy)
  have hmem : ∀ y, y ∈ (allP l).take k ++ [x] ++ (allP l).drop k ↔ y ∈ allP l ∨ y = x := fun y => by
    have : y ∈ allP l ↔ y ∈ (allP l).take k ∨ y ∈ (allP l).drop k := by
      conv => lhs; rw [← List.take_append_drop k (allP l)]
      exact List.mem_append
    rw [this, List.mem_append, List.mem_append, List.mem_singleton]
    constructor
    · rintro ((h | h) | h)
      · exact .inl (.inl h)
      · exact .inr h
      · exact .inl (.inr h)
    · rintro ((h | h) | h)
      · exact .inl (.inl h)
      · exact .inr h
      · exact .inl (.inr h)
  have hfree : ∀ y ∈ allP l, y.nm ≠ x.nm := fun y hy e => by
    rw [← List.take_append_drop k (allP l)] at hy
    rcases List.mem_append.1 hy with h | h
    · have := lo y h; rw [e, ltP_irrefl] at this; cases this
    · have := hi y h; rw [e, ltP_irrefl] at this; cases this
  apply sorted_eq (allP_sorted _)
  · show List.Pairwise _ _
    rw [List.pairwise_append, List.pairwise_append]
    refine ⟨⟨hs.take, by simp, fun a ha b hb => ?_⟩, hs.drop, fun a ha b hb => ?_⟩
    · rw [List.mem_singleton] at hb; subst hb; exact lo a ha
    · rcases List.mem_append.1 ha with h | h
      · exact ltP_trans (lo a h) (hi b hb)
      · rw [List.mem_singleton] at h; subst h; exact hi b hb
  · intro r
    rw [hmem, allP_mem, allP_mem, val_append, val_single]
    by_cases hr : x.nm = r.nm
    · rw [if_pos ⟨hok, hr⟩]
      have hn : val l r.nm = none := by
        cases hv : val l r.nm with
        | none => rfl
        | some v =>
          have hm : (⟨r.n, v⟩ : Rf) ∈ allP l := (allP_mem _).2 hv
          exact absurd (show (⟨r.n, v⟩ : Rf).nm = x.nm from hr.symm) (hfree ⟨r.n, v⟩ hm)
      rw [hn]
      constructor
      · intro h
        right
        obtain ⟨rn, rr⟩ := r
        obtain ⟨xn, xr⟩ := x
        have e1 : xn = rn := bytes_eq hr
        have e2 : xr = rr := by simpa using h
        rw [e1, e2]
      · rintro (h | rfl)
        · cases h
        · rfl
    · rw [if_neg fun h => hr h.2]
      constructor
      · intro h
        left
        cases hv : val l r.nm with
        | none => rw [hv] at h; cases h
        | some v => rw [hv] at h; exact h
      · rintro (h | rfl)
        · rw [h]; rfl
        · exact absurd rfl hr
end Go.Proofs.Ytkbakbacomidbaa.G6
namespace Go.Proofs.Ytkbakbacomidbaa.G6
open Go.RowKit
theorem cells_at : ∀ (M : List Rf) (j : Nat) (u : Value), (M.flatMap Rf.cells)[j]? = some u → ∃ i x, M[i]? = some x ∧ ((j = i * 2 ∧ u = .string x.n) ∨ (j = i * 2 + 1 ∧ u = .int .i64 x.r))
  | [], j, u, h => by simp at h
  | x :: M, 0, u, h => ⟨0, x, rfl, .inl ⟨rfl, by simpa [Rf.cells] using h.symm⟩⟩
  | x :: M, 1, u, h => ⟨0, x, rfl, .inr ⟨rfl, by simpa [Rf.cells] using h.symm⟩⟩
  | x :: M, j + 2, u, h => by
    have h' : (M.flatMap Rf.cells)[j]? = some u := by simpa [Rf.cells] using h
    obtain ⟨i, y, h1, h2⟩ := cells_at M j u h'
    refine ⟨i + 1, y, by simpa using h1, ?_⟩
    rcases h2 with ⟨h2, h3⟩ | ⟨h2, h3⟩
    · exact .inl ⟨by omega, h3⟩
    · exact .inr ⟨by omega, h3⟩
theorem cells_one : ∀ (M : List Rf) (u : Value), u ∈ M.flatMap Rf.cells → u.oneCell' = true := fun M u h => by
  rw [List.mem_flatMap] at h
  obtain ⟨x, _, h⟩ := h
  simp only [Rf.cells, List.mem_cons, List.not_mem_nil, or_false] at h
  rcases h with rfl | rfl <;> rfl
theorem cells_len (M : List Rf) : (M.flatMap Rf.cells).length = M.length * 2 := by
  induction M with
  | nil => rfl
  | cons x M ih => rw [List.flatMap_cons, List.length_append, ih, List.length_cons]; simp [Rf.cells]; omega
/-- Names behind a row of one's own. -/
theorem row_more {w : World} {B : Nat} {l : Value} {L M : List Rf} (h : RowIs w B l L) (ao : Option Addr) (c : Nat) (hM : RefRow w ao M) (hB : B ≤ w.heap.size) (hL : L.length ≤ 1000) (hM2 : M.length ≤ 1000) :
    ∃ l' w', (Builtin.append_ #[85, 85] 85 #[l, .slice ao M.length c]).run Try.prog w = .ok l' w' ∧ RowIs w' B l' (L ++ M) ∧ LFr (.slice none 0 0) l w w' := by
  obtain ⟨i0, hi, hz0, hz1, hz2⟩ := info_parts info136
  by_cases h0 : M = []
  · subst h0
    obtain ⟨bo, cap, rfl, _, hc, _⟩ := row_ref4 h
    have hs : Src Try.prog i0.size 85 (.slice ao 0 c) 0 [] w := by
      cases ao with
      | none => exact Src.ofNil w Try.underlying85 c
      | some a => exact Src.ofSlice w Try.underlying85 a 0 c [] (by simp) (by simp) (by simp)
    exact ⟨_, _, run_append_nothing (P := Try.prog) w 85 85 85 102 i0 Try.underlying85 hi bo L.length cap hc _ hs, by rw [List.append_nil]; exact h, LFr.refl _ _ _⟩
  · obtain ⟨x, hx⟩ : ∃ x, M[0]? = some x := by
      cases M with
      | nil => exact absurd rfl h0
      | cons x M => exact ⟨x, rfl⟩
    obtain ⟨b, off, rfl, _⟩ := hM 0 x hx
    obtain ⟨l', w', hr, ho, hg, _, _⟩ := run_append_own_at (P := Try.prog) w B 85 85 102 i0 _ 2 24 Try.underlying85 hi hz0 hz1 hz2 rfl (by decide) l L.length _ h ⟨b, off, none⟩ M.length c (M.flatMap Rf.cells) (cells_len M)
      (fun j u hj => by
        rw [Addr.add_lit]
        obtain ⟨i, y, h1, h2⟩ := cells_at M j u hj
        obtain ⟨b', off', e, _, c1, c2⟩ := hM i y h1
        simp only [Option.some.injEq, Addr.mk.injEq, and_true] at e
        obtain ⟨rfl, rfl⟩ := e
        rcases h2 with ⟨rfl, rfl⟩ | ⟨rfl, rfl⟩
        · exact c1
        · rw [← Nat.add_assoc]; exact c2) (cells_one M) (by unfold maxLen; omega) (by omega) hB
    refine ⟨l', w', hr, ?_, ?_⟩
    · show w'.ownsRow B 102 2 l' (L ++ M).length ((L ++ M).flatMap Rf.cells)
      rw [List.length_append, List.flatMap_append]
      exact ho
    · exact ⟨hg.os, hg.tape, hg.output, hg.size, fun d hd _ hne => hg.block d hd hne⟩
theorem ref_take {w : World} {ao : Option Addr} {A : List Rf} (h : RefRow w ao A) (k : Nat) : RefRow w ao (A.take k) := fun i x hx => by
  have hil : i < k := by
    have := (List.getElem?_eq_some_iff.1 hx).1
    rw [List.length_take] at this
    omega
  rw [List.getElem?_take_of_lt hil] at hx
  exact h i x hx
theorem ref_drop {w : World} {ao : Option Addr} {A : List Rf} (h : RefRow w ao A) (k cap : Nat) (hc : A.length ≤ cap) : RefRow w (if cap = k then ao else ao.map (·.add (k * 2))) (A.drop k) := fun i x hx => by
  have hil := (List.getElem?_eq_some_iff.1 hx).1
  rw [List.length_drop] at hil
  rw [List.getElem?_drop] at hx
  obtain ⟨b, off, rfl, h1, h2, h3⟩ := h _ x hx
  rw [if_neg (by omega)]
  refine ⟨b, off + k * 2, by simp [Addr.add_lit], h1, ?_, ?_⟩
  · rw [show off + k * 2 + i * 2 = off + (k + i) * 2 by omega]; exact h2
  · rw [show off + k * 2 + i * 2 = off + (k + i) * 2 by omega]; exact h3
theorem ref_one (w : World) (x : Rf) : RefRow (w.alloc (.cells #[.string x.n, .int .i64 x.r] 102)) (some ⟨w.heap.size, 0, none⟩) [x] := fun i y hy => by
  have hi : i = 0 := by
    have := (List.getElem?_eq_some_iff.1 hy).1
    simp at this
    exact this
  subst hi
  simp at hy
  subst hy
  have hnew := heap_alloc_new w (.cells #[.string x.n, .int .i64 x.r] 102)
  obtain ⟨W, hW⟩ : ∃ W, w.alloc (.cells #[.string x.n, .int .i64 x.r] 102) = W := ⟨_, rfl⟩
  rw [hW] at hnew ⊢
  exact ⟨_, _, rfl, (Array.getElem?_eq_some_iff.1 hnew).1, by simp [World.cell?, hnew], by simp [World.cell?, hnew]⟩
theorem lfr_below {w w' : World} {B : Nat} {l : Value} {n : Nat} {xs : List Value} (h : LFr (.slice none 0 0) l w w') (ho : w.ownsRow B 102 2 l n xs) (hB : B ≤ w.heap.size) : Below B w w' :=
  ⟨h.os, h.tape, h.output, h.size, fun d hd => h.block d (by omega) (by simp [Value.ownBlock]) (fun e => by have := (own_blk ho e.symm).1; omega)⟩
/-- What is there when a name has been put into a row. -/
def Put1 (W : World) (A : List Rf) (v : Value) (w : World) : Prop := ∃ bo n c, v = .slice bo n c ∧ A.length = n ∧ RefRow w bo A ∧ n ≤ c ∧ c ≤ maxLen ∧ Below W.heap.size W w
theorem put_a {W : World} {ao bo : Option Addr} {A : List Rf} {k n : Nat} (cap c2 : Nat) (x : Rf) (hk : k ≤ A.length) (hn : A.length ≤ 400) (h1 : RefRow W ao (A.take k)) (h2 : RefRow W bo (A.drop k)) (hnk : A.length - k = n) :
    ∃ v1 w1 v2 w2 v3 w3, (Builtin.append_ #[85, 85] 85 #[.slice none 0 0, .slice ao k cap]).run Try.prog W.drew = .ok v1 w1 ∧
      (Builtin.append_ #[85, 85] 85 #[v1, .slice (some ⟨w1.heap.size, 0, none⟩) 1 1]).run Try.prog (w1.alloc (.cells #[.string x.n, .int .i64 x.r] 102)) = .ok v2 w2 ∧
      (Builtin.append_ #[85, 85] 85 #[v2, .slice bo n c2]).run Try.prog w2 = .ok v3 w3 ∧ Put1 W (A.take k ++ [x] ++ A.drop k) v3 w3 ∧ Below W.heap.size W w1 := by
  subst hnk
  have hlk : (A.take k).length = k := by rw [List.length_take]; omega
  have hdk : (A.drop k).length = A.length - k := List.length_drop
  have bW : Below W.heap.size W W.drew := (Below.refl _ _).drew
  obtain ⟨v1, w1, e1, r1, f1⟩ := row_more (w := W.drew) (B := W.heap.size) (L := []) (World.ownsRow_nil _ _ _ _) ao cap (h1.below bW) (Nat.le_refl _) (by simp) (by omega)
  rw [hlk] at e1
  rw [List.nil_append] at r1
  have b1 : Below W.heap.size W w1 := bW.trans (lfr_below f1 (World.ownsRow_nil _ _ _ _) (Nat.le_refl _))
  obtain ⟨w1', hw1'⟩ : ∃ w1', w1' = w1.alloc (.cells #[.string x.n, .int .i64 x.r] 102) := ⟨_, rfl⟩
  have b1' : Below w1.heap.size w1 w1' := by rw [hw1']; exact (Below.refl _ _).alloc (Nat.le_refl _) _
  have o1 := ref_one w1 x
  rw [← hw1'] at o1
  have r1' : RowIs w1' W.heap.size v1 (A.take k) := own_mv r1 fun g hg => b1'.block g (own_blk r1 hg).2.1
  have bb1 : Below W.heap.size W w1' := b1.trans (b1'.mono b1.size)
  obtain ⟨v2, w2, e2, r2, f2⟩ := row_more r1' _ 1 o1 bb1.size (by omega) (by simp)
  have b2 : Below W.heap.size W w2 := bb1.trans (lfr_below f2 r1' bb1.size)
  obtain ⟨v3, w3, e3, r3, f3⟩ := row_more r2 _ c2 (h2.below b2) b2.size (by simp; omega) (by omega)
  have b3 : Below W.heap.size W w3 := b2.trans (lfr_below f3 r2 b2.size)
  rw [hdk] at e3
  rw [hw1'] at e2
  obtain ⟨co, c3, rfl, g1, g2, g3⟩ := row_ref4 r3
  exact ⟨v1, w1, v2, w2, _, w3, e1, e2, e3, ⟨co, _, c3, rfl, rfl, g1, g2, g3, b3⟩, b1⟩
theorem put_b {W : World} {ao bo : Option Addr} {A : List Rf} {k n : Nat} (cap c2 : Nat) (x : Rf) (hk : k ≤ A.length) (hn : A.length ≤ 400) (h1 : RefRow W ao (A.take k)) (h2 : RefRow W bo (A.drop k)) (hnk : A.length - k = n) :
    ∃ v1 w1 v2 w2 v3 w3, (Builtin.append_ #[85, 85] 85 #[.slice none 0 0, .slice ao k cap]).run Try.prog (W.alloc (.cells #[.string x.n, .int .i64 x.r] 102)).drew = .ok v1 w1 ∧
      (Builtin.append_ #[85, 85] 85 #[v1, .slice (some ⟨W.heap.size, 0, none⟩) 1 1]).run Try.prog w1 = .ok v2 w2 ∧
      (Builtin.append_ #[85, 85] 85 #[v2, .slice bo n c2]).run Try.prog w2 = .ok v3 w3 ∧ Put1 W (A.take k ++ [x] ++ A.drop k) v3 w3 := by
  subst hnk
  have hlk : (A.take k).length = k := by rw [List.length_take]; omega
  have hdk : (A.drop k).length = A.length - k := List.length_drop
  obtain ⟨V, hV⟩ : ∃ V, V = (W.alloc (.cells #[.string x.n, .int .i64 x.r] 102)).drew := ⟨_, rfl⟩
  have bV : Below W.heap.size W V := by rw [hV]; exact ((Below.refl _ _).alloc (Nat.le_refl _) _).drew
  have hVs : V.heap.size = W.heap.size + 1 := by rw [hV]; simp [World.drew]
  have o1 : RefRow V (some ⟨W.heap.size, 0, none⟩) [x] := by rw [hV]; exact (ref_one W x).below (Below.refl _ _).drew
  rw [← hV]
  obtain ⟨v1, w1, e1, r1, f1⟩ := row_more (w := V) (B := V.heap.size) (L := []) (World.ownsRow_nil _ _ _ _) ao cap (h1.below bV) (Nat.le_refl _) (by simp) (by omega)
  rw [hlk] at e1
  rw [List.nil_append] at r1
  have b1 : Below V.heap.size V w1 := lfr_below f1 (World.ownsRow_nil _ _ _ _) (Nat.le_refl _)
  obtain ⟨v2, w2, e2, r2, f2⟩ := row_more r1 _ 1 (o1.below b1) b1.size (by omega) (by simp)
  have b2 : Below V.heap.size V w2 := b1.trans (lfr_below f2 r1 b1.size)
  have b2' : Below W.heap.size W w2 := bV.trans (b2.mono (by omega))
  obtain ⟨v3, w3, e3, r3, f3⟩ := row_more r2 _ c2 (h2.below b2') b2.size (by simp; omega) (by omega)
  have b3 : Below V.heap.size V w3 := b2.trans (lfr_below f3 r2 b2.size)
  rw [hdk] at e3
  obtain ⟨co, c3, rfl, g1, g2, g3⟩ := row_ref4 r3
  exact ⟨v1, w1, v2, w2, _, w3, e1, e2, e3, co, _, c3, rfl, rfl, g1, g2, g3, bV.trans (b3.mono (by omega))⟩
end Go.Proofs.Ytkbakbacomidbaa.G6
