/- numbered. -/
import Derived.Test.YtdpibnmbgjhohaaDa
import Derived.Test.YtdpibnmbgjhohaaCc
import Derived.Shelf.Slices.CompactI
import Derived.Sort.OwnSortedInts
import Derived.Lib.OwnBridge
namespace Go.Proofs.Ytdpibnmbgjhohaa
open Go.RowKit Go.Lib Go.Sort

def cmpiRen : Go.Shelf.Ren := ⟨fun | 20 => 50 | n => n, fun | 22 => 31 | 3 => 3 | 4 => 4 | 0 => 0 | n => n, fun | n => n⟩
theorem cmpiLays : Go.Proofs.Lays2.n20 Try.prog cmpiRen := {
  mixed := by kernel_rfl
  f20 := Try.func50.trans (congrArg some (by kernel_rfl))
  t0 := Try.underlying0
  a0 := Try.isAgg0
  z0 := Try.sizeOf0
  v0 := Try.zeroValue0
  t3 := Try.underlying3
  a3 := Try.isAgg3
  z3 := Try.sizeOf3
  v3 := Try.zeroValue3
  t4 := Try.underlying4
  a4 := Try.isAgg4
  z4 := Try.sizeOf4
  v4 := Try.zeroValue4
  t22 := Try.underlying31
  a22 := Try.isAgg31
  z22 := Try.sizeOf31
  v22 := Try.zeroValue31
  i3 := by kernel_rfl }
/-- Numbers, rising. -/
def sI (L : List Int) : List Int := L.mergeSort fun x y => decide (x ≤ y)
theorem sI_len (L : List Int) : (sI L).length = L.length := List.length_mergeSort L
/-- Is none below 0, and none there twice? -/
def numP (L : List Int) : Bool := decide (0 ≤ (sI L).headD 0) && decide ((Lib.compact (sI L)).length = L.length)
theorem sort_ints {S : Nat → Prop} {w : World} {g n cap : Nat} {L : List Int} (h : Rw S w 3 1 (.slice (some ⟨g, 0, none⟩) n cap) n (ivs L)) (hn : n ≤ 1000000) :
    Calls Try.prog 49 #[.slice (some ⟨g, 0, none⟩) n cap] w fun e w' => e = .returned (.tuple #[]) ∧ Rw S w' 3 1 (.slice (some ⟨g, 0, none⟩) n cap) n (ivs (sI L)) ∧ w.grownBy w' (some g) := by
  have hl : L.length = n := by have := h.own.1; simpa [ivs] using this
  obtain ⟨g', cap', e, hb, hg, h1, h2, h3, hH⟩ := holds_of_ownsRow (enc := Value.int .i64) h.own (by intro e; cases e)
  cases e
  have hs := Any.slices_Sort_int intLays g 0 cap L w hH hg (by omega)
  change Calls Try.prog 49 _ _ _ at hs
  rw [hl] at hs
  refine hs.mono ?_
  rintro e w' ⟨rfl, q, os, rfl⟩
  rcases h.own.2 with ⟨e0, _⟩ | ⟨g2, cap2, cur, e0, _, hc, _, h5, h6, _⟩
  · cases e0
  · cases e0
    have hr := ownsRow_sortedI (base := 0) (n := q) (os := os) (ss := L) (ts := sI L) (sI_len L) (Nat.zero_le _) hc (by omega) h5 h6
    rw [hl] at hr
    exact ⟨rfl, ⟨hr, h.out⟩, grownBy_sortedI _⟩
theorem compact_ints {S : Nat → Prop} {w : World} {g n cap : Nat} {L : List Int} (h : Rw S w 3 1 (.slice (some ⟨g, 0, none⟩) n cap) n (ivs L)) (hn : n ≤ 1000000) :
    Calls Try.prog 50 #[.slice (some ⟨g, 0, none⟩) n cap] w fun e w' => e = .returned (.slice (some ⟨g, 0, none⟩) (Lib.compact L).length cap) ∧ w.grownBy w' (some g) := by
  have hl : L.length = n := by have := h.own.1; simpa [ivs] using this
  obtain ⟨g', cap', e, hb, hg, h1, h2, h3, hH⟩ := holds_of_ownsRow (enc := Value.int .i64) h.own (by intro e; cases e)
  cases e
  have hs := Any.slices_Compact_int cmpiLays g 0 cap L w hH (by omega) (by omega)
  change Calls Try.prog 50 _ _ _ at hs
  rw [hl] at hs
  refine hs.mono ?_
  rintro e w' ⟨rfl, q, rfl⟩
  exact ⟨rfl, rfl, rfl, rfl, by simp [putRow, mapBlock, Sort.ahead], fun k hk hne => by simp [putRow, mapBlock, Sort.ahead, Array.getElem?_modify, show g ≠ k from fun e => hne (by rw [e])]⟩
theorem compact_len (L : List Int) : (Lib.compact L).length ≤ L.length := by
  unfold Lib.compact compactUpTo
  rw [List.length_map]
  exact Nat.le_trans (List.length_filter_le _ _) (by simp)
theorem compact_full (L : List Int) : (Lib.compact L).length = L.length ↔ ∀ j, j < L.length → keeps L.toArray j = true := by
  unfold Lib.compact compactUpTo
  rw [List.length_map]
  have h := @List.length_filter_eq_length_iff _ (keeps L.toArray) (List.range L.length)
  rw [List.length_range] at h
  rw [h]
  simp
theorem iT_pos (t : Tr) : 0 < (iT t).length := by
  obtain ⟨d, ks⟩ := t
  rw [iT]
  simp
set_option maxRecDepth 20000 in
set_option maxHeartbeats 2000000 in
theorem numbered_any {w : World} {t : Tr} {av kv : Value} (ht : TrC w t av kv) (hn : cT t ≤ 900000) :
    Calls Try.prog 33 #[nv t.d av kv] w fun e w' => e = .returned (.bool (numP (iT t))) ∧ Below w.heap.size w w' := by
  have h13 : ∀ W : World, Below w.heap.size w W → Calls Try.prog 13 #[nv t.d av kv] W fun e w' => Idd (iT t) W e w' := fun W hb => (callsIn_wide (n := 0)).1 (ids_in 0 (ht.old hb) hn)
  have hlen : (iT t).length ≤ 900000 := by rw [iT_len]; exact hn
  have hpos := iT_pos t
  obtain ⟨a, ac, k, kc, rfl, rfl, _⟩ := ht.flat
  obtain ⟨V1, hV1⟩ : ∃ V, w.alloc (na t.d (.slice a t.d.al.length ac) (.slice k t.k.length kc)) = V := ⟨_, rfl⟩
  have hb1 : Below w.heap.size w V1 := by rw [← hV1]; exact (Below.refl _ _).alloc (Nat.le_refl _) _
  have hk := h13 V1 hb1
  have HB : Hid (Below w.heap.size w V1 ∧ w.alloc (na t.d (.slice a t.d.al.length ac) (.slice k t.k.length kc)) = V1) := ⟨hb1, hV1⟩
  clear h13 hb1 ht hV1
  go_enter Try.func33, Try.ntmps33
  go_wp2_with fail
  rw [HB.out.2]
  refine hk.mono ?_
  rintro e W1 ⟨v, rfl, b1, r1⟩
  obtain ⟨g, cap, cur, rfl, hg1, _, _, hcap, hcm, _⟩ := r1.form hpos
  obtain ⟨n, hnl⟩ : ∃ n, (iT t).length = n := ⟨_, rfl⟩
  rw [hnl] at r1 hlen hpos hcap ⊢
  have hgw : w.heap.size ≤ g := by have := HB.out.1.size; omega
  have H1 : Hid (Below w.heap.size w W1) := HB.out.1.trans (b1.mono HB.out.1.size)
  have hs := sort_ints r1 (by omega)
  clear b1 r1 hk hg1
  go_wp2_with fail
  refine hs.mono ?_
  rintro e W2 ⟨rfl, r2, g2⟩
  have hb2 : Below w.heap.size w W2 := H1.out.trans ⟨g2.os, g2.tape, g2.output, g2.size, fun i hi => g2.block i (Nat.lt_of_lt_of_le hi H1.out.size) (fun e => by simp at e; omega)⟩
  obtain ⟨x, l, hx⟩ : ∃ x l, sI (iT t) = x :: l := by
    cases h : sI (iT t) with
    | nil => have := sI_len (iT t); rw [h] at this; simp at this; omega
    | cons x l => exact ⟨x, l, rfl⟩
  have c0 : W2.cell? ⟨g, 0, none⟩ = some (iv x) := r2.cell (by rw [hx]; rfl)
  have hc := compact_ints r2 (by omega)
  have HN : Hid (numP (iT t) = (decide (0 ≤ x) && decide ((Lib.compact (sI (iT t))).length = n)) ∧ Below w.heap.size w W2 ∧ (Lib.compact (sI (iT t))).length ≤ 1000000000) := by
    refine ⟨?_, hb2, ?_⟩
    · show numP (iT t) = _
      rw [numP, hx, hnl]
      rfl
    · have := compact_len (sI (iT t))
      rw [sI_len, hnl] at this
      omega
  have i0 : 0 < n := hpos
  have i1 : (0 : Int) < n := by omega
  clear r2 g2 hb2 hs hnl
  by_cases hx0 : 0 ≤ x
  · have g1 : decide (x ≥ 0) = true := decide_eq_true hx0
    have g1' : decide (0 ≤ x) = true := decide_eq_true hx0
    obtain ⟨m, hm⟩ : ∃ m, (Lib.compact (sI (iT t))).length = m := ⟨_, rfl⟩
    rw [hm] at hc HN
    clear hx hm
    go_wp2_with fail
    refine hc.mono ?_
    rintro e W3 ⟨rfl, g3⟩
    have hb3 : Hid (Below w.heap.size w W3) := HN.out.2.1.trans ⟨g3.os, g3.tape, g3.output, g3.size, fun i hi => g3.block i (Nat.lt_of_lt_of_le hi HN.out.2.1.size) (fun e => by simp at e; omega)⟩
    by_cases hmn : m = n
    · have g4 : ((m : Int) == (n : Int)) = true := by simp [hmn]
      have HE : Hid (numP (iT t) = true) := by
        show numP (iT t) = true
        rw [HN.out.1, g1', decide_eq_true hmn]
        rfl
      clear hmn g3 hc
      go_wp2_with fail
      go_ret
      exact ⟨by rw [HE.out]; rfl, hb3.out⟩
    · have g4 : ((m : Int) == (n : Int)) = false := by simp; omega
      have HE : Hid (numP (iT t) = false) := by
        show numP (iT t) = false
        rw [HN.out.1, decide_eq_false hmn, Bool.and_false]
      clear hmn g3 hc
      go_wp2_with fail
      go_ret
      exact ⟨by rw [HE.out]; rfl, hb3.out⟩
  · have g1 : decide (x ≥ 0) = false := decide_eq_false hx0
    have g1' : decide (0 ≤ x) = false := decide_eq_false hx0
    clear hx hc
    go_wp2_with fail
    go_ret
    exact ⟨by rw [HN.out.1, g1']; rfl, HN.out.2.1⟩
end Go.Proofs.Ytdpibnmbgjhohaa
