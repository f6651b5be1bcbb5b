/- slices.Sorted(maps.Keys(m)) at a node's map: the map's bytes, rising. -/
import Derived.Test.YtfkhpcgccjlpgaaIt
import Derived.Test.YtfkhpcgccjlpgaaSd
namespace Go.Proofs.Ytfkhpcgccjlpgaa
open Go.RowKit Go.Sort

theorem nodup_lt : ∀ (n : Nat) (l : List Nat), l.Nodup → (∀ x ∈ l, x < n) → l.length ≤ n
  | 0, l, _, h => by
    cases l with
    | nil => exact Nat.le_refl _
    | cons x l => exact absurd (h x (by simp)) (by omega)
  | n + 1, l, hd, h => by
    have h1 := nodup_lt n (l.erase n) (hd.erase n) (fun x hx => by
      have h2 := List.mem_of_mem_erase hx
      have h3 := h x h2
      have h4 : x ≠ n := fun e => by subst e; exact (hd.mem_erase_iff.1 hx).1 rfl
      omega)
    by_cases hm : n ∈ l
    · rw [List.length_erase_of_mem hm] at h1
      omega
    · rw [List.erase_of_not_mem hm] at h1
      omega
theorem nodup_u8 {l : List UInt8} (h : l.Nodup) : l.length ≤ 256 := by
  have h1 := nodup_lt 256 (l.map UInt8.toNat) (List.pairwise_map.2 (h.imp fun hne e => hne (UInt8.toNat_inj.1 e))) (fun x hx => by
    obtain ⟨y, _, rfl⟩ := List.mem_map.1 hx
    exact UInt8.toNat_lt y)
  simpa using h1

set_option maxHeartbeats 400000 in
theorem ins_nil (w : World) : Calls Try.prog 32 #[.slice none 0 0, .int .i64 0, .int .i64 0] w fun e w' => e = .returned (.tuple #[]) ∧ w' = w := by
  go_enter Try.func32, Try.ntmps32
  go_wp2_with fail
  go_loop [6] (fun iv => iv = .int .i64 1) (fun _ => 0)
  case atStart => rfl
  case round =>
    subst hrel
    go_wp2_with fail
    exact bodyPost_end (results_none rfl _ _ _) rfl ⟨rfl, rfl⟩
set_option maxHeartbeats 400000 in
theorem pdq_nil (w : World) (t : Nat) : Calls Try.prog 30 #[.slice none 0 0, .int .i64 0, .int .i64 0, .int .i64 t] w fun e w' => e = .returned (.tuple #[]) ∧ w' = w := by
  go_enter Try.func30, Try.ntmps30
  go_wp2_with fail
  go_loop [1, 2] (fun a b => a = .int .i64 0 ∧ b = .int .i64 0) (fun _ _ => 0)
  case atStart => exact ⟨rfl, rfl⟩
  case round =>
    obtain ⟨rfl, rfl⟩ := hrel
    go_wp2_with fail
    refine (ins_nil _).mono ?_
    rintro e w1 ⟨rfl, rfl⟩
    go_wp2_with fail
    exact bodyPost_ret (results_none rfl _ _ _) rfl ⟨rfl, rfl⟩
set_option maxHeartbeats 400000 in
theorem sort_nil (w : World) : Calls Try.prog 27 #[.slice none 0 0] w fun e w' => e = .returned (.tuple #[]) ∧ w' = w := by
  go_enter Try.func27, Try.ntmps27
  go_wp2_with fail
  refine (len_any 0 (by decide) w).mono ?_
  rintro e w1 ⟨t, rfl, _, rfl⟩
  go_wp2_with fail
  refine (pdq_nil w1 t).mono ?_
  rintro e w2 ⟨rfl, rfl⟩
  go_wp2_with fail
  exact bodyPost_end (results_none rfl _ _ _) rfl ⟨rfl, rfl⟩

set_option maxHeartbeats 400000 in
theorem collect_any (Bm k : Nat) (mo : Option Nat) (f : UInt8 → Option Nat) (w : World) (hk : k ≤ 100000) (hBm : Bm < w.heap.size) (hm : w.cell? ⟨Bm, 0, none⟩ = some (.map mo)) (hM : MapAt w mo k f) :
    Calls Try.prog 26 #[.func (.func 28) #[] #[.pointer (some ⟨Bm, 0, none⟩)]] w fun e W' => ∃ (v : Value) (ss : List UInt8), e = .returned v ∧ (ss.Nodup ∧ ∀ x, x ∈ ss ↔ (f x).isSome = true) ∧ W'.ownsRow w.heap.size 5 1 v ss.length (ss.map eu) ∧ RowKit.Below w.heap.size w W' := by
  have hap := (callsIn_wide (n := 3)).1 (apseq_in Fence.wide 3 trivial trivial rfl (by omega) Bm k mo f w hk hBm hm hM)
  clear hM hm
  go_enter Try.func26, Try.ntmps26
  go_wp2_with fail
  refine hap.mono ?_
  rintro e w1 ⟨v, ss, rfl, h1, h2, h3⟩
  have H : Hid ((ss.Nodup ∧ ∀ x, x ∈ ss ↔ (f x).isSome = true) ∧ w1.ownsRow w.heap.size 5 1 v ss.length (ss.map eu) ∧ RowKit.Below w.heap.size w w1) := ⟨h1, h2, h3⟩
  clear h1 h2 h3 hap
  go_wp2_with fail
  go_ret
  exact ⟨v, ss, rfl, H.out⟩

/-- The bytes of a row, rising. -/
def Rising (w : World) (B : Nat) (v : Value) (ss : List UInt8) : Prop :=
  ∃ ao cap, v = .slice ao ss.length cap ∧ (∀ j x, ss[j]? = some x → ∃ g, ao = some ⟨g, 0, none⟩ ∧ B ≤ g ∧ g < w.heap.size ∧ w.cell? ⟨g, j, none⟩ = some (eu x)) ∧ ss.Pairwise (fun x y => x.toNat < y.toNat)

theorem sorted_list {d d' : Array Int} {ss : List UInt8} {n : Nat} (hd : d = (ss.map fun x : UInt8 => (x.toNat : Int)).toArray) (hn : ss.length = n) (hz : d'.size = n) (hp : PermIn 0 n d d') (hs : SortedIn ltInt 0 n d') (hnd : ss.Nodup) :
    ∃ ss' : List UInt8, ss'.Perm ss ∧ d' = (ss'.map fun x : UInt8 => (x.toNat : Int)).toArray ∧ ss'.Pairwise (fun x y => x.toNat < y.toNat) := by
  have hdz : d.size = n := by rw [hd]; simp [hn]
  have hperm : d'.toList.Perm (ss.map fun x : UInt8 => (x.toNat : Int)) := by
    have := hp.2.2
    have ex : ∀ (a : Array Int), a.size = n → (a.extract 0 n).toList = a.toList := fun a ha => by subst ha; simp
    rw [ex _ hz, ex _ hdz] at this
    rw [hd] at this
    exact this
  obtain ⟨ss', hss, he⟩ : ∃ ss' : List UInt8, ss'.Perm ss ∧ d'.toList = ss'.map fun x : UInt8 => (x.toNat : Int) := by
    refine ⟨d'.toList.map (fun z => UInt8.ofNat z.toNat), ?_, ?_⟩
    · have := hperm.map (fun z : Int => UInt8.ofNat z.toNat)
      rw [List.map_map] at this
      have e : ((fun z : Int => UInt8.ofNat z.toNat) ∘ fun x : UInt8 => (x.toNat : Int)) = id := by
        funext x
        simp
      rwa [e, List.map_id] at this
    · rw [List.map_map]
      have : ∀ z ∈ d'.toList, ((fun x : UInt8 => (x.toNat : Int)) ∘ fun z : Int => UInt8.ofNat z.toNat) z = z := fun z hz => by
        obtain ⟨x, _, rfl⟩ := List.mem_map.1 (hperm.mem_iff.1 hz)
        simp
      exact (List.map_id _).symm.trans (List.map_congr_left fun z hz => (this z hz).symm)
  refine ⟨ss', hss, by rw [← he], ?_⟩
  have hnd' : ss'.Nodup := hss.nodup_iff.2 hnd
  have hlen : ss'.length = n := by rw [hss.length_eq, hn]
  rw [List.pairwise_iff_getElem]
  intro i j hi hj hij
  have h1 := hs i j (Nat.zero_le _) hij (by omega)
  have hne : ss'[i] ≠ ss'[j] := fun e => by
    have := (List.nodup_iff_pairwise_ne.1 hnd')
    rw [List.pairwise_iff_getElem] at this
    exact this i j hi hj hij e
  have g : ∀ q (hq : q < ss'.length), d'[q]! = (ss'[q].toNat : Int) := fun q hq => by
    have hq2 : q < d'.size := by omega
    rw [getElem!_pos d' q hq2, ← Array.getElem_toList]
    simp [he]
  rw [g i hi, g j hj] at h1
  simp only [ltInt, decide_eq_false_iff_not] at h1
  have : ss'[i].toNat ≠ ss'[j].toNat := fun e => hne (UInt8.toNat_inj.1 e)
  omega

set_option maxHeartbeats 1000000 in
theorem sorted_any (Bm k : Nat) (mo : Option Nat) (f : UInt8 → Option Nat) (w : World) (hk : k ≤ 100000) (hBm : Bm < w.heap.size) (hm : w.cell? ⟨Bm, 0, none⟩ = some (.map mo)) (hM : MapAt w mo k f) :
    Calls Try.prog 24 #[.func (.func 28) #[] #[.pointer (some ⟨Bm, 0, none⟩)]] w fun e W' => ∃ (v : Value) (ss : List UInt8), e = .returned v ∧ (∀ x, x ∈ ss ↔ (f x).isSome = true) ∧ Rising W' w.heap.size v ss ∧ RowKit.Below w.heap.size w W' := by
  have hco := collect_any Bm k mo f w hk hBm hm hM
  clear hM hm
  go_enter Try.func24, Try.ntmps24
  go_wp2_with fail
  refine hco.mono ?_
  rintro e w1 ⟨v, ss, rfl, ⟨hnd, hmem⟩, hrow, hbe⟩
  clear hco
  have hlen := nodup_u8 hnd
  rcases hrow.2 with ⟨rfl, h0⟩ | ⟨g, cap, cur, rfl, hB, hg, h1, h2, h3, h4⟩
  · have hss : ss = [] := List.eq_nil_of_length_eq_zero h0
    subst hss
    have HH : Hid ((∀ x : UInt8, x ∈ ([] : List UInt8) ↔ (f x).isSome = true) ∧ RowKit.Below w.heap.size w w1) := ⟨hmem, hbe⟩
    clear hmem hbe hrow hnd h0
    go_wp2_with fail
    refine (sort_nil w1).mono ?_
    rintro e w2 ⟨rfl, rfl⟩
    go_wp2_with fail
    go_ret
    exact ⟨_, [], rfl, HH.out.1, ⟨none, 0, rfl, fun j x h => by simp at h, List.Pairwise.nil⟩, HH.out.2⟩
  · obtain ⟨n, hn⟩ : ∃ n, ss.length = n := ⟨_, rfl⟩
    have hglt : g < w1.heap.size := (Array.getElem?_eq_some_iff.1 hg).1
    have hH : HB w1 g (ss.map fun x : UInt8 => (x.toNat : Int)).toArray := fun j hj => by
      have hj' : j < ss.length := by simpa using hj
      refine ⟨?_, by simp [World.frozen?, hg]⟩
      have e1 : cur.toList[j]? = some (eu ss[j]) := by
        have : (cur.toList.take (ss.length * 1))[j]? = some (eu ss[j]) := by rw [h4]; simp [hj']
        rwa [List.getElem?_take_of_lt (by omega)] at this
      simp [World.cell?, hg]
      rw [Array.getElem?_toList] at e1
      rw [e1]
      simp [hj']
    have hso := sort_any g n cap _ w1 (by omega) (by simp [hn]) hH hglt
    have HH : Hid ((∀ x : UInt8, x ∈ ss ↔ (f x).isSome = true) ∧ RowKit.Below w.heap.size w w1 ∧ ss.Nodup ∧ ss.length = n ∧ w.heap.size ≤ g) := ⟨hmem, hbe, hnd, hn, hB⟩
    rw [hn]
    clear hmem hbe hrow hnd hg h1 h2 h3 h4 hH hn
    go_wp2_with fail
    refine hso.mono ?_
    rintro e w2 ⟨rfl, d', p2, s2, z2, g2, m2⟩
    have HF : Hid (∃ ss' : List UInt8, ss'.length = n ∧ (∀ x : UInt8, x ∈ ss' ↔ (f x).isSome = true) ∧ Rising w2 w.heap.size (.slice (some ⟨g, 0, none⟩) n cap) ss' ∧ RowKit.Below w.heap.size w w2) := by
      obtain ⟨q1, q2, q3, q4, q5⟩ := HH.out
      obtain ⟨ss', r1, r2, r3⟩ := sorted_list rfl q4 z2 p2 s2 q3
      have hl' : ss'.length = n := r1.length_eq.trans q4
      refine ⟨ss', hl', fun x => by rw [r1.mem_iff]; exact q1 x, ⟨_, _, by rw [hl'], fun j x hx => ?_, r3⟩, ?_⟩
      · have hj := (List.getElem?_eq_some_iff.1 hx).1
        refine ⟨g, rfl, q5, Nat.lt_of_lt_of_le hglt m2.size, ?_⟩
        have := (g2 j (by rw [z2]; omega)).1
        rw [this, r2]
        have hx2 := (List.getElem?_eq_some_iff.1 hx).2
        simp [hj, hx2]
      · exact q2.trans ⟨m2.os, m2.tape, m2.output, m2.size, fun i hi => m2.block i (by have := q2.size; omega) (by omega)⟩
    clear p2 s2 z2 g2 m2 hso HH
    go_wp2_with fail
    go_ret
    obtain ⟨ss', q0, q1, q2, q3⟩ := HF.out
    exact ⟨_, ss', rfl, q1, q2, q3⟩
end Go.Proofs.Ytfkhpcgccjlpgaa
