/- Longest, Goes, Count of a trie. -/
import Derived.Test.YtaadphifagimaaaDoorPut
namespace Go.Proofs.YtaadphifagimaaaDoor
open Go.RowKit Go.Maps

/-- The longest name that the first k bytes begin with. -/
def best (l : List Rf) (s : Path) : Nat → Int × Nat
  | 0 => (0, 0)
  | k + 1 => match val l (s.take (k + 1)) with
    | some r => (r, k + 1)
    | none => best l s k
def goes (l : List Rf) (s : Path) : Bool := decide (0 < cnt [] l) && pre l s

theorem best_le (l : List Rf) (s : Path) (k : Nat) : (best l s k).2 ≤ k := by
  induction k with
  | zero => exact Nat.le_refl _
  | succ k ih =>
    unfold best
    split
    · exact Nat.le_refl _
    · omega

theorem below_drewN {B : Nat} {w w' : World} (h : Below B w w') (n : Nat) : Below B w (w'.drewN n) := ⟨h.os, h.tape, h.output, h.size, h.block⟩

theorem pre_mono {l : List Rf} {p q : Path} (h : pre l (p ++ q) = true) : pre l p = true := by
  simp only [pre, List.any_eq_true, Bool.and_eq_true, List.isPrefixOf_iff_prefix] at *
  obtain ⟨x, h1, h2, t, h3⟩ := h
  exact ⟨x, h1, h2, q ++ t, by rw [← h3, List.append_assoc]⟩

/-- Where no name begins so, nothing longer counts. -/
theorem best_stop {l : List Rf} {s : Path} {k : Nat} (h : pre l (s.take (k + 1)) = false) (m : Nat) (hk : k ≤ m) : best l s m = best l s k := by
  induction m with
  | zero => obtain rfl : k = 0 := by omega
            rfl
  | succ m ih =>
    by_cases e : k = m + 1
    · rw [e]
    · have hv : val l (s.take (m + 1)) = none := by
        cases hv : val l (s.take (m + 1)) with
        | none => rfl
        | some v =>
          have h1 := val_pre hv
          have h2 : s.take (m + 1) = s.take (k + 1) ++ (s.take (m + 1)).drop (k + 1) := by
            have := (List.take_append_drop (k + 1) (s.take (m + 1))).symm
            rwa [List.take_take, Nat.min_eq_left (by omega)] at this
          rw [h2] at h1
          rw [pre_mono h1] at h
          cases h
      rw [best, hv]
      exact ih (by omega)

theorem cnt_pos {l : List Rf} (h : cnt [] l = 0) (p : Path) : pre l p = false := by
  cases hp : pre l p with
  | false => rfl
  | true =>
    exfalso
    simp only [pre, List.any_eq_true, Bool.and_eq_true] at hp
    obtain ⟨x, hx, hok, _⟩ := hp
    have key : ∀ (b a : List Rf), (∀ y ∈ a, y.ok = false) → (∃ y ∈ b, y.ok = true) → 0 < cnt a b := by
      intro b
      induction b with
      | nil => rintro a _ ⟨y, hy, _⟩; cases hy
      | cons z b ih =>
        rintro a ha ⟨y, hy, hyok⟩
        simp only [cnt]
        cases hz : z.ok with
        | true =>
          have : val a z.nm = none := by
            clear ih hy
            induction a with
            | nil => rfl
            | cons u a iha => simp only [val, ha u (by simp)]; simp; exact iha (fun y hy => ha y (by simp [hy]))
          simp [this]; omega
        | false =>
          have := ih (a ++ [z]) (fun u hu => by
            rcases List.mem_append.1 hu with h | h
            · exact ha u h
            · simp at h; rw [h]; exact hz) (by
            rcases List.mem_cons.1 hy with h | h
            · rw [h, hz] at hyok; cases hyok
            · exact ⟨y, h, hyok⟩)
          omega
    have := key l [] (fun y hy => by cases hy) ⟨x, hx, hok⟩
    omega

/-- What a look at the trie tells: the node behind a byte. -/
theorem look_at {w : World} {B t : Nat} {N M : Path → Option Nat} {V : Path → Option Int} {c : Int} {k : Nat} (T : TrieAt w B t N M V c k) (p : Path) (x : UInt8) (n : Nat) :
    (Instr.lookup 76 (.map (M p)) (.int .u8 (x.toNat : Int)) false).run Tryd.prog (w.drewN n) = .ok (ptr (N (p ++ [x]))) (w.drewN n) :=
  (T.same (w' := w.drewN n) (fun _ _ _ => rfl)).look p x

set_option maxHeartbeats 1000000 in
set_option maxRecDepth 10000 in
theorem longest_any {w : World} {B t : Nat} {l : List Rf} (T : TrieIs w B t l) (s : ByteArray) (hs : s.size ≤ 9223372036854775807) :
    Calls Tryd.prog 53 #[.pointer (some ⟨t, 0, none⟩), .string s] w fun e w' => e = .returned (.tuple #[.int .i64 (best l s.data.toList s.size).1, .int .i64 ((best l s.data.toList s.size).2 : Nat)]) ∧ Below w.heap.size w w' := by
  obtain ⟨N, M, k, T, _, hN⟩ := T
  have HT : Hid (TrieAt w B t N M (val l) (cnt [] l : Nat) k ∧ ∀ p, (N p).isSome = (p.isEmpty || pre l p)) := ⟨T, hN⟩
  have HR : Hid (N (s.data.toList.take 0) = some t) := T.root
  clear T hN
  go_enter Tryd.func53, Tryd.ntmps53
  go_wp2_with fail
  go_loopw [6, 7, 8, 17] (fun rv zv nv iv wr => ∃ (i b q : Nat), iv = .int .i64 i ∧ i ≤ s.size ∧ nv = .pointer (some ⟨b, 0, none⟩) ∧ N (s.data.toList.take i) = some b ∧ rv = .int .i64 (best l s.data.toList i).1 ∧ zv = .int .i64 ((best l s.data.toList i).2 : Nat) ∧ wr = w.drewN q) (fun _ _ _ iv _ => s.size - (intOf iv).toNat)
  case atStart => exact ⟨0, t, 0, rfl, Nat.zero_le _, rfl, HR.out, rfl, rfl, rfl⟩
  case round =>
    obtain ⟨i, b, q, rfl, hi, rfl, hb, rfl, rfl, rfl⟩ := hrel
    have O := HT.out.1.node _ _ hb
    have c0 := O.c0
    have HO : Hid (NodeIs w b (M (s.data.toList.take i)) (val l (s.data.toList.take i)) ∧ N (s.data.toList.take i) = some b) := ⟨O, hb⟩
    clear hb HR O
    by_cases hlt : i < s.size
    · have hlk := look_at HT.out.1 (s.data.toList.take i) s[i]
      rw [← take_snoc s i hlt] at hlk
      obtain ⟨mo, hmo⟩ : ∃ mo, M (s.data.toList.take i) = mo := ⟨_, rfl⟩
      rw [hmo] at hlk c0
      clear hmo
      have hne : (s.data.toList.take (i + 1)).isEmpty = false := by rw [take_snoc s i hlt]; simp
      have hN1 := HT.out.2 (s.data.toList.take (i + 1))
      rw [hne, Bool.false_or] at hN1
      cases hnx : N (s.data.toList.take (i + 1)) with
      | none =>
        rw [hnx] at hlk hN1
        simp only [ptr, Option.map_none] at hlk
        have HB : Hid (best l s.data.toList s.size = best l s.data.toList i) := best_stop hN1.symm _ hi
        clear hne hN1 hnx HO
        go_wp2_with fail
        go_quiet (fail)
        go_wp2_with fail
        go_ret2
        rw [HB.out]
        exact ⟨rfl, below_drewN (Below.refl _ _) _⟩
      | some b' =>
        rw [hnx] at hlk
        simp only [ptr, Option.map_some] at hlk
        have O' := HT.out.1.node _ _ hnx
        have e1 := O'.c1
        have e2 := O'.c2
        have HN : Hid (N (s.data.toList.take (i + 1)) = some b') := hnx
        clear hne hN1 hnx HO O'
        cases hv : val l (s.data.toList.take (i + 1)) with
        | none =>
          rw [hv] at e1
          simp only [Option.isSome_none] at e1
          have HB : Hid (best l s.data.toList (i + 1) = best l s.data.toList i) := by show _ = _; rw [best, hv]
          clear hv e2
          go_wp2_with fail
          go_quiet (fail)
          go_wp2_with fail
          refine ⟨⟨i + 1, b', _, by go_num, by omega, rfl, HN.out, by rw [HB.out], by rw [HB.out], rfl⟩, by simp [intOf]; omega⟩
        | some r =>
          rw [hv] at e1 e2
          simp only [Option.isSome_some, Option.getD_some] at e1 e2
          have HB : Hid (best l s.data.toList (i + 1) = (r, i + 1)) := by show _ = _; rw [best, hv]
          clear hv
          go_wp2_with fail
          go_quiet (fail)
          go_wp2_with fail
          refine ⟨⟨i + 1, b', _, by go_num, by omega, rfl, HN.out, by rw [HB.out], by rw [HB.out]; go_num, rfl⟩, by simp [intOf]; omega⟩
    · have hie : i = s.size := by omega
      subst hie
      clear HO
      go_wp2_with fail
      go_ret2
      exact ⟨rfl, below_drewN (Below.refl _ _) _⟩

set_option maxHeartbeats 1000000 in
set_option maxRecDepth 10000 in
theorem goes_any {w : World} {B t : Nat} {l : List Rf} (T : TrieIs w B t l) (s : ByteArray) (hs : s.size ≤ 9223372036854775807) :
    Calls Tryd.prog 64 #[.pointer (some ⟨t, 0, none⟩), .string s] w fun e w' => e = .returned (.bool (goes l s.data.toList)) ∧ Below w.heap.size w w' := by
  obtain ⟨N, M, k, T, _, hN⟩ := T
  have HT : Hid (TrieAt w B t N M (val l) (cnt [] l : Nat) k ∧ ∀ p, (N p).isSome = (p.isEmpty || pre l p)) := ⟨T, hN⟩
  have HR : Hid (N (s.data.toList.take 0) = some t) := T.root
  have c3 := T.count
  obtain ⟨cn, hcn⟩ : ∃ cn, cnt [] l = cn := ⟨_, rfl⟩
  rw [hcn] at c3
  have HC : Hid (cnt [] l = cn) := hcn
  clear T hN hcn
  go_enter Tryd.func64, Tryd.ntmps64
  go_wp2_with fail
  go_loopw [5, 14] (fun nv iv wr => ∃ (i b q : Nat), iv = .int .i64 i ∧ i ≤ s.size ∧ nv = .pointer (some ⟨b, 0, none⟩) ∧ N (s.data.toList.take i) = some b ∧ wr = w.drewN q) (fun _ iv _ => s.size - (intOf iv).toNat)
  case atStart => exact ⟨0, t, 0, rfl, Nat.zero_le _, rfl, HR.out, rfl⟩
  case round =>
    obtain ⟨i, b, q, rfl, hi, rfl, hb, rfl⟩ := hrel
    have O := HT.out.1.node _ _ hb
    have c0 := O.c0
    have HO : Hid (N (s.data.toList.take i) = some b) := hb
    clear hb HR O
    by_cases hlt : i < s.size
    · have hlk := look_at HT.out.1 (s.data.toList.take i) s[i]
      rw [← take_snoc s i hlt] at hlk
      obtain ⟨mo, hmo⟩ : ∃ mo, M (s.data.toList.take i) = mo := ⟨_, rfl⟩
      rw [hmo] at hlk c0
      clear hmo
      have hne : (s.data.toList.take (i + 1)).isEmpty = false := by rw [take_snoc s i hlt]; simp
      have hN1 := HT.out.2 (s.data.toList.take (i + 1))
      rw [hne, Bool.false_or] at hN1
      cases hnx : N (s.data.toList.take (i + 1)) with
      | none =>
        rw [hnx] at hlk hN1
        simp only [ptr, Option.map_none] at hlk
        have HB : Hid (goes l s.data.toList = false) := by
          have : pre l s.data.toList = false := by
            cases hp : pre l s.data.toList with
            | false => rfl
            | true =>
              rw [← List.take_append_drop (i + 1) s.data.toList] at hp
              rw [pre_mono hp] at hN1
              cases hN1
          show goes l s.data.toList = false
          simp [goes, this]
        clear hne hN1 hnx HO c3
        go_wp2_with fail
        go_quiet (fail)
        go_wp2_with fail
        go_ret
        rw [HB.out]
        exact ⟨rfl, below_drewN (Below.refl _ _) _⟩
      | some b' =>
        rw [hnx] at hlk
        simp only [ptr, Option.map_some] at hlk
        have HN : Hid (N (s.data.toList.take (i + 1)) = some b') := hnx
        clear hne hN1 hnx HO
        go_wp2_with fail
        go_quiet (fail)
        go_wp2_with fail
        refine ⟨⟨i + 1, b', _, by go_num, by omega, rfl, HN.out, rfl⟩, by simp [intOf]; omega⟩
    · have hie : i = s.size := by omega
      subst hie
      have HB : Hid (goes l s.data.toList = decide (0 < cn)) := by
        show goes l s.data.toList = decide (0 < cn)
        have h1 := HT.out.2 s.data.toList
        have h2 := HO.out
        rw [take_all] at h2
        rw [h2] at h1
        unfold goes
        rw [HC.out]
        by_cases h0 : 0 < cn
        · cases hs : s.data.toList with
          | nil =>
            have : pre l [] = true := by
              cases hp : pre l [] with
              | true => rfl
              | false =>
                exfalso
                have hz : cnt [] l = 0 := by
                  have key : ∀ (b a : List Rf), (∀ y ∈ b, y.ok = false) → cnt a b = 0 := by
                    intro b
                    induction b with
                    | nil => intro a _; rfl
                    | cons z b ih =>
                      intro a h
                      simp only [cnt]
                      rw [h z (by simp), ih _ (fun y hy => h y (by simp [hy]))]
                      simp
                  refine key l [] fun y hy => ?_
                  simp only [pre, List.any_eq_false, Bool.and_eq_true, not_and] at hp
                  have := hp y hy
                  cases hok : y.ok with
                  | false => rfl
                  | true => exact absurd rfl (this hok)
                have := HC.out
                omega
            rw [this, Bool.and_true]
          | cons a b =>
            rw [hs] at h1
            simp only [List.isEmpty_cons, Bool.false_or, Option.isSome_some] at h1
            rw [← h1, Bool.and_true]
        · have : decide (0 < cn) = false := decide_eq_false h0
          rw [this]; rfl
      clear HO
      go_wp2_with fail
      go_ret
      rw [HB.out]
      exact ⟨by simp, below_drewN (Below.refl _ _) _⟩

theorem longest_nil (s : ByteArray) (w : World) : Calls Tryd.prog 53 #[.pointer none, .string s] w fun e w' => e = .returned (.tuple #[.int .i64 0, .int .i64 0]) ∧ w' = w := by
  go_enter Tryd.func53, Tryd.ntmps53
  go_wp2_with fail
  go_ret2
  exact ⟨rfl, rfl⟩
theorem goes_nil (s : ByteArray) (w : World) : Calls Tryd.prog 64 #[.pointer none, .string s] w fun e w' => e = .returned (.bool false) ∧ w' = w := by
  go_enter Tryd.func64, Tryd.ntmps64
  go_wp2_with fail
  go_ret
  exact ⟨rfl, rfl⟩
end Go.Proofs.YtaadphifagimaaaDoor
