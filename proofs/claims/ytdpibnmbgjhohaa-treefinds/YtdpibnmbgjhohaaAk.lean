/- The document's Get, Add, Missing, Sorted of attributes (of stage 8). -/
import Derived.Test.YtdpibnmbgjhohaaAh
import Derived.Laws.Cover1
namespace Go.Proofs.Ytdpibnmbgjhohaa
open Go.RowKit

theorem AtRow.below {w w' : World} {lo : Option Addr} {l : List At} (h : AtRow w lo l) (b : Below w.heap.size w w') : AtRow w' lo l := h.old b
theorem AtRow.nil (w : World) (lo : Option Addr) : AtRow w lo [] := fun i x hx => by simp at hx

abbrev RowIs (w : World) (B : Nat) (v : Value) (L : List At) : Prop := w.ownsRow B 53 2 v L.length (L.flatMap At.cells)

theorem own_blk8 {w : World} {B e s n : Nat} {v : Value} {xs : List Value} (h : w.ownsRow B e s v n xs) {g : Nat} (hg : v.ownBlock = some g) : B ≤ g ∧ g < w.heap.size ∧ ∃ cur, w.heap[g]? = some (.cells cur e (0, 0)) := by
  rcases h.2 with ⟨rfl, _⟩ | ⟨g', cap, cur, rfl, hB, hgb, _⟩
  · simp [Value.ownBlock] at hg
  · simp [Value.ownBlock] at hg; subst hg
    exact ⟨hB, (Array.getElem?_eq_some_iff.1 hgb).1, cur, hgb⟩
theorem own_below {w w' : World} {B e s n : Nat} {v : Value} {xs : List Value} (h : w.ownsRow B e s v n xs) (b : Below w.heap.size w w') : w'.ownsRow B e s v n xs := own_mv h fun g hg => b.block g (own_blk8 h hg).2.1

/-- Nothing that was there has turned but l's own block. -/
structure LFr (l : Value) (w w' : World) : Prop where
  os : w'.os = w.os
  tape : w'.tape = w.tape
  output : w'.output = w.output
  size : w.heap.size ≤ w'.heap.size
  block : ∀ d, d < w.heap.size → some d ≠ l.ownBlock → w'.heap[d]? = w.heap[d]?
theorem LFr.refl (l : Value) (w : World) : LFr l w w := ⟨rfl, rfl, rfl, Nat.le_refl _, fun _ _ _ => rfl⟩
theorem lfr_below {w w' : World} {B e s : Nat} {l : Value} {n : Nat} {xs : List Value} (h : LFr l w w') (ho : w.ownsRow B e s l n xs) (hB : B ≤ w.heap.size) : Below B w w' :=
  ⟨h.os, h.tape, h.output, h.size, fun d hd => h.block d (by omega) (fun e => by have := (own_blk8 ho e.symm).1; omega)⟩

theorem at_at (l : List At) (i : Nat) (x : At) (h : l[i]? = some x) : (l.flatMap At.cells)[i * 2]? = some (.string x.n) ∧ (l.flatMap At.cells)[i * 2 + 1]? = some (.string x.v) := by
  induction l generalizing i with
  | nil => simp at h
  | cons y l ih =>
    rw [List.flatMap_cons]
    cases i with
    | zero => simp at h; subst h; exact ⟨rfl, rfl⟩
    | succ i =>
      have := ih i (by simpa using h)
      rw [show (i + 1) * 2 = i * 2 + 1 + 1 by omega, show i * 2 + 1 + 1 + 1 = (i * 2 + 1) + 1 + 1 by omega]
      simp only [At.cells, List.cons_append, List.nil_append, List.getElem?_cons_succ]
      exact this
theorem cells_at : ∀ (M : List At) (j : Nat) (u : Value), (M.flatMap At.cells)[j]? = some u → ∃ i x, M[i]? = some x ∧ ((j = i * 2 ∧ u = .string x.n) ∨ (j = i * 2 + 1 ∧ u = .string x.v))
  | [], j, u, h => by simp at h
  | x :: M, 0, u, h => ⟨0, x, rfl, .inl ⟨rfl, by simpa [At.cells] using h.symm⟩⟩
  | x :: M, 1, u, h => ⟨0, x, rfl, .inr ⟨rfl, by simpa [At.cells] using h.symm⟩⟩
  | x :: M, j + 2, u, h => by
    have h' : (M.flatMap At.cells)[j]? = some u := by simpa [At.cells] using h
    obtain ⟨i, y, h1, h2⟩ := cells_at M j u h'
    refine ⟨i + 1, y, by simpa using h1, ?_⟩
    rcases h2 with ⟨h2, h3⟩ | ⟨h2, h3⟩
    · exact .inl ⟨by omega, h3⟩
    · exact .inr ⟨by omega, h3⟩
theorem cells_one : ∀ (M : List At) (u : Value), u ∈ M.flatMap At.cells → u.oneCell' = true := fun M u h => by
  rw [List.mem_flatMap] at h
  obtain ⟨x, _, h⟩ := h
  simp only [At.cells, List.mem_cons, List.not_mem_nil, or_false] at h
  rcases h with rfl | rfl <;> rfl
theorem cells_len (M : List At) : (M.flatMap At.cells).length = M.length * 2 := by
  induction M with
  | nil => rfl
  | cons x M ih => rw [List.flatMap_cons, List.length_append, ih, List.length_cons]; simp [At.cells]; omega

theorem row_at {w : World} {B : Nat} {v : Value} {L : List At} (h : RowIs w B v L) : ∃ ao cap, v = .slice ao L.length cap ∧ AtRow w ao L ∧ L.length ≤ cap ∧ cap ≤ maxLen := by
  rcases h.2 with ⟨rfl, h0⟩ | ⟨g, cap, cur, rfl, hB, hg, h1, h2, h3, h4⟩
  · have : L = [] := List.eq_nil_of_length_eq_zero h0
    subst this
    exact ⟨none, 0, rfl, AtRow.nil _ _, Nat.le_refl _, by unfold maxLen; omega⟩
  · refine ⟨_, cap, rfl, fun i x hx => ?_, h1, h2⟩
    have hil := (List.getElem?_eq_some_iff.1 hx).1
    obtain ⟨q1, q2⟩ := at_at L i x hx
    rw [← h4, List.getElem?_take_of_lt (by omega), Array.getElem?_toList] at q1 q2
    refine ⟨g, 0, rfl, (Array.getElem?_eq_some_iff.1 hg).1, ?_, ?_⟩
    · simp [World.cell?, hg, q1]
    · simp [World.cell?, hg, q2]

/-- Attributes behind a row of one's own. -/
theorem row_more {w : World} {B : Nat} {l : Value} {L M : List At} (h : RowIs w B l L) (ao : Option Addr) (c : Nat) (hM : AtRow w ao M) (hB : B ≤ w.heap.size) (hL : L.length ≤ 5000) (hM2 : M.length ≤ 5000) :
    ∃ l' w', (Builtin.append_ #[22, 22] 22 #[l, .slice ao M.length c]).run Try.prog w = .ok l' w' ∧ RowIs w' B l' (L ++ M) ∧ LFr l w w' := by
  obtain ⟨i0, hi, hz0, hz1, hz2⟩ := info_parts info53
  by_cases h0 : M = []
  · subst h0
    obtain ⟨bo, cap, rfl, _, hc, _⟩ := row_at h
    have hs : Src Try.prog i0.size 22 (.slice ao 0 c) 0 [] w := by
      cases ao with
      | none => exact Src.ofNil w Try.underlying22 c
      | some a => exact Src.ofSlice w Try.underlying22 a 0 c [] (by simp) (by simp) (by simp)
    exact ⟨_, _, run_append_nothing (P := Try.prog) w 22 22 22 53 i0 Try.underlying22 hi bo L.length cap hc _ hs, by rw [List.append_nil]; exact h, LFr.refl _ _⟩
  · obtain ⟨x, hx⟩ : ∃ x, M[0]? = some x := by
      cases M with
      | nil => exact absurd rfl h0
      | cons x M => exact ⟨x, rfl⟩
    obtain ⟨b, off, rfl, _⟩ := hM 0 x hx
    obtain ⟨l', w', hr, ho, hg, _, _⟩ := run_append_own_at (P := Try.prog) w B 22 22 53 i0 _ 2 32 Try.underlying22 hi hz0 hz1 hz2 rfl (by decide) l L.length _ h ⟨b, off, none⟩ M.length c (M.flatMap At.cells) (cells_len M)
      (fun j u hj => by
        rw [Addr.add_lit]
        obtain ⟨i, y, h1, h2⟩ := cells_at M j u hj
        obtain ⟨b', off', e, _, c1, c2⟩ := hM i y h1
        simp only [Option.some.injEq, Addr.mk.injEq, and_true] at e
        obtain ⟨rfl, rfl⟩ := e
        rcases h2 with ⟨rfl, rfl⟩ | ⟨rfl, rfl⟩
        · exact c1
        · rw [← Nat.add_assoc]; exact c2) (cells_one M) (by unfold maxLen; omega) (by omega) hB
    refine ⟨l', w', hr, ?_, ?_⟩
    · show w'.ownsRow B 53 2 l' (L ++ M).length ((L ++ M).flatMap At.cells)
      rw [List.length_append, List.flatMap_append]
      exact ho
    · exact ⟨hg.os, hg.tape, hg.output, hg.size, fun d hd hne => hg.block d hd hne⟩

theorem at_take {w : World} {ao : Option Addr} {A : List At} (h : AtRow w ao A) (k : Nat) : AtRow w ao (A.take k) := fun i x hx => by
  have hil : i < k := by
    have := (List.getElem?_eq_some_iff.1 hx).1
    rw [List.length_take] at this
    omega
  rw [List.getElem?_take_of_lt hil] at hx
  exact h i x hx
theorem at_drop {w : World} {ao : Option Addr} {A : List At} (h : AtRow w ao A) (k cap : Nat) (hc : A.length ≤ cap) : AtRow w (if cap = k then ao else ao.map (·.add (k * 2))) (A.drop k) := fun i x hx => by
  have hil := (List.getElem?_eq_some_iff.1 hx).1
  rw [List.length_drop] at hil
  rw [List.getElem?_drop] at hx
  obtain ⟨b, off, rfl, h1, h2, h3⟩ := h _ x hx
  rw [if_neg (by omega)]
  refine ⟨b, off + k * 2, by simp [Addr.add_lit], h1, ?_, ?_⟩
  · rw [show off + k * 2 + i * 2 = off + (k + i) * 2 by omega]; exact h2
  · rw [show off + k * 2 + i * 2 = off + (k + i) * 2 by omega]; exact h3
theorem at_one8 (w : World) (x : At) : AtRow (w.alloc (.cells #[.string x.n, .string x.v] 53)) (some ⟨w.heap.size, 0, none⟩) [x] := fun i y hy => by
  have hi : i = 0 := by
    have := (List.getElem?_eq_some_iff.1 hy).1
    simp at this
    exact this
  subst hi
  simp at hy
  subst hy
  have hnew := heap_alloc_new w (.cells #[.string x.n, .string x.v] 53)
  obtain ⟨W, hW⟩ : ∃ W, w.alloc (.cells #[.string x.n, .string x.v] 53) = W := ⟨_, rfl⟩
  rw [hW] at hnew ⊢
  exact ⟨_, _, rfl, (Array.getElem?_eq_some_iff.1 hnew).1, by simp [World.cell?, hnew], by simp [World.cell?, hnew]⟩

theorem take_at {L : List At} {i : Nat} {x : At} (h : L[i]? = some x) : L.take (i + 1) = L.take i ++ [x] := by
  obtain ⟨h1, rfl⟩ := List.getElem?_eq_some_iff.1 h
  exact (List.take_append_getElem h1).symm

theorem miss_snoc (L M : List At) (x : At) : missP L (M ++ [x]) = addP (missP L M) x := by
  unfold missP
  rw [List.foldl_append]
  rfl
set_option maxHeartbeats 1000000 in
theorem rget_any {w : World} {ao : Option Addr} {L : List At} (n cap : Nat) (s : ByteArray) (ha : AtRow w ao L) (hn : L.length = n) (hn2 : n ≤ 100000) :
    Calls Try.prog 74 #[.slice ao n cap, .string s] w fun e w' => e = .returned (.tuple #[.string (gv (getP L s.data.toList)), .bool (getP L s.data.toList).isSome]) ∧ w' = w := by
  obtain ⟨g, hg0⟩ : ∃ g, getP L s.data.toList = g := ⟨_, rfl⟩
  rw [hg0]
  have HA : Hid (AtRow w ao L ∧ L.length = n ∧ getP (L.drop 0) s.data.toList = g) := ⟨ha, hn, hg0⟩
  clear ha hn hg0
  go_enter Try.func74, Try.ntmps74
  go_wp2_with fail
  go_loopg [6] n (fun g2 iv wr => ∃ i : Nat, iv = .int .i64 i ∧ i + g2 = n ∧ getP (L.drop i) s.data.toList = g ∧ wr = w)
  case atStart => exact ⟨0, rfl, by omega, HA.out.2.2, rfl⟩
  case round =>
    obtain ⟨i, rfl, hig, hgi, rfl⟩ := hrel
    have HG : Hid (getP (L.drop i) s.data.toList = g) := hgi
    clear hgi
    cases gk with
    | zero =>
      obtain rfl : i = n := by omega
      have hg0 : decide ((i : Int) < (i : Int)) = false := decide_eq_false (by omega)
      go_wp2_with fail
      have e : g = none := by
        have h := HG.out
        rw [List.drop_of_length_le (by rw [HA.out.2.1]; exact Nat.le_refl _)] at h
        exact h.symm
      subst e
      go_ret2
      exact ⟨rfl, rfl⟩
    | succ k =>
      have hin : i < n := by omega
      have hil : i < L.length := by rw [HA.out.2.1]; exact hin
      obtain ⟨x, hx⟩ : ∃ x, L[i]? = some x := ⟨_, List.getElem?_eq_getElem hil⟩
      obtain ⟨b1, o1, rfl, h1, c1, c2⟩ := HA.out.1 i x hx
      have HD : Hid (getP (L.drop i) s.data.toList = if x.nm = s.data.toList then some x else getP (L.drop (i + 1)) s.data.toList) := get_drop hx
      clear hil hx
      obtain ⟨nm, vl⟩ := x
      simp only at c1 c2
      by_cases hk : nm.data.toList = s.data.toList
      · have hb := beq_yes hk
        have e : g = some ⟨nm, vl⟩ := by
          rw [← HG.out, HD.out, if_pos hk]
        subst e
        clear hk
        go_wp2_with fail
        go_ret2
        exact ⟨rfl, rfl⟩
      · have hb := beq_no hk
        have HN : Hid (getP (L.drop (i + 1)) s.data.toList = g) := by
          have h := HD.out
          rw [if_neg hk] at h
          exact h.symm.trans HG.out
        clear hk
        go_wp2_with fail
        go_roundg k
        case measure => omega
        case rel => exact ⟨i + 1, by go_num, by omega, HN.out, rfl⟩


/-- What is there when a row has been made of others. -/
def Put1 (W : World) (A : List At) (v : Value) (w : World) : Prop := ∃ bo n c, v = .slice bo n c ∧ A.length = n ∧ AtRow w bo A ∧ n ≤ c ∧ c ≤ maxLen ∧ Below W.heap.size W w

theorem add_a {W : World} {ao : Option Addr} {A : List At} {n : Nat} (cap : Nat) (x : At) (hn : A.length = n) (hn2 : n ≤ 4000) (h1 : AtRow W ao A) :
    ∃ v1 w1 v2 w2, (Builtin.append_ #[22, 22] 22 #[.slice none 0 0, .slice ao n cap]).run Try.prog W.drew = .ok v1 w1 ∧
      (Builtin.append_ #[22, 22] 22 #[v1, .slice (some ⟨w1.heap.size, 0, none⟩) 1 1]).run Try.prog (w1.alloc (.cells #[.string x.n, .string x.v] 53)) = .ok v2 w2 ∧ Put1 W (A ++ [x]) v2 w2 ∧ Below W.heap.size W w1 := by
  subst hn
  have bW : Below W.heap.size W W.drew := (Below.refl _ _).drew
  obtain ⟨v1, w1, e1, r1, f1⟩ := row_more (w := W.drew) (B := W.heap.size) (L := []) (World.ownsRow_nil _ _ _ _) ao cap (h1.below bW) (Nat.le_refl _) (by simp) (by omega)
  rw [List.nil_append] at r1
  have b1 : Below W.heap.size W w1 := bW.trans (lfr_below f1 (World.ownsRow_nil _ _ 53 2) (Nat.le_refl _))
  obtain ⟨w1', hw1'⟩ : ∃ w1', w1' = w1.alloc (.cells #[.string x.n, .string x.v] 53) := ⟨_, rfl⟩
  have b1' : Below w1.heap.size w1 w1' := by rw [hw1']; exact (Below.refl _ _).alloc (Nat.le_refl _) _
  have o1 := at_one8 w1 x
  rw [← hw1'] at o1
  have r1' : RowIs w1' W.heap.size v1 A := own_below r1 b1'
  have bb1 : Below W.heap.size W w1' := b1.trans (b1'.mono b1.size)
  obtain ⟨v2, w2, e2, r2, f2⟩ := row_more r1' _ 1 o1 bb1.size (by omega) (by simp)
  have b2 : Below W.heap.size W w2 := bb1.trans (lfr_below f2 r1' bb1.size)
  rw [hw1'] at e2
  obtain ⟨co, c3, rfl, g1, g2, g3⟩ := row_at r2
  exact ⟨v1, w1, _, w2, e1, e2, ⟨co, _, c3, rfl, rfl, g1, g2, g3, b2⟩, b1⟩

theorem add_b {W : World} {ao : Option Addr} {A : List At} {n : Nat} (cap : Nat) (x : At) (hn : A.length = n) (hn2 : n ≤ 4000) (h1 : AtRow W ao A) :
    ∃ v1 w1 v2 w2, (Builtin.append_ #[22, 22] 22 #[.slice none 0 0, .slice ao n cap]).run Try.prog (W.alloc (.cells #[.string x.n, .string x.v] 53)).drew = .ok v1 w1 ∧
      (Builtin.append_ #[22, 22] 22 #[v1, .slice (some ⟨W.heap.size, 0, none⟩) 1 1]).run Try.prog w1 = .ok v2 w2 ∧ Put1 W (A ++ [x]) v2 w2 := by
  subst hn
  obtain ⟨V, hV⟩ : ∃ V, V = (W.alloc (.cells #[.string x.n, .string x.v] 53)).drew := ⟨_, rfl⟩
  have bV : Below W.heap.size W V := by rw [hV]; exact ((Below.refl _ _).alloc (Nat.le_refl _) _).drew
  have hVs : V.heap.size = W.heap.size + 1 := by rw [hV]; simp [World.drew]
  have o1 : AtRow V (some ⟨W.heap.size, 0, none⟩) [x] := by rw [hV]; exact (at_one8 W x).below (Below.refl _ _).drew
  rw [← hV]
  obtain ⟨v1, w1, e1, r1, f1⟩ := row_more (w := V) (B := V.heap.size) (L := []) (World.ownsRow_nil _ _ _ _) ao cap (h1.below bV) (Nat.le_refl _) (by simp) (by omega)
  rw [List.nil_append] at r1
  have b1 : Below V.heap.size V w1 := lfr_below f1 (World.ownsRow_nil _ _ 53 2) (Nat.le_refl _)
  obtain ⟨v2, w2, e2, r2, f2⟩ := row_more r1 _ 1 (o1.below b1) b1.size (by omega) (by simp)
  have b2 : Below V.heap.size V w2 := b1.trans (lfr_below f2 r1 b1.size)
  obtain ⟨co, c3, rfl, g1, g2, g3⟩ := row_at r2
  exact ⟨v1, w1, _, w2, e1, e2, co, _, c3, rfl, rfl, g1, g2, g3, bV.trans (b2.mono (by omega))⟩

set_option linter.unusedSimpArgs false in
set_option maxHeartbeats 4000000 in
set_option maxRecDepth 20000 in
theorem radd_any {w : World} {ao : Option Addr} {L : List At} (n cap : Nat) (nm vl : ByteArray) (ha : AtRow w ao L) (hn : L.length = n) (hn2 : n ≤ 4000) (hcap : n ≤ cap) (hcm : cap ≤ maxLen) :
    Calls Try.prog 57 #[.slice ao n cap, .agg #[.string nm, .string vl]] w fun e w' => ∃ bo k c, e = .returned (.tuple #[.slice bo k c, .bool (!hasP L nm.data.toList)]) ∧ (addP L ⟨nm, vl⟩).length = k ∧ AtRow w' bo (addP L ⟨nm, vl⟩) ∧ k ≤ c ∧ c ≤ maxLen ∧ Below w.heap.size w w' := by
  obtain ⟨r, hr⟩ : ∃ r, getP L nm.data.toList = r := ⟨_, rfl⟩
  have hs := get_some L nm.data.toList
  rw [hr] at hs
  have HA : Hid (AtRow w ao L ∧ L.length = n ∧ getP L nm.data.toList = r ∧ r.isSome = hasP L nm.data.toList) := ⟨ha, hn, hr, hs⟩
  clear ha hn hr
  obtain ⟨V, hV⟩ : ∃ V, w.alloc (.cells #[.string nm, .string vl] 53) = V := ⟨_, rfl⟩
  have hVn : V.heap[w.heap.size]? = some (.cells #[.string nm, .string vl] 53 (0, 0)) := by rw [← hV]; exact heap_alloc_new _ _
  have hVl : w.heap.size < V.heap.size := (Array.getElem?_eq_some_iff.1 hVn).1
  have d0 : V.cell? ⟨w.heap.size, 0, none⟩ = some (.string nm) := by simp [World.cell?, hVn]
  have d1 : V.cell? ⟨w.heap.size, 1, none⟩ = some (.string vl) := by simp [World.cell?, hVn]
  have HV : Hid (Below w.heap.size w V) := by rw [← hV]; exact (Below.refl w.heap.size w).alloc (Nat.le_refl _) _
  have hget := rget_any n cap nm (HA.out.1.below HV.out) HA.out.2.1 (by omega)
  rw [HA.out.2.2.1] at hget
  clear hVn
  rw [← hs]
  clear hs
  go_enter Try.func57, Try.ntmps57
  go_wp2_with fail
  clear hV
  refine hget.mono ?_
  rintro e w1 ⟨rfl, rfl⟩
  clear hget
  cases r with
  | some x =>
    have hh : hasP L nm.data.toList = true := HA.out.2.2.2.symm
    have H4 : Hid (addP L ⟨nm, vl⟩ = L) := by
      show addP L ⟨nm, vl⟩ = L
      unfold addP; rw [if_pos hh]
    clear hh
    go_wp2_with fail
    go_ret2
    exact ⟨ao, n, cap, rfl, by rw [H4.out]; exact HA.out.2.1, by rw [H4.out]; exact HA.out.1.below HV.out, hcap, hcm, HV.out⟩
  | none =>
    have hh : hasP L nm.data.toList = false := HA.out.2.2.2.symm
    have H4 : Hid (addP L ⟨nm, vl⟩ = L ++ [⟨nm, vl⟩]) := by
      show addP L ⟨nm, vl⟩ = L ++ [⟨nm, vl⟩]
      unfold addP; rw [if_neg (by rw [hh]; exact fun h => by cases h)]
    clear hh
    obtain ⟨v1, w2, v2, w3, e1, e2, ⟨bo3, n3, c3, rfl, p1, p2, p3, p4, p5⟩, hw1⟩ := add_a (W := w1) cap ⟨nm, vl⟩ HA.out.2.1 hn2 (HA.out.1.below HV.out)
    obtain ⟨v4, w4, v5, w5, e4, e5, ⟨bo6, n6, c6, rfl, p6, p7, p8, p9, p0⟩⟩ := add_b (W := w1) cap ⟨nm, vl⟩ HA.out.2.1 hn2 (HA.out.1.below HV.out)
    have d3 := (hw1.cell (p := ⟨w.heap.size, 0, none⟩) hVl).trans d0
    have d4 := (hw1.cell (p := ⟨w.heap.size, 1, none⟩) hVl).trans d1
    have hbw1 : w.heap.size < w2.heap.size := Nat.lt_of_lt_of_le hVl hw1.size
    have HP : Hid ((addP L ⟨nm, vl⟩).length = n3 ∧ AtRow w3 bo3 (addP L ⟨nm, vl⟩) ∧ n3 ≤ c3 ∧ c3 ≤ maxLen ∧ Below w.heap.size w w3) := by
      rw [H4.out]
      exact ⟨p1, p2, p3, p4, HV.out.trans (p5.mono HV.out.size)⟩
    have HQ : Hid ((addP L ⟨nm, vl⟩).length = n6 ∧ AtRow w5 bo6 (addP L ⟨nm, vl⟩) ∧ n6 ≤ c6 ∧ c6 ≤ maxLen ∧ Below w.heap.size w w5) := by
      rw [H4.out]
      exact ⟨p6, p7, p8, p9, HV.out.trans (p0.mono HV.out.size)⟩
    clear p1 p2 p3 p4 p5 p6 p7 p8 p9 p0 hw1
    simp only at e1 e2 e4 e5
    go_upto_region 4 with fail
    go_region_law (first
      | (refine step_append_eq rfl _ _ 22 22 rfl _ _ (by simp [Act.eval, Act.put]) (by simp [Act.eval, Act.put]) e1 ?_)
      | (refine step_append_eq rfl _ _ 22 22 rfl _ _ (by simp [Act.eval, Act.put]) (by simp [Act.eval, Act.put]) e2 ?_)
      | (refine step_append_eq rfl _ _ 22 22 rfl _ _ (by simp [Act.eval, Act.put]) (by simp [Act.eval, Act.put]) e4 ?_)
      | (refine step_append_eq rfl _ _ 22 22 rfl _ _ (by simp [Act.eval, Act.put]) (by simp [Act.eval, Act.put]) e5 ?_))
    all_goals
      clear e1 e2 e4 e5
      go_wp2_with fail
    all_goals
      go_ret2
      first
        | exact ⟨bo3, n3, c3, rfl, HP.out⟩
        | exact ⟨bo6, n6, c6, rfl, HQ.out⟩

set_option maxHeartbeats 2000000 in
theorem rmissing_any {w : World} {ao bo : Option Addr} {L M : List At} (n m ca cb : Nat) (ha : AtRow w ao L) (hb : AtRow w bo M) (hn : L.length = n) (hm : M.length = m) (hnm : n + m ≤ 4000) (hca : n ≤ ca) (hcm : ca ≤ maxLen) :
    Calls Try.prog 42 #[.slice ao n ca, .slice bo m cb] w fun e w' => ∃ co k c, e = .returned (.slice co k c) ∧ (missP L M).length = k ∧ AtRow w' co (missP L M) ∧ k ≤ c ∧ c ≤ maxLen ∧ Below w.heap.size w w' := by
  have HA : Hid (AtRow w ao L ∧ L.length = n ∧ AtRow w bo M ∧ M.length = m) := ⟨ha, hn, hb, hm⟩
  clear ha hn hb hm
  go_enter Try.func42, Try.ntmps42
  go_wp2_with fail
  go_loopg [0, 5] m (fun g2 lv iv wr => ∃ (i k c : Nat) (co : Option Addr), lv = .slice co k c ∧ iv = .int .i64 i ∧ i + g2 = m ∧ (missP L (M.take i)).length = k ∧ AtRow wr co (missP L (M.take i)) ∧ k ≤ c ∧ c ≤ maxLen ∧ Below w.heap.size w wr)
  case atStart => exact ⟨0, n, ca, ao, rfl, rfl, by omega, HA.out.2.1, HA.out.1, hca, hcm, Below.refl _ _⟩
  case round =>
    obtain ⟨i, k, c, co, rfl, rfl, hig, hlen, hrow, hkc, hcx, hbe⟩ := hrel
    have HG : Hid ((missP L (M.take i)).length = k ∧ AtRow wr co (missP L (M.take i)) ∧ Below w.heap.size w wr) := ⟨hlen, hrow, hbe⟩
    have hk9 : k ≤ 4000 := by
      have := (miss_len L (M.take i)).1
      rw [List.length_take, hlen, HA.out.2.1] at this
      omega
    clear hlen hrow hbe
    cases gk with
    | zero =>
      obtain rfl : i = m := by omega
      have hg0 : decide ((i : Int) < (i : Int)) = false := decide_eq_false (by omega)
      go_wp2_with fail
      go_ret
      have h := HG.out
      rw [List.take_of_length_le (by rw [HA.out.2.2.2]; exact Nat.le_refl _)] at h
      exact ⟨co, k, c, rfl, h.1, h.2.1, hkc, hcx, h.2.2⟩
    | succ g =>
      have hin : i < m := by omega
      obtain ⟨x, hx⟩ : ∃ x, M[i]? = some x := ⟨_, List.getElem?_eq_getElem (by rw [HA.out.2.2.2]; exact hin)⟩
      obtain ⟨b1, o1, rfl, h1, c1, c2⟩ := (HA.out.2.2.1.below HG.out.2.2) i x hx
      have HT : Hid (missP L (M.take (i + 1)) = addP (missP L (M.take i)) x) := by
        show missP L (M.take (i + 1)) = addP (missP L (M.take i)) x
        rw [take_at hx, miss_snoc]
      clear hx
      obtain ⟨nm, vl⟩ := x
      simp only at c1 c2
      have hcall := radd_any k c nm vl HG.out.2.1 HG.out.1 hk9 hkc hcx
      rw [← HT.out] at hcall
      generalize hasP (missP L (M.take i)) nm.data.toList = r at hcall
      go_wp2_with fail
      refine hcall.mono ?_
      rintro e w1 ⟨do1, k1, e1, rfl, q1, q2, q3, q4, q5⟩
      clear hcall
      have HN : Hid ((missP L (M.take (i + 1))).length = k1 ∧ AtRow w1 do1 (missP L (M.take (i + 1))) ∧ k1 ≤ e1 ∧ e1 ≤ maxLen ∧ Below w.heap.size w w1) := ⟨q1, q2, q3, q4, HG.out.2.2.trans (q5.mono HG.out.2.2.size)⟩
      clear q1 q2 q3 q4 q5
      go_wp2_with fail
      go_roundg g
      case measure => omega
      case rel => exact ⟨i + 1, k1, e1, do1, rfl, by go_num, by omega, HN.out⟩

def notAbove (A : List At) (k : Nat) (x : At) : Bool := match A[k]? with
  | some y => !ltA x y
  | none => false

theorem leP_eq (a b : Path) : (ltP a b || (a == b)) = !ltP b a := by
  by_cases e : a = b
  · subst e; simp [ltP_irrefl]
  · rcases ltP_total e with g | g
    · rw [g, ltP_asymm g]; rfl
    · rw [g, ltP_asymm g]
      simp [e]
theorem scan_eq (yn yv nm vl : ByteArray) : (Op.bytesLess yn.toList nm.toList || ((yn.toList == nm.toList) && (Op.bytesLess yv.toList vl.toList || (yv.toList == vl.toList)))) = !ltA ⟨nm, vl⟩ ⟨yn, yv⟩ := by
  rw [← leA_eq]
  simp only [less_eq, ByteArray.toList_eq, leP_eq]
  congr 2
  rw [Bool.eq_iff_iff]
  simp

theorem ins_a {W : World} {ao bo : Option Addr} {A : List At} {k n : Nat} (cap c2 : Nat) (x : At) (hk : k ≤ A.length) (hn : A.length ≤ 4000) (h1 : AtRow W ao (A.take k)) (h2 : AtRow W bo (A.drop k)) (hnk : A.length - k = n) :
    ∃ v1 w1 v2 w2 v3 w3, (Builtin.append_ #[22, 22] 22 #[.slice none 0 0, .slice ao k cap]).run Try.prog W.drew = .ok v1 w1 ∧
      (Builtin.append_ #[22, 22] 22 #[v1, .slice (some ⟨w1.heap.size, 0, none⟩) 1 1]).run Try.prog (w1.alloc (.cells #[.string x.n, .string x.v] 53)) = .ok v2 w2 ∧
      (Builtin.append_ #[22, 22] 22 #[v2, .slice bo n c2]).run Try.prog w2 = .ok v3 w3 ∧ Put1 W (A.take k ++ [x] ++ A.drop k) v3 w3 ∧ Below W.heap.size W w1 := by
  subst hnk
  have hlk : (A.take k).length = k := by rw [List.length_take]; omega
  have hdk : (A.drop k).length = A.length - k := List.length_drop
  have bW : Below W.heap.size W W.drew := (Below.refl _ _).drew
  obtain ⟨v1, w1, e1, r1, f1⟩ := row_more (w := W.drew) (B := W.heap.size) (L := []) (World.ownsRow_nil _ _ _ _) ao cap (h1.below bW) (Nat.le_refl _) (by simp) (by omega)
  rw [hlk] at e1
  rw [List.nil_append] at r1
  have b1 : Below W.heap.size W w1 := bW.trans (lfr_below f1 (World.ownsRow_nil _ _ 53 2) (Nat.le_refl _))
  obtain ⟨w1', hw1'⟩ : ∃ w1', w1' = w1.alloc (.cells #[.string x.n, .string x.v] 53) := ⟨_, rfl⟩
  have b1' : Below w1.heap.size w1 w1' := by rw [hw1']; exact (Below.refl _ _).alloc (Nat.le_refl _) _
  have o1 := at_one8 w1 x
  rw [← hw1'] at o1
  have r1' : RowIs w1' W.heap.size v1 (A.take k) := own_below r1 b1'
  have bb1 : Below W.heap.size W w1' := b1.trans (b1'.mono b1.size)
  obtain ⟨v2, w2, e2, r2, f2⟩ := row_more r1' _ 1 o1 bb1.size (by omega) (by simp)
  have b2 : Below W.heap.size W w2 := bb1.trans (lfr_below f2 r1' bb1.size)
  obtain ⟨v3, w3, e3, r3, f3⟩ := row_more r2 _ c2 (h2.below b2) b2.size (by simp; omega) (by omega)
  have b3 : Below W.heap.size W w3 := b2.trans (lfr_below f3 r2 b2.size)
  rw [hdk] at e3
  rw [hw1'] at e2
  obtain ⟨co, c3, rfl, g1, g2, g3⟩ := row_at r3
  exact ⟨v1, w1, v2, w2, _, w3, e1, e2, e3, ⟨co, _, c3, rfl, rfl, g1, g2, g3, b3⟩, b1⟩

theorem ins_b {W : World} {ao bo : Option Addr} {A : List At} {k n : Nat} (cap c2 : Nat) (x : At) (hk : k ≤ A.length) (hn : A.length ≤ 4000) (h1 : AtRow W ao (A.take k)) (h2 : AtRow W bo (A.drop k)) (hnk : A.length - k = n) :
    ∃ v1 w1 v2 w2 v3 w3, (Builtin.append_ #[22, 22] 22 #[.slice none 0 0, .slice ao k cap]).run Try.prog (W.alloc (.cells #[.string x.n, .string x.v] 53)).drew = .ok v1 w1 ∧
      (Builtin.append_ #[22, 22] 22 #[v1, .slice (some ⟨W.heap.size, 0, none⟩) 1 1]).run Try.prog w1 = .ok v2 w2 ∧
      (Builtin.append_ #[22, 22] 22 #[v2, .slice bo n c2]).run Try.prog w2 = .ok v3 w3 ∧ Put1 W (A.take k ++ [x] ++ A.drop k) v3 w3 := by
  subst hnk
  have hlk : (A.take k).length = k := by rw [List.length_take]; omega
  have hdk : (A.drop k).length = A.length - k := List.length_drop
  obtain ⟨V, hV⟩ : ∃ V, V = (W.alloc (.cells #[.string x.n, .string x.v] 53)).drew := ⟨_, rfl⟩
  have bV : Below W.heap.size W V := by rw [hV]; exact ((Below.refl _ _).alloc (Nat.le_refl _) _).drew
  have hVs : V.heap.size = W.heap.size + 1 := by rw [hV]; simp [World.drew]
  have o1 : AtRow V (some ⟨W.heap.size, 0, none⟩) [x] := by rw [hV]; exact (at_one8 W x).below (Below.refl _ _).drew
  rw [← hV]
  obtain ⟨v1, w1, e1, r1, f1⟩ := row_more (w := V) (B := V.heap.size) (L := []) (World.ownsRow_nil _ _ _ _) ao cap (h1.below bV) (Nat.le_refl _) (by simp) (by omega)
  rw [hlk] at e1
  rw [List.nil_append] at r1
  have b1 : Below V.heap.size V w1 := lfr_below f1 (World.ownsRow_nil _ _ 53 2) (Nat.le_refl _)
  obtain ⟨v2, w2, e2, r2, f2⟩ := row_more r1 _ 1 (o1.below b1) b1.size (by omega) (by simp)
  have b2 : Below V.heap.size V w2 := b1.trans (lfr_below f2 r1 b1.size)
  have b2' : Below W.heap.size W w2 := bV.trans (b2.mono (by omega))
  obtain ⟨v3, w3, e3, r3, f3⟩ := row_more r2 _ c2 (h2.below b2') b2.size (by simp; omega) (by omega)
  have b3 : Below V.heap.size V w3 := b2.trans (lfr_below f3 r2 b2.size)
  rw [hdk] at e3
  obtain ⟨co, c3, rfl, g1, g2, g3⟩ := row_at r3
  exact ⟨v1, w1, v2, w2, _, w3, e1, e2, e3, co, _, c3, rfl, rfl, g1, g2, g3, bV.trans (b3.mono (by omega))⟩

set_option linter.unusedSimpArgs false in
set_option maxRecDepth 10000 in
set_option maxHeartbeats 8000000 in
theorem rsorted_any {w : World} {lo : Option Addr} {l : List At} (len cap : Nat) (hrow : AtRow w lo l) (hlen : l.length = len) (hl : len ≤ 4000) :
    Calls Try.prog 41 #[.slice lo len cap] w fun e w' => ∃ ao n c, e = .returned (.slice ao n c) ∧ (sortP l).length = n ∧ AtRow w' ao (sortP l) ∧ Below w.heap.size w w' := by
  have HR : Hid (AtRow w lo l ∧ l.length = len) := ⟨hrow, hlen⟩
  clear hrow hlen
  go_enter Try.func41, Try.ntmps41
  go_wp2_with fail
  go_loopg [3, 4] len (fun g s3 s4 wr => ∃ (i c : Nat) (ao : Option Addr), s3 = .slice ao i c ∧ s4 = .int .i64 i ∧ i + g = len ∧ i ≤ c ∧ c ≤ maxLen ∧ AtRow wr ao (sortP (l.take i)) ∧ Below w.heap.size w wr)
  case atStart => exact ⟨0, 0, none, rfl, rfl, by omega, Nat.le_refl _, Nat.zero_le _, AtRow.nil _ _, Below.refl _ _⟩
  case round =>
    obtain ⟨i, c, ao, rfl, rfl, hig, hnc, hcm, hA, hbe⟩ := hrel
    obtain ⟨W, rfl⟩ : ∃ W, W = wr := ⟨_, rfl⟩
    have hil0 : (sortP (l.take i)).length = i := by rw [sort_len, List.length_take, HR.out.2]; omega
    have HM : Hid (AtRow W ao (sortP (l.take i)) ∧ (sortP (l.take i)).length = i ∧ Below w.heap.size w W) := ⟨hA, hil0, hbe⟩
    have hcm' : c ≤ 9223372036854775807 := by unfold maxLen at hcm; omega
    clear hA hbe hil0
    cases gk with
    | zero =>
      obtain rfl : i = len := by omega
      have hg0 : decide ((i : Int) < (i : Int)) = false := decide_eq_false (by omega)
      have HF : Hid ((sortP l).length = i ∧ AtRow W ao (sortP l) ∧ Below w.heap.size w W) := by
        have := HM.out
        rw [List.take_of_length_le (by rw [HR.out.2]; exact Nat.le_refl _)] at this
        exact ⟨this.2.1, this.1, this.2.2⟩
      go_wp2_with fail
      go_ret
      exact ⟨ao, i, c, rfl, HF.out⟩
    | succ g =>
      have hin : i < len := by omega
      have hil : i < l.length := by rw [HR.out.2]; exact hin
      have hlt : decide ((i : Int) < (len : Int)) = true := decide_eq_true (by omega)
      obtain ⟨x, hx⟩ : ∃ x, l[i]? = some x := ⟨_, List.getElem?_eq_getElem hil⟩
      obtain ⟨b1, o1, rfl, h1, c1, c2⟩ := (HR.out.1.below (HM.out.2.2)) i x hx
      have HT : Hid (sortP (l.take (i + 1)) = insP x (sortP (l.take i))) := by
        show sortP (l.take (i + 1)) = insP x (sortP (l.take i))
        rw [take_at hx, sort_snoc]
      obtain ⟨nm, vl⟩ := x
      simp only at c1 c2
      clear hx hil
      go_wp2_with fail
      obtain ⟨A, hA⟩ : ∃ A, sortP (l.take i) = A := ⟨_, rfl⟩
      have HA : Hid (sortP (l.take (i + 1)) = insP ⟨nm, vl⟩ A ∧ AtRow W ao A ∧ A.length = i ∧ Below w.heap.size w W) := by
        have h1 := HM.out
        have h2 := HT.out
        rw [hA] at h1 h2
        exact ⟨h2, h1.1, h1.2.1, h1.2.2⟩
      clear hA HM HT hlt
      go_loopg [5] i (fun g2 kv wr2 => ∃ (k q : Nat), kv = .int .i64 k ∧ k + g2 = i ∧ (∀ j y, j < k → A[j]? = some y → ltA ⟨nm, vl⟩ y = false) ∧ wr2 = W.drewN q)
      case atStart => exact ⟨0, 0, rfl, by omega, fun j y hj => by omega, rfl⟩
      case round =>
        obtain ⟨k, q, rfl, hkg, hlo, rfl⟩ := hrel
        have HL : Hid (∀ j y, j < k → A[j]? = some y → ltA ⟨nm, vl⟩ y = false) := hlo
        clear hlo
        go_upto_region 6 with fail
        go_cut [54] (fun sv wc => ∃ q', sv = .bool (notAbove A k ⟨nm, vl⟩) ∧ wc = W.drewN q')
        case first =>
          by_cases hkn : k < i
          · have hgd : decide ((k : Int) < (i : Int)) = true := decide_eq_true (by omega)
            have hkl : k < A.length := by rw [HA.out.2.2.1]; exact hkn
            obtain ⟨y, hy⟩ : ∃ y, A[k]? = some y := ⟨_, List.getElem?_eq_getElem hkl⟩
            obtain ⟨b2, o2, rfl, h2, c3, c4⟩ := HA.out.2.1 k y hy
            obtain ⟨yn, yv⟩ := y
            simp only at c3 c4
            have HRR : Hid (notAbove A k ⟨nm, vl⟩ = (Op.bytesLess yn.toList nm.toList || ((yn.toList == nm.toList) && (Op.bytesLess yv.toList vl.toList || (yv.toList == vl.toList))))) := by
              show _ = _
              unfold notAbove
              rw [hy, scan_eq]
            clear hy hkl
            cases hlb : Op.bytesLess yn.toList nm.toList with
            | true =>
              go_quiet (fail)
              go_wp2_with fail
              go_meet
              exact ⟨_, by rw [HRR.out, hlb]; rfl, World.drewN_drewN _ _ _⟩
            | false =>
              cases heb : (yn.toList == nm.toList) with
              | true =>
                obtain ⟨r1, hr1⟩ : ∃ r1, Op.bytesLess yv.toList vl.toList = r1 := ⟨_, rfl⟩
                obtain ⟨r2, hr2⟩ : ∃ r2, (yv.toList == vl.toList) = r2 := ⟨_, rfl⟩
                have HR2 : Hid (notAbove A k ⟨nm, vl⟩ = (r1 || r2)) := by
                  show _ = _
                  rw [HRR.out, hlb, heb, hr1, hr2]; rfl
                go_quiet (fail)
                go_wp2_with fail
                go_meet
                exact ⟨_, by rw [HR2.out], World.drewN_drewN _ _ _⟩
              | false =>
                go_quiet (fail)
                go_wp2_with fail
                go_meet
                exact ⟨_, by rw [HRR.out, hlb, heb]; rfl, World.drewN_drewN _ _ _⟩
          · have hgd : decide ((k : Int) < (i : Int)) = false := decide_eq_false (by omega)
            have HRR : Hid (notAbove A k ⟨nm, vl⟩ = false) := by
              show _ = _
              unfold notAbove
              rw [List.getElem?_eq_none (by rw [HA.out.2.2.1]; omega)]
            go_quiet (fail)
            go_wp2_with fail
            go_meet
            exact ⟨_, by rw [HRR.out], World.drewN_drewN _ _ _⟩
        case rest =>
          obtain ⟨q', hu, rfl⟩ := hcut
          cases hbb : notAbove A k ⟨nm, vl⟩ with
          | true =>
            rw [hbb] at hu
            subst hu
            obtain ⟨y, hy⟩ : ∃ y, A[k]? = some y := by
              cases hy : A[k]? with
              | none => unfold notAbove at hbb; rw [hy] at hbb; cases hbb
              | some y => exact ⟨y, rfl⟩
            have hyl : ltA ⟨nm, vl⟩ y = false := by unfold notAbove at hbb; rw [hy] at hbb; simpa using hbb
            have hkn : k < i := by rw [← HA.out.2.2.1]; exact (List.getElem?_eq_some_iff.1 hy).1
            have HL2 : Hid (∀ j y, j < k + 1 → A[j]? = some y → ltA ⟨nm, vl⟩ y = false) := fun j z hj hz => by
              by_cases hjk : j = k
              · subst hjk; rw [hy] at hz; cases hz; exact hyl
              · exact HL.out j z (by omega) hz
            clear hbb hy hyl HL
            go_wp2_with fail
            go_roundg (gk - 1)
            case measure => omega
            case rel => exact ⟨k + 1, _, by go_num, by omega, HL2.out, rfl⟩
          | false =>
            rw [hbb] at hu
            subst hu
            have HI : Hid (sortP (l.take (i + 1)) = A.take k ++ [⟨nm, vl⟩] ++ A.drop k) := by
              show _ = _
              rw [HA.out.1]
              refine ins_at _ A k HL.out (fun y hy => ?_) (by rw [HA.out.2.2.1]; omega)
              unfold notAbove at hbb
              rw [hy] at hbb
              simpa using hbb
            clear hbb HL
            have hB0 : Below W.heap.size W (W.drewN q') := below_drewN (Below.refl _ _) _
            have d1 := (hB0.cell (p := ⟨b1, o1 + i * 2, none⟩) h1).trans c1
            have d2 := (hB0.cell (p := ⟨b1, o1 + i * 2 + 1, none⟩) h1).trans c2
            have HV : Hid (AtRow (W.drewN q') ao A ∧ Below w.heap.size w (W.drewN q')) := ⟨HA.out.2.1.below hB0, below_drewN HA.out.2.2.2 _⟩
            have hbV : b1 < (W.drewN q').heap.size := h1
            go_upto_region 8 with fail
            generalize W.drewN q' = V at HV d1 d2 hbV ⊢
            clear c1 c2 h1 hB0
            have hki : k ≤ i := by omega
            have hkc : k ≤ c := by omega
            have hkc2 : (k : Int) ≤ (c : Int) := by omega
            have hkn2 : (k : Int) ≤ (i : Int) := by omega
            have hAn := HA.out.2.2.1
            obtain ⟨v1, w1, v2, w2, v3, w3, e1, e2, e3, ⟨bo3, n3, c3, rfl, p1, p2, p3, p4, p5⟩, hw1⟩ := ins_a (W := V) (A := A) (n := i - k) c (c - k) ⟨nm, vl⟩ (by omega) (by omega) (at_take HV.out.1 k) (at_drop HV.out.1 k c (by omega)) (by omega)
            obtain ⟨v4, w4, v5, w5, v6, w6, e4, e5, e6, ⟨bo6, n6, c6, rfl, p6, p7, p8, p9, p0⟩⟩ := ins_b (W := V) (A := A) (n := i - k) c (c - k) ⟨nm, vl⟩ (by omega) (by omega) (at_take HV.out.1 k) (at_drop HV.out.1 k c (by omega)) (by omega)
            have d3 := (hw1.cell (p := ⟨b1, o1 + i * 2, none⟩) hbV).trans d1
            have d4 := (hw1.cell (p := ⟨b1, o1 + i * 2 + 1, none⟩) hbV).trans d2
            have hbw1 : b1 < w1.heap.size := Nat.lt_of_lt_of_le hbV hw1.size
            have hl1 : (sortP (l.take (i + 1))).length = i + 1 := by rw [sort_len, List.length_take, HR.out.2]; omega
            have hz3 : n3 = i + 1 := by rw [← p1, ← HI.out]; exact hl1
            have hz6 : n6 = i + 1 := by rw [← p6, ← HI.out]; exact hl1
            subst hz3 hz6
            have HP : Hid (AtRow w3 bo3 (sortP (l.take (i + 1))) ∧ Below w.heap.size w w3) := by
              show _ ∧ _
              rw [HI.out]
              exact ⟨p2, HV.out.2.trans (p5.mono HV.out.2.size)⟩
            have HQ : Hid (AtRow w6 bo6 (sortP (l.take (i + 1))) ∧ Below w.heap.size w w6) := by
              show _ ∧ _
              rw [HI.out]
              exact ⟨p7, HV.out.2.trans (p0.mono HV.out.2.size)⟩
            clear p1 p2 p5 p6 p7 p0 hw1 hAn hl1
            simp only at e1 e2 e3 e4 e5 e6
            go_region_law (first
              | (refine step_append_eq rfl _ _ 22 22 rfl _ _ (by simp [Act.eval, Act.put]) (by simp [Act.eval, Act.put]) e1 ?_)
              | (refine step_append_eq rfl _ _ 22 22 rfl _ _ (by simp [Act.eval, Act.put]) (by simp [Act.eval, Act.put]) e2 ?_)
              | (refine step_append_eq rfl _ _ 22 22 rfl _ _ (by simp [Act.eval, Act.put]) (by simp [Act.eval, Act.put]) e3 ?_)
              | (refine step_append_eq rfl _ _ 22 22 rfl _ _ (by simp [Act.eval, Act.put]) (by simp [Act.eval, Act.put]) e4 ?_)
              | (refine step_append_eq rfl _ _ 22 22 rfl _ _ (by simp [Act.eval, Act.put]) (by simp [Act.eval, Act.put]) e5 ?_)
              | (refine step_append_eq rfl _ _ 22 22 rfl _ _ (by simp [Act.eval, Act.put]) (by simp [Act.eval, Act.put]) e6 ?_))
            all_goals
              clear e1 e2 e3 e4 e5 e6
              go_wp2_with fail
            all_goals
              go_roundg g
              case measure => omega
              case rel =>
                first
                  | exact ⟨i + 1, c3, bo3, rfl, by go_num, by omega, p3, p4, HP.out⟩
                  | exact ⟨i + 1, c6, bo6, rfl, by go_num, by omega, p8, p9, HQ.out⟩

end Go.Proofs.Ytdpibnmbgjhohaa
