/- put: one name more; what a trie holds of a list of names. -/
import Derived.Test.YtaadphifagimaaaDoorGrow
namespace Go.Proofs.YtaadphifagimaaaDoor
open Go.RowKit Go.Maps

/-- A name and its character. -/
structure Rf where
  n : ByteArray
  r : Int

abbrev Rf.nm (x : Rf) : Path := x.n.data.toList
def Rf.ok (x : Rf) : Bool := decide (0 < x.n.size) && decide (x.n.size ≤ 8)
def Rf.cells (x : Rf) : List Value := [.string x.n, .int .i64 x.r]

/-- The character of a name: of like names the first counts. -/
def val : List Rf → Path → Option Int
  | [], _ => none
  | x :: l, p => if x.ok = true ∧ x.nm = p then some x.r else val l p
/-- Does a name begin so? -/
def pre (l : List Rf) (p : Path) : Bool := l.any fun x => x.ok && p.isPrefixOf x.nm
/-- How many names. -/
def cnt : List Rf → List Rf → Nat
  | _, [] => 0
  | seen, x :: l => (if x.ok = true ∧ val seen x.nm = none then 1 else 0) + cnt (seen ++ [x]) l

theorem val_append (l k : List Rf) (p : Path) : val (l ++ k) p = (val l p).or (val k p) := by
  induction l with
  | nil => rfl
  | cons x l ih =>
    simp only [List.cons_append, val]
    split
    · rfl
    · exact ih
theorem cnt_append (s l k : List Rf) : cnt s (l ++ k) = cnt s l + cnt (s ++ l) k := by
  induction l generalizing s with
  | nil => simp [cnt]
  | cons x l ih => simp only [List.cons_append, cnt, ih, List.append_assoc, List.nil_append]; omega
theorem cnt_le (s l : List Rf) : cnt s l ≤ l.length := by
  induction l generalizing s with
  | nil => exact Nat.le_refl _
  | cons x l ih => simp only [cnt, List.length_cons]; have := ih (s ++ [x]); split <;> omega
theorem pre_append (l k : List Rf) (p : Path) : pre (l ++ k) p = (pre l p || pre k p) := by simp [pre]
theorem val_pre {l : List Rf} {p : Path} {v : Int} (h : val l p = some v) : pre l p = true := by
  induction l with
  | nil => cases h
  | cons x l ih =>
    simp only [val] at h
    simp only [pre, List.any_cons, Bool.or_eq_true]
    split at h
    · rename_i hx; left; simp [hx.1, hx.2]
    · right; exact ih h

/-- The trie of a list of names. -/
def TrieIs (w : World) (B t : Nat) (l : List Rf) : Prop :=
  ∃ N M k, TrieAt w B t N M (val l) (cnt [] l : Nat) k ∧ k ≤ 8 * l.length ∧ ∀ p, (N p).isSome = (p.isEmpty || pre l p)

theorem TrieIs.below {w w' : World} {B t : Nat} {l : List Rf} (T : TrieIs w B t l) (b : Below w.heap.size w w') : TrieIs w' B t l := by
  obtain ⟨N, M, k, h1, h2⟩ := T
  exact ⟨N, M, k, h1.below b, h2⟩

theorem take_snoc (s : ByteArray) (i : Nat) (h : i < s.size) : s.data.toList.take (i + 1) = s.data.toList.take i ++ [s[i]] := by
  have h2 : i < s.data.toList.length := by rw [Array.length_toList]; exact h
  rw [← List.take_append_getElem h2]
  rfl
theorem take_all (s : ByteArray) : s.data.toList.take s.size = s.data.toList := List.take_of_length_le (by rw [Array.length_toList]; exact Nat.le_refl _)
theorem prefix_snoc (r q : Path) (x : UInt8) : r.isPrefixOf (q ++ [x]) = (r.isPrefixOf q || r == q ++ [x]) := by
  rw [Bool.eq_iff_iff]
  simp only [Bool.or_eq_true, List.isPrefixOf_iff_prefix, beq_iff_eq]
  constructor
  · rintro ⟨t, ht⟩
    rcases List.eq_nil_or_concat t with rfl | ⟨t', y, rfl⟩
    · right; simpa using ht
    · left
      rw [List.concat_eq_append, ← List.append_assoc] at ht
      exact ⟨t', (snoc_inj ht).1⟩
  · rintro (⟨t, ht⟩ | rfl)
    · exact ⟨t ++ [x], by rw [← List.append_assoc, ht]⟩
    · exact ⟨[], by simp⟩

/-- A name is told at a node where none was. -/
theorem TrieAt.told {w w' : World} {B t : Nat} {N M : Path → Option Nat} {V : Path → Option Int} {c : Int} {k : Nat} (T : TrieAt w B t N M V c k) {p : Path} {b : Nat} {r c' : Int} (hp : N p = some b)
    (h0 : w'.cell? ⟨b, 0, none⟩ = w.cell? ⟨b, 0, none⟩) (h1 : w'.cell? ⟨b, 1, none⟩ = some (.bool true)) (h2 : w'.cell? ⟨b, 2, none⟩ = some (.int .i64 r)) (hfz : ∀ i, w'.frozen? ⟨b, i, none⟩ = false)
    (hoth : ∀ d, d < w.heap.size → d ≠ b → d ≠ t → w'.heap[d]? = w.heap[d]?) (ht : t ≠ b → w'.cell? ⟨t, 0, none⟩ = w.cell? ⟨t, 0, none⟩ ∧ w'.cell? ⟨t, 1, none⟩ = w.cell? ⟨t, 1, none⟩ ∧ w'.cell? ⟨t, 2, none⟩ = w.cell? ⟨t, 2, none⟩ ∧ ∀ i, w'.frozen? ⟨t, i, none⟩ = w.frozen? ⟨t, i, none⟩)
    (hc : w'.cell? ⟨t, 3, none⟩ = some (.int .i64 c')) (htg : ∀ d : Nat, (∀ cs z, w.heap[d]? ≠ some (.cells cs 5 z)) → ∀ cs z, w'.heap[d]? ≠ some (.cells cs 5 z)) : TrieAt w' B t N M (fun q => if q = p then some r else V q) c' k where
  root := T.root
  hB := T.hB
  hM := T.hM
  inj := T.inj
  minj := T.minj
  up := T.up
  mup := T.mup
  vup := fun q v h => by
    by_cases hq : q = p
    · subst hq; exact ⟨b, hp⟩
    · simp only [if_neg hq] at h; exact T.vup q v h
  node := fun q d h => by
    have O := T.node q d h
    by_cases hq : q = p
    · subst hq
      rw [hp] at h; cases h
      simp only [if_pos]
      exact ⟨h0.trans O.c0, h1, h2, hfz, htg _ O.tg⟩
    · simp only [if_neg hq]
      have hdb : d ≠ b := fun e => hq (T.inj q p b (e ▸ h) hp)
      by_cases hdt : d = t
      · subst hdt
        obtain ⟨a0, a1, a2, a3⟩ := ht hdb
        exact ⟨a0.trans O.c0, a1.trans O.c1, a2.trans O.c2, fun i => (a3 i).trans (O.fz i), htg _ O.tg⟩
      · exact O.same (hoth d O.lt hdb hdt)
  maps := fun q m h => by
    have O := T.maps q m h
    exact O.same (hoth m O.lt (fun e => node_ne_map (T.node p b hp) O e.symm) (fun e => node_ne_map (T.node _ _ T.root) O e.symm))
  count := hc

def cAfter (V : Path → Option Int) (p : Path) (c : Int) : Int := c + (if (V p).isSome then 0 else 1)
def vAfter (V : Path → Option Int) (p : Path) (r : Int) : Path → Option Int := fun q => if q = p then some ((V q).getD r) else V q

set_option maxHeartbeats 1000000 in
set_option maxRecDepth 10000 in
theorem put_walk {w : World} {B t : Nat} {N M : Path → Option Nat} {V : Path → Option Int} {c : Int} {k : Nat} (T : TrieAt w B t N M V c k) (x : Rf) (hk : k ≤ 1000000) (hx : x.n.size ≤ 8) (hBw : B ≤ w.heap.size) (hc0 : 0 ≤ c) (hc1 : c ≤ 1000000) :
    Calls Tryd.prog 48 #[.pointer (some ⟨t, 0, none⟩), .agg #[.string x.n, .int .i64 x.r]] w fun e w' => e = .returned (.tuple #[]) ∧ ∃ N' M', TrieAt w' B t N' M' (vAfter V x.nm x.r) (cAfter V x.nm c) (k + x.n.size) ∧ (∀ r, (N' r).isSome = ((N r).isSome || r.isPrefixOf x.nm)) ∧ Below B w w' := by
  obtain ⟨n, r⟩ := x
  simp only at hx ⊢
  have hbox : (w.alloc (.cells #[.string n, .int .i64 r] 73)).heap[w.heap.size]? = some (.cells #[.string n, .int .i64 r] 73 (0, 0)) := heap_alloc_new _ _
  have T1 : TrieAt (w.alloc (.cells #[.string n, .int .i64 r] 73)) B t N M V c k := T.below ((Below.refl _ _).alloc (Nat.le_refl _) _)
  have hfree : Free N M w.heap.size := fun q => ⟨fun e => by have := (T.node _ _ e).lt; omega, fun e => by have := (T.maps _ _ e).lt; omega⟩
  have HS : Hid (∃ Ni Mi, TrieAt (w.alloc (.cells #[.string n, .int .i64 r] 73)) B t Ni Mi V c (k + 0) ∧ Ni (n.data.toList.take 0) = some t ∧ (∀ q, (Ni q).isSome = ((N q).isSome || q.isPrefixOf (n.data.toList.take 0))) ∧ Free Ni Mi w.heap.size ∧ (w.alloc (.cells #[.string n, .int .i64 r] 73)).heap[w.heap.size]? = some (.cells #[.string n, .int .i64 r] 73 (0, 0))) := by
    refine ⟨N, M, T1, T.root, fun q => ?_, hfree, hbox⟩
    rw [List.take_zero]
    cases q with
    | nil => rw [T.root]; rfl
    | cons y q => simp [List.isPrefixOf]
  clear hbox T1 hfree T
  go_enter Tryd.func48, Tryd.ntmps48
  go_wp2_with fail
  go_loopw [4, 12] (fun nv iv wr => ∃ (i b : Nat), iv = .int .i64 i ∧ i ≤ n.size ∧ nv = .pointer (some ⟨b, 0, none⟩) ∧ Below B w wr ∧ w.heap.size < wr.heap.size ∧ ∃ Ni Mi, TrieAt wr B t Ni Mi V c (k + i) ∧ Ni (n.data.toList.take i) = some b ∧ (∀ q, (Ni q).isSome = ((N q).isSome || q.isPrefixOf (n.data.toList.take i))) ∧ Free Ni Mi w.heap.size ∧ wr.heap[w.heap.size]? = some (.cells #[.string n, .int .i64 r] 73 (0, 0))) (fun _ iv _ => n.size - (intOf iv).toNat)
  case atStart => exact ⟨0, t, rfl, Nat.zero_le _, rfl, (Below.refl _ _).alloc hBw _, by simp, HS.out⟩
  case round =>
    obtain ⟨i, b, rfl, hi, rfl, hbl, hsz, Ni, Mi, Ti, hb, hq, hfr, hbox⟩ := hrel
    have x0 : wr.cell? ⟨w.heap.size, 0, none⟩ = some (.string n) := by simp [World.cell?, hbox]
    have x1 : wr.cell? ⟨w.heap.size, 1, none⟩ = some (.int .i64 r) := by simp [World.cell?, hbox]
    by_cases hlt : i < n.size
    · have HQ : Hid ((∀ q, (Ni q).isSome = ((N q).isSome || q.isPrefixOf (n.data.toList.take i))) ∧ Free Ni Mi w.heap.size ∧ wr.heap[w.heap.size]? = some (.cells #[.string n, .int .i64 r] 73 (0, 0)) ∧ Below B w wr) := ⟨hq, hfr, hbox, hbl⟩
      have hBr : B ≤ wr.heap.size := Nat.le_trans hBw (by omega)
      have hgr := grow_any Ti n[i] hb (by unfold maxLen; omega) hBr
      clear hq hfr hbox hbl Ti hb HS
      go_wp2_with fail
      refine hgr.mono ?_
      rintro e w1 ⟨b', N', M', rfl, T', hb', hq', hbe', hfree'⟩
      have HE : Hid (Below B w w1 ∧ w.heap.size < w1.heap.size ∧ ∃ Ni Mi, TrieAt w1 B t Ni Mi V c (k + (i + 1)) ∧ Ni (n.data.toList.take (i + 1)) = some b' ∧ (∀ q, (Ni q).isSome = ((N q).isSome || q.isPrefixOf (n.data.toList.take (i + 1)))) ∧ Free Ni Mi w.heap.size ∧ w1.heap[w.heap.size]? = some (.cells #[.string n, .int .i64 r] 73 (0, 0))) := by
        obtain ⟨hq, hfr, hbox, hbl⟩ := HQ.out
        obtain ⟨g1, g2⟩ := hfree' w.heap.size hsz hfr
        refine ⟨hbl.trans hbe', Nat.lt_of_lt_of_le hsz hbe'.size, N', M', T', by rw [take_snoc n i hlt]; exact hb', fun q => ?_, g1, g2.trans hbox⟩
        rw [hq' q, hq q, take_snoc n i hlt, prefix_snoc, Bool.or_assoc]
      clear T' hb' hq' hbe' hfree' hgr
      go_wp2_with fail
      exact ⟨⟨i + 1, b', by go_num, by omega, rfl, HE.out⟩, by simp [intOf]; omega⟩
    · have hie : i = n.size := by omega
      subst hie
      rw [take_all] at hb hq
      have O := Ti.node _ _ hb
      have R := Ti.node _ _ Ti.root
      have hne : b ≠ w.heap.size := fun e => (hfr n.data.toList).1 (e ▸ hb)
      have hne2 : w.heap.size ≠ b := fun e => hne e.symm
      have c1 := O.c1
      have c2 := O.c2
      have f1 := O.fz 1
      have f2 := O.fz 2
      have f3 := R.fz 3
      have c3 := Ti.count
      have l1 := O.lt
      have l2 := R.lt
      have HQ : Hid (TrieAt wr B t Ni Mi V c (k + n.size) ∧ Ni n.data.toList = some b ∧ (∀ q, (Ni q).isSome = ((N q).isSome || q.isPrefixOf n.data.toList)) ∧ Below B w wr ∧ NodeIs wr b (Mi n.data.toList) (V n.data.toList) ∧ NodeIs wr t (Mi []) (V [])) := ⟨Ti, hb, hq, hbl, O, R⟩
      clear Ti hb hq hfr hbl HS O R hlt
      cases hv : V n.data.toList with
      | some v =>
        rw [hv] at c1
        simp only [Option.isSome_some] at c1
        clear c2 f1 f2 f3 c3
        go_wp2_with fail
        refine bodyPost_ret (results_none rfl _ _ _) rfl ⟨rfl, Ni, Mi, ?_, HQ.out.2.2.1, HQ.out.2.2.2.1⟩
        have e : vAfter V n.data.toList r = V := by
          funext p
          unfold vAfter
          split
          · rename_i hp; rw [hp, hv]; rfl
          · rfl
        have e2 : cAfter V n.data.toList c = c := by unfold cAfter; rw [hv]; simp
        show TrieAt wr B t Ni Mi (vAfter V n.data.toList r) (cAfter V n.data.toList c) (k + n.size)
        rw [e, e2]
        exact HQ.out.1
      | none =>
        rw [hv] at c1 c2
        simp only [Option.isSome_none] at c1
        go_wp2_with fail
        go_region
        generalize hW2 : ((wr.setCell ⟨b, 1, none⟩ (.bool true)).setCell ⟨b, 2, none⟩ (.int .i64 r)).drew = W2
        have ad : ∀ {d i j e : Nat}, i ≠ j → (⟨d, i, none⟩ : Addr) ≠ ⟨e, j, none⟩ := fun h e => h (by injection e)
        have w3 : W2.cell? ⟨t, 3, none⟩ = some (.int .i64 c) := by
          rw [← hW2, World.cell?_drew, World.cell?_setCell_other _ _ _ _ (ad (by decide)), World.cell?_setCell_other _ _ _ _ (ad (by decide))]; exact c3
        have wf : ∀ d i, W2.frozen? ⟨d, i, none⟩ = wr.frozen? ⟨d, i, none⟩ := fun d i => by rw [← hW2, World.frozen?_drew, World.frozen?_setCell, World.frozen?_setCell]
        have w3f : W2.frozen? ⟨t, 3, none⟩ = false := (wf t 3).trans f3
        have HF : Hid (∃ N' M', TrieAt (W2.setCell ⟨t, 3, none⟩ (.int .i64 (c + 1))) B t N' M' (vAfter V n.data.toList r) (cAfter V n.data.toList c) (k + n.size) ∧ (∀ q, (N' q).isSome = ((N q).isSome || q.isPrefixOf n.data.toList)) ∧ Below B w (W2.setCell ⟨t, 3, none⟩ (.int .i64 (c + 1)))) := by
          obtain ⟨T, hb, hq, hbl, O, R⟩ := HQ.out
          have hbB := T.hB _ _ hb
          have htB := T.hB _ _ T.root
          have e2 : cAfter V n.data.toList c = c + 1 := by unfold cAfter; rw [hv]; rfl
          have e1 : vAfter V n.data.toList r = fun q => if q = n.data.toList then some r else V q := by
            funext q
            unfold vAfter
            by_cases h : q = n.data.toList
            · rw [if_pos h, if_pos h, h, hv]; rfl
            · rw [if_neg h, if_neg h]
          have g1 : W2.cell? ⟨b, 1, none⟩ = some (.bool true) := by
            rw [← hW2, World.cell?_drew, World.cell?_setCell_other _ _ _ _ (ad (by decide))]; exact World.cell?_setCell_same _ _ _ c1
          have g2 : W2.cell? ⟨b, 2, none⟩ = some (.int .i64 r) := by
            rw [← hW2, World.cell?_drew]
            exact World.cell?_setCell_same _ _ _ ((World.cell?_setCell_other _ _ _ _ (ad (by decide))).trans c2)
          have g0 : W2.cell? ⟨b, 0, none⟩ = wr.cell? ⟨b, 0, none⟩ := by
            rw [← hW2, World.cell?_drew, World.cell?_setCell_other _ _ _ _ (ad (by decide)), World.cell?_setCell_other _ _ _ _ (ad (by decide))]
          have gb : ∀ d, d ≠ b → W2.heap[d]? = wr.heap[d]? := fun d h => by
            rw [← hW2]
            exact (Below.heap_setCell _ _ _ _ h).trans (Below.heap_setCell _ _ _ _ h)
          have gs : W2.heap.size = wr.heap.size := by rw [← hW2]; simp [World.setCell, World.drew]
          refine ⟨Ni, Mi, ?_, hq, ?_⟩
          · rw [e1, e2]
            refine T.told hb ?_ ?_ ?_ (fun i => ?_) (fun d h1 h2 h3 => ?_) (fun h => ?_) ?_ (fun d hd => tag_set (by rw [← hW2]; exact tag_set (tag_set hd _ _) _ _) _ _)
            · rw [World.cell?_setCell_other _ _ _ _ (ad (by decide))]; exact g0
            · rw [World.cell?_setCell_other _ _ _ _ (ad (by decide))]; exact g1
            · rw [World.cell?_setCell_other _ _ _ _ (ad (by decide))]; exact g2
            · rw [World.frozen?_setCell, wf]; exact O.fz i
            · exact (Below.heap_setCell _ _ _ _ h3).trans (gb d h2)
            · refine ⟨?_, ?_, ?_, fun i => ?_⟩
              · rw [World.cell?_setCell_other _ _ _ _ (ad (by decide))]; exact World.cell?_of_block (a := ⟨t, 0, none⟩) (gb t h)
              · rw [World.cell?_setCell_other _ _ _ _ (ad (by decide))]; exact World.cell?_of_block (a := ⟨t, 1, none⟩) (gb t h)
              · rw [World.cell?_setCell_other _ _ _ _ (ad (by decide))]; exact World.cell?_of_block (a := ⟨t, 2, none⟩) (gb t h)
              · rw [World.frozen?_setCell, wf]
            · exact World.cell?_setCell_same _ _ _ w3
          · refine Below.setCell ?_ htB _
            rw [← hW2]
            exact ((hbl.setCell (p := ⟨b, 1, none⟩) hbB _).setCell (p := ⟨b, 2, none⟩) hbB _).drew
        clear HQ c1 c2 f1 f2 f3 c3 x0 x1 hbox hW2 wf
        go_wp2_with fail
        refine bodyPost_end (results_none rfl _ _ _) rfl ⟨rfl, ?_⟩
        exact HF.out
theorem val_one (l : List Rf) (x : Rf) (hx : x.ok = true) : vAfter (val l) x.nm x.r = val (l ++ [x]) := by
  funext p
  rw [val_append]
  unfold vAfter
  by_cases hp : p = x.nm
  · rw [if_pos hp]
    cases h : val l p with
    | some v => rfl
    | none => simp [val, hx, hp]
  · rw [if_neg hp]
    have : val [x] p = none := by simp [val]; exact fun _ e => absurd e.symm hp
    rw [this, Option.or_none]
theorem cnt_one (l : List Rf) (x : Rf) (hx : x.ok = true) : cAfter (val l) x.nm (cnt [] l : Nat) = (cnt [] (l ++ [x]) : Nat) := by
  rw [cnt_append]
  unfold cAfter
  simp only [cnt, hx, List.nil_append, true_and, Nat.add_zero]
  cases val l x.nm <;> simp
theorem pre_one (l : List Rf) (x : Rf) (p : Path) (hx : x.ok = true) : pre (l ++ [x]) p = (pre l p || p.isPrefixOf x.nm) := by
  rw [pre_append]
  simp [pre, hx]

theorem TrieIs.skip {w : World} {B t : Nat} {l : List Rf} (T : TrieIs w B t l) (x : Rf) (hx : x.ok = false) : TrieIs w B t (l ++ [x]) := by
  obtain ⟨N, M, k, h1, h2, h3⟩ := T
  have e1 : val (l ++ [x]) = val l := by
    funext p
    rw [val_append]
    simp [val, hx]
  have e2 : cnt [] (l ++ [x]) = cnt [] l := by
    rw [cnt_append]
    simp [cnt, hx]
  refine ⟨N, M, k, by rw [e1, e2]; exact h1, by rw [List.length_append]; omega, fun p => ?_⟩
  rw [h3 p, pre_append]
  simp [pre, hx]

theorem put_any {w : World} {B t : Nat} {l : List Rf} (T : TrieIs w B t l) (x : Rf) (hl : l.length ≤ 100000) (hx : x.ok = true) (hBw : B ≤ w.heap.size) :
    Calls Tryd.prog 48 #[.pointer (some ⟨t, 0, none⟩), .agg #[.string x.n, .int .i64 x.r]] w fun e w' => e = .returned (.tuple #[]) ∧ TrieIs w' B t (l ++ [x]) ∧ Below B w w' := by
  obtain ⟨N, M, k, h1, h2, h3⟩ := T
  have hc := cnt_le [] l
  have hx8 : x.n.size ≤ 8 := by unfold Rf.ok at hx; simp at hx; omega
  refine (put_walk h1 x (by omega) hx8 hBw (by omega) (by omega)).mono ?_
  rintro e w' ⟨rfl, N', M', T', hq, hb⟩
  refine ⟨rfl, ⟨N', M', k + x.n.size, ?_, by rw [List.length_append]; simp; omega, fun p => ?_⟩, hb⟩
  · rw [← val_one l x hx, ← cnt_one l x hx]; exact T'
  · rw [hq p, h3 p, pre_one l x p hx, Bool.or_assoc]

/-- A row of names that lies in memory. -/
def RefRow (w : World) (lo : Option Addr) (l : List Rf) : Prop :=
  ∀ i x, l[i]? = some x → ∃ b off, lo = some ⟨b, off, none⟩ ∧ b < w.heap.size ∧ w.cell? ⟨b, off + i * 2, none⟩ = some (.string x.n) ∧ w.cell? ⟨b, off + i * 2 + 1, none⟩ = some (.int .i64 x.r)

theorem RefRow.below {w w' : World} {lo : Option Addr} {l : List Rf} (h : RefRow w lo l) (b : Below w.heap.size w w') : RefRow w' lo l := fun i x hx => by
  obtain ⟨k, off, h1, h2, h3, h4⟩ := h i x hx
  exact ⟨k, off, h1, Nat.lt_of_lt_of_le h2 b.size, (b.cell (p := ⟨k, off + i * 2, none⟩) h2).trans h3, (b.cell (p := ⟨k, off + i * 2 + 1, none⟩) h2).trans h4⟩

theorem trie_start (w : World) : TrieIs (w.alloc (.cells #[.map none, .bool false, .int .i64 0, .int .i64 0] 80)) w.heap.size w.heap.size [] := by
  obtain ⟨W, hW⟩ : ∃ W, W = w.alloc (.cells #[.map none, .bool false, .int .i64 0, .int .i64 0] 80) := ⟨_, rfl⟩
  have e : W.heap[w.heap.size]? = some (.cells #[.map none, .bool false, .int .i64 0, .int .i64 0] 80 (0, 0)) := by rw [hW]; exact heap_alloc_new _ _
  rw [← hW]
  clear hW
  refine ⟨fun p => if p = [] then some w.heap.size else none, fun _ => none, 0, ?_, Nat.zero_le _, fun p => ?_⟩
  · refine ⟨by simp, fun p b h => ?_, fun p m h => by simp at h, fun p q b h1 h2 => ?_, fun p q b h1 h2 => by simp at h1, fun p x b h => by simp at h, fun p m h => by simp at h, fun p v h => by simp [val] at h, fun p b h => ?_, fun p m h => by simp at h, by simp [World.cell?, e, cnt]⟩
    · split at h
      · cases h; exact Nat.le_refl _
      · cases h
    · split at h1
      · split at h2
        · rename_i e1 e2; rw [e1, e2]
        · cases h2
      · cases h1
    · split at h
      · cases h
        refine ⟨?_, ?_, ?_, fun i => ?_, fun cs z => ?_⟩
        all_goals first | simp [World.cell?, e, val] | simp [World.frozen?, e] | simp [e]
      · cases h
  · cases p <;> simp [pre]

set_option maxHeartbeats 1000000 in
set_option maxRecDepth 10000 in
theorem new_any {w : World} {lo : Option Addr} {l : List Rf} (len cap : Nat) (hrow : RefRow w lo l) (hlen : l.length = len) (hl : len ≤ 100000) :
    Calls Tryd.prog 33 #[.slice lo len cap] w fun e w' => ∃ t, e = .returned (.pointer (some ⟨t, 0, none⟩)) ∧ TrieIs w' w.heap.size t l ∧ Below w.heap.size w w' := by
  have HR : Hid (RefRow w lo l ∧ l.length = len) := ⟨hrow, hlen⟩
  have HT : Hid (TrieIs (w.alloc (.cells #[.map none, .bool false, .int .i64 0, .int .i64 0] 80)) w.heap.size w.heap.size (l.take 0)) := trie_start w
  clear hrow hlen
  go_enter Tryd.func33, Tryd.ntmps33
  go_wp2_with fail
  go_loopw [10] (fun iv wr => ∃ i : Nat, iv = .int .i64 i ∧ i ≤ len ∧ Below w.heap.size w wr ∧ TrieIs wr w.heap.size w.heap.size (l.take i)) (fun iv _ => len - (intOf iv).toNat)
  case atStart => exact ⟨0, rfl, Nat.zero_le _, (Below.refl _ _).alloc (Nat.le_refl _) _, HT.out⟩
  case round =>
    obtain ⟨i, rfl, hi, hbl, Ti⟩ := hrel
    have HTi : Hid (TrieIs wr w.heap.size w.heap.size (l.take i) ∧ Below w.heap.size w wr) := ⟨Ti, hbl⟩
    by_cases hlt : i < len
    · obtain ⟨hrow, hlen⟩ := HR.out
      have hil : i < l.length := by omega
      obtain ⟨b, off, hlo, hb, d0, d1⟩ := hrow i l[i] (List.getElem?_eq_getElem hil)
      have htk : l.take (i + 1) = l.take i ++ [l[i]] := (List.take_append_getElem hil).symm
      obtain ⟨x, hx⟩ : ∃ x, l[i] = x := ⟨_, rfl⟩
      rw [hx] at d0 d1 htk
      have HK : Hid (l.take (i + 1) = l.take i ++ [x]) := htk
      subst hlo
      have e0 := (hbl.cell (p := ⟨b, off + i * 2, none⟩) hb).trans d0
      have e1 := (hbl.cell (p := ⟨b, off + i * 2 + 1, none⟩) hb).trans d1
      have hbr : b < wr.heap.size := Nat.lt_of_lt_of_le hb hbl.size
      clear hrow hlen hil d0 d1 htk hx hb Ti
      obtain ⟨n, r⟩ := x
      simp only at e0 e1
      have Hskip : Hid ((Rf.mk n r).ok = false → Below w.heap.size w (wr.alloc (.cells #[.string n, .int .i64 r] 73)) ∧ TrieIs (wr.alloc (.cells #[.string n, .int .i64 r] 73)) w.heap.size w.heap.size (l.take (i + 1))) := fun h =>
        ⟨HTi.out.2.alloc HTi.out.2.size _, by rw [HK.out]; exact (HTi.out.1.below ((Below.refl _ _).alloc (Nat.le_refl _) _)).skip _ h⟩
      by_cases h1 : 0 < n.size
      · by_cases h2 : n.size ≤ 8
        · have hput := put_any (HTi.out.1.below ((Below.refl _ _).alloc (Nat.le_refl _) (.cells #[.string n, .int .i64 r] 73))) ⟨n, r⟩ (by rw [List.length_take]; omega) (by simp [Rf.ok, h1, h2]) (Nat.le_trans hbl.size (by simp))
          go_wp2_with fail
          refine hput.mono ?_
          rintro e w1 ⟨rfl, T1, b1⟩
          have H1 : Hid (Below w.heap.size w w1 ∧ TrieIs w1 w.heap.size w.heap.size (l.take (i + 1))) := ⟨(HTi.out.2.alloc HTi.out.2.size _).trans b1, by rw [HK.out]; exact T1⟩
          clear T1 b1 hput
          go_wp2_with fail
          exact ⟨⟨i + 1, by go_num, by omega, H1.out⟩, by simp [intOf]; omega⟩
        · go_wp2_with fail
          exact ⟨⟨i + 1, by go_num, by omega, Hskip.out (by simp [Rf.ok]; omega)⟩, by simp [intOf]; omega⟩
      · go_wp2_with fail
        exact ⟨⟨i + 1, by go_num, by omega, Hskip.out (by simp [Rf.ok]; omega)⟩, by simp [intOf]; omega⟩
    · go_wp2_with fail
      go_ret
      refine ⟨w.heap.size, rfl, ?_, HTi.out.2⟩
      have h := HTi.out.1
      rw [List.take_of_length_le (by rw [HR.out.2]; omega)] at h
      exact h
end Go.Proofs.YtaadphifagimaaaDoor
