/- The document's Chars. -/
import Derived.Test.YtkbakbacomidbaaProg
import Derived.BigQuiet
import Derived.BigRegion
import Derived.Deep.DeepCutAuto
import Derived.Deep.QuietTactic
import Derived.Deep.RegionHeld3
import Derived.Deep.RegionLaw
import Derived.Maps.AppendAt
import Derived.ScopeJumps
import Derived.WalkKit
import Derived.WalkLawsBesides
import Derived.WalkMore
import Derived.WalkSpells
import Derived.Test.YtkbakbacomidbaaZd
namespace Go.Proofs.Ytkbakbacomidbaa.G4
open Go.RowKit
theorem fl_at : ∀ (fs : List Int) (k : Nat) (c : Int), fs[k]? = some c → (fs.flatMap fcells)[k * 2]? = some (.int .i64 1) ∧ (fs.flatMap fcells)[k * 2 + 1]? = some (.int .i64 c)
  | [], _, _, h => by simp at h
  | x :: l, 0, c, h => by simp at h; subst h; simp [fcells]
  | x :: l, k + 1, c, h => by
    have := fl_at l k c (by simpa using h)
    rw [List.flatMap_cons]
    have e : ∀ j, (fcells x ++ l.flatMap fcells)[(k + 1) * 2 + j]? = (l.flatMap fcells)[k * 2 + j]? := fun j => by
      rw [List.getElem?_append_right (by simp [fcells]; omega)]; congr 1; simp [fcells]; omega
    exact ⟨(e 0).trans this.1, (e 1).trans this.2⟩
theorem own_keep {w w' : World} {B e s n : Nat} {v : Value} {xs : List Value} (h : w.ownsRow B e s v n xs) (k : ∀ g cur m, v.ownBlock = some g → w.heap[g]? = some (.cells cur e m) → w'.heap[g]? = some (.cells cur e m)) : w'.ownsRow B e s v n xs := by
  refine ⟨h.1, ?_⟩
  rcases h.2 with hn | ⟨g, cap, cur, hv, hb, hg, rest⟩
  · exact .inl hn
  · exact .inr ⟨g, cap, cur, hv, hb, k g cur (0, 0) (by rw [hv]; simp [Value.ownBlock]) hg, rest⟩
theorem own_lt {w : World} {B e s n g : Nat} {v : Value} {xs : List Value} (h : w.ownsRow B e s v n xs) (hg : v.ownBlock = some g) : g < w.heap.size := by
  rcases h.2 with ⟨hn, _⟩ | ⟨g', cap, cur, hv, _, hg', _⟩
  · rw [hn] at hg; simp [Value.ownBlock] at hg
  · rw [hv] at hg; simp [Value.ownBlock] at hg; subst hg; exact (Array.getElem?_eq_some_iff.1 hg').1
/-- What stands within a round of the document's Chars: the character at hand in block cb, what was told in rows of their own behind B. -/
structure Mid9 (B cb : Nat) (c : Ch) (O : List Ch) (Fs : List (Int × Int)) (ov fv : Value) (w V : World) : Prop where
  chr : ChIs cb c V
  ch : Chars B ov O V
  fl : FaultsC B fv Fs V
  ne : ∀ g, ov.ownBlock = some g → g ≠ cb
  below : Below B w V
  hcb : B ≤ cb
theorem Mid9.start {B : Nat} {c : Ch} {O : List Ch} {Fs : List (Int × Int)} {ov fv : Value} {w wr : World} (h1 : Chars B ov O wr) (h2 : FaultsC B fv Fs wr) (b : Below B w wr) (hB : B ≤ wr.heap.size) :
    Mid9 B wr.heap.size c O Fs ov fv w (wr.alloc (.cells #[.int .i64 c.r, .int .i64 c.a, .int .i64 c.z] 62)) := by
  have hb : Below wr.heap.size wr (wr.alloc (.cells #[.int .i64 c.r, .int .i64 c.a, .int .i64 c.z] 62)) := (Below.refl _ _).alloc (Nat.le_refl _) _
  exact ⟨heap_alloc_new _ _, own_below h1 hb, own_below h2 hb, fun g hg => Nat.ne_of_lt (own_lt h1 hg), b.trans (hb.mono hB), hB⟩
theorem Mid9.under {B cb : Nat} {c : Ch} {O : List Ch} {Fs : List (Int × Int)} {ov fv : Value} {w V V' : World} (h : Mid9 B cb c O Fs ov fv w V) (b : Below V.heap.size V V') : Mid9 B cb c O Fs ov fv w V' :=
  ⟨(b.block cb (ch_cell h.chr).1).trans h.chr, own_below h.ch b, own_below h.fl b, h.ne, h.below.trans (b.mono (by have := (ch_cell h.chr).1; have := h.hcb; omega)), h.hcb⟩
theorem Mid9.setR {B cb : Nat} {c : Ch} {O : List Ch} {Fs : List (Int × Int)} {ov fv : Value} {w V : World} (h : Mid9 B cb c O Fs ov fv w V) (r : Int) : Mid9 B cb ⟨r, c.a, c.z⟩ O Fs ov fv w (V.setCell ⟨cb, 0, none⟩ (.int .i64 r)) := by
  have hc := h.chr
  unfold ChIs at hc
  refine ⟨by unfold ChIs; simp [World.setCell, Array.getElem?_modify, hc], own_keep h.ch fun g cur m hg hh => ?_, own_keep h.fl fun g cur m _ hh => ?_, h.ne, h.below.setCell (p := ⟨cb, 0, none⟩) h.hcb _, h.hcb⟩
  · rw [Below.heap_setCell _ _ _ _ (h.ne g hg)]; exact hh
  · rw [Below.heap_setCell _ _ _ _ (fun e => by simp only at e; rw [e, hc] at hh; simp at hh)]; exact hh
theorem Mid9.setZ {B cb : Nat} {c : Ch} {O : List Ch} {Fs : List (Int × Int)} {ov fv : Value} {w V : World} (h : Mid9 B cb c O Fs ov fv w V) (z : Int) : Mid9 B cb ⟨c.r, c.a, z⟩ O Fs ov fv w (V.setCell ⟨cb, 2, none⟩ (.int .i64 z)) := by
  have hc := h.chr
  unfold ChIs at hc
  refine ⟨by unfold ChIs; simp [World.setCell, Array.getElem?_modify, hc], own_keep h.ch fun g cur m hg hh => ?_, own_keep h.fl fun g cur m _ hh => ?_, h.ne, h.below.setCell (p := ⟨cb, 2, none⟩) h.hcb _, h.hcb⟩
  · rw [Below.heap_setCell _ _ _ _ (h.ne g hg)]; exact hh
  · rw [Below.heap_setCell _ _ _ _ (fun e => by simp only at e; rw [e, hc] at hh; simp at hh)]; exact hh
/-- One fault more. -/
theorem Mid9.fault {B cb n k : Nat} {c : Ch} {O : List Ch} {Fs : List (Int × Int)} {ov : Value} {fa : Option Addr} {w V : World} (h : Mid9 B cb c O Fs ov (.slice fa n k) w V) (hn : Fs.length = n) (hn2 : n ≤ 1000000) (r p : Int) :
    ∃ fa' k' V', (Builtin.append_ #[31, 31] 31 #[.slice fa n k, .slice (some ⟨V.heap.size, 0, none⟩) 1 1]).run Try.prog (V.alloc (.cells #[.int .i64 r, .int .i64 p] 64)) = .ok (.slice fa' (n + 1) k') V' ∧
      Mid9 B cb c O (Fs ++ [(r, p)]) ov (.slice fa' (n + 1) k') w V' := by
  subst hn
  have hB : B ≤ V.heap.size := by have := (ch_cell h.chr).1; have := h.hcb; omega
  obtain ⟨ao', c', W', hr, ho, hbe, hk⟩ := row_more (t := 31) (news := gcells (r, p)) Try.underlying31 info58 rfl (by decide) (by decide) h.fl hB hn2 rfl (by simp [gcells, Value.oneCell'])
  refine ⟨ao', c', W', hr, hk cb _ 62 (0, 0) (by decide) h.chr, own_same h.ch fun g cur m _ hg => hk g cur 62 m (by decide) hg, ?_, h.ne, h.below.trans hbe, h.hcb⟩
  unfold FaultsC
  rw [List.length_append, List.flatMap_append]
  simpa using ho
/-- The character is told. -/
theorem Mid9.char {B cb n k : Nat} {c : Ch} {O : List Ch} {Fs : List (Int × Int)} {fv : Value} {ca : Option Addr} {w V : World} (h : Mid9 B cb c O Fs (.slice ca n k) fv w V) (hn : O.length = n) (hn2 : n ≤ 1000000) :
    ∃ ca' k' V', (Builtin.append_ #[50, 50] 50 #[.slice ca n k, .slice (some ⟨V.heap.size, 0, none⟩) 1 1]).run Try.prog (V.alloc (.cells #[.int .i64 c.r, .int .i64 c.a, .int .i64 c.z] 62)) = .ok (.slice ca' (n + 1) k') V' ∧
      Chars B (.slice ca' (n + 1) k') (O ++ [c]) V' ∧ FaultsC B fv Fs V' ∧ Below B w V' := by
  subst hn
  have hB : B ≤ V.heap.size := by have := (ch_cell h.chr).1; have := h.hcb; omega
  obtain ⟨ao', c', W', hr, ho, hbe, hk⟩ := row_more (t := 50) (news := Ch.cells c) Try.underlying50 info37 rfl (by decide) (by decide) h.ch hB hn2 rfl (by simp [Ch.cells, Value.oneCell'])
  refine ⟨ao', c', W', hr, ?_, own_same h.fl fun g cur m _ hg => hk g cur 64 m (by decide) hg, h.below.trans hbe⟩
  unfold Chars
  rw [List.length_append, List.flatMap_append]
  simpa using ho
/-- How far the document's Chars has come. -/
structure At9 (I A R : List (Int × Nat)) (ov fv : Value) (O : List Ch) (w1 wr : World) : Prop where
  it : I = A ++ R
  ch : Chars w1.heap.size ov O wr
  out : O ++ rfs (chs (0 + (tot A : Nat)) R) = rfs (chs 0 I)
  few : O.length ≤ A.length
  fl : FaultsC w1.heap.size fv (fcs 0 A) wr
  below : Below w1.heap.size w1 wr
theorem at9_one {I A R : List (Int × Nat)} {r : Int} {n : Nat} {q z rr : Int} {ov fv ov' fv' : Value} {O : List Ch} {w1 wr V : World} (h : At9 I A ((r, n) :: R) ov fv O w1 wr) (hq : 0 + (tot A : Nat) = q) (hz : q + (n : Int) = z) (hr : (if r = -1 then 65533 else r) = rr)
    (hno : rr = 13 → ∀ c l, chs z R = c :: l → c.r ≠ 10) (c1 : Chars w1.heap.size ov' (O ++ [fix ⟨rr, q, z⟩]) V) (f1 : FaultsC w1.heap.size fv' (fcs 0 A ++ if cod r = 0 then [] else [(cod r, q)]) V) (b1 : Below w1.heap.size w1 V) : At9 I (A ++ [(r, n)]) R ov' fv' (O ++ [fix ⟨rr, q, z⟩]) w1 V := by
  subst hz
  subst hq
  have ef : fcs 0 (A ++ [(r, n)]) = fcs 0 A ++ if cod r = 0 then [] else [(cod r, (0 : Int) + (tot A : Nat))] := by rw [fcs_append]; simp [fcs]
  have et : (0 : Int) + ((tot (A ++ [(r, n)]) : Nat) : Int) = 0 + (tot A : Nat) + (n : Int) := by rw [tot_append, tot_cons, tot_nil]; simp
  refine ⟨by rw [h.it]; simp, c1, ?_, by simp; exact h.few, by rw [ef]; exact f1, b1⟩
  rw [et, ← h.out, List.append_assoc]
  congr 1
  show [_] ++ _ = rfs (⟨if r = -1 then 65533 else r, _, _⟩ :: chs _ R)
  rw [hr]
  cases hc : chs (0 + (tot A : Nat) + (n : Int)) R with
  | nil => rfl
  | cons c l =>
    rw [rfs, if_neg (fun x => hno x.1 c l hc x.2)]; rfl
theorem at9_two {I A R : List (Int × Nat)} {r r2 : Int} {n n2 : Nat} {q z z2 : Int} {ov fv ov' : Value} {O : List Ch} {w1 wr V : World} (h : At9 I A ((r, n) :: (r2, n2) :: R) ov fv O w1 wr) (hq : 0 + (tot A : Nat) = q) (hz : q + (n : Int) = z) (hz2 : z + (n2 : Int) = z2) (hr : r = 13) (hr2 : r2 = 10)
    (c1 : Chars w1.heap.size ov' (O ++ [⟨10, q, z2⟩]) V) (f1 : FaultsC w1.heap.size fv (fcs 0 A) V) (b1 : Below w1.heap.size w1 V) : At9 I (A ++ [(r, n), (r2, n2)]) R ov' fv (O ++ [⟨10, q, z2⟩]) w1 V ∧ fls 0 (A ++ [(r, n), (r2, n2)]) = fls 0 A := by
  subst hz2
  subst hz
  subst hq
  subst hr
  subst hr2
  have ef : fcs 0 (A ++ [(13, n), (10, n2)]) = fcs 0 A := by rw [fcs_append]; simp [fcs, cod_low]
  have et : (0 : Int) + ((tot (A ++ [(13, n), (10, n2)]) : Nat) : Int) = 0 + (tot A : Nat) + (n : Int) + (n2 : Int) := by rw [tot_append, tot_cons, tot_cons, tot_nil]; simp; omega
  refine ⟨⟨by rw [h.it]; simp, c1, ?_, by simp; have := h.few; omega, by rw [ef]; exact f1, b1⟩, by rw [fls_append]; simp [fls]⟩
  rw [et, ← h.out, List.append_assoc]
  congr 1
theorem size_set (W : World) (p : Addr) (u : Value) : (W.setCell p u).heap.size = W.heap.size := by simp [World.setCell]
theorem rbad_as (r b : Int) (w : World) (h₀ : 0 ≤ r) (h₁ : r ≤ 1000000000) (hb : badN r = b) : Calls Try.prog 31 #[.int .i64 r] w fun e w' => e = .returned (.int .i64 b) ∧ w' = w := by
  subst hb; exact rbad_any r w h₀ h₁
theorem fls_snoc (A : List (Int × Nat)) (r : Int) (n : Nat) : (fls 0 (A ++ [(r, n)])).length = (fls 0 A).length + if r = -1 then 1 else 0 := by
  rw [fls_append, List.length_append]
  congr 1
  simp only [fls, List.append_nil]
  split <;> rfl
theorem fls_at (A R : List (Int × Nat)) (y : Int) (l : List Int) (h : fls (0 + (tot A : Nat)) R = y :: l) : (fls 0 (A ++ R))[(fls 0 A).length]? = some y := by
  rw [fls_append, List.getElem?_append_right (Nat.le_refl _), Nat.sub_self, h]; rfl
theorem items_few (s : ByteArray) (hs : s.size ≤ 100000) : (items s.data.toList).length ≤ 200001 := by
  obtain ⟨_, r2, _, _⟩ := run_ok s.data.toList [] trivial
  have h := run_few s.data.toList []
  have hl : s.data.toList.length = s.size := Array.length_toList
  rw [List.nil_append] at r2
  rw [r2, List.length_append]
  have := fin_few (run [] s.data.toList).1
  omega
theorem rdec_as (s : ByteArray) (I : List (Int × Nat)) (w : World) (hI : items s.data.toList = I) (hs : s.size ≤ 100000) :
    Calls Try.prog 30 #[.string s, .int .i64 0] w fun e w' => ∃ ca cc fa fc, e = .returned (.tuple #[.slice ca I.length cc, .slice fa (fls 0 I).length fc]) ∧
      Chars w.heap.size (.slice ca I.length cc) (chs 0 I) w' ∧ Faults w.heap.size (.slice fa (fls 0 I).length fc) (fls 0 I) w' ∧ Below w.heap.size w w' ∧ I.length ≤ cc ∧ cc ≤ maxLen ∧ (fls 0 I).length ≤ fc ∧ fc ≤ maxLen := by
  subst hI
  refine (rdec_any s 0 w (by omega) (by omega) hs).mono ?_
  rintro e w' ⟨ca, cn, cc, fa, fn, fc, rfl, h1, h2, h3⟩
  obtain ⟨ao, c, e1, l1, l2⟩ := own_form h1
  obtain ⟨ao2, c2, e2, l3, l4⟩ := own_form h2
  simp only [Value.slice.injEq] at e1 e2
  obtain ⟨rfl, rfl, rfl⟩ := e1
  obtain ⟨rfl, rfl, rfl⟩ := e2
  rw [chs_length] at h1 l1 ⊢
  exact ⟨_, _, _, _, rfl, h1, h2, h3, l1, l2, l3, l4⟩
theorem chars_cell {B gl cn cc k : Nat} {l : List Ch} {x : Ch} {w1 wr : World} {ca : Option Addr} (h : Chars B (.slice ca cn cc) l w1) (b : Below w1.heap.size w1 wr) (hca : ca = some ⟨gl, 0, none⟩) (hk : l[k]? = some x) : gl < w1.heap.size ∧ wr.cell? ⟨gl, k * 3, none⟩ = some (.int .i64 x.r) ∧ wr.cell? ⟨gl, k * 3 + 1, none⟩ = some (.int .i64 x.a) ∧ wr.cell? ⟨gl, k * 3 + 2, none⟩ = some (.int .i64 x.z) := by
  subst hca
  have hl : 0 < l.length := by cases l with | nil => simp at hk | cons _ _ => simp
  obtain ⟨g, cap, hv, _, _, hg, hc⟩ := row_cells h hl
  simp only [Value.slice.injEq, Option.some.injEq, Addr.mk.injEq] at hv
  obtain ⟨⟨rfl, _⟩, _, _⟩ := hv
  obtain ⟨q0, q1, q2⟩ := ch_at l k x hk
  exact ⟨hg, (b.cell (p := ⟨gl, k * 3, none⟩) hg).trans (hc _ _ q0), (b.cell (p := ⟨gl, k * 3 + 1, none⟩) hg).trans (hc _ _ q1), (b.cell (p := ⟨gl, k * 3 + 2, none⟩) hg).trans (hc _ _ q2)⟩
theorem chars_addr {B cn cc k : Nat} {l : List Ch} {x : Ch} {w1 : World} {ca : Option Addr} (h : Chars B (.slice ca cn cc) l w1) (hk : l[k]? = some x) : ∃ gl, ca = some ⟨gl, 0, none⟩ := by
  have hl : 0 < l.length := by cases l with | nil => simp at hk | cons _ _ => simp
  obtain ⟨g, cap, hv, _⟩ := row_cells h hl
  simp only [Value.slice.injEq] at hv
  exact ⟨g, hv.1⟩
theorem odd_cell {B fn fc k : Nat} {l : List Int} {y : Int} {w1 wr : World} {fa : Option Addr} (h : Faults B (.slice fa fn fc) l w1) (b : Below w1.heap.size w1 wr) (hk : l[k]? = some y) : ∃ go, fa = some ⟨go, 0, none⟩ ∧ go < w1.heap.size ∧ wr.cell? ⟨go, k * 2, none⟩ = some (.int .i64 1) ∧ wr.cell? ⟨go, k * 2 + 1, none⟩ = some (.int .i64 y) := by
  have hl : 0 < l.length := by cases l with | nil => simp at hk | cons _ _ => simp
  obtain ⟨g, cap, hv, _, _, hg, hc⟩ := row_cells h hl
  simp only [Value.slice.injEq] at hv
  obtain ⟨q0, q1⟩ := fl_at l k y hk
  exact ⟨g, hv.1, hg, (b.cell (p := ⟨g, k * 2, none⟩) hg).trans (hc _ _ q0), (b.cell (p := ⟨g, k * 2 + 1, none⟩) hg).trans (hc _ _ q1)⟩
set_option maxHeartbeats 8000000 in
set_option maxRecDepth 10000 in
set_option maxRecDepth 20000 in
theorem rchs_any (s : ByteArray) (w : World) (hs : s.size ≤ 50000) :
    Calls Try.prog 25 #[.string s] w fun e w' => ∃ ca cn cc fa fn fc, e = .returned (.tuple #[.slice ca cn cc, .slice fa fn fc]) ∧
      Chars w.heap.size (.slice ca cn cc) (outc s.data.toList) w' ∧ FaultsC w.heap.size (.slice fa fn fc) (fcs 0 (items s.data.toList)) w' ∧ Below w.heap.size w w' := by
  have hfew := items_few s (by omega)
  have HP1 : Hid (∀ y ∈ items s.data.toList, 1 ≤ y.2) := items_pos s.data.toList
  have HP2 : Hid (∀ y ∈ items s.data.toList, y.1 = -1 ∨ (0 ≤ y.1 ∧ y.1 ≤ 1000000000)) := items_range _ _ (Nat.le_refl _)
  unfold outc
  obtain ⟨I, hI⟩ : ∃ I, items s.data.toList = I := ⟨_, rfl⟩
  have HI : Hid (items s.data.toList = I) := hI
  rw [hI] at hfew HP1 HP2 ⊢
  clear hI
  go_enter Try.func25, Try.ntmps25
  go_wp2_with fail
  refine (rdec_as s I _ HI.out (by omega)).mono ?_
  rintro e w1 ⟨ca, cc, fa, fc, rfl, rc, rf, b1, hcc, hcm, hfc, hfm⟩
  obtain ⟨cn, hcn⟩ : ∃ cn, I.length = cn := ⟨_, rfl⟩
  obtain ⟨fn, hfn⟩ : ∃ fn, (fls 0 I).length = fn := ⟨_, rfl⟩
  rw [hcn] at rc hcc hfew ⊢
  rw [hfn] at rf hfc ⊢
  have HCN : Hid (I.length = cn) := hcn
  have HFN : Hid ((fls 0 I).length = fn) := hfn
  have RC : Hid (Chars w.heap.size (.slice ca cn cc) (chs 0 I) w1) := rc
  have RF : Hid (Faults w.heap.size (.slice fa fn fc) (fls 0 I) w1) := rf
  have B1 : Hid (Below w.heap.size w w1) := b1
  have hfI := fls_length I 0
  rw [hfn, hcn] at hfI
  have hfcI := fcs_length I 0
  have H0 : Hid (At9 I [] I (.slice none 0 0) (.slice none 0 0) [] w1 w1) := ⟨rfl, World.ownsRow_nil _ _ _ _, by simp [tot], Nat.le_refl _, World.ownsRow_nil _ _ _ _, Below.refl _ _⟩
  unfold maxLen at hcm hfm
  clear rc rf b1 hcn hfn
  go_wp2_with fail
  go_loopw [6, 7, 8, 9] (fun ov fv kv iv wr => ∃ (A R : List (Int × Nat)) (O : List Ch), iv = .int .i64 (A.length : Nat) ∧ kv = .int .i64 ((fls 0 A).length : Nat) ∧ At9 I A R ov fv O w1 wr) (fun _ _ _ iv _ => cn - (intOf iv).toNat)
  case atStart => exact ⟨[], I, [], rfl, rfl, H0.out⟩
  case round =>
    obtain ⟨A, R, O, rfl, rfl, hat⟩ := hrel
    obtain ⟨oa, oc, rfl, _, _⟩ := own_form hat.ch
    obtain ⟨ga, gc, rfl, _, _⟩ := own_form hat.fl
    have hAl : cn = A.length + R.length := by have := HCN.out; rw [hat.it, List.length_append] at this; omega
    have hon := hat.few
    have hgn := fcs_length A 0
    obtain ⟨K, hK⟩ : ∃ K, A.length = K := ⟨_, rfl⟩
    obtain ⟨m, hm⟩ : ∃ m, (fls 0 A).length = m := ⟨_, rfl⟩
    obtain ⟨on, hon2⟩ : ∃ on, O.length = on := ⟨_, rfl⟩
    obtain ⟨gn, hgn2⟩ : ∃ gn, (fcs 0 A).length = gn := ⟨_, rfl⟩
    have hmf := fls_length A 0
    rw [hK, hm] at hmf
    rw [hK, hon2] at hon
    rw [hK, hgn2] at hgn
    rw [hK] at hAl
    rw [hon2, hgn2] at hat
    rw [hK, hm, hon2, hgn2]
    have HK : Hid (A.length = K) := hK
    have HM : Hid ((fls 0 A).length = m) := hm
    have HON : Hid (O.length = on) := hon2
    have HGN : Hid ((fcs 0 A).length = gn) := hgn2
    clear hK hm hon2 hgn2
    have HZ1 : Hid (w1.heap.size ≤ wr.heap.size) := hat.below.size
    cases R with
    | nil =>
      have hge : ¬ K < cn := by rw [hAl]; simp
      have HAT : Hid (At9 I A [] (.slice oa on oc) (.slice ga gn gc) O w1 wr) := hat
      clear hat hAl
      go_wp2_with fail
      go_ret2
      have a1 := HAT.out
      have e1 : I = A := by have := a1.it; rwa [List.append_nil] at this
      have e2 := a1.out
      simp only [chs, rfs, List.append_nil] at e2
      rw [← e2, e1]
      exact ⟨_, _, _, _, _, _, rfl, own_base a1.ch B1.out.size, own_base a1.fl B1.out.size, B1.out.trans (a1.below.mono B1.out.size)⟩
    | cons y R =>
      obtain ⟨r, n⟩ := y
      have hlt : K < cn := by rw [hAl]; simp
      have hmem : (r, n) ∈ I := by rw [hat.it]; simp
      have hn1 : 1 ≤ n := HP1.out (r, n) hmem
      have hrr := HP2.out (r, n) hmem
      simp only at hrr
      obtain ⟨q, hq⟩ : ∃ q, (0 : Int) + (tot A : Nat) = q := ⟨_, rfl⟩
      obtain ⟨z, hz⟩ : ∃ z, q + (n : Int) = z := ⟨_, rfl⟩
      obtain ⟨rr, hr⟩ : ∃ rr, (if r = -1 then 65533 else r) = rr := ⟨_, rfl⟩
      have hrr2 : 0 ≤ rr ∧ rr ≤ 1000000000 := by rw [← hr]; split <;> omega
      have hx := chs_at A R r n 0
      rw [← hat.it, hq, hz, hr, HK.out] at hx
      obtain ⟨gl, rfl⟩ := chars_addr RC.out hx
      obtain ⟨hgl1, d0, d1, d2⟩ := chars_cell RC.out hat.below rfl hx
      simp only at d0 d1 d2
      have hgl : gl < wr.heap.size := Nat.lt_of_lt_of_le hgl1 hat.below.size
      have HAT : Hid (At9 I A ((r, n) :: R) (.slice oa on oc) (.slice ga gn gc) O w1 wr) := hat
      have HQ : Hid ((0 : Int) + (tot A : Nat) = q) := hq
      have HZ : Hid (q + (n : Int) = z) := hz
      have HR : Hid ((if r = -1 then 65533 else r) = rr) := hr
      have HA : Hid (cn = K + (R.length + 1)) := hAl
      have HM0 : Hid (Mid9 w1.heap.size wr.heap.size ⟨rr, q, z⟩ O (fcs 0 A) (.slice oa on oc) (.slice ga gn gc) w1 (wr.alloc (.cells #[.int .i64 rr, .int .i64 q, .int .i64 z] 62))) := Mid9.start hat.ch hat.fl hat.below hat.below.size
      have HBW : Hid (Below wr.heap.size wr (wr.alloc (.cells #[.int .i64 rr, .int .i64 q, .int .i64 z] 62))) := (Below.refl _ _).alloc (Nat.le_refl _) _
      obtain ⟨hcw, ch0, ch1, ch2, hcf⟩ := ch_cell HM0.out.chr
      have hcf2 : (wr.alloc (.cells #[.int .i64 rr, .int .i64 q, .int .i64 z] 62)).frozen? ⟨wr.heap.size, 2, none⟩ = false := World.frozen?_alloc_at _ _ _ _ rfl
      simp only at ch0 ch1 ch2
      obtain ⟨hr0, hr1⟩ := hrr2
      have hodd : (r = -1 ∧ ∃ go, fa = some ⟨go, 0, none⟩ ∧ go < wr.heap.size ∧ wr.cell? ⟨go, m * 2, none⟩ = some (.int .i64 1) ∧ wr.cell? ⟨go, m * 2 + 1, none⟩ = some (.int .i64 q) ∧ m < fn) ∨
          (r ≠ -1 ∧ ((¬ m < fn) ∨ ∃ go y, fa = some ⟨go, 0, none⟩ ∧ go < wr.heap.size ∧ wr.cell? ⟨go, m * 2, none⟩ = some (.int .i64 1) ∧ wr.cell? ⟨go, m * 2 + 1, none⟩ = some (.int .i64 y) ∧ m < fn ∧ (y == q) = false)) := by
        have ef : fls 0 I = fls 0 A ++ fls q ((r, n) :: R) := by rw [hat.it, fls_append, hq]
        have el : (fls 0 I).length = (fls 0 A).length + (fls q ((r, n) :: R)).length := by rw [ef, List.length_append]
        rw [HFN.out, HM.out] at el
        by_cases h1 : r = -1
        · left
          refine ⟨h1, ?_⟩
          have e0 : fls q ((r, n) :: R) = q :: fls z R := by subst h1; simp only [fls]; rw [hz]; rfl
          have hk := fls_at A ((r, n) :: R) q (fls z R) (by rw [hq]; exact e0)
          rw [← hat.it, HM.out] at hk
          obtain ⟨go, h2, h3, h4, h5⟩ := odd_cell RF.out hat.below hk
          rw [e0] at el
          exact ⟨go, h2, Nat.lt_of_lt_of_le h3 hat.below.size, h4, h5, by rw [el]; simp⟩
        · right
          refine ⟨h1, ?_⟩
          have e0 : fls q ((r, n) :: R) = fls z R := by simp only [fls]; rw [if_neg h1, hz]; rfl
          rw [e0] at el
          cases hF : fls z R with
          | nil => left; rw [hF] at el; simp at el; omega
          | cons y l =>
            right
            have hk := fls_at A ((r, n) :: R) y l (by rw [hq, e0, hF])
            rw [← hat.it, HM.out] at hk
            obtain ⟨go, h2, h3, h4, h5⟩ := odd_cell RF.out hat.below hk
            have hyz : z ≤ y := fls_ge R z y (by rw [hF]; simp)
            rw [hF] at el
            exact ⟨go, y, h2, Nat.lt_of_lt_of_le h3 hat.below.size, h4, h5, by rw [el]; simp, by rw [beq_eq_false_iff_ne]; omega⟩
      clear hat hAl hx hmem hq hz hr hgl1
      rcases hodd with ⟨hc1, go, rfl, hgo, i0, i1, hmlt⟩ | ⟨hc1, hodd⟩
      · have hz0 : (rr == 0) = false := by rw [← HR.out, if_pos hc1]; rfl
        have hz13 : (rr == 13) = false := by rw [← HR.out, if_pos hc1]; rfl
        have hg0 : decide (m < fn) = true := decide_eq_true hmlt
        have j0 := (HBW.out.cell (p := ⟨go, m * 2, none⟩) hgo).trans i0
        have j1 := (HBW.out.cell (p := ⟨go, m * 2 + 1, none⟩) hgo).trans i1
        have HC1 : Hid (r = -1) := hc1
        have hmfn : (m : Int) < fn := by omega
        clear i0 i1 hc1
        go_wp2_with fail
        generalize wr.alloc (.cells #[.int .i64 rr, .int .i64 q, .int .i64 z] 62) = W1 at *
        go_quiet (fail)
        obtain ⟨fa', k', V2, hrun, hM2⟩ := (HM0.out.under (below_drewN (Below.refl _ _) nq)).fault HGN.out (by omega) 1 q
        obtain ⟨ca', k2, V4, hrun2, c4, f4, b4⟩ := hM2.char HON.out (by omega)
        obtain ⟨hcw2, x0, x1, x2, _⟩ := ch_cell hM2.chr
        simp only at x0 x1 x2
        have N4 : Hid (At9 I (A ++ [(r, n)]) R (.slice ca' (on + 1) k2) (.slice fa' (gn + 1) k') (O ++ [fix ⟨rr, q, z⟩]) w1 V4) := by
          have ec : cod r = 1 := by rw [HC1.out]; rfl
          have e2 : fix ⟨rr, q, z⟩ = ⟨rr, q, z⟩ := by unfold fix; rw [if_neg (by simpa using hz0), if_neg (by simpa using hz13)]
          refine at9_one HAT.out HQ.out HZ.out HR.out (fun h => absurd h (by simpa using hz13)) (by rw [e2]; exact c4) (by rw [ec]; exact f4) b4
        clear c4 f4 b4 hM2
        go_wp2_with (first | (at_builtin; first | refine list_append_eq rfl _ _ 31 31 rfl _ _ rfl rfl hrun ?_ | refine list_append_eq rfl _ _ 50 50 rfl _ _ rfl rfl hrun2 ?_))
        go_roundw
        case rel =>
          refine ⟨A ++ [(r, n)], R, _, by rw [List.length_append, HK.out]; go_num, by rw [fls_snoc, HM.out]; rw [if_pos HC1.out]; go_num, N4.out⟩
        case measure => simp [intOf]; omega
      · have hkind : rr = 0 ∨ rr = 13 ∨ ((rr == 0) = false ∧ (rr == 13) = false) := by
          by_cases h1 : rr = 0
          · exact .inl h1
          · by_cases h2 : rr = 13
            · exact .inr (.inl h2)
            · exact .inr (.inr ⟨by simpa using h1, by simpa using h2⟩)
        rcases hkind with hrr0 | hrr13 | ⟨hz0, hz13⟩
        · subst hrr0
          obtain ⟨b, hb⟩ : ∃ b, badN 0 = b := ⟨_, rfl⟩
          have HB : Hid (badN 0 = b) := hb
          have hcod : Hid (cod r = b) := by show cod r = b; rw [← hb]; exact (cod_of HR.out hc1).symm
          have HC1 : Hid (r ≠ -1) := hc1
          clear hc1 hb
          have hbn : (b != 0) = true := by rw [← HB.out]; rfl
          rcases hodd with hE | ⟨go, y, rfl, hgo, i0, i1, hmlt, hyq⟩
          case' inl =>
            have hg0 : decide (m < fn) = false := decide_eq_false hE
            go_wp2_with fail
            generalize wr.alloc (.cells #[.int .i64 0, .int .i64 q, .int .i64 z] 62) = W1 at *
            go_quiet (fail)
          case' inr =>
            have hg0 : decide (m < fn) = true := decide_eq_true hmlt
            have j0 := (HBW.out.cell (p := ⟨go, m * 2, none⟩) hgo).trans i0
            have j1 := (HBW.out.cell (p := ⟨go, m * 2 + 1, none⟩) hgo).trans i1
            have hmfn : (m : Int) < fn := by omega
            clear i0 i1
            go_wp2_with fail
            generalize wr.alloc (.cells #[.int .i64 0, .int .i64 q, .int .i64 z] 62) = W1 at *
            go_quiet (fail)
          all_goals
            obtain ⟨fa', k', V2, hrun, hM2⟩ := (HM0.out.under (below_drewN (Below.refl _ _) nq)).fault HGN.out (by omega) b q
            obtain ⟨hcw2, x0, x1, x2, xf⟩ := ch_cell hM2.chr
            simp only at x0 x1 x2
            obtain ⟨ca', k2, V4, hrun2, c4, f4, b4⟩ := (hM2.setR 65533).char HON.out (by omega)
            simp only [size_set] at hrun2
            have N4 : Hid (At9 I (A ++ [(r, n)]) R (.slice ca' (on + 1) k2) (.slice fa' (gn + 1) k') (O ++ [fix ⟨0, q, z⟩]) w1 V4) := by
              have e2 : fix ⟨0, q, z⟩ = ⟨65533, q, z⟩ := by unfold fix; rfl
              refine at9_one HAT.out HQ.out HZ.out HR.out (fun h => absurd h (by decide)) (by rw [e2]; exact c4) ?_ b4
              rw [hcod.out, if_neg (by simpa using hbn)]
              exact f4
            clear c4 f4 b4 hM2
            go_wp2_with (first | (go_at_call 31; refine (rbad_as 0 b _ hr0 hr1 HB.out).mono ?_; rintro e w' ⟨rfl, rfl⟩) | (at_builtin; first | refine list_append_eq rfl _ _ 31 31 rfl _ _ rfl rfl hrun ?_ | refine list_append_eq rfl _ _ 50 50 rfl _ _ rfl rfl hrun2 ?_))
            go_roundw
            case rel =>
              refine ⟨A ++ [(r, n)], R, _, by rw [List.length_append, HK.out]; go_num, by rw [fls_snoc, HM.out]; rw [if_neg HC1.out]; simp, N4.out⟩
            case measure => simp [intOf]; omega
        · subst hrr13
          cases R with
          | nil =>
            obtain ⟨b, hb⟩ : ∃ b, badN 13 = b := ⟨_, rfl⟩
            have HB : Hid (badN 13 = b) := hb
            have hcod : Hid (cod r = b) := by show cod r = b; rw [← hb]; exact (cod_of HR.out hc1).symm
            have HC1 : Hid (r ≠ -1) := hc1
            clear hc1 hb
            have hbn : (b != 0) = false := by rw [← HB.out]; rfl
            have hend : ¬ K + 1 < cn := by have := HA.out; simp at this; omega
            rcases hodd with hE | ⟨go, y, rfl, hgo, i0, i1, hmlt, hyq⟩
            case' inl =>
              have hg0 : decide (m < fn) = false := decide_eq_false hE
              go_wp2_with fail
              generalize wr.alloc (.cells #[.int .i64 13, .int .i64 q, .int .i64 z] 62) = W1 at *
              go_quiet (fail)
            case' inr =>
              have hg0 : decide (m < fn) = true := decide_eq_true hmlt
              have j0 := (HBW.out.cell (p := ⟨go, m * 2, none⟩) hgo).trans i0
              have j1 := (HBW.out.cell (p := ⟨go, m * 2 + 1, none⟩) hgo).trans i1
              have hmfn : (m : Int) < fn := by omega
              clear i0 i1
              go_wp2_with fail
              generalize wr.alloc (.cells #[.int .i64 13, .int .i64 q, .int .i64 z] 62) = W1 at *
              go_quiet (fail)
            all_goals
              have hM2 := HM0.out.under (below_drewN (Below.refl _ _) nq)
              obtain ⟨ca', k2, V4, hrun2, c4, f4, b4⟩ := (hM2.setR 10).char HON.out (by omega)
              simp only [size_set] at hrun2
              have N4 : Hid (At9 I (A ++ [(r, n)]) [] (.slice ca' (on + 1) k2) (.slice ga gn gc) (O ++ [fix ⟨13, q, z⟩]) w1 V4) := by
                have e2 : fix ⟨13, q, z⟩ = ⟨10, q, z⟩ := by unfold fix; rfl
                refine at9_one HAT.out HQ.out HZ.out HR.out (fun _ c l h => by simp [chs] at h) (by rw [e2]; exact c4) ?_ b4
                rw [hcod.out, if_pos (by simpa using hbn), List.append_nil]
                exact f4
              clear c4 f4 b4 hM2
              go_wp2_with (first | (go_at_call 31; refine (rbad_as 13 b _ hr0 hr1 HB.out).mono ?_; rintro e w' ⟨rfl, rfl⟩) | (at_builtin; refine list_append_eq rfl _ _ 50 50 rfl _ _ rfl rfl hrun2 ?_))
              go_roundw
              case rel =>
                refine ⟨A ++ [(r, n)], [], _, by rw [List.length_append, HK.out]; go_num, by rw [fls_snoc, HM.out]; rw [if_neg HC1.out]; simp, N4.out⟩
              case measure => simp [intOf]; omega
          | cons y2 R =>
            obtain ⟨r2, n2⟩ := y2
            by_cases hten0 : (if r2 = -1 then 65533 else r2) = 10
            · obtain ⟨b, hb⟩ : ∃ b, badN 13 = b := ⟨_, rfl⟩
              have HB : Hid (badN 13 = b) := hb
              have hcod : Hid (cod r = b) := by show cod r = b; rw [← hb]; exact (cod_of HR.out hc1).symm
              have HC1 : Hid (r ≠ -1) := hc1
              clear hc1 hb
              have hbn : (b != 0) = false := by rw [← HB.out]; rfl
              have hnext : K + 1 < cn := by have := HA.out; simp at this; omega
              obtain ⟨z2, hz2⟩ : ∃ z2, z + (n2 : Int) = z2 := ⟨_, rfl⟩
              have hr2 := hten0
              have hx2 := chs_at (A ++ [(r, n)]) R r2 n2 0
              have ht2 : (0 : Int) + ((tot (A ++ [(r, n)]) : Nat) : Int) = z := by
                rw [tot_append, tot_cons, tot_nil]; have := HQ.out; have := HZ.out; simp; omega
              have hI2 : A ++ [(r, n)] ++ (r2, n2) :: R = I := by rw [HAT.out.it]; simp
              have hK2 : (A ++ [(r, n)]).length = K + 1 := by rw [List.length_append, HK.out]; rfl
              rw [hI2, ht2, hz2, hr2, hK2] at hx2
              obtain ⟨_, e0, e1, e2⟩ := chars_cell RC.out HAT.out.below rfl hx2
              simp only at e0 e1 e2
              have k0 := (HBW.out.cell (p := ⟨gl, (K + 1) * 3, none⟩) hgl).trans e0
              have k2c := (HBW.out.cell (p := ⟨gl, (K + 1) * 3 + 2, none⟩) hgl).trans e2
              have hglW : gl ≠ wr.heap.size := Nat.ne_of_lt hgl
              have HZ2 : Hid (z + (n2 : Int) = z2) := hz2
              have HR2 : Hid ((if r2 = -1 then 65533 else r2) = 10) := hr2
              clear hten0 hx2 ht2 hI2 hK2 e0 e1 e2 hz2 hr2
              rcases hodd with hE | ⟨go, y, rfl, hgo, i0, i1, hmlt, hyq⟩
              case' inl =>
                have hg0 : decide (m < fn) = false := decide_eq_false hE
                go_wp2_with fail
                generalize wr.alloc (.cells #[.int .i64 13, .int .i64 q, .int .i64 z] 62) = W1 at *
                go_quiet (fail)
              case' inr =>
                have hg0 : decide (m < fn) = true := decide_eq_true hmlt
                have j0 := (HBW.out.cell (p := ⟨go, m * 2, none⟩) hgo).trans i0
                have j1 := (HBW.out.cell (p := ⟨go, m * 2 + 1, none⟩) hgo).trans i1
                have hmfn : (m : Int) < fn := by omega
                clear i0 i1
                go_wp2_with fail
                generalize wr.alloc (.cells #[.int .i64 13, .int .i64 q, .int .i64 z] 62) = W1 at *
                go_quiet (fail)
              all_goals
                have hM2 := HM0.out.under (below_drewN (Below.refl _ _) nq)
                obtain ⟨ca', k2, V4, hrun2, c4, f4, b4⟩ := ((hM2.setR 10).setZ z2).char HON.out (by omega)
                simp only [size_set] at hrun2
                have hr13 : r = 13 := by have := HR.out; rw [if_neg HC1.out] at this; exact this
                have hr10 : r2 = 10 := by
                  have h := HR2.out
                  split at h
                  · omega
                  · exact h
                obtain ⟨n4, n5⟩ := at9_two HAT.out HQ.out HZ.out HZ2.out hr13 hr10 c4 f4 b4
                have N4 : Hid (At9 I (A ++ [(r, n), (r2, n2)]) R (.slice ca' (on + 1) k2) (.slice ga gn gc) (O ++ [⟨10, q, z2⟩]) w1 V4) := n4
                have N5 : Hid (fls 0 (A ++ [(r, n), (r2, n2)]) = fls 0 A) := n5
                clear c4 f4 b4 hM2 n4 n5 hr13 hr10
                go_wp2_with (first | (go_at_call 31; refine (rbad_as 13 b _ hr0 hr1 HB.out).mono ?_; rintro e w' ⟨rfl, rfl⟩) | (at_builtin; refine list_append_eq rfl _ _ 50 50 rfl _ _ rfl rfl hrun2 ?_))
                go_roundw
                case rel =>
                  refine ⟨A ++ [(r, n), (r2, n2)], R, _, by rw [List.length_append, HK.out]; go_num, by rw [N5.out, HM.out], N4.out⟩
                case measure => simp [intOf]; omega
            · obtain ⟨b, hb⟩ : ∃ b, badN 13 = b := ⟨_, rfl⟩
              have HB : Hid (badN 13 = b) := hb
              have hcod : Hid (cod r = b) := by show cod r = b; rw [← hb]; exact (cod_of HR.out hc1).symm
              have HC1 : Hid (r ≠ -1) := hc1
              clear hc1 hb
              have hbn : (b != 0) = false := by rw [← HB.out]; rfl
              have hnext : K + 1 < cn := by have := HA.out; simp at this; omega
              obtain ⟨z2, hz2⟩ : ∃ z2, z + (n2 : Int) = z2 := ⟨_, rfl⟩
              obtain ⟨rr2, hr2⟩ : ∃ rr2, (if r2 = -1 then 65533 else r2) = rr2 := ⟨_, rfl⟩
              have hx2 := chs_at (A ++ [(r, n)]) R r2 n2 0
              have ht2 : (0 : Int) + ((tot (A ++ [(r, n)]) : Nat) : Int) = z := by
                rw [tot_append, tot_cons, tot_nil]; have := HQ.out; have := HZ.out; simp; omega
              have hI2 : A ++ [(r, n)] ++ (r2, n2) :: R = I := by rw [HAT.out.it]; simp
              have hK2 : (A ++ [(r, n)]).length = K + 1 := by rw [List.length_append, HK.out]; rfl
              rw [hI2, ht2, hz2, hr2, hK2] at hx2
              obtain ⟨_, e0, e1, e2⟩ := chars_cell RC.out HAT.out.below rfl hx2
              simp only at e0 e1 e2
              have k0 := (HBW.out.cell (p := ⟨gl, (K + 1) * 3, none⟩) hgl).trans e0
              have k2c := (HBW.out.cell (p := ⟨gl, (K + 1) * 3 + 2, none⟩) hgl).trans e2
              have hglW : gl ≠ wr.heap.size := Nat.ne_of_lt hgl
              have HZ2 : Hid (z + (n2 : Int) = z2) := hz2
              have HR2 : Hid ((if r2 = -1 then 65533 else r2) = rr2) := hr2
              clear hx2 ht2 hI2 hK2 e0 e1 e2 hz2 hr2
              have hten : (rr2 == 10) = false := by rw [← HR2.out]; simpa using hten0
              rcases hodd with hE | ⟨go, y, rfl, hgo, i0, i1, hmlt, hyq⟩
              case' inl =>
                have hg0 : decide (m < fn) = false := decide_eq_false hE
                go_wp2_with fail
                generalize wr.alloc (.cells #[.int .i64 13, .int .i64 q, .int .i64 z] 62) = W1 at *
                go_quiet (fail)
              case' inr =>
                have hg0 : decide (m < fn) = true := decide_eq_true hmlt
                have j0 := (HBW.out.cell (p := ⟨go, m * 2, none⟩) hgo).trans i0
                have j1 := (HBW.out.cell (p := ⟨go, m * 2 + 1, none⟩) hgo).trans i1
                have hmfn : (m : Int) < fn := by omega
                clear i0 i1
                go_wp2_with fail
                generalize wr.alloc (.cells #[.int .i64 13, .int .i64 q, .int .i64 z] 62) = W1 at *
                go_quiet (fail)
              all_goals
                have hM2 := HM0.out.under (below_drewN (Below.refl _ _) nq)
                obtain ⟨ca', k2, V4, hrun2, c4, f4, b4⟩ := (hM2.setR 10).char HON.out (by omega)
                simp only [size_set] at hrun2
                have N4 : Hid (At9 I (A ++ [(r, n)]) ((r2, n2) :: R) (.slice ca' (on + 1) k2) (.slice ga gn gc) (O ++ [fix ⟨13, q, z⟩]) w1 V4) := by
                  have e2 : fix ⟨13, q, z⟩ = ⟨10, q, z⟩ := by unfold fix; rfl
                  refine at9_one HAT.out HQ.out HZ.out HR.out (fun _ c l h => by simp only [chs, List.cons.injEq] at h; rw [← h.1]; show (if r2 = -1 then 65533 else r2) ≠ 10; rw [HR2.out]; simpa using hten) (by rw [e2]; exact c4) ?_ b4
                  rw [hcod.out, if_pos (by simpa using hbn), List.append_nil]
                  exact f4
                clear c4 f4 b4 hM2
                go_wp2_with (first | (go_at_call 31; refine (rbad_as 13 b _ hr0 hr1 HB.out).mono ?_; rintro e w' ⟨rfl, rfl⟩) | (at_builtin; refine list_append_eq rfl _ _ 50 50 rfl _ _ rfl rfl hrun2 ?_))
                go_roundw
                case rel =>
                  refine ⟨A ++ [(r, n)], (r2, n2) :: R, _, by rw [List.length_append, HK.out]; go_num, by rw [fls_snoc, HM.out]; rw [if_neg HC1.out]; simp, N4.out⟩
                case measure => simp [intOf]; omega
        · by_cases hbad : badN rr = 0
          · obtain ⟨b, hb⟩ : ∃ b, badN rr = b := ⟨_, rfl⟩
            have HB : Hid (badN rr = b) := hb
            have hcod : Hid (cod r = b) := by show cod r = b; rw [← hb]; exact (cod_of HR.out hc1).symm
            have HC1 : Hid (r ≠ -1) := hc1
            clear hc1 hb
            have hbn : (b != 0) = false := by rw [← HB.out]; simpa using hbad
            clear hbad
            rcases hodd with hE | ⟨go, y, rfl, hgo, i0, i1, hmlt, hyq⟩
            case' inl =>
              have hg0 : decide (m < fn) = false := decide_eq_false hE
              go_wp2_with fail
              generalize wr.alloc (.cells #[.int .i64 rr, .int .i64 q, .int .i64 z] 62) = W1 at *
              go_quiet (fail)
            case' inr =>
              have hg0 : decide (m < fn) = true := decide_eq_true hmlt
              have j0 := (HBW.out.cell (p := ⟨go, m * 2, none⟩) hgo).trans i0
              have j1 := (HBW.out.cell (p := ⟨go, m * 2 + 1, none⟩) hgo).trans i1
              have hmfn : (m : Int) < fn := by omega
              clear i0 i1
              go_wp2_with fail
              generalize wr.alloc (.cells #[.int .i64 rr, .int .i64 q, .int .i64 z] 62) = W1 at *
              go_quiet (fail)
            all_goals
              have hM2 := HM0.out.under (below_drewN (Below.refl _ _) nq)
              obtain ⟨ca', k2, V4, hrun2, c4, f4, b4⟩ := hM2.char HON.out (by omega)
              have N4 : Hid (At9 I (A ++ [(r, n)]) R (.slice ca' (on + 1) k2) (.slice ga gn gc) (O ++ [fix ⟨rr, q, z⟩]) w1 V4) := by
                have e2 : fix ⟨rr, q, z⟩ = ⟨rr, q, z⟩ := by unfold fix; rw [if_neg (by simpa using hz0), if_neg (by simpa using hz13)]
                refine at9_one HAT.out HQ.out HZ.out HR.out (fun h => absurd h (by simpa using hz13)) (by rw [e2]; exact c4) ?_ b4
                rw [hcod.out, if_pos (by simpa using hbn), List.append_nil]
                exact f4
              clear c4 f4 b4 hM2
              go_wp2_with (first | (go_at_call 31; refine (rbad_as rr b _ hr0 hr1 HB.out).mono ?_; rintro e w' ⟨rfl, rfl⟩) | (at_builtin; refine list_append_eq rfl _ _ 50 50 rfl _ _ rfl rfl hrun2 ?_))
              go_roundw
              case rel =>
                refine ⟨A ++ [(r, n)], R, _, by rw [List.length_append, HK.out]; go_num, by rw [fls_snoc, HM.out]; rw [if_neg HC1.out]; simp, N4.out⟩
              case measure => simp [intOf]; omega
          · obtain ⟨b, hb⟩ : ∃ b, badN rr = b := ⟨_, rfl⟩
            have HB : Hid (badN rr = b) := hb
            have hcod : Hid (cod r = b) := by show cod r = b; rw [← hb]; exact (cod_of HR.out hc1).symm
            have HC1 : Hid (r ≠ -1) := hc1
            clear hc1 hb
            have hbn : (b != 0) = true := by rw [← HB.out]; simpa using hbad
            clear hbad
            rcases hodd with hE | ⟨go, y, rfl, hgo, i0, i1, hmlt, hyq⟩
            case' inl =>
              have hg0 : decide (m < fn) = false := decide_eq_false hE
              go_wp2_with fail
              generalize wr.alloc (.cells #[.int .i64 rr, .int .i64 q, .int .i64 z] 62) = W1 at *
              go_quiet (fail)
            case' inr =>
              have hg0 : decide (m < fn) = true := decide_eq_true hmlt
              have j0 := (HBW.out.cell (p := ⟨go, m * 2, none⟩) hgo).trans i0
              have j1 := (HBW.out.cell (p := ⟨go, m * 2 + 1, none⟩) hgo).trans i1
              have hmfn : (m : Int) < fn := by omega
              clear i0 i1
              go_wp2_with fail
              generalize wr.alloc (.cells #[.int .i64 rr, .int .i64 q, .int .i64 z] 62) = W1 at *
              go_quiet (fail)
            all_goals
              obtain ⟨fa', k', V2, hrun, hM2⟩ := (HM0.out.under (below_drewN (Below.refl _ _) nq)).fault HGN.out (by omega) b q
              obtain ⟨hcw2, x0, x1, x2, xf⟩ := ch_cell hM2.chr
              simp only at x0 x1 x2
              obtain ⟨ca', k2, V4, hrun2, c4, f4, b4⟩ := hM2.char HON.out (by omega)
              have N4 : Hid (At9 I (A ++ [(r, n)]) R (.slice ca' (on + 1) k2) (.slice fa' (gn + 1) k') (O ++ [fix ⟨rr, q, z⟩]) w1 V4) := by
                have e2 : fix ⟨rr, q, z⟩ = ⟨rr, q, z⟩ := by unfold fix; rw [if_neg (by simpa using hz0), if_neg (by simpa using hz13)]
                refine at9_one HAT.out HQ.out HZ.out HR.out (fun h => absurd h (by simpa using hz13)) (by rw [e2]; exact c4) ?_ b4
                rw [hcod.out, if_neg (by simpa using hbn)]
                exact f4
              clear c4 f4 b4 hM2
              go_wp2_with (first | (go_at_call 31; refine (rbad_as rr b _ hr0 hr1 HB.out).mono ?_; rintro e w' ⟨rfl, rfl⟩) | (at_builtin; first | refine list_append_eq rfl _ _ 31 31 rfl _ _ rfl rfl hrun ?_ | refine list_append_eq rfl _ _ 50 50 rfl _ _ rfl rfl hrun2 ?_))
              go_roundw
              case rel =>
                refine ⟨A ++ [(r, n)], R, _, by rw [List.length_append, HK.out]; go_num, by rw [fls_snoc, HM.out]; rw [if_neg HC1.out]; simp, N4.out⟩
              case measure => simp [intOf]; omega
end Go.Proofs.Ytkbakbacomidbaa.G4
