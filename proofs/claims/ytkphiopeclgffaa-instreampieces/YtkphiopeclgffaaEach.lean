/- turn, each: the characters of a decoder handed on one by one. -/
import Derived.Test.YtkphiopeclgffaaHann
import Derived.Test.YtkphiopeclgffaaHanp
import Derived.Test.YtkphiopeclgffaaFeed
import Derived.Test.YtkphiopeclgffaaSame
namespace Go.Proofs.Ytkphiopeclgffaa
open Go.RowKit

theorem hand_any {S : Nat → Prop} {x d t bx bt : Nat} {wt : Ch} {r p q : Int} {cs : List Ch} {fs : List (Int × Int)} {w : World} (code : Int) (hx : StrIs x d wt w) (hS : ¬ S x) (hl : Lies S t cs fs w) (h1 : BoxIs bx x 31 w) (h2 : BoxIs bt t 43 w) (s1 : S bx) (s2 : S bt) (hn : cs.length ≤ 900000) (hm : fs.length ≤ 900000)
    (hwz : wt.a < wt.z → wt.a < q) (hz : r = 10 ∨ r = 13 → code = 0) (hnz : r = 0 → code ≠ 0) :
    Calls Try.prog 30 #[.agg #[.int .i64 r, .int .i64 p, .int .i64 q], .int .i64 code, .pointer (some ⟨bt, 0, none⟩), .pointer (some ⟨bx, 0, none⟩)] w fun e w' => e = .returned (.tuple #[]) ∧ StrIs x d (ts wt ⟨r, p, q⟩).1 w' ∧ Lies S t (cs ++ (ts wt ⟨r, p, q⟩).2) (fs ++ if code = 0 then [] else [(code, p)]) w' ∧ Keep S w w' := by
  by_cases h10 : r = 10
  · subst h10
    by_cases hw : wt.a < wt.z
    · have e : ts wt ⟨10, p, q⟩ = (Ch0, [⟨wt.r, wt.a, q⟩]) := by unfold ts; rw [if_pos ⟨rfl, hw⟩]
      rw [e]
      exact hand_join code hx hS hl h1 h2 s1 s2 hn hm (hz (.inl rfl)) hw (hwz hw)
    · have e : ts wt ⟨10, p, q⟩ = (off wt, rel wt ++ [⟨10, p, q⟩]) := by unfold ts; rw [if_neg (fun x => hw x.2), if_neg (by simp)]; rfl
      rw [e]
      exact hand_lone code hx hS hl h1 h2 s1 s2 hn hm (hz (.inl rfl)) hw
  · by_cases h13 : r = 13
    · subst h13
      have e : ts wt ⟨13, p, q⟩ = (⟨10, p, q⟩, rel wt) := by unfold ts; rw [if_neg (fun x => by cases x.1), if_pos rfl]
      rw [e]
      exact hand_cr code hx hS hl h1 h2 s1 s2 hn hm (hz (.inr rfl))
    · by_cases h0 : r = 0
      · subst h0
        have e : ts wt ⟨0, p, q⟩ = (off wt, rel wt ++ [⟨65533, p, q⟩]) := by unfold ts; rw [if_neg (fun x => by cases x.1), if_neg (by simp)]; rfl
        rw [e]
        exact hand_null code hx hS hl h1 h2 s1 s2 hn hm (hnz rfl)
      · have e : ts wt ⟨r, p, q⟩ = (off wt, rel wt ++ [⟨r, p, q⟩]) := by unfold ts; rw [if_neg (fun x => h10 x.1), if_neg h13]; simp [h0]
        rw [e]
        exact hand_plain code hx hS hl h1 h2 s1 s2 hn hm (by simpa using h10) (by simpa using h13) (by simpa using h0)

set_option maxHeartbeats 400000 in
theorem turn_any {x t : Nat} {w : World} : Calls Try.prog 24 #[.pointer (some ⟨x, 0, none⟩), .pointer (some ⟨t, 0, none⟩)] w fun e w' => e = .returned (.func (.func 30) #[] #[.pointer (some ⟨w.heap.size + 1, 0, none⟩), .pointer (some ⟨w.heap.size, 0, none⟩)]) ∧
    BoxIs w.heap.size x 31 w' ∧ BoxIs (w.heap.size + 1) t 43 w' ∧ Below w.heap.size w w' ∧ w'.heap.size = w.heap.size + 2 := by
  have hmf : ∀ (fn : Fn) (first cap : Array Value) (w : World), (Instr.makeFunc fn first cap).run Try.prog w = .ok (.func fn first cap) w := fun _ _ _ _ => rfl
  go_enter Try.func24, Try.ntmps24
  go_wp2
  go_ret
  refine ⟨rfl, ?_, ?_, ((Below.refl _ _).alloc (Nat.le_refl _) _).alloc (by simp) _, by simp⟩
  · exact (Below.heap_alloc _ _ _ (by simp)).trans (heap_alloc_new _ _)
  · have := heap_alloc_new (w.alloc (.cells #[.pointer (some ⟨x, 0, none⟩)] 31)) (.cells #[.pointer (some ⟨t, 0, none⟩)] 43)
    simpa [BoxIs] using this

/-- What waits ends ahead of place p. -/
def wok (wt : Ch) (p : Int) : Prop := wt.a < wt.z → wt.z ≤ p
theorem off_not (wt : Ch) : ¬ (off wt).a < (off wt).z := by
  unfold off
  split
  · decide
  · assumption
theorem ts_wok {wt c : Ch} (_h : wok wt c.a) (_hc : c.a < c.z) : wok (ts wt c).1 c.z := by
  intro hw
  unfold ts at hw ⊢
  split
  · rename_i h; rw [if_pos h] at hw; exact absurd hw (show ¬ Ch0.a < Ch0.z by decide)
  · rename_i h1
    rw [if_neg h1] at hw
    split
    · exact Int.le_refl _
    · rename_i h2
      rw [if_neg h2] at hw
      exact absurd hw (off_not wt)
theorem tsL_wok : ∀ (L : List (Int × Nat)) (wt : Ch) (p : Int), (∀ y ∈ L, 1 ≤ y.2) → wok wt p → wok (tsL wt (chs p L)).1 (p + (tot L : Nat))
  | [], wt, p, _, h => by simpa [tsL, chs, tot] using h
  | (r, n) :: L, wt, p, hp, h => by
    have h1 := hp (r, n) (by simp)
    have h2 := ts_wok (wt := wt) (c := ⟨if r = -1 then 65533 else r, p, p + (n : Int)⟩) h (by show p < p + (n : Int); simp only at h1; omega)
    have h3 := tsL_wok L _ (p + (n : Int)) (fun y hy => hp y (by simp [hy])) h2
    rw [tot_cons]
    have e : p + ((n + tot L : Nat) : Int) = p + (n : Int) + (tot L : Nat) := by omega
    show wok _ (p + ((n + tot L : Nat) : Int))
    rw [e]
    exact h3

/-- A row of faults of which the first ones are gone; it lies in S. -/
def FRow (S : Nat → Prop) (fv : Value) (l : List Int) (w : World) : Prop :=
  ∃ ao n c, fv = .slice ao n c ∧ n = l.length ∧ n ≤ c ∧ c ≤ maxLen ∧ (0 < n → ∃ g o, ao = some ⟨g, o, none⟩ ∧ S g ∧ g < w.heap.size ∧ ∀ j u, (l.flatMap fcells)[j]? = some u → w.cell? ⟨g, o + j, none⟩ = some u)
theorem FRow.keep {S : Nat → Prop} {fv : Value} {l : List Int} {w w' : World} (h : FRow S fv l w) (k : Keep S w w') : FRow S fv l w' := by
  obtain ⟨ao, n, c, e, hn, h1, h2, h3⟩ := h
  refine ⟨ao, n, c, e, hn, h1, h2, fun h0 => ?_⟩
  obtain ⟨g, o, ea, hS, hg, hc⟩ := h3 h0
  exact ⟨g, o, ea, hS, Nat.lt_of_lt_of_le hg k.size, fun j u hu => (k.cell (p := ⟨g, o + j, none⟩) hS hg).trans (hc j u hu)⟩
theorem FRow.ofRow {S : Nat → Prop} {B : Nat} {fv : Value} {l : List Int} {w : World} (h : Faults B fv l w) (hS : ∀ k, B ≤ k → k < w.heap.size → S k) : FRow S fv l w := by
  obtain ⟨ao, c, e, h1, h2⟩ := own_form h
  refine ⟨ao, l.length, c, e, rfl, h1, h2, fun h0 => ?_⟩
  rcases h.2 with ⟨_, hz⟩ | ⟨g, cap, cur, hv, hb, hg, _, _, _, ht⟩
  · omega
  · have hlt := (Array.getElem?_eq_some_iff.1 hg).1
    rw [hv] at e
    simp only [Value.slice.injEq] at e
    refine ⟨g, 0, e.1.symm, hS g hb hlt, hlt, fun j u hu => ?_⟩
    rw [← ht, List.getElem?_take] at hu
    split at hu
    · simp [World.cell?, hg]; simpa using hu
    · cases hu

theorem chs_at (A R : List (Int × Nat)) (r : Int) (n : Nat) (p : Int) : (chs p (A ++ (r, n) :: R))[A.length]? = some ⟨if r = -1 then 65533 else r, p + (tot A : Nat), p + (tot A : Nat) + (n : Int)⟩ := by
  rw [chs_append, List.getElem?_append_right (by rw [chs_length]; exact Nat.le_refl _), chs_length, Nat.sub_self]
  rfl

theorem cod_low {r : Int} (h : r = 10 ∨ r = 13) : cod r = 0 := by rcases h with rfl | rfl <;> decide
theorem cod_null {r : Int} (h : r = 0) : cod r ≠ 0 := by subst h; decide

/-- How far each has come. -/
structure At4 (S : Nat → Prop) (x d t : Nat) (p : Int) (wt : Ch) (cs : List Ch) (fs : List (Int × Int)) (A R : List (Int × Nat)) (fv : Value) (w wr : World) : Prop where
  row : FRow S fv (fls (p + (tot A : Nat)) R) wr
  str : StrIs x d (tsL wt (chs p A)).1 wr
  lies : Lies S t (cs ++ (tsL wt (chs p A)).2) (fs ++ fcs p A) wr
  keep : Keep S w wr

theorem frow_cells {S : Nat → Prop} {ao : Option Addr} {m c : Nat} {y : Int} {l : List Int} {w : World} (h : FRow S (.slice ao m c) (y :: l) w) : ∃ g o, ao = some ⟨g, o, none⟩ ∧ S g ∧ g < w.heap.size ∧ w.cell? ⟨g, o, none⟩ = some (.int .i64 1) ∧ w.cell? ⟨g, o + 1, none⟩ = some (.int .i64 y) ∧ m = l.length + 1 ∧ m ≤ c := by
  obtain ⟨ao', n', c', e, hn, h1, h2, h3⟩ := h
  simp only [Value.slice.injEq] at e
  obtain ⟨rfl, rfl, rfl⟩ := e
  obtain ⟨g, o, ea, hS, hg, hc⟩ := h3 (by rw [hn]; simp)
  refine ⟨g, o, ea, hS, hg, ?_, ?_, by rw [hn]; simp, h1⟩
  · exact hc 0 _ (by simp [fcells])
  · exact hc 1 _ (by simp [fcells])
theorem frow_tail {S : Nat → Prop} {g o m c : Nat} {y : Int} {l : List Int} {w : World} (h : FRow S (.slice (some ⟨g, o, none⟩) m c) (y :: l) w) (ao : Option Addr) (ha : c ≠ 1 → ao = some ⟨g, o + 2, none⟩) : FRow S (.slice ao (m - 1) (c - 1)) l w := by
  obtain ⟨ao', n', c', e, hn, h1, h2, h3⟩ := h
  simp only [Value.slice.injEq] at e
  obtain ⟨rfl, rfl, rfl⟩ := e
  obtain ⟨g', o', ea, hS, hg, hc⟩ := h3 (by rw [hn]; simp)
  simp only [Option.some.injEq, Addr.mk.injEq] at ea
  obtain ⟨rfl, rfl, _⟩ := ea
  refine ⟨ao, m - 1, c - 1, rfl, by rw [hn]; simp, by omega, by omega, fun h0 => ⟨g, o + 2, ha (by omega), hS, hg, fun j u hu => ?_⟩⟩
  have := hc (j + 2) u (by simp [fcells]; exact hu)
  rw [show o + 2 + j = o + (j + 2) by omega]
  exact this

theorem at4_next {S : Nat → Prop} {x d t : Nat} {p q z rr : Int} {r : Int} {n : Nat} {wt : Ch} {cs : List Ch} {fs : List (Int × Int)} {A R : List (Int × Nat)} {fv fv' : Value} {w wr W1 w2 : World}
    (h : At4 S x d t p wt cs fs A ((r, n) :: R) fv w wr) (hq : p + (tot A : Nat) = q) (hz : q + (n : Int) = z) (hr : (if r = -1 then 65533 else r) = rr) (b : Below wr.heap.size wr W1) (hf : FRow S fv' (fls z R) W1)
    (x2 : StrIs x d (ts (tsL wt (chs p A)).1 ⟨rr, q, z⟩).1 w2) (l2 : Lies S t (cs ++ (tsL wt (chs p A)).2 ++ (ts (tsL wt (chs p A)).1 ⟨rr, q, z⟩).2) (fs ++ fcs p A ++ if cod r = 0 then [] else [(cod r, q)]) w2) (k2 : Keep S W1 w2) : At4 S x d t p wt cs fs (A ++ [(r, n)]) R fv' w w2 := by
  subst hz
  subst hq
  subst hr
  have ec : chs p (A ++ [(r, n)]) = chs p A ++ [⟨if r = -1 then 65533 else r, p + (tot A : Nat), p + (tot A : Nat) + (n : Int)⟩] := by rw [chs_append]; rfl
  have ef : fcs p (A ++ [(r, n)]) = fcs p A ++ if cod r = 0 then [] else [(cod r, p + (tot A : Nat))] := by rw [fcs_append]; simp [fcs]
  have et : p + ((tot (A ++ [(r, n)]) : Nat) : Int) = p + (tot A : Nat) + (n : Int) := by rw [tot_append, tot_cons, tot_nil]; simp; omega
  refine ⟨?_, ?_, ?_, h.keep.trans ((Keep.ofOld b).trans k2)⟩
  · rw [et]; exact hf.keep k2
  · rw [ec, tsL_append]; exact x2
  · rw [ec, ef, tsL_append]
    simp only [tsL, List.append_nil]
    rw [← List.append_assoc, ← List.append_assoc]; exact l2

theorem at4_hand {S : Nat → Prop} {x d t bx bt : Nat} {p q z rr code : Int} {r : Int} {n K : Nat} {wt : Ch} {cs : List Ch} {fs : List (Int × Int)} {A R : List (Int × Nat)} {fv : Value} {w wr W : World}
    (h : At4 S x d t p wt cs fs A ((r, n) :: R) fv w wr) (hq : p + (tot A : Nat) = q) (hz : q + (n : Int) = z) (hr : (if r = -1 then 65533 else r) = rr) (b : Below wr.heap.size wr W) (hS : ¬ S x) (h1 : BoxIs bx x 31 w) (h2 : BoxIs bt t 43 w) (s1 : S bx) (s2 : S bt)
    (hw : wok (tsL wt (chs p A)).1 q) (hn1 : 1 ≤ n) (hcode : code = cod r) (hn : cs.length ≤ 300000) (hm : fs.length ≤ 300000) (hK : K ≤ 200000) (htl : (tsL wt (chs p A)).2.length ≤ 2 * K) (hfl : (fcs p A).length ≤ K) :
    Calls Try.prog 30 #[.agg #[.int .i64 rr, .int .i64 q, .int .i64 z], .int .i64 code, .pointer (some ⟨bt, 0, none⟩), .pointer (some ⟨bx, 0, none⟩)] W fun e w' => e = .returned (.tuple #[]) ∧ ∀ fv', FRow S fv' (fls z R) W → At4 S x d t p wt cs fs (A ++ [(r, n)]) R fv' w w' := by
  have k1 := h.keep.trans (Keep.ofOld b)
  subst hcode
  refine (hand_any (cod r) (str_below h.str b) hS (lies_below h.lies b) (box_keep h1 s1 k1) (box_keep h2 s2 k1) s1 s2 (by rw [List.length_append]; omega) (by rw [List.length_append]; omega) (fun hw' => by have := hw hw'; omega) (fun e => ?_) (fun e => ?_)).mono ?_
  · rw [← hr] at e
    split at e
    · omega
    · exact cod_low e
  · rw [← hr] at e
    split at e
    · omega
    · exact cod_null e
  · rintro e w' ⟨he, x2, l2, k2⟩
    exact ⟨he, fun fv' hf => at4_next h hq hz hr b hf x2 l2 k2⟩

theorem cod_of {r rr : Int} (h : (if r = -1 then 65533 else r) = rr) (hr : r ≠ -1) : badN rr = cod r := by
  rw [if_neg hr] at h; subst h; unfold cod; rw [if_neg hr]

set_option maxHeartbeats 4000000 in
theorem each_any {S : Nat → Prop} {B x d t bx bt : Nat} {wt : Ch} {cs : List Ch} {fs : List (Int × Int)} {w : World} (p : Int) (L : List (Int × Nat)) (ca : Option Addr) (cn cc : Nat) (fv : Value) (hL1 : ∀ y ∈ L, 1 ≤ y.2) (hL2 : ∀ y ∈ L, y.1 = -1 ∨ (0 ≤ y.1 ∧ y.1 ≤ 1000000000))
    (hc : Chars B (.slice ca cn cc) (chs p L) w) (hf : FRow S fv (fls p L) w) (hB : ∀ k, B ≤ k → k < w.heap.size → S k) (hx : StrIs x d wt w) (hS : ¬ S x) (hl : Lies S t cs fs w) (h1 : BoxIs bx x 31 w) (h2 : BoxIs bt t 43 w) (s1 : S bx) (s2 : S bt)
    (hn : cs.length ≤ 300000) (hm : fs.length ≤ 300000) (hLn : L.length ≤ 200000) (hwt : wok wt p) :
    Calls Try.prog 23 #[.slice ca cn cc, fv, .func (.func 30) #[] #[.pointer (some ⟨bt, 0, none⟩), .pointer (some ⟨bx, 0, none⟩)]] w fun e w' => e = .returned (.tuple #[]) ∧ StrIs x d (tsL wt (chs p L)).1 w' ∧ Lies S t (cs ++ (tsL wt (chs p L)).2) (fs ++ fcs p L) w' ∧ Keep S w w' := by
  obtain ⟨ao, c, e1, hcc, hcm⟩ := own_form hc
  simp only [Value.slice.injEq] at e1
  obtain ⟨rfl, hcn, rfl⟩ := e1
  rw [chs_length] at hcn
  have HC : Hid (Chars B (.slice ca cn cc) (chs p L) w) := hc
  have HB : Hid (∀ k, B ≤ k → k < w.heap.size → S k) := hB
  have HL1 : Hid (∀ y ∈ L, 1 ≤ y.2) := hL1
  have HL2 : Hid (∀ y ∈ L, y.1 = -1 ∨ (0 ≤ y.1 ∧ y.1 ≤ 1000000000)) := hL2
  have HCN : Hid (cn = L.length) := hcn
  have HW : Hid (wok wt p) := hwt
  have HS : Hid (¬ S x) := hS
  have HB1 : Hid (BoxIs bx x 31 w) := h1
  have HB2 : Hid (BoxIs bt t 43 w) := h2
  have H0 : Hid (At4 S x d t p wt cs fs [] L fv w w) := ⟨by simpa [tot] using hf, hx, by simpa [tsL, chs, fcs] using hl, Keep.refl _ _⟩
  have hcn2 : cn ≤ 200000 := by omega
  unfold maxLen at hcm
  rw [chs_length] at hcc
  clear hc hB hL1 hL2 hwt hS h1 h2 hx hl hf hcn
  go_enter Try.func23, Try.ntmps23
  go_wp2_with fail
  go_loopw [1, 11] (fun v iv wr => ∃ (A R : List (Int × Nat)), L = A ++ R ∧ iv = .int .i64 (A.length : Nat) ∧ At4 S x d t p wt cs fs A R v w wr) (fun _ iv _ => cn - (intOf iv).toNat)
  case atStart => exact ⟨[], L, rfl, rfl, H0.out⟩
  case round =>
    obtain ⟨A, R, hAR, rfl, hat⟩ := hrel
    obtain ⟨K, hK⟩ : ∃ K, A.length = K := ⟨_, rfl⟩
    have HK : Hid (A.length = K) := hK
    have hcnL := HCN.out
    have htl := tsL_len (chs p A) wt
    have hfl := fcs_length A p
    rw [chs_length, hK] at htl
    rw [hK] at hfl
    rw [hK]
    cases R with
    | nil =>
      have hAL : Hid (A = L) := by show A = L; rw [hAR, List.append_nil]
      have hge : ¬ K < cn := by rw [hcnL, ← hAL.out, hK]; omega
      have HAT : Hid (At4 S x d t p wt cs fs A [] u1 w wr) := hat
      clear hat hAR hcnL hK
      go_wp2_with fail
      refine bodyPost_end (results_none rfl _ _ _) rfl ?_
      rw [← hAL.out]
      exact ⟨rfl, HAT.out.str, HAT.out.lies, HAT.out.keep⟩
    | cons y R =>
      obtain ⟨r, n⟩ := y
      have hLl : L.length = A.length + (R.length + 1) := by rw [hAR]; simp
      have hlt : K < cn := by omega
      have hmem : (r, n) ∈ L := by rw [hAR]; simp
      have hn1 : 1 ≤ n := HL1.out (r, n) hmem
      have hrr := HL2.out (r, n) hmem
      simp only at hrr
      have hwok := tsL_wok A wt p (fun y hy => HL1.out y (by rw [hAR]; simp [hy])) HW.out
      obtain ⟨q, hq⟩ : ∃ q, p + (tot A : Nat) = q := ⟨_, rfl⟩
      obtain ⟨z, hz⟩ : ∃ z, q + (n : Int) = z := ⟨_, rfl⟩
      obtain ⟨rr, hr⟩ : ∃ rr, (if r = -1 then 65533 else r) = rr := ⟨_, rfl⟩
      rw [hq] at hwok
      have hrr2 : 0 ≤ rr ∧ rr ≤ 1000000000 := by rw [← hr]; split <;> omega
      have hx := chs_at A R r n p
      rw [← hAR, hq, hz, hr, hK] at hx
      obtain ⟨g, cap, hv, hw1, hw2, hg, hcl⟩ := row_cells HC.out (by rw [chs_length]; omega)
      have hgB : B ≤ g := by
        rcases HC.out.2 with ⟨e0, _⟩ | ⟨g', _, _, hv', hb', _⟩
        · rw [hv] at e0; simp at e0
        · rw [hv] at hv'; simp at hv'; omega
      simp only [Value.slice.injEq] at hv
      obtain ⟨rfl, hcq, rfl⟩ := hv
      clear hcq hw1 hw2
      have hSg : S g := HB.out g hgB hg
      obtain ⟨q0, q1, q2⟩ := ch_at _ K _ hx
      have d0 := (hat.keep.cell (p := ⟨g, K * 3, none⟩) hSg hg).trans (hcl _ _ q0)
      have d1 := (hat.keep.cell (p := ⟨g, K * 3 + 1, none⟩) hSg hg).trans (hcl _ _ q1)
      have d2 := (hat.keep.cell (p := ⟨g, K * 3 + 2, none⟩) hSg hg).trans (hcl _ _ q2)
      have hgw : g < wr.heap.size := Nat.lt_of_lt_of_le hg hat.keep.size
      simp only at d0 d1 d2
      have HAT : Hid (At4 S x d t p wt cs fs A ((r, n) :: R) u1 w wr) := hat
      have hrow := hat.row
      rw [hq] at hrow
      have hwt2 : Hid (wok (tsL wt (chs p A)).1 q) := hwok
      have HAR : Hid (L = A ++ (r, n) :: R) := hAR
      have HQ : Hid (p + (tot A : Nat) = q) := hq
      have HZ : Hid (q + (n : Int) = z) := hz
      have HR : Hid ((if r = -1 then 65533 else r) = rr) := hr
      obtain ⟨hr0, hr1⟩ := hrr2
      clear hat hAR hcnL hK hwok hx hcl q0 q1 q2 hmem hLl hq hz hr
      have HBW : Hid (Below wr.heap.size wr (wr.alloc (.cells #[.int .i64 rr, .int .i64 q, .int .i64 z] 37))) := (Below.refl _ _).alloc (Nat.le_refl _) _
      have hch : ChIs wr.heap.size ⟨rr, q, z⟩ (wr.alloc (.cells #[.int .i64 rr, .int .i64 q, .int .i64 z] 37)) := heap_alloc_new _ _
      obtain ⟨hcw, ch0, ch1, ch2, _⟩ := ch_cell hch
      simp only at ch0 ch1 ch2
      clear hch
      rcases (show r = -1 ∨ (r ≠ -1 ∧ fls z R = []) ∨ (r ≠ -1 ∧ fls z R ≠ []) by by_cases h : r = -1 <;> by_cases h' : fls z R = [] <;> simp [h, h']) with hc1 | ⟨hc1, hc2⟩ | ⟨hc1, hc2⟩
      · subst hc1
        have e0 : fls q ((-1, n) :: R) = q :: fls z R := by simp only [fls]; rw [HZ.out]; rfl
        rw [e0] at hrow
        obtain ⟨fa, m, fc, rfl, hm0, hk1, hk2, _⟩ := id hrow
        have HROW : Hid (FRow S (.slice fa m fc) (q :: fls z R) wr) := hrow
        obtain ⟨g2, o2, rfl, hS2, hg2, i0, i1, hm1, hk3⟩ := frow_cells hrow
        have hg0 : decide (0 < m) = true := decide_eq_true (by omega)
        have hm2 : 0 < m := by omega
        have hfc : (fc : Int) ≤ 9223372036854775807 := by unfold maxLen at hk2; omega
        have j0 := ((HBW.out).cell (p := ⟨g2, o2, none⟩) hg2).trans i0
        have j1 := ((HBW.out).cell (p := ⟨g2, o2 + 1, none⟩) hg2).trans i1
        clear hm0 hm1 hrow i0 i1 hk2
        go_wp2_with fail
        refine (bad_any rr _ hr0 hr1).mono ?_
        rintro e w1 ⟨rfl, rfl⟩
        generalize wr.alloc (.cells #[.int .i64 rr, .int .i64 q, .int .i64 z] 37) = W1 at *
        go_wp2_with fail
        go_quiet (fail)
        go_wp2_with fail
        go_quiet (fail)
        go_wp2_with fail
        all_goals
          refine (at4_hand (K := K) HAT.out HQ.out HZ.out HR.out (below_drewN HBW.out _) HS.out HB1.out HB2.out s1 s2 hwt2.out hn1 rfl hn hm (by omega) htl hfl).mono ?_
          rintro e w2 ⟨rfl, nx⟩
          have NX := fun (ao : Option Addr) (ha : _ → ao = some ⟨g2, o2 + 2, none⟩) => (show Hid _ from nx _ ((frow_tail HROW.out ao ha).keep (Keep.ofOld (below_drewN HBW.out _))))
          clear nx
          go_wp2_with fail
          go_roundw
          case rel =>
            refine ⟨A ++ [(-1, n)], R, by rw [HAR.out]; simp, by rw [List.length_append, HK.out]; go_num, ?_⟩
            first
              | exact (NX _ (fun _ => rfl)).out
              | exact (NX _ (fun h => absurd rfl h)).out
              | (have hf1 : fc = 1 := by first | assumption | omega
                 have hn2 := (NX (some ⟨g2, o2, none⟩) (fun h => absurd hf1 h)).out
                 rw [hf1] at hn2
                 exact hn2)
          case measure => simp [intOf]; omega
      · have hrow2 : FRow S u1 [] wr := by
          have e : fls q ((r, n) :: R) = [] := by simp only [fls]; rw [if_neg hc1, HZ.out, hc2]; rfl
          rw [e] at hrow; exact hrow
        have HROW : Hid (FRow S u1 (fls z R) wr) := by show FRow S u1 (fls z R) wr; rw [hc2]; exact hrow2
        obtain ⟨fa, m, fc, rfl, hm0, hk1, hk2, hk3⟩ := hrow2
        clear hk1 hk2 hk3
        rw [List.length_nil] at hm0
        have hg0 : decide (0 < m) = false := decide_eq_false (by omega)
        clear hm0 hrow
        go_wp2_with fail
        refine (bad_any rr _ hr0 hr1).mono ?_
        rintro e w1 ⟨rfl, rfl⟩
        generalize wr.alloc (.cells #[.int .i64 rr, .int .i64 q, .int .i64 z] 37) = W1 at *
        go_wp2_with fail
        go_quiet (fail)
        go_wp2_with fail
        have bq := below_drewN HBW.out nq
        refine (at4_hand (K := K) HAT.out HQ.out HZ.out HR.out bq HS.out HB1.out HB2.out s1 s2 hwt2.out hn1 (cod_of HR.out hc1) hn hm (by omega) htl hfl).mono ?_
        rintro e w2 ⟨rfl, nx⟩
        have NX : Hid (At4 S x d t p wt cs fs (A ++ [(r, n)]) R (.slice fa m fc) w w2) := nx _ (HROW.out.keep (Keep.ofOld bq))
        clear nx bq
        go_wp2_with fail
        go_roundw
        case rel => exact ⟨A ++ [(r, n)], R, by rw [HAR.out]; simp, by rw [List.length_append, HK.out]; go_num, NX.out⟩
        case measure => simp [intOf]; omega
      · have e0 : fls q ((r, n) :: R) = fls z R := by simp only [fls]; rw [if_neg hc1, HZ.out]; rfl
        rw [e0] at hrow
        obtain ⟨y, l, hyl⟩ : ∃ y l, fls z R = y :: l := by
          cases h : fls z R with
          | nil => exact absurd h hc2
          | cons y l => exact ⟨y, l, rfl⟩
        have hyz : z ≤ y := fls_ge R z y (by rw [hyl]; simp)
        have hyq : (y == q) = false := by rw [beq_eq_false_iff_ne]; have := HZ.out; omega
        have HROW : Hid (FRow S u1 (fls z R) wr) := hrow
        obtain ⟨fa, m, fc, rfl, hm0, hk1, hk2, hk3⟩ := id hrow
        rw [hyl] at hrow
        obtain ⟨g2, o2, rfl, hS2, hg2, i0, i1, hm1, _⟩ := frow_cells hrow
        have hg0 : decide (0 < m) = true := decide_eq_true (by omega)
        have hm2 : 0 < m := by omega
        have j0 := ((HBW.out).cell (p := ⟨g2, o2, none⟩) hg2).trans i0
        have j1 := ((HBW.out).cell (p := ⟨g2, o2 + 1, none⟩) hg2).trans i1
        clear hm0 hm1 hrow i0 i1 hk1 hk2 hk3 hyz
        go_wp2_with fail
        refine (bad_any rr _ hr0 hr1).mono ?_
        rintro e w1 ⟨rfl, rfl⟩
        generalize wr.alloc (.cells #[.int .i64 rr, .int .i64 q, .int .i64 z] 37) = W1 at *
        go_wp2_with fail
        go_quiet (fail)
        go_wp2_with fail
        have bq := below_drewN HBW.out nq
        refine (at4_hand (K := K) HAT.out HQ.out HZ.out HR.out bq HS.out HB1.out HB2.out s1 s2 hwt2.out hn1 (cod_of HR.out hc1) hn hm (by omega) htl hfl).mono ?_
        rintro e w2 ⟨rfl, nx⟩
        have NX : Hid (At4 S x d t p wt cs fs (A ++ [(r, n)]) R (.slice (some ⟨g2, o2, none⟩) m fc) w w2) := nx _ (HROW.out.keep (Keep.ofOld bq))
        clear nx bq
        go_wp2_with fail
        go_roundw
        case rel => exact ⟨A ++ [(r, n)], R, by rw [HAR.out]; simp, by rw [List.length_append, HK.out]; go_num, NX.out⟩
        case measure => simp [intOf]; omega
end Go.Proofs.Ytkphiopeclgffaa
