/- awake: the chapter's examples. -/
import Derived.Test.YtkbakbacomidbaaYw
import Derived.Test.YtkbakbacomidbaaYq
namespace Go.Proofs.Ytkbakbacomidbaa.Sp
open Go.RowKit
def exA : ByteArray := ⟨#[60, 98, 62, 104, 105, 60, 47, 98, 62]⟩
def exB : ByteArray := ⟨#[97, 60, 47, 62, 98]⟩
def toksOf (s : ByteArray) : List Pt := (refT true false s.size ((chars s).length + 1) (sc1 0 ⟨#[]⟩) (chars s)).1
def snP (p : Pt) : Sn := ⟨p.k, p.s, p.f, p.t⟩
def snT (p : Pt) : Int × Bool × Int × Int := (p.k, p.s, p.f, p.t)
theorem exA_toks : (toksOf exA).map snT = [(2, false, 0, 3), (1, false, 3, 4), (1, false, 4, 5), (3, false, 5, 9), (6, false, 9, 9)] := by kernel_rfl
theorem exB_toks : (toksOf exB).map snT = [(1, false, 0, 1), (1, false, 4, 5), (6, false, 5, 5)] := by kernel_rfl
def ofT (q : Int × Bool × Int × Int) : Sn := ⟨q.1, q.2.1, q.2.2.1, q.2.2.2⟩
theorem snP_of (L : List Pt) : L.map snP = (L.map snT).map ofT := by rw [List.map_map]; rfl
theorem exA_cover : coverP ((toksOf exA).map snP) 9 = [⟨0, 3, 2⟩, ⟨3, 5, 1⟩, ⟨5, 9, 2⟩] := by rw [snP_of, exA_toks]; rfl
theorem exB_cover : coverP ((toksOf exB).map snP) 5 = [⟨0, 1, 1⟩, ⟨1, 4, 2⟩, ⟨4, 5, 1⟩] := by rw [snP_of, exB_toks]; rfl
/-- The document's Data: its tokens, by their cells. -/
def Dat (L : List Pt) (w : World) (e : Ending) (w' : World) : Prop := ∃ oo n oc fo m fc A, e = .returned (.tuple #[.slice oo n oc, .slice fo m fc]) ∧ TkC w' oo A ∧ A.length = n ∧ A.map snOf = L.map snP ∧ n ≤ 100000000 ∧ Below w.heap.size w w'
theorem tkc_of {B : Nat} {oo : Option Addr} {n oc : Nat} {T : List TL} {w : World} (h : Toks B (.slice oo n oc) T w) (hn : T.length = n) : TkC w oo (T.map (·.1)) := fun i x hx => by
  rw [List.getElem?_map] at hx
  cases ht : T[i]? with
  | none => rw [ht] at hx; simp at hx
  | some t =>
    rw [ht] at hx
    obtain rfl : t.1 = x := by simpa using hx
    obtain ⟨g, h1, h2, h3, _⟩ := h.at hn ht
    refine ⟨g, 0, h1, h2, fun j u hj => ?_⟩
    obtain ⟨c0, c1, c2, c3, c4, c5, c6, c7⟩ := h3
    rw [Nat.zero_add]
    match j, hj with
    | 0, hj => obtain rfl := Option.some.inj hj; exact c0
    | 1, hj => obtain rfl := Option.some.inj hj; exact c1
    | 2, hj => obtain rfl := Option.some.inj hj; exact c2
    | 3, hj => obtain rfl := Option.some.inj hj; exact c3
    | 4, hj => obtain rfl := Option.some.inj hj; exact c4
    | 5, hj => obtain rfl := Option.some.inj hj; exact c5
    | 6, hj => obtain rfl := Option.some.inj hj; exact c6
    | 7, hj => obtain rfl := Option.some.inj hj; exact c7
    | j + 8, hj => simp at hj
theorem data_any (s : ByteArray) (w : World) (hs : s.size < 20000) (hl : (toksOf s).length ≤ 100000000) : Calls Try.prog 16 #[.string s] w (Dat (toksOf s) w) := by
  refine (rdata_any s w hs).mono ?_
  rintro e w' ⟨FM, _, oo, T, oc, fo, fc, rfl, h1, h2, h3, h4, h5⟩
  have hl2 : T.length = (toksOf s).length := by
    have := congrArg List.length h1
    rw [List.length_map] at this
    exact this
  refine ⟨oo, T.length, oc, fo, FM.length, fc, T.map (·.1), rfl, tkc_of h3 rfl, by simp, ?_, by omega, h5⟩
  unfold toksOf
  rw [← h1, List.map_map, List.map_map]
  rfl
set_option maxHeartbeats 4000000 in
set_option maxRecDepth 20000 in
theorem awake_any (w : World) : Calls Try.prog 7 #[] w fun e w' => e = .returned (.bool true) ∧ Below w.heap.size w w' := by
  have kA := data_any exA w (by decide) (by have h := congrArg List.length exA_toks; rw [List.length_map] at h; rw [h]; decide)
  have kB := fun w => data_any exB w (by decide) (by have h := congrArg List.length exB_toks; rw [List.length_map] at h; rw [h]; decide)
  simp only [exA] at kA
  simp only [exB] at kB
  have ke1 : ∀ w, (binOp .eql 42 (.agg #[.int .i64 3, .int .i64 5, .int .i64 1]) (.agg #[.int .i64 3, .int .i64 5, .int .i64 1])).run Try.prog w = .ok (.bool true) w := fun w => by rw [eq42]; rfl
  have ke2 : ∀ w, (binOp .eql 42 (.agg #[.int .i64 1, .int .i64 4, .int .i64 2]) (.agg #[.int .i64 1, .int .i64 4, .int .i64 2])).run Try.prog w = .ok (.bool true) w := fun w => by rw [eq42]; rfl
  go_enter Try.func7, Try.ntmps7
  go_wp2_with fail
  refine kA.mono ?_
  rintro e w1 ⟨oo, n, oc, fo, m, fc, A, rfl, hA, hn, hs, hn2, b1⟩
  have k8 := cover_any n oc hA hn hn2 9
  rw [hs, show ((toksOf ⟨#[60, 98, 62, 104, 105, 60, 47, 98, 62]⟩).map snP) = ((toksOf exA).map snP) from rfl, exA_cover] at k8
  have H1 : Hid (Below w.heap.size w w1) := b1
  clear hA hn hs hn2 b1 kA
  go_wp2_with fail
  refine k8.mono ?_
  rintro e w2 ⟨ao, acap, rfl, ra, b2⟩
  have H2 : Hid (Below w.heap.size w w2 ∧ PcRow w2 ao [⟨0, 3, 2⟩, ⟨3, 5, 1⟩, ⟨5, 9, 2⟩]) := ⟨H1.out.trans (b2.mono H1.out.size), ra⟩
  clear k8 ra b2
  simp only [List.length_cons, List.length_nil]
  go_wp2_with fail
  refine (kB _).mono ?_
  rintro e w3 ⟨oo2, n2, oc2, fo2, m2, fc2, A2, rfl, hA2, hnB, hsB, hnC, b3⟩
  have k8 := cover_any n2 oc2 hA2 hnB hnC 5
  rw [hsB, show ((toksOf ⟨#[97, 60, 47, 62, 98]⟩).map snP) = ((toksOf exB).map snP) from rfl, exB_cover] at k8
  have H3 : Hid (Below w.heap.size w w3 ∧ PcRow w3 ao [⟨0, 3, 2⟩, ⟨3, 5, 1⟩, ⟨5, 9, 2⟩]) := ⟨H2.out.1.trans (b3.mono H2.out.1.size), H2.out.2.below b3⟩
  clear hA2 hnB hsB hnC b3 kB
  go_wp2_with fail
  refine k8.mono ?_
  rintro e w4 ⟨bo, bcap, rfl, rb, b4⟩
  have hra : PcRow w4 ao [⟨0, 3, 2⟩, ⟨3, 5, 1⟩, ⟨5, 9, 2⟩] := H3.out.2.below b4
  have H4 : Hid (Below w.heap.size w w4) := H3.out.1.trans (b4.mono H3.out.1.size)
  clear k8 b4
  simp only [List.length_cons, List.length_nil]
  obtain ⟨ba, oa, rfl, _, a0, a1, a2⟩ := hra 1 _ rfl
  obtain ⟨bb, ob, rfl, _, d0, d1, d2⟩ := rb 1 _ rfl
  have kc9 : ∀ w', Below w4.heap.size w4 w' → Calls Try.prog 11 #[.slice (some ⟨ba, oa, none⟩) 3 acap, .int .i64 9] w' fun e w'' => e = .returned (.bool true) ∧ Below w'.heap.size w' w'' := fun w' b => check_any 3 acap (hra.below b) rfl (by decide) 9
  have kc8 : ∀ w', Below w4.heap.size w4 w' → Calls Try.prog 11 #[.slice (some ⟨ba, oa, none⟩) 3 acap, .int .i64 8] w' fun e w'' => e = .returned (.bool false) ∧ Below w'.heap.size w' w'' := fun w' b => check_any 3 acap (hra.below b) rfl (by decide) 8
  have ka4 : ∀ w', Below w4.heap.size w4 w' → Calls Try.prog 13 #[.slice (some ⟨ba, oa, none⟩) 3 acap, .int .i64 4] w' fun e w'' => e = .returned (.int .i64 1) ∧ Below w'.heap.size w' w'' := fun w' b => at_any 3 acap (hra.below b) rfl (by decide) 4
  have ka9 : ∀ w', Below w4.heap.size w4 w' → Calls Try.prog 13 #[.slice (some ⟨ba, oa, none⟩) 3 acap, .int .i64 9] w' fun e w'' => e = .returned (.int .i64 0) ∧ Below w'.heap.size w' w'' := fun w' b => at_any 3 acap (hra.below b) rfl (by decide) 9
  have ks1 : ∀ w', Below w4.heap.size w4 w' → Calls Try.prog 15 #[.slice (some ⟨ba, oa, none⟩) 3 acap, .slice (some ⟨ba, oa, none⟩) 3 acap] w' fun e w'' => e = .returned (.bool true) ∧ Below w'.heap.size w' w'' := fun w' b => same_any 3 3 acap acap (hra.below b) (hra.below b) rfl rfl (by decide) (by decide)
  have ks2 : ∀ w', Below w4.heap.size w4 w' → Calls Try.prog 15 #[.slice (some ⟨ba, oa, none⟩) 3 acap, .slice (some ⟨bb, ob, none⟩) 3 bcap] w' fun e w'' => e = .returned (.bool false) ∧ Below w'.heap.size w' w'' := fun w' b => same_any 3 3 acap bcap (hra.below b) (rb.below b) rfl rfl (by decide) (by decide)
  have K : Hid (PcRow w4 (some ⟨ba, oa, none⟩) [⟨0, 3, 2⟩, ⟨3, 5, 1⟩, ⟨5, 9, 2⟩]) := hra
  clear hra rb H3 H2
  simp only [Nat.one_mul] at a0 a1 a2 d0 d1 d2
  go_wp2_with fail
  refine (kc9 _ (Below.refl _ _)).mono ?_
  rintro e w5 ⟨rfl, b5⟩
  go_wp2_with fail
  refine (kc8 _ b5).mono ?_
  rintro e w6 ⟨rfl, b6'⟩
  have b6 := b5.trans (b6'.mono b5.size)
  clear b6'
  go_wp2_with fail
  refine (ka4 _ b6).mono ?_
  rintro e w7 ⟨rfl, b7'⟩
  have b7 := b6.trans (b7'.mono b6.size)
  clear b7'
  go_wp2_with fail
  refine (ka9 _ b7).mono ?_
  rintro e w8 ⟨rfl, b8'⟩
  have b8 := b7.trans (b8'.mono b7.size)
  clear b8'
  go_wp2_with fail
  refine (ks1 _ b8).mono ?_
  rintro e w9 ⟨rfl, b9'⟩
  have b9 := b8.trans (b9'.mono b8.size)
  clear b9'
  go_wp2_with fail
  refine (ks2 _ b9).mono ?_
  rintro e w10 ⟨rfl, b10'⟩
  have b10 := b9.trans (b10'.mono b9.size)
  clear b10'
  have HZ : Hid (Below w.heap.size w w10) := H4.out.trans (b10.mono H4.out.size)
  go_wp2_with fail
  go_ret
  exact ⟨rfl, HZ.out⟩
end Go.Proofs.Ytkbakbacomidbaa.Sp
