/- The law TokenizerCopies holds for all texts: a copy goes on as the machine that it was copied of, and neither changes the other. The program's table is laid as its text lays it (the card ties it); no other condition. -/
import Derived.Test.YtjjfalbngcbfaaaGreatDoorYd
import Derived.ProofKit
import Derived.OpenShut
import Derived.ShutString
import Derived.ChangeOld
import Derived.ChangeMaps
import Derived.Lib.SmallJoins
import Derived.Test.YtjjfalbngcbfaaaGreatDoorWb
namespace Go.Proofs.YtjjfalbngcbfaaaGreatDoor
open Go.ChangeShapes Go.WideShapes Go.ChangeAt Go.RowKit Go.Joins

theorem tot_good {n : Nat} {m : Mc} (h : Good n m) (hn : n ≤ 20000) : m.tot ≤ 1000000000 := by
  have := tot_mu m
  have := h.w.mu
  omega
/-- Characters that came in, in blocks of Q. -/
theorem chars_row {Q : Nat → Prop} {B : Nat} {ca : Option Addr} {cn cc : Nat} {L : List Ch} {w : World} (h : G4.Chars B (.slice ca cn cc) L w) (hQ : ∀ k, B ≤ k → k < w.heap.size → Q k) : cn = L.length ∧ cn ≤ cc ∧ cc ≤ maxLen ∧ Stays Q w (ChRow ca L) := by
  obtain ⟨ao, cap, e1, hle, hr, hz, hm⟩ := rowC (OwnQ.of h : Rw.own w (rwC _ L))
  simp only [Value.slice.injEq] at e1
  obtain ⟨rfl, rfl, rfl⟩ := e1
  refine ⟨rfl, hle, hm, fun w' k => ?_⟩
  rcases h.2 with ⟨e2, h0⟩ | ⟨g, cap2, cur, e2, hB, hg, _⟩
  · have : L = [] := List.eq_nil_of_length_eq_zero h0
    rw [this]
    exact fun i c hi => by simp at hi
  · simp only [Value.slice.injEq] at e2
    obtain ⟨rfl, _, _⟩ := e2
    have hgl := (Array.getElem?_eq_some_iff.1 hg).1
    exact hr.same (k.block g (hQ g hB hgl) hgl)
theorem ChRow.take {ao : Option Addr} {l : List Ch} {w : World} (h : ChRow ao l w) (k : Nat) : ChRow ao (l.take k) w := fun i x hx => by
  have hil := (List.getElem?_eq_some_iff.1 hx).1
  rw [List.length_take] at hil
  rw [List.getElem?_take_of_lt (by omega)] at hx
  exact h i x hx

set_option maxHeartbeats 40000000 in
set_option maxRecDepth 20000 in
theorem copies_walk {w : World} (H : G6.Hi w) (s : ByteArray) (ws : s.size ≤ 140737488355328) (t : ByteArray) (wt : t.size ≤ 140737488355328) (u : ByteArray) (wu : u.size ≤ 140737488355328) : Calls Tryz.prog 4 #[.string s, .string t, .string u] w fun e w' => e = .returned (.bool true) ∧ Below w.heap.size w w' := by
  have hw0 := H.lt
  have k14 := new_any (S := fun k => k < w.heap.size) H (fun _ h => h) hw0
  by_cases hlen : s.size + t.size + u.size ≤ 5000
  · have k15 := fun w => G4.rchs_any (s ++ t) w (by simp; omega)
    have k15u := fun w => G4.rchs_any u w (by omega)
    have g1 : decide (((s.size : Int) + t.size) + u.size > 5000) = false := decide_eq_false (by omega)
    have HC : Hid ((chars (s ++ t)).length ≤ 5000 ∧ (chars (s ++ t)).length + (chars u).length ≤ 5000) := by
      have h1 := outc_le (s ++ t).data.toList
      have h2 := outc_le u.data.toList
      rw [show (s ++ t).data.toList.length = (s ++ t).size from Array.length_toList, ByteArray.size_append] at h1
      rw [show u.data.toList.length = u.size from Array.length_toList] at h2
      show (G4.outc (s ++ t).data.toList).length ≤ 5000 ∧ (G4.outc (s ++ t).data.toList).length + (G4.outc u.data.toList).length ≤ 5000
      omega
    clear H
    go_enter Tryz.func4, Tryz.ntmps4
    go_wp2_with fail
    refine k14.mono ?_
    rintro e w1 ⟨rfl, h1, b1⟩
    have H1 : Hid (St w.heap.size Mc.new newV w1 ∧ Below w.heap.size w w1 ∧ ∀ k, Foot w.heap.size Mc.new newV [] k → w.heap.size ≤ k ∧ k < w1.heap.size) := ⟨St.of h1 hw0 rfl, b1, fun k hk => ⟨Nat.le_of_not_lt (foot_out h1 hk).1, (foot_out h1 hk).2⟩⟩
    have hx1 := h1.lt
    clear h1 b1 k14
    go_wp2_with fail
    refine (k15 _).mono ?_
    rintro e w2 ⟨ca, cn, cc, fa, fn', fc', rfl, hc2, _, b2⟩
    obtain ⟨hcn0, hcc, hcm, hrow⟩ := chars_row (Q := fun k => k < w.heap.size ∨ (w1.heap.size ≤ k ∧ k < w2.heap.size)) hc2 (fun k h1 h2 => .inr ⟨h1, h2⟩)
    obtain ⟨Q, hQ⟩ : ∃ Q : Nat → Prop, Q = fun k => k < w.heap.size ∨ (w1.heap.size ≤ k ∧ k < w2.heap.size) := ⟨_, rfl⟩
    rw [← hQ] at hrow
    obtain ⟨L, hL⟩ : ∃ L, G4.outc (s ++ t).data.toList = L := ⟨_, rfl⟩
    rw [hL] at hrow
    have hcn : L.length = cn := by rw [← hL]; exact hcn0.symm
    have HC2 : Hid (L.length = cn ∧ cn ≤ 5000 ∧ cn + (chars u).length ≤ 5000 ∧ cn ≤ cc) := ⟨hcn, by have h := HC.out; simp only [hL] at h; omega, by have h := HC.out; simp only [hL] at h; omega, hcc⟩
    have H2 : Hid (St w.heap.size Mc.new newV w2 ∧ (∀ k, Q k → ¬ Foot w.heap.size Mc.new newV [] k) ∧ (∀ k, Q k → k < w2.heap.size) ∧ Stays Q w2 (ChRow ca L) ∧ (∀ k, k < w.heap.size → Q k) ∧ Below w.heap.size w w2) := by
      have hs1 := H1.out.2.1.size
      have hs2 := b2.size
      refine ⟨H1.out.1.below b2, fun k hk hf => ?_, fun k hk => ?_, hrow, fun k hk => by rw [hQ]; exact .inl hk, H1.out.2.1.trans (b2.mono hs1)⟩
      · have := H1.out.2.2 k hf
        rw [hQ] at hk
        rcases hk with hk | hk <;> omega
      · rw [hQ] at hk
        rcases hk with hk | hk <;> omega
    have hx2 := Nat.lt_of_lt_of_le hx1 b2.size
    have hcn5 : cn ≤ 5000 := HC2.out.2.1
    clear hrow hc2 b2 k15 HC hQ hL hcn hcn0 hcc hcm
    go_wp2_with fail
    go_loopw [10] (fun nv wr => ∃ n : Nat, nv = .int .i64 n ∧ n ≤ cn ∧ wr = w2) (fun nv _ => cn - (intOf nv).toNat)
    case atStart => exact ⟨0, rfl, Nat.zero_le _, rfl⟩
    case round =>
      obtain ⟨n, rfl, hn, rfl⟩ := hrel
      by_cases hlt : n < cn
      · obtain ⟨c, hc⟩ : ∃ c, L[n]? = some c := ⟨_, List.getElem?_eq_getElem (by rw [HC2.out.1]; exact hlt)⟩
        obtain ⟨b, off, rfl, hb, q0, q1, q2⟩ := H2.out.2.2.2.1.now n c hc
        obtain ⟨cz, hcz⟩ : ∃ cz, c.z = cz := ⟨_, rfl⟩
        rw [hcz] at q2
        have hlt' : decide ((n : Int) < (cn : Int)) = true := decide_eq_true (by omega)
        clear hc q0 q1 hcz
        by_cases hz : cz ≤ (s.size : Int)
        · have f1 : decide (cz ≤ (s.size : Int)) = true := decide_eq_true hz
          clear hz
          go_wp2_with fail
          go_roundw
          case rel => exact ⟨n + 1, by go_num, by omega, by first | rfl | trivial⟩
          case measure => simp [intOf]; omega
        · have f1 : decide (cz ≤ (s.size : Int)) = false := decide_eq_false hz
          clear hz
          have hccn : ¬ cc = n := by have := HC2.out; omega
          have HC3 : Hid (L.length = cn ∧ cn ≤ 5000 ∧ cn + (chars u).length ≤ 5000 ∧ cn ≤ cc ∧ n ≤ cn) := ⟨HC2.out.1, HC2.out.2.1, HC2.out.2.2.1, HC2.out.2.2.2, by omega⟩
          clear HC2
          obtain ⟨M1, hM1⟩ : ∃ M1, (Mc.feeds true (L.take n) Mc.new).2 = M1 := ⟨_, rfl⟩
          have HG1 : Hid (Good n M1) := by
            rw [← hM1]
            have := feeds_good true good_new (L.take n)
            rw [List.length_take, HC3.out.1, Nat.min_eq_left HC3.out.2.2.2.2, Nat.zero_add] at this
            exact this
          have hncc : (n : Int) ≤ (cc : Int) := by have := HC3.out; omega
          go_wp2_with fail
          refine (St.feed (Z := NoZ) H2.out.1 (fun _ h => h.elim) good_new (L := L.take n) ((H2.out.2.2.2.1.mono fun k hk => ⟨H2.out.2.2.1 k hk, H2.out.2.1 k hk⟩).imp fun _ h => h.take n) n cc (by rw [List.length_take, HC3.out.1]; have := HC3.out; omega) (by have := HC3.out; omega) true).mono ?_
          rintro e w3 ⟨v1, ao1, T1, c1, rfl, _, _, _, went⟩
          rw [hM1] at went
          have hq2 : ∀ k, Q k → Rest w.heap.size Mc.new newV wr k := fun k hk => ⟨H2.out.2.2.1 k hk, H2.out.2.1 k hk⟩
          have H3 : Hid (St w.heap.size M1 v1 w3 ∧ (∀ k, Q k → ¬ Foot w.heap.size M1 v1 [] k) ∧ Keep Q wr w3 ∧ (∀ k, Q k → k < w3.heap.size)) := ⟨went.st, fun k hk hf => went.foot k hf (hq2 k hk), went.keep.sub hq2, fun k hk => Nat.lt_of_lt_of_le (H2.out.2.2.1 k hk) went.keep.size⟩
          have hx3 := H3.out.1.mach.lt
          obtain ⟨n1, hn1⟩ : ∃ n1, T1.length = n1 := ⟨_, rfl⟩
          rw [hn1]
          clear went hq2 hn1
          go_wp2_with fail
          refine (St.copy H3.out.1 (tot_good HG1.out (by have := HC3.out; omega))).mono ?_
          rintro e w4 ⟨vy, rfl, sy, fy, b4⟩
          have H4 : Hid (Duo Q w.heap.size w3.heap.size M1 M1 v1 vy w4 ∧ Keep Q wr w4) := ⟨⟨H3.out.1.below b4, sy, fun k h1 h2 => by have := H3.out.1.lt h1; have := fy k h2; omega, H3.out.2.1, fun k hk hf => by have := fy k hf; have := H3.out.2.2.2 k hk; omega, fun k hk => Nat.lt_of_lt_of_le (H3.out.2.2.2 k hk) b4.size⟩, H3.out.2.2.1.trans (Keep.old b4)⟩
          have hx4 := Nat.lt_of_lt_of_le hx3 b4.size
          have hy4 := H4.out.1.sz.mach.lt
          clear sy fy b4
          go_wp2_with fail
          refine (k15u _).mono ?_
          rintro e w5 ⟨cb, cm', cd', fa2, fn2, fc2, rfl, hc5, _, b5⟩
          obtain ⟨hcm0, hcd1, hcd2, hrow5⟩ := chars_row (Q := fun k => w4.heap.size ≤ k ∧ k < w5.heap.size) hc5 (fun k h1 h2 => ⟨h1, h2⟩)
          have H5 : Hid (Duo Q w.heap.size w3.heap.size M1 M1 v1 vy w5 ∧ Keep Q wr w5 ∧ Stays (Rest w3.heap.size M1 vy w5) w5 (ChRow cb (G4.outc u.data.toList)) ∧ (G4.outc u.data.toList).length = cm' ∧ n + cm' ≤ 5000) := ⟨H4.out.1.below b5, H4.out.2.trans (Keep.old b5), hrow5.mono (fun k hk => ⟨hk.2, fun hf => by have := H4.out.1.sz.lt hf; omega⟩), hcm0.symm, by have h := HC3.out; have h2 : (chars u).length = cm' := hcm0.symm; omega⟩
          have hx5 := Nat.lt_of_lt_of_le hx4 b5.size
          have hy5 := Nat.lt_of_lt_of_le hy4 b5.size
          clear hcm0 hcd1 hcd2 hrow5 hc5 b5
          go_wp2_with fail
          refine (St.feed (Z := Foot w.heap.size M1 v1 []) H5.out.1.sz H5.out.1.flip.far HG1.out H5.out.2.2.1 cm' cd' H5.out.2.2.2.1 (by have := H5.out.2.2.2.2; omega) true).mono ?_
          rintro e w6 ⟨v6, ao6, T6, c6, rfl, _, _, _, went⟩
          obtain ⟨M6, hM6⟩ : ∃ M6, (Mc.feeds true (G4.outc u.data.toList) M1).2 = M6 := ⟨_, rfl⟩
          rw [hM6] at went
          obtain ⟨d6, q6, _, _⟩ := H5.out.1.flip.step went
          have H6 : Hid (Duo Q w3.heap.size w.heap.size M6 M1 v6 v1 w6 ∧ Keep Q wr w6 ∧ Good (n + cm') M6) := ⟨d6, H5.out.2.1.trans q6, by
            rw [← hM6, ← H5.out.2.2.2.1]
            exact feeds_good true HG1.out _⟩
          have hx6 := d6.sz.mach.lt
          have hy6 := d6.sx.mach.lt
          obtain ⟨n6, hn6⟩ : ∃ n6, T6.length = n6 := ⟨_, rfl⟩
          rw [hn6]
          clear went d6 q6 hM6 hn6
          go_wp2_with fail
          refine (St.fin (Z := Foot w.heap.size M1 v1 []) H6.out.1.sx H6.out.1.far H6.out.2.2 (by have := H5.out.2.2.2.2; omega) 0).mono ?_
          rintro e w7 ⟨v7, ao7, T7, c7, rfl, _, _, _, went⟩
          obtain ⟨d7, q7, _, _⟩ := H6.out.1.step went
          have H7 : Hid (St w.heap.size M1 v1 w7 ∧ (∀ k, Q k → ¬ Foot w.heap.size M1 v1 [] k) ∧ Keep Q wr w7 ∧ ∀ k, Q k → k < w7.heap.size) := ⟨d7.sz, d7.qz, H6.out.2.1.trans q7, d7.ql⟩
          have hx7 := d7.sz.mach.lt
          obtain ⟨n7, hn7⟩ : ∃ n7, T7.length = n7 := ⟨_, rfl⟩
          rw [hn7]
          clear went d7 q7 hn7
          go_wp2_with fail
          refine (St.copy H7.out.1 (tot_good HG1.out (by have := HC3.out; omega))).mono ?_
          rintro e w8 ⟨vz, rfl, sz, fz, b8⟩
          have H8 : Hid (Duo Q w.heap.size w7.heap.size M1 M1 v1 vz w8 ∧ Keep Q wr w8) := ⟨⟨H7.out.1.below b8, sz, fun k h1 h2 => by have := H7.out.1.lt h1; have := fz k h2; omega, H7.out.2.1, fun k hk hf => by have := fz k hf; have := H7.out.2.2.2 k hk; omega, fun k hk => Nat.lt_of_lt_of_le (H7.out.2.2.2 k hk) b8.size⟩, H7.out.2.2.1.trans (Keep.old b8)⟩
          have hx8 := Nat.lt_of_lt_of_le hx7 b8.size
          have hz8 := H8.out.1.sz.mach.lt
          clear sz fz b8
          have HR : Hid (∀ lo, lo = some (⟨b, off + n * 3, none⟩ : Addr) → ∀ (x : Nat) (m : Mc) (v : Vs) (W : World), Keep Q wr W → (∀ k, Q k → ¬ Foot x m v [] k) → (∀ k, Q k → k < W.heap.size) → Stays (Rest x m v W) W (ChRow lo (L.drop n))) := fun lo hlo x m v W hk hf hl => ((H2.out.2.2.2.1.keep hk).mono fun k hq => ⟨hl k hq, hf k hq⟩).imp fun _ h => by
            have := h.drop n cc (by have := HC3.out; omega)
            rw [if_neg (by omega)] at this
            rw [hlo]
            simpa [Addr.add_lit] using this
          have HLn : Hid ((L.drop n).length = cn - n) := by
            show (L.drop n).length = cn - n
            rw [List.length_drop, HC3.out.1]
          go_wp2_with fail
          refine (St.feed (Z := Foot w7.heap.size M1 vz []) H8.out.1.sx H8.out.1.far HG1.out (HR.out _ (by first | rfl | trivial) _ _ _ _ H8.out.2 H8.out.1.qx H8.out.1.ql) _ _ HLn.out (by have := HC3.out; omega) true).mono ?_
          rintro e w9 ⟨v9, aoA, TA, cA, rfl, hTA, hcA, hlA, went⟩
          obtain ⟨M2, hM2⟩ : ∃ M2, (Mc.feeds true (L.drop n) M1).2 = M2 := ⟨_, rfl⟩
          rw [hM2] at went
          obtain ⟨d9, q9, hA9, _⟩ := H8.out.1.step went
          have HG2 : Hid (Good 5000 M2) := by
            rw [← hM2]
            have := feeds_good true HG1.out (L.drop n)
            exact this.mono (by rw [HLn.out]; have := HC3.out; omega)
          have H9 : Hid (Duo Q w.heap.size w7.heap.size M2 M1 v9 vz w9 ∧ Keep Q wr w9 ∧ Held (Nor w.heap.size w7.heap.size M2 M1 v9 vz) aoA TA w9 ∧ TA.map ptOf = (Mc.feeds true (L.drop n) M1).1 ∧ TA.length ≤ cA) := ⟨d9, H8.out.2.trans q9, hA9, hTA, hcA⟩
          have hx9 := d9.sx.mach.lt
          have hz9 := d9.sz.mach.lt
          obtain ⟨nA, hnA⟩ : ∃ nA, TA.length = nA := ⟨_, rfl⟩
          have HnA : Hid (TA.length = nA ∧ nA ≤ 9223372036854775807) := ⟨hnA, by omega⟩
          rw [hnA]
          clear went d9 q9 hA9 hTA hcA hlA hnA
          go_wp2_with fail
          refine (St.feed (Z := Foot w.heap.size M2 v9 []) H9.out.1.sz H9.out.1.flip.far HG1.out (HR.out _ (by first | rfl | trivial) _ _ _ _ H9.out.2.1 H9.out.1.qz H9.out.1.ql) _ _ HLn.out (by have := HC3.out; omega) true).mono ?_
          rintro e w10 ⟨v10, aoB, TB, cB, rfl, hTB, hcB, hlB, went⟩
          rw [hM2] at went
          obtain ⟨d10, q10, hB10, old10⟩ := H9.out.1.flip.step went
          have H10 : Hid (Duo Q w7.heap.size w.heap.size M2 M2 v10 v9 w10 ∧ Keep Q wr w10 ∧ Held (Nor w7.heap.size w.heap.size M2 M2 v10 v9) aoA TA w10 ∧ Held (Nor w7.heap.size w.heap.size M2 M2 v10 v9) aoB TB w10 ∧ TB.map ptOf = TA.map ptOf) := ⟨d10, H9.out.2.1.trans q10, old10 aoA TA H9.out.2.2.1.flip, hB10, hTB.trans H9.out.2.2.2.1.symm⟩
          have hx10 := d10.sz.mach.lt
          have hz10 := d10.sx.mach.lt
          obtain ⟨nB, hnB⟩ : ∃ nB, TB.length = nB := ⟨_, rfl⟩
          have HnB : Hid (TB.length = nB ∧ nB ≤ 9223372036854775807) := ⟨hnB, by omega⟩
          rw [hnB]
          clear went d10 q10 hB10 hTB hcB hlB hnB old10
          go_wp2_with fail
          refine (St.fin (Z := Foot w7.heap.size M2 v10 []) H10.out.1.sz H10.out.1.flip.far HG2.out (by omega) ((s.size : Int) + t.size)).mono ?_
          rintro e w11 ⟨v11, aoE, TE, cE, rfl, hTE, hcE, hlE, went⟩
          obtain ⟨d11, q11, hE11, old11⟩ := H10.out.1.flip.step went
          obtain ⟨M3, hM3⟩ : ∃ M3, (M2.ended ((s.size : Int) + t.size)).2 = M3 := ⟨_, rfl⟩
          rw [hM3] at d11 hE11 old11
          have H11 : Hid (Duo Q w.heap.size w7.heap.size M3 M2 v11 v10 w11 ∧ Keep Q wr w11 ∧ Held (Nor w.heap.size w7.heap.size M3 M2 v11 v10) aoA TA w11 ∧ Held (Nor w.heap.size w7.heap.size M3 M2 v11 v10) aoB TB w11 ∧ Held (Nor w.heap.size w7.heap.size M3 M2 v11 v10) aoE TE w11 ∧ TE.map ptOf = (M2.ended ((s.size : Int) + t.size)).1) := ⟨d11, H10.out.2.1.trans q11, old11 aoA TA H10.out.2.2.1.flip, old11 aoB TB H10.out.2.2.2.1.flip, hE11, hTE⟩
          have hx11 := d11.sx.mach.lt
          have hz11 := d11.sz.mach.lt
          obtain ⟨nE, hnE⟩ : ∃ nE, TE.length = nE := ⟨_, rfl⟩
          have HnE : Hid (TE.length = nE ∧ nE ≤ 9223372036854775807) := ⟨hnE, by omega⟩
          rw [hnE]
          clear went d11 q11 hE11 hTE hcE hlE hnE old11
          go_wp2_with fail
          refine (St.fin (Z := Foot w.heap.size M3 v11 []) H11.out.1.sz H11.out.1.flip.far HG2.out (by omega) ((s.size : Int) + t.size)).mono ?_
          rintro e w12 ⟨v12, aoF, TF, cF, rfl, hTF, hcF, hlF, went⟩
          obtain ⟨d12, q12, hF12, old12⟩ := H11.out.1.flip.step went
          have hi12 : G6.Hi w12 := d12.sx.mach.hi.now
          have hb12 : Below w.heap.size w w12 := H2.out.2.2.2.2.2.trans ((H11.out.2.1.trans q12).below H2.out.2.2.2.2.1 H2.out.2.2.2.2.2.size)
          have rA := (old12 aoA TA H11.out.2.2.1.flip).row
          have rB := (old12 aoB TB H11.out.2.2.2.1.flip).row
          have rE := (old12 aoE TE H11.out.2.2.2.2.1.flip).row
          have rF := hF12.row
          have lAB : G9.lsP TA TB = true := lsP_of H10.out.2.2.2.2.symm
          have lEF : G9.lsP TE TF = true := lsP_of (H11.out.2.2.2.2.2.trans hTF.symm)
          have H12 : Hid (G6.Hi w12 ∧ Below w.heap.size w w12 ∧ G9.TkRow w12 aoA TA ∧ G9.TkRow w12 aoB TB ∧ G9.TkRow w12 aoE TE ∧ G9.TkRow w12 aoF TF ∧ G9.lsP TA TB = true ∧ G9.lsP TE TF = true) := ⟨hi12, hb12, rA, rB, rE, rF, lAB, lEF⟩
          obtain ⟨nF, hnF⟩ : ∃ nF, TF.length = nF := ⟨_, rfl⟩
          have HnF : Hid (TF.length = nF ∧ nF ≤ 9223372036854775807) := ⟨hnF, by omega⟩
          rw [hnF]
          clear went d12 q12 hF12 hTF hcF hlF hnF old12 hi12 hb12 rA rB rE rF lAB lEF
          have kAB : Calls Tryz.prog 12 #[.slice aoA nA cA, .slice aoB nB cB] w12 fun e w' => e = .returned (.bool true) ∧ Below w12.heap.size w12 w' := by
            rw [← H12.out.2.2.2.2.2.2.1]
            exact G9.rlist_any nA nB cA cB H12.out.2.2.1 H12.out.2.2.2.1 HnA.out.1 HnB.out.1 HnA.out.2 HnB.out.2
          have kEF : ∀ W, Below w12.heap.size w12 W → Calls Tryz.prog 12 #[.slice aoE nE cE, .slice aoF nF cF] W fun e w' => e = .returned (.bool true) ∧ Below W.heap.size W w' := fun W b => by
            rw [← H12.out.2.2.2.2.2.2.2]
            exact G9.rlist_any nE nF cE cF (H12.out.2.2.2.2.1.below b) (H12.out.2.2.2.2.2.1.below b) HnE.out.1 HnF.out.1 HnE.out.2 HnF.out.2
          go_wp2_with fail
          refine kAB.mono ?_
          rintro e w13 ⟨rfl, b13⟩
          have H13 : Hid (Below w12.heap.size w12 w13) := b13
          have k13 := kEF w13 b13
          clear b13 kAB kEF
          go_wp2_with fail
          refine k13.mono ?_
          rintro e w14 ⟨rfl, b14⟩
          have H14 : Hid (Below w12.heap.size w12 w14) := H13.out.trans (b14.mono H13.out.size)
          clear b14 k13
          go_wp2_with fail
          refine (awake_any (H12.out.1.below H14.out H12.out.1.lt)).mono ?_
          rintro e w15 ⟨rfl, b15⟩
          have B15 : Hid (Below w.heap.size w w15) := by
            have b1 := H12.out.2.1.trans (H14.out.mono H12.out.2.1.size)
            exact b1.trans (b15.mono b1.size)
          clear b15
          go_wp2_with fail
          go_ret
          exact ⟨rfl, B15.out⟩
      · have hlt' : decide ((n : Int) < (cn : Int)) = false := decide_eq_false (by omega)
        by_cases hccn : cc = n
        · subst hccn
          have HC3 : Hid (L.length = cn ∧ cn ≤ 5000 ∧ cn + (chars u).length ≤ 5000 ∧ cn ≤ cc ∧ cc ≤ cn) := ⟨HC2.out.1, HC2.out.2.1, HC2.out.2.2.1, HC2.out.2.2.2, by omega⟩
          clear HC2
          obtain ⟨M1, hM1⟩ : ∃ M1, (Mc.feeds true (L.take cc) Mc.new).2 = M1 := ⟨_, rfl⟩
          have HG1 : Hid (Good cc M1) := by
            rw [← hM1]
            have := feeds_good true good_new (L.take cc)
            rw [List.length_take, HC3.out.1, Nat.min_eq_left HC3.out.2.2.2.2, Nat.zero_add] at this
            exact this
          have hncc : (cc : Int) ≤ (cc : Int) := by have := HC3.out; omega
          go_wp2_with fail
          refine (St.feed (Z := NoZ) H2.out.1 (fun _ h => h.elim) good_new (L := L.take cc) ((H2.out.2.2.2.1.mono fun k hk => ⟨H2.out.2.2.1 k hk, H2.out.2.1 k hk⟩).imp fun _ h => h.take cc) cc cc (by rw [List.length_take, HC3.out.1]; have := HC3.out; omega) (by have := HC3.out; omega) true).mono ?_
          rintro e w3 ⟨v1, ao1, T1, c1, rfl, _, _, _, went⟩
          rw [hM1] at went
          have hq2 : ∀ k, Q k → Rest w.heap.size Mc.new newV wr k := fun k hk => ⟨H2.out.2.2.1 k hk, H2.out.2.1 k hk⟩
          have H3 : Hid (St w.heap.size M1 v1 w3 ∧ (∀ k, Q k → ¬ Foot w.heap.size M1 v1 [] k) ∧ Keep Q wr w3 ∧ (∀ k, Q k → k < w3.heap.size)) := ⟨went.st, fun k hk hf => went.foot k hf (hq2 k hk), went.keep.sub hq2, fun k hk => Nat.lt_of_lt_of_le (H2.out.2.2.1 k hk) went.keep.size⟩
          have hx3 := H3.out.1.mach.lt
          obtain ⟨n1, hn1⟩ : ∃ n1, T1.length = n1 := ⟨_, rfl⟩
          rw [hn1]
          clear went hq2 hn1
          go_wp2_with fail
          refine (St.copy H3.out.1 (tot_good HG1.out (by have := HC3.out; omega))).mono ?_
          rintro e w4 ⟨vy, rfl, sy, fy, b4⟩
          have H4 : Hid (Duo Q w.heap.size w3.heap.size M1 M1 v1 vy w4 ∧ Keep Q wr w4) := ⟨⟨H3.out.1.below b4, sy, fun k h1 h2 => by have := H3.out.1.lt h1; have := fy k h2; omega, H3.out.2.1, fun k hk hf => by have := fy k hf; have := H3.out.2.2.2 k hk; omega, fun k hk => Nat.lt_of_lt_of_le (H3.out.2.2.2 k hk) b4.size⟩, H3.out.2.2.1.trans (Keep.old b4)⟩
          have hx4 := Nat.lt_of_lt_of_le hx3 b4.size
          have hy4 := H4.out.1.sz.mach.lt
          clear sy fy b4
          go_wp2_with fail
          refine (k15u _).mono ?_
          rintro e w5 ⟨cb, cm', cd', fa2, fn2, fc2, rfl, hc5, _, b5⟩
          obtain ⟨hcm0, hcd1, hcd2, hrow5⟩ := chars_row (Q := fun k => w4.heap.size ≤ k ∧ k < w5.heap.size) hc5 (fun k h1 h2 => ⟨h1, h2⟩)
          have H5 : Hid (Duo Q w.heap.size w3.heap.size M1 M1 v1 vy w5 ∧ Keep Q wr w5 ∧ Stays (Rest w3.heap.size M1 vy w5) w5 (ChRow cb (G4.outc u.data.toList)) ∧ (G4.outc u.data.toList).length = cm' ∧ cc + cm' ≤ 5000) := ⟨H4.out.1.below b5, H4.out.2.trans (Keep.old b5), hrow5.mono (fun k hk => ⟨hk.2, fun hf => by have := H4.out.1.sz.lt hf; omega⟩), hcm0.symm, by have h := HC3.out; have h2 : (chars u).length = cm' := hcm0.symm; omega⟩
          have hx5 := Nat.lt_of_lt_of_le hx4 b5.size
          have hy5 := Nat.lt_of_lt_of_le hy4 b5.size
          clear hcm0 hcd1 hcd2 hrow5 hc5 b5
          go_wp2_with fail
          refine (St.feed (Z := Foot w.heap.size M1 v1 []) H5.out.1.sz H5.out.1.flip.far HG1.out H5.out.2.2.1 cm' cd' H5.out.2.2.2.1 (by have := H5.out.2.2.2.2; omega) true).mono ?_
          rintro e w6 ⟨v6, ao6, T6, c6, rfl, _, _, _, went⟩
          obtain ⟨M6, hM6⟩ : ∃ M6, (Mc.feeds true (G4.outc u.data.toList) M1).2 = M6 := ⟨_, rfl⟩
          rw [hM6] at went
          obtain ⟨d6, q6, _, _⟩ := H5.out.1.flip.step went
          have H6 : Hid (Duo Q w3.heap.size w.heap.size M6 M1 v6 v1 w6 ∧ Keep Q wr w6 ∧ Good (cc + cm') M6) := ⟨d6, H5.out.2.1.trans q6, by
            rw [← hM6, ← H5.out.2.2.2.1]
            exact feeds_good true HG1.out _⟩
          have hx6 := d6.sz.mach.lt
          have hy6 := d6.sx.mach.lt
          obtain ⟨n6, hn6⟩ : ∃ n6, T6.length = n6 := ⟨_, rfl⟩
          rw [hn6]
          clear went d6 q6 hM6 hn6
          go_wp2_with fail
          refine (St.fin (Z := Foot w.heap.size M1 v1 []) H6.out.1.sx H6.out.1.far H6.out.2.2 (by have := H5.out.2.2.2.2; omega) 0).mono ?_
          rintro e w7 ⟨v7, ao7, T7, c7, rfl, _, _, _, went⟩
          obtain ⟨d7, q7, _, _⟩ := H6.out.1.step went
          have H7 : Hid (St w.heap.size M1 v1 w7 ∧ (∀ k, Q k → ¬ Foot w.heap.size M1 v1 [] k) ∧ Keep Q wr w7 ∧ ∀ k, Q k → k < w7.heap.size) := ⟨d7.sz, d7.qz, H6.out.2.1.trans q7, d7.ql⟩
          have hx7 := d7.sz.mach.lt
          obtain ⟨n7, hn7⟩ : ∃ n7, T7.length = n7 := ⟨_, rfl⟩
          rw [hn7]
          clear went d7 q7 hn7
          go_wp2_with fail
          refine (St.copy H7.out.1 (tot_good HG1.out (by have := HC3.out; omega))).mono ?_
          rintro e w8 ⟨vz, rfl, sz, fz, b8⟩
          have H8 : Hid (Duo Q w.heap.size w7.heap.size M1 M1 v1 vz w8 ∧ Keep Q wr w8) := ⟨⟨H7.out.1.below b8, sz, fun k h1 h2 => by have := H7.out.1.lt h1; have := fz k h2; omega, H7.out.2.1, fun k hk hf => by have := fz k hf; have := H7.out.2.2.2 k hk; omega, fun k hk => Nat.lt_of_lt_of_le (H7.out.2.2.2 k hk) b8.size⟩, H7.out.2.2.1.trans (Keep.old b8)⟩
          have hx8 := Nat.lt_of_lt_of_le hx7 b8.size
          have hz8 := H8.out.1.sz.mach.lt
          clear sz fz b8
          have HR : Hid (∀ lo : Option Addr, True → ∀ (x : Nat) (m : Mc) (v : Vs) (W : World), Keep Q wr W → (∀ k, Q k → ¬ Foot x m v [] k) → (∀ k, Q k → k < W.heap.size) → Stays (Rest x m v W) W (ChRow lo (L.drop cc))) := fun lo _ x m v W hk hf hl w' _ => by
            have e : L.drop cc = [] := List.drop_of_length_le (by rw [HC3.out.1]; omega)
            rw [e]
            exact fun i c hi => by simp at hi
          have HLn : Hid ((L.drop cc).length = cn - cc) := by
            show (L.drop cc).length = cn - cc
            rw [List.length_drop, HC3.out.1]
          go_wp2_with fail
          refine (St.feed (Z := Foot w7.heap.size M1 vz []) H8.out.1.sx H8.out.1.far HG1.out (HR.out _ (by first | rfl | trivial) _ _ _ _ H8.out.2 H8.out.1.qx H8.out.1.ql) _ _ HLn.out (by have := HC3.out; omega) true).mono ?_
          rintro e w9 ⟨v9, aoA, TA, cA, rfl, hTA, hcA, hlA, went⟩
          obtain ⟨M2, hM2⟩ : ∃ M2, (Mc.feeds true (L.drop cc) M1).2 = M2 := ⟨_, rfl⟩
          rw [hM2] at went
          obtain ⟨d9, q9, hA9, _⟩ := H8.out.1.step went
          have HG2 : Hid (Good 5000 M2) := by
            rw [← hM2]
            have := feeds_good true HG1.out (L.drop cc)
            exact this.mono (by rw [HLn.out]; have := HC3.out; omega)
          have H9 : Hid (Duo Q w.heap.size w7.heap.size M2 M1 v9 vz w9 ∧ Keep Q wr w9 ∧ Held (Nor w.heap.size w7.heap.size M2 M1 v9 vz) aoA TA w9 ∧ TA.map ptOf = (Mc.feeds true (L.drop cc) M1).1 ∧ TA.length ≤ cA) := ⟨d9, H8.out.2.trans q9, hA9, hTA, hcA⟩
          have hx9 := d9.sx.mach.lt
          have hz9 := d9.sz.mach.lt
          obtain ⟨nA, hnA⟩ : ∃ nA, TA.length = nA := ⟨_, rfl⟩
          have HnA : Hid (TA.length = nA ∧ nA ≤ 9223372036854775807) := ⟨hnA, by omega⟩
          rw [hnA]
          clear went d9 q9 hA9 hTA hcA hlA hnA
          go_wp2_with fail
          refine (St.feed (Z := Foot w.heap.size M2 v9 []) H9.out.1.sz H9.out.1.flip.far HG1.out (HR.out _ (by first | rfl | trivial) _ _ _ _ H9.out.2.1 H9.out.1.qz H9.out.1.ql) _ _ HLn.out (by have := HC3.out; omega) true).mono ?_
          rintro e w10 ⟨v10, aoB, TB, cB, rfl, hTB, hcB, hlB, went⟩
          rw [hM2] at went
          obtain ⟨d10, q10, hB10, old10⟩ := H9.out.1.flip.step went
          have H10 : Hid (Duo Q w7.heap.size w.heap.size M2 M2 v10 v9 w10 ∧ Keep Q wr w10 ∧ Held (Nor w7.heap.size w.heap.size M2 M2 v10 v9) aoA TA w10 ∧ Held (Nor w7.heap.size w.heap.size M2 M2 v10 v9) aoB TB w10 ∧ TB.map ptOf = TA.map ptOf) := ⟨d10, H9.out.2.1.trans q10, old10 aoA TA H9.out.2.2.1.flip, hB10, hTB.trans H9.out.2.2.2.1.symm⟩
          have hx10 := d10.sz.mach.lt
          have hz10 := d10.sx.mach.lt
          obtain ⟨nB, hnB⟩ : ∃ nB, TB.length = nB := ⟨_, rfl⟩
          have HnB : Hid (TB.length = nB ∧ nB ≤ 9223372036854775807) := ⟨hnB, by omega⟩
          rw [hnB]
          clear went d10 q10 hB10 hTB hcB hlB hnB old10
          go_wp2_with fail
          refine (St.fin (Z := Foot w7.heap.size M2 v10 []) H10.out.1.sz H10.out.1.flip.far HG2.out (by omega) ((s.size : Int) + t.size)).mono ?_
          rintro e w11 ⟨v11, aoE, TE, cE, rfl, hTE, hcE, hlE, went⟩
          obtain ⟨d11, q11, hE11, old11⟩ := H10.out.1.flip.step went
          obtain ⟨M3, hM3⟩ : ∃ M3, (M2.ended ((s.size : Int) + t.size)).2 = M3 := ⟨_, rfl⟩
          rw [hM3] at d11 hE11 old11
          have H11 : Hid (Duo Q w.heap.size w7.heap.size M3 M2 v11 v10 w11 ∧ Keep Q wr w11 ∧ Held (Nor w.heap.size w7.heap.size M3 M2 v11 v10) aoA TA w11 ∧ Held (Nor w.heap.size w7.heap.size M3 M2 v11 v10) aoB TB w11 ∧ Held (Nor w.heap.size w7.heap.size M3 M2 v11 v10) aoE TE w11 ∧ TE.map ptOf = (M2.ended ((s.size : Int) + t.size)).1) := ⟨d11, H10.out.2.1.trans q11, old11 aoA TA H10.out.2.2.1.flip, old11 aoB TB H10.out.2.2.2.1.flip, hE11, hTE⟩
          have hx11 := d11.sx.mach.lt
          have hz11 := d11.sz.mach.lt
          obtain ⟨nE, hnE⟩ : ∃ nE, TE.length = nE := ⟨_, rfl⟩
          have HnE : Hid (TE.length = nE ∧ nE ≤ 9223372036854775807) := ⟨hnE, by omega⟩
          rw [hnE]
          clear went d11 q11 hE11 hTE hcE hlE hnE old11
          go_wp2_with fail
          refine (St.fin (Z := Foot w.heap.size M3 v11 []) H11.out.1.sz H11.out.1.flip.far HG2.out (by omega) ((s.size : Int) + t.size)).mono ?_
          rintro e w12 ⟨v12, aoF, TF, cF, rfl, hTF, hcF, hlF, went⟩
          obtain ⟨d12, q12, hF12, old12⟩ := H11.out.1.flip.step went
          have hi12 : G6.Hi w12 := d12.sx.mach.hi.now
          have hb12 : Below w.heap.size w w12 := H2.out.2.2.2.2.2.trans ((H11.out.2.1.trans q12).below H2.out.2.2.2.2.1 H2.out.2.2.2.2.2.size)
          have rA := (old12 aoA TA H11.out.2.2.1.flip).row
          have rB := (old12 aoB TB H11.out.2.2.2.1.flip).row
          have rE := (old12 aoE TE H11.out.2.2.2.2.1.flip).row
          have rF := hF12.row
          have lAB : G9.lsP TA TB = true := lsP_of H10.out.2.2.2.2.symm
          have lEF : G9.lsP TE TF = true := lsP_of (H11.out.2.2.2.2.2.trans hTF.symm)
          have H12 : Hid (G6.Hi w12 ∧ Below w.heap.size w w12 ∧ G9.TkRow w12 aoA TA ∧ G9.TkRow w12 aoB TB ∧ G9.TkRow w12 aoE TE ∧ G9.TkRow w12 aoF TF ∧ G9.lsP TA TB = true ∧ G9.lsP TE TF = true) := ⟨hi12, hb12, rA, rB, rE, rF, lAB, lEF⟩
          obtain ⟨nF, hnF⟩ : ∃ nF, TF.length = nF := ⟨_, rfl⟩
          have HnF : Hid (TF.length = nF ∧ nF ≤ 9223372036854775807) := ⟨hnF, by omega⟩
          rw [hnF]
          clear went d12 q12 hF12 hTF hcF hlF hnF old12 hi12 hb12 rA rB rE rF lAB lEF
          have kAB : Calls Tryz.prog 12 #[.slice aoA nA cA, .slice aoB nB cB] w12 fun e w' => e = .returned (.bool true) ∧ Below w12.heap.size w12 w' := by
            rw [← H12.out.2.2.2.2.2.2.1]
            exact G9.rlist_any nA nB cA cB H12.out.2.2.1 H12.out.2.2.2.1 HnA.out.1 HnB.out.1 HnA.out.2 HnB.out.2
          have kEF : ∀ W, Below w12.heap.size w12 W → Calls Tryz.prog 12 #[.slice aoE nE cE, .slice aoF nF cF] W fun e w' => e = .returned (.bool true) ∧ Below W.heap.size W w' := fun W b => by
            rw [← H12.out.2.2.2.2.2.2.2]
            exact G9.rlist_any nE nF cE cF (H12.out.2.2.2.2.1.below b) (H12.out.2.2.2.2.2.1.below b) HnE.out.1 HnF.out.1 HnE.out.2 HnF.out.2
          go_wp2_with fail
          refine kAB.mono ?_
          rintro e w13 ⟨rfl, b13⟩
          have H13 : Hid (Below w12.heap.size w12 w13) := b13
          have k13 := kEF w13 b13
          clear b13 kAB kEF
          go_wp2_with fail
          refine k13.mono ?_
          rintro e w14 ⟨rfl, b14⟩
          have H14 : Hid (Below w12.heap.size w12 w14) := H13.out.trans (b14.mono H13.out.size)
          clear b14 k13
          go_wp2_with fail
          refine (awake_any (H12.out.1.below H14.out H12.out.1.lt)).mono ?_
          rintro e w15 ⟨rfl, b15⟩
          have B15 : Hid (Below w.heap.size w w15) := by
            have b1 := H12.out.2.1.trans (H14.out.mono H12.out.2.1.size)
            exact b1.trans (b15.mono b1.size)
          clear b15
          go_wp2_with fail
          go_ret
          exact ⟨rfl, B15.out⟩
        · have HC3 : Hid (L.length = cn ∧ cn ≤ 5000 ∧ cn + (chars u).length ≤ 5000 ∧ cn ≤ cc ∧ n ≤ cn) := ⟨HC2.out.1, HC2.out.2.1, HC2.out.2.2.1, HC2.out.2.2.2, by omega⟩
          clear HC2
          obtain ⟨M1, hM1⟩ : ∃ M1, (Mc.feeds true (L.take n) Mc.new).2 = M1 := ⟨_, rfl⟩
          have HG1 : Hid (Good n M1) := by
            rw [← hM1]
            have := feeds_good true good_new (L.take n)
            rw [List.length_take, HC3.out.1, Nat.min_eq_left HC3.out.2.2.2.2, Nat.zero_add] at this
            exact this
          have hncc : (n : Int) ≤ (cc : Int) := by have := HC3.out; omega
          go_wp2_with fail
          refine (St.feed (Z := NoZ) H2.out.1 (fun _ h => h.elim) good_new (L := L.take n) ((H2.out.2.2.2.1.mono fun k hk => ⟨H2.out.2.2.1 k hk, H2.out.2.1 k hk⟩).imp fun _ h => h.take n) n cc (by rw [List.length_take, HC3.out.1]; have := HC3.out; omega) (by have := HC3.out; omega) true).mono ?_
          rintro e w3 ⟨v1, ao1, T1, c1, rfl, _, _, _, went⟩
          rw [hM1] at went
          have hq2 : ∀ k, Q k → Rest w.heap.size Mc.new newV wr k := fun k hk => ⟨H2.out.2.2.1 k hk, H2.out.2.1 k hk⟩
          have H3 : Hid (St w.heap.size M1 v1 w3 ∧ (∀ k, Q k → ¬ Foot w.heap.size M1 v1 [] k) ∧ Keep Q wr w3 ∧ (∀ k, Q k → k < w3.heap.size)) := ⟨went.st, fun k hk hf => went.foot k hf (hq2 k hk), went.keep.sub hq2, fun k hk => Nat.lt_of_lt_of_le (H2.out.2.2.1 k hk) went.keep.size⟩
          have hx3 := H3.out.1.mach.lt
          obtain ⟨n1, hn1⟩ : ∃ n1, T1.length = n1 := ⟨_, rfl⟩
          rw [hn1]
          clear went hq2 hn1
          go_wp2_with fail
          refine (St.copy H3.out.1 (tot_good HG1.out (by have := HC3.out; omega))).mono ?_
          rintro e w4 ⟨vy, rfl, sy, fy, b4⟩
          have H4 : Hid (Duo Q w.heap.size w3.heap.size M1 M1 v1 vy w4 ∧ Keep Q wr w4) := ⟨⟨H3.out.1.below b4, sy, fun k h1 h2 => by have := H3.out.1.lt h1; have := fy k h2; omega, H3.out.2.1, fun k hk hf => by have := fy k hf; have := H3.out.2.2.2 k hk; omega, fun k hk => Nat.lt_of_lt_of_le (H3.out.2.2.2 k hk) b4.size⟩, H3.out.2.2.1.trans (Keep.old b4)⟩
          have hx4 := Nat.lt_of_lt_of_le hx3 b4.size
          have hy4 := H4.out.1.sz.mach.lt
          clear sy fy b4
          go_wp2_with fail
          refine (k15u _).mono ?_
          rintro e w5 ⟨cb, cm', cd', fa2, fn2, fc2, rfl, hc5, _, b5⟩
          obtain ⟨hcm0, hcd1, hcd2, hrow5⟩ := chars_row (Q := fun k => w4.heap.size ≤ k ∧ k < w5.heap.size) hc5 (fun k h1 h2 => ⟨h1, h2⟩)
          have H5 : Hid (Duo Q w.heap.size w3.heap.size M1 M1 v1 vy w5 ∧ Keep Q wr w5 ∧ Stays (Rest w3.heap.size M1 vy w5) w5 (ChRow cb (G4.outc u.data.toList)) ∧ (G4.outc u.data.toList).length = cm' ∧ n + cm' ≤ 5000) := ⟨H4.out.1.below b5, H4.out.2.trans (Keep.old b5), hrow5.mono (fun k hk => ⟨hk.2, fun hf => by have := H4.out.1.sz.lt hf; omega⟩), hcm0.symm, by have h := HC3.out; have h2 : (chars u).length = cm' := hcm0.symm; omega⟩
          have hx5 := Nat.lt_of_lt_of_le hx4 b5.size
          have hy5 := Nat.lt_of_lt_of_le hy4 b5.size
          clear hcm0 hcd1 hcd2 hrow5 hc5 b5
          go_wp2_with fail
          refine (St.feed (Z := Foot w.heap.size M1 v1 []) H5.out.1.sz H5.out.1.flip.far HG1.out H5.out.2.2.1 cm' cd' H5.out.2.2.2.1 (by have := H5.out.2.2.2.2; omega) true).mono ?_
          rintro e w6 ⟨v6, ao6, T6, c6, rfl, _, _, _, went⟩
          obtain ⟨M6, hM6⟩ : ∃ M6, (Mc.feeds true (G4.outc u.data.toList) M1).2 = M6 := ⟨_, rfl⟩
          rw [hM6] at went
          obtain ⟨d6, q6, _, _⟩ := H5.out.1.flip.step went
          have H6 : Hid (Duo Q w3.heap.size w.heap.size M6 M1 v6 v1 w6 ∧ Keep Q wr w6 ∧ Good (n + cm') M6) := ⟨d6, H5.out.2.1.trans q6, by
            rw [← hM6, ← H5.out.2.2.2.1]
            exact feeds_good true HG1.out _⟩
          have hx6 := d6.sz.mach.lt
          have hy6 := d6.sx.mach.lt
          obtain ⟨n6, hn6⟩ : ∃ n6, T6.length = n6 := ⟨_, rfl⟩
          rw [hn6]
          clear went d6 q6 hM6 hn6
          go_wp2_with fail
          refine (St.fin (Z := Foot w.heap.size M1 v1 []) H6.out.1.sx H6.out.1.far H6.out.2.2 (by have := H5.out.2.2.2.2; omega) 0).mono ?_
          rintro e w7 ⟨v7, ao7, T7, c7, rfl, _, _, _, went⟩
          obtain ⟨d7, q7, _, _⟩ := H6.out.1.step went
          have H7 : Hid (St w.heap.size M1 v1 w7 ∧ (∀ k, Q k → ¬ Foot w.heap.size M1 v1 [] k) ∧ Keep Q wr w7 ∧ ∀ k, Q k → k < w7.heap.size) := ⟨d7.sz, d7.qz, H6.out.2.1.trans q7, d7.ql⟩
          have hx7 := d7.sz.mach.lt
          obtain ⟨n7, hn7⟩ : ∃ n7, T7.length = n7 := ⟨_, rfl⟩
          rw [hn7]
          clear went d7 q7 hn7
          go_wp2_with fail
          refine (St.copy H7.out.1 (tot_good HG1.out (by have := HC3.out; omega))).mono ?_
          rintro e w8 ⟨vz, rfl, sz, fz, b8⟩
          have H8 : Hid (Duo Q w.heap.size w7.heap.size M1 M1 v1 vz w8 ∧ Keep Q wr w8) := ⟨⟨H7.out.1.below b8, sz, fun k h1 h2 => by have := H7.out.1.lt h1; have := fz k h2; omega, H7.out.2.1, fun k hk hf => by have := fz k hf; have := H7.out.2.2.2 k hk; omega, fun k hk => Nat.lt_of_lt_of_le (H7.out.2.2.2 k hk) b8.size⟩, H7.out.2.2.1.trans (Keep.old b8)⟩
          have hx8 := Nat.lt_of_lt_of_le hx7 b8.size
          have hz8 := H8.out.1.sz.mach.lt
          clear sz fz b8
          have HR : Hid (∀ lo : Option Addr, True → ∀ (x : Nat) (m : Mc) (v : Vs) (W : World), Keep Q wr W → (∀ k, Q k → ¬ Foot x m v [] k) → (∀ k, Q k → k < W.heap.size) → Stays (Rest x m v W) W (ChRow lo (L.drop n))) := fun lo _ x m v W hk hf hl w' _ => by
            have e : L.drop n = [] := List.drop_of_length_le (by rw [HC3.out.1]; omega)
            rw [e]
            exact fun i c hi => by simp at hi
          have HLn : Hid ((L.drop n).length = cn - n) := by
            show (L.drop n).length = cn - n
            rw [List.length_drop, HC3.out.1]
          go_wp2_with fail
          refine (St.feed (Z := Foot w7.heap.size M1 vz []) H8.out.1.sx H8.out.1.far HG1.out (HR.out _ (by first | rfl | trivial) _ _ _ _ H8.out.2 H8.out.1.qx H8.out.1.ql) _ _ HLn.out (by have := HC3.out; omega) true).mono ?_
          rintro e w9 ⟨v9, aoA, TA, cA, rfl, hTA, hcA, hlA, went⟩
          obtain ⟨M2, hM2⟩ : ∃ M2, (Mc.feeds true (L.drop n) M1).2 = M2 := ⟨_, rfl⟩
          rw [hM2] at went
          obtain ⟨d9, q9, hA9, _⟩ := H8.out.1.step went
          have HG2 : Hid (Good 5000 M2) := by
            rw [← hM2]
            have := feeds_good true HG1.out (L.drop n)
            exact this.mono (by rw [HLn.out]; have := HC3.out; omega)
          have H9 : Hid (Duo Q w.heap.size w7.heap.size M2 M1 v9 vz w9 ∧ Keep Q wr w9 ∧ Held (Nor w.heap.size w7.heap.size M2 M1 v9 vz) aoA TA w9 ∧ TA.map ptOf = (Mc.feeds true (L.drop n) M1).1 ∧ TA.length ≤ cA) := ⟨d9, H8.out.2.trans q9, hA9, hTA, hcA⟩
          have hx9 := d9.sx.mach.lt
          have hz9 := d9.sz.mach.lt
          obtain ⟨nA, hnA⟩ : ∃ nA, TA.length = nA := ⟨_, rfl⟩
          have HnA : Hid (TA.length = nA ∧ nA ≤ 9223372036854775807) := ⟨hnA, by omega⟩
          rw [hnA]
          clear went d9 q9 hA9 hTA hcA hlA hnA
          go_wp2_with fail
          refine (St.feed (Z := Foot w.heap.size M2 v9 []) H9.out.1.sz H9.out.1.flip.far HG1.out (HR.out _ (by first | rfl | trivial) _ _ _ _ H9.out.2.1 H9.out.1.qz H9.out.1.ql) _ _ HLn.out (by have := HC3.out; omega) true).mono ?_
          rintro e w10 ⟨v10, aoB, TB, cB, rfl, hTB, hcB, hlB, went⟩
          rw [hM2] at went
          obtain ⟨d10, q10, hB10, old10⟩ := H9.out.1.flip.step went
          have H10 : Hid (Duo Q w7.heap.size w.heap.size M2 M2 v10 v9 w10 ∧ Keep Q wr w10 ∧ Held (Nor w7.heap.size w.heap.size M2 M2 v10 v9) aoA TA w10 ∧ Held (Nor w7.heap.size w.heap.size M2 M2 v10 v9) aoB TB w10 ∧ TB.map ptOf = TA.map ptOf) := ⟨d10, H9.out.2.1.trans q10, old10 aoA TA H9.out.2.2.1.flip, hB10, hTB.trans H9.out.2.2.2.1.symm⟩
          have hx10 := d10.sz.mach.lt
          have hz10 := d10.sx.mach.lt
          obtain ⟨nB, hnB⟩ : ∃ nB, TB.length = nB := ⟨_, rfl⟩
          have HnB : Hid (TB.length = nB ∧ nB ≤ 9223372036854775807) := ⟨hnB, by omega⟩
          rw [hnB]
          clear went d10 q10 hB10 hTB hcB hlB hnB old10
          go_wp2_with fail
          refine (St.fin (Z := Foot w7.heap.size M2 v10 []) H10.out.1.sz H10.out.1.flip.far HG2.out (by omega) ((s.size : Int) + t.size)).mono ?_
          rintro e w11 ⟨v11, aoE, TE, cE, rfl, hTE, hcE, hlE, went⟩
          obtain ⟨d11, q11, hE11, old11⟩ := H10.out.1.flip.step went
          obtain ⟨M3, hM3⟩ : ∃ M3, (M2.ended ((s.size : Int) + t.size)).2 = M3 := ⟨_, rfl⟩
          rw [hM3] at d11 hE11 old11
          have H11 : Hid (Duo Q w.heap.size w7.heap.size M3 M2 v11 v10 w11 ∧ Keep Q wr w11 ∧ Held (Nor w.heap.size w7.heap.size M3 M2 v11 v10) aoA TA w11 ∧ Held (Nor w.heap.size w7.heap.size M3 M2 v11 v10) aoB TB w11 ∧ Held (Nor w.heap.size w7.heap.size M3 M2 v11 v10) aoE TE w11 ∧ TE.map ptOf = (M2.ended ((s.size : Int) + t.size)).1) := ⟨d11, H10.out.2.1.trans q11, old11 aoA TA H10.out.2.2.1.flip, old11 aoB TB H10.out.2.2.2.1.flip, hE11, hTE⟩
          have hx11 := d11.sx.mach.lt
          have hz11 := d11.sz.mach.lt
          obtain ⟨nE, hnE⟩ : ∃ nE, TE.length = nE := ⟨_, rfl⟩
          have HnE : Hid (TE.length = nE ∧ nE ≤ 9223372036854775807) := ⟨hnE, by omega⟩
          rw [hnE]
          clear went d11 q11 hE11 hTE hcE hlE hnE old11
          go_wp2_with fail
          refine (St.fin (Z := Foot w.heap.size M3 v11 []) H11.out.1.sz H11.out.1.flip.far HG2.out (by omega) ((s.size : Int) + t.size)).mono ?_
          rintro e w12 ⟨v12, aoF, TF, cF, rfl, hTF, hcF, hlF, went⟩
          obtain ⟨d12, q12, hF12, old12⟩ := H11.out.1.flip.step went
          have hi12 : G6.Hi w12 := d12.sx.mach.hi.now
          have hb12 : Below w.heap.size w w12 := H2.out.2.2.2.2.2.trans ((H11.out.2.1.trans q12).below H2.out.2.2.2.2.1 H2.out.2.2.2.2.2.size)
          have rA := (old12 aoA TA H11.out.2.2.1.flip).row
          have rB := (old12 aoB TB H11.out.2.2.2.1.flip).row
          have rE := (old12 aoE TE H11.out.2.2.2.2.1.flip).row
          have rF := hF12.row
          have lAB : G9.lsP TA TB = true := lsP_of H10.out.2.2.2.2.symm
          have lEF : G9.lsP TE TF = true := lsP_of (H11.out.2.2.2.2.2.trans hTF.symm)
          have H12 : Hid (G6.Hi w12 ∧ Below w.heap.size w w12 ∧ G9.TkRow w12 aoA TA ∧ G9.TkRow w12 aoB TB ∧ G9.TkRow w12 aoE TE ∧ G9.TkRow w12 aoF TF ∧ G9.lsP TA TB = true ∧ G9.lsP TE TF = true) := ⟨hi12, hb12, rA, rB, rE, rF, lAB, lEF⟩
          obtain ⟨nF, hnF⟩ : ∃ nF, TF.length = nF := ⟨_, rfl⟩
          have HnF : Hid (TF.length = nF ∧ nF ≤ 9223372036854775807) := ⟨hnF, by omega⟩
          rw [hnF]
          clear went d12 q12 hF12 hTF hcF hlF hnF old12 hi12 hb12 rA rB rE rF lAB lEF
          have kAB : Calls Tryz.prog 12 #[.slice aoA nA cA, .slice aoB nB cB] w12 fun e w' => e = .returned (.bool true) ∧ Below w12.heap.size w12 w' := by
            rw [← H12.out.2.2.2.2.2.2.1]
            exact G9.rlist_any nA nB cA cB H12.out.2.2.1 H12.out.2.2.2.1 HnA.out.1 HnB.out.1 HnA.out.2 HnB.out.2
          have kEF : ∀ W, Below w12.heap.size w12 W → Calls Tryz.prog 12 #[.slice aoE nE cE, .slice aoF nF cF] W fun e w' => e = .returned (.bool true) ∧ Below W.heap.size W w' := fun W b => by
            rw [← H12.out.2.2.2.2.2.2.2]
            exact G9.rlist_any nE nF cE cF (H12.out.2.2.2.2.1.below b) (H12.out.2.2.2.2.2.1.below b) HnE.out.1 HnF.out.1 HnE.out.2 HnF.out.2
          go_wp2_with fail
          refine kAB.mono ?_
          rintro e w13 ⟨rfl, b13⟩
          have H13 : Hid (Below w12.heap.size w12 w13) := b13
          have k13 := kEF w13 b13
          clear b13 kAB kEF
          go_wp2_with fail
          refine k13.mono ?_
          rintro e w14 ⟨rfl, b14⟩
          have H14 : Hid (Below w12.heap.size w12 w14) := H13.out.trans (b14.mono H13.out.size)
          clear b14 k13
          go_wp2_with fail
          refine (awake_any (H12.out.1.below H14.out H12.out.1.lt)).mono ?_
          rintro e w15 ⟨rfl, b15⟩
          have B15 : Hid (Below w.heap.size w w15) := by
            have b1 := H12.out.2.1.trans (H14.out.mono H12.out.2.1.size)
            exact b1.trans (b15.mono b1.size)
          clear b15
          go_wp2_with fail
          go_ret
          exact ⟨rfl, B15.out⟩
  · have g1 : decide (((s.size : Int) + t.size) + u.size > 5000) = true := decide_eq_true (by omega)
    have HAW : Hid (∀ w', Below w.heap.size w w' → Calls Tryz.prog 9 #[] w' fun e w2 => e = .returned (.bool true) ∧ Below w'.heap.size w' w2) := fun w' b => awake_any (H.below b hw0)
    clear H
    go_enter Tryz.func4, Tryz.ntmps4
    go_wp2_with fail
    refine k14.mono ?_
    rintro e w1 ⟨rfl, h1, b1⟩
    have B1 : Hid (Below w.heap.size w w1) := b1
    have hx1 := h1.lt
    clear h1 b1 k14
    go_wp2_with fail
    refine (HAW.out _ B1.out).mono ?_
    rintro e w2 ⟨rfl, b2⟩
    have B2 : Hid (Below w.heap.size w w2) := B1.out.trans (b2.mono B1.out.size)
    clear b2
    go_wp2_with fail
    go_ret
    exact ⟨rfl, B2.out⟩

/-- A text is no longer than the form's reach. -/
theorem str_bound {H : Type} {ts : List TypeId} {ds : List (DataW H)} (hz : (DataW.weightsEach Tryz.prog ts ds).all (· ≤ reachBytes) = true) {j : Nat} {s : ByteArray}
    (ht : ts[j]? = some 9) (hd : ds[j]? = some (.lit (.string s.data.toList))) : s.size ≤ 140737488355328 := by
  have h1 : s.data.toList.length ∈ (DataW.lit (.string s.data.toList) : DataW H).weights Tryz.prog 9 := by
    simp [DataW.weights]
  have h2 := List.all_eq_true.1 hz _ (DataW.weights_mem_each ht hd _ h1)
  have h3 : s.data.toList.length = s.size := Array.length_toList
  rw [h3] at h2
  have h4 := of_decide_eq_true h2
  have h5 : reachBytes = 140737488351232 := by decide
  omega

set_option maxRecDepth 100000 in
theorem copies_lifted (os : Os) (started : os.Started) (H : Type) (enc : TypeId × Value → H) :
    ReturnsInHanded {} Tryz.checked os 4 .any (fun w args => (Rows.tokenizerCopiesSpec.pre enc Tryz.prog Tryz.f4 [] false w args ∧ laidMetH Tryz.prog laidL w) ∧ sizedMet enc Tryz.prog Tryz.f4 (OpenSpec.ofChange Rows.tokenizerCopiesSpec) false w args) (Rows.tokenizerCopiesSpec.post enc Tryz.prog Tryz.f4 false true false false) := by
  refine returnsInHanded_of_change_and (C := Tryz.checked) (X := fun w _ => laidMetH Tryz.prog laidL w) (fun _ _ _ hh h => h.of_heap hh) own started (by kernel_rfl) Tryz.func4
    (ChangeSpec.witness_shaped (enc := enc) (C := Tryz.checked) (os := os) (X := fun w _ => laidMetH Tryz.prog laidL w) false (World.doorLaid Tryz.prog 14 os) #[.string ⟨#[]⟩, .string ⟨#[]⟩, .string ⟨#[]⟩] 8 rfl (World.shaped_of_RefB (by kernel_rfl) (by kernel_rfl)) (by kernel_rfl) (by kernel_rfl) (by kernel_rfl) (door_met os _)) ?_
  intro W base args ds gs before hval0 hW _ hz0 hL _
  have hz : (DataW.weightsEach Tryz.prog (Tryz.f4.params.toList ++ Rows.tokenizerCopiesSpec.plain.varTypes Tryz.prog) (ds ++ gs)).all (· ≤ reachBytes) = true := hz0
  have hval : ∀ (j : Nat) t v, Tryz.f4.params[j]? = some t → args[j]? = some v → Value.okWide Tryz.prog W .any base t v := hval0
  have hH : G6.Hi W := hi_of_laid hL
  have hW' := hW
  obtain ⟨p, q, hA0, hV, rfl, hfz, hnd⟩ := hW
  have hA : DataW.TrodAll enc Tryz.prog W 0 (fun _ => true) true Tryz.f4.params.toList args.toList ds p := hA0
  rw [Tryz.params4] at hA hval hz
  obtain ⟨v0, vs0, d0, ds0, p0, q0, hargs, rfl, rfl, h0, r0⟩ := trodAll_cons hA
  obtain ⟨v1, vs1, d1, ds1, p1, q1, rfl, rfl, rfl, h1, r1⟩ := trodAll_cons r0
  obtain ⟨v2, vs2, d2, ds2, p2, q2, rfl, rfl, rfl, h2, r2⟩ := trodAll_cons r1
  obtain ⟨rfl, rfl, rfl⟩ := trodAll_nil r2
  obtain rfl : args = #[v0, v1, v2] := by cases args; simp_all
  obtain ⟨rfl, rfl⟩ := trodVars_none hV
  have k0 := h0
  have lt0 : ∀ x ∈ p0, x.block < W.heap.size := by obtain ⟨m, hm⟩ := k0; exact DataW.trod_lt m _ _ _ hm
  have k1 := h1
  have lt1 : ∀ x ∈ p1, x.block < W.heap.size := by obtain ⟨m, hm⟩ := k1; exact DataW.trod_lt m _ _ _ hm
  have k2 := h2
  have lt2 : ∀ x ∈ p2, x.block < W.heap.size := by obtain ⟨m, hm⟩ := k2; exact DataW.trod_lt m _ _ _ hm
  obtain ⟨x0, hv0, hd0, _, wx0⟩ := Go.ChangeMaps.open_string Tryz.underlying9 (hval 0 9 v0 rfl rfl) h0
  subst hv0
  obtain ⟨x1, hv1, hd1, _, wx1⟩ := Go.ChangeMaps.open_string Tryz.underlying9 (hval 1 9 v1 rfl rfl) h1
  subst hv1
  obtain ⟨x2, hv2, hd2, _, wx2⟩ := Go.ChangeMaps.open_string Tryz.underlying9 (hval 2 9 v2 rfl rfl) h2
  subst hv2
  clear hA0 hval0
  refine (copies_walk hH x0 (str_bound (j := 0) hz rfl (by rw [hd0]; rfl)) x1 (str_bound (j := 1) hz rfl (by rw [hd1]; rfl)) x2 (str_bound (j := 2) hz rfl (by rw [hd2]; rfl))).mono fun e W' ⟨he, bel⟩ => ?_
  subst he
  exact ⟨_, rfl, _, _, _, [], _, [], hW', trodAll_mk1 (shut_bool Tryz.underlying4 _), (trodAll_cons_mk (Below.trod laidOut (by kernel_rfl) (of_decide_eq_true (by kernel_rfl)) k0 bel lt0) (trodAll_cons_mk (Below.trod laidOut (by kernel_rfl) (of_decide_eq_true (by kernel_rfl)) k1 bel lt1) (trodAll_cons_mk (Below.trod laidOut (by kernel_rfl) (of_decide_eq_true (by kernel_rfl)) k2 bel lt2) trodAll_mk0))), rfl, bel.frame _, fun h => by cases h⟩

theorem copies_holds : Rows.TokenizerCopiesSaid :=
  OpenClaim.holds_of_wide 4 Tryz.f4 rfl rfl rfl rfl rfl rfl rfl ⟨rfl, rfl, rfl, rfl, rfl⟩ rfl rfl rfl rfl rfl (by kernel_rfl) Tryz.func4 (by kernel_rfl)
    (of_decide_eq_true (by kernel_rfl)) (by unfold Func.isWrapper; first | (rw [if_pos (by decide +kernel)]; kernel_rfl) | (rw [if_neg (by decide +kernel)]; exact ⟨rfl, rfl⟩))
    (fun os started H enc _ => copies_lifted os started H enc)

theorem copies_card : Rows.TokenizerCopiesCardSaid :=
  Claim7.holds_tied_plain_at .later [] [.data] true Rows.tokenizerCopiesCard.stood.harness true
    copies_holds (fun _ h => by cases h) (by kernel_rfl) (fun _ h => by cases h) tokenizerCopies_row_tie rfl ⟨rfl, rfl⟩ (by kernel_rfl) rfl
    (fun f fn hf hfn => by
      obtain rfl : f = 4 := Option.some.inj ((show Tryz.prog.funcNamed Rows.tokenizerCopiesRow.func = some 4 by kernel_rfl).symm.trans hf) |>.symm
      obtain rfl : fn = Tryz.f4 := (Option.some.inj (Tryz.func4.symm.trans hfn)).symm
      exact ⟨by kernel_rfl, fun j t ht => by
        rw [Tryz.params4] at ht
        have hm : t ∈ [9, 9, 9] := by simpa using Array.mem_of_getElem? ht
        have hall : ([9, 9, 9].all fun u => !Tryz.prog.wantsStandIn u) = true := by kernel_rfl
        exact (show Tryz.prog.wantsStandIn t = false by simpa using List.all_eq_true.1 hall t hm)⟩)
    (by kernel_rfl)
#print axioms copies_card
end Go.Proofs.YtjjfalbngcbfaaaGreatDoor
