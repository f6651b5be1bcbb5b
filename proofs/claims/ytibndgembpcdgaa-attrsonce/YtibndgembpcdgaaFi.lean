/- first: the first of a row that a function value fits; named; Get. -/
import Derived.Test.YtibndgembpcdgaaRg
import Derived.Shelf.Abstract
namespace Go.Proofs.Ytibndgembpcdgaa
open Go.RowKit

/-- Function g with the captured box c tells p of each attribute of L, in any world that came of w0, and leaves what was there. -/
def Fits (w0 : World) (g c : Nat) (p : At → Bool) (L : List At) : Prop :=
  ∀ W, Below w0.heap.size w0 W → ∀ nm vl : ByteArray, At.mk nm vl ∈ L → Calls Try.prog g #[.agg #[.string nm, .string vl], .pointer (some ⟨c, 0, none⟩)] W fun e w' => e = .returned (.bool (p ⟨nm, vl⟩)) ∧ Below W.heap.size W w'

def gn : Option At → ByteArray
  | some x => x.n
  | none => ⟨#[]⟩

theorem load24 {w : World} {R : Nat} {a b : ByteArray} (h1 : w.cell? ⟨R, 0, none⟩ = some (.string a)) (h2 : w.cell? ⟨R, 1, none⟩ = some (.string b)) : (loadVar 24 ⟨R, 0, none⟩).run Try.prog w = .ok (.agg #[.string a, .string b]) w := by
  have a24 := Try.isAgg24
  have z24 := Try.sizeOf24
  go_simp

theorem results_first {tmps : Array Value} {w : World} {R : Nat} {a b : ByteArray} {r : Bool} (hp : tmps.getD 4 undef = .pointer (some ⟨R, 0, none⟩)) (hr : tmps.getD 5 undef = .bool r)
    (h1 : w.cell? ⟨R, 0, none⟩ = some (.string a)) (h2 : w.cell? ⟨R, 1, none⟩ = some (.string b)) : (results Try.f21 tmps).run Try.prog w = .ok (.tuple #[.agg #[.string a, .string b], .bool r]) w := by
  have hp' : tmps[4]?.getD undef = .pointer (some ⟨R, 0, none⟩) := by simpa using hp
  have hr' : tmps[5]?.getD undef = .bool r := by simpa using hr
  simp [results, hp', hr', asAddr, load24 h1 h2]

theorem two_set {wr : World} {R : Nat} {x y : Value} (a b : Value) (h0 : wr.cell? ⟨R, 0, none⟩ = some x) (h1 : wr.cell? ⟨R, 1, none⟩ = some y) :
    ((wr.setCell ⟨R, 0, none⟩ a).setCell ⟨R, 1, none⟩ b).cell? ⟨R, 0, none⟩ = some a ∧ ((wr.setCell ⟨R, 0, none⟩ a).setCell ⟨R, 1, none⟩ b).cell? ⟨R, 1, none⟩ = some b := by
  constructor
  · rw [World.cell?_setCell_other _ _ _ _ (by simp)]
    exact World.cell?_setCell_same _ _ _ h0
  · exact World.cell?_setCell_same _ _ _ ((World.cell?_setCell_other _ _ _ _ (by simp)).trans h1)

theorem find_drop {L : List At} {i : Nat} {x : At} {p : At → Bool} (h : L[i]? = some x) : (L.drop i).find? p = if p x = true then some x else (L.drop (i + 1)).find? p := by
  rw [drop_at h, List.find?_cons]
  cases p x <;> simp

set_option maxHeartbeats 2000000 in
theorem first_any {w : World} {ao : Option Addr} {L : List At} (n cap g c : Nat) (p : At → Bool) (eg : ∀ args w, (callFunc g args).run Try.prog w = .ok (.enter g args) w) (hf : Fits w g c p L) (ha : AtRow w ao L) (hn : L.length = n) (hn2 : n ≤ 100000) :
    Calls Try.prog 21 #[.slice ao n cap, .func (.func g) #[] #[.pointer (some ⟨c, 0, none⟩)]] w fun e w' => e = .returned (.tuple #[.agg #[.string (gn (L.find? p)), .string (gv (L.find? p))], .bool (L.find? p).isSome]) ∧ Below w.heap.size w w' := by
  obtain ⟨r, hr0⟩ : ∃ r, L.find? p = r := ⟨_, rfl⟩
  rw [hr0]
  have HA : Hid (AtRow w ao L ∧ L.length = n ∧ (L.drop 0).find? p = r ∧ Fits w g c p L) := ⟨ha, hn, hr0, hf⟩
  clear ha hn hr0 hf
  go_enter Try.func21, Try.ntmps21
  go_wp2_with fail
  obtain ⟨W, hW⟩ : ∃ W, w.alloc (.cells #[.string ⟨#[]⟩, .string ⟨#[]⟩] 24) = W := ⟨_, rfl⟩
  have hbW : Below w.heap.size w W := by rw [← hW]; exact (Below.refl _ _).alloc (Nat.le_refl _) _
  have hnew : W.heap[w.heap.size]? = some (.cells #[.string ⟨#[]⟩, .string ⟨#[]⟩] 24 (0, 0)) := by rw [← hW]; exact heap_alloc_new _ _
  have HW : Hid (Below w.heap.size w W ∧ W.heap[w.heap.size]? = some (.cells #[.string ⟨#[]⟩, .string ⟨#[]⟩] 24 (0, 0))) := ⟨hbW, hnew⟩
  rw [hW]
  clear hW hnew hbW
  go_loopg [11] n (fun g2 iv wr => ∃ i : Nat, iv = .int .i64 i ∧ i + g2 = n ∧ (L.drop i).find? p = r ∧ Below W.heap.size W wr)
  case atStart => exact ⟨0, rfl, by omega, HA.out.2.2.1, Below.refl _ _⟩
  case round =>
    obtain ⟨i, rfl, hig, hgi, hbe⟩ := hrel
    have HG : Hid ((L.drop i).find? p = r ∧ Below W.heap.size W wr) := ⟨hgi, hbe⟩
    have hRl : w.heap.size < W.heap.size := (Array.getElem?_eq_some_iff.1 HW.out.2).1
    have hRr : wr.heap[w.heap.size]? = some (.cells #[.string ⟨#[]⟩, .string ⟨#[]⟩] 24 (0, 0)) := (hbe.block _ hRl).trans HW.out.2
    have HB : Hid (Below w.heap.size w wr) := HW.out.1.trans (hbe.mono HW.out.1.size)
    have q0 : wr.cell? ⟨w.heap.size, 0, none⟩ = some (.string ⟨#[]⟩) := by simp [World.cell?, hRr]
    have q1 : wr.cell? ⟨w.heap.size, 1, none⟩ = some (.string ⟨#[]⟩) := by simp [World.cell?, hRr]
    have f0 : wr.frozen? ⟨w.heap.size, 0, none⟩ = false := by simp [World.frozen?, hRr]
    have f1 : wr.frozen? ⟨w.heap.size, 1, none⟩ = false := by simp [World.frozen?, hRr]
    have hRw : w.heap.size < wr.heap.size := (Array.getElem?_eq_some_iff.1 hRr).1
    clear hgi hbe hRr hRl
    cases gk with
    | zero =>
      obtain rfl : i = n := by omega
      have hg0 : decide ((i : Int) < (i : Int)) = false := decide_eq_false (by omega)
      go_wp2_with fail
      have e : r = none := by
        have h := HG.out.1
        rw [List.drop_of_length_le (by rw [HA.out.2.1]; exact Nat.le_refl _)] at h
        exact h.symm
      subst e
      obtain ⟨z0, z1⟩ := two_set (.string ⟨#[]⟩) (.string ⟨#[]⟩) q0 q1
      have hb2 : Below w.heap.size w ((wr.setCell ⟨w.heap.size, 0, none⟩ (.string ⟨#[]⟩)).setCell ⟨w.heap.size, 1, none⟩ (.string ⟨#[]⟩)) := (HB.out.setCell (Nat.le_refl _) _).setCell (Nat.le_refl _) _
      have hbl : w.heap.size < ((wr.setCell ⟨w.heap.size, 0, none⟩ (.string ⟨#[]⟩)).setCell ⟨w.heap.size, 1, none⟩ (.string ⟨#[]⟩)).heap.size := by simpa using hRw
      generalize (wr.setCell ⟨w.heap.size, 0, none⟩ (.string ⟨#[]⟩)).setCell ⟨w.heap.size, 1, none⟩ (.string ⟨#[]⟩) = X at z0 z1 hb2 hbl ⊢
      have ba : Below X.heap.size X (X.alloc (.cells #[.string ⟨#[]⟩, .string ⟨#[]⟩] 24)) := (Below.refl _ _).alloc (Nat.le_refl _) _
      exact bodyPost_ret (results_first rfl rfl ((ba.cell (p := ⟨w.heap.size, 0, none⟩) hbl).trans z0) ((ba.cell (p := ⟨w.heap.size, 1, none⟩) hbl).trans z1)) rfl ⟨rfl, hb2.trans (ba.mono (Nat.le_of_lt hbl))⟩
    | succ k =>
      have hin : i < n := by omega
      obtain ⟨x, hx⟩ : ∃ x, L[i]? = some x := ⟨_, List.getElem?_eq_getElem (by rw [HA.out.2.1]; exact hin)⟩
      obtain ⟨b1, o1, rfl, h1, c1, c2⟩ := (HA.out.1.below HB.out) i x hx
      have HD : Hid ((L.drop i).find? p = if p x = true then some x else (L.drop (i + 1)).find? p) := find_drop hx
      have hmem := List.mem_of_getElem? hx
      clear hx
      obtain ⟨nm, vl⟩ := x
      simp only at c1 c2
      obtain ⟨V, hV⟩ : ∃ V, wr.alloc (.cells #[.string nm, .string vl] 24) = V := ⟨_, rfl⟩
      have bV : Below wr.heap.size wr V := by rw [← hV]; exact (Below.refl _ _).alloc (Nat.le_refl _) _
      have hVn : V.heap[wr.heap.size]? = some (.cells #[.string nm, .string vl] 24 (0, 0)) := by rw [← hV]; exact heap_alloc_new _ _
      have hVl : wr.heap.size < V.heap.size := (Array.getElem?_eq_some_iff.1 hVn).1
      have d0 : V.cell? ⟨wr.heap.size, 0, none⟩ = some (.string nm) := by simp [World.cell?, hVn]
      have d1 : V.cell? ⟨wr.heap.size, 1, none⟩ = some (.string vl) := by simp [World.cell?, hVn]
      go_wp2_with fail
      refine (HA.out.2.2.2 V (HB.out.trans (bV.mono HB.out.size)) nm vl hmem).mono ?_
      rintro e w1 ⟨rfl, q⟩
      clear hV hVn c1 c2 h1
      have d0' := (q.cell (p := ⟨wr.heap.size, 0, none⟩) hVl).trans d0
      have d1' := (q.cell (p := ⟨wr.heap.size, 1, none⟩) hVl).trans d1
      have bw : Below wr.heap.size wr w1 := bV.trans (q.mono (Nat.le_of_lt hVl))
      have q0' := (bw.cell (p := ⟨w.heap.size, 0, none⟩) hRw).trans q0
      have q1' := (bw.cell (p := ⟨w.heap.size, 1, none⟩) hRw).trans q1
      have f0' := (bw.frozen (p := ⟨w.heap.size, 0, none⟩) hRw).trans f0
      have f1' := (bw.frozen (p := ⟨w.heap.size, 1, none⟩) hRw).trans f1
      have hne : w.heap.size ≠ wr.heap.size := Nat.ne_of_lt hRw
      have HB1 : Hid (Below w.heap.size w w1 ∧ Below W.heap.size W w1) := ⟨HB.out.trans (bw.mono HB.out.size), HG.out.2.trans (bw.mono HG.out.2.size)⟩
      have hw1 : w.heap.size < w1.heap.size := Nat.lt_of_lt_of_le hRw bw.size
      clear bw q bV d0 d1 q0 q1 f0 f1 hVl
      obtain ⟨pr, hpr⟩ : ∃ pr, p ⟨nm, vl⟩ = pr := ⟨_, rfl⟩
      have HP : Hid (p ⟨nm, vl⟩ = pr) := hpr
      rw [hpr]
      clear hpr
      cases pr with
      | true =>
        go_wp2_with fail
        have e : r = some ⟨nm, vl⟩ := by
          rw [← HG.out.1, HD.out, if_pos HP.out]
        subst e
        obtain ⟨z0, z1⟩ := two_set (.string nm) (.string vl) q0' q1'
        exact bodyPost_ret (results_first rfl rfl z0 z1) rfl ⟨rfl, (HB1.out.1.setCell (Nat.le_refl _) _).setCell (Nat.le_refl _) _⟩
      | false =>
        have HN : Hid ((L.drop (i + 1)).find? p = r) := by
          have h := HD.out
          rw [if_neg (by rw [HP.out]; exact fun h => by cases h)] at h
          exact h.symm.trans HG.out.1
        go_wp2_with fail
        go_roundg k
        case measure => omega
        case rel => exact ⟨i + 1, by go_num, by omega, HN.out, HB1.out.2⟩

theorem enters34 : ∀ args w, (callFunc 34 args).run Try.prog w = .ok (.enter 34 args) w := enters_of Try.func34 (by kernel_rfl) rfl

set_option maxHeartbeats 400000 in
theorem named_one (W : World) (c : Nat) (s nm vl : ByteArray) (hc : c < W.heap.size) (h0 : W.cell? ⟨c, 0, none⟩ = some (.string s)) :
    Calls Try.prog 34 #[.agg #[.string nm, .string vl], .pointer (some ⟨c, 0, none⟩)] W fun e w' => e = .returned (.bool (decide (nm.data.toList = s.data.toList))) ∧ Below W.heap.size W w' := by
  have hb : Below W.heap.size W (W.alloc (.cells #[.string nm, .string vl] 24)) := (Below.refl _ _).alloc (Nat.le_refl _) _
  have HB : Hid (Below W.heap.size W (W.alloc (.cells #[.string nm, .string vl] 24))) := hb
  rw [← beq_bytes]
  clear hb
  go_enter Try.func34, Try.ntmps34
  go_wp2_with fail
  go_ret
  exact ⟨rfl, HB.out⟩

set_option maxHeartbeats 400000 in
theorem named_any (w : World) (s : ByteArray) : Calls Try.prog 22 #[.string s] w fun e w' => ∃ c, e = .returned (.func (.func 34) #[] #[.pointer (some ⟨c, 0, none⟩)]) ∧ c < w'.heap.size ∧ w'.cell? ⟨c, 0, none⟩ = some (.string s) ∧ Below w.heap.size w w' := by
  obtain ⟨V, hV⟩ : ∃ V, w.alloc (.cells #[.string s] 9) = V := ⟨_, rfl⟩
  have hVn : V.heap[w.heap.size]? = some (.cells #[.string s] 9 (0, 0)) := by rw [← hV]; exact heap_alloc_new _ _
  have HV : Hid (w.heap.size < V.heap.size ∧ V.cell? ⟨w.heap.size, 0, none⟩ = some (.string s) ∧ Below w.heap.size w V) := ⟨(Array.getElem?_eq_some_iff.1 hVn).1, by simp [World.cell?, hVn], by rw [← hV]; exact (Below.refl _ _).alloc (Nat.le_refl _) _⟩
  clear hVn
  go_enter Try.func22, Try.ntmps22
  go_wp2_with fail
  go_ret
  exact ⟨w.heap.size, rfl, HV.out⟩

theorem fits_named {w : World} {c : Nat} {s : ByteArray} {L : List At} (hc : c < w.heap.size) (h0 : w.cell? ⟨c, 0, none⟩ = some (.string s)) : Fits w 34 c (fun x => decide (x.nm = s.data.toList)) L := fun W hb nm vl _ =>
  named_one W c s nm vl (Nat.lt_of_lt_of_le hc hb.size) ((hb.cell (p := ⟨c, 0, none⟩) hc).trans h0)

set_option maxHeartbeats 1000000 in
theorem get_any {w : World} {ao : Option Addr} {L : List At} (n cap : Nat) (s : ByteArray) (ha : AtRow w ao L) (hn : L.length = n) (hn2 : n ≤ 100000) :
    Calls Try.prog 12 #[.slice ao n cap, .string s] w fun e w' => e = .returned (.tuple #[.string (gv (getP L s.data.toList)), .bool (getP L s.data.toList).isSome]) ∧ Below w.heap.size w w' := by
  obtain ⟨r, hr⟩ : ∃ r, getP L s.data.toList = r := ⟨_, rfl⟩
  rw [hr]
  have HA : Hid (AtRow w ao L ∧ L.length = n ∧ getP L s.data.toList = r) := ⟨ha, hn, hr⟩
  clear ha hn hr
  go_enter Try.func12, Try.ntmps12
  go_wp2_with fail
  refine (named_any w s).mono ?_
  rintro e w1 ⟨c, rfl, h1, h2, h3⟩
  have hf := first_any n cap 34 c _ enters34 (fits_named h1 h2) (HA.out.1.below h3) HA.out.2.1 hn2
  change Calls Try.prog 21 #[.slice ao n cap, .func (.func 34) #[] #[.pointer (some ⟨c, 0, none⟩)]] w1 (fun e w' => e = .returned (.tuple #[.agg #[.string (gn (getP L s.data.toList)), .string (gv (getP L s.data.toList))], .bool (getP L s.data.toList).isSome]) ∧ Below w1.heap.size w1 w') at hf
  have H1 : Hid (Below w.heap.size w w1) := h3
  clear h1 h2 h3
  rw [HA.out.2.2] at hf
  go_wp2_with fail
  refine hf.mono ?_
  rintro e w2 ⟨rfl, q⟩
  clear hf
  have H2 : Hid (Below w.heap.size w (w2.alloc (.cells #[.string (gn r), .string (gv r)] 24))) := by
    have b := H1.out.trans (q.mono H1.out.size)
    exact b.alloc b.size _
  clear q
  go_wp2_with fail
  go_ret2
  exact ⟨rfl, H2.out⟩
end Go.Proofs.Ytibndgembpcdgaa
