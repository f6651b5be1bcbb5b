/- The document's Ids. -/
import Derived.Test.YtdpibnmbgjhohaaAd
namespace Go.Proofs.Ytdpibnmbgjhohaa
open Go.RowKit

mutual
/-- All numbers of a tree, in order. -/
def iT : Tr → List Int
  | .mk d ks => d.id :: iL ks
def iL : List Tr → List Int
  | [] => []
  | t :: ts => iT t ++ iL ts
end
theorem iL_take (ks : List Tr) (j : Nat) (u : Tr) (h : ks[j]? = some u) : iL (ks.take (j + 1)) = iL (ks.take j) ++ iT u := by
  induction ks generalizing j with
  | nil => simp at h
  | cons a ks ih =>
    cases j with
    | zero => simp at h; subst h; simp [iL]
    | succ j =>
      have := ih j (by simpa using h)
      simp only [List.take_succ_cons, iL, this, List.append_assoc]
mutual
theorem iT_len : ∀ t : Tr, (iT t).length = cT t
  | .mk d ks => by rw [iT, cT, List.length_cons, iL_len ks]
theorem iL_len : ∀ l : List Tr, (iL l).length = cL l
  | [] => rfl
  | t :: ts => by rw [iL, cL, List.length_append, iT_len t, iL_len ts]
end
theorem cL_kid {ks : List Tr} {j : Nat} {u : Tr} (h : ks[j]? = some u) : cT u ≤ cL ks := by
  induction ks generalizing j with
  | nil => simp at h
  | cons a ks ih =>
    cases j with
    | zero => simp at h; subst h; rw [cL]; omega
    | succ j =>
      have := ih (j := j) (by simpa using h)
      rw [cL]; omega
theorem cL_take (ks : List Tr) (j : Nat) : cL (ks.take j) ≤ cL ks := by
  induction ks generalizing j with
  | nil => simp
  | cons a ks ih =>
    cases j with
    | zero => simp [cL]
    | succ j =>
      have := ih j
      simp only [List.take_succ_cons, cL]
      omega
theorem cT_kid {d : Nd} {ks : List Tr} {j : Nat} {u : Tr} (h : ks[j]? = some u) : cT u < cT (.mk d ks) := by
  have := cL_kid h
  rw [cT]; omega
abbrev ivs (l : List Int) : List Value := l.map fun i => iv i
/-- A row of numbers, new. -/
def Idd (l : List Int) (w : World) (e : Ending) (w' : World) : Prop := ∃ v, e = .returned v ∧ Below w.heap.size w w' ∧ Rw (fun k => k < w.heap.size) w' 3 1 v l.length (ivs l)
theorem one_row (w : World) (i : Int) : Rw (fun k => k < w.heap.size) (w.alloc (.cells #[iv i] 3)) 3 1 (.slice (some ⟨w.heap.size, 0, none⟩) 1 1) 1 (ivs [i]) := by
  refine ⟨⟨rfl, .inr ⟨w.heap.size, 1, #[iv i], rfl, Nat.zero_le _, heap_alloc_new w _, Nat.le_refl _, by unfold maxLen; omega, rfl, rfl⟩⟩, fun g hg => ?_⟩
  simp [Value.ownBlock] at hg
  subst hg
  exact Nat.lt_irrefl _
/-- The append of a kid's numbers. -/
theorem ids_app {w0 w2 : World} {v : Value} {n : Nat} {xs : List Int} (hr : Rw (fun k => k < w0.heap.size) w2 3 1 v n (ivs xs)) (hs : w0.heap.size ≤ w2.heap.size) {u : Value} {m : Nat} {ys : List Int} {B : Nat} (hu : Rw (fun k => k < B) w2 3 1 u m (ivs ys)) (hm : 0 < m) (hn : n + m ≤ 1000000000) :
    ∃ v' W, (Builtin.append_ #[31, 31] 31 #[v, u]).run Try.prog w2 = .ok v' W ∧ Rw (fun k => k < w0.heap.size) W 3 1 v' (n + m) (ivs (xs ++ ys)) ∧ Below w0.heap.size w2 W := by
  obtain ⟨g, cap, cur, rfl, _, _, hg, h1, h2, h3, h4⟩ := hu.form hm
  obtain ⟨v', W, q1, q2, q3, _⟩ := Rw.app (t := 31) (e := 3) Try.underlying31 info3 rfl (by decide) (by decide) hr (fun k hk => Nat.lt_of_lt_of_le hk hs) g 0 m cap (ivs ys) (by have := hu.own.1; simpa using this)
    (fun j x hj => by rw [Nat.zero_add]; exact hu.cell hj) (fun x hx => by simp at hx; obtain ⟨a, _, rfl⟩ := hx; rfl) (by omega)
  refine ⟨v', W, q1, by rw [ivs, List.map_append]; exact q2, Keep.below (S := fun k => k < w0.heap.size) (Keep.grown q3 (fun g hg => hr.out g hg)) (fun k hk => hk) hs⟩
set_option maxHeartbeats 2000000 in
theorem rids_one {w : World} (d : Nd) (ks : List Tr) {ao kp : Option Addr} (an ac kn kc : Nat) (hkn : ks.length = kn) (hl : kn ≤ 140737488351232) (hc9 : cT (.mk d ks) ≤ 1000000000)
    (hk : ∀ (j : Nat) u, ks[j]? = some u → KidAt w kp j u fun w' a => Calls Try.prog 14 #[.agg a] w' fun e w'' => Idd (iT u) w' e w'') :
    Calls Try.prog 14 #[.agg #[iv d.id, iv d.kind, iv d.space, .string d.name, .string d.text, .slice ao an ac, iv d.sf, iv d.st, iv d.ef, iv d.et, .slice kp kn kc]] w fun e w' => Idd (iT (.mk d ks)) w e w' := by
  have b0 : Below w.heap.size w (w.alloc (.cells #[iv d.id, iv d.kind, iv d.space, .string d.name, .string d.text, .slice ao an ac, iv d.sf, iv d.st, iv d.ef, iv d.et, .slice kp kn kc] 27)) := (Below.refl _ _).alloc (Nat.le_refl _) _
  have n0 := heap_alloc_new w (.cells #[iv d.id, iv d.kind, iv d.space, .string d.name, .string d.text, .slice ao an ac, iv d.sf, iv d.st, iv d.ef, iv d.et, .slice kp kn kc] 27)
  obtain ⟨w0, hw0⟩ : ∃ w0, (w.alloc (.cells #[iv d.id, iv d.kind, iv d.space, .string d.name, .string d.text, .slice ao an ac, iv d.sf, iv d.st, iv d.ef, iv d.et, .slice kp kn kc] 27)) = w0 := ⟨_, rfl⟩
  have HW0 : Hid ((w.alloc (.cells #[iv d.id, iv d.kind, iv d.space, .string d.name, .string d.text, .slice ao an ac, iv d.sf, iv d.st, iv d.ef, iv d.et, .slice kp kn kc] 27)) = w0) := hw0
  rw [hw0] at b0 n0
  clear hw0
  have HK : Hid ((∀ (j : Nat) u, ks[j]? = some u → KidAt w kp j u fun w' a => Calls Try.prog 14 #[.agg a] w' fun e w'' => Idd (iT u) w' e w'') ∧ ks.length = kn ∧ cT (.mk d ks) ≤ 1000000000) := ⟨hk, hkn, hc9⟩
  have HB : Hid (Below w.heap.size w w0 ∧ w.heap.size < w0.heap.size) := ⟨b0, (Array.getElem?_eq_some_iff.1 n0).1⟩
  have p0 : w0.cell? ⟨w.heap.size, 0, none⟩ = some (iv d.id) := by simp [World.cell?, n0]
  have p10 : w0.cell? ⟨w.heap.size, 10, none⟩ = some (.slice kp kn kc) := by simp [World.cell?, n0]
  clear b0 n0 hk hkn hc9
  go_enter Try.func14, Try.ntmps14
  go_upto_region 1 with fail
  rw [HW0.out]
  clear HW0
  go_wp2_with fail
  go_loopg [3, 4] kn (fun g2 lv jv wr => ∃ (j : Nat), jv = .int .i64 j ∧ j + g2 = kn ∧ Hid (Below w0.heap.size w0 wr ∧ Rw (fun k => k < w0.heap.size) wr 3 1 lv (iL (ks.take j)).length.succ (ivs (d.id :: iL (ks.take j)))))
  case atStart => exact ⟨0, rfl, by omega, (Below.refl _ _).alloc (Nat.le_refl _) _, one_row w0 d.id⟩
  case round =>
    obtain ⟨j, rfl, hjg, HI⟩ := hrel
    have c10 : wr.cell? ⟨w.heap.size, 10, none⟩ = some (.slice kp kn kc) := cell_below HI.out.1 p10
    cases gk with
    | zero =>
      obtain rfl : j = kn := by omega
      have hg0 : decide ((j : Int) < (j : Int)) = false := decide_eq_false (by omega)
      go_wp2_with fail
      go_ret
      have hr := HI.out.2
      rw [List.take_of_length_le (by rw [HK.out.2.1]; omega)] at hr
      exact ⟨_, rfl, HB.out.1.trans (HI.out.1.mono HB.out.1.size), by rw [iT]; exact hr.sub fun i hi => Nat.lt_of_lt_of_le hi HB.out.1.size⟩
    | succ k =>
      have hjk : j < kn := by omega
      have g2 : decide ((j : Int) < (kn : Int)) = true := decide_eq_true (by omega)
      obtain ⟨u, hu⟩ : ∃ u, ks[j]? = some u := ⟨_, List.getElem?_eq_getElem (by rw [HK.out.2.1]; exact hjk)⟩
      obtain ⟨kb, ko, av, kv, rfl, hkb, hc, hcall⟩ := HK.out.1 j u hu
      have bw : Below w.heap.size w wr := HB.out.1.trans (HI.out.1.mono HB.out.1.size)
      have hc' : CellsAt wr kb (ko + j * 11) (u.d.cs av kv) := hc.mv (bw.block kb hkb)
      have k0 : wr.cell? ⟨kb, ko + j * 11, none⟩ = some (iv u.d.id) := hc' 0 _ rfl
      have k1 : wr.cell? ⟨kb, ko + j * 11 + 1, none⟩ = some (iv u.d.kind) := hc' 1 _ rfl
      have k2 : wr.cell? ⟨kb, ko + j * 11 + 2, none⟩ = some (iv u.d.space) := hc' 2 _ rfl
      have k3 : wr.cell? ⟨kb, ko + j * 11 + 3, none⟩ = some (.string u.d.name) := hc' 3 _ rfl
      have k4 : wr.cell? ⟨kb, ko + j * 11 + 4, none⟩ = some (.string u.d.text) := hc' 4 _ rfl
      have k5 : wr.cell? ⟨kb, ko + j * 11 + 5, none⟩ = some (av) := hc' 5 _ rfl
      have k6 : wr.cell? ⟨kb, ko + j * 11 + 6, none⟩ = some (iv u.d.sf) := hc' 6 _ rfl
      have k7 : wr.cell? ⟨kb, ko + j * 11 + 7, none⟩ = some (iv u.d.st) := hc' 7 _ rfl
      have k8 : wr.cell? ⟨kb, ko + j * 11 + 8, none⟩ = some (iv u.d.ef) := hc' 8 _ rfl
      have k9 : wr.cell? ⟨kb, ko + j * 11 + 9, none⟩ = some (iv u.d.et) := hc' 9 _ rfl
      have k10 : wr.cell? ⟨kb, ko + j * 11 + 10, none⟩ = some (kv) := hc' 10 _ rfl
      have kd := hcall wr bw
      have HU : Hid (iL (ks.take (j + 1)) = iL (ks.take j) ++ iT u ∧ (iL (ks.take j)).length + (iT u).length + 1 ≤ 1000000000 ∧ 0 < (iT u).length) := by
        have e := iL_take ks j u hu
        refine ⟨e, ?_, by rw [iT_len]; obtain ⟨d', ks'⟩ := u; rw [cT]; omega⟩
        have h1 := cL_take ks (j + 1)
        have h2 := HK.out.2.2
        rw [← iL_len, e, List.length_append] at h1
        rw [cT] at h2
        omega
      clear hc hc' hcall bw hu
      go_wp2_with fail
      refine kd.mono ?_
      rintro e w2 ⟨v2, rfl, b2, r2⟩
      have hr1 := HI.out.2.mv fun g hg => b2.block g (own_blk HI.out.2.own hg).1
      obtain ⟨v3, W, q1, q2, q3⟩ := ids_app hr1 (Nat.le_trans HI.out.1.size b2.size) r2 HU.out.2.2 (by have := HU.out.2.1; omega)
      have HR : Hid (Below w0.heap.size w0 W ∧ Rw (fun k => k < w0.heap.size) W 3 1 v3 (iL (ks.take (j + 1))).length.succ (ivs (d.id :: iL (ks.take (j + 1))))) := by
        refine ⟨(HI.out.1.trans (b2.mono HI.out.1.size)).trans q3, ?_⟩
        rw [HU.out.1]
        have e : (iL (ks.take j) ++ iT u).length.succ = (iL (ks.take j)).length.succ + (iT u).length := by rw [List.length_append]; omega
        rw [e]
        exact q2
      clear b2 r2 hr1 q2 q3 kd
      go_wp2_with (at_builtin; refine list_append_eq rfl _ _ 31 31 rfl _ _ rfl rfl q1 ?_)
      go_roundg k
      case measure => omega
      case rel => exact ⟨j + 1, by go_num, by omega, HR.out⟩
theorem rids_any {w : World} {t : Tr} {av kv : Value} (h : TrV w t av kv) : ∀ (_ : Ok t) (_ : cT t ≤ 1000000000) (w' : World), Below w.heap.size w w' →
    Calls Try.prog 14 #[.agg #[iv t.d.id, iv t.d.kind, iv t.d.space, .string t.d.name, .string t.d.text, av, iv t.d.sf, iv t.d.st, iv t.d.ef, iv t.d.et, kv]] w' fun e w'' => Idd (iT t) w' e w'' := by
  induction h with
  | mk ha hp hc hk ih =>
    rename_i d ks ac kc kb ko ao kp avs kvs
    intro hok h9 w' b
    cases hok with
    | mk o1 o2 o3 o4 =>
      refine rids_one d ks _ ac _ kc rfl o3 h9 fun j u hu => ?_
      have hne : ks ≠ [] := fun e => by rw [e] at hu; simp at hu
      obtain ⟨q1, q2⟩ := hc j u hu
      refine ⟨kb, ko, avs j, kvs j, hp hne, Nat.lt_of_lt_of_le q1 b.size, q2.mv (b.block kb q1), fun w2 b2 => ?_⟩
      exact ih j u hu (o4 u (List.mem_of_getElem? hu)) (by have := cT_kid (d := d) hu; omega) w2 (b.trans (b2.mono b.size))
end Go.Proofs.Ytdpibnmbgjhohaa
