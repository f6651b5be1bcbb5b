/- The document's Find. -/
import Derived.Test.YtdpibnmbgjhohaaAc
namespace Go.Proofs.Ytdpibnmbgjhohaa
open Go.RowKit

/-- The eleven cells of a node in a block. -/
def Bx (w : World) (y : Nat) (a : Array Value) : Prop := w.heap[y]? = some (.cells a 27 (0, 0))
theorem Bx.old {w w' : World} {y : Nat} {a : Array Value} (h : Bx w y a) (b : Below w.heap.size w w') : Bx w' y a := (b.block y (Array.getElem?_eq_some_iff.1 h).1).trans h
theorem Bx.cell {w : World} {y : Nat} {a : Array Value} (h : Bx w y a) (j : Nat) : w.cell? ⟨y, j, none⟩ = a[j]? := by
  unfold Bx at h
  simp [World.cell?, h]
theorem Bx.frozen {w : World} {y : Nat} {a : Array Value} (h : Bx w y a) (j : Nat) : w.frozen? ⟨y, j, none⟩ = false := frozen_of_row w y j a 27 h
theorem Bx.set {w : World} {y : Nat} {a : Array Value} (h : Bx w y a) (j : Nat) (u : Value) : Bx (w.setCell ⟨y, j, none⟩ u) y (a.setIfInBounds j u) := heap_setCell_same w y j a 27 u h
theorem Bx.other {w : World} {y z : Nat} {a : Array Value} (h : Bx w y a) (hz : z ≠ y) (j : Nat) (u : Value) : Bx (w.setCell ⟨z, j, none⟩ u) y a := (heap_setCell_other w ⟨z, j, none⟩ y u (fun e => hz e.symm)).trans h
theorem Bx.lt {w : World} {y : Nat} {a : Array Value} (h : Bx w y a) : y < w.heap.size := (Array.getElem?_eq_some_iff.1 h).1
theorem set11 (c0 c1 c2 c3 c4 c5 c6 c7 c8 c9 c10 u0 u1 u2 u3 u4 u5 u6 u7 u8 u9 u10 : Value) : (((((((((((#[c0, c1, c2, c3, c4, c5, c6, c7, c8, c9, c10] : Array Value).setIfInBounds 0 u0).setIfInBounds 1 u1).setIfInBounds 2 u2).setIfInBounds 3 u3).setIfInBounds 4 u4).setIfInBounds 5 u5).setIfInBounds 6 u6).setIfInBounds 7 u7).setIfInBounds 8 u8).setIfInBounds 9 u9).setIfInBounds 10 u10 = #[u0, u1, u2, u3, u4, u5, u6, u7, u8, u9, u10] := by
  apply Array.ext'
  simp
theorem size27 : (Try.prog.info? 27).map (·.size) = some 11 := by kernel_rfl
theorem Bx.put {w : World} {y : Nat} {c0 c1 c2 c3 c4 c5 c6 c7 c8 c9 c10 : Value} (h : Bx w y #[c0, c1, c2, c3, c4, c5, c6, c7, c8, c9, c10]) (u0 u1 u2 u3 u4 u5 u6 u7 u8 u9 u10 : Value) : Bx (((((((((((w.setCell ⟨y, 0, none⟩ u0).setCell ⟨y, 1, none⟩ u1).setCell ⟨y, 2, none⟩ u2).setCell ⟨y, 3, none⟩ u3).setCell ⟨y, 4, none⟩ u4).setCell ⟨y, 5, none⟩ u5).setCell ⟨y, 6, none⟩ u6).setCell ⟨y, 7, none⟩ u7).setCell ⟨y, 8, none⟩ u8).setCell ⟨y, 9, none⟩ u9).setCell ⟨y, 10, none⟩ u10) y #[u0, u1, u2, u3, u4, u5, u6, u7, u8, u9, u10] := by
  have k := ((((((((((h.set 0 u0).set 1 u1).set 2 u2).set 3 u3).set 4 u4).set 5 u5).set 6 u6).set 7 u7).set 8 u8).set 9 u9).set 10 u10
  rw [set11] at k
  exact k
theorem put_other (w : World) (y : Nat) (u0 u1 u2 u3 u4 u5 u6 u7 u8 u9 u10 : Value) (g : Nat) (hg : g ≠ y) : (((((((((((w.setCell ⟨y, 0, none⟩ u0).setCell ⟨y, 1, none⟩ u1).setCell ⟨y, 2, none⟩ u2).setCell ⟨y, 3, none⟩ u3).setCell ⟨y, 4, none⟩ u4).setCell ⟨y, 5, none⟩ u5).setCell ⟨y, 6, none⟩ u6).setCell ⟨y, 7, none⟩ u7).setCell ⟨y, 8, none⟩ u8).setCell ⟨y, 9, none⟩ u9).setCell ⟨y, 10, none⟩ u10).heap[g]? = w.heap[g]? :=
  (heap_setCell_other _ ⟨y, 10, none⟩ g u10 hg).trans ((heap_setCell_other _ ⟨y, 9, none⟩ g u9 hg).trans ((heap_setCell_other _ ⟨y, 8, none⟩ g u8 hg).trans ((heap_setCell_other _ ⟨y, 7, none⟩ g u7 hg).trans ((heap_setCell_other _ ⟨y, 6, none⟩ g u6 hg).trans ((heap_setCell_other _ ⟨y, 5, none⟩ g u5 hg).trans ((heap_setCell_other _ ⟨y, 4, none⟩ g u4 hg).trans ((heap_setCell_other _ ⟨y, 3, none⟩ g u3 hg).trans ((heap_setCell_other _ ⟨y, 2, none⟩ g u2 hg).trans ((heap_setCell_other _ ⟨y, 1, none⟩ g u1 hg).trans (heap_setCell_other _ ⟨y, 0, none⟩ g u0 hg))))))))))
theorem below_put {w w' : World} {B y : Nat} (b : Below B w w') (hy : B ≤ y) (u0 u1 u2 u3 u4 u5 u6 u7 u8 u9 u10 : Value) :
    Below B w (((((((((((w'.setCell ⟨y, 0, none⟩ u0).setCell ⟨y, 1, none⟩ u1).setCell ⟨y, 2, none⟩ u2).setCell ⟨y, 3, none⟩ u3).setCell ⟨y, 4, none⟩ u4).setCell ⟨y, 5, none⟩ u5).setCell ⟨y, 6, none⟩ u6).setCell ⟨y, 7, none⟩ u7).setCell ⟨y, 8, none⟩ u8).setCell ⟨y, 9, none⟩ u9).setCell ⟨y, 10, none⟩ u10) :=
  ((((((((((b.setCell hy _).setCell hy _).setCell hy _).setCell hy _).setCell hy _).setCell hy _).setCell hy _).setCell hy _).setCell hy _).setCell hy _).setCell hy _
theorem load27 {w : World} {y : Nat} {c0 c1 c2 c3 c4 c5 c6 c7 c8 c9 c10 : Value} (h : Bx w y #[c0, c1, c2, c3, c4, c5, c6, c7, c8, c9, c10]) : (loadVar 27 ⟨y, 0, none⟩).run Try.prog w = .ok (.agg #[c0, c1, c2, c3, c4, c5, c6, c7, c8, c9, c10]) w := by
  have a27 := Try.isAgg27
  have z27 := Try.sizeOf27
  have x0 : w.cell? ⟨y, 0, none⟩ = some c0 := h.cell 0
  have x1 : w.cell? ⟨y, 1, none⟩ = some c1 := h.cell 1
  have x2 : w.cell? ⟨y, 2, none⟩ = some c2 := h.cell 2
  have x3 : w.cell? ⟨y, 3, none⟩ = some c3 := h.cell 3
  have x4 : w.cell? ⟨y, 4, none⟩ = some c4 := h.cell 4
  have x5 : w.cell? ⟨y, 5, none⟩ = some c5 := h.cell 5
  have x6 : w.cell? ⟨y, 6, none⟩ = some c6 := h.cell 6
  have x7 : w.cell? ⟨y, 7, none⟩ = some c7 := h.cell 7
  have x8 : w.cell? ⟨y, 8, none⟩ = some c8 := h.cell 8
  have x9 : w.cell? ⟨y, 9, none⟩ = some c9 := h.cell 9
  have x10 : w.cell? ⟨y, 10, none⟩ = some c10 := h.cell 10
  go_simp
theorem results27b {fn : Func} {p q : Tmp} (hf : fn.results = #[.cell p 27, .tmp q]) {tmps : Array Value} {w : World} {y : Nat} {c0 c1 c2 c3 c4 c5 c6 c7 c8 c9 c10 b : Value} (hp : tmps.getD p undef = .pointer (some ⟨y, 0, none⟩)) (hq : tmps.getD q undef = b) (h : Bx w y #[c0, c1, c2, c3, c4, c5, c6, c7, c8, c9, c10]) : (results fn tmps).run Try.prog w = .ok (.tuple #[.agg #[c0, c1, c2, c3, c4, c5, c6, c7, c8, c9, c10], b]) w := by
  have hp' : tmps[p]?.getD undef = .pointer (some ⟨y, 0, none⟩) := by simpa using hp
  have hq' : tmps[q]?.getD undef = b := by simpa using hq
  simp [results, hf, hp', hq', asAddr, load27 h]
mutual
/-- The first of a number, in a tree. -/
def fT : Tr → Int → Option Tr
  | .mk d ks, i => if d.id = i then some (.mk d ks) else fL ks i
def fL : List Tr → Int → Option Tr
  | [], _ => none
  | t :: ts, i => match fT t i with
    | some u => some u
    | none => fL ts i
end
theorem fL_drop {ks : List Tr} {j : Nat} {u : Tr} (i : Int) (h : ks[j]? = some u) : fL (ks.drop j) i = match fT u i with
    | some x => some x
    | none => fL (ks.drop (j + 1)) i := by
  have e : ks.drop j = u :: ks.drop (j + 1) := by
    rw [← List.getElem_cons_drop (h := (List.getElem?_eq_some_iff.1 h).1)]
    rw [(List.getElem?_eq_some_iff.1 h).2]
  rw [e, fL]
theorem TrV.form {w : World} {t : Tr} {av kv : Value} (h : TrV w t av kv) : ∃ a1 a2 a3 a4, av = .slice a1 t.d.al.length a2 ∧ kv = .slice a3 t.k.length a4 := by
  cases h with
  | mk _ _ _ _ => exact ⟨_, _, _, _, rfl, rfl⟩
/-- What Find answers: the node's own values, as they lie there. -/
def FindIs (w : World) (o : Option Tr) (e : Ending) : Prop := match o with
  | some x => ∃ av kv, TrV w x av kv ∧ e = .returned (.tuple #[.agg #[iv x.d.id, iv x.d.kind, iv x.d.space, .string x.d.name, .string x.d.text, av, iv x.d.sf, iv x.d.st, iv x.d.ef, iv x.d.et, kv], .bool true])
  | none => e = .returned (.tuple #[.agg #[iv 0, iv 0, iv 0, .string { data := #[] }, .string { data := #[] }, .slice none 0 0, iv 0, iv 0, iv 0, iv 0, .slice none 0 0], .bool false])
set_option maxHeartbeats 2000000 in
theorem rfind_one {v w : World} (d : Nd) (ks : List Tr) {ao kp : Option Addr} (an ac kn kc : Nat) (i : Int) (hself : TrV v (.mk d ks) (.slice ao an ac) (.slice kp kn kc)) (hkn : ks.length = kn) (hl : kn ≤ 140737488351232)
    (hk : ∀ (j : Nat) u, ks[j]? = some u → KidAt w kp j u fun w' a => Calls Try.prog 21 #[.agg a, iv i] w' fun e w'' => FindIs v (fT u i) e ∧ Below w'.heap.size w' w'') :
    Calls Try.prog 21 #[.agg #[iv d.id, iv d.kind, iv d.space, .string d.name, .string d.text, .slice ao an ac, iv d.sf, iv d.st, iv d.ef, iv d.et, .slice kp kn kc], iv i] w fun e w' => FindIs v (fT (.mk d ks) i) e ∧ Below w.heap.size w w' := by
  have b0 : Below w.heap.size w ((w.alloc (.cells #[iv d.id, iv d.kind, iv d.space, .string d.name, .string d.text, .slice ao an ac, iv d.sf, iv d.st, iv d.ef, iv d.et, .slice kp kn kc] 27)).alloc (.cells #[iv 0, iv 0, iv 0, .string { data := #[] }, .string { data := #[] }, .slice none 0 0, iv 0, iv 0, iv 0, iv 0, .slice none 0 0] 27)) := ((Below.refl _ _).alloc (Nat.le_refl _) _).alloc (by simp) _
  have m0 := heap_alloc_new (w.alloc (.cells #[iv d.id, iv d.kind, iv d.space, .string d.name, .string d.text, .slice ao an ac, iv d.sf, iv d.st, iv d.ef, iv d.et, .slice kp kn kc] 27)) (.cells #[iv 0, iv 0, iv 0, .string { data := #[] }, .string { data := #[] }, .slice none 0 0, iv 0, iv 0, iv 0, iv 0, .slice none 0 0] 27)
  have n0 : (((w.alloc (.cells #[iv d.id, iv d.kind, iv d.space, .string d.name, .string d.text, .slice ao an ac, iv d.sf, iv d.st, iv d.ef, iv d.et, .slice kp kn kc] 27)).alloc (.cells #[iv 0, iv 0, iv 0, .string { data := #[] }, .string { data := #[] }, .slice none 0 0, iv 0, iv 0, iv 0, iv 0, .slice none 0 0] 27))).heap[w.heap.size]? = some (.cells #[iv d.id, iv d.kind, iv d.space, .string d.name, .string d.text, .slice ao an ac, iv d.sf, iv d.st, iv d.ef, iv d.et, .slice kp kn kc] 27 (0, 0)) := by
    rw [heap_alloc_old _ _ (by simp)]; exact heap_alloc_new w _
  have hsz : ((w.alloc (.cells #[iv d.id, iv d.kind, iv d.space, .string d.name, .string d.text, .slice ao an ac, iv d.sf, iv d.st, iv d.ef, iv d.et, .slice kp kn kc] 27))).heap.size = w.heap.size + 1 := by simp
  rw [hsz] at m0
  obtain ⟨w0, hw0⟩ : ∃ w0, ((w.alloc (.cells #[iv d.id, iv d.kind, iv d.space, .string d.name, .string d.text, .slice ao an ac, iv d.sf, iv d.st, iv d.ef, iv d.et, .slice kp kn kc] 27)).alloc (.cells #[iv 0, iv 0, iv 0, .string { data := #[] }, .string { data := #[] }, .slice none 0 0, iv 0, iv 0, iv 0, iv 0, .slice none 0 0] 27)) = w0 := ⟨_, rfl⟩
  have HW0 : Hid (((w.alloc (.cells #[iv d.id, iv d.kind, iv d.space, .string d.name, .string d.text, .slice ao an ac, iv d.sf, iv d.st, iv d.ef, iv d.et, .slice kp kn kc] 27)).alloc (.cells #[iv 0, iv 0, iv 0, .string { data := #[] }, .string { data := #[] }, .slice none 0 0, iv 0, iv 0, iv 0, iv 0, .slice none 0 0] 27)) = w0) := hw0
  rw [hw0] at b0 n0 m0
  clear hw0
  have HK : Hid ((∀ (j : Nat) u, ks[j]? = some u → KidAt w kp j u fun w' a => Calls Try.prog 21 #[.agg a, iv i] w' fun e w'' => FindIs v (fT u i) e ∧ Below w'.heap.size w' w'') ∧ ks.length = kn ∧ TrV v (.mk d ks) (.slice ao an ac) (.slice kp kn kc)) := ⟨hk, hkn, hself⟩
  have HB : Hid (Below w.heap.size w w0 ∧ w.heap.size < w0.heap.size ∧ w.heap.size + 1 < w0.heap.size ∧ Bx w0 (w.heap.size + 1) #[iv 0, iv 0, iv 0, .string { data := #[] }, .string { data := #[] }, .slice none 0 0, iv 0, iv 0, iv 0, iv 0, .slice none 0 0]) := ⟨b0, (Array.getElem?_eq_some_iff.1 n0).1, (Array.getElem?_eq_some_iff.1 m0).1, m0⟩
  have p0 : w0.cell? ⟨w.heap.size, 0, none⟩ = some (iv d.id) := by simp [World.cell?, n0]
  have p1 : w0.cell? ⟨w.heap.size, 1, none⟩ = some (iv d.kind) := by simp [World.cell?, n0]
  have p2 : w0.cell? ⟨w.heap.size, 2, none⟩ = some (iv d.space) := by simp [World.cell?, n0]
  have p3 : w0.cell? ⟨w.heap.size, 3, none⟩ = some (.string d.name) := by simp [World.cell?, n0]
  have p4 : w0.cell? ⟨w.heap.size, 4, none⟩ = some (.string d.text) := by simp [World.cell?, n0]
  have p5 : w0.cell? ⟨w.heap.size, 5, none⟩ = some (.slice ao an ac) := by simp [World.cell?, n0]
  have p6 : w0.cell? ⟨w.heap.size, 6, none⟩ = some (iv d.sf) := by simp [World.cell?, n0]
  have p7 : w0.cell? ⟨w.heap.size, 7, none⟩ = some (iv d.st) := by simp [World.cell?, n0]
  have p8 : w0.cell? ⟨w.heap.size, 8, none⟩ = some (iv d.ef) := by simp [World.cell?, n0]
  have p9 : w0.cell? ⟨w.heap.size, 9, none⟩ = some (iv d.et) := by simp [World.cell?, n0]
  have p10 : w0.cell? ⟨w.heap.size, 10, none⟩ = some (.slice kp kn kc) := by simp [World.cell?, n0]

  clear b0 n0 hk hkn hself hsz
  go_enter Try.func21, Try.ntmps21
  go_upto_region 1 with fail
  rw [HW0.out]
  clear HW0
  have z0 : w0.cell? ⟨w.heap.size + 1, 0, none⟩ = some (iv 0) := HB.out.2.2.2.cell 0
  have z1 : w0.cell? ⟨w.heap.size + 1, 1, none⟩ = some (iv 0) := HB.out.2.2.2.cell 1
  have z2 : w0.cell? ⟨w.heap.size + 1, 2, none⟩ = some (iv 0) := HB.out.2.2.2.cell 2
  have z3 : w0.cell? ⟨w.heap.size + 1, 3, none⟩ = some (.string { data := #[] }) := HB.out.2.2.2.cell 3
  have z4 : w0.cell? ⟨w.heap.size + 1, 4, none⟩ = some (.string { data := #[] }) := HB.out.2.2.2.cell 4
  have z5 : w0.cell? ⟨w.heap.size + 1, 5, none⟩ = some (.slice none 0 0) := HB.out.2.2.2.cell 5
  have z6 : w0.cell? ⟨w.heap.size + 1, 6, none⟩ = some (iv 0) := HB.out.2.2.2.cell 6
  have z7 : w0.cell? ⟨w.heap.size + 1, 7, none⟩ = some (iv 0) := HB.out.2.2.2.cell 7
  have z8 : w0.cell? ⟨w.heap.size + 1, 8, none⟩ = some (iv 0) := HB.out.2.2.2.cell 8
  have z9 : w0.cell? ⟨w.heap.size + 1, 9, none⟩ = some (iv 0) := HB.out.2.2.2.cell 9
  have z10 : w0.cell? ⟨w.heap.size + 1, 10, none⟩ = some (.slice none 0 0) := HB.out.2.2.2.cell 10
  have f0 : w0.frozen? ⟨w.heap.size + 1, 0, none⟩ = false := HB.out.2.2.2.frozen 0
  have f1 : w0.frozen? ⟨w.heap.size + 1, 1, none⟩ = false := HB.out.2.2.2.frozen 1
  have f2 : w0.frozen? ⟨w.heap.size + 1, 2, none⟩ = false := HB.out.2.2.2.frozen 2
  have f3 : w0.frozen? ⟨w.heap.size + 1, 3, none⟩ = false := HB.out.2.2.2.frozen 3
  have f4 : w0.frozen? ⟨w.heap.size + 1, 4, none⟩ = false := HB.out.2.2.2.frozen 4
  have f5 : w0.frozen? ⟨w.heap.size + 1, 5, none⟩ = false := HB.out.2.2.2.frozen 5
  have f6 : w0.frozen? ⟨w.heap.size + 1, 6, none⟩ = false := HB.out.2.2.2.frozen 6
  have f7 : w0.frozen? ⟨w.heap.size + 1, 7, none⟩ = false := HB.out.2.2.2.frozen 7
  have f8 : w0.frozen? ⟨w.heap.size + 1, 8, none⟩ = false := HB.out.2.2.2.frozen 8
  have f9 : w0.frozen? ⟨w.heap.size + 1, 9, none⟩ = false := HB.out.2.2.2.frozen 9
  have f10 : w0.frozen? ⟨w.heap.size + 1, 10, none⟩ = false := HB.out.2.2.2.frozen 10
  clear m0
  by_cases hid : d.id = i
  · have g1 : (d.id == i) = true := by simp [hid]
    have HE : Hid (fT (.mk d ks) i = some (.mk d ks)) := by
      show fT (.mk d ks) i = _
      rw [fT, if_pos hid]
    clear hid
    go_wp2_with fail
    refine bodyPost_ret (results27b Try.results21 rfl rfl (HB.out.2.2.2.put _ _ _ _ _ _ _ _ _ _ _)) rfl ?_
    have bq := below_put HB.out.1 (show w.heap.size ≤ w.heap.size + 1 by omega) (iv d.id) (iv d.kind) (iv d.space) (.string d.name) (.string d.text) (.slice ao an ac) (iv d.sf) (iv d.st) (iv d.ef) (iv d.et) (.slice kp kn kc)
    refine ⟨?_, bq⟩
    rw [HE.out]
    exact ⟨_, _, HK.out.2.2, rfl⟩
  · have g1 : (d.id == i) = false := by simp [hid]
    have HE : Hid (fT (.mk d ks) i = fL ks i) := by
      show fT (.mk d ks) i = _
      rw [fT, if_neg hid]
    clear hid
    go_wp2_with fail
    go_loopg [6] kn (fun g2 jv wr => ∃ (j : Nat), jv = .int .i64 j ∧ j + g2 = kn ∧ Hid (Below w0.heap.size w0 wr ∧ fT (.mk d ks) i = fL (ks.drop j) i))
    case atStart => exact ⟨0, rfl, by omega, Below.refl _ _, HE.out⟩
    case round =>
      obtain ⟨j, rfl, hjg, HI⟩ := hrel
      have c10 : wr.cell? ⟨w.heap.size, 10, none⟩ = some (.slice kp kn kc) := cell_below HI.out.1 p10
      have m1 : Bx wr (w.heap.size + 1) #[iv 0, iv 0, iv 0, .string { data := #[] }, .string { data := #[] }, .slice none 0 0, iv 0, iv 0, iv 0, iv 0, .slice none 0 0] := HB.out.2.2.2.old HI.out.1
      cases gk with
      | zero =>
        obtain rfl : j = kn := by omega
        have hg0 : decide ((j : Int) < (j : Int)) = false := decide_eq_false (by omega)
        have y0 : wr.cell? ⟨w.heap.size + 1, 0, none⟩ = some (iv 0) := m1.cell 0
        have y1 : wr.cell? ⟨w.heap.size + 1, 1, none⟩ = some (iv 0) := m1.cell 1
        have y2 : wr.cell? ⟨w.heap.size + 1, 2, none⟩ = some (iv 0) := m1.cell 2
        have y3 : wr.cell? ⟨w.heap.size + 1, 3, none⟩ = some (.string { data := #[] }) := m1.cell 3
        have y4 : wr.cell? ⟨w.heap.size + 1, 4, none⟩ = some (.string { data := #[] }) := m1.cell 4
        have y5 : wr.cell? ⟨w.heap.size + 1, 5, none⟩ = some (.slice none 0 0) := m1.cell 5
        have y6 : wr.cell? ⟨w.heap.size + 1, 6, none⟩ = some (iv 0) := m1.cell 6
        have y7 : wr.cell? ⟨w.heap.size + 1, 7, none⟩ = some (iv 0) := m1.cell 7
        have y8 : wr.cell? ⟨w.heap.size + 1, 8, none⟩ = some (iv 0) := m1.cell 8
        have y9 : wr.cell? ⟨w.heap.size + 1, 9, none⟩ = some (iv 0) := m1.cell 9
        have y10 : wr.cell? ⟨w.heap.size + 1, 10, none⟩ = some (.slice none 0 0) := m1.cell 10
        have h0 : wr.frozen? ⟨w.heap.size + 1, 0, none⟩ = false := m1.frozen 0
        have h1 : wr.frozen? ⟨w.heap.size + 1, 1, none⟩ = false := m1.frozen 1
        have h2 : wr.frozen? ⟨w.heap.size + 1, 2, none⟩ = false := m1.frozen 2
        have h3 : wr.frozen? ⟨w.heap.size + 1, 3, none⟩ = false := m1.frozen 3
        have h4 : wr.frozen? ⟨w.heap.size + 1, 4, none⟩ = false := m1.frozen 4
        have h5 : wr.frozen? ⟨w.heap.size + 1, 5, none⟩ = false := m1.frozen 5
        have h6 : wr.frozen? ⟨w.heap.size + 1, 6, none⟩ = false := m1.frozen 6
        have h7 : wr.frozen? ⟨w.heap.size + 1, 7, none⟩ = false := m1.frozen 7
        have h8 : wr.frozen? ⟨w.heap.size + 1, 8, none⟩ = false := m1.frozen 8
        have h9 : wr.frozen? ⟨w.heap.size + 1, 9, none⟩ = false := m1.frozen 9
        have h10 : wr.frozen? ⟨w.heap.size + 1, 10, none⟩ = false := m1.frozen 10
        have HM : Hid (Bx wr (w.heap.size + 1) #[iv 0, iv 0, iv 0, .string { data := #[] }, .string { data := #[] }, .slice none 0 0, iv 0, iv 0, iv 0, iv 0, .slice none 0 0]) := m1
        clear m1 z0 f0 p0 z1 f1 p1 z2 f2 p2 z3 f3 p3 z4 f4 p4 z5 f5 p5 z6 f6 p6 z7 f7 p7 z8 f8 p8 z9 f9 p9 z10 f10 p10
        go_wp2_with fail
        refine bodyPost_ret (results27b Try.results21 rfl rfl (HM.out.put _ _ _ _ _ _ _ _ _ _ _)) rfl ?_
        refine ⟨?_, below_put (HB.out.1.trans (HI.out.1.mono HB.out.1.size)) (by omega) _ _ _ _ _ _ _ _ _ _ _⟩
        rw [HI.out.2, List.drop_eq_nil_of_le (by rw [HK.out.2.1]; omega), fL]
        rfl
      | succ k =>
        have hjk : j < kn := by omega
        have g2 : decide ((j : Int) < (kn : Int)) = true := decide_eq_true (by omega)
        obtain ⟨u, hu⟩ : ∃ u, ks[j]? = some u := ⟨_, List.getElem?_eq_getElem (by rw [HK.out.2.1]; exact hjk)⟩
        obtain ⟨kb, ko, av, kv, rfl, hkb, hc, hcall⟩ := HK.out.1 j u hu
        have bw : Below w.heap.size w wr := HB.out.1.trans (HI.out.1.mono HB.out.1.size)
        have hc' : CellsAt wr kb (ko + j * 11) (u.d.cs av kv) := hc.mv (bw.block kb hkb)
        have k0 : wr.cell? ⟨kb, ko + j * 11, none⟩ = some (iv u.d.id) := hc' 0 _ rfl
        have k1 : wr.cell? ⟨kb, ko + j * 11 + 1, none⟩ = some (iv u.d.kind) := hc' 1 _ rfl
        have k2 : wr.cell? ⟨kb, ko + j * 11 + 2, none⟩ = some (iv u.d.space) := hc' 2 _ rfl
        have k3 : wr.cell? ⟨kb, ko + j * 11 + 3, none⟩ = some (.string u.d.name) := hc' 3 _ rfl
        have k4 : wr.cell? ⟨kb, ko + j * 11 + 4, none⟩ = some (.string u.d.text) := hc' 4 _ rfl
        have k5 : wr.cell? ⟨kb, ko + j * 11 + 5, none⟩ = some (av) := hc' 5 _ rfl
        have k6 : wr.cell? ⟨kb, ko + j * 11 + 6, none⟩ = some (iv u.d.sf) := hc' 6 _ rfl
        have k7 : wr.cell? ⟨kb, ko + j * 11 + 7, none⟩ = some (iv u.d.st) := hc' 7 _ rfl
        have k8 : wr.cell? ⟨kb, ko + j * 11 + 8, none⟩ = some (iv u.d.ef) := hc' 8 _ rfl
        have k9 : wr.cell? ⟨kb, ko + j * 11 + 9, none⟩ = some (iv u.d.et) := hc' 9 _ rfl
        have k10 : wr.cell? ⟨kb, ko + j * 11 + 10, none⟩ = some (kv) := hc' 10 _ rfl
        have kd := hcall wr bw
        have hf := fL_drop i hu
        have HM : Hid (Bx wr (w.heap.size + 1) #[iv 0, iv 0, iv 0, .string { data := #[] }, .string { data := #[] }, .slice none 0 0, iv 0, iv 0, iv 0, iv 0, .slice none 0 0]) := m1
        clear hc hc' hcall hu m1 z0 f0 p0 z1 f1 p1 z2 f2 p2 z3 f3 p3 z4 f4 p4 z5 f5 p5 z6 f6 p6 z7 f7 p7 z8 f8 p8 z9 f9 p9 z10 f10 p10
        obtain ⟨o, ho⟩ : ∃ o, fT u i = o := ⟨_, rfl⟩
        rw [ho] at hf kd
        clear ho
        cases o with
        | none =>
          have HN : Hid (fT (.mk d ks) i = fL (ks.drop (j + 1)) i ∧ Below w.heap.size w wr) := ⟨HI.out.2.trans hf, bw⟩
          clear hf bw
          go_wp2_with fail
          refine kd.mono ?_
          rintro e w2 ⟨he, b2⟩
          obtain rfl : e = .returned (.tuple #[.agg #[iv 0, iv 0, iv 0, .string { data := #[] }, .string { data := #[] }, .slice none 0 0, iv 0, iv 0, iv 0, iv 0, .slice none 0 0], .bool false]) := he
          have hle := Nat.le_trans HI.out.1.size b2.size
          have HB2 : Hid (Below w0.heap.size w0 (w2.alloc (.cells #[iv 0, iv 0, iv 0, .string { data := #[] }, .string { data := #[] }, .slice none 0 0, iv 0, iv 0, iv 0, iv 0, .slice none 0 0] 27)) ∧ w0.heap.size ≤ w2.heap.size) := ⟨(HI.out.1.trans (b2.mono HI.out.1.size)).trans ((Below.refl _ _).alloc hle _), hle⟩
          clear b2 kd hle
          go_wp2_with fail
          go_roundg k
          case measure => omega
          case rel => exact ⟨j + 1, by go_num, by omega, HB2.out.1, HN.out.1⟩
        | some x =>
          have HN : Hid (fT (.mk d ks) i = some x ∧ Below w.heap.size w wr) := ⟨HI.out.2.trans hf, bw⟩
          clear hf bw
          go_wp2_with fail
          refine kd.mono ?_
          rintro e w2 ⟨⟨av', kv', ht, rfl⟩, b2⟩
          obtain ⟨a1, a2, a3, a4, rfl, rfl⟩ := ht.form
          have n3 : Bx (w2.alloc (.cells #[iv x.d.id, iv x.d.kind, iv x.d.space, .string x.d.name, .string x.d.text, .slice a1 x.d.al.length a2, iv x.d.sf, iv x.d.st, iv x.d.ef, iv x.d.et, .slice a3 x.k.length a4] 27)) w2.heap.size #[iv x.d.id, iv x.d.kind, iv x.d.space, .string x.d.name, .string x.d.text, .slice a1 x.d.al.length a2, iv x.d.sf, iv x.d.st, iv x.d.ef, iv x.d.et, .slice a3 x.k.length a4] := heap_alloc_new w2 _
          have m3 : Bx (w2.alloc (.cells #[iv x.d.id, iv x.d.kind, iv x.d.space, .string x.d.name, .string x.d.text, .slice a1 x.d.al.length a2, iv x.d.sf, iv x.d.st, iv x.d.ef, iv x.d.et, .slice a3 x.k.length a4] 27)) (w.heap.size + 1) #[iv 0, iv 0, iv 0, .string { data := #[] }, .string { data := #[] }, .slice none 0 0, iv 0, iv 0, iv 0, iv 0, .slice none 0 0] := (HM.out.old b2).old ((Below.refl _ _).alloc (Nat.le_refl _) _)
          have HB2 : Hid (Below w.heap.size w (w2.alloc (.cells #[iv x.d.id, iv x.d.kind, iv x.d.space, .string x.d.name, .string x.d.text, .slice a1 x.d.al.length a2, iv x.d.sf, iv x.d.st, iv x.d.ef, iv x.d.et, .slice a3 x.k.length a4] 27)) ∧ TrV v x (.slice a1 x.d.al.length a2) (.slice a3 x.k.length a4) ∧ w.heap.size + 1 < w2.heap.size) := ⟨(HN.out.2.trans (b2.mono HN.out.2.size)).trans ((Below.refl _ _).alloc (Nat.le_trans HN.out.2.size b2.size) _), ht, Nat.lt_of_lt_of_le HB.out.2.2.1 (Nat.le_trans HI.out.1.size b2.size)⟩
          clear b2 kd ht
          go_upto_region 7 with fail
          generalize hW3 : w2.alloc (.cells #[iv x.d.id, iv x.d.kind, iv x.d.space, .string x.d.name, .string x.d.text, .slice a1 x.d.al.length a2, iv x.d.sf, iv x.d.st, iv x.d.ef, iv x.d.et, .slice a3 x.k.length a4] 27) = W3 at *
          have x0 : W3.cell? ⟨w2.heap.size, 0, none⟩ = some (iv x.d.id) := n3.cell 0
          have x1 : W3.cell? ⟨w2.heap.size, 1, none⟩ = some (iv x.d.kind) := n3.cell 1
          have x2 : W3.cell? ⟨w2.heap.size, 2, none⟩ = some (iv x.d.space) := n3.cell 2
          have x3 : W3.cell? ⟨w2.heap.size, 3, none⟩ = some (.string x.d.name) := n3.cell 3
          have x4 : W3.cell? ⟨w2.heap.size, 4, none⟩ = some (.string x.d.text) := n3.cell 4
          have x5 : W3.cell? ⟨w2.heap.size, 5, none⟩ = some (.slice a1 x.d.al.length a2) := n3.cell 5
          have x6 : W3.cell? ⟨w2.heap.size, 6, none⟩ = some (iv x.d.sf) := n3.cell 6
          have x7 : W3.cell? ⟨w2.heap.size, 7, none⟩ = some (iv x.d.st) := n3.cell 7
          have x8 : W3.cell? ⟨w2.heap.size, 8, none⟩ = some (iv x.d.ef) := n3.cell 8
          have x9 : W3.cell? ⟨w2.heap.size, 9, none⟩ = some (iv x.d.et) := n3.cell 9
          have x10 : W3.cell? ⟨w2.heap.size, 10, none⟩ = some (.slice a3 x.k.length a4) := n3.cell 10
          have y0 : W3.cell? ⟨w.heap.size + 1, 0, none⟩ = some (iv 0) := m3.cell 0
          have y1 : W3.cell? ⟨w.heap.size + 1, 1, none⟩ = some (iv 0) := m3.cell 1
          have y2 : W3.cell? ⟨w.heap.size + 1, 2, none⟩ = some (iv 0) := m3.cell 2
          have y3 : W3.cell? ⟨w.heap.size + 1, 3, none⟩ = some (.string { data := #[] }) := m3.cell 3
          have y4 : W3.cell? ⟨w.heap.size + 1, 4, none⟩ = some (.string { data := #[] }) := m3.cell 4
          have y5 : W3.cell? ⟨w.heap.size + 1, 5, none⟩ = some (.slice none 0 0) := m3.cell 5
          have y6 : W3.cell? ⟨w.heap.size + 1, 6, none⟩ = some (iv 0) := m3.cell 6
          have y7 : W3.cell? ⟨w.heap.size + 1, 7, none⟩ = some (iv 0) := m3.cell 7
          have y8 : W3.cell? ⟨w.heap.size + 1, 8, none⟩ = some (iv 0) := m3.cell 8
          have y9 : W3.cell? ⟨w.heap.size + 1, 9, none⟩ = some (iv 0) := m3.cell 9
          have y10 : W3.cell? ⟨w.heap.size + 1, 10, none⟩ = some (.slice none 0 0) := m3.cell 10
          have h0 : W3.frozen? ⟨w.heap.size + 1, 0, none⟩ = false := m3.frozen 0
          have h1 : W3.frozen? ⟨w.heap.size + 1, 1, none⟩ = false := m3.frozen 1
          have h2 : W3.frozen? ⟨w.heap.size + 1, 2, none⟩ = false := m3.frozen 2
          have h3 : W3.frozen? ⟨w.heap.size + 1, 3, none⟩ = false := m3.frozen 3
          have h4 : W3.frozen? ⟨w.heap.size + 1, 4, none⟩ = false := m3.frozen 4
          have h5 : W3.frozen? ⟨w.heap.size + 1, 5, none⟩ = false := m3.frozen 5
          have h6 : W3.frozen? ⟨w.heap.size + 1, 6, none⟩ = false := m3.frozen 6
          have h7 : W3.frozen? ⟨w.heap.size + 1, 7, none⟩ = false := m3.frozen 7
          have h8 : W3.frozen? ⟨w.heap.size + 1, 8, none⟩ = false := m3.frozen 8
          have h9 : W3.frozen? ⟨w.heap.size + 1, 9, none⟩ = false := m3.frozen 9
          have h10 : W3.frozen? ⟨w.heap.size + 1, 10, none⟩ = false := m3.frozen 10
          have HM3 : Hid (Bx W3 (w.heap.size + 1) #[iv 0, iv 0, iv 0, .string { data := #[] }, .string { data := #[] }, .slice none 0 0, iv 0, iv 0, iv 0, iv 0, .slice none 0 0]) := m3
          clear n3 m3
          go_wp2_with fail
          refine bodyPost_ret (results27b Try.results21 rfl rfl (HM3.out.put _ _ _ _ _ _ _ _ _ _ _)) rfl ?_
          have bq := below_put HB2.out.1 (show w.heap.size ≤ w.heap.size + 1 by omega) (iv x.d.id) (iv x.d.kind) (iv x.d.space) (.string x.d.name) (.string x.d.text) (.slice a1 x.d.al.length a2) (iv x.d.sf) (iv x.d.st) (iv x.d.ef) (iv x.d.et) (.slice a3 x.k.length a4)
          refine ⟨?_, bq⟩
          rw [HN.out.1]
          exact ⟨_, _, HB2.out.2.1, rfl⟩
theorem rfind_any {w : World} {t : Tr} {av kv : Value} (h : TrV w t av kv) (i : Int) : ∀ (_ : Ok t) (w' : World), Below w.heap.size w w' →
    Calls Try.prog 21 #[.agg #[iv t.d.id, iv t.d.kind, iv t.d.space, .string t.d.name, .string t.d.text, av, iv t.d.sf, iv t.d.st, iv t.d.ef, iv t.d.et, kv], iv i] w' fun e w'' => FindIs w (fT t i) e ∧ Below w'.heap.size w' w'' := by
  induction h with
  | mk ha hp hc hk ih =>
    rename_i d ks ac kc kb ko ao kp avs kvs
    intro hok w' b
    have hself := TrV.mk (ac := ac) (kc := kc) ha hp hc hk
    cases hok with
    | mk o1 o2 o3 o4 =>
      refine rfind_one d ks _ ac _ kc i hself rfl o3 fun j u hu => ?_
      have hne : ks ≠ [] := fun e => by rw [e] at hu; simp at hu
      obtain ⟨q1, q2⟩ := hc j u hu
      refine ⟨kb, ko, avs j, kvs j, hp hne, Nat.lt_of_lt_of_le q1 b.size, q2.mv (b.block kb q1), fun w2 b2 => ?_⟩
      refine (ih j u hu (o4 u (List.mem_of_getElem? hu)) w2 (b.trans (b2.mono b.size)))
end Go.Proofs.Ytdpibnmbgjhohaa
