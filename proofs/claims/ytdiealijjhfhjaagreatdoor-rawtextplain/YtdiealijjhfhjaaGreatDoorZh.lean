/- Attributes and tokens in memory; the document's Equal, Same, List. -/
import Derived.Test.YtdiealijjhfhjaaGreatDoorProg
import Derived.WalkKit
import Derived.WalkSpells
import Derived.WalkLawsBesides
import Derived.Deep.RegionLaw
import Derived.Deep.RegionWith
import Derived.Deep.QuietTactic
import Derived.BigQuiet
import Derived.BigRegion
import Derived.WalkMore
import Derived.WalkArith
import Derived.Maps.AppendAt
import Derived.Laws.StructEq
import Derived.OwnWalk
import Derived.Deep.Upon
import Derived.Deep.LoopGhost
import Derived.Deep.DeepCutAuto
import Derived.Maps.OwnSet
import Derived.Below
import Derived.Deep.RegionHeld3
import Derived.Lib.RuneBytes
import Derived.Laws.EntriesVeiled
import Derived.Laws.BytesArg
import Derived.Shelf.Abstract
namespace Go.Proofs.YtdiealijjhfhjaaGreatDoor.G9
open Go.RowKit
abbrev Path := List UInt8
structure At where
  n : ByteArray
  v : ByteArray
theorem bytes_eq {a b : ByteArray} (h : a.data.toList = b.data.toList) : a = b := by
  obtain ⟨⟨x⟩⟩ := a
  obtain ⟨⟨y⟩⟩ := b
  have : x = y := h
  rw [this]
theorem beq_bytes (a b : ByteArray) : (a.toList == b.toList) = decide (a.data.toList = b.data.toList) := by
  rw [ByteArray.toList_eq, ByteArray.toList_eq]
  rw [Bool.eq_iff_iff]; simp
abbrev At.nm (x : At) : Path := x.n.data.toList
def At.cells (x : At) : List Value := [.string x.n, .string x.v]
def AtRow (w : World) (lo : Option Addr) (l : List At) : Prop :=
  ∀ i x, l[i]? = some x → ∃ b off, lo = some ⟨b, off, none⟩ ∧ b < w.heap.size ∧ w.cell? ⟨b, off + i * 2, none⟩ = some (.string x.n) ∧ w.cell? ⟨b, off + i * 2 + 1, none⟩ = some (.string x.v)
theorem AtRow.below {w w' : World} {lo : Option Addr} {l : List At} (h : AtRow w lo l) (b : Below w.heap.size w w') : AtRow w' lo l := fun i x hx => by
  obtain ⟨k, off, h1, h2, h3, h4⟩ := h i x hx
  exact ⟨k, off, h1, Nat.lt_of_lt_of_le h2 b.size, (b.cell (p := ⟨k, off + i * 2, none⟩) h2).trans h3, (b.cell (p := ⟨k, off + i * 2 + 1, none⟩) h2).trans h4⟩
theorem AtRow.nil (w : World) (lo : Option Addr) : AtRow w lo [] := fun i x hx => by simp at hx
abbrev RowIs (w : World) (B : Nat) (v : Value) (L : List At) : Prop := w.ownsRow B 108 2 v L.length (L.flatMap At.cells)
theorem below_drewN {B : Nat} {w w' : World} (h : Below B w w') (n : Nat) : Below B w (w'.drewN n) := ⟨h.os, h.tape, h.output, h.size, h.block⟩
theorem at_at (l : List At) (i : Nat) (x : At) (h : l[i]? = some x) : (l.flatMap At.cells)[i * 2]? = some (.string x.n) ∧ (l.flatMap At.cells)[i * 2 + 1]? = some (.string x.v) := by
  induction l generalizing i with
  | nil => simp at h
  | cons y l ih =>
    rw [List.flatMap_cons]
    cases i with
    | zero => simp at h; subst h; exact ⟨rfl, rfl⟩
    | succ i =>
      have := ih i (by simpa using h)
      rw [show (i + 1) * 2 = i * 2 + 1 + 1 by omega, show i * 2 + 1 + 1 + 1 = (i * 2 + 1) + 1 + 1 by omega]
      simp only [At.cells, List.cons_append, List.nil_append, List.getElem?_cons_succ]
      exact this
theorem row_at {w : World} {B : Nat} {v : Value} {L : List At} (h : RowIs w B v L) : ∃ ao cap, v = .slice ao L.length cap ∧ AtRow w ao L ∧ L.length ≤ cap ∧ cap ≤ maxLen := by
  rcases h.2 with ⟨rfl, h0⟩ | ⟨g, cap, cur, rfl, hB, hg, h1, h2, h3, h4⟩
  · have : L = [] := List.eq_nil_of_length_eq_zero h0
    subst this
    exact ⟨none, 0, rfl, AtRow.nil _ _, Nat.le_refl _, by unfold maxLen; omega⟩
  · refine ⟨_, cap, rfl, fun i x hx => ?_, h1, h2⟩
    have hil := (List.getElem?_eq_some_iff.1 hx).1
    obtain ⟨q1, q2⟩ := at_at L i x hx
    rw [← h4, List.getElem?_take_of_lt (by omega), Array.getElem?_toList] at q1 q2
    refine ⟨g, 0, rfl, (Array.getElem?_eq_some_iff.1 hg).1, ?_, ?_⟩
    · simp [World.cell?, hg, q1]
    · simp [World.cell?, hg, q2]
structure Tk where
  k : Int
  r : Int
  nm : ByteArray
  tx : ByteArray
  ao : Option Addr
  n : Nat
  cap : Nat
  s : Bool
  f : Int
  t : Int
abbrev Tk.arr (T : Tk) : Array Value := #[.int .i64 T.k, .int .i64 T.r, .string T.nm, .string T.tx, .slice T.ao T.n T.cap, .bool T.s, .int .i64 T.f, .int .i64 T.t]
abbrev Tk.val (T : Tk) : Value := .agg T.arr
theorem drop_at {α : Type} {L : List α} {i : Nat} {x : α} (h : L[i]? = some x) : L.drop i = x :: L.drop (i + 1) := by
  obtain ⟨h1, rfl⟩ := List.getElem?_eq_some_iff.1 h
  exact List.drop_eq_getElem_cons h1
structure TkOk (w : World) (T : Tk) (L : List At) : Prop where
  len : L.length = T.n
  row : AtRow w T.ao L
  small : T.n ≤ 9223372036854775807
theorem TkOk.below {w w' : World} {T : Tk} {L : List At} (h : TkOk w T L) (b : Below w.heap.size w w') : TkOk w' T L := ⟨h.len, h.row.below b, h.small⟩
def TkRow (w : World) (lo : Option Addr) (l : List (Tk × List At)) : Prop :=
  ∀ i x, l[i]? = some x → (∃ b off, lo = some ⟨b, off, none⟩ ∧ b < w.heap.size ∧ (∀ j u, x.1.arr[j]? = some u → w.cell? ⟨b, off + i * 8 + j, none⟩ = some u)) ∧ TkOk w x.1 x.2
theorem TkRow.below {w w' : World} {lo : Option Addr} {l : List (Tk × List At)} (h : TkRow w lo l) (b : Below w.heap.size w w') : TkRow w' lo l := fun i x hx => by
  obtain ⟨⟨k, off, h1, h2, h3⟩, ok⟩ := h i x hx
  exact ⟨⟨k, off, h1, Nat.lt_of_lt_of_le h2 b.size, fun j u hj => (b.cell (p := ⟨k, off + i * 8 + j, none⟩) h2).trans (h3 j u hj)⟩, ok.below b⟩
abbrev TL := Tk × List At
structure TkCells (w : World) (b o : Nat) (T : Tk) : Prop where
  c0 : w.cell? ⟨b, o, none⟩ = some (.int .i64 T.k)
  c1 : w.cell? ⟨b, o + 1, none⟩ = some (.int .i64 T.r)
  c2 : w.cell? ⟨b, o + 2, none⟩ = some (.string T.nm)
  c3 : w.cell? ⟨b, o + 3, none⟩ = some (.string T.tx)
  c4 : w.cell? ⟨b, o + 4, none⟩ = some (.slice T.ao T.n T.cap)
  c5 : w.cell? ⟨b, o + 5, none⟩ = some (.bool T.s)
  c6 : w.cell? ⟨b, o + 6, none⟩ = some (.int .i64 T.f)
  c7 : w.cell? ⟨b, o + 7, none⟩ = some (.int .i64 T.t)
theorem TkCells.of {w : World} {b o : Nat} {T : Tk} (h : ∀ j u, T.arr[j]? = some u → w.cell? ⟨b, o + j, none⟩ = some u) : TkCells w b o T :=
  ⟨h 0 _ rfl, h 1 _ rfl, h 2 _ rfl, h 3 _ rfl, h 4 _ rfl, h 5 _ rfl, h 6 _ rfl, h 7 _ rfl⟩
theorem TkRow.at {w : World} {lo : Option Addr} {l : List TL} (h : TkRow w lo l) {i : Nat} {x : TL} (hx : l[i]? = some x) : ∃ b off, lo = some ⟨b, off, none⟩ ∧ b < w.heap.size ∧ TkCells w b (off + i * 8) x.1 ∧ TkOk w x.1 x.2 := by
  obtain ⟨⟨b, off, h1, h2, h3⟩, ok⟩ := h i x hx
  exact ⟨b, off, h1, h2, TkCells.of h3, ok⟩
theorem TkRow.nil (w : World) (lo : Option Addr) : TkRow w lo [] := fun i x hx => by simp at hx
end Go.Proofs.YtdiealijjhfhjaaGreatDoor.G9
namespace Go.Proofs.YtdiealijjhfhjaaGreatDoor.G9
open Go.RowKit
theorem ret_i32 {a b : Int} (h : a = b) : Ending.returned (.int .i32 a) = .returned (.int .i32 b) := by rw [h]
def mayB (r : Int) : Bool := decide (0 ≤ r ∧ r ≤ 1114111 ∧ (r < 55296 ∨ 57343 < r))
def chr (r : Int) : Int := if mayB r = true then r else 65533
set_option maxRecDepth 20000 in
theorem may_iff (r : Int) : mayB r = true ↔ 0 ≤ r ∧ r ≤ 1114111 ∧ (r < 55296 ∨ 57343 < r) := by unfold mayB; exact decide_eq_true_iff
set_option maxHeartbeats 1000000 in
set_option maxRecDepth 20000 in
theorem char_any (r : Int) (w : World) : Calls Tryz.prog 122 #[.int .i64 r] w fun e w' => e = .returned (.int .i32 (chr r)) ∧ w' = w := by
  by_cases h : 0 ≤ r ∧ r ≤ 1114111 ∧ (r < 55296 ∨ 57343 < r)
  · have hc : Hid (chr r = r) := by show chr r = r; unfold chr; rw [if_pos ((may_iff r).2 h)]
    obtain ⟨h0, h1, h2⟩ := h
    rcases h2 with h2 | h2
    · go_enter Tryz.func122, Tryz.ntmps122
      go_wp2
      go_ret
      exact ⟨ret_i32 hc.out.symm, rfl⟩
    · go_enter Tryz.func122, Tryz.ntmps122
      go_wp2
      go_ret
      exact ⟨ret_i32 hc.out.symm, rfl⟩
  · have hc : Hid (chr r = 65533) := by show chr r = 65533; unfold chr; rw [if_neg (fun c => h ((may_iff r).1 c))]
    have h3 : r < 0 ∨ 1114111 < r ∨ (55296 ≤ r ∧ r ≤ 57343) := by omega
    clear h
    rcases h3 with h3 | h3 | ⟨h3, h4⟩
    all_goals
      go_enter Tryz.func122, Tryz.ntmps122
      go_wp2
      go_ret
      exact ⟨ret_i32 hc.out.symm, rfl⟩
end Go.Proofs.YtdiealijjhfhjaaGreatDoor.G9
namespace Go.Proofs.YtdiealijjhfhjaaGreatDoor.G9
open Go.RowKit
def getP (L : List At) (k : Path) : Option At := L.find? fun x => decide (x.nm = k)
def Fits (w0 : World) (g c : Nat) (p : At → Bool) (L : List At) : Prop :=
  ∀ W, Below w0.heap.size w0 W → ∀ nm vl : ByteArray, At.mk nm vl ∈ L → Calls Tryz.prog g #[.agg #[.string nm, .string vl], .pointer (some ⟨c, 0, none⟩)] W fun e w' => e = .returned (.bool (p ⟨nm, vl⟩)) ∧ Below W.heap.size W w'
def gv : Option At → ByteArray
  | some x => x.v
  | none => ⟨#[]⟩
def gn : Option At → ByteArray
  | some x => x.n
  | none => ⟨#[]⟩
set_option maxRecDepth 20000 in
theorem load49 {w : World} {R : Nat} {a b : ByteArray} (h1 : w.cell? ⟨R, 0, none⟩ = some (.string a)) (h2 : w.cell? ⟨R, 1, none⟩ = some (.string b)) : (loadVar 108 ⟨R, 0, none⟩).run Tryz.prog w = .ok (.agg #[.string a, .string b]) w := by
  have a24 := Tryz.isAgg108
  have z24 := Tryz.sizeOf108
  go_simp
set_option maxRecDepth 20000 in
theorem results_first {tmps : Array Value} {w : World} {R : Nat} {a b : ByteArray} {r : Bool} (hp : tmps.getD 4 undef = .pointer (some ⟨R, 0, none⟩)) (hr : tmps.getD 5 undef = .bool r)
    (h1 : w.cell? ⟨R, 0, none⟩ = some (.string a)) (h2 : w.cell? ⟨R, 1, none⟩ = some (.string b)) : (results Tryz.f227 tmps).run Tryz.prog w = .ok (.tuple #[.agg #[.string a, .string b], .bool r]) w := by
  have hp' : tmps[4]?.getD undef = .pointer (some ⟨R, 0, none⟩) := by simpa using hp
  have hr' : tmps[5]?.getD undef = .bool r := by simpa using hr
  simp [results, hp', hr', asAddr, load49 h1 h2]
set_option maxRecDepth 20000 in
theorem two_set {wr : World} {R : Nat} {x y : Value} (a b : Value) (h0 : wr.cell? ⟨R, 0, none⟩ = some x) (h1 : wr.cell? ⟨R, 1, none⟩ = some y) :
    ((wr.setCell ⟨R, 0, none⟩ a).setCell ⟨R, 1, none⟩ b).cell? ⟨R, 0, none⟩ = some a ∧ ((wr.setCell ⟨R, 0, none⟩ a).setCell ⟨R, 1, none⟩ b).cell? ⟨R, 1, none⟩ = some b := by
  constructor
  · rw [World.cell?_setCell_other _ _ _ _ (by simp)]
    exact World.cell?_setCell_same _ _ _ h0
  · exact World.cell?_setCell_same _ _ _ ((World.cell?_setCell_other _ _ _ _ (by simp)).trans h1)
set_option maxRecDepth 20000 in
theorem find_drop {L : List At} {i : Nat} {x : At} {p : At → Bool} (h : L[i]? = some x) : (L.drop i).find? p = if p x = true then some x else (L.drop (i + 1)).find? p := by
  rw [drop_at h, List.find?_cons]
  cases p x <;> simp
set_option maxHeartbeats 2000000 in
set_option maxRecDepth 20000 in
theorem first_any {w : World} {ao : Option Addr} {L : List At} (n cap g c : Nat) (p : At → Bool) (eg : ∀ args w, (callFunc g args).run Tryz.prog w = .ok (.enter g args) w) (hf : Fits w g c p L) (ha : AtRow w ao L) (hn : L.length = n) (hn2 : n ≤ 100000) :
    Calls Tryz.prog 227 #[.slice ao n cap, .func (.func g) #[] #[.pointer (some ⟨c, 0, none⟩)]] w fun e w' => e = .returned (.tuple #[.agg #[.string (gn (L.find? p)), .string (gv (L.find? p))], .bool (L.find? p).isSome]) ∧ Below w.heap.size w w' := by
  obtain ⟨r, hr0⟩ : ∃ r, L.find? p = r := ⟨_, rfl⟩
  rw [hr0]
  have HA : Hid (AtRow w ao L ∧ L.length = n ∧ (L.drop 0).find? p = r ∧ Fits w g c p L) := ⟨ha, hn, hr0, hf⟩
  clear ha hn hr0 hf
  go_enter Tryz.func227, Tryz.ntmps227
  go_wp2_with fail
  obtain ⟨W, hW⟩ : ∃ W, w.alloc (.cells #[.string ⟨#[]⟩, .string ⟨#[]⟩] 108) = W := ⟨_, rfl⟩
  have hbW : Below w.heap.size w W := by rw [← hW]; exact (Below.refl _ _).alloc (Nat.le_refl _) _
  have hnew : W.heap[w.heap.size]? = some (.cells #[.string ⟨#[]⟩, .string ⟨#[]⟩] 108 (0, 0)) := by rw [← hW]; exact heap_alloc_new _ _
  have HW : Hid (Below w.heap.size w W ∧ W.heap[w.heap.size]? = some (.cells #[.string ⟨#[]⟩, .string ⟨#[]⟩] 108 (0, 0))) := ⟨hbW, hnew⟩
  rw [hW]
  clear hW hnew hbW
  go_loopg [11] n (fun g2 iv wr => ∃ i : Nat, iv = .int .i64 i ∧ i + g2 = n ∧ (L.drop i).find? p = r ∧ Below W.heap.size W wr)
  case atStart => exact ⟨0, rfl, by omega, HA.out.2.2.1, Below.refl _ _⟩
  case round =>
    obtain ⟨i, rfl, hig, hgi, hbe⟩ := hrel
    have HG : Hid ((L.drop i).find? p = r ∧ Below W.heap.size W wr) := ⟨hgi, hbe⟩
    have hRl : w.heap.size < W.heap.size := (Array.getElem?_eq_some_iff.1 HW.out.2).1
    have hRr : wr.heap[w.heap.size]? = some (.cells #[.string ⟨#[]⟩, .string ⟨#[]⟩] 108 (0, 0)) := (hbe.block _ hRl).trans HW.out.2
    have HB : Hid (Below w.heap.size w wr) := HW.out.1.trans (hbe.mono HW.out.1.size)
    have q0 : wr.cell? ⟨w.heap.size, 0, none⟩ = some (.string ⟨#[]⟩) := by simp [World.cell?, hRr]
    have q1 : wr.cell? ⟨w.heap.size, 1, none⟩ = some (.string ⟨#[]⟩) := by simp [World.cell?, hRr]
    have f0 : wr.frozen? ⟨w.heap.size, 0, none⟩ = false := by simp [World.frozen?, hRr]
    have f1 : wr.frozen? ⟨w.heap.size, 1, none⟩ = false := by simp [World.frozen?, hRr]
    have hRw : w.heap.size < wr.heap.size := (Array.getElem?_eq_some_iff.1 hRr).1
    clear hgi hbe hRr hRl
    cases gk with
    | zero =>
      obtain rfl : i = n := by omega
      have hg0 : decide ((i : Int) < (i : Int)) = false := decide_eq_false (by omega)
      go_wp2_with fail
      have e : r = none := by
        have h := HG.out.1
        rw [List.drop_of_length_le (by rw [HA.out.2.1]; exact Nat.le_refl _)] at h
        exact h.symm
      subst e
      obtain ⟨z0, z1⟩ := two_set (.string ⟨#[]⟩) (.string ⟨#[]⟩) q0 q1
      have hb2 : Below w.heap.size w ((wr.setCell ⟨w.heap.size, 0, none⟩ (.string ⟨#[]⟩)).setCell ⟨w.heap.size, 1, none⟩ (.string ⟨#[]⟩)) := (HB.out.setCell (Nat.le_refl _) _).setCell (Nat.le_refl _) _
      have hbl : w.heap.size < ((wr.setCell ⟨w.heap.size, 0, none⟩ (.string ⟨#[]⟩)).setCell ⟨w.heap.size, 1, none⟩ (.string ⟨#[]⟩)).heap.size := by simpa using hRw
      generalize (wr.setCell ⟨w.heap.size, 0, none⟩ (.string ⟨#[]⟩)).setCell ⟨w.heap.size, 1, none⟩ (.string ⟨#[]⟩) = X at z0 z1 hb2 hbl ⊢
      have ba : Below X.heap.size X (X.alloc (.cells #[.string ⟨#[]⟩, .string ⟨#[]⟩] 108)) := (Below.refl _ _).alloc (Nat.le_refl _) _
      exact bodyPost_ret (results_first rfl rfl ((ba.cell (p := ⟨w.heap.size, 0, none⟩) hbl).trans z0) ((ba.cell (p := ⟨w.heap.size, 1, none⟩) hbl).trans z1)) rfl ⟨rfl, hb2.trans (ba.mono (Nat.le_of_lt hbl))⟩
    | succ k =>
      have hin : i < n := by omega
      obtain ⟨x, hx⟩ : ∃ x, L[i]? = some x := ⟨_, List.getElem?_eq_getElem (by rw [HA.out.2.1]; exact hin)⟩
      obtain ⟨b1, o1, rfl, h1, c1, c2⟩ := (HA.out.1.below HB.out) i x hx
      have HD : Hid ((L.drop i).find? p = if p x = true then some x else (L.drop (i + 1)).find? p) := find_drop hx
      have hmem := List.mem_of_getElem? hx
      clear hx
      obtain ⟨nm, vl⟩ := x
      simp only at c1 c2
      obtain ⟨V, hV⟩ : ∃ V, wr.alloc (.cells #[.string nm, .string vl] 108) = V := ⟨_, rfl⟩
      have bV : Below wr.heap.size wr V := by rw [← hV]; exact (Below.refl _ _).alloc (Nat.le_refl _) _
      have hVn : V.heap[wr.heap.size]? = some (.cells #[.string nm, .string vl] 108 (0, 0)) := by rw [← hV]; exact heap_alloc_new _ _
      have hVl : wr.heap.size < V.heap.size := (Array.getElem?_eq_some_iff.1 hVn).1
      have d0 : V.cell? ⟨wr.heap.size, 0, none⟩ = some (.string nm) := by simp [World.cell?, hVn]
      have d1 : V.cell? ⟨wr.heap.size, 1, none⟩ = some (.string vl) := by simp [World.cell?, hVn]
      go_wp2_with fail
      refine (HA.out.2.2.2 V (HB.out.trans (bV.mono HB.out.size)) nm vl hmem).mono ?_
      rintro e w1 ⟨rfl, q⟩
      clear hV hVn c1 c2 h1
      have d0' := (q.cell (p := ⟨wr.heap.size, 0, none⟩) hVl).trans d0
      have d1' := (q.cell (p := ⟨wr.heap.size, 1, none⟩) hVl).trans d1
      have bw : Below wr.heap.size wr w1 := bV.trans (q.mono (Nat.le_of_lt hVl))
      have q0' := (bw.cell (p := ⟨w.heap.size, 0, none⟩) hRw).trans q0
      have q1' := (bw.cell (p := ⟨w.heap.size, 1, none⟩) hRw).trans q1
      have f0' := (bw.frozen (p := ⟨w.heap.size, 0, none⟩) hRw).trans f0
      have f1' := (bw.frozen (p := ⟨w.heap.size, 1, none⟩) hRw).trans f1
      have hne : w.heap.size ≠ wr.heap.size := Nat.ne_of_lt hRw
      have HB1 : Hid (Below w.heap.size w w1 ∧ Below W.heap.size W w1) := ⟨HB.out.trans (bw.mono HB.out.size), HG.out.2.trans (bw.mono HG.out.2.size)⟩
      have hw1 : w.heap.size < w1.heap.size := Nat.lt_of_lt_of_le hRw bw.size
      clear bw q bV d0 d1 q0 q1 f0 f1 hVl
      obtain ⟨pr, hpr⟩ : ∃ pr, p ⟨nm, vl⟩ = pr := ⟨_, rfl⟩
      have HP : Hid (p ⟨nm, vl⟩ = pr) := hpr
      rw [hpr]
      clear hpr
      cases pr with
      | true =>
        go_wp2_with fail
        have e : r = some ⟨nm, vl⟩ := by
          rw [← HG.out.1, HD.out, if_pos HP.out]
        subst e
        obtain ⟨z0, z1⟩ := two_set (.string nm) (.string vl) q0' q1'
        exact bodyPost_ret (results_first rfl rfl z0 z1) rfl ⟨rfl, (HB1.out.1.setCell (Nat.le_refl _) _).setCell (Nat.le_refl _) _⟩
      | false =>
        have HN : Hid ((L.drop (i + 1)).find? p = r) := by
          have h := HD.out
          rw [if_neg (by rw [HP.out]; exact fun h => by cases h)] at h
          exact h.symm.trans HG.out.1
        go_wp2_with fail
        go_roundg k
        case measure => omega
        case rel => exact ⟨i + 1, by go_num, by omega, HN.out, HB1.out.2⟩
set_option maxRecDepth 20000 in
theorem enters34 : ∀ args w, (callFunc 229 args).run Tryz.prog w = .ok (.enter 229 args) w := enters_of Tryz.func229 (by kernel_rfl) rfl
set_option maxHeartbeats 400000 in
set_option maxRecDepth 20000 in
theorem named_one (W : World) (c : Nat) (s nm vl : ByteArray) (hc : c < W.heap.size) (h0 : W.cell? ⟨c, 0, none⟩ = some (.string s)) :
    Calls Tryz.prog 229 #[.agg #[.string nm, .string vl], .pointer (some ⟨c, 0, none⟩)] W fun e w' => e = .returned (.bool (decide (nm.data.toList = s.data.toList))) ∧ Below W.heap.size W w' := by
  have hb : Below W.heap.size W (W.alloc (.cells #[.string nm, .string vl] 108)) := (Below.refl _ _).alloc (Nat.le_refl _) _
  have HB : Hid (Below W.heap.size W (W.alloc (.cells #[.string nm, .string vl] 108))) := hb
  rw [← beq_bytes]
  clear hb
  go_enter Tryz.func229, Tryz.ntmps229
  go_wp2_with fail
  go_ret
  exact ⟨rfl, HB.out⟩
set_option maxHeartbeats 400000 in
set_option maxRecDepth 20000 in
theorem named_any (w : World) (s : ByteArray) : Calls Tryz.prog 228 #[.string s] w fun e w' => ∃ c, e = .returned (.func (.func 229) #[] #[.pointer (some ⟨c, 0, none⟩)]) ∧ c < w'.heap.size ∧ w'.cell? ⟨c, 0, none⟩ = some (.string s) ∧ Below w.heap.size w w' := by
  obtain ⟨V, hV⟩ : ∃ V, w.alloc (.cells #[.string s] 9) = V := ⟨_, rfl⟩
  have hVn : V.heap[w.heap.size]? = some (.cells #[.string s] 9 (0, 0)) := by rw [← hV]; exact heap_alloc_new _ _
  have HV : Hid (w.heap.size < V.heap.size ∧ V.cell? ⟨w.heap.size, 0, none⟩ = some (.string s) ∧ Below w.heap.size w V) := ⟨(Array.getElem?_eq_some_iff.1 hVn).1, by simp [World.cell?, hVn], by rw [← hV]; exact (Below.refl _ _).alloc (Nat.le_refl _) _⟩
  clear hVn
  go_enter Tryz.func228, Tryz.ntmps228
  go_wp2_with fail
  go_ret
  exact ⟨w.heap.size, rfl, HV.out⟩
set_option maxRecDepth 20000 in
theorem fits_named {w : World} {c : Nat} {s : ByteArray} {L : List At} (hc : c < w.heap.size) (h0 : w.cell? ⟨c, 0, none⟩ = some (.string s)) : Fits w 229 c (fun x => decide (x.nm = s.data.toList)) L := fun W hb nm vl _ =>
  named_one W c s nm vl (Nat.lt_of_lt_of_le hc hb.size) ((hb.cell (p := ⟨c, 0, none⟩) hc).trans h0)
set_option maxHeartbeats 1000000 in
set_option maxRecDepth 20000 in
theorem get_any {w : World} {ao : Option Addr} {L : List At} (n cap : Nat) (s : ByteArray) (ha : AtRow w ao L) (hn : L.length = n) (hn2 : n ≤ 100000) :
    Calls Tryz.prog 225 #[.slice ao n cap, .string s] w fun e w' => e = .returned (.tuple #[.string (gv (getP L s.data.toList)), .bool (getP L s.data.toList).isSome]) ∧ Below w.heap.size w w' := by
  obtain ⟨r, hr⟩ : ∃ r, getP L s.data.toList = r := ⟨_, rfl⟩
  rw [hr]
  have HA : Hid (AtRow w ao L ∧ L.length = n ∧ getP L s.data.toList = r) := ⟨ha, hn, hr⟩
  clear ha hn hr
  go_enter Tryz.func225, Tryz.ntmps225
  go_wp2_with fail
  refine (named_any w s).mono ?_
  rintro e w1 ⟨c, rfl, h1, h2, h3⟩
  have hf := first_any n cap 229 c _ enters34 (fits_named h1 h2) (HA.out.1.below h3) HA.out.2.1 hn2
  change Calls Tryz.prog 227 #[.slice ao n cap, .func (.func 229) #[] #[.pointer (some ⟨c, 0, none⟩)]] w1 (fun e w' => e = .returned (.tuple #[.agg #[.string (gn (getP L s.data.toList)), .string (gv (getP L s.data.toList))], .bool (getP L s.data.toList).isSome]) ∧ Below w1.heap.size w1 w') at hf
  have H1 : Hid (Below w.heap.size w w1) := h3
  clear h1 h2 h3
  rw [HA.out.2.2] at hf
  go_wp2_with fail
  refine hf.mono ?_
  rintro e w2 ⟨rfl, q⟩
  clear hf
  have H2 : Hid (Below w.heap.size w (w2.alloc (.cells #[.string (gn r), .string (gv r)] 108))) := by
    have b := H1.out.trans (q.mono H1.out.size)
    exact b.alloc b.size _
  clear q
  go_wp2_with fail
  go_ret2
  exact ⟨rfl, H2.out⟩
end Go.Proofs.YtdiealijjhfhjaaGreatDoor.G9
