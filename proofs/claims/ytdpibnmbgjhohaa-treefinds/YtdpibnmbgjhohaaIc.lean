/- The document's Strip, a node whose kids' calls are known. -/
import Derived.Test.YtdpibnmbgjhohaaIa
import Derived.Test.YtdpibnmbgjhohaaHa
import Derived.Test.YtdpibnmbgjhohaaAm
import Derived.Test.YtdpibnmbgjhohaaBd
import Derived.Deep.RegionHeld3
import Derived.Deep.DeepCutAuto
import Derived.Sort.CutIn
import Derived.Shelf.Abstract
namespace Go.Proofs.Ytdpibnmbgjhohaa
open Go.RowKit

theorem enters23 : ∀ args w, (callFunc 23 args).run Try.prog w = .ok (.enter 23 args) w := enters_of Try.func23 (by kernel_rfl) rfl
theorem AtRow.stay {w w' : World} {ao : Option Addr} {L : List At} (h : AtRow w ao L) (hs : w.heap.size ≤ w'.heap.size) (k : ∀ a : Addr, ao = some a → w'.heap[a.block]? = w.heap[a.block]?) : AtRow w' ao L := fun j x hj => by
  obtain ⟨g, off, h1, h2, h3, h4⟩ := h j x hj
  have e := k _ h1
  exact ⟨g, off, h1, Nat.lt_of_lt_of_le h2 hs, by rw [← h3]; simp [World.cell?, e], by rw [← h4]; simp [World.cell?, e]⟩
theorem AtRow.blk {w : World} {ao : Option Addr} {L : List At} (h : AtRow w ao L) (hn : L ≠ []) (a : Addr) (ha : ao = some a) : a.block < w.heap.size := by
  obtain ⟨x, l, rfl⟩ := List.exists_cons_of_ne_nil hn
  obtain ⟨g, off, h1, h2, _⟩ := h 0 x rfl
  rw [ha] at h1
  simp only [Option.some.injEq] at h1
  rw [h1]
  exact h2
/-- What the document's Strip answers. -/
def RStr (t : Tr) (w : World) (e : Ending) (w' : World) : Prop :=
  ∃ ao ac kp kc, e = .returned (.agg #[iv 0, iv t.d.kind, iv t.d.space, .string t.d.name, .string t.d.text, .slice ao t.d.al.length ac, iv (-1), iv (-1), iv (-1), iv (-1), .slice kp t.k.length kc]) ∧ Below w.heap.size w w' ∧ TQ (fun k => w.heap.size ≤ k ∧ k < w'.heap.size) w' (sT t) (.slice ao t.d.al.length ac) (.slice kp t.k.length kc)
/-- The node in the making, in block b. -/
def Rs2 (W wc : World) (b : Nat) (cur : Array Value) (so : Option Addr) (L : List At) : Prop := Below W.heap.size W wc ∧ W.heap.size ≤ b ∧ Bx wc b cur ∧ AtRow wc so L ∧ (L ≠ [] → ∀ a : Addr, so = some a → W.heap.size ≤ a.block ∧ a.block ≠ b)
/-- A kid, called for while the row of kids is made: what the append will find. -/
def KidS (w3 wr : World) (b : Nat) (cur : Array Value) (l : List Tr) (j : Nat) (v : Value) (u0 : Tr) (arr : Array Value) : Prop :=
  ∀ w', Below wr.heap.size wr w' → Calls Try.prog 23 #[.agg arr] w' (fun e w2 => ∃ ao' ac' kp' kc' g c W, e = .returned (.agg #[iv 0, iv u0.d.kind, iv u0.d.space, .string u0.d.name, .string u0.d.text, .slice ao' u0.d.al.length ac', iv (-1), iv (-1), iv (-1), iv (-1), .slice kp' u0.k.length kc']) ∧ w2.cell? ⟨b, 10, none⟩ = some v ∧ b < w2.heap.size ∧ (Builtin.append_ #[25, 25] 25 #[v, .slice (some ⟨w2.heap.size, 0, none⟩) 1 1]).run Try.prog (w2.alloc (.cells #[iv 0, iv u0.d.kind, iv u0.d.space, .string u0.d.name, .string u0.d.text, .slice ao' u0.d.al.length ac', iv (-1), iv (-1), iv (-1), iv (-1), .slice kp' u0.k.length kc'] 27)) = .ok (.slice (some ⟨g, 0, none⟩) (j + 1) c) W ∧ W.cell? ⟨b, 10, none⟩ = some v ∧ W.frozen? ⟨b, 10, none⟩ = false ∧
      Hid (KL w3 (W.setCell ⟨b, 10, none⟩ (.slice (some ⟨g, 0, none⟩) (j + 1) c)) b cur l (j + 1) (.slice (some ⟨g, 0, none⟩) (j + 1) c)))
theorem KL.callS {w3 wr : World} {b : Nat} {cur : Array Value} {ks : List Tr} {j : Nat} {v : Value} (h : KL w3 wr b cur (sL ks) j v) (hj : j ≤ 1000000000) {u0 : Tr} (hk : ks[j]? = some u0) {arr : Array Value} (hc : ∀ w', Below wr.heap.size wr w' → Calls Try.prog 23 #[.agg arr] w' (RStr u0 w')) : KidS w3 wr b cur (sL ks) j v u0 arr := by
  intro w' b1
  refine (hc w' b1).mono ?_
  rintro e w2 ⟨ao, ac, kp, kc, rfl, b2, ht⟩
  have b3 : Below wr.heap.size wr w2 := b1.trans (b2.mono b1.size)
  obtain ⟨M, _, m2, _⟩ := h.old b3
  have hk' : (sL ks)[j]? = some (sT u0) := by rw [sL_at, hk]; rfl
  obtain ⟨ud, uk⟩ := u0
  obtain ⟨g, c, W, q1, q2, q3, q4⟩ := h.next hj hk' b3 (ht.sub fun k hk => ⟨Nat.le_trans b1.size hk.1, hk.2⟩) #[iv 0, iv ud.kind, iv ud.space, .string ud.name, .string ud.text, .slice ao ud.al.length ac, iv (-1), iv (-1), iv (-1), iv (-1), .slice kp uk.length kc] (by simp [sT, sD, Tr.d, Nd.cs]; rfl)
  exact ⟨ao, ac, kp, kc, g, c, W, rfl, m2.cell, Nat.lt_of_lt_of_le m2.hb m2.sm.size, q1, q2, q3, q4⟩
set_option maxHeartbeats 4000000 in
set_option maxRecDepth 20000 in
theorem rstrip_one {w : World} (d : Nd) (ks : List Tr) {ao kp : Option Addr} (an ac kn kc : Nat) (han : d.al.length = an) (hkn : ks.length = kn) (hl : kn ≤ 1000000000)
    (hs : ∀ w', Below w.heap.size w w' → Calls Try.prog 41 #[.slice ao an ac] w' fun e w'' => ∃ so sc, e = .returned (.slice so an sc) ∧ Below w'.heap.size w' w'' ∧ AtRow w'' so (sortP d.al) ∧ ∀ a : Addr, so = some a → w'.heap.size ≤ a.block)
    (hsl : (sortP d.al).length = d.al.length)
    (hk : ∀ (j : Nat) u, ks[j]? = some u → KidAt w kp j u fun w' a => Calls Try.prog 23 #[.agg a] w' (RStr u w')) :
    Calls Try.prog 23 #[.agg #[iv d.id, iv d.kind, iv d.space, .string d.name, .string d.text, .slice ao an ac, iv d.sf, iv d.st, iv d.ef, iv d.et, .slice kp kn kc]] w (RStr (.mk d ks) w) := by
  obtain ⟨L, hL⟩ : ∃ L, sortP d.al = L := ⟨_, rfl⟩
  rw [hL] at hs hsl
  have HL : Hid (sortP d.al = L ∧ L.length = an ∧ ks.length = kn ∧ d.al.length = an) := ⟨hL, hsl.trans han, hkn, han⟩
  have HK : Hid (∀ (j : Nat) u, ks[j]? = some u → KidAt w kp j u fun w' a => Calls Try.prog 23 #[.agg a] w' (RStr u w')) := hk
  clear hL hsl han hkn hk
  obtain ⟨W, hW⟩ : ∃ W, (((w.alloc (.cells #[iv d.id, iv d.kind, iv d.space, .string d.name, .string d.text, .slice ao an ac, iv d.sf, iv d.st, iv d.ef, iv d.et, .slice kp kn kc] 27)).alloc (.cells #[iv 0, iv 0, iv 0, .string { data := #[] }, .string { data := #[] }, .slice none 0 0, iv 0, iv 0, iv 0, iv 0, .slice none 0 0] 27)).alloc (.cells #[iv (-1), iv (-1)] 24)) = W := ⟨_, rfl⟩
  have hq := als_spec w [.cells #[iv d.id, iv d.kind, iv d.space, .string d.name, .string d.text, .slice ao an ac, iv d.sf, iv d.st, iv d.ef, iv d.et, .slice kp kn kc] 27, .cells #[iv 0, iv 0, iv 0, .string { data := #[] }, .string { data := #[] }, .slice none 0 0, iv 0, iv 0, iv 0, iv 0, .slice none 0 0] 27, .cells #[iv (-1), iv (-1)] 24]
  simp only [als, List.length_cons, List.length_nil] at hq
  rw [hW] at hq
  obtain ⟨b1, s1, h1⟩ := hq
  have n0 : W.heap[w.heap.size]? = some (.cells #[iv d.id, iv d.kind, iv d.space, .string d.name, .string d.text, .slice ao an ac, iv d.sf, iv d.st, iv d.ef, iv d.et, .slice kp kn kc] 27 (0, 0)) := h1 0 _ rfl
  have n1 : W.heap[w.heap.size + 1]? = some (.cells #[iv 0, iv 0, iv 0, .string { data := #[] }, .string { data := #[] }, .slice none 0 0, iv 0, iv 0, iv 0, iv 0, .slice none 0 0] 27 (0, 0)) := h1 1 _ rfl
  have n2 : W.heap[w.heap.size + 1 + 1]? = some (.cells #[iv (-1), iv (-1)] 24 (0, 0)) := h1 2 _ rfl
  have HW : Hid ((((w.alloc (.cells #[iv d.id, iv d.kind, iv d.space, .string d.name, .string d.text, .slice ao an ac, iv d.sf, iv d.st, iv d.ef, iv d.et, .slice kp kn kc] 27)).alloc (.cells #[iv 0, iv 0, iv 0, .string { data := #[] }, .string { data := #[] }, .slice none 0 0, iv 0, iv 0, iv 0, iv 0, .slice none 0 0] 27)).alloc (.cells #[iv (-1), iv (-1)] 24)) = W) := hW
  have p1 : W.cell? ⟨w.heap.size, 1, none⟩ = some (iv d.kind) := by simp [World.cell?, n0]
  have p2 : W.cell? ⟨w.heap.size, 2, none⟩ = some (iv d.space) := by simp [World.cell?, n0]
  have p3 : W.cell? ⟨w.heap.size, 3, none⟩ = some (.string d.name) := by simp [World.cell?, n0]
  have p4 : W.cell? ⟨w.heap.size, 4, none⟩ = some (.string d.text) := by simp [World.cell?, n0]
  have p5 : W.cell? ⟨w.heap.size, 5, none⟩ = some (.slice ao an ac) := by simp [World.cell?, n0]
  have p10 : W.cell? ⟨w.heap.size, 10, none⟩ = some (.slice kp kn kc) := by simp [World.cell?, n0]
  have q0 : W.cell? ⟨w.heap.size + 1 + 1, 0, none⟩ = some (iv (-1)) := by simp [World.cell?, n2]
  have q1 : W.cell? ⟨w.heap.size + 1 + 1, 1, none⟩ = some (iv (-1)) := by simp [World.cell?, n2]
  have HN : Hid (Below w.heap.size w W ∧ W.heap.size = w.heap.size + 3 ∧ W.cell? ⟨w.heap.size, 10, none⟩ = some (.slice kp kn kc) ∧ Bx W (w.heap.size + 1) #[iv 0, iv 0, iv 0, .string { data := #[] }, .string { data := #[] }, .slice none 0 0, iv 0, iv 0, iv 0, iv 0, .slice none 0 0]) := ⟨b1, s1, p10, n1⟩
  have K : W.cell? ⟨w.heap.size, 1, none⟩ = some (iv d.kind) ∧ W.cell? ⟨w.heap.size, 2, none⟩ = some (iv d.space) ∧ W.cell? ⟨w.heap.size, 3, none⟩ = some (.string d.name) ∧ W.cell? ⟨w.heap.size, 4, none⟩ = some (.string d.text) ∧ W.cell? ⟨w.heap.size, 5, none⟩ = some (.slice ao an ac) ∧ W.cell? ⟨w.heap.size + 1 + 1, 0, none⟩ = some (iv (-1)) ∧ W.cell? ⟨w.heap.size + 1 + 1, 1, none⟩ = some (iv (-1)) ∧ Below W.heap.size W W := ⟨p1, p2, p3, p4, p5, q0, q1, Below.refl _ _⟩
  have HP : Hid (W.cell? ⟨w.heap.size, 1, none⟩ = some (iv d.kind) ∧ W.cell? ⟨w.heap.size, 2, none⟩ = some (iv d.space) ∧ W.cell? ⟨w.heap.size, 3, none⟩ = some (.string d.name) ∧ W.cell? ⟨w.heap.size, 4, none⟩ = some (.string d.text) ∧ W.cell? ⟨w.heap.size, 5, none⟩ = some (.slice ao an ac) ∧ W.cell? ⟨w.heap.size + 1 + 1, 0, none⟩ = some (iv (-1)) ∧ W.cell? ⟨w.heap.size + 1 + 1, 1, none⟩ = some (iv (-1)) ∧ Below W.heap.size W W) := K
  have bl_of : ∀ {w' : World}, (w'.cell? ⟨w.heap.size, 1, none⟩ = some (iv d.kind) ∧ w'.cell? ⟨w.heap.size, 2, none⟩ = some (iv d.space) ∧ w'.cell? ⟨w.heap.size, 3, none⟩ = some (.string d.name) ∧ w'.cell? ⟨w.heap.size, 4, none⟩ = some (.string d.text) ∧ w'.cell? ⟨w.heap.size, 5, none⟩ = some (.slice ao an ac) ∧ w'.cell? ⟨w.heap.size + 1 + 1, 0, none⟩ = some (iv (-1)) ∧ w'.cell? ⟨w.heap.size + 1 + 1, 1, none⟩ = some (iv (-1)) ∧ Below W.heap.size W w') → Below W.heap.size W w' := fun h => h.2.2.2.2.2.2.2
  have mk_s : ∀ {w' : World}, Below W.heap.size W w' → w'.cell? ⟨w.heap.size, 1, none⟩ = some (iv d.kind) ∧ w'.cell? ⟨w.heap.size, 2, none⟩ = some (iv d.space) ∧ w'.cell? ⟨w.heap.size, 3, none⟩ = some (.string d.name) ∧ w'.cell? ⟨w.heap.size, 4, none⟩ = some (.string d.text) ∧ w'.cell? ⟨w.heap.size, 5, none⟩ = some (.slice ao an ac) ∧ w'.cell? ⟨w.heap.size + 1 + 1, 0, none⟩ = some (iv (-1)) ∧ w'.cell? ⟨w.heap.size + 1 + 1, 1, none⟩ = some (iv (-1)) ∧ Below W.heap.size W w' := fun h => ⟨cell_below h HP.out.1, cell_below h HP.out.2.1, cell_below h HP.out.2.2.1, cell_below h HP.out.2.2.2.1, cell_below h HP.out.2.2.2.2.1, cell_below h HP.out.2.2.2.2.2.1, cell_below h HP.out.2.2.2.2.2.2.1, h⟩
  have zb : ∀ {V V' : World}, Below (V.alloc (.cells #[iv 0, iv 0, iv 0, .string { data := #[] }, .string { data := #[] }, .slice none 0 0, iv 0, iv 0, iv 0, iv 0, .slice none 0 0] 27)).heap.size (V.alloc (.cells #[iv 0, iv 0, iv 0, .string { data := #[] }, .string { data := #[] }, .slice none 0 0, iv 0, iv 0, iv 0, iv 0, .slice none 0 0] 27)) V' → V'.cell? ⟨V.heap.size, 0, none⟩ = some (iv 0) ∧ V'.cell? ⟨V.heap.size, 1, none⟩ = some (iv 0) ∧ V'.cell? ⟨V.heap.size, 2, none⟩ = some (iv 0) ∧ V'.cell? ⟨V.heap.size, 3, none⟩ = some (.string { data := #[] }) ∧ V'.cell? ⟨V.heap.size, 4, none⟩ = some (.string { data := #[] }) ∧ V'.cell? ⟨V.heap.size, 5, none⟩ = some (.slice none 0 0) ∧ V'.cell? ⟨V.heap.size, 6, none⟩ = some (iv 0) ∧ V'.cell? ⟨V.heap.size, 7, none⟩ = some (iv 0) ∧ V'.cell? ⟨V.heap.size, 8, none⟩ = some (iv 0) ∧ V'.cell? ⟨V.heap.size, 9, none⟩ = some (iv 0) ∧ V'.cell? ⟨V.heap.size, 10, none⟩ = some (.slice none 0 0) ∧ V'.frozen? ⟨V.heap.size, 0, none⟩ = false ∧ V'.frozen? ⟨V.heap.size, 1, none⟩ = false ∧ V'.frozen? ⟨V.heap.size, 2, none⟩ = false ∧ V'.frozen? ⟨V.heap.size, 3, none⟩ = false ∧ V'.frozen? ⟨V.heap.size, 4, none⟩ = false ∧ V'.frozen? ⟨V.heap.size, 5, none⟩ = false ∧ V'.frozen? ⟨V.heap.size, 6, none⟩ = false ∧ V'.frozen? ⟨V.heap.size, 7, none⟩ = false ∧ V'.frozen? ⟨V.heap.size, 8, none⟩ = false ∧ V'.frozen? ⟨V.heap.size, 9, none⟩ = false ∧ V'.frozen? ⟨V.heap.size, 10, none⟩ = false := fun {V V'} hb => by
    have h : Bx V' V.heap.size #[iv 0, iv 0, iv 0, .string { data := #[] }, .string { data := #[] }, .slice none 0 0, iv 0, iv 0, iv 0, iv 0, .slice none 0 0] := Bx.old (heap_alloc_new V (.cells #[iv 0, iv 0, iv 0, .string { data := #[] }, .string { data := #[] }, .slice none 0 0, iv 0, iv 0, iv 0, iv 0, .slice none 0 0] 27)) hb
    exact ⟨h.cell 0, h.cell 1, h.cell 2, h.cell 3, h.cell 4, h.cell 5, h.cell 6, h.cell 7, h.cell 8, h.cell 9, h.cell 10, h.frozen 0, h.frozen 1, h.frozen 2, h.frozen 3, h.frozen 4, h.frozen 5, h.frozen 6, h.frozen 7, h.frozen 8, h.frozen 9, h.frozen 10⟩
  have zc : ∀ V : World, (V.alloc (.cells #[iv 0, iv 0, iv 0, .string { data := #[] }, .string { data := #[] }, .slice none 0 0, iv 0, iv 0, iv 0, iv 0, .slice none 0 0] 27)).cell? ⟨V.heap.size, 0, none⟩ = some (iv 0) ∧ (V.alloc (.cells #[iv 0, iv 0, iv 0, .string { data := #[] }, .string { data := #[] }, .slice none 0 0, iv 0, iv 0, iv 0, iv 0, .slice none 0 0] 27)).cell? ⟨V.heap.size, 1, none⟩ = some (iv 0) ∧ (V.alloc (.cells #[iv 0, iv 0, iv 0, .string { data := #[] }, .string { data := #[] }, .slice none 0 0, iv 0, iv 0, iv 0, iv 0, .slice none 0 0] 27)).cell? ⟨V.heap.size, 2, none⟩ = some (iv 0) ∧ (V.alloc (.cells #[iv 0, iv 0, iv 0, .string { data := #[] }, .string { data := #[] }, .slice none 0 0, iv 0, iv 0, iv 0, iv 0, .slice none 0 0] 27)).cell? ⟨V.heap.size, 3, none⟩ = some (.string { data := #[] }) ∧ (V.alloc (.cells #[iv 0, iv 0, iv 0, .string { data := #[] }, .string { data := #[] }, .slice none 0 0, iv 0, iv 0, iv 0, iv 0, .slice none 0 0] 27)).cell? ⟨V.heap.size, 4, none⟩ = some (.string { data := #[] }) ∧ (V.alloc (.cells #[iv 0, iv 0, iv 0, .string { data := #[] }, .string { data := #[] }, .slice none 0 0, iv 0, iv 0, iv 0, iv 0, .slice none 0 0] 27)).cell? ⟨V.heap.size, 5, none⟩ = some (.slice none 0 0) ∧ (V.alloc (.cells #[iv 0, iv 0, iv 0, .string { data := #[] }, .string { data := #[] }, .slice none 0 0, iv 0, iv 0, iv 0, iv 0, .slice none 0 0] 27)).cell? ⟨V.heap.size, 6, none⟩ = some (iv 0) ∧ (V.alloc (.cells #[iv 0, iv 0, iv 0, .string { data := #[] }, .string { data := #[] }, .slice none 0 0, iv 0, iv 0, iv 0, iv 0, .slice none 0 0] 27)).cell? ⟨V.heap.size, 7, none⟩ = some (iv 0) ∧ (V.alloc (.cells #[iv 0, iv 0, iv 0, .string { data := #[] }, .string { data := #[] }, .slice none 0 0, iv 0, iv 0, iv 0, iv 0, .slice none 0 0] 27)).cell? ⟨V.heap.size, 8, none⟩ = some (iv 0) ∧ (V.alloc (.cells #[iv 0, iv 0, iv 0, .string { data := #[] }, .string { data := #[] }, .slice none 0 0, iv 0, iv 0, iv 0, iv 0, .slice none 0 0] 27)).cell? ⟨V.heap.size, 9, none⟩ = some (iv 0) ∧ (V.alloc (.cells #[iv 0, iv 0, iv 0, .string { data := #[] }, .string { data := #[] }, .slice none 0 0, iv 0, iv 0, iv 0, iv 0, .slice none 0 0] 27)).cell? ⟨V.heap.size, 10, none⟩ = some (.slice none 0 0) ∧ (V.alloc (.cells #[iv 0, iv 0, iv 0, .string { data := #[] }, .string { data := #[] }, .slice none 0 0, iv 0, iv 0, iv 0, iv 0, .slice none 0 0] 27)).frozen? ⟨V.heap.size, 0, none⟩ = false ∧ (V.alloc (.cells #[iv 0, iv 0, iv 0, .string { data := #[] }, .string { data := #[] }, .slice none 0 0, iv 0, iv 0, iv 0, iv 0, .slice none 0 0] 27)).frozen? ⟨V.heap.size, 1, none⟩ = false ∧ (V.alloc (.cells #[iv 0, iv 0, iv 0, .string { data := #[] }, .string { data := #[] }, .slice none 0 0, iv 0, iv 0, iv 0, iv 0, .slice none 0 0] 27)).frozen? ⟨V.heap.size, 2, none⟩ = false ∧ (V.alloc (.cells #[iv 0, iv 0, iv 0, .string { data := #[] }, .string { data := #[] }, .slice none 0 0, iv 0, iv 0, iv 0, iv 0, .slice none 0 0] 27)).frozen? ⟨V.heap.size, 3, none⟩ = false ∧ (V.alloc (.cells #[iv 0, iv 0, iv 0, .string { data := #[] }, .string { data := #[] }, .slice none 0 0, iv 0, iv 0, iv 0, iv 0, .slice none 0 0] 27)).frozen? ⟨V.heap.size, 4, none⟩ = false ∧ (V.alloc (.cells #[iv 0, iv 0, iv 0, .string { data := #[] }, .string { data := #[] }, .slice none 0 0, iv 0, iv 0, iv 0, iv 0, .slice none 0 0] 27)).frozen? ⟨V.heap.size, 5, none⟩ = false ∧ (V.alloc (.cells #[iv 0, iv 0, iv 0, .string { data := #[] }, .string { data := #[] }, .slice none 0 0, iv 0, iv 0, iv 0, iv 0, .slice none 0 0] 27)).frozen? ⟨V.heap.size, 6, none⟩ = false ∧ (V.alloc (.cells #[iv 0, iv 0, iv 0, .string { data := #[] }, .string { data := #[] }, .slice none 0 0, iv 0, iv 0, iv 0, iv 0, .slice none 0 0] 27)).frozen? ⟨V.heap.size, 7, none⟩ = false ∧ (V.alloc (.cells #[iv 0, iv 0, iv 0, .string { data := #[] }, .string { data := #[] }, .slice none 0 0, iv 0, iv 0, iv 0, iv 0, .slice none 0 0] 27)).frozen? ⟨V.heap.size, 8, none⟩ = false ∧ (V.alloc (.cells #[iv 0, iv 0, iv 0, .string { data := #[] }, .string { data := #[] }, .slice none 0 0, iv 0, iv 0, iv 0, iv 0, .slice none 0 0] 27)).frozen? ⟨V.heap.size, 9, none⟩ = false ∧ (V.alloc (.cells #[iv 0, iv 0, iv 0, .string { data := #[] }, .string { data := #[] }, .slice none 0 0, iv 0, iv 0, iv 0, iv 0, .slice none 0 0] 27)).frozen? ⟨V.heap.size, 10, none⟩ = false := fun V => zb (Below.refl _ _)
  have hs1 : ∀ w', Below W.heap.size W w' → Calls Try.prog 41 #[.slice ao an ac] w' fun e w'' => ∃ so sc, e = .returned (.slice so an sc) ∧ Below w'.heap.size w' w'' ∧ AtRow w'' so L ∧ ∀ a : Addr, so = some a → w'.heap.size ≤ a.block := fun w' hb => hs w' (b1.trans (hb.mono b1.size))
  have bal : ∀ {V : World}, Below W.heap.size W V → Below W.heap.size W (V.alloc (.cells #[iv 0, iv 0, iv 0, .string { data := #[] }, .string { data := #[] }, .slice none 0 0, iv 0, iv 0, iv 0, iv 0, .slice none 0 0] 27)) := fun h => h.alloc h.size _
  have HA : ∀ V : World, Below ((W.alloc (.cells #[iv 0, iv 0, iv 0, .string { data := #[] }, .string { data := #[] }, .slice none 0 0, iv 0, iv 0, iv 0, iv 0, .slice none 0 0] 27))).heap.size (W.alloc (.cells #[iv 0, iv 0, iv 0, .string { data := #[] }, .string { data := #[] }, .slice none 0 0, iv 0, iv 0, iv 0, iv 0, .slice none 0 0] 27)) V → Hid (Calls Try.prog 41 #[.slice ao an ac] V fun e w5 => ∃ so sc, e = .returned (.slice so an sc) ∧ (w5.cell? ⟨w.heap.size, 1, none⟩ = some (iv d.kind) ∧ w5.cell? ⟨w.heap.size, 2, none⟩ = some (iv d.space) ∧ w5.cell? ⟨w.heap.size, 3, none⟩ = some (.string d.name) ∧ w5.cell? ⟨w.heap.size, 4, none⟩ = some (.string d.text) ∧ w5.cell? ⟨w.heap.size, 5, none⟩ = some (.slice ao an ac) ∧ w5.cell? ⟨w.heap.size + 1 + 1, 0, none⟩ = some (iv (-1)) ∧ w5.cell? ⟨w.heap.size + 1 + 1, 1, none⟩ = some (iv (-1)) ∧ Below W.heap.size W w5) ∧ (w5.cell? ⟨W.heap.size, 0, none⟩ = some (iv 0) ∧ w5.cell? ⟨W.heap.size, 1, none⟩ = some (iv 0) ∧ w5.cell? ⟨W.heap.size, 2, none⟩ = some (iv 0) ∧ w5.cell? ⟨W.heap.size, 3, none⟩ = some (.string { data := #[] }) ∧ w5.cell? ⟨W.heap.size, 4, none⟩ = some (.string { data := #[] }) ∧ w5.cell? ⟨W.heap.size, 5, none⟩ = some (.slice none 0 0) ∧ w5.cell? ⟨W.heap.size, 6, none⟩ = some (iv 0) ∧ w5.cell? ⟨W.heap.size, 7, none⟩ = some (iv 0) ∧ w5.cell? ⟨W.heap.size, 8, none⟩ = some (iv 0) ∧ w5.cell? ⟨W.heap.size, 9, none⟩ = some (iv 0) ∧ w5.cell? ⟨W.heap.size, 10, none⟩ = some (.slice none 0 0) ∧ w5.frozen? ⟨W.heap.size, 0, none⟩ = false ∧ w5.frozen? ⟨W.heap.size, 1, none⟩ = false ∧ w5.frozen? ⟨W.heap.size, 2, none⟩ = false ∧ w5.frozen? ⟨W.heap.size, 3, none⟩ = false ∧ w5.frozen? ⟨W.heap.size, 4, none⟩ = false ∧ w5.frozen? ⟨W.heap.size, 5, none⟩ = false ∧ w5.frozen? ⟨W.heap.size, 6, none⟩ = false ∧ w5.frozen? ⟨W.heap.size, 7, none⟩ = false ∧ w5.frozen? ⟨W.heap.size, 8, none⟩ = false ∧ w5.frozen? ⟨W.heap.size, 9, none⟩ = false ∧ w5.frozen? ⟨W.heap.size, 10, none⟩ = false) ∧ Hid (Rs2 W ((((((((((((w5.setCell ⟨W.heap.size, 0, none⟩ (iv 0)).setCell ⟨W.heap.size, 1, none⟩ (iv d.kind)).setCell ⟨W.heap.size, 2, none⟩ (iv d.space)).setCell ⟨W.heap.size, 3, none⟩ (.string d.name)).setCell ⟨W.heap.size, 4, none⟩ (.string d.text)).setCell ⟨W.heap.size, 5, none⟩ (.slice so an sc)).setCell ⟨W.heap.size, 6, none⟩ (iv (-1))).setCell ⟨W.heap.size, 7, none⟩ (iv (-1))).setCell ⟨W.heap.size, 8, none⟩ (iv (-1))).setCell ⟨W.heap.size, 9, none⟩ (iv (-1))).setCell ⟨W.heap.size, 10, none⟩ (.slice none 0 0))) W.heap.size #[iv 0, iv d.kind, iv d.space, .string d.name, .string d.text, .slice so an sc, iv (-1), iv (-1), iv (-1), iv (-1), .slice none 0 0] so L)) := fun V hV => by
    have hb : Below W.heap.size W V := (bal (Below.refl _ _)).trans (hV.mono (bal (Below.refl _ _)).size)
    refine (hs1 V hb).mono ?_
    rintro e w5 ⟨so, sc, rfl, r1, r2, r3⟩
    have h5 := hV.trans (r1.mono hV.size)
    have hz : (W.alloc (.cells #[iv 0, iv 0, iv 0, .string { data := #[] }, .string { data := #[] }, .slice none 0 0, iv 0, iv 0, iv 0, iv 0, .slice none 0 0] 27)).heap.size = W.heap.size + 1 := by rw [World.size_alloc]
    have hb5 := hb.trans (r1.mono hb.size)
    have hne : ∀ a : Addr, so = some a → W.heap.size < a.block := fun a ha => by
      have := r3 a ha
      have := hV.size
      omega
    have hbx : Bx w5 W.heap.size #[iv 0, iv 0, iv 0, .string { data := #[] }, .string { data := #[] }, .slice none 0 0, iv 0, iv 0, iv 0, iv 0, .slice none 0 0] := Bx.old (heap_alloc_new W (.cells #[iv 0, iv 0, iv 0, .string { data := #[] }, .string { data := #[] }, .slice none 0 0, iv 0, iv 0, iv 0, iv 0, .slice none 0 0] 27)) h5
    exact ⟨so, sc, rfl, mk_s hb5, zb h5, below_put hb5 (Nat.le_refl _) _ _ _ _ _ _ _ _ _ _ _, Nat.le_refl _, hbx.put _ _ _ _ _ _ _ _ _ _ _, r2.stay (by simp) (fun a ha => put_other w5 W.heap.size _ _ _ _ _ _ _ _ _ _ _ a.block (by have := hne a ha; omega)), fun _ a ha => by
      have := hne a ha
      exact ⟨by omega, by omega⟩⟩
  have HC : ∀ V : World, Below W.heap.size W V → Hid (Calls Try.prog 41 #[.slice ao an ac] V fun e w5 => ∃ so sc, e = .returned (.slice so an sc) ∧ (w5.cell? ⟨w.heap.size, 1, none⟩ = some (iv d.kind) ∧ w5.cell? ⟨w.heap.size, 2, none⟩ = some (iv d.space) ∧ w5.cell? ⟨w.heap.size, 3, none⟩ = some (.string d.name) ∧ w5.cell? ⟨w.heap.size, 4, none⟩ = some (.string d.text) ∧ w5.cell? ⟨w.heap.size, 5, none⟩ = some (.slice ao an ac) ∧ w5.cell? ⟨w.heap.size + 1 + 1, 0, none⟩ = some (iv (-1)) ∧ w5.cell? ⟨w.heap.size + 1 + 1, 1, none⟩ = some (iv (-1)) ∧ Below W.heap.size W w5) ∧ ((w5.alloc (.cells #[iv 0, iv 0, iv 0, .string { data := #[] }, .string { data := #[] }, .slice none 0 0, iv 0, iv 0, iv 0, iv 0, .slice none 0 0] 27)).cell? ⟨w.heap.size, 1, none⟩ = some (iv d.kind) ∧ (w5.alloc (.cells #[iv 0, iv 0, iv 0, .string { data := #[] }, .string { data := #[] }, .slice none 0 0, iv 0, iv 0, iv 0, iv 0, .slice none 0 0] 27)).cell? ⟨w.heap.size, 2, none⟩ = some (iv d.space) ∧ (w5.alloc (.cells #[iv 0, iv 0, iv 0, .string { data := #[] }, .string { data := #[] }, .slice none 0 0, iv 0, iv 0, iv 0, iv 0, .slice none 0 0] 27)).cell? ⟨w.heap.size, 3, none⟩ = some (.string d.name) ∧ (w5.alloc (.cells #[iv 0, iv 0, iv 0, .string { data := #[] }, .string { data := #[] }, .slice none 0 0, iv 0, iv 0, iv 0, iv 0, .slice none 0 0] 27)).cell? ⟨w.heap.size, 4, none⟩ = some (.string d.text) ∧ (w5.alloc (.cells #[iv 0, iv 0, iv 0, .string { data := #[] }, .string { data := #[] }, .slice none 0 0, iv 0, iv 0, iv 0, iv 0, .slice none 0 0] 27)).cell? ⟨w.heap.size, 5, none⟩ = some (.slice ao an ac) ∧ (w5.alloc (.cells #[iv 0, iv 0, iv 0, .string { data := #[] }, .string { data := #[] }, .slice none 0 0, iv 0, iv 0, iv 0, iv 0, .slice none 0 0] 27)).cell? ⟨w.heap.size + 1 + 1, 0, none⟩ = some (iv (-1)) ∧ (w5.alloc (.cells #[iv 0, iv 0, iv 0, .string { data := #[] }, .string { data := #[] }, .slice none 0 0, iv 0, iv 0, iv 0, iv 0, .slice none 0 0] 27)).cell? ⟨w.heap.size + 1 + 1, 1, none⟩ = some (iv (-1)) ∧ Below W.heap.size W (w5.alloc (.cells #[iv 0, iv 0, iv 0, .string { data := #[] }, .string { data := #[] }, .slice none 0 0, iv 0, iv 0, iv 0, iv 0, .slice none 0 0] 27))) ∧ ((w5.alloc (.cells #[iv 0, iv 0, iv 0, .string { data := #[] }, .string { data := #[] }, .slice none 0 0, iv 0, iv 0, iv 0, iv 0, .slice none 0 0] 27)).cell? ⟨w5.heap.size, 0, none⟩ = some (iv 0) ∧ (w5.alloc (.cells #[iv 0, iv 0, iv 0, .string { data := #[] }, .string { data := #[] }, .slice none 0 0, iv 0, iv 0, iv 0, iv 0, .slice none 0 0] 27)).cell? ⟨w5.heap.size, 1, none⟩ = some (iv 0) ∧ (w5.alloc (.cells #[iv 0, iv 0, iv 0, .string { data := #[] }, .string { data := #[] }, .slice none 0 0, iv 0, iv 0, iv 0, iv 0, .slice none 0 0] 27)).cell? ⟨w5.heap.size, 2, none⟩ = some (iv 0) ∧ (w5.alloc (.cells #[iv 0, iv 0, iv 0, .string { data := #[] }, .string { data := #[] }, .slice none 0 0, iv 0, iv 0, iv 0, iv 0, .slice none 0 0] 27)).cell? ⟨w5.heap.size, 3, none⟩ = some (.string { data := #[] }) ∧ (w5.alloc (.cells #[iv 0, iv 0, iv 0, .string { data := #[] }, .string { data := #[] }, .slice none 0 0, iv 0, iv 0, iv 0, iv 0, .slice none 0 0] 27)).cell? ⟨w5.heap.size, 4, none⟩ = some (.string { data := #[] }) ∧ (w5.alloc (.cells #[iv 0, iv 0, iv 0, .string { data := #[] }, .string { data := #[] }, .slice none 0 0, iv 0, iv 0, iv 0, iv 0, .slice none 0 0] 27)).cell? ⟨w5.heap.size, 5, none⟩ = some (.slice none 0 0) ∧ (w5.alloc (.cells #[iv 0, iv 0, iv 0, .string { data := #[] }, .string { data := #[] }, .slice none 0 0, iv 0, iv 0, iv 0, iv 0, .slice none 0 0] 27)).cell? ⟨w5.heap.size, 6, none⟩ = some (iv 0) ∧ (w5.alloc (.cells #[iv 0, iv 0, iv 0, .string { data := #[] }, .string { data := #[] }, .slice none 0 0, iv 0, iv 0, iv 0, iv 0, .slice none 0 0] 27)).cell? ⟨w5.heap.size, 7, none⟩ = some (iv 0) ∧ (w5.alloc (.cells #[iv 0, iv 0, iv 0, .string { data := #[] }, .string { data := #[] }, .slice none 0 0, iv 0, iv 0, iv 0, iv 0, .slice none 0 0] 27)).cell? ⟨w5.heap.size, 8, none⟩ = some (iv 0) ∧ (w5.alloc (.cells #[iv 0, iv 0, iv 0, .string { data := #[] }, .string { data := #[] }, .slice none 0 0, iv 0, iv 0, iv 0, iv 0, .slice none 0 0] 27)).cell? ⟨w5.heap.size, 9, none⟩ = some (iv 0) ∧ (w5.alloc (.cells #[iv 0, iv 0, iv 0, .string { data := #[] }, .string { data := #[] }, .slice none 0 0, iv 0, iv 0, iv 0, iv 0, .slice none 0 0] 27)).cell? ⟨w5.heap.size, 10, none⟩ = some (.slice none 0 0) ∧ (w5.alloc (.cells #[iv 0, iv 0, iv 0, .string { data := #[] }, .string { data := #[] }, .slice none 0 0, iv 0, iv 0, iv 0, iv 0, .slice none 0 0] 27)).frozen? ⟨w5.heap.size, 0, none⟩ = false ∧ (w5.alloc (.cells #[iv 0, iv 0, iv 0, .string { data := #[] }, .string { data := #[] }, .slice none 0 0, iv 0, iv 0, iv 0, iv 0, .slice none 0 0] 27)).frozen? ⟨w5.heap.size, 1, none⟩ = false ∧ (w5.alloc (.cells #[iv 0, iv 0, iv 0, .string { data := #[] }, .string { data := #[] }, .slice none 0 0, iv 0, iv 0, iv 0, iv 0, .slice none 0 0] 27)).frozen? ⟨w5.heap.size, 2, none⟩ = false ∧ (w5.alloc (.cells #[iv 0, iv 0, iv 0, .string { data := #[] }, .string { data := #[] }, .slice none 0 0, iv 0, iv 0, iv 0, iv 0, .slice none 0 0] 27)).frozen? ⟨w5.heap.size, 3, none⟩ = false ∧ (w5.alloc (.cells #[iv 0, iv 0, iv 0, .string { data := #[] }, .string { data := #[] }, .slice none 0 0, iv 0, iv 0, iv 0, iv 0, .slice none 0 0] 27)).frozen? ⟨w5.heap.size, 4, none⟩ = false ∧ (w5.alloc (.cells #[iv 0, iv 0, iv 0, .string { data := #[] }, .string { data := #[] }, .slice none 0 0, iv 0, iv 0, iv 0, iv 0, .slice none 0 0] 27)).frozen? ⟨w5.heap.size, 5, none⟩ = false ∧ (w5.alloc (.cells #[iv 0, iv 0, iv 0, .string { data := #[] }, .string { data := #[] }, .slice none 0 0, iv 0, iv 0, iv 0, iv 0, .slice none 0 0] 27)).frozen? ⟨w5.heap.size, 6, none⟩ = false ∧ (w5.alloc (.cells #[iv 0, iv 0, iv 0, .string { data := #[] }, .string { data := #[] }, .slice none 0 0, iv 0, iv 0, iv 0, iv 0, .slice none 0 0] 27)).frozen? ⟨w5.heap.size, 7, none⟩ = false ∧ (w5.alloc (.cells #[iv 0, iv 0, iv 0, .string { data := #[] }, .string { data := #[] }, .slice none 0 0, iv 0, iv 0, iv 0, iv 0, .slice none 0 0] 27)).frozen? ⟨w5.heap.size, 8, none⟩ = false ∧ (w5.alloc (.cells #[iv 0, iv 0, iv 0, .string { data := #[] }, .string { data := #[] }, .slice none 0 0, iv 0, iv 0, iv 0, iv 0, .slice none 0 0] 27)).frozen? ⟨w5.heap.size, 9, none⟩ = false ∧ (w5.alloc (.cells #[iv 0, iv 0, iv 0, .string { data := #[] }, .string { data := #[] }, .slice none 0 0, iv 0, iv 0, iv 0, iv 0, .slice none 0 0] 27)).frozen? ⟨w5.heap.size, 10, none⟩ = false) ∧ W.heap.size ≤ w5.heap.size ∧ Hid (Rs2 W (w5.alloc (.cells #[iv 0, iv d.kind, iv d.space, .string d.name, .string d.text, .slice so an sc, iv (-1), iv (-1), iv (-1), iv (-1), .slice none 0 0] 27)) w5.heap.size #[iv 0, iv d.kind, iv d.space, .string d.name, .string d.text, .slice so an sc, iv (-1), iv (-1), iv (-1), iv (-1), .slice none 0 0] so L)) := fun V hV => by
    refine (hs1 V hV).mono ?_
    rintro e w5 ⟨so, sc, rfl, r1, r2, r3⟩
    have h5 := hV.trans (r1.mono hV.size)
    have bn : Below w5.heap.size w5 (w5.alloc (.cells #[iv 0, iv d.kind, iv d.space, .string d.name, .string d.text, .slice so an sc, iv (-1), iv (-1), iv (-1), iv (-1), .slice none 0 0] 27)) := (Below.refl _ _).alloc (Nat.le_refl _) _
    exact ⟨so, sc, rfl, mk_s h5, mk_s (bal h5), zc w5, h5.size, h5.trans (bn.mono h5.size), h5.size, heap_alloc_new w5 _, r2.old bn, fun hn a ha => ⟨Nat.le_trans hV.size (r3 a ha), by have := r2.blk hn a ha; omega⟩⟩
  have HA1 := HA _ (Below.drew (Below.refl _ _))
  have HA2 := HA ((W.drew).alloc (.cells #[iv 0, iv 0, iv 0, .string { data := #[] }, .string { data := #[] }, .slice none 0 0, iv 0, iv 0, iv 0, iv 0, .slice none 0 0] 27)) ⟨rfl, rfl, rfl, Nat.le_refl _, fun _ _ => rfl⟩
  have HC1 := HC _ (Below.drew (Below.refl _ _))
  clear HA HC hs1 hW b1 s1 h1 n0 n1 n2 hs p1 p2 p3 p4 p5 p10 q0 q1 bal zb zc
  obtain ⟨x, hx⟩ : ∃ x, w.heap.size + 1 = x := ⟨_, rfl⟩
  have HX : Hid (w.heap.size + 1 = x) := hx
  clear hx
  go_enter Try.func23, Try.ntmps23
  go_upto_region 2 with fail
  rw [HW.out]
  clear HW
  go_cut [4] (fun pv wc => ∃ (b : Nat) (so : Option Addr) (sc : Nat), pv = ptr b ∧ Hid (Rs2 W wc b #[iv 0, iv d.kind, iv d.space, .string d.name, .string d.text, .slice so an sc, iv (-1), iv (-1), iv (-1), iv (-1), .slice none 0 0] so L))
  case first =>
    go_region_held3 (fun w' => w'.cell? ⟨w.heap.size, 1, none⟩ = some (iv d.kind) ∧ w'.cell? ⟨w.heap.size, 2, none⟩ = some (iv d.space) ∧ w'.cell? ⟨w.heap.size, 3, none⟩ = some (.string d.name) ∧ w'.cell? ⟨w.heap.size, 4, none⟩ = some (.string d.text) ∧ w'.cell? ⟨w.heap.size, 5, none⟩ = some (.slice ao an ac) ∧ w'.cell? ⟨w.heap.size + 1 + 1, 0, none⟩ = some (iv (-1)) ∧ w'.cell? ⟨w.heap.size + 1 + 1, 1, none⟩ = some (iv (-1)) ∧ Below W.heap.size W w')
      (first | with_reducible assumption | with_reducible exact mk_s (Below.drew (bl_of (by assumption))) | with_reducible exact mk_s (below_put (bl_of (by assumption)) (Nat.le_refl W.heap.size) _ _ _ _ _ _ _ _ _ _ _) | with_reducible exact mk_s (below_put (bl_of (by assumption)) (by assumption) _ _ _ _ _ _ _ _ _ _ _) | with_reducible exact mk_s (Below.alloc (bl_of (by assumption)) (bl_of (by assumption)).size _) | with_reducible exact mk_s (Below.drew (Below.alloc (bl_of (by assumption)) (bl_of (by assumption)).size _)) | with_reducible exact mk_s (Below.alloc (Below.drew (bl_of (by assumption))) (bl_of (by assumption)).size _) | fail)
      (first
        | (go_at_call 41; with_reducible refine Calls.mono HA1.out ?_; rintro e w5 ⟨so, sc, rfl, hs5, ⟨x0, x1, x2, x3, x4, x5, x6, x7, x8, x9, x10, f0, f1, f2, f3, f4, f5, f6, f7, f8, f9, f10⟩, HR⟩)
        | (go_at_call 41; with_reducible refine Calls.mono HA2.out ?_; rintro e w5 ⟨so, sc, rfl, hs5, ⟨x0, x1, x2, x3, x4, x5, x6, x7, x8, x9, x10, f0, f1, f2, f3, f4, f5, f6, f7, f8, f9, f10⟩, HR⟩)
        | (go_at_call 41; with_reducible refine Calls.mono HC1.out ?_; rintro e w5 ⟨so, sc, rfl, hs5, hs6, ⟨x0, x1, x2, x3, x4, x5, x6, x7, x8, x9, x10, f0, f1, f2, f3, f4, f5, f6, f7, f8, f9, f10⟩, hle, HR⟩))
    all_goals
      clear mk_s bl_of HA1 HC1
      go_wp2_with fail
      go_meet
    all_goals exact ⟨_, so, sc, rfl, HR⟩
  case rest =>
    obtain ⟨b, so, sc, rfl, HZ⟩ := hcut
    have HS : Hid (KL wc wc b #[iv 0, iv d.kind, iv d.space, .string d.name, .string d.text, .slice so an sc, iv (-1), iv (-1), iv (-1), iv (-1), .slice none 0 0] (sL ks) 0 (.slice none 0 0)) := KL.start HZ.out.2.2.1 rfl
    clear HA1 HC1 K HP bl_of mk_s
    try clear HA2
    rw [HX.out]
    go_wp2_with fail
    go_loopg [5] kn (fun g2 jv wr => ∃ (j : Nat) (v : Value), jv = .int .i64 j ∧ j + g2 = kn ∧ Hid (KL wc wr b #[iv 0, iv d.kind, iv d.space, .string d.name, .string d.text, .slice so an sc, iv (-1), iv (-1), iv (-1), iv (-1), .slice none 0 0] (sL ks) j v))
    case atStart => exact ⟨0, _, rfl, by omega, HS⟩
    case round =>
      obtain ⟨j, v, rfl, hjg, HT⟩ := hrel
      obtain ⟨M, hMl, hMT, hMt⟩ := HT.out
      have HT0 : Hid (KT wc wr b #[iv 0, iv d.kind, iv d.space, .string d.name, .string d.text, .slice so an sc, iv (-1), iv (-1), iv (-1), iv (-1), .slice none 0 0] M v) := hMT
      have bw : Below W.heap.size W wr := hMT.below HZ.out.1 HZ.out.2.1 (Nat.le_refl _)
      have p10 : wr.cell? ⟨w.heap.size, 10, none⟩ = some (.slice kp kn kc) := cell_below bw HN.out.2.2.1
      cases gk with
      | zero =>
        obtain rfl : j = kn := by omega
        have hg0 : decide ((j : Int) < (j : Int)) = false := decide_eq_false (by omega)
        obtain ⟨xp, xc, hv, hvc, _⟩ := hMT.row.slice
        rw [hMl] at hv
        subst hv
        have m2 : Bx wr x #[iv 0, iv 0, iv 0, .string { data := #[] }, .string { data := #[] }, .slice none 0 0, iv 0, iv 0, iv 0, iv 0, .slice none 0 0] := by
          rw [← HX.out]
          exact Bx.old HN.out.2.2.2 bw
        have y0 : wr.cell? ⟨b, 0, none⟩ = some (iv 0) := HT0.out.cells 0 (by decide)
        have y1 : wr.cell? ⟨b, 1, none⟩ = some (iv d.kind) := HT0.out.cells 1 (by decide)
        have y2 : wr.cell? ⟨b, 2, none⟩ = some (iv d.space) := HT0.out.cells 2 (by decide)
        have y3 : wr.cell? ⟨b, 3, none⟩ = some (.string d.name) := HT0.out.cells 3 (by decide)
        have y4 : wr.cell? ⟨b, 4, none⟩ = some (.string d.text) := HT0.out.cells 4 (by decide)
        have y5 : wr.cell? ⟨b, 5, none⟩ = some (.slice so an sc) := HT0.out.cells 5 (by decide)
        have y6 : wr.cell? ⟨b, 6, none⟩ = some (iv (-1)) := HT0.out.cells 6 (by decide)
        have y7 : wr.cell? ⟨b, 7, none⟩ = some (iv (-1)) := HT0.out.cells 7 (by decide)
        have y8 : wr.cell? ⟨b, 8, none⟩ = some (iv (-1)) := HT0.out.cells 8 (by decide)
        have y9 : wr.cell? ⟨b, 9, none⟩ = some (iv (-1)) := HT0.out.cells 9 (by decide)
        have y10 : wr.cell? ⟨b, 10, none⟩ = some (.slice xp j xc) := HT0.out.cell
        have x0 : wr.cell? ⟨x, 0, none⟩ = some (iv 0) := m2.cell 0
        have f0 := m2.frozen 0
        have x1 : wr.cell? ⟨x, 1, none⟩ = some (iv 0) := m2.cell 1
        have f1 := m2.frozen 1
        have x2 : wr.cell? ⟨x, 2, none⟩ = some (iv 0) := m2.cell 2
        have f2 := m2.frozen 2
        have x3 : wr.cell? ⟨x, 3, none⟩ = some (.string { data := #[] }) := m2.cell 3
        have f3 := m2.frozen 3
        have x4 : wr.cell? ⟨x, 4, none⟩ = some (.string { data := #[] }) := m2.cell 4
        have f4 := m2.frozen 4
        have x5 : wr.cell? ⟨x, 5, none⟩ = some (.slice none 0 0) := m2.cell 5
        have f5 := m2.frozen 5
        have x6 : wr.cell? ⟨x, 6, none⟩ = some (iv 0) := m2.cell 6
        have f6 := m2.frozen 6
        have x7 : wr.cell? ⟨x, 7, none⟩ = some (iv 0) := m2.cell 7
        have f7 := m2.frozen 7
        have x8 : wr.cell? ⟨x, 8, none⟩ = some (iv 0) := m2.cell 8
        have f8 := m2.frozen 8
        have x9 : wr.cell? ⟨x, 9, none⟩ = some (iv 0) := m2.cell 9
        have f9 := m2.frozen 9
        have x10 : wr.cell? ⟨x, 10, none⟩ = some (.slice none 0 0) := m2.cell 10
        have f10 := m2.frozen 10
        have HF : Hid (Bx ((((((((((((wr.setCell ⟨x, 0, none⟩ (iv 0)).setCell ⟨x, 1, none⟩ (iv d.kind)).setCell ⟨x, 2, none⟩ (iv d.space)).setCell ⟨x, 3, none⟩ (.string d.name)).setCell ⟨x, 4, none⟩ (.string d.text)).setCell ⟨x, 5, none⟩ (.slice so an sc)).setCell ⟨x, 6, none⟩ (iv (-1))).setCell ⟨x, 7, none⟩ (iv (-1))).setCell ⟨x, 8, none⟩ (iv (-1))).setCell ⟨x, 9, none⟩ (iv (-1))).setCell ⟨x, 10, none⟩ (.slice xp j xc))) x #[iv 0, iv d.kind, iv d.space, .string d.name, .string d.text, .slice so an sc, iv (-1), iv (-1), iv (-1), iv (-1), .slice xp j xc] ∧ RStr (.mk d ks) w (.returned (.agg #[iv 0, iv d.kind, iv d.space, .string d.name, .string d.text, .slice so an sc, iv (-1), iv (-1), iv (-1), iv (-1), .slice xp j xc])) ((((((((((((wr.setCell ⟨x, 0, none⟩ (iv 0)).setCell ⟨x, 1, none⟩ (iv d.kind)).setCell ⟨x, 2, none⟩ (iv d.space)).setCell ⟨x, 3, none⟩ (.string d.name)).setCell ⟨x, 4, none⟩ (.string d.text)).setCell ⟨x, 5, none⟩ (.slice so an sc)).setCell ⟨x, 6, none⟩ (iv (-1))).setCell ⟨x, 7, none⟩ (iv (-1))).setCell ⟨x, 8, none⟩ (iv (-1))).setCell ⟨x, 9, none⟩ (iv (-1))).setCell ⟨x, 10, none⟩ (.slice xp j xc)))) := by
          refine ⟨m2.put _ _ _ _ _ _ _ _ _ _ _, ?_⟩
          have hsz : wr.heap.size ≤ ((((((((((((wr.setCell ⟨x, 0, none⟩ (iv 0)).setCell ⟨x, 1, none⟩ (iv d.kind)).setCell ⟨x, 2, none⟩ (iv d.space)).setCell ⟨x, 3, none⟩ (.string d.name)).setCell ⟨x, 4, none⟩ (.string d.text)).setCell ⟨x, 5, none⟩ (.slice so an sc)).setCell ⟨x, 6, none⟩ (iv (-1))).setCell ⟨x, 7, none⟩ (iv (-1))).setCell ⟨x, 8, none⟩ (iv (-1))).setCell ⟨x, 9, none⟩ (iv (-1))).setCell ⟨x, 10, none⟩ (.slice xp j xc))).heap.size := by simp
          have hx := HX.out
          have hWs := HN.out.2.1
          have hWc := HZ.out.1.size
          have hcr := HT0.out.sm.size
          have hb2 := HZ.out.2.1
          have hkl : (sL ks).length = j := (sL_len ks).trans HL.out.2.2.1
          have har : AtRow ((((((((((((wr.setCell ⟨x, 0, none⟩ (iv 0)).setCell ⟨x, 1, none⟩ (iv d.kind)).setCell ⟨x, 2, none⟩ (iv d.space)).setCell ⟨x, 3, none⟩ (.string d.name)).setCell ⟨x, 4, none⟩ (.string d.text)).setCell ⟨x, 5, none⟩ (.slice so an sc)).setCell ⟨x, 6, none⟩ (iv (-1))).setCell ⟨x, 7, none⟩ (iv (-1))).setCell ⟨x, 8, none⟩ (iv (-1))).setCell ⟨x, 9, none⟩ (iv (-1))).setCell ⟨x, 10, none⟩ (.slice xp j xc))) so L := by
            by_cases hn : L = []
            · rw [hn]
              exact fun i y hy => by simp at hy
            · refine HZ.out.2.2.2.1.stay (Nat.le_trans hcr hsz) fun a ha => ?_
              obtain ⟨h1, h2⟩ := HZ.out.2.2.2.2 hn a ha
              exact (put_other wr x _ _ _ _ _ _ _ _ _ _ _ a.block (by omega)).trans (HT0.out.oth a.block (HZ.out.2.2.2.1.blk hn a ha) h2)
          have bf : Below w.heap.size w ((((((((((((wr.setCell ⟨x, 0, none⟩ (iv 0)).setCell ⟨x, 1, none⟩ (iv d.kind)).setCell ⟨x, 2, none⟩ (iv d.space)).setCell ⟨x, 3, none⟩ (.string d.name)).setCell ⟨x, 4, none⟩ (.string d.text)).setCell ⟨x, 5, none⟩ (.slice so an sc)).setCell ⟨x, 6, none⟩ (iv (-1))).setCell ⟨x, 7, none⟩ (iv (-1))).setCell ⟨x, 8, none⟩ (iv (-1))).setCell ⟨x, 9, none⟩ (iv (-1))).setCell ⟨x, 10, none⟩ (.slice xp j xc))) := below_put (HN.out.1.trans (bw.mono HN.out.1.size)) (by omega) _ _ _ _ _ _ _ _ _ _ _
          have hal : (sD d).al = L := HL.out.1
          have hdone := HT.out.done (d := sD d) (ao := so) (ac := sc) hkl hsz x (by omega) (fun k hk => put_other wr x _ _ _ _ _ _ _ _ _ _ _ k hk) w.heap.size (by omega) (by rw [hal]; exact har) (fun hn a ha => by
            rw [hal] at hn
            exact ⟨by have := (HZ.out.2.2.2.2 hn a ha).1; omega, har.blk hn a ha⟩)
          rw [hal, HL.out.2.1, hkl] at hdone
          refine ⟨so, sc, xp, xc, ?_, bf, ?_⟩
          · show _ = Ending.returned (.agg #[iv 0, iv d.kind, iv d.space, .string d.name, .string d.text, .slice so d.al.length sc, iv (-1), iv (-1), iv (-1), iv (-1), .slice xp ks.length xc])
            rw [HL.out.2.2.2, HL.out.2.2.1]
          · show TQ _ _ (sT (.mk d ks)) (.slice so d.al.length sc) (.slice xp ks.length xc)
            rw [HL.out.2.2.2, HL.out.2.2.1, sT]
            exact hdone
        clear hMl hMT hMt bw m2
        go_wp2_with fail
        refine bodyPost_ret (results_cell_row rfl _ _ x 27 _ (0, 0) _ rfl HF.out.1 Try.underlying27 rfl size27) rfl ?_
        exact HF.out.2
      | succ k =>
        have hjl : j < kn := by omega
        have g1 : decide ((j : Int) < (kn : Int)) = true := decide_eq_true (by omega)
        obtain ⟨u0, hu0⟩ : ∃ u0, ks[j]? = some u0 := ⟨_, List.getElem?_eq_getElem (by rw [HL.out.2.2.1]; exact hjl)⟩
        obtain ⟨kb, ko, av, kv, rfl, hkb, hc, hcall⟩ := HK.out j u0 hu0
        have bwr : Below w.heap.size w wr := HN.out.1.trans (bw.mono HN.out.1.size)
        have hc' := hc.mv (bwr.block kb hkb)
        have HKS : Hid (KidS wc wr b #[iv 0, iv d.kind, iv d.space, .string d.name, .string d.text, .slice so an sc, iv (-1), iv (-1), iv (-1), iv (-1), .slice none 0 0] (sL ks) j v u0 #[iv u0.d.id, iv u0.d.kind, iv u0.d.space, .string u0.d.name, .string u0.d.text, av, iv u0.d.sf, iv u0.d.st, iv u0.d.ef, iv u0.d.et, kv]) := HT.out.callS (by omega) hu0 fun w' hb => hcall w' (bwr.trans (hb.mono bwr.size))
        have k0 : wr.cell? ⟨kb, ko + j * 11, none⟩ = some (iv u0.d.id) := hc' 0 _ rfl
        have k1 : wr.cell? ⟨kb, ko + j * 11 + 1, none⟩ = some (iv u0.d.kind) := hc' 1 _ rfl
        have k2 : wr.cell? ⟨kb, ko + j * 11 + 2, none⟩ = some (iv u0.d.space) := hc' 2 _ rfl
        have k3 : wr.cell? ⟨kb, ko + j * 11 + 3, none⟩ = some (.string u0.d.name) := hc' 3 _ rfl
        have k4 : wr.cell? ⟨kb, ko + j * 11 + 4, none⟩ = some (.string u0.d.text) := hc' 4 _ rfl
        have k5 : wr.cell? ⟨kb, ko + j * 11 + 5, none⟩ = some av := hc' 5 _ rfl
        have k6 : wr.cell? ⟨kb, ko + j * 11 + 6, none⟩ = some (iv u0.d.sf) := hc' 6 _ rfl
        have k7 : wr.cell? ⟨kb, ko + j * 11 + 7, none⟩ = some (iv u0.d.st) := hc' 7 _ rfl
        have k8 : wr.cell? ⟨kb, ko + j * 11 + 8, none⟩ = some (iv u0.d.ef) := hc' 8 _ rfl
        have k9 : wr.cell? ⟨kb, ko + j * 11 + 9, none⟩ = some (iv u0.d.et) := hc' 9 _ rfl
        have k10 : wr.cell? ⟨kb, ko + j * 11 + 10, none⟩ = some kv := hc' 10 _ rfl
        have y10 : wr.cell? ⟨b, 10, none⟩ = some v := hMT.cell
        have hwr1 : IntKind.i64.wrap ((j : Int) + 1) = (j : Int) + 1 := by rw [IntKind.wrap_i64]; omega
        have hjl2 : (j : Int) < (kn : Int) := by omega
        clear hMl hMT hMt bw bwr hu0 hc hc' hcall HT HT0
        go_wp2_with fail
        go_region_law (first
          | (refine step_call1 23 _ _ rfl rfl enters23 _ (by simp [Act.eval]) (HKS.out _ ((Below.refl _ _).drew)) ?_; rintro e w5 ⟨ao', ac', kp', kc', g', c', W', rfl, z1, z2, hrun, z3, z4, HN2⟩; refine ⟨_, rfl, ?_⟩)
          | (refine step_append_eq rfl _ _ 25 25 rfl _ _ (by first | (simp [Act.eval]; done) | simp [Act.eval, Act.put]) (by first | (simp [Act.eval]; done) | simp [Act.eval, Act.put]) hrun ?_))
        all_goals
          clear hrun z1 z2 z3 z4
          generalize hW9 : W'.setCell ⟨b, 10, none⟩ (.slice (some ⟨g', 0, none⟩) (j + 1) c') = W9 at *
          clear hW9
          go_wp2_with fail
          go_roundg k
          case measure => omega
          case rel => exact ⟨j + 1, _, by go_num, by omega, HN2⟩
end Go.Proofs.Ytdpibnmbgjhohaa
