/- The document's stack in memory; its in, Is, Ends; own; first. -/
import Derived.Test.YtkmghkfdegdikaaDoorBh
namespace Go.Proofs.YtkmghkfdegdikaaDoor
open Go.RowKit

/-- Block x holds a stack of these elements, in no block of S. -/
structure RStk (S : Nat → Prop) (w : World) (x : Nat) (rv : Value) (M : List El) : Prop where
  low : ∀ k, S k → k < w.heap.size
  blk : Bx w x 28 #[rv]
  out : ¬ S x
  row : Rw S w 34 4 rv M.length (M.flatMap El.cs)
  own : ∀ d ∈ M, Own w d.av d.al
theorem RStk.old {S : Nat → Prop} {w w' : World} {x : Nat} {rv : Value} {M : List El} (h : RStk S w x rv M) (b : Below w.heap.size w w') : RStk S w' x rv M :=
  ⟨fun k hk => Nat.lt_of_lt_of_le (h.low k hk) b.size, h.blk.old b, h.out, h.row.old b, fun d hd => (h.own d hd).old b⟩
theorem RStk.lt {S : Nat → Prop} {w : World} {x : Nat} {rv : Value} {M : List El} (h : RStk S w x rv M) : x < w.heap.size := h.blk.lt
/-- The element at a place. -/
theorem RStk.at {S : Nat → Prop} {w : World} {x : Nat} {rv : Value} {M : List El} (h : RStk S w x rv M) {i : Nat} {d : El} (hi : M[i]? = some d) :
    ∃ g c, rv = .slice (some ⟨g, 0, none⟩) M.length c ∧ M.length ≤ c ∧ c ≤ maxLen ∧ w.cell? ⟨g, i * 4, none⟩ = some (iv d.id) ∧ w.cell? ⟨g, i * 4 + 1, none⟩ = some (iv d.sp) ∧ w.cell? ⟨g, i * 4 + 2, none⟩ = some (.string d.nm) ∧ w.cell? ⟨g, i * 4 + 3, none⟩ = some d.av ∧ Own w d.av d.al := by
  have hl := (List.getElem?_eq_some_iff.1 hi).1
  have hr := h.row
  obtain ⟨g, c, cur, rfl, _, _, _, h1, h2, _⟩ := hr.form (by omega)
  have k := fun (j : Nat) (hj : j < 4) => fl_at El.cs 4 (fun _ => rfl) M i j d hi hj
  exact ⟨g, c, rfl, h1, h2, hr.cell (k 0 (by decide)), hr.cell (k 1 (by decide)), hr.cell (k 2 (by decide)), hr.cell (k 3 (by decide)), h.own d (List.mem_of_getElem? hi)⟩

/-- A stack, its row's slice left open. -/
def RStkE (S : Nat → Prop) (w : World) (x : Nat) (M : List El) : Prop := ∃ rv, RStk S w x rv M
theorem RStk.sub {S U : Nat → Prop} {w : World} {x : Nat} {rv : Value} {M : List El} (h : RStk S w x rv M) (k : ∀ i, U i → S i) : RStk U w x rv M :=
  ⟨fun i hi => h.low i (k i hi), h.blk, fun hx => h.out (k x hx), h.row.sub k, h.own⟩
theorem RStk.rest {S : Nat → Prop} {w : World} {x : Nat} {rv : Value} {M : List El} (h : RStk S w x rv M) : RStk (Rest w x rv) w x rv M :=
  ⟨fun _ hk => hk.1, h.blk, fun hx => hx.2.1 rfl, ⟨h.row.own, fun _ hg hR => hR.2.2 hg⟩, h.own⟩
theorem RStk.in_rest {S : Nat → Prop} {w : World} {x : Nat} {rv : Value} {M : List El} (h : RStk S w x rv M) (k : Nat) (hk : S k) : Rest w x rv k :=
  ⟨h.low k hk, fun e => h.out (e ▸ hk), fun e => h.row.out k e hk⟩
/-- The row of a stack is laid anew. -/
theorem RStk.laid2 {S : Nat → Prop} {w W : World} {x g n c : Nat} {V : Value} {M N : List El} (h : RStk S w x (.slice (some ⟨g, 0, none⟩) n c) M) (hg : w.grownBy W (some g)) (hr : Rw S W 34 4 V N.length (N.flatMap El.cs)) (ho : ∀ d ∈ N, Own w d.av d.al) :
    W.cell? ⟨x, 0, none⟩ = some (.slice (some ⟨g, 0, none⟩) n c) ∧ W.frozen? ⟨x, 0, none⟩ = false ∧ RStk S (W.setCell ⟨x, 0, none⟩ V) x V N ∧ Keep S w (W.setCell ⟨x, 0, none⟩ V) := by
  have hgx : g ≠ x := fun e => by
    obtain ⟨_, c', h5⟩ := own_blk h.row.own (show (Value.slice (some ⟨g, 0, none⟩) n c).ownBlock = some g from rfl)
    have := h.blk
    unfold Bx at this
    rw [e, this] at h5
    simp at h5
  have x3 : Bx W x 28 #[.slice (some ⟨g, 0, none⟩) n c] := (hg.block x h.lt (fun e => hgx (by simpa using e.symm))).trans h.blk
  have sz : (W.setCell ⟨x, 0, none⟩ V).heap.size = W.heap.size := World.size_setCell _ _ _
  have kk : ∀ k, k < w.heap.size → k ≠ g → k ≠ x → (W.setCell ⟨x, 0, none⟩ V).heap[k]? = w.heap[k]? := fun k h1 h2 h3 =>
    (heap_setCell_other W ⟨x, 0, none⟩ k _ h3).trans (hg.block k h1 (fun e => h2 (by simpa using e)))
  refine ⟨x3.cell 0, x3.frozen 0, ⟨fun k hk => ?_, by have := x3.set 0 V; exact this, h.out, hr.mv fun k hk => ?_, fun d hd => (ho d hd).mv fun k cu hk => ?_⟩, ⟨hg.os, hg.tape, hg.output, by rw [sz]; exact hg.size, fun k h1 h2 => kk k h2 (fun e => h.row.out g rfl (e ▸ h1)) (fun e => h.out (e ▸ h1))⟩⟩
  · rw [sz]
    exact Nat.lt_of_lt_of_le (h.low k hk) hg.size
  · refine heap_setCell_other W ⟨x, 0, none⟩ k _ (fun e => ?_)
    obtain ⟨_, c', h5⟩ := own_blk hr.own hk
    unfold Bx at x3
    rw [show k = x from e, x3] at h5
    simp at h5
  · refine kk k (Array.getElem?_eq_some_iff.1 hk).1 (fun e => ?_) (fun e => ?_)
    · obtain ⟨_, c', h5⟩ := own_blk h.row.own (show (Value.slice (some ⟨g, 0, none⟩) n c).ownBlock = some g from rfl)
      rw [e, h5] at hk
      simp at hk
    · have := h.blk
      unfold Bx at this
      rw [e, this] at hk
      simp at hk
/-- A row of a stack stands where four cells of a new box are written. -/
theorem RStk.box4 {S : Nat → Prop} {w : World} {x y : Nat} {rv : Value} {M : List El} (h : RStk S w x rv M) (hy : ¬ S y) {a : Array Value} (hb : Bx w y 34 a) (hry : rv.ownBlock ≠ some y) (u0 u1 u2 u3 : Value) :
    RStk S ((((w.setCell ⟨y, 0, none⟩ u0).setCell ⟨y, 1, none⟩ u1).setCell ⟨y, 2, none⟩ u2).setCell ⟨y, 3, none⟩ u3) x rv M ∧ Keep S w ((((w.setCell ⟨y, 0, none⟩ u0).setCell ⟨y, 1, none⟩ u1).setCell ⟨y, 2, none⟩ u2).setCell ⟨y, 3, none⟩ u3) := by
  have hxy : x ≠ y := fun e => by
    have := h.blk
    unfold Bx at this hb
    rw [e, hb] at this
    simp at this
  have sz : ((((w.setCell ⟨y, 0, none⟩ u0).setCell ⟨y, 1, none⟩ u1).setCell ⟨y, 2, none⟩ u2).setCell ⟨y, 3, none⟩ u3).heap.size = w.heap.size := by simp
  refine ⟨⟨fun k hk => by rw [sz]; exact h.low k hk, (Sm4 w y 0 _ _ _ _ x hxy).trans h.blk, h.out, h.row.mv fun k hk => Sm4 w y 0 _ _ _ _ k (fun e => hry (e ▸ hk)), fun d hd => (h.own d hd).mv fun k cu hk => Sm4 w y 0 _ _ _ _ k (fun e => ?_)⟩, ⟨rfl, rfl, rfl, by rw [sz]; exact Nat.le_refl _, fun k hk _ => Sm4 w y 0 _ _ _ _ k (fun e => hy (e ▸ hk))⟩⟩
  unfold Bx at hb
  rw [e, hb] at hk
  simp at hk

set_option maxHeartbeats 1000000 in
theorem rin_any {w : World} {lo : Option Addr} {l : List ByteArray} (h : StrRow w lo l) (n c : Nat) (hn : l.length = n) (hn2 : n ≤ 9223372036854775807) (nm : ByteArray) : Calls Tryd.prog 58 #[.string nm, .slice lo n c] w fun e w' => e = .returned (.bool (inP l nm)) ∧ w' = w := by
  obtain ⟨g, hg0⟩ : ∃ g, inP l nm = g := ⟨_, rfl⟩
  rw [hg0]
  have HG : Hid (inP l nm = g ∧ StrRow w lo l ∧ l.length = n) := ⟨hg0, h, hn⟩
  clear hg0 h hn
  go_enter Tryd.func58, Tryd.ntmps58
  go_wp2_with fail
  go_loop [5] (fun iv => ∃ i : Nat, iv = .int .i64 i ∧ i ≤ n ∧ Hid (inP (l.take i) nm = false)) (fun iv => n - (intOf iv).toNat)
  case atStart => exact ⟨0, rfl, Nat.zero_le _, by simp [Hid, inP]⟩
  case round =>
    obtain ⟨i, rfl, hi, HNO⟩ := hrel
    by_cases hin : i < n
    · have hil : i < l.length := by rw [HG.out.2.2]; exact hin
      obtain ⟨x, hx⟩ : ∃ x, l[i]? = some x := ⟨_, List.getElem?_eq_getElem hil⟩
      obtain ⟨b, off, rfl, _, c1⟩ := HG.out.2.1 i x hx
      have htk : l.take (i + 1) = l.take i ++ [x] := by rw [List.take_add_one, hx]; rfl
      have hbc : (x.toList == nm.toList) = (nm.toList == x.toList) := by rw [Bool.eq_iff_iff, beq_iff_eq, beq_iff_eq]; exact eq_comm
      cases hp : (nm.toList == x.toList) with
      | true =>
        have HF : Hid (g = true) := by
          have : inP l nm = true := List.any_eq_true.2 ⟨x, List.mem_of_getElem? hx, hp⟩
          exact HG.out.1.symm.trans this
        rw [hp] at hbc
        clear hx htk hil hp
        go_wp2_with fail
        go_ret
        rw [HF.out]
        exact ⟨rfl, rfl⟩
      | false =>
        have HF : Hid (inP (l.take (i + 1)) nm = false) := by
          have h1 := HNO.out
          unfold inP at h1
          show inP _ _ = _
          unfold inP
          rw [htk, List.any_append, h1]
          simp [hp]
        rw [hp] at hbc
        clear hx htk hil hp
        go_wp2_with fail
        exact ⟨⟨i + 1, by go_num, by omega, HF⟩, by simp [intOf]; omega⟩
    · have hg : decide ((i : Int) < (n : Int)) = false := decide_eq_false (by omega)
      have HF : Hid (g = false) := by
        have := HNO.out
        rw [List.take_of_length_le (by rw [HG.out.2.2]; omega)] at this
        exact HG.out.1.symm.trans this
      go_wp2_with fail
      go_ret
      rw [HF.out]
      exact ⟨rfl, rfl⟩
set_option maxHeartbeats 1000000 in
theorem ris_any {w : World} {lo : Option Addr} {l : List ByteArray} (h : StrRow w lo l) (n c : Nat) (hn : l.length = n) (hn2 : n ≤ 9223372036854775807) (id sp : Int) (nm : ByteArray) (ao : Option Addr) (an ac : Nat) :
    Calls Tryd.prog 49 #[.agg #[iv id, iv sp, .string nm, .slice ao an ac], .slice lo n c] w fun e w' => e = .returned (.bool (isP sp nm 0 l)) ∧ Below w.heap.size w w' := by
  obtain ⟨W1, hW1⟩ : ∃ W1, w.alloc (.cells #[iv id, iv sp, .string nm, .slice ao an ac] 34) = W1 := ⟨_, rfl⟩
  have HW1 : Hid (w.alloc (.cells #[iv id, iv sp, .string nm, .slice ao an ac] 34) = W1) := hW1
  have x1 : Bx W1 w.heap.size 34 #[iv id, iv sp, .string nm, .slice ao an ac] := by rw [← hW1]; exact heap_alloc_new w _
  have b1 : Below w.heap.size w W1 := by rw [← hW1]; exact (Below.refl _ _).alloc (Nat.le_refl _) _
  have HB : Hid (Below w.heap.size w W1) := b1
  clear hW1
  have k := rin_any (h.old b1) n c hn hn2 nm
  have c1 : W1.cell? ⟨w.heap.size, 1, none⟩ = some (iv sp) := x1.cell 1
  have c2 : W1.cell? ⟨w.heap.size, 2, none⟩ = some (.string nm) := x1.cell 2
  clear x1 b1 h hn hn2
  obtain ⟨r, hr⟩ : ∃ r, isP sp nm 0 l = r := ⟨_, rfl⟩
  have HR : Hid ((decide (sp = 0) && inP l nm) = r) := hr
  rw [hr]
  clear hr
  go_enter Tryd.func49, Tryd.ntmps49
  go_upto_region 1 with fail
  rw [HW1.out]
  by_cases hs : sp = 0
  · have hd : (sp == 0) = true := beq_iff_eq.2 hs
    have HQ : Hid (inP l nm = r) := by
      have := HR.out
      rw [decide_eq_true hs, Bool.true_and] at this
      exact this
    clear hs
    go_wp2_with fail
    refine k.mono ?_
    rintro e w' ⟨rfl, hw'⟩
    rw [hw']
    clear hw' k
    go_wp2_with fail
    go_ret
    rw [HQ.out]
    exact ⟨rfl, HB.out⟩
  · have hd : (sp == 0) = false := beq_false_of_ne hs
    have HQ : Hid (false = r) := by
      have := HR.out
      rw [decide_eq_false hs, Bool.false_and] at this
      exact this
    clear hs
    go_wp2_with fail
    go_ret
    rw [← HQ.out]
    exact ⟨rfl, HB.out⟩


/-- Among of a text that is some names with blanks between. -/
theorem one_names (s : ByteArray) : ∀ l : List ByteArray, (∀ x ∈ l, 0 < x.data.toList.length) → one s (l.map fun x => x.data.toList) = inP l s
  | [], _ => rfl
  | x :: l, h => by
    rw [List.map_cons, one_cons, one_names s l fun y hy => h y (List.mem_cons_of_mem _ hy)]
    have hx := h x (List.mem_cons_self ..)
    unfold inP
    rw [List.any_cons]
    congr 1
    rw [decide_eq_true hx, Bool.and_true, ByteArray.toList_eq, ByteArray.toList_eq, Bool.eq_iff_iff, beq_iff_eq, beq_iff_eq]
    exact eq_comm
theorem among_names (s t : ByteArray) (w : World) (l : List ByteArray) (h : words [] t.data.toList = l.map fun x => x.data.toList) (hl : ∀ x ∈ l, 0 < x.data.toList.length) (ht : t.size ≤ 100000) : Calls Tryd.prog 45 #[.string s, .string t] w fun e w' => e = .returned (.bool (inP l s)) ∧ w' = w := by
  have := among_any s t w ht
  rw [h, one_names s l hl] at this
  exact this
theorem ris_lit {w : World} (id sp : Int) (nm : ByteArray) (ao : Option Addr) (an ac : Nat) (l : List ByteArray) (n : Nat) (hn : l.length = n) (hn2 : n ≤ 9223372036854775807) (r : Array Value) (hr : r.toList = l.map Value.string) :
    Calls Tryd.prog 49 #[.agg #[iv id, iv sp, .string nm, .slice ao an ac], .slice (some ⟨w.heap.size, 0, none⟩) n n] (w.alloc (.cells r 9)) fun e w' => e = .returned (.bool (isP sp nm 0 l)) ∧ Below w.heap.size w w' := by
  have b1 : Below w.heap.size w (w.alloc (.cells r 9)) := (Below.refl _ _).alloc (Nat.le_refl _) _
  refine (ris_any (StrRow.box (heap_alloc_new w _) hr) n n hn hn2 id sp nm ao an ac).mono ?_
  rintro e w' ⟨rfl, b2⟩
  exact ⟨rfl, b1.trans (b2.mono b1.size)⟩
set_option maxHeartbeats 4000000 in
set_option maxRecDepth 20000 in
theorem rends_any (w : World) (scope id sp : Int) (nm : ByteArray) (ao : Option Addr) (an ac : Nat) :
    Calls Tryd.prog 50 #[iv scope, .agg #[iv id, iv sp, .string nm, .slice ao an ac]] w fun e w' => e = .returned (.bool (endsP scope sp nm)) ∧ Below w.heap.size w w' := by
  obtain ⟨W1, hW1⟩ : ∃ W1, w.alloc (.cells #[iv id, iv sp, .string nm, .slice ao an ac] 34) = W1 := ⟨_, rfl⟩
  have HW1 : Hid (w.alloc (.cells #[iv id, iv sp, .string nm, .slice ao an ac] 34) = W1) := hW1
  have x1 : Bx W1 w.heap.size 34 #[iv id, iv sp, .string nm, .slice ao an ac] := by rw [← hW1]; exact heap_alloc_new w _
  have b1 : Below w.heap.size w W1 := by rw [← hW1]; exact (Below.refl _ _).alloc (Nat.le_refl _) _
  have c0 : W1.cell? ⟨w.heap.size, 0, none⟩ = some (iv id) := x1.cell 0
  have c1 : W1.cell? ⟨w.heap.size, 1, none⟩ = some (iv sp) := x1.cell 1
  have c2 : W1.cell? ⟨w.heap.size, 2, none⟩ = some (.string nm) := x1.cell 2
  have c3 : W1.cell? ⟨w.heap.size, 3, none⟩ = some (.slice ao an ac) := x1.cell 3
  have HB : Hid (Below w.heap.size w W1) := b1
  clear hW1 x1 b1
  obtain ⟨r, hr⟩ : ∃ r, endsP scope sp nm = r := ⟨_, rfl⟩
  have HR : Hid (endsP scope sp nm = r) := hr
  rw [hr]
  clear hr
  go_enter Tryd.func50, Tryd.ntmps50
  go_upto_region 1 with fail
  rw [HW1.out]
  by_cases h3 : scope = 3
  · have HQ : Hid (isP sp nm 0 nHt = r) := by have := HR.out; unfold endsP at this; rw [if_pos h3] at this; exact this
    subst h3
    have k := ris_lit (w := W1) id sp nm ao an ac nHt 2 rfl (by decide) #[.string ⟨#[104, 116, 109, 108]⟩, .string ⟨#[116, 97, 98, 108, 101]⟩] rfl
    go_wp2_with fail
    refine k.mono ?_
    rintro e w2 ⟨rfl, b2⟩
    have HE : Hid (Below w.heap.size w w2) := HB.out.trans (b2.mono HB.out.size)
    clear b2 k c0 c1 c2 c3
    go_wp2_with fail
    go_ret
    rw [HQ.out]
    exact ⟨rfl, HE.out⟩
  · have hd : (scope == 3) = false := beq_false_of_ne h3
    have HQ : Hid ((if isP sp nm 0 nAll then true else if isP sp nm 2 nMath then true else if isP sp nm 1 nSvg then true else if scope = 1 then isP sp nm 0 nList else if scope = 2 then isP sp nm 0 nBut else false) = r) := by have := HR.out; unfold endsP at this; rw [if_neg h3] at this; exact this
    clear h3 HR
    by_cases hs2 : sp = 2
    · have HQ2 : Hid (inP nMath nm = r) := by
        have := HQ.out
        subst hs2
        simp [isP] at this
        exact this
      subst hs2
      have k := among_names nm ⟨#[109, 105, 32, 109, 111, 32, 109, 110, 32, 109, 115, 32, 109, 116, 101, 120, 116]⟩ W1 nMath (by decide +kernel) (by decide +kernel) (by decide)
      clear HQ
      go_wp2_with fail
      refine k.mono ?_
      rintro e w2 ⟨rfl, hw2⟩
      rw [hw2]
      clear hw2 k c0 c1 c2 c3
      go_wp2_with fail
      go_ret
      rw [HQ2.out]
      exact ⟨rfl, HB.out⟩
    · have hd2 : (sp == 2) = false := beq_false_of_ne hs2
      by_cases hs1 : sp = 1
      · have HQ2 : Hid (inP nSvg nm = r) := by
          have := HQ.out
          subst hs1
          simp [isP] at this
          exact this
        subst hs1
        have k := among_names nm ⟨#[102, 111, 114, 101, 105, 103, 110, 79, 98, 106, 101, 99, 116, 32, 100, 101, 115, 99, 32, 116, 105, 116, 108, 101]⟩ W1 nSvg (by decide +kernel) (by decide +kernel) (by decide)
        clear HQ hs2
        go_wp2_with fail
        refine k.mono ?_
        rintro e w2 ⟨rfl, hw2⟩
        rw [hw2]
        clear hw2 k c0 c1 c2 c3
        go_wp2_with fail
        go_ret
        rw [HQ2.out]
        exact ⟨rfl, HB.out⟩
      · have hd1 : (sp == 1) = false := beq_false_of_ne hs1
        by_cases hs0 : sp = 0
        · subst hs0
          have k := among_names nm ⟨#[97, 112, 112, 108, 101, 116, 32, 99, 97, 112, 116, 105, 111, 110, 32, 104, 116, 109, 108, 32, 116, 97, 98, 108, 101, 32, 116, 100, 32, 116, 104, 32, 109, 97, 114, 113, 117, 101, 101, 32, 111, 98, 106, 101, 99, 116]⟩ W1 nAll (by decide +kernel) (by decide +kernel) (by decide)
          have HQ2 : Hid ((if inP nAll nm then true else if scope = 1 then isP 0 nm 0 nList else if scope = 2 then isP 0 nm 0 nBut else false) = r) := by
            have := HQ.out
            simp only [isP, decide_true, Bool.true_and, show decide ((0 : Int) = 2) = false from rfl, show decide ((0 : Int) = 1) = false from rfl, Bool.false_and] at this
            show _ = _
            simpa [isP] using this
          clear HQ hs1 hs2
          go_wp2_with fail
          refine k.mono ?_
          rintro e w2 ⟨rfl, hw2⟩
          rw [hw2]
          clear hw2 k
          have HQ0 := HQ2.out
          clear HQ2
          cases hA : inP nAll nm with
          | true =>
            have HQ : Hid (true = r) := by rw [hA] at HQ0; exact HQ0
            clear HQ0 hA
            go_wp2_with fail
            go_ret
            rw [← HQ.out]
            exact ⟨rfl, HB.out⟩
          | false =>
            have HQ1 : (if scope = 1 then isP 0 nm 0 nList else if scope = 2 then isP 0 nm 0 nBut else false) = r := by rw [hA] at HQ0; exact HQ0
            clear HQ0 hA
            by_cases h1 : scope = 1
            · subst h1
              rw [if_pos rfl] at HQ1
              have k := ris_lit (w := W1) id 0 nm ao an ac nList 2 rfl (by decide) #[.string ⟨#[111, 108]⟩, .string ⟨#[117, 108]⟩] rfl
              have HQ : Hid (isP 0 nm 0 nList = r) := HQ1
              clear HQ1
              obtain ⟨q, hq⟩ : ∃ q, isP 0 nm 0 nList = q := ⟨_, rfl⟩
              rw [hq] at k
              have HQ3 : Hid (q = r) := by rw [← hq]; exact HQ.out
              clear hq HQ
              go_wp2_with fail
              refine k.mono ?_
              rintro e w2 ⟨rfl, b2⟩
              have HE : Hid (Below w.heap.size w w2) := HB.out.trans (b2.mono HB.out.size)
              clear b2 k c0 c1 c2 c3
              cases q
              all_goals
                go_wp2_with fail
                go_ret
                rw [← HQ3.out]
                exact ⟨rfl, HE.out⟩
            · have hd3 : (scope == 1) = false := beq_false_of_ne h1
              rw [if_neg h1] at HQ1
              clear h1
              by_cases h2 : scope = 2
              · subst h2
                rw [if_pos rfl] at HQ1
                have k := ris_lit (w := W1) id 0 nm ao an ac nBut 1 rfl (by decide) #[.string ⟨#[98, 117, 116, 116, 111, 110]⟩] rfl
                have HQ : Hid (isP 0 nm 0 nBut = r) := HQ1
                clear HQ1
                go_wp2_with fail
                refine k.mono ?_
                rintro e w2 ⟨rfl, b2⟩
                have HE : Hid (Below w.heap.size w w2) := HB.out.trans (b2.mono HB.out.size)
                clear b2 k c0 c1 c2 c3
                go_wp2_with fail
                go_ret
                rw [HQ.out]
                exact ⟨rfl, HE.out⟩
              · have hd4 : (scope == 2) = false := beq_false_of_ne h2
                rw [if_neg h2] at HQ1
                have HQ : Hid (false = r) := HQ1
                clear h2 HQ1
                go_wp2_with fail
                go_ret
                rw [← HQ.out]
                exact ⟨rfl, HB.out⟩
        · have hd0 : (sp == 0) = false := beq_false_of_ne hs0
          have HQ2 : Hid (false = r) := by
            have := HQ.out
            simp [isP, hs0, hs1, hs2] at this
            exact this.symm
          clear HQ hs0 hs1 hs2
          go_wp2_with fail
          go_ret
          rw [← HQ2.out]
          exact ⟨rfl, HB.out⟩
theorem first_any {w : World} {lo : Option Addr} {l : List ByteArray} (h : StrRow w lo l) (n c : Nat) (hn : l.length = n) : Calls Tryd.prog 31 #[.slice lo n c] w fun e w' => e = .returned (.string (l.headD ⟨#[]⟩)) ∧ w' = w := by
  cases l with
  | nil =>
    have hn' : n = 0 := hn.symm
    subst hn'
    clear h hn
    go_enter Tryd.func31, Tryd.ntmps31
    go_wp2_with fail
    go_ret
    exact ⟨rfl, rfl⟩
  | cons x l =>
    obtain ⟨b, off, rfl, _, c1⟩ := h 0 x rfl
    rw [Nat.add_zero] at c1
    have hn0 : 0 < n := by rw [← hn]; exact Nat.succ_pos _
    have hz : ((n : Int) == 0) = false := beq_false_of_ne (by omega)
    have hz2 : (0 : Int) < (n : Int) := by omega
    clear h hn
    go_enter Tryd.func31, Tryd.ntmps31
    go_wp2_with fail
    go_ret
    exact ⟨rfl, rfl⟩
end Go.Proofs.YtkmghkfdegdikaaDoor
