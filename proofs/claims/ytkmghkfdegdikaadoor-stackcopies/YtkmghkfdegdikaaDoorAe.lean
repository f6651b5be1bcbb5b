/- Whether an element has one of some names; what ends a scope; Has. -/
import Derived.Test.YtkmghkfdegdikaaDoorAd
namespace Go.Proofs.YtkmghkfdegdikaaDoor
open Go.RowKit

/-- Names that lie somewhere. -/
def StrRow (w : World) (lo : Option Addr) (l : List ByteArray) : Prop := ∀ (i : Nat) x, l[i]? = some x → ∃ b off, lo = some ⟨b, off, none⟩ ∧ b < w.heap.size ∧ w.cell? ⟨b, off + i, none⟩ = some (.string x)
theorem StrRow.old {w w' : World} {lo : Option Addr} {l : List ByteArray} (h : StrRow w lo l) (b : Below w.heap.size w w') : StrRow w' lo l := fun i x hx => by
  obtain ⟨k, off, h1, h2, h3⟩ := h i x hx
  exact ⟨k, off, h1, Nat.lt_of_lt_of_le h2 b.size, (b.cell (p := ⟨k, off + i, none⟩) h2).trans h3⟩
theorem StrRow.box {w : World} {b : Nat} {a : Array Value} {l : List ByteArray} (h : Bx w b 9 a) (ha : a.toList = l.map Value.string) : StrRow w (some ⟨b, 0, none⟩) l := fun i x hx => ⟨b, 0, rfl, h.lt, by
  rw [h.cell, Nat.zero_add, ← Array.getElem?_toList, ha, List.getElem?_map, hx]
  rfl⟩
theorem StrRow.none (w : World) (lo : Option Addr) : StrRow w lo [] := fun i x hx => by simp at hx
/-- Whether a name is among some. -/
def inP (l : List ByteArray) (nm : ByteArray) : Bool := l.any fun x => nm.toList == x.toList
set_option maxHeartbeats 1000000 in
theorem index_any {w : World} {lo : Option Addr} {l : List ByteArray} (h : StrRow w lo l) (n c : Nat) (hn : l.length = n) (hn2 : n ≤ 9223372036854775807) (nm : ByteArray) : Calls Tryd.prog 60 #[.slice lo n c, .string nm] w fun e w' => (∃ r : Int, e = .returned (iv r) ∧ decide (0 ≤ r) = inP l nm) ∧ w' = w := by
  obtain ⟨g, hg0⟩ : ∃ g, inP l nm = g := ⟨_, rfl⟩
  rw [hg0]
  have HG : Hid (inP l nm = g ∧ StrRow w lo l ∧ l.length = n) := ⟨hg0, h, hn⟩
  clear hg0 h hn
  go_enter Tryd.func60, Tryd.ntmps60
  go_wp2_with fail
  go_loop [8] (fun iv => ∃ i : Nat, iv = .int .i64 i ∧ i ≤ n ∧ Hid (inP (l.take i) nm = false)) (fun iv => n - (intOf iv).toNat)
  case atStart => exact ⟨0, rfl, Nat.zero_le _, by simp [Hid, inP]⟩
  case round =>
    obtain ⟨i, rfl, hi, HNO⟩ := hrel
    by_cases hin : i < n
    · have hil : i < l.length := by rw [HG.out.2.2]; exact hin
      obtain ⟨x, hx⟩ : ∃ x, l[i]? = some x := ⟨_, List.getElem?_eq_getElem hil⟩
      obtain ⟨b, off, rfl, _, c1⟩ := HG.out.2.1 i x hx
      have htk : l.take (i + 1) = l.take i ++ [x] := by rw [List.take_add_one, hx]; rfl
      cases hp : (nm.toList == x.toList) with
      | true =>
        have HF : Hid (g = true) := by
          have : inP l nm = true := List.any_eq_true.2 ⟨x, List.mem_of_getElem? hx, hp⟩
          exact HG.out.1.symm.trans this
        clear hx htk hil
        go_wp2_with fail
        go_ret
        rw [HF.out]
        exact ⟨⟨_, rfl, decide_eq_true (by omega)⟩, rfl⟩
      | false =>
        have HF : Hid (inP (l.take (i + 1)) nm = false) := by
          have h1 := HNO.out
          unfold inP at h1
          show inP _ _ = _
          unfold inP
          rw [htk, List.any_append, h1]
          simp [hp]
        clear hx htk hil
        go_wp2_with fail
        exact ⟨⟨i + 1, by go_num, by omega, HF⟩, by simp [intOf]; omega⟩
    · have hg : decide ((i : Int) < (n : Int)) = false := decide_eq_false (by omega)
      have HF : Hid (g = false) := by
        have := HNO.out
        rw [List.take_of_length_le (by rw [HG.out.2.2]; omega)] at this
        exact HG.out.1.symm.trans this
      go_wp2_with fail
      go_ret
      rw [HF.out]
      exact ⟨⟨_, rfl, rfl⟩, rfl⟩
theorem contains_any {w : World} {lo : Option Addr} {l : List ByteArray} (h : StrRow w lo l) (n c : Nat) (hn : l.length = n) (hn2 : n ≤ 9223372036854775807) (nm : ByteArray) : Calls Tryd.prog 52 #[.slice lo n c, .string nm] w fun e w' => e = .returned (.bool (inP l nm)) ∧ w' = w := by
  have k := index_any h n c hn hn2 nm
  generalize inP l nm = g at *
  clear h hn
  go_enter Tryd.func52, Tryd.ntmps52
  go_wp2_with fail
  refine k.mono ?_
  rintro e w' ⟨⟨r, rfl, hr⟩, rfl⟩
  clear k
  have HR : Hid (decide (0 ≤ r) = g) := hr
  clear hr
  go_wp2_with fail
  go_ret
  rw [← HR.out]
  exact ⟨rfl, rfl⟩

/-- Whether an element is of that space and has one of these names. -/
def isP (sp : Int) (nm : ByteArray) (space : Int) (l : List ByteArray) : Bool := decide (sp = space) && inP l nm
set_option maxHeartbeats 1000000 in
theorem is_any {w : World} {lo : Option Addr} {l : List ByteArray} (h : StrRow w lo l) (n c : Nat) (hn : l.length = n) (hn2 : n ≤ 9223372036854775807) (id sp : Int) (nm : ByteArray) (ao : Option Addr) (an ac : Nat) (space : Int) :
    Calls Tryd.prog 41 #[.agg #[iv id, iv sp, .string nm, .slice ao an ac], iv space, .slice lo n c] w fun e w' => e = .returned (.bool (isP sp nm space l)) ∧ Below w.heap.size w w' := by
  obtain ⟨W1, hW1⟩ : ∃ W1, w.alloc (.cells #[iv id, iv sp, .string nm, .slice ao an ac] 34) = W1 := ⟨_, rfl⟩
  have HW1 : Hid (w.alloc (.cells #[iv id, iv sp, .string nm, .slice ao an ac] 34) = W1) := hW1
  have x1 : Bx W1 w.heap.size 34 #[iv id, iv sp, .string nm, .slice ao an ac] := by rw [← hW1]; exact heap_alloc_new w _
  have b1 : Below w.heap.size w W1 := by rw [← hW1]; exact (Below.refl _ _).alloc (Nat.le_refl _) _
  have HB : Hid (Below w.heap.size w W1) := b1
  clear hW1
  have k := contains_any (h.old b1) n c hn hn2 nm
  have c1 : W1.cell? ⟨w.heap.size, 1, none⟩ = some (iv sp) := x1.cell 1
  have c2 : W1.cell? ⟨w.heap.size, 2, none⟩ = some (.string nm) := x1.cell 2
  clear x1 b1 h hn hn2
  obtain ⟨r, hr⟩ : ∃ r, isP sp nm space l = r := ⟨_, rfl⟩
  have HR : Hid ((decide (sp = space) && inP l nm) = r) := hr
  rw [hr]
  clear hr
  go_enter Tryd.func41, Tryd.ntmps41
  go_upto_region 1 with fail
  rw [HW1.out]
  by_cases hs : sp = space
  · have hd : (sp == space) = true := beq_iff_eq.2 hs
    have HQ : Hid (inP l nm = r) := by
      have := HR.out
      rw [decide_eq_true hs, Bool.true_and] at this
      exact this
    clear hs
    go_wp2_with fail
    refine k.mono ?_
    rintro e w' ⟨rfl, hw'⟩
    rw [hw']
    clear hw' k
    go_wp2_with fail
    go_ret
    rw [HQ.out]
    exact ⟨rfl, HB.out⟩
  · have hd : (sp == space) = false := beq_false_of_ne hs
    have HQ : Hid (false = r) := by
      have := HR.out
      rw [decide_eq_false hs, Bool.false_and] at this
      exact this
    clear hs
    go_wp2_with fail
    go_ret
    rw [← HQ.out]
    exact ⟨rfl, HB.out⟩

def nHt : List ByteArray := [⟨#[104, 116, 109, 108]⟩, ⟨#[116, 97, 98, 108, 101]⟩]
def nAll : List ByteArray := [⟨#[97, 112, 112, 108, 101, 116]⟩, ⟨#[99, 97, 112, 116, 105, 111, 110]⟩, ⟨#[104, 116, 109, 108]⟩, ⟨#[116, 97, 98, 108, 101]⟩, ⟨#[116, 100]⟩, ⟨#[116, 104]⟩, ⟨#[109, 97, 114, 113, 117, 101, 101]⟩, ⟨#[111, 98, 106, 101, 99, 116]⟩]
def nMath : List ByteArray := [⟨#[109, 105]⟩, ⟨#[109, 111]⟩, ⟨#[109, 110]⟩, ⟨#[109, 115]⟩, ⟨#[109, 116, 101, 120, 116]⟩]
def nSvg : List ByteArray := [⟨#[102, 111, 114, 101, 105, 103, 110, 79, 98, 106, 101, 99, 116]⟩, ⟨#[100, 101, 115, 99]⟩, ⟨#[116, 105, 116, 108, 101]⟩]
def nList : List ByteArray := [⟨#[111, 108]⟩, ⟨#[117, 108]⟩]
def nBut : List ByteArray := [⟨#[98, 117, 116, 116, 111, 110]⟩]
/-- Whether an element ends a scope. -/
def endsP (scope sp : Int) (nm : ByteArray) : Bool :=
  if scope = 3 then isP sp nm 0 nHt
  else if isP sp nm 0 nAll then true else if isP sp nm 2 nMath then true else if isP sp nm 1 nSvg then true
  else if scope = 1 then isP sp nm 0 nList else if scope = 2 then isP sp nm 0 nBut else false
/-- A call of 'is' with names that are written out, as the walk meets it: the row is made, then the call. -/
theorem is_lit {w : World} (id sp : Int) (nm : ByteArray) (ao : Option Addr) (an ac : Nat) (space : Int) {y : Nat} {a : Array Value} (l : List ByteArray) (n : Nat) (hn : l.length = n) (hn2 : n ≤ 9223372036854775807) (r : Array Value) (hr : r.toList = l.map Value.string) (hy : Bx w y 34 a) :
    Calls Tryd.prog 41 #[.agg #[iv id, iv sp, .string nm, .slice ao an ac], iv space, .slice (some ⟨w.heap.size, 0, none⟩) n n] (w.alloc (.cells r 9)) fun e w' => e = .returned (.bool (isP sp nm space l)) ∧ Bx w' y 34 a ∧ Below w.heap.size w w' := by
  have b1 : Below w.heap.size w (w.alloc (.cells r 9)) := (Below.refl _ _).alloc (Nat.le_refl _) _
  refine (is_any (StrRow.box (heap_alloc_new w _) hr) n n hn hn2 id sp nm ao an ac space).mono ?_
  rintro e w' ⟨rfl, b2⟩
  have b3 := b1.trans (b2.mono b1.size)
  exact ⟨rfl, hy.old b3, b3⟩
set_option maxHeartbeats 4000000 in
set_option maxRecDepth 20000 in
theorem ends_any (w : World) (scope id sp : Int) (nm : ByteArray) (ao : Option Addr) (an ac : Nat) :
    Calls Tryd.prog 42 #[iv scope, .agg #[iv id, iv sp, .string nm, .slice ao an ac]] w fun e w' => e = .returned (.bool (endsP scope sp nm)) ∧ Below w.heap.size w w' := by
  obtain ⟨W1, hW1⟩ : ∃ W1, w.alloc (.cells #[iv id, iv sp, .string nm, .slice ao an ac] 34) = W1 := ⟨_, rfl⟩
  have HW1 : Hid (w.alloc (.cells #[iv id, iv sp, .string nm, .slice ao an ac] 34) = W1) := hW1
  have x1 : Bx W1 w.heap.size 34 #[iv id, iv sp, .string nm, .slice ao an ac] := by rw [← hW1]; exact heap_alloc_new w _
  have b1 : Below w.heap.size w W1 := by rw [← hW1]; exact (Below.refl _ _).alloc (Nat.le_refl _) _
  have CC : Hid (∀ V : World, Bx V w.heap.size 34 #[iv id, iv sp, .string nm, .slice ao an ac] → V.cell? ⟨w.heap.size, 0, none⟩ = some (iv id) ∧ V.cell? ⟨w.heap.size, 1, none⟩ = some (iv sp) ∧ V.cell? ⟨w.heap.size, 2, none⟩ = some (.string nm) ∧ V.cell? ⟨w.heap.size, 3, none⟩ = some (.slice ao an ac)) := fun V h => ⟨h.cell 0, h.cell 1, h.cell 2, h.cell 3⟩
  clear hW1
  have HB : Hid (Bx W1 w.heap.size 34 #[iv id, iv sp, .string nm, .slice ao an ac] ∧ Below w.heap.size w W1) := ⟨x1, b1⟩
  obtain ⟨c0, c1, c2, c3⟩ := CC.out W1 x1
  clear x1 b1
  obtain ⟨r, hr⟩ : ∃ r, endsP scope sp nm = r := ⟨_, rfl⟩
  have HR : Hid (endsP scope sp nm = r) := hr
  rw [hr]
  clear hr
  go_enter Tryd.func42, Tryd.ntmps42
  go_upto_region 1 with fail
  rw [HW1.out]
  by_cases h3 : scope = 3
  · have hd : (scope == 3) = true := beq_iff_eq.2 h3
    have HQ : Hid (isP sp nm 0 nHt = r) := by have := HR.out; unfold endsP at this; rw [if_pos h3] at this; exact this
    clear h3
    have k := is_lit id sp nm ao an ac 0 nHt 2 rfl (by decide) #[.string ⟨#[104, 116, 109, 108]⟩, .string ⟨#[116, 97, 98, 108, 101]⟩] rfl HB.out.1
    go_wp2_with fail
    refine k.mono ?_
    rintro e w2 ⟨rfl, _, b2⟩
    have HE : Hid (Below w.heap.size w w2) := HB.out.2.trans (b2.mono HB.out.2.size)
    clear b2 k c0 c1 c2 c3
    go_wp2_with fail
    go_ret
    rw [HQ.out]
    exact ⟨rfl, HE.out⟩
  · have hd : (scope == 3) = false := beq_false_of_ne h3
    have HQ : Hid ((if isP sp nm 0 nAll then true else if isP sp nm 2 nMath then true else if isP sp nm 1 nSvg then true else if scope = 1 then isP sp nm 0 nList else if scope = 2 then isP sp nm 0 nBut else false) = r) := by have := HR.out; unfold endsP at this; rw [if_neg h3] at this; exact this
    clear h3
    have k := is_lit id sp nm ao an ac 0 nAll 8 rfl (by decide) #[.string ⟨#[97, 112, 112, 108, 101, 116]⟩, .string ⟨#[99, 97, 112, 116, 105, 111, 110]⟩, .string ⟨#[104, 116, 109, 108]⟩, .string ⟨#[116, 97, 98, 108, 101]⟩, .string ⟨#[116, 100]⟩, .string ⟨#[116, 104]⟩, .string ⟨#[109, 97, 114, 113, 117, 101, 101]⟩, .string ⟨#[111, 98, 106, 101, 99, 116]⟩] rfl HB.out.1
    go_upto_region 3 with fail
    go_wp2_with fail
    refine k.mono ?_
    rintro e w2 ⟨rfl, x2, b2⟩
    clear k c0 c1 c2 c3
    obtain ⟨c0, c1, c2, c3⟩ := CC.out w2 x2
    have HC : Hid (Bx w2 w.heap.size 34 #[iv id, iv sp, .string nm, .slice ao an ac] ∧ Below w.heap.size w w2) := ⟨x2, HB.out.2.trans (b2.mono HB.out.2.size)⟩
    clear x2 b2
    have HQ0 := HQ.out
    clear HQ
    cases hA : isP sp nm 0 nAll with
    | true =>
      have HQ : Hid (true = r) := by rw [hA] at HQ0; exact HQ0
      clear HQ0 hA
      go_wp2_with fail
      go_ret
      rw [← HQ.out]
      exact ⟨rfl, HC.out.2⟩
    | false =>
      have HQ : Hid ((if isP sp nm 2 nMath then true else if isP sp nm 1 nSvg then true else if scope = 1 then isP sp nm 0 nList else if scope = 2 then isP sp nm 0 nBut else false) = r) := by rw [hA] at HQ0; exact HQ0
      clear HQ0 hA
      have k := is_lit id sp nm ao an ac 2 nMath 5 rfl (by decide) #[.string ⟨#[109, 105]⟩, .string ⟨#[109, 111]⟩, .string ⟨#[109, 110]⟩, .string ⟨#[109, 115]⟩, .string ⟨#[109, 116, 101, 120, 116]⟩] rfl HC.out.1
      go_wp2_with fail
      refine k.mono ?_
      rintro e w3 ⟨rfl, x3, b3⟩
      clear k c0 c1 c2 c3
      obtain ⟨c0, c1, c2, c3⟩ := CC.out w3 x3
      have HD : Hid (Bx w3 w.heap.size 34 #[iv id, iv sp, .string nm, .slice ao an ac] ∧ Below w.heap.size w w3) := ⟨x3, HC.out.2.trans (b3.mono HC.out.2.size)⟩
      clear x3 b3 HC
      have HQ0 := HQ.out
      clear HQ
      cases hA : isP sp nm 2 nMath with
      | true =>
        have HQ : Hid (true = r) := by rw [hA] at HQ0; exact HQ0
        clear HQ0 hA
        go_wp2_with fail
        go_ret
        rw [← HQ.out]
        exact ⟨rfl, HD.out.2⟩
      | false =>
        have HQ : Hid ((if isP sp nm 1 nSvg then true else if scope = 1 then isP sp nm 0 nList else if scope = 2 then isP sp nm 0 nBut else false) = r) := by rw [hA] at HQ0; exact HQ0
        clear HQ0 hA
        have k := is_lit id sp nm ao an ac 1 nSvg 3 rfl (by decide) #[.string ⟨#[102, 111, 114, 101, 105, 103, 110, 79, 98, 106, 101, 99, 116]⟩, .string ⟨#[100, 101, 115, 99]⟩, .string ⟨#[116, 105, 116, 108, 101]⟩] rfl HD.out.1
        go_wp2_with fail
        refine k.mono ?_
        rintro e w4 ⟨rfl, x4, b4⟩
        clear k c0 c1 c2 c3
        obtain ⟨c0, c1, c2, c3⟩ := CC.out w4 x4
        have HE : Hid (Bx w4 w.heap.size 34 #[iv id, iv sp, .string nm, .slice ao an ac] ∧ Below w.heap.size w w4) := ⟨x4, HD.out.2.trans (b4.mono HD.out.2.size)⟩
        clear x4 b4 HD
        have HQ0 := HQ.out
        clear HQ
        cases hA : isP sp nm 1 nSvg with
        | true =>
          have HQ : Hid (true = r) := by rw [hA] at HQ0; exact HQ0
          clear HQ0 hA
          go_wp2_with fail
          go_ret
          rw [← HQ.out]
          exact ⟨rfl, HE.out.2⟩
        | false =>
          have HQ1 : (if scope = 1 then isP sp nm 0 nList else if scope = 2 then isP sp nm 0 nBut else false) = r := by rw [hA] at HQ0; exact HQ0
          clear HQ0 hA
          by_cases h1 : scope = 1
          · have hd1 : (scope == 1) = true := beq_iff_eq.2 h1
            have HQ : Hid (isP sp nm 0 nList = r) := by rw [if_pos h1] at HQ1; exact HQ1
            clear h1 HQ1
            have k := is_lit id sp nm ao an ac 0 nList 2 rfl (by decide) #[.string ⟨#[111, 108]⟩, .string ⟨#[117, 108]⟩] rfl HE.out.1
            go_wp2_with fail
            refine k.mono ?_
            rintro e w5 ⟨rfl, _, b5⟩
            have HF : Hid (Below w.heap.size w w5) := HE.out.2.trans (b5.mono HE.out.2.size)
            clear b5 k c0 c1 c2 c3
            go_wp2_with fail
            go_ret
            rw [HQ.out]
            exact ⟨rfl, HF.out⟩
          · have hd1 : (scope == 1) = false := beq_false_of_ne h1
            rw [if_neg h1] at HQ1
            clear h1
            by_cases h2 : scope = 2
            · have hd2 : (scope == 2) = true := beq_iff_eq.2 h2
              have HQ : Hid (isP sp nm 0 nBut = r) := by rw [if_pos h2] at HQ1; exact HQ1
              clear h2 HQ1
              have k := is_lit id sp nm ao an ac 0 nBut 1 rfl (by decide) #[.string ⟨#[98, 117, 116, 116, 111, 110]⟩] rfl HE.out.1
              go_wp2_with fail
              refine k.mono ?_
              rintro e w5 ⟨rfl, _, b5⟩
              have HF : Hid (Below w.heap.size w w5) := HE.out.2.trans (b5.mono HE.out.2.size)
              clear b5 k c0 c1 c2 c3
              go_wp2_with fail
              go_ret
              rw [HQ.out]
              exact ⟨rfl, HF.out⟩
            · have hd2 : (scope == 2) = false := beq_false_of_ne h2
              have HQ : Hid (false = r) := by rw [if_neg h2] at HQ1; exact HQ1
              clear h2 HQ1
              go_wp2_with fail
              go_ret
              rw [← HQ.out]
              exact ⟨rfl, HE.out.2⟩
end Go.Proofs.YtkmghkfdegdikaaDoor
