/- Has; implied. -/
import Derived.Test.YtkmghkfdegdikaaDoorAe
namespace Go.Proofs.YtkmghkfdegdikaaDoor
open Go.RowKit

/-- Whether one of some names is in a scope: the elements topmost first. -/
def hasS (names : List ByteArray) (scope : Int) : List El → Bool
  | [] => false
  | d :: L => if isP d.sp d.nm 0 names then true else if endsP scope d.sp d.nm then false else hasS names scope L
theorem take_rev {M : List El} {k : Nat} {d : El} (h : M[k]? = some d) : (M.take (k + 1)).reverse = d :: (M.take k).reverse := by
  rw [List.take_add_one, h]
  simp
theorem has_nil (w : World) (scope : Int) (lo : Option Addr) (n c : Nat) : Calls Tryd.prog 19 #[.pointer none, iv scope, .slice lo n c] w fun e w' => e = .returned (.bool false) ∧ w' = w := by
  go_enter Tryd.func19, Tryd.ntmps19
  go_wp2_with fail
  refine (size_nil w).mono ?_
  rintro e w' ⟨rfl, rfl⟩
  go_wp2_with fail
  go_loopg [7] 1 (fun _ av wr => av = iv (-1) ∧ wr = w')
  case atStart => exact ⟨rfl, rfl⟩
  case round =>
    obtain ⟨rfl, rfl⟩ := hrel
    go_wp2_with fail
    go_ret
    exact ⟨rfl, rfl⟩
set_option maxHeartbeats 2000000 in
set_option maxRecDepth 20000 in
theorem has_any {S : Nat → Prop} {w : World} {x : Nat} {rv : Value} {M : List El} (h : Stk S w x rv M) (hM : M.length ≤ 1000000000) (scope : Int) {lo : Option Addr} {l : List ByteArray} (hl : StrRow w lo l) (n c : Nat) (hn : l.length = n) (hn2 : n ≤ 9223372036854775807) :
    Calls Tryd.prog 19 #[ptr x, iv scope, .slice lo n c] w fun e w' => e = .returned (.bool (hasS l scope M.reverse)) ∧ Below w.heap.size w w' := by
  obtain ⟨r, hr⟩ : ∃ r, hasS l scope M.reverse = r := ⟨_, rfl⟩
  rw [hr]
  have HR : Hid (hasS l scope M.reverse = r ∧ Stk S w x rv M ∧ StrRow w lo l ∧ l.length = n ∧ n ≤ 9223372036854775807) := ⟨hr, h, hl, hn, hn2⟩
  have ks := size_any h
  clear hr hl hn hn2
  obtain ⟨m, hm⟩ : ∃ m, M.length = m := ⟨_, rfl⟩
  have HM : Hid (M.length = m) := hm
  rw [hm] at ks hM
  clear hm h
  go_enter Tryd.func19, Tryd.ntmps19
  go_wp2_with fail
  refine ks.mono ?_
  rintro e w' ⟨rfl, hw'⟩
  rw [hw']
  clear hw' ks w'
  go_wp2_with fail
  go_loopg [7] m (fun g av wr => ∃ z : Int, av = iv z ∧ z = (g : Int) - 1 ∧ g ≤ m ∧ Hid (Below w.heap.size w wr) ∧ Hid (hasS l scope (M.take g).reverse = r))
  case atStart => exact ⟨_, rfl, rfl, Nat.le_refl _, Below.refl _ _, by
    show _ = _
    rw [← HM.out, List.take_length]
    exact HR.out.1⟩
  case round =>
    obtain ⟨z, rfl, hz, hg, HB, HS⟩ := hrel
    cases gk with
    | zero =>
      obtain rfl : z = -1 := by omega
      clear hz
      have HF : Hid (false = r) := by
        have := HS.out
        rw [List.take_zero, List.reverse_nil] at this
        exact this
      clear HS
      go_wp2_with fail
      go_ret
      rw [← HF.out]
      exact ⟨rfl, HB.out⟩
    | succ k =>
      obtain rfl : z = (k : Int) := by omega
      clear hz
      have hk : k < m := by omega
      obtain ⟨d, hd⟩ : ∃ d, M[k]? = some d := ⟨_, List.getElem?_eq_getElem (by rw [HM.out]; exact hk)⟩
      have hs := (HR.out.2.1).old HB.out
      obtain ⟨g, cp, hrv, hc1, hc2, q0, q1, q2, q3, _⟩ := hs.at hd
      have cx : wr.cell? ⟨x, 0, none⟩ = some (.slice (some ⟨g, 0, none⟩) m cp) := by rw [hs.blk.cell 0, hrv, HM.out]; rfl
      have ho := hs.own d (List.mem_of_getElem? hd)
      have HT : Hid ((M.take (k + 1)).reverse = d :: (M.take k).reverse) := take_rev hd
      obtain ⟨ao, ac, hav, _⟩ := ho.1.slice
      obtain ⟨id, sp, nm, av, al⟩ := d
      simp only at hav q0 q1 q2 q3
      subst hav
      have k1 := is_any (HR.out.2.2.1.old HB.out) n c HR.out.2.2.2.1 HR.out.2.2.2.2 id sp nm ao al.length ac 0
      have HU : Hid (hasS l scope (⟨id, sp, nm, .slice ao al.length ac, al⟩ :: (M.take k).reverse) = r ∧ (∀ w2, Below wr.heap.size wr w2 → w2.cell? ⟨x, 0, none⟩ = some (.slice (some ⟨g, 0, none⟩) m cp) ∧ w2.cell? ⟨g, k * 4, none⟩ = some (iv id) ∧ w2.cell? ⟨g, k * 4 + 1, none⟩ = some (iv sp) ∧ w2.cell? ⟨g, k * 4 + 2, none⟩ = some (.string nm) ∧ w2.cell? ⟨g, k * 4 + 3, none⟩ = some (.slice ao al.length ac))) := ⟨by rw [← HT.out]; exact HS.out, fun w2 b2 => by
        have hs2 := hs.old b2
        obtain ⟨g', cp', hrv', _, _, p0, p1, p2, p3, _⟩ := hs2.at hd
        rw [hrv] at hrv'
        cases hrv'
        exact ⟨by rw [hs2.blk.cell 0, hrv, HM.out]; rfl, p0, p1, p2, p3⟩⟩
      clear hs hrv ho hd HS HT
      go_wp2_with fail
      refine k1.mono ?_
      rintro e w2 ⟨rfl, b2⟩
      clear k1 cx q0 q1 q2 q3
      have HC : Hid (Below wr.heap.size wr w2) := b2
      clear b2
      obtain ⟨cx, q0, q1, q2, q3⟩ := HU.out.2 w2 HC.out
      cases hA : isP sp nm 0 l with
      | true =>
        have HF : Hid (true = r) := by
          have := HU.out.1
          simp only [hasS, hA] at this
          exact this
        clear hA
        go_wp2_with fail
        go_ret
        rw [← HF.out]
        exact ⟨rfl, HB.out.trans (HC.out.mono HB.out.size)⟩
      | false =>
        have k2 := ends_any w2 scope id sp nm ao al.length ac
        have HF : Hid ((if endsP scope sp nm then false else hasS l scope (M.take k).reverse) = r) := by
          have := HU.out.1
          simp only [hasS, hA] at this
          exact this
        clear hA
        go_wp2_with fail
        refine k2.mono ?_
        rintro e w3 ⟨rfl, b3⟩
        clear k2 cx q0 q1 q2 q3
        have HD : Hid (Below w.heap.size w w3) := HB.out.trans ((HC.out.trans (b3.mono HC.out.size)).mono HB.out.size)
        clear b3
        cases hE : endsP scope sp nm with
        | true =>
          have HG : Hid (false = r) := by
            have := HF.out
            rw [hE] at this
            exact this
          clear hE
          go_wp2_with fail
          go_ret
          rw [← HG.out]
          exact ⟨rfl, HD.out⟩
        | false =>
          have HG : Hid (hasS l scope (M.take k).reverse = r) := by
            have := HF.out
            rw [hE] at this
            exact this
          clear hE
          go_wp2_with fail
          go_roundg k
          case measure => omega
          case rel => exact ⟨_, rfl, rfl, by omega, HD, HG⟩

/-- Whether an element's end tag may be implied, but not of one name. -/
def impP (but : ByteArray) (sp : Int) (nm : ByteArray) : Bool := decide (sp = 0) && (!(nm.toList == but.toList) && has 2 nm)
set_option maxHeartbeats 1000000 in
theorem impl_any {w : World} (T : Tb w) (id sp : Int) (nm : ByteArray) (ao : Option Addr) (an ac : Nat) (but : ByteArray) :
    Calls Tryd.prog 43 #[.agg #[iv id, iv sp, .string nm, .slice ao an ac], .string but] w fun e w' => e = .returned (.bool (impP but sp nm)) ∧ Below w.heap.size w w' := by
  obtain ⟨W1, hW1⟩ : ∃ W1, w.alloc (.cells #[iv id, iv sp, .string nm, .slice ao an ac] 34) = W1 := ⟨_, rfl⟩
  have HW1 : Hid (w.alloc (.cells #[iv id, iv sp, .string nm, .slice ao an ac] 34) = W1) := hW1
  have x1 : Bx W1 w.heap.size 34 #[iv id, iv sp, .string nm, .slice ao an ac] := by rw [← hW1]; exact heap_alloc_new w _
  have b1 : Below w.heap.size w W1 := by rw [← hW1]; exact (Below.refl _ _).alloc (Nat.le_refl _) _
  have HB : Hid (Below w.heap.size w W1) := b1
  clear hW1
  have k := implied_any nm (T.below b1)
  have c1 : W1.cell? ⟨w.heap.size, 1, none⟩ = some (iv sp) := x1.cell 1
  have c2 : W1.cell? ⟨w.heap.size, 2, none⟩ = some (.string nm) := x1.cell 2
  clear x1 b1 T
  obtain ⟨r, hr⟩ : ∃ r, impP but sp nm = r := ⟨_, rfl⟩
  have HR : Hid ((decide (sp = 0) && (!(nm.toList == but.toList) && has 2 nm)) = r) := hr
  rw [hr]
  clear hr
  go_enter Tryd.func43, Tryd.ntmps43
  go_upto_region 1 with fail
  rw [HW1.out]
  by_cases hs : sp = 0
  · have hd : (sp == 0) = true := beq_iff_eq.2 hs
    have HQ : Hid ((!(nm.toList == but.toList) && has 2 nm) = r) := by
      have := HR.out
      rw [decide_eq_true hs, Bool.true_and] at this
      exact this
    clear hs
    cases hq : (nm.toList == but.toList) with
    | true =>
      have HF : Hid (false = r) := by
        have := HQ.out
        rw [hq] at this
        exact this
      go_wp2_with fail
      go_ret
      rw [← HF.out]
      exact ⟨rfl, HB.out⟩
    | false =>
      have HF : Hid (has 2 nm = r) := by
        have := HQ.out
        rw [hq, Bool.not_false, Bool.true_and] at this
        exact this
      go_wp2_with fail
      refine k.mono ?_
      rintro e w' ⟨rfl, hw'⟩
      rw [hw']
      clear hw' k
      go_wp2_with fail
      go_ret
      rw [HF.out]
      exact ⟨rfl, HB.out⟩
  · have hd : (sp == 0) = false := beq_false_of_ne hs
    have HQ : Hid (false = r) := by
      have := HR.out
      rw [decide_eq_false hs, Bool.false_and] at this
      exact this
    clear hs
    go_wp2_with fail
    go_ret
    rw [← HQ.out]
    exact ⟨rfl, HB.out⟩
end Go.Proofs.YtkmghkfdegdikaaDoor
