/- Implied, Until. -/
import Derived.Test.YtkmghkfdegdikaaDoorAh
namespace Go.Proofs.YtkmghkfdegdikaaDoor
open Go.RowKit

theorem Popped.old {S : Nat → Prop} {x : Nat} {M : List El} {left : Nat} {w w1 : World} {e : Ending} {w' : World} (b : Below w.heap.size w w1) (h : Popped S x M left w1 e w') : Popped S x M left w e w' := by
  obtain ⟨v, rv, rfl, h1, h2, h3, h4⟩ := h
  exact ⟨v, rv, rfl, h1, (Keep.old b).trans h2, h3.sub (fun k hk => Nat.lt_of_lt_of_le hk b.size), h4⟩
theorem cut_at {S : Nat → Prop} {w : World} {x : Nat} {rv : Value} {M : List El} (h : Stk S w x rv M) (hM : M.length ≤ 1000000000) (left : Nat) (hleft : left ≤ M.length) (z : Int) (hz : z = (left : Int)) : Calls Tryd.prog 44 #[ptr x, iv z] w (Popped S x M left w) := by
  subst hz
  exact cut_any h hM left hleft
/-- How many stay behind Implied. -/
def leftI (but : ByteArray) (M : List El) : Nat → Nat
  | 0 => 0
  | k + 1 => match M[k]? with
    | some d => if impP but d.sp d.nm then leftI but M k else k + 1
    | none => k + 1
theorem leftI_le (but : ByteArray) (M : List El) : ∀ k, leftI but M k ≤ k
  | 0 => Nat.le_refl _
  | k + 1 => by
    rw [leftI]
    split
    · split
      · exact Nat.le_succ_of_le (leftI_le but M k)
      · exact Nat.le_refl _
    · exact Nat.le_refl _
theorem leftI_next {but : ByteArray} {M : List El} {k : Nat} {d : El} (h : M[k]? = some d) : leftI but M (k + 1) = if impP but d.sp d.nm then leftI but M k else k + 1 := by
  rw [leftI, h]
/-- How many stay behind Until. -/
def leftU (l : List ByteArray) (M : List El) : Nat → Nat
  | 0 => 0
  | k + 1 => match M[k + 1]? with
    | some d => if isP d.sp d.nm 0 l then k + 1 else leftU l M k
    | none => k + 1
theorem leftU_le (l : List ByteArray) (M : List El) : ∀ k, leftU l M k ≤ k
  | 0 => Nat.le_refl _
  | k + 1 => by
    rw [leftU]
    split
    · split
      · exact Nat.le_refl _
      · exact Nat.le_succ_of_le (leftU_le l M k)
    · exact Nat.le_refl _
theorem leftU_next {l : List ByteArray} {M : List El} {k : Nat} {d : El} (h : M[k + 1]? = some d) : leftU l M (k + 1) = if isP d.sp d.nm 0 l then k + 1 else leftU l M k := by
  rw [leftU, h]

theorem implied_nil (w : World) (but : ByteArray) : Calls Tryd.prog 20 #[.pointer none, .string but] w fun e w' => e = .returned (.slice none 0 0) ∧ w' = w := by
  have ks := size_nil w
  have kc : Calls Tryd.prog 44 #[.pointer none, iv 0] w fun e w' => e = .returned (.slice none 0 0) ∧ w' = w := by
    go_enter Tryd.func44, Tryd.ntmps44
    go_wp2_with fail
    refine ks.mono ?_
    rintro e w' ⟨rfl, rfl⟩
    go_wp2_with fail
    go_ret
    exact ⟨rfl, rfl⟩
  go_enter Tryd.func20, Tryd.ntmps20
  go_wp2_with fail
  refine ks.mono ?_
  rintro e w' ⟨rfl, rfl⟩
  go_wp2_with fail
  go_loopg [5] 1 (fun _ av wr => av = iv 0 ∧ wr = w')
  case atStart => exact ⟨rfl, rfl⟩
  case round =>
    obtain ⟨rfl, rfl⟩ := hrel
    go_wp2_with fail
    refine kc.mono ?_
    rintro e w' ⟨rfl, rfl⟩
    go_wp2_with fail
    go_ret
    exact ⟨rfl, rfl⟩
theorem until_nil (w : World) (lo : Option Addr) (n c : Nat) : Calls Tryd.prog 23 #[.pointer none, .slice lo n c] w fun e w' => e = .returned (.slice none 0 0) ∧ w' = w := by
  have ks := size_nil w
  have kc := cut_neg w (.pointer none) (-1) (by decide)
  go_enter Tryd.func23, Tryd.ntmps23
  go_wp2_with fail
  refine ks.mono ?_
  rintro e w' ⟨rfl, rfl⟩
  go_wp2_with fail
  go_loopg [5] 1 (fun _ av wr => av = iv (-1) ∧ wr = w')
  case atStart => exact ⟨rfl, rfl⟩
  case round =>
    obtain ⟨rfl, rfl⟩ := hrel
    go_wp2_with fail
    refine kc.mono ?_
    rintro e w' ⟨rfl, rfl⟩
    go_wp2_with fail
    go_ret
    exact ⟨rfl, rfl⟩
set_option maxHeartbeats 2000000 in
set_option maxRecDepth 20000 in
theorem implied_pop {S : Nat → Prop} {w : World} {x : Nat} {rv : Value} {M : List El} (T : Tb w) (h : Stk S w x rv M) (hM : M.length ≤ 1000000000) (but : ByteArray) :
    Calls Tryd.prog 20 #[ptr x, .string but] w (Popped S x M (leftI but M M.length) w) := by
  have ks := size_any h
  obtain ⟨r, hr⟩ : ∃ r, leftI but M M.length = r := ⟨_, rfl⟩
  have hrl := leftI_le but M M.length
  rw [hr] at hrl
  rw [hr]
  have HR : Hid (leftI but M M.length = r ∧ Stk S w x rv M ∧ Tb w ∧ r ≤ M.length ∧ M.length ≤ 1000000000) := ⟨hr, h, T, hrl, hM⟩
  obtain ⟨m, hm⟩ : ∃ m, M.length = m := ⟨_, rfl⟩
  have HM : Hid (M.length = m) := hm
  rw [hm] at ks hM
  clear hr T hm h hrl
  go_enter Tryd.func20, Tryd.ntmps20
  go_wp2_with fail
  refine ks.mono ?_
  rintro e w' ⟨rfl, hw'⟩
  rw [hw']
  clear hw' ks w'
  go_wp2_with fail
  go_loopg [5] m (fun g av wr => ∃ z : Int, av = iv z ∧ z = (g : Int) ∧ g ≤ m ∧ Hid (Below w.heap.size w wr) ∧ Hid (leftI but M g = r))
  case atStart => exact ⟨_, rfl, rfl, Nat.le_refl _, Below.refl _ _, by
    show _ = _
    rw [← HM.out]
    exact HR.out.1⟩
  case round =>
    obtain ⟨z, rfl, hz, hg, HB, HS⟩ := hrel
    cases gk with
    | zero =>
      obtain rfl : z = 0 := by omega
      have kc := cut_at (HR.out.2.1.old HB.out) HR.out.2.2.2.2 r HR.out.2.2.2.1 0 (by rw [← HS.out]; rfl)
      clear hz
      go_wp2_with fail
      refine kc.mono ?_
      rintro e w2 hp
      have HP : Hid _ := Popped.old HB.out hp
      obtain ⟨v, _, rfl, _⟩ := hp
      clear kc
      go_wp2_with fail
      go_ret
      exact HP.out
    | succ k =>
      obtain rfl : z = (k : Int) + 1 := by omega
      clear hz
      have hk : k < m := by omega
      obtain ⟨d, hd⟩ : ∃ d, M[k]? = some d := ⟨_, List.getElem?_eq_getElem (by rw [HM.out]; exact hk)⟩
      have hs := (HR.out.2.1).old HB.out
      obtain ⟨g, cp, hrv, hc1, hc2, q0, q1, q2, q3, _⟩ := hs.at hd
      have cx : wr.cell? ⟨x, 0, none⟩ = some (.slice (some ⟨g, 0, none⟩) m cp) := by rw [hs.blk.cell 0, hrv, HM.out]; rfl
      have ho := hs.own d (List.mem_of_getElem? hd)
      obtain ⟨ao, ac, hav, _⟩ := ho.1.slice
      have HN : Hid ((if impP but d.sp d.nm then leftI but M k else k + 1) = r) := by rw [← leftI_next hd]; exact HS.out
      obtain ⟨id, sp, nm, av, al⟩ := d
      simp only at hav q0 q1 q2 q3
      subst hav
      have k1 := impl_any (HR.out.2.2.1.below HB.out) id sp nm ao al.length ac but
      clear hs hrv ho hd HS
      go_wp2_with fail
      refine k1.mono ?_
      rintro e w2 ⟨rfl, b2⟩
      clear k1 cx q0 q1 q2 q3
      have HC : Hid (Below w.heap.size w w2) := HB.out.trans (b2.mono HB.out.size)
      clear b2 HB
      cases hA : impP but sp nm with
      | true =>
        have HG : Hid (leftI but M k = r) := by
          have := HN.out
          simp only [hA] at this
          exact this
        clear hA
        go_wp2_with fail
        go_roundg k
        case measure => omega
        case rel => exact ⟨_, rfl, by omega, by omega, HC, HG⟩
      | false =>
        have hrk : k + 1 = r := by
          have := HN.out
          simp only [hA] at this
          exact this
        have kc := cut_at (HR.out.2.1.old HC.out) HR.out.2.2.2.2 r HR.out.2.2.2.1 ((k : Int) + 1) (by rw [← hrk]; rfl)
        clear hA hrk
        go_wp2_with fail
        refine kc.mono ?_
        rintro e w3 hp
        have HP : Hid _ := Popped.old HC.out hp
        obtain ⟨v, _, rfl, _⟩ := hp
        clear kc
        go_wp2_with fail
        go_ret
        exact HP.out
set_option maxHeartbeats 2000000 in
set_option maxRecDepth 20000 in
theorem until_any {S : Nat → Prop} {w : World} {x : Nat} {rv : Value} {M : List El} (h : Stk S w x rv M) (hM : M.length ≤ 1000000000) {lo : Option Addr} {l : List ByteArray} (hl : StrRow w lo l) (n c : Nat) (hn : l.length = n) (hn2 : n ≤ 9223372036854775807) :
    Calls Tryd.prog 23 #[ptr x, .slice lo n c] w (Popped S x M (leftU l M (M.length - 1)) w) := by
  have ks := size_any h
  obtain ⟨r, hr⟩ : ∃ r, leftU l M (M.length - 1) = r := ⟨_, rfl⟩
  have hrl := leftU_le l M (M.length - 1)
  rw [hr] at hrl
  rw [hr]
  have HR : Hid (leftU l M (M.length - 1) = r ∧ Stk S w x rv M ∧ StrRow w lo l ∧ r ≤ M.length ∧ M.length ≤ 1000000000 ∧ l.length = n ∧ n ≤ 9223372036854775807) := ⟨hr, h, hl, by omega, hM, hn, hn2⟩
  obtain ⟨m, hm⟩ : ∃ m, M.length = m := ⟨_, rfl⟩
  have HM : Hid (M.length = m) := hm
  rw [hm] at ks hM
  clear hr hm h hrl hl hn hn2
  cases m with
  | zero =>
    have HZ : Hid (M = []) := List.eq_nil_of_length_eq_zero HM.out
    have kc := cut_neg w (ptr x) (-1) (by decide)
    have HF : Hid (Popped S x M r w (.returned (.slice none 0 0)) w) := by
      refine ⟨_, rv, rfl, ?_, Keep.refl _ _, ?_, HR.out.2.1.own⟩
      · have h2 := HR.out.2.1
        rw [HZ.out] at h2 ⊢
        rw [List.take_nil]
        exact h2
      · rw [HZ.out]
        simp only [List.length_nil, List.drop_nil, List.reverse_nil, List.flatMap_nil, Nat.zero_sub]
        exact Rw.nil _ _ _ _
    go_enter Tryd.func23, Tryd.ntmps23
    go_wp2_with fail
    refine ks.mono ?_
    rintro e w' ⟨rfl, hw'⟩
    rw [hw']
    clear hw' ks w'
    go_wp2_with fail
    go_loopg [5] 1 (fun _ av wr => av = iv (-1) ∧ wr = w)
    case atStart => exact ⟨rfl, rfl⟩
    case round =>
      obtain ⟨rfl, hwr⟩ := hrel
      rw [hwr]
      clear hwr
      go_wp2_with fail
      refine kc.mono ?_
      rintro e w' ⟨rfl, hw'⟩
      rw [hw']
      clear hw'
      go_wp2_with fail
      go_ret
      exact HF.out
  | succ m =>
    go_enter Tryd.func23, Tryd.ntmps23
    go_wp2_with fail
    refine ks.mono ?_
    rintro e w' ⟨rfl, hw'⟩
    rw [hw']
    clear hw' ks w'
    go_wp2_with fail
    go_loopg [5] m (fun g av wr => ∃ z : Int, av = iv z ∧ z = (g : Int) ∧ g ≤ m ∧ Hid (Below w.heap.size w wr) ∧ Hid (leftU l M g = r))
    case atStart => exact ⟨_, rfl, by omega, Nat.le_refl _, Below.refl _ _, by
      show _ = _
      have := HR.out.1
      rw [HM.out, Nat.add_sub_cancel] at this
      exact this⟩
    case round =>
      obtain ⟨z, rfl, hz, hg, HB, HS⟩ := hrel
      cases gk with
      | zero =>
        obtain rfl : z = 0 := by omega
        have kc := cut_at (HR.out.2.1.old HB.out) HR.out.2.2.2.2.1 r HR.out.2.2.2.1 0 (by rw [← HS.out]; rfl)
        clear hz
        go_wp2_with fail
        refine kc.mono ?_
        rintro e w2 hp
        have HP : Hid _ := Popped.old HB.out hp
        obtain ⟨v, _, rfl, _⟩ := hp
        clear kc
        go_wp2_with fail
        go_ret
        exact HP.out
      | succ k =>
        obtain rfl : z = ((k + 1 : Nat) : Int) := by omega
        clear hz
        have hk : k + 1 < m + 1 := by omega
        obtain ⟨k1, hk1⟩ : ∃ k1, k + 1 = k1 := ⟨_, rfl⟩
        obtain ⟨d, hd⟩ : ∃ d, M[k1]? = some d := ⟨_, List.getElem?_eq_getElem (by rw [HM.out]; omega)⟩
        have HN : Hid ((if isP d.sp d.nm 0 l then k1 else leftU l M k) = r) := by
          have := leftU_next (l := l) (k := k) (by rw [hk1]; exact hd)
          rw [← hk1, ← this]
          exact HS.out
        have hkz : (k1 : Int) - 1 = (k : Int) := by omega
        have hk0 : (0 : Int) < (k1 : Int) := by omega
        have hkm : k1 < m + 1 := by omega
        have hkr : k1 ≤ m := by omega
        rw [hk1]
        have hs := (HR.out.2.1).old HB.out
        obtain ⟨g, cp, hrv, hc1, hc2, q0, q1, q2, q3, _⟩ := hs.at hd
        have cx : wr.cell? ⟨x, 0, none⟩ = some (.slice (some ⟨g, 0, none⟩) (m + 1) cp) := by rw [hs.blk.cell 0, hrv, HM.out]; rfl
        have ho := hs.own d (List.mem_of_getElem? hd)
        obtain ⟨ao, ac, hav, _⟩ := ho.1.slice
        obtain ⟨id, sp, nm, av, al⟩ := d
        simp only at hav q0 q1 q2 q3
        subst hav
        have k1' := is_any (HR.out.2.2.1.old HB.out) n c HR.out.2.2.2.2.2.1 HR.out.2.2.2.2.2.2 id sp nm ao al.length ac 0
        have HK : Hid (k + 1 = k1 ∧ (k1 : Int) - 1 = (k : Int)) := ⟨hk1, hkz⟩
        clear hs hrv ho hd HS hk1 hkz
        go_wp2_with fail
        refine k1'.mono ?_
        rintro e w2 ⟨rfl, b2⟩
        clear k1' cx q0 q1 q2 q3
        have HC : Hid (Below w.heap.size w w2) := HB.out.trans (b2.mono HB.out.size)
        clear b2 HB
        cases hA : isP sp nm 0 l with
        | true =>
          have hrk : k1 = r := by
            have := HN.out
            simp only [hA] at this
            exact this
          have kc := cut_at (HR.out.2.1.old HC.out) HR.out.2.2.2.2.1 r HR.out.2.2.2.1 (k1 : Int) (by rw [← hrk])
          clear hA hrk
          go_wp2_with fail
          refine kc.mono ?_
          rintro e w3 hp
          have HP : Hid _ := Popped.old HC.out hp
          obtain ⟨v, _, rfl, _⟩ := hp
          clear kc
          go_wp2_with fail
          go_ret
          exact HP.out
        | false =>
          have HG : Hid (leftU l M k = r) := by
            have := HN.out
            simp only [hA] at this
            exact this
          clear hA
          go_wp2_with fail
          go_roundg k
          case measure => omega
          case rel => exact ⟨_, rfl, HK.out.2, by omega, HC, HG⟩
end Go.Proofs.YtkmghkfdegdikaaDoor
