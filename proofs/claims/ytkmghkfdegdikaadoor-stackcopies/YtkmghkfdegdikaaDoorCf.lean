/- The document's Implied, Until. -/
import Derived.Test.YtkmghkfdegdikaaDoorCd
namespace Go.Proofs.YtkmghkfdegdikaaDoor
open Go.RowKit

/-- The document's stack and a row of what has been popped. -/
structure Imp (S : Nat → Prop) (w wr : World) (y : Nat) (lv u : Value) (N O : List El) : Prop where
  st : RStk S wr y lv N
  rw' : Rw (fun t => t < w.heap.size) wr 34 4 u O.length (O.flatMap El.cs)
  ap : ∀ t, u.ownBlock = some t → lv.ownBlock ≠ some t
  ow : ∀ d ∈ O, Own wr d.av d.al
  kp : Keep S w wr
theorem Imp.old {S : Nat → Prop} {w wr w' : World} {y : Nat} {lv u : Value} {N O : List El} (h : Imp S w wr y lv u N O) (b : Below wr.heap.size wr w') : Imp S w w' y lv u N O :=
  ⟨h.st.old b, h.rw'.old b, h.ap, fun d hd => (h.ow d hd).old b, h.kp.trans (Keep.old b)⟩
/-- What is popped is put behind. -/
theorem Imp.push {S : Nat → Prop} {w wr : World} {y : Nat} {lv u : Value} {N O : List El} (h : Imp S w wr y lv u N O) (hO : O.length ≤ 1000000000) (hlow : ∀ k, S k → k < w.heap.size) (d : El) {b : Nat} (hb : Bx wr b 34 d.arr) (ho : Own wr d.av d.al) :
    ∃ u' W, (Builtin.append_ #[26, 26] 26 #[u, .slice (some ⟨b, 0, none⟩) 1 1]).run Tryd.prog wr = .ok u' W ∧ Imp S w W y lv u' N (O ++ [d]) ∧ wr.grownBy W u.ownBlock := by
  obtain ⟨id, sp, nm, av, al⟩ := d
  obtain ⟨o1, c1, hav, _⟩ := ho.1.slice
  simp only at hav
  subst hav
  obtain ⟨u', W, q1, q2, q3, q4⟩ := Rw.app (t := 26) (e := 34) Tryd.underlying26 info34 rfl (by decide) h.rw' (fun k hk => Nat.lt_of_lt_of_le hk h.kp.size) b 0 1 1 [iv id, iv sp, .string nm, .slice o1 al.length c1] rfl
    (fun j u hj => by rw [Nat.zero_add, hb.cell j, ← hj]; simp) (by intro u hu; simp only [List.mem_cons, List.not_mem_nil, or_false] at hu; rcases hu with rfl | rfl | rfl | rfl <;> rfl) (by omega) (by omega)
  have own : ∀ {v : Value} {A : List At}, Own wr v A → Own W v A := fun {v A} q => q.mv fun g cur hg => q3.block g (Array.getElem?_eq_some_iff.1 hg).1 (fun e => by
    obtain ⟨_, c', h5⟩ := own_blk h.rw'.own e.symm
    rw [hg] at h5
    simp at h5)
  refine ⟨u', W, q1, ⟨⟨fun k hk => Nat.lt_of_lt_of_le (h.st.low k hk) q3.size, ?_, h.st.out, ?_, fun e he => own (h.st.own e he)⟩, ?_, ?_, fun e he => ?_, h.kp.trans ⟨q3.os, q3.tape, q3.output, q3.size, fun k hk hk2 => q3.block k hk2 (fun e => by
    have := h.rw'.out k e.symm
    exact this (hlow k hk))⟩⟩, q3⟩
  · refine (q3.block y h.st.lt (fun e => ?_)).trans h.st.blk
    obtain ⟨_, c', h5⟩ := own_blk h.rw'.own e.symm
    have := h.st.blk
    unfold Bx at this
    rw [this] at h5
    simp at h5
  · refine h.st.row.mv fun g hg => q3.block g (own_blk h.st.row.own hg).1 (fun e => h.ap g e.symm hg)
  · rw [List.length_append, List.flatMap_append]
    exact q2
  · intro t ht hl
    rcases q4 with q4 | q4
    · exact h.ap t (q4 ▸ ht) hl
    · rw [q4] at ht
      simp at ht
      obtain ⟨hlt, _⟩ := own_blk h.st.row.own hl
      omega
  · rcases List.mem_append.1 he with he | he
    · exact own (h.ow e he)
    · simp at he
      subst he
      exact own ho
/-- The topmost is popped. -/
theorem Imp.pop {S : Nat → Prop} {w wr : World} {y : Nat} {lv u : Value} {N O : List El} (h : Imp S w wr y lv u N O) {m : Nat} {d : El} (hm : N.length = m + 1) (hd : N[m]? = some d) (hM : m ≤ 100000000) :
    Calls Tryd.prog 29 #[ptr y] wr fun e w' => e = .returned (.tuple #[.agg d.arr, .bool true]) ∧ Own w' d.av d.al ∧ (∃ lv', Imp S w w' y lv' u (N.take m) O) ∧ ∀ b a, Bx wr b 34 a → lv.ownBlock ≠ some b → Bx w' b 34 a := by
  refine (rpop_any h.st.rest hm hd hM).mono ?_
  rintro e w' ⟨rfl, o1, ⟨lv', s1⟩, k1⟩
  have hin : ∀ t, t < wr.heap.size → t ≠ y → lv.ownBlock ≠ some t → w'.heap[t]? = wr.heap[t]? := fun t h1 h2 h3 => k1.block t ⟨h1, h2, h3⟩ h1
  have hty : ∀ {t : Nat} {cu : Array Value} {T : Nat}, wr.heap[t]? = some (.cells cu T (0, 0)) → T ≠ 28 → t ≠ y := fun {t cu T} ht hT e => by
    have := h.st.blk
    unfold Bx at this
    rw [e, this] at ht
    simp at ht
    exact hT ht.2.symm
  have own : ∀ {v : Value} {A : List At}, Own wr v A → Own w' v A := fun {v A} q => q.mv fun g cur hg => hin g (Array.getElem?_eq_some_iff.1 hg).1 (hty hg (by decide)) (fun e => by
    obtain ⟨_, c', h5⟩ := own_blk h.st.row.own e
    rw [hg] at h5
    simp at h5)
  refine ⟨rfl, o1, ⟨lv', ⟨s1.sub (fun i hi => h.st.in_rest i hi), h.rw'.mv fun g hg => ?_, fun t ht hl => ?_, fun q hq => own (h.ow q hq), h.kp.trans (k1.sub fun i hi => h.st.in_rest i hi)⟩⟩, fun b a hb hlb => ?_⟩
  · obtain ⟨h1, c, h2⟩ := own_blk h.rw'.own hg
    exact hin g h1 (hty h2 (by decide)) (h.ap g hg)
  · obtain ⟨h1, c, h2⟩ := own_blk h.rw'.own ht
    exact s1.row.out t hl ⟨h1, hty h2 (by decide), h.ap t ht⟩
  · exact (hin b hb.lt (hty hb (by decide)) hlb).trans hb
/-- What the document's Implied and Until leave and answer. -/
def RPop (S : Nat → Prop) (y : Nat) (M : List El) (left : Nat) (w : World) (e : Ending) (w' : World) : Prop := ∃ u, e = .returned u ∧ RStkE S w' y (M.take left) ∧ Keep S w w' ∧ Rw (fun k => k < w.heap.size) w' 34 4 u (M.length - left) ((M.drop left).reverse.flatMap El.cs) ∧ ∀ d ∈ M.drop left, Own w' d.av d.al
theorem Imp.fin {S : Nat → Prop} {w wr : World} {y : Nat} {lv u : Value} {M : List El} {g : Nat} (h : Imp S w wr y lv u (M.take g) (M.drop g).reverse) : RPop S y M g w (.returned u) wr := by
  refine ⟨u, rfl, ⟨lv, h.st⟩, h.kp, ?_, fun d hd => h.ow d (List.mem_reverse.2 hd)⟩
  have := h.rw'
  rw [List.length_reverse, List.length_drop] at this
  exact this
theorem drop_rev {M : List El} {k : Nat} {d : El} (h : M[k]? = some d) : (M.drop k).reverse = (M.drop (k + 1)).reverse ++ [d] := by
  obtain ⟨hk, e⟩ := List.getElem?_eq_some_iff.1 h
  rw [List.drop_eq_getElem_cons hk, e]
  simp
set_option maxHeartbeats 4000000 in
set_option maxRecDepth 20000 in
theorem rimplied_pop {S : Nat → Prop} {w : World} {y : Nat} {rv : Value} {M : List El} (h : RStk S w y rv M) (hM : M.length ≤ 100000000) (but : ByteArray) :
    Calls Tryd.prog 32 #[ptr y, .string but] w (RPop S y M (leftI but M M.length) w) := by
  obtain ⟨r, hr⟩ : ∃ r, leftI but M M.length = r := ⟨_, rfl⟩
  rw [hr]
  have HR : Hid (leftI but M M.length = r ∧ RStk S w y rv M ∧ M.length ≤ 100000000 ∧ ∀ k, S k → k < w.heap.size) := ⟨hr, h, hM, h.low⟩
  have h0 : Imp S w w y rv (.slice none 0 0) (M.take M.length) (M.drop M.length).reverse := by
    rw [List.take_length, List.drop_length]
    exact ⟨h, Rw.nil _ _ _ _, fun t ht => by simp [Value.ownBlock] at ht, fun d hd => by simp at hd, Keep.refl _ _⟩
  have H0 : Hid _ := h0
  obtain ⟨m, hm⟩ : ∃ m, M.length = m := ⟨_, rfl⟩
  have HM : Hid (M.length = m) := hm
  rw [hm] at H0
  clear hr h h0 hm
  go_enter Tryd.func32, Tryd.ntmps32
  go_wp2_with fail
  go_loopg [5] m (fun g ov wr => ∃ (oo : Option Addr) (oc : Nat) (ol : Nat) (lv : Value), ov = .slice oo ol oc ∧ g ≤ m ∧ Hid (Imp S w wr y lv (.slice oo ol oc) (M.take g) (M.drop g).reverse) ∧ Hid (leftI but M g = r))
  case atStart => exact ⟨none, 0, 0, rv, rfl, Nat.le_refl _, H0.out, by
    show _ = _
    rw [← HM.out]
    exact HR.out.1⟩
  case round =>
    obtain ⟨oo, oc, ol, lv, rfl, hg, HI, HS⟩ := hrel
    cases gk with
    | zero =>
      have kt := rtop_none (by
        have := HI.out.st
        rw [List.take_zero] at this
        exact this)
      have hr0 : 0 = r := HS.out
      go_wp2_with fail
      refine kt.mono ?_
      rintro e w2 ⟨rfl, b2⟩
      obtain ⟨W3, hW3, x3, b3⟩ := zbox w2
      have HW3 : Hid _ := hW3
      have HF : Hid (RPop S y M r w (.returned (.slice oo ol oc)) W3) := by
        rw [← hr0]
        exact ((HI.out.old b2).old b3).fin
      clear kt hr0 b2 b3 x3 hW3
      go_upto_region 3 with fail
      rw [HW3.out]
      go_wp2_with fail
      go_ret
      exact HF.out
    | succ k =>
      have hk : k < m := by omega
      obtain ⟨d, hd⟩ : ∃ d, M[k]? = some d := ⟨_, List.getElem?_eq_getElem (by rw [HM.out]; exact hk)⟩
      have hlk : (M.take (k + 1)).length = k + 1 := by rw [List.length_take, HM.out]; omega
      have hdk : (M.take (k + 1))[k]? = some d := by rw [List.getElem?_take_of_lt (by omega)]; exact hd
      have kt := rtop_any HI.out.st hlk hdk (by have := HR.out.2.2.1; have := HM.out; omega)
      have HN : Hid ((if impP but d.sp d.nm then leftI but M k else k + 1) = r) := by rw [← leftI_next hd]; exact HS.out
      have od := HI.out.st.own d (List.mem_of_getElem? hdk)
      obtain ⟨dao, dac, hdav, _⟩ := od.1.slice
      have HD : Hid (M[k]? = some d ∧ (M.take (k + 1)).length = k + 1 ∧ (M.take (k + 1))[k]? = some d) := ⟨hd, hlk, hdk⟩
      obtain ⟨id, sp, nm, av, al⟩ := d
      simp only at hdav
      subst hdav
      clear HS hlk hdk hd od
      go_wp2_with fail
      refine kt.mono ?_
      rintro e w2 ⟨rfl, b2⟩
      obtain ⟨W3, hW3⟩ : ∃ W3, w2.alloc (.cells #[Value.int IntKind.i64 id, Value.int IntKind.i64 sp, Value.string nm, Value.slice dao al.length dac] 34) = W3 := ⟨_, rfl⟩
      have HW3 : Hid (w2.alloc (.cells #[Value.int IntKind.i64 id, Value.int IntKind.i64 sp, Value.string nm, Value.slice dao al.length dac] 34) = W3) := hW3
      have x3 : Bx W3 w2.heap.size 34 #[iv id, iv sp, .string nm, .slice dao al.length dac] := by rw [← hW3]; exact heap_alloc_new w2 _
      have b3 : Below w2.heap.size w2 W3 := by rw [← hW3]; exact (Below.refl _ _).alloc (Nat.le_refl _) _
      have hlb : lv.ownBlock ≠ some w2.heap.size := fun e => by
        obtain ⟨q, _⟩ := own_blk (HI.out.st.old b2).row.own e
        omega
      have HJ : Hid (Imp S w W3 y lv (.slice oo ol oc) (M.take (k + 1)) (M.drop (k + 1)).reverse ∧ Bx W3 w2.heap.size 34 #[iv id, iv sp, .string nm, .slice dao al.length dac] ∧ lv.ownBlock ≠ some w2.heap.size) := ⟨(HI.out.old b2).old b3, x3, hlb⟩
      have c1 : W3.cell? ⟨w2.heap.size, 1, none⟩ = some (iv sp) := x3.cell 1
      have c2 : W3.cell? ⟨w2.heap.size, 2, none⟩ = some (.string nm) := x3.cell 2
      clear kt hW3 x3 b3 b2 hlb HI
      go_upto_region 3 with fail
      rw [HW3.out]
      have fin : impP but sp nm = false → Hid (RPop S y M r w (.returned (.slice oo ol oc)) W3) := fun hi => by
        have hn := HN.out
        simp only [hi] at hn
        rw [← show k + 1 = r from hn]
        exact HJ.out.1.fin
      by_cases h0 : sp = 0
      · have hn0 : impP but sp nm = (!(nm.toList == but.toList) && has 2 nm) := by unfold impP; rw [decide_eq_true h0, Bool.true_and]
        have kr := rimplied_any nm W3
        cases hh : has 2 nm with
        | false =>
          have HF := fin (by rw [hn0, hh, Bool.and_false])
          rw [hh] at kr
          clear fin hn0 hh
          subst h0
          go_wp2_with fail
          refine kr.mono ?_
          rintro e w4 ⟨rfl, hw4⟩
          rw [hw4]
          clear hw4 kr
          go_wp2_with fail
          go_ret
          exact HF.out
        | true =>
          rw [hh] at kr
          cases hb : (nm.toList == but.toList) with
          | true =>
            have HF := fin (by rw [hn0, hb]; rfl)
            clear fin hn0 hh
            subst h0
            go_wp2_with fail
            refine kr.mono ?_
            rintro e w4 ⟨rfl, hw4⟩
            rw [hw4]
            clear hw4 kr
            go_wp2_with fail
            go_ret
            exact HF.out
          | false =>
            have HS : Hid (leftI but M k = r) := by
              have hn := HN.out
              simp only [hn0, hb, hh] at hn
              exact hn
            have kp := HJ.out.1.pop HD.out.2.1 HD.out.2.2 (by have := HR.out.2.2.1; have := HM.out; omega)
            clear fin hn0 hh HN
            subst h0
            go_wp2_with fail
            refine kr.mono ?_
            rintro e w4 ⟨rfl, hw4⟩
            rw [hw4]
            clear hw4 kr
            go_wp2_with fail
            refine kp.mono ?_
            rintro e w5 ⟨rfl, o5, ⟨lv5, i5⟩, hbx⟩
            have x5 := hbx _ _ HJ.out.2.1 HJ.out.2.2
            have z0 : w5.cell? ⟨w2.heap.size, 0, none⟩ = some (iv id) := x5.cell 0
            have z1 : w5.cell? ⟨w2.heap.size, 1, none⟩ = some (iv 0) := x5.cell 1
            have z2 : w5.cell? ⟨w2.heap.size, 2, none⟩ = some (.string nm) := x5.cell 2
            have z3 : w5.cell? ⟨w2.heap.size, 3, none⟩ = some (.slice dao al.length dac) := x5.cell 3
            obtain ⟨W6, hW6⟩ : ∃ W6, w5.alloc (.cells #[iv id, iv 0, .string nm, .slice dao al.length dac] 34) = W6 := ⟨_, rfl⟩
            have HW6 : Hid (w5.alloc (.cells #[iv id, iv 0, .string nm, .slice dao al.length dac] 34) = W6) := hW6
            have x6 : Bx W6 w5.heap.size 34 #[iv id, iv 0, .string nm, .slice dao al.length dac] := by rw [← hW6]; exact heap_alloc_new w5 _
            have b6 : Below w5.heap.size w5 W6 := by rw [← hW6]; exact (Below.refl _ _).alloc (Nat.le_refl _) _
            have hol : (M.drop (k + 1)).reverse.length ≤ 1000000000 := by rw [List.length_reverse, List.length_drop]; have := HR.out.2.2.1; omega
            obtain ⟨u7, W7, hrun, i7, _⟩ := (i5.old b6).push hol HR.out.2.2.2 ⟨id, 0, nm, .slice dao al.length dac, al⟩ x6 (o5.old b6)
            rw [List.take_take, Nat.min_eq_left (by omega), ← drop_rev HD.out.1] at i7
            obtain ⟨o7, c7, rfl, _⟩ := i7.rw'.slice
            obtain ⟨l7, hl7⟩ : ∃ l7, (M.drop k).reverse.length = l7 := ⟨_, rfl⟩
            rw [hl7] at i7 hrun
            have HK : Hid (Imp S w W7 y lv5 (.slice o7 l7 c7) (M.take k) (M.drop k).reverse) := i7
            clear hl7
            have hrun' := hrun
            rw [← hW6] at hrun'
            clear kp o5 i5 hbx x5 x6 b6 i7 hrun hW6 HJ c1 c2
            go_wp2_with (at_builtin; refine list_append_eq rfl _ _ 26 26 rfl _ _ rfl rfl hrun' ?_)
            go_roundg k
            case measure => omega
            case rel => exact ⟨o7, c7, _, lv5, rfl, by omega, HK, HS⟩
      · have hn0 : impP but sp nm = false := by unfold impP; rw [decide_eq_false h0, Bool.false_and]
        have HF := fin hn0
        clear fin hn0
        go_wp2_with fail
        go_ret
        exact HF.out
set_option maxHeartbeats 4000000 in
set_option maxRecDepth 20000 in
theorem runtil_any {S : Nat → Prop} {w : World} {y : Nat} {rv : Value} {M : List El} (h : RStk S w y rv M) (hM : M.length ≤ 100000000) {lo : Option Addr} {l : List ByteArray} (hl : ∀ V, Keep S w V → StrRow V lo l) (n c : Nat) (hn : l.length = n) (hn2 : n ≤ 9223372036854775807) :
    Calls Tryd.prog 33 #[ptr y, .slice lo n c] w (RPop S y M (leftU l M (M.length - 1)) w) := by
  obtain ⟨r, hr⟩ : ∃ r, leftU l M (M.length - 1) = r := ⟨_, rfl⟩
  rw [hr]
  have HR : Hid (leftU l M (M.length - 1) = r ∧ RStk S w y rv M ∧ M.length ≤ 100000000 ∧ (∀ k, S k → k < w.heap.size) ∧ (∀ V, Keep S w V → StrRow V lo l) ∧ l.length = n ∧ n ≤ 9223372036854775807) := ⟨hr, h, hM, h.low, hl, hn, hn2⟩
  have h0 : Imp S w w y rv (.slice none 0 0) (M.take M.length) (M.drop M.length).reverse := by
    rw [List.take_length, List.drop_length]
    exact ⟨h, Rw.nil _ _ _ _, fun t ht => by simp [Value.ownBlock] at ht, fun d hd => by simp at hd, Keep.refl _ _⟩
  have H0 : Hid _ := h0
  obtain ⟨m, hm⟩ : ∃ m, M.length = m := ⟨_, rfl⟩
  have HM : Hid (M.length = m) := hm
  rw [hm] at H0
  clear hr h h0 hm hl hn hn2
  go_enter Tryd.func33, Tryd.ntmps33
  go_wp2_with fail
  go_loopg [5] m (fun g ov wr => ∃ (oo : Option Addr) (oc : Nat) (ol : Nat) (lv : Value), ov = .slice oo ol oc ∧ g ≤ m ∧ Hid (Imp S w wr y lv (.slice oo ol oc) (M.take g) (M.drop g).reverse) ∧ Hid (leftU l M (g - 1) = r))
  case atStart => exact ⟨none, 0, 0, rv, rfl, Nat.le_refl _, H0.out, by
    show _ = _
    rw [← HM.out]
    exact HR.out.1⟩
  case round =>
    obtain ⟨oo, oc, ol, lv, rfl, hg, HI, HS⟩ := hrel
    cases gk with
    | zero =>
      have kt := rpop_none (by
        have := HI.out.st
        rw [List.take_zero] at this
        exact this)
      have hr0 : 0 = r := HS.out
      go_wp2_with fail
      refine kt.mono ?_
      rintro e w2 ⟨rfl, b2⟩
      obtain ⟨W3, hW3, x3, b3⟩ := zbox w2
      have HW3 : Hid _ := hW3
      have HF : Hid (RPop S y M r w (.returned (.slice oo ol oc)) W3) := by
        rw [← hr0]
        exact ((HI.out.old b2).old b3).fin
      clear kt hr0 b2 b3 x3 hW3
      go_upto_region 3 with fail
      rw [HW3.out]
      go_wp2_with fail
      go_ret
      exact HF.out
    | succ k =>
      have hk : k < m := by omega
      obtain ⟨d, hd⟩ : ∃ d, M[k]? = some d := ⟨_, List.getElem?_eq_getElem (by rw [HM.out]; exact hk)⟩
      have hlk : (M.take (k + 1)).length = k + 1 := by rw [List.length_take, HM.out]; omega
      have hdk : (M.take (k + 1))[k]? = some d := by rw [List.getElem?_take_of_lt (by omega)]; exact hd
      have kp := HI.out.pop hlk hdk (by have := HR.out.2.2.1; have := HM.out; omega)
      have HN : Hid ((isP d.sp d.nm 0 l = true → k = r) ∧ (isP d.sp d.nm 0 l = false → leftU l M (k - 1) = r)) := by
        have hs : leftU l M k = r := HS.out
        cases k with
        | zero => exact ⟨fun _ => hs, fun _ => hs⟩
        | succ k =>
          rw [leftU_next hd] at hs
          exact ⟨fun e => by rw [if_pos e] at hs; exact hs, fun e => by rw [if_neg (by rw [e]; decide)] at hs; exact hs⟩
      have od := HI.out.st.own d (List.mem_of_getElem? hdk)
      obtain ⟨dao, dac, hdav, _⟩ := od.1.slice
      have HD : Hid (M[k]? = some d ∧ k < m) := ⟨hd, hk⟩
      obtain ⟨id, sp, nm, av, al⟩ := d
      simp only at hdav
      subst hdav
      clear HS hlk hdk hd od HI
      go_wp2_with fail
      refine kp.mono ?_
      rintro e w2 ⟨rfl, o2, ⟨lv2, i2⟩, _⟩
      clear kp
      obtain ⟨W3, hW3⟩ : ∃ W3, w2.alloc (.cells #[Value.int IntKind.i64 id, Value.int IntKind.i64 sp, Value.string nm, Value.slice dao al.length dac] 34) = W3 := ⟨_, rfl⟩
      have HW3 : Hid (w2.alloc (.cells #[Value.int IntKind.i64 id, Value.int IntKind.i64 sp, Value.string nm, Value.slice dao al.length dac] 34) = W3) := hW3
      have x3 : Bx W3 w2.heap.size 34 #[iv id, iv sp, .string nm, .slice dao al.length dac] := by rw [← hW3]; exact heap_alloc_new w2 _
      have b3 : Below w2.heap.size w2 W3 := by rw [← hW3]; exact (Below.refl _ _).alloc (Nat.le_refl _) _
      have z0 : W3.cell? ⟨w2.heap.size, 0, none⟩ = some (iv id) := x3.cell 0
      have z1 : W3.cell? ⟨w2.heap.size, 1, none⟩ = some (iv sp) := x3.cell 1
      have z2 : W3.cell? ⟨w2.heap.size, 2, none⟩ = some (.string nm) := x3.cell 2
      have z3 : W3.cell? ⟨w2.heap.size, 3, none⟩ = some (.slice dao al.length dac) := x3.cell 3
      obtain ⟨W6, hW6⟩ : ∃ W6, W3.alloc (.cells #[iv id, iv sp, .string nm, .slice dao al.length dac] 34) = W6 := ⟨_, rfl⟩
      have x6 : Bx W6 W3.heap.size 34 #[iv id, iv sp, .string nm, .slice dao al.length dac] := by rw [← hW6]; exact heap_alloc_new W3 _
      have b6 : Below W3.heap.size W3 W6 := by rw [← hW6]; exact (Below.refl _ _).alloc (Nat.le_refl _) _
      have b36 := b3.trans (b6.mono b3.size)
      have hol : (M.drop (k + 1)).reverse.length ≤ 1000000000 := by rw [List.length_reverse, List.length_drop]; have := HR.out.2.2.1; omega
      obtain ⟨u7, W7, hrun, i7, g7⟩ := (i2.old b36).push hol HR.out.2.2.2.1 ⟨id, sp, nm, .slice dao al.length dac, al⟩ x6 (o2.old b36)
      rw [List.take_take, Nat.min_eq_left (by omega), ← drop_rev HD.out.1] at i7
      obtain ⟨o7, c7, rfl, _⟩ := i7.rw'.slice
      obtain ⟨l7, hl7⟩ : ∃ l7, (M.drop k).reverse.length = l7 := ⟨_, rfl⟩
      rw [hl7] at i7 hrun
      -- the box of the element behind the append
      have hub : (Value.slice oo ol oc).ownBlock ≠ some w2.heap.size := fun e => by
        obtain ⟨q, _⟩ := own_blk i2.rw'.own e
        omega
      have x7 : Bx W7 w2.heap.size 34 #[iv id, iv sp, .string nm, .slice dao al.length dac] := (g7.block _ (Nat.lt_of_lt_of_le x3.lt b6.size) (fun e => hub e.symm)).trans (x3.old b6)
      have v0 : W7.cell? ⟨w2.heap.size, 0, none⟩ = some (iv id) := x7.cell 0
      have v1 : W7.cell? ⟨w2.heap.size, 1, none⟩ = some (iv sp) := x7.cell 1
      have v2 : W7.cell? ⟨w2.heap.size, 2, none⟩ = some (.string nm) := x7.cell 2
      have v3 : W7.cell? ⟨w2.heap.size, 3, none⟩ = some (.slice dao al.length dac) := x7.cell 3
      have ki := ris_any (HR.out.2.2.2.2.1 W7 i7.kp) n c HR.out.2.2.2.2.2.1 HR.out.2.2.2.2.2.2 id sp nm dao al.length dac
      have HK : Hid (Imp S w W7 y lv2 (.slice o7 l7 c7) (M.take k) (M.drop k).reverse) := i7
      have hrun' := hrun
      rw [← hW6] at hrun'
      clear hl7 hub x7 g7 i7 hrun hW6 x6 b6 b36 x3 b3 i2 o2 hW3 hol
      go_upto_region 3 with fail
      rw [HW3.out]
      go_wp2_with (at_builtin; refine list_append_eq rfl _ _ 26 26 rfl _ _ rfl rfl hrun' ?_)
      refine ki.mono ?_
      rintro e w8 ⟨rfl, b8⟩
      have HL : Hid (Imp S w w8 y lv2 (.slice o7 l7 c7) (M.take k) (M.drop k).reverse) := HK.out.old b8
      clear b8 ki HK v0 v1 v2 v3 z0 z1 z2 z3 hrun'
      cases hA : isP sp nm 0 l with
      | true =>
        have HF : Hid (RPop S y M r w (.returned (.slice o7 l7 c7)) w8) := by
          rw [← HN.out.1 hA]
          exact HL.out.fin
        clear hA
        go_wp2_with fail
        go_ret
        exact HF.out
      | false =>
        have HS : Hid (leftU l M (k - 1) = r) := HN.out.2 hA
        clear hA
        go_wp2_with fail
        go_roundg k
        case measure => omega
        case rel => exact ⟨o7, c7, l7, lv2, rfl, by omega, HL, HS⟩
end Go.Proofs.YtkmghkfdegdikaaDoor
