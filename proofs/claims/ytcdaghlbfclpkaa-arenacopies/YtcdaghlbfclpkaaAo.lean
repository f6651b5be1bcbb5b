/- wants; a node's fields are set: SetText, SetEnd. -/
import Derived.Test.YtcdaghlbfclpkaaAc
import Derived.Test.YtcdaghlbfclpkaaAd
namespace Go.Proofs.Ytcdaghlbfclpkaa
open Go.RowKit

/-- What is wrong with a node that must be of a kind from a to b. -/
def wantP (N : List Nd) (i a b : Int) : Int := if 0 ≤ i then match N[i.toNat]? with | some d => if d.kind < a ∨ d.kind > b then 3 else 0 | none => 4 else 4
theorem wants_any {S : Nat → Prop} {w : World} {x g n cn h cs k ce : Nat} {N : List Nd} {P : List Sp} {E : List En} (o : Op3 S w x g n cn h cs k ce N P E) (i a b : Int) :
    Calls Try.prog 49 #[ptr x, iv i, iv a, iv b] w (Rd (iv (wantP N i a b)) w) := by
  have kh := has_any o i
  cases hb : isN n i with
  | false =>
    have hp : wantP N i a b = 4 := by
      unfold wantP
      by_cases h0 : 0 ≤ i
      · have : ¬ i < (n : Int) := by simp [isN, h0] at hb; omega
        rw [if_pos h0, List.getElem?_eq_none (by rw [o.nn]; omega)]
      · rw [if_neg h0]
    rw [hp]
    rw [hb] at kh
    clear o hb hp
    go_enter Try.func49, Try.ntmps49
    go_wp2_with fail
    refine kh.mono ?_
    rintro e w' ⟨rfl, rfl⟩
    go_wp2_with fail
    go_ret
    exact ⟨rfl, rfl⟩
  | true =>
    rw [hb] at kh
    obtain ⟨j, rfl, hj⟩ := isN_nat hb
    obtain ⟨d, hd⟩ := o.ndAt hj
    obtain ⟨c0, _, _⟩ := o.c
    have d1 : w.cell? ⟨g, j * 11 + 1, none⟩ = some (iv d.kind) := o.nd (j := 1) hd (by decide)
    have hj2 : (j : Int) < (n : Int) := by omega
    have hp : wantP N (j : Int) a b = if d.kind < a ∨ d.kind > b then 3 else 0 := by simp [wantP, hd]
    rw [hp]
    obtain ⟨kd, hk⟩ : ∃ kd, d.kind = kd := ⟨_, rfl⟩
    rw [hk] at d1 ⊢
    clear o hb hp hd hk
    by_cases h1 : kd < a
    · have q1 : decide (kd < a) = true := decide_eq_true h1
      rw [if_pos (.inl h1)]
      clear h1
      go_enter Try.func49, Try.ntmps49
      go_wp2_with fail
      refine kh.mono ?_
      rintro e w' ⟨rfl, rfl⟩
      go_wp2_with fail
      go_ret
      exact ⟨rfl, rfl⟩
    · have q1 : decide (kd < a) = false := decide_eq_false h1
      by_cases h2 : kd > b
      · have q2 : decide (kd > b) = true := decide_eq_true h2
        rw [if_pos (.inr h2)]
        clear h1 h2
        go_enter Try.func49, Try.ntmps49
        go_wp2_with fail
        refine kh.mono ?_
        rintro e w' ⟨rfl, rfl⟩
        go_wp2_with fail
        go_ret
        exact ⟨rfl, rfl⟩
      · have q2 : decide (kd > b) = false := decide_eq_false h2
        rw [if_neg (by omega)]
        clear h1 h2
        go_enter Try.func49, Try.ntmps49
        go_wp2_with fail
        refine kh.mono ?_
        rintro e w' ⟨rfl, rfl⟩
        go_wp2_with fail
        go_ret
        exact ⟨rfl, rfl⟩

theorem ArV.putN {S : Nat → Prop} {w w' : World} {x : Nat} {nv sv ev : Value} {N N' : List Nd} {P : List Sp} {E : List En} (h : ArV S w x nv sv ev N P E) (g : w.grownBy w' nv.ownBlock) (hr : Rw S w' 35 11 nv N'.length (N'.flatMap Nd.cells)) (hl : N'.length = N.length) (ha : ∀ d ∈ N', Rw S w 53 2 d.av d.al.length (d.al.flatMap At.cells)) : ArV S w' x nv sv ev N' P E ∧ Keep S w w' := by
  have k : ∀ d, d < w.heap.size → ∀ (cur : Array Value) t z, w.heap[d]? = some (.cells cur t z) → t ≠ 35 → w'.heap[d]? = w.heap[d]? := fun d hd cur t z hc ht => g.block d hd (fun e => by
    obtain ⟨_, c, h2⟩ := own_blk h.nr.own e.symm
    rw [hc] at h2
    simp at h2
    exact ht h2.2.1)
  have k' : ∀ {e s n : Nat} {v : Value} {xs : List Value}, Rw S w e s v n xs → e ≠ 35 → Rw S w' e s v n xs := fun hq he => hq.mv fun g hg => by
    obtain ⟨h1, c, h2⟩ := own_blk hq.own hg
    exact k g h1 _ _ _ h2 he
  exact ⟨⟨fun k hk => Nat.lt_of_lt_of_le (h.low k hk) g.size, h.hx, (k x (Array.getElem?_eq_some_iff.1 h.blk).1 _ _ _ h.blk (by decide)).trans h.blk, hr, k' h.sr (by decide), k' h.er (by decide), fun d hd => k' (ha d hd) (by decide), h.pl.trans hl.symm, h.el.trans hl.symm, by rw [hl]; exact h.few⟩, Keep.grown g h.nr.out⟩
theorem Op3.setN {S : Nat → Prop} {w : World} {x g n cn h cs k ce : Nat} {N : List Nd} {P : List Sp} {E : List En} (o : Op3 S w x g n cn h cs k ce N P E) {i j : Nat} {d d' : Nd} {u : Value} (hs : N[i]? = some d) (hj : j < 11) (hu : d.cells.set j u = d'.cells) (ha : Rw S w 53 2 d'.av d'.al.length (d'.al.flatMap At.cells)) :
    Op3 S (w.setCell ⟨g, i * 11 + j, none⟩ u) x g n cn h cs k ce (N.set i d') P E ∧ Keep S w (w.setCell ⟨g, i * 11 + j, none⟩ u) ∧ w.frozen? ⟨g, i * 11 + j, none⟩ = false := by
  have hr := o.v.nr
  rw [o.nn] at hr
  obtain ⟨r1, r2⟩ := hr.set (i * 11 + j) u
  rw [fl_set Nd.cells 11 (fun _ => rfl) N i j d d' u hs hj hu] at r1
  obtain ⟨q1, q2⟩ := o.v.putN (N' := N.set i d') r2 (by rw [List.length_set, o.nn]; exact r1) (by rw [List.length_set]) (fun q hq => by
    rcases List.mem_or_eq_of_mem_set hq with h1 | rfl
    · exact o.v.ats q h1
    · exact ha)
  exact ⟨⟨q1, by rw [List.length_set]; exact o.nn⟩, q2, World.ownsRow.frozenAt hr.own _⟩
theorem text_no {S : Nat → Prop} {w : World} {x g n cn h cs k ce : Nat} {N : List Nd} {P : List Sp} {E : List En} (o : Op3 S w x g n cn h cs k ce N P E) {i e : Int} (s : ByteArray) (he : wantP N i 2 3 = e) (h0 : e ≠ 0) :
    Calls Try.prog 27 #[ptr x, iv i, .string s] w (Rd (iv e) w) := by
  have k := wants_any o i 2 3
  rw [he] at k
  clear o he
  go_enter Try.func27, Try.ntmps27
  go_wp2_with fail
  refine k.mono ?_
  rintro e w' ⟨rfl, rfl⟩
  go_wp2_with fail
  go_ret
  exact ⟨rfl, rfl⟩
theorem text_any {S : Nat → Prop} {w : World} {x g n cn h cs k ce : Nat} {N : List Nd} {P : List Sp} {E : List En} (o : Op3 S w x g n cn h cs k ce N P E) {i : Nat} {d : Nd} (s : ByteArray) (hd : N[i]? = some d) (he : wantP N (i : Int) 2 3 = 0) :
    Calls Try.prog 27 #[ptr x, iv (i : Int), .string s] w (fun e w' => e = .returned (iv 0) ∧ Op3 S w' x g n cn h cs k ce (N.set i { d with text := s }) P E ∧ Keep S w w') := by
  have kw := wants_any o (i : Int) 2 3
  rw [he] at kw
  have hj : i < n := by rw [← o.nn]; exact (List.getElem?_eq_some_iff.1 hd).1
  have hj2 : (i : Int) < (n : Int) := by omega
  obtain ⟨c0, _, _⟩ := o.c
  have d4 : w.cell? ⟨g, i * 11 + 4, none⟩ = some (.string d.text) := o.nd (j := 4) hd (by decide)
  obtain ⟨o1, k1, f4⟩ := o.setN (j := 4) (d' := { d with text := s }) (u := .string s) hd (by decide) rfl (o.v.ats d (List.mem_of_getElem? hd))
  have HZ : Hid (Op3 S (w.setCell ⟨g, i * 11 + 4, none⟩ (.string s)) x g n cn h cs k ce (N.set i { d with text := s }) P E ∧ Keep S w (w.setCell ⟨g, i * 11 + 4, none⟩ (.string s))) := ⟨o1, k1⟩
  clear o he hd o1 k1
  go_enter Try.func27, Try.ntmps27
  go_wp2_with fail
  refine kw.mono ?_
  rintro e w' ⟨rfl, rfl⟩
  go_wp2_with fail
  go_ret
  exact ⟨rfl, HZ.out⟩
set_option maxHeartbeats 1000000 in
theorem end_no {S : Nat → Prop} {w : World} {x g n cn h cs k ce : Nat} {N : List Nd} {P : List Sp} {E : List En} (o : Op3 S w x g n cn h cs k ce N P E) {i e : Int} (f t : Int) (he : wantP N i 1 1 = e) (h0 : e ≠ 0) :
    Calls Try.prog 29 #[ptr x, iv i, .agg #[iv f, iv t]] w (fun e' w' => e' = .returned (iv e) ∧ Below w.heap.size w w') := by
  have b0 : Below w.heap.size w (w.alloc (.cells #[iv f, iv t] 32)) := (Below.refl _ _).alloc (Nat.le_refl _) _
  have kw := wants_any (o := ⟨o.v.old b0, o.nn⟩) i 1 1
  rw [he] at kw
  have HB : Hid (Below w.heap.size w (w.alloc (.cells #[iv f, iv t] 32))) := b0
  clear o he b0
  go_enter Try.func29, Try.ntmps29
  go_wp2_with fail
  refine kw.mono ?_
  rintro e w' ⟨rfl, rfl⟩
  go_wp2_with fail
  go_ret
  exact ⟨rfl, HB.out⟩
set_option maxHeartbeats 1000000 in
theorem end_any {S : Nat → Prop} {w : World} {x g n cn h cs k ce : Nat} {N : List Nd} {P : List Sp} {E : List En} (o : Op3 S w x g n cn h cs k ce N P E) {i : Nat} {d : Nd} (f t : Int) (hd : N[i]? = some d) (he : wantP N (i : Int) 1 1 = 0) :
    Calls Try.prog 29 #[ptr x, iv (i : Int), .agg #[iv f, iv t]] w (fun e w' => e = .returned (iv 0) ∧ Op3 S w' x g n cn h cs k ce (N.set i { d with ef := f, et := t }) P E ∧ Keep S w w') := by
  have b0 : Below w.heap.size w (w.alloc (.cells #[iv f, iv t] 32)) := (Below.refl _ _).alloc (Nat.le_refl _) _
  have n0 := heap_alloc_new w (.cells #[iv f, iv t] 32)
  obtain ⟨W0, hW0⟩ : ∃ W0, w.alloc (.cells #[iv f, iv t] 32) = W0 := ⟨_, rfl⟩
  have HW0 : Hid (w.alloc (.cells #[iv f, iv t] 32) = W0) := hW0
  rw [hW0] at b0 n0
  clear hW0
  have o0 : Op3 S W0 x g n cn h cs k ce N P E := ⟨o.v.old b0, o.nn⟩
  have kw := wants_any o0 (i : Int) 1 1
  rw [he] at kw
  have hj : i < n := by rw [← o.nn]; exact (List.getElem?_eq_some_iff.1 hd).1
  have hj2 : (i : Int) < (n : Int) := by omega
  obtain ⟨c0, _, _⟩ := o0.c
  have y0 : W0.cell? ⟨w.heap.size, 0, none⟩ = some (iv f) := by simp [World.cell?, n0]
  have y1 : W0.cell? ⟨w.heap.size, 1, none⟩ = some (iv t) := by simp [World.cell?, n0]
  have d8 : W0.cell? ⟨g, i * 11 + 8, none⟩ = some (iv d.ef) := o0.nd (j := 8) hd (by decide)
  have d9 : W0.cell? ⟨g, i * 11 + 9, none⟩ = some (iv d.et) := o0.nd (j := 9) hd (by decide)
  obtain ⟨o1, k1, f8⟩ := (show Op3 S W0.drew x g n cn h cs k ce N P E from ⟨o0.v.old ((Below.refl _ W0).drew), o0.nn⟩).setN (j := 8) (d' := { d with ef := f }) (u := iv f) hd (by decide) rfl ((o0.v.old ((Below.refl _ W0).drew)).ats d (List.mem_of_getElem? hd))
  have hd1 : (N.set i { d with ef := f })[i]? = some { d with ef := f } := by rw [List.getElem?_set_self (List.getElem?_eq_some_iff.1 hd).1]
  obtain ⟨o2, k2, _⟩ := o1.setN (j := 9) (d' := { d with ef := f, et := t }) (u := iv t) hd1 (by decide) rfl (o1.v.ats { d with ef := f } (List.mem_of_getElem? hd1))
  rw [List.set_set] at o2
  have hnr := o0.v.nr
  rw [o0.nn] at hnr
  have f8' : W0.frozen? ⟨g, i * 11 + 8, none⟩ = false := World.ownsRow.frozenAt hnr.own _
  have f9' : W0.frozen? ⟨g, i * 11 + 9, none⟩ = false := World.ownsRow.frozenAt hnr.own _
  clear hnr
  have HZ : Hid (Op3 S ((W0.drew.setCell ⟨g, i * 11 + 8, none⟩ (iv f)).setCell ⟨g, i * 11 + 9, none⟩ (iv t)) x g n cn h cs k ce (N.set i { d with ef := f, et := t }) P E ∧ Keep S w ((W0.drew.setCell ⟨g, i * 11 + 8, none⟩ (iv f)).setCell ⟨g, i * 11 + 9, none⟩ (iv t))) := ⟨o2, ((Keep.old b0.drew).trans k1).trans k2⟩
  clear o o0 he hd o1 k1 o2 k2 hd1 f8 b0 n0
  go_enter Try.func29, Try.ntmps29
  go_upto_region 1 with fail
  rw [HW0.out]
  go_wp2_with fail
  refine kw.mono ?_
  rintro e w' ⟨rfl, rfl⟩
  go_upto_region 3 with fail
  go_region
  all_goals
    go_wp2_with fail
    go_ret
    exact ⟨rfl, HZ.out⟩
end Go.Proofs.Ytcdaghlbfclpkaa
