/- The document's arena: what is set. -/
import Derived.Test.YtcdaghlbfclpkaaCd
namespace Go.Proofs.Ytcdaghlbfclpkaa
open Go.RowKit

theorem RaV.putL {S : Nat → Prop} {w w' : World} {x : Nat} {rv : Value} {L L' : List RN} (h : RaV S w x rv L) (g : w.grownBy w' rv.ownBlock) (hr : Rw S w' 68 13 rv L'.length (L'.flatMap RN.cells)) (hl : L'.length = L.length) (ha : ∀ r ∈ L', Rw S w 53 2 r.d.av r.d.al.length (r.d.al.flatMap At.cells)) (hk : ∀ r ∈ L', Rw S w 3 1 r.kv r.ks.length (iL r.ks)) : RaV S w' x rv L' ∧ Keep S w w' := by
  have k : ∀ d, d < w.heap.size → ∀ (cur : Array Value) t z, w.heap[d]? = some (.cells cur t z) → t ≠ 68 → w'.heap[d]? = w.heap[d]? := fun d hd cur t z hc ht => g.block d hd (fun e => by
    obtain ⟨_, c, h2⟩ := own_blk h.nr.own e.symm
    rw [hc] at h2
    simp at h2
    exact ht h2.2.1)
  have k' : ∀ {e s n : Nat} {v : Value} {xs : List Value}, Rw S w e s v n xs → e ≠ 68 → Rw S w' e s v n xs := fun hq he => hq.mv fun g hg => by
    obtain ⟨h1, c, h2⟩ := own_blk hq.own hg
    exact k g h1 _ _ _ h2 he
  exact ⟨⟨fun k hk => Nat.lt_of_lt_of_le (h.low k hk) g.size, h.hx, (k x (Array.getElem?_eq_some_iff.1 h.blk).1 _ _ _ h.blk (by decide)).trans h.blk, hr, fun d hd => k' (ha d hd) (by decide), fun d hd => k' (hk d hd) (by decide), by rw [hl]; exact h.few⟩, Keep.grown g h.nr.out⟩
theorem RO.setR {S : Nat → Prop} {w : World} {x g n c : Nat} {L : List RN} (o : RO S w x g n c L) {i j : Nat} {r r' : RN} {u : Value} (hs : L[i]? = some r) (hj : j < 13) (hu : r.cells.set j u = r'.cells) (ha : Rw S w 53 2 r'.d.av r'.d.al.length (r'.d.al.flatMap At.cells)) (hk : Rw S w 3 1 r'.kv r'.ks.length (iL r'.ks)) :
    RO S (w.setCell ⟨g, i * 13 + j, none⟩ u) x g n c (L.set i r') ∧ Keep S w (w.setCell ⟨g, i * 13 + j, none⟩ u) ∧ w.frozen? ⟨g, i * 13 + j, none⟩ = false := by
  have hr := o.v.nr
  rw [o.nn] at hr
  obtain ⟨r1, r2⟩ := hr.set (i * 13 + j) u
  rw [fl_set RN.cells 13 (fun _ => rfl) L i j r r' u hs hj hu] at r1
  obtain ⟨q1, q2⟩ := o.v.putL (L' := L.set i r') r2 (by rw [List.length_set, o.nn]; exact r1) (by rw [List.length_set]) (fun q hq => by
    rcases List.mem_or_eq_of_mem_set hq with h1 | rfl
    · exact o.v.ats q h1
    · exact ha) (fun q hq => by
    rcases List.mem_or_eq_of_mem_set hq with h1 | rfl
    · exact o.v.kds q h1
    · exact hk)
  exact ⟨⟨q1, by rw [List.length_set]; exact o.nn⟩, q2, World.ownsRow.frozenAt hr.own _⟩
theorem RO.ats {S : Nat → Prop} {w : World} {x g n c : Nat} {L : List RN} (o : RO S w x g n c L) {i : Nat} {r : RN} (h : L[i]? = some r) : Rw S w 53 2 r.d.av r.d.al.length (r.d.al.flatMap At.cells) := o.v.ats r (List.mem_of_getElem? h)
theorem RO.kds {S : Nat → Prop} {w : World} {x g n c : Nat} {L : List RN} (o : RO S w x g n c L) {i : Nat} {r : RN} (h : L[i]? = some r) : Rw S w 3 1 r.kv r.ks.length (iL r.ks) := o.v.kds r (List.mem_of_getElem? h)
abbrev RN.text (r : RN) (s : ByteArray) : RN := { r with d := { r.d with text := s } }
abbrev RN.ends (r : RN) (f t : Int) : RN := { r with d := { r.d with ef := f, et := t } }
abbrev RN.attrs (r : RN) (av : Value) (A : List At) : RN := { r with d := { r.d with av := av, al := A } }

theorem rtext_none {S : Nat → Prop} {w : World} {x g n c : Nat} {L : List RN} (o : RO S w x g n c L) {i : Int} (hi : isN n i = false) (s : ByteArray) : Calls Try.prog 36 #[ptr x, iv i, .string s] w (Rd (iv 4) w) := by
  have k1 := is_any o i
  have k2 := kind_any o i false
  unfold kindP at k2
  rw [hi] at k1 k2
  simp only [Bool.false_eq_true, if_false] at k2
  clear o hi
  go_enter Try.func36, Try.ntmps36
  go_wp2_with fail
  refine k1.mono ?_
  rintro e w' ⟨rfl, rfl⟩
  go_wp2_with fail
  refine k2.mono ?_
  rintro e w' ⟨rfl, rfl⟩
  go_wp2_with fail
  go_ret
  exact ⟨rfl, rfl⟩
theorem rtext_no {S : Nat → Prop} {w : World} {x g n c : Nat} {L : List RN} (o : RO S w x g n c L) {i : Nat} {r : RN} (hr : L[i]? = some r) (h2 : r.d.kind ≠ 2) (h3 : r.d.kind ≠ 3) (s : ByteArray) : Calls Try.prog 36 #[ptr x, iv (i : Int), .string s] w (Rd (iv 3) w) := by
  have hi := o.lt hr
  have k1 := is_any o (i : Int)
  have k2 := kind_any o (i : Int) false
  unfold kindP at k2
  rw [isN_lt hi] at k1 k2
  simp only [Bool.false_eq_true, if_false, if_true] at k2
  have c0 := o.c
  have d1 : w.cell? ⟨g, i * 13 + 1, none⟩ = some (iv r.d.kind) := o.nd (j := 1) hr (by decide)
  have hi2 : (i : Int) < (n : Int) := by omega
  obtain ⟨kd, hkd⟩ : ∃ kd, r.d.kind = kd := ⟨_, rfl⟩
  rw [hkd] at d1 h2 h3
  have e2 : (kd == 2) = false := by simp [h2]
  have e3 : (kd == 3) = false := by simp [h3]
  clear o hr hkd h2 h3
  go_enter Try.func36, Try.ntmps36
  go_wp2_with fail
  refine k1.mono ?_
  rintro e w' ⟨rfl, rfl⟩
  go_wp2_with fail
  refine k2.mono ?_
  rintro e w' ⟨rfl, rfl⟩
  go_wp2_with fail
  go_ret
  exact ⟨rfl, rfl⟩
set_option maxHeartbeats 1000000 in
theorem rtext_any {S : Nat → Prop} {w : World} {x g n c : Nat} {L : List RN} (o : RO S w x g n c L) {i : Nat} {r : RN} (hr : L[i]? = some r) (h23 : r.d.kind = 2 ∨ r.d.kind = 3) (s : ByteArray) : Calls Try.prog 36 #[ptr x, iv (i : Int), .string s] w (fun e w' => e = .returned (iv 0) ∧ RO S w' x g n c (L.set i (r.text s)) ∧ Keep S w w') := by
  have hi := o.lt hr
  have k1 := is_any o (i : Int)
  have k2 := kind_any o (i : Int) true
  unfold kindP at k2
  rw [isN_lt hi] at k1 k2
  simp only [if_true] at k2
  have c0 := o.c
  have d1 : w.cell? ⟨g, i * 13 + 1, none⟩ = some (iv r.d.kind) := o.nd (j := 1) hr (by decide)
  have d4 : w.cell? ⟨g, i * 13 + 4, none⟩ = some (.string r.d.text) := o.nd (j := 4) hr (by decide)
  have hi2 : (i : Int) < (n : Int) := by omega
  obtain ⟨o1, q1, f4⟩ := o.setR (j := 4) (r' := r.text s) (u := .string s) hr (by decide) rfl (show Rw S _ 53 2 r.d.av r.d.al.length (r.d.al.flatMap At.cells) from o.ats hr) (show Rw S _ 3 1 r.kv r.ks.length (iL r.ks) from o.kds hr)
  have HZ : Hid (RO S (w.setCell ⟨g, i * 13 + 4, none⟩ (.string s)) x g n c (L.set i (r.text s)) ∧ Keep S w (w.setCell ⟨g, i * 13 + 4, none⟩ (.string s))) := ⟨o1, q1⟩
  obtain ⟨kd, hkd⟩ : ∃ kd, r.d.kind = kd := ⟨_, rfl⟩
  rw [hkd] at d1 h23
  clear o hr hkd o1 q1
  rcases h23 with rfl | rfl
  · go_enter Try.func36, Try.ntmps36
    go_wp2_with fail
    refine k1.mono ?_
    rintro e w' ⟨rfl, rfl⟩
    go_wp2_with fail
    refine k2.mono ?_
    rintro e w' ⟨rfl, rfl⟩
    go_wp2_with fail
    go_ret
    exact ⟨rfl, HZ.out⟩
  · go_enter Try.func36, Try.ntmps36
    go_wp2_with fail
    refine k1.mono ?_
    rintro e w' ⟨rfl, rfl⟩
    go_wp2_with fail
    refine k2.mono ?_
    rintro e w' ⟨rfl, rfl⟩
    go_wp2_with fail
    go_ret
    exact ⟨rfl, HZ.out⟩
/-- What element answers. -/
def elP (n : Nat) (L : List RN) (i : Int) : Bool := isN n i && (match L[i.toNat]? with | some r => decide (r.d.kind = 1) | none => false)
theorem elem_any {S : Nat → Prop} {w : World} {x g n c : Nat} {L : List RN} (o : RO S w x g n c L) (i : Int) : Calls Try.prog 53 #[ptr x, iv i] w (Rd (.bool (elP n L i)) w) := by
  cases hb : isN n i with
  | false =>
    have : elP n L i = false := by simp [elP, hb]
    rw [this]
    exact element_no o hb
  | true =>
    obtain ⟨j, rfl, hj⟩ := isN_nat hb
    obtain ⟨r, hr⟩ := o.at' hj
    have : elP n L (j : Int) = decide (r.d.kind = 1) := by simp [elP, hb, hr]
    rw [this]
    exact element_any o hr
theorem rattrs_no {S : Nat → Prop} {w : World} {x g n c : Nat} {L : List RN} (o : RO S w x g n c L) {i e : Int} (he : kindP n i (elP n L i) = e) (h0 : e ≠ 0) (ao : Option Addr) (an ac : Nat) : Calls Try.prog 35 #[ptr x, iv i, .slice ao an ac] w (Rd (iv e) w) := by
  have k1 := elem_any o i
  have k2 := kind_any o i (elP n L i)
  rw [he] at k2
  obtain ⟨b, hb⟩ : ∃ b, elP n L i = b := ⟨_, rfl⟩
  rw [hb] at k1 k2
  have hz : (e == 0) = false := by simp [h0]
  clear o he hb h0
  go_enter Try.func35, Try.ntmps35
  go_wp2_with fail
  refine k1.mono ?_
  rintro e w' ⟨rfl, rfl⟩
  go_wp2_with fail
  refine k2.mono ?_
  rintro e w' ⟨rfl, rfl⟩
  go_wp2_with fail
  go_ret
  exact ⟨rfl, rfl⟩
theorem rend_no {S : Nat → Prop} {w : World} {x g n c : Nat} {L : List RN} (o : RO S w x g n c L) {i e : Int} (he : kindP n i (elP n L i) = e) (h0 : e ≠ 0) (f t : Int) : Calls Try.prog 37 #[ptr x, iv i, .agg #[iv f, iv t]] w (fun e' w' => e' = .returned (iv e) ∧ Below w.heap.size w w') := by
  have b0 : Below w.heap.size w (w.alloc (.cells #[iv f, iv t] 32)) := (Below.refl _ _).alloc (Nat.le_refl _) _
  have k1 := elem_any (o.old b0) i
  have k2 := kind_any (o.old b0) i (elP n L i)
  rw [he] at k2
  obtain ⟨b, hb⟩ : ∃ b, elP n L i = b := ⟨_, rfl⟩
  rw [hb] at k1 k2
  have hz : (e == 0) = false := by simp [h0]
  have HB : Hid (Below w.heap.size w (w.alloc (.cells #[iv f, iv t] 32))) := b0
  clear o he hb h0 b0
  go_enter Try.func37, Try.ntmps37
  go_wp2_with fail
  refine k1.mono ?_
  rintro e w' ⟨rfl, rfl⟩
  go_wp2_with fail
  refine k2.mono ?_
  rintro e w' ⟨rfl, rfl⟩
  go_wp2_with fail
  go_ret
  exact ⟨rfl, HB.out⟩
set_option maxHeartbeats 1000000 in
theorem rattrs_any {S : Nat → Prop} {w : World} {x g n c : Nat} {L : List RN} (o : RO S w x g n c L) {i : Nat} {r : RN} (hr : L[i]? = some r) (h1 : r.d.kind = 1) {A : List At} {ao : Option Addr} {ac : Nat} (ha : Ats w (.slice ao A.length ac) A) (hf : A.length ≤ 1000000000) : Calls Try.prog 35 #[ptr x, iv (i : Int), .slice ao A.length ac] w (fun e w' => ∃ av, e = .returned (iv 0) ∧ RO S w' x g n c (L.set i (r.attrs av A)) ∧ Keep S w w') := by
  have hi := o.lt hr
  have k1 := element_any o hr
  rw [h1] at k1
  have k2 := kind_any o (i : Int) true
  unfold kindP at k2
  rw [isN_lt hi] at k2
  simp only [if_true] at k2
  have k1' : Calls Try.prog 53 #[ptr x, iv (i : Int)] w (Rd (.bool true) w) := k1
  have c0 := o.c
  have hi2 : (i : Int) < (n : Int) := by omega
  have bd : Below w.heap.size w w.drew := (Below.refl _ _).drew
  obtain ⟨v', W, hrun, b2, hv⟩ := clone_run (ha.old bd) hf
  obtain ⟨ao2, ac2, rfl, _⟩ := (hv (fun _ => False) (fun _ h => h.elim)).slice
  have b2' : Below w.heap.size w W := bd.trans b2
  have o2 : RO S W x g n c L := o.old b2'
  have c2 := o2.c
  have d5 : W.cell? ⟨g, i * 13 + 5, none⟩ = some r.d.av := o2.nd (j := 5) hr (by decide)
  obtain ⟨ao3, ac3, hav, _⟩ := (o2.ats hr).slice
  rw [hav] at d5
  obtain ⟨o3, q3, f5⟩ := o2.setR (j := 5) (r' := r.attrs (.slice ao2 A.length ac2) A) (u := .slice ao2 A.length ac2) hr (by decide) rfl (hv S (fun k hk => o.v.low k hk)) (show Rw S _ 3 1 r.kv r.ks.length (iL r.ks) from o2.kds hr)
  have HZ : Hid (RO S (W.setCell ⟨g, i * 13 + 5, none⟩ (.slice ao2 A.length ac2)) x g n c (L.set i (r.attrs (.slice ao2 A.length ac2) A)) ∧ Keep S w (W.setCell ⟨g, i * 13 + 5, none⟩ (.slice ao2 A.length ac2))) := ⟨o3, (Keep.old b2').trans q3⟩
  obtain ⟨al, hal⟩ : ∃ al, A.length = al := ⟨_, rfl⟩
  rw [hal] at hrun HZ ⊢
  clear o hr o2 o3 q3 hv b2 b2' bd ha k1 hav hal h1
  go_enter Try.func35, Try.ntmps35
  go_wp2_with fail
  refine k1'.mono ?_
  rintro e w' ⟨rfl, hw'⟩
  rw [hw']
  clear hw'
  go_wp2_with fail
  refine k2.mono ?_
  rintro e w' ⟨rfl, hw'⟩
  rw [hw']
  clear hw'
  go_upto_region 3 with fail
  go_region_law (refine step_append_eq rfl _ _ 30 30 rfl _ _ (by first | (simp [Act.eval]; done) | simp [Act.eval, Act.put]) (by first | (simp [Act.eval]; done) | simp [Act.eval, Act.put]) hrun ?_)
  all_goals
    go_wp2_with fail
    go_ret
    exact ⟨_, rfl, HZ.out⟩
set_option maxHeartbeats 1000000 in
theorem rend_any {S : Nat → Prop} {w : World} {x g n c : Nat} {L : List RN} (o : RO S w x g n c L) {i : Nat} {r : RN} (hr : L[i]? = some r) (h1 : r.d.kind = 1) (f t : Int) : Calls Try.prog 37 #[ptr x, iv (i : Int), .agg #[iv f, iv t]] w (fun e w' => e = .returned (iv 0) ∧ RO S w' x g n c (L.set i (r.ends f t)) ∧ Keep S w w') := by
  have hi := o.lt hr
  have b0 : Below w.heap.size w (w.alloc (.cells #[iv f, iv t] 32)) := (Below.refl _ _).alloc (Nat.le_refl _) _
  have n0 := heap_alloc_new w (.cells #[iv f, iv t] 32)
  obtain ⟨W0, hW0⟩ : ∃ W0, w.alloc (.cells #[iv f, iv t] 32) = W0 := ⟨_, rfl⟩
  have HW0 : Hid (w.alloc (.cells #[iv f, iv t] 32) = W0) := hW0
  rw [hW0] at b0 n0
  clear hW0
  have o0 := o.old b0
  have k1 := element_any o0 hr
  rw [h1] at k1
  have k2 := kind_any o0 (i : Int) true
  unfold kindP at k2
  rw [isN_lt hi] at k2
  simp only [if_true] at k2
  have k1' : Calls Try.prog 53 #[ptr x, iv (i : Int)] W0 (Rd (.bool true) W0) := k1
  have c0 := o0.c
  have hi2 : (i : Int) < (n : Int) := by omega
  have y0 : W0.cell? ⟨w.heap.size, 0, none⟩ = some (iv f) := by simp [World.cell?, n0]
  have y1 : W0.cell? ⟨w.heap.size, 1, none⟩ = some (iv t) := by simp [World.cell?, n0]
  have d8 : W0.cell? ⟨g, i * 13 + 8, none⟩ = some (iv r.d.ef) := o0.nd (j := 8) hr (by decide)
  have d9 : W0.cell? ⟨g, i * 13 + 9, none⟩ = some (iv r.d.et) := o0.nd (j := 9) hr (by decide)
  have od := o0.old (Below.refl _ W0).drew
  obtain ⟨o1, q1, f8⟩ := od.setR (j := 8) (r' := { r with d := { r.d with ef := f } }) (u := iv f) hr (by decide) rfl (show Rw S _ 53 2 r.d.av r.d.al.length (r.d.al.flatMap At.cells) from od.ats hr) (show Rw S _ 3 1 r.kv r.ks.length (iL r.ks) from od.kds hr)
  have hr1 : (L.set i { r with d := { r.d with ef := f } })[i]? = some { r with d := { r.d with ef := f } } := by rw [List.getElem?_set_self (List.getElem?_eq_some_iff.1 hr).1]
  obtain ⟨o2, q2, _⟩ := o1.setR (j := 9) (r' := r.ends f t) (u := iv t) hr1 (by decide) rfl (o1.ats (r := { r with d := { r.d with ef := f } }) hr1) (o1.kds (r := { r with d := { r.d with ef := f } }) hr1)
  rw [List.set_set] at o2
  have hnr := o0.v.nr
  rw [o0.nn] at hnr
  have f8' : W0.frozen? ⟨g, i * 13 + 8, none⟩ = false := World.ownsRow.frozenAt hnr.own _
  have f9' : W0.frozen? ⟨g, i * 13 + 9, none⟩ = false := World.ownsRow.frozenAt hnr.own _
  have HZ : Hid (RO S ((W0.drew.setCell ⟨g, i * 13 + 8, none⟩ (iv f)).setCell ⟨g, i * 13 + 9, none⟩ (iv t)) x g n c (L.set i (r.ends f t)) ∧ Keep S w ((W0.drew.setCell ⟨g, i * 13 + 8, none⟩ (iv f)).setCell ⟨g, i * 13 + 9, none⟩ (iv t))) := ⟨o2, ((Keep.old b0.drew).trans q1).trans q2⟩
  clear hnr o o0 od hr o1 q1 o2 q2 hr1 f8 b0 n0 k1 h1
  go_enter Try.func37, Try.ntmps37
  go_upto_region 1 with fail
  rw [HW0.out]
  go_wp2_with fail
  refine k1'.mono ?_
  rintro e w' ⟨rfl, hw'⟩
  rw [hw']
  clear hw'
  go_wp2_with fail
  refine k2.mono ?_
  rintro e w' ⟨rfl, hw'⟩
  rw [hw']
  clear hw'
  go_upto_region 3 with fail
  go_region
  all_goals
    go_wp2_with fail
    go_ret
    exact ⟨rfl, HZ.out⟩
end Go.Proofs.Ytcdaghlbfclpkaa
