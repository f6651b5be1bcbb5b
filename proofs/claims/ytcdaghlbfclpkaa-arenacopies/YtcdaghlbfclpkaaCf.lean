/- The document's arena: Detach. -/
import Derived.Test.YtcdaghlbfclpkaaCe
namespace Go.Proofs.Ytcdaghlbfclpkaa
open Go.RowKit

theorem run_append_zero (w : World) (ao bo : Option Addr) (n c c' : Nat) (hn : n ≤ c) : (Builtin.append_ #[44, 44] 44 #[.slice ao n c, .slice bo 0 c']).run Try.prog w = .ok (.slice ao n c) w := by
  obtain ⟨i0, hi0, _, hs, _⟩ := info_parts info3
  cases ao with
  | none =>
    cases bo with
    | none => simp [Builtin.append_, run_underlying Try.underlying44, Builtin.lenOf, Builtin.firstCells, sizeOf, typeInfo, hi0, hn]
    | some a => simp [Builtin.append_, run_underlying Try.underlying44, Builtin.lenOf, Builtin.firstCells, sizeOf, typeInfo, hi0, hn, loadCells, loadCellsFrom]
  | some b =>
    cases bo with
    | none => simp [Builtin.append_, run_underlying Try.underlying44, Builtin.lenOf, Builtin.firstCells, sizeOf, typeInfo, hi0, hn, storeCells]
    | some a => simp [Builtin.append_, run_underlying Try.underlying44, Builtin.lenOf, Builtin.firstCells, sizeOf, typeInfo, hi0, hn, loadCells, loadCellsFrom, storeCells]
/-- Numbers that lie somewhere. -/
def InR (w : World) (so : Option Addr) (T : List Nat) : Prop := ∀ j k : Nat, T[j]? = some k → ∃ b off, so = some ⟨b, off, none⟩ ∧ b < w.heap.size ∧ w.cell? ⟨b, off + j, none⟩ = some (iv (k : Int))
theorem InR.old {w w' : World} {so : Option Addr} {T : List Nat} (h : InR w so T) (b : Below w.heap.size w w') : InR w' so T := fun j k hk => by
  obtain ⟨q, off, h1, h2, h3⟩ := h j k hk
  exact ⟨q, off, h1, Nat.lt_of_lt_of_le h2 b.size, (cell_same (b.block q h2) _).trans h3⟩
theorem app_ints {S : Nat → Prop} {w : World} {v : Value} {D T : List Nat} (hlow : ∀ k, S k → k < w.heap.size) (hr : Rw S w 3 1 v D.length (iL D)) {so : Option Addr} (c : Nat) (hT : InR w so T) (hn : D.length + T.length ≤ 700000000000) :
    ∃ v' W', (Builtin.append_ #[44, 44] 44 #[v, .slice so T.length c]).run Try.prog w = .ok v' W' ∧ Rw S W' 3 1 v' (D ++ T).length (iL (D ++ T)) ∧ w.grownBy W' v.ownBlock := by
  cases T with
  | nil =>
    obtain ⟨ao, cap, rfl, h1, _⟩ := hr.slice
    exact ⟨_, _, run_append_zero w ao so _ cap c h1, by rw [List.append_nil]; exact hr, World.grownBy.refl _ _⟩
  | cons a T =>
    obtain ⟨b, off, rfl, _⟩ := hT 0 a rfl
    obtain ⟨v', W', h1, h2, h3, _⟩ := Rw.app (t := 44) (e := 3) (S := S) Try.underlying44 info3 rfl (by decide) (by decide) hr hlow b off (a :: T).length c (iL (a :: T)) (by simp [iL])
      (fun j u hj => by
        rw [iL, List.getElem?_map] at hj
        cases hk : (a :: T)[j]? with
        | none => rw [hk] at hj; simp at hj
        | some k =>
          rw [hk] at hj
          simp at hj
          subst hj
          obtain ⟨b', off', e1, _, e3⟩ := hT j k hk
          simp only [Option.some.injEq, Addr.mk.injEq, and_true] at e1
          obtain ⟨rfl, rfl⟩ := e1
          exact e3) (by intro u hu; simp only [iL, List.mem_map] at hu; obtain ⟨k, _, rfl⟩ := hu; rfl) hn
    exact ⟨v', W', h1, by rw [List.length_append, iL, List.map_append]; exact h2, h3⟩
theorem Rw.inr {S : Nat → Prop} {w : World} {so : Option Addr} {n c : Nat} {K D T : List Nat} (h : Rw S w 3 1 (.slice so n c) n (iL K)) (hK : K = D ++ T) : InR w so D ∧ InR w (so.map fun a => a.add D.length) T := by
  have hlen : K.length = n := by have := h.own.1; simpa [iL] using this
  have e : ∀ j k : Nat, K[j]? = some k → ∃ b, so = some ⟨b, 0, none⟩ ∧ b < w.heap.size ∧ w.cell? ⟨b, j, none⟩ = some (iv (k : Int)) := fun j k hk => by
    have hj := (List.getElem?_eq_some_iff.1 hk).1
    obtain ⟨b, c', _, he, _, hb, _⟩ := h.form (by omega)
    simp only [Value.slice.injEq, true_and] at he
    obtain ⟨rfl, rfl⟩ := he
    exact ⟨b, rfl, hb, h.cell (by simp [iL, hk])⟩
  refine ⟨fun j k hk => ?_, fun j k hk => ?_⟩
  · obtain ⟨b, h1, h2, h3⟩ := e j k (by rw [hK, List.getElem?_append_left (List.getElem?_eq_some_iff.1 hk).1]; exact hk)
    exact ⟨b, 0, h1, h2, by rw [Nat.zero_add]; exact h3⟩
  · obtain ⟨b, h1, h2, h3⟩ := e (D.length + j) k (by rw [hK, List.getElem?_append_right (by omega), Nat.add_sub_cancel_left]; exact hk)
    exact ⟨b, D.length, by rw [h1, Option.map_some, Addr.add_lit, Nat.zero_add], h2, h3⟩

theorem rdet_none {S : Nat → Prop} {w : World} {x g n c : Nat} {L : List RN} (o : RO S w x g n c L) {i : Int} (hi : isN n i = false) : Calls Try.prog 34 #[ptr x, iv i] w (Rd (iv 4) w) := by
  have k := is_any o i
  rw [hi] at k
  clear o hi
  go_enter Try.func34, Try.ntmps34
  go_wp2_with fail
  refine k.mono ?_
  rintro e w' ⟨rfl, rfl⟩
  go_wp2_with fail
  go_ret
  exact ⟨rfl, rfl⟩
theorem rdet_zero {S : Nat → Prop} {w : World} {x g n c : Nat} {L : List RN} (o : RO S w x g n c L) (hn : 0 < n) : Calls Try.prog 34 #[ptr x, iv 0] w (Rd (iv 4) w) := by
  have k := is_any o ((0 : Nat) : Int)
  rw [isN_lt hn] at k
  have k' : Calls Try.prog 40 #[ptr x, iv 0] w (Rd (.bool true) w) := k
  clear o k
  go_enter Try.func34, Try.ntmps34
  go_wp2_with fail
  refine k'.mono ?_
  rintro e w' ⟨rfl, rfl⟩
  go_wp2_with fail
  go_ret
  exact ⟨rfl, rfl⟩
theorem rdet_out {S : Nat → Prop} {w : World} {x g n c : Nat} {L : List RN} (o : RO S w x g n c L) {i : Nat} (hi0 : i ≠ 0) {r : RN} (hr : L[i]? = some r) (hp : r.p = -1) : Calls Try.prog 34 #[ptr x, iv (i : Int)] w (Rd (iv 3) w) := by
  have hi := o.lt hr
  have k := is_any o (i : Int)
  rw [isN_lt hi] at k
  have c0 := o.c
  have d11 : w.cell? ⟨g, i * 13 + 11, none⟩ = some (iv (-1)) := by rw [← hp]; exact o.nd (j := 11) hr (by decide)
  have hi2 : (i : Int) < (n : Int) := by omega
  have hz : ((i : Int) == 0) = false := by simp; omega
  clear o hr hp
  go_enter Try.func34, Try.ntmps34
  go_wp2_with fail
  refine k.mono ?_
  rintro e w' ⟨rfl, rfl⟩
  go_wp2_with fail
  go_ret
  exact ⟨rfl, rfl⟩
abbrev RN.kids (r : RN) (kv : Value) (K : List Nat) : RN := { r with kv := kv, ks := K }
abbrev RN.par (r : RN) (p : Int) : RN := { r with p := p }
set_option maxHeartbeats 2000000 in
set_option maxRecDepth 20000 in
theorem rdet_any {S : Nat → Prop} {w : World} {x g n c : Nat} {L : List RN} (o : RO S w x g n c L) {i p : Nat} (hi0 : i ≠ 0) {r rp : RN} (hr : L[i]? = some r) (hp : r.p = (p : Int)) (hrp : L[p]? = some rp) (hip : i ≠ p) {D T : List Nat} (hK : rp.ks = D ++ i :: T) (hpl : plP rp.ks (i : Int) 0 = (D.length : Int)) (hKf : rp.ks.length ≤ 1000000000) :
    Calls Try.prog 34 #[ptr x, iv (i : Int)] w (fun e w' => ∃ kv, e = .returned (iv 0) ∧ RO S w' x g n c ((L.set p (rp.kids kv (D ++ T))).set i (r.par (-1))) ∧ Keep S w w') := by
  have hi := o.lt hr
  have hpn := o.lt hrp
  have k := is_any o (i : Int)
  rw [isN_lt hi] at k
  have kp := place_any o hrp hKf (i : Int)
  rw [hpl] at kp
  have c0 := o.c
  have d11 : w.cell? ⟨g, i * 13 + 11, none⟩ = some (iv (p : Int)) := by rw [← hp]; exact o.nd (j := 11) hr (by decide)
  have d12 : w.cell? ⟨g, p * 13 + 12, none⟩ = some rp.kv := o.nd (j := 12) hrp (by decide)
  have hi2 : (i : Int) < (n : Int) := by omega
  have hp2 : (p : Int) < (n : Int) := by omega
  have hz : ((i : Int) == 0) = false := by simp; omega
  have hpm : ((p : Int) == -1) = false := by simp
  have hkd := o.kds hrp
  obtain ⟨ko, kc, hkv, hkc1, hkc2⟩ := hkd.slice
  rw [hkv] at hkd d12
  obtain ⟨m, hm⟩ : ∃ m, D.length = m := ⟨_, rfl⟩
  obtain ⟨t, ht⟩ : ∃ t, T.length = t := ⟨_, rfl⟩
  obtain ⟨kl, hkl⟩ : ∃ kl, rp.ks.length = kl := ⟨_, rfl⟩
  have hmt : m + 1 + t = kl := by rw [← hkl, hK, List.length_append, List.length_cons, hm, ht]; omega
  rw [hkl] at hkd d12 hkc1 hKf
  rw [hm] at kp
  obtain ⟨kg, kc', _, he, _, hkgl, hkgb, _⟩ := hkd.form (by omega)
  simp only [Value.slice.injEq, true_and] at he
  obtain ⟨rfl, rfl⟩ := he
  have bd : Below w.heap.size w w.drew := (Below.refl _ _).drew
  have hin := (hkd.old bd).inr (D := D) (T := i :: T) hK
  have hin2 := (hkd.old bd).inr (D := D ++ [i]) (T := T) (by rw [hK]; simp)
  -- the first row: what stands ahead
  obtain ⟨v1, W1, hrun1, hr1, hg1⟩ := app_ints (S := fun k => k < w.heap.size) (v := .slice none 0 0) (D := []) (w := w.drew) (fun k hk => hk) (Rw.nil _ _ _ _) kc hin.1 (by simp; omega)
  have b1 : Below w.heap.size w W1 := bd.trans (grown_below hg1)
  have hT1 : ∀ so, InR w.drew so T → InR W1 so T := fun so h => h.old (grown_below hg1)
  simp only [List.nil_append] at hr1
  rw [hm] at hrun1
  have hlt1 : W1.heap[kg]? = w.heap[kg]? := b1.block kg hkgl
  -- the second: what stands behind, wherever it lies
  have hsec : ∀ (so : Option Addr) (c2 : Nat), InR w.drew so T → Hid (∃ vo vn vc W2, (Builtin.append_ #[44, 44] 44 #[v1, .slice so t c2]).run Try.prog W1 = .ok (.slice vo vn vc) W2 ∧ W1.cell? ⟨x, 0, none⟩ = some (.slice (some ⟨g, 0, none⟩) n c) ∧ W2.cell? ⟨x, 0, none⟩ = some (.slice (some ⟨g, 0, none⟩) n c) ∧ W2.cell? ⟨g, p * 13 + 12, none⟩ = some (.slice (some ⟨kg, 0, none⟩) kl kc) ∧ W2.frozen? ⟨g, p * 13 + 12, none⟩ = false ∧
      (W2.setCell ⟨g, p * 13 + 12, none⟩ (.slice vo vn vc)).cell? ⟨x, 0, none⟩ = some (.slice (some ⟨g, 0, none⟩) n c) ∧ (W2.setCell ⟨g, p * 13 + 12, none⟩ (.slice vo vn vc)).cell? ⟨g, i * 13 + 11, none⟩ = some (iv (p : Int)) ∧ (W2.setCell ⟨g, p * 13 + 12, none⟩ (.slice vo vn vc)).frozen? ⟨g, i * 13 + 11, none⟩ = false ∧
      (∃ kv, RO S ((W2.setCell ⟨g, p * 13 + 12, none⟩ (.slice vo vn vc)).setCell ⟨g, i * 13 + 11, none⟩ (iv (-1))) x g n c ((L.set p (rp.kids kv (D ++ T))).set i (r.par (-1))) ∧ Keep S w ((W2.setCell ⟨g, p * 13 + 12, none⟩ (.slice vo vn vc)).setCell ⟨g, i * 13 + 11, none⟩ (iv (-1))))) := fun so c2 h => by
    obtain ⟨v2, W2, h1, h2, h3⟩ := app_ints (S := fun k => k < w.heap.size) (fun k hk => Nat.lt_of_lt_of_le hk b1.size) hr1 c2 (hT1 so h) (by omega)
    rw [ht] at h1
    obtain ⟨vo, vc, rfl, _⟩ := h2.slice
    have b2 : Below w.heap.size w W2 := grown_low b1 rfl hr1 h3
    have o1 : RO S W1 x g n c L := o.old b1
    have o2 : RO S W2 x g n c L := o.old b2
    have hkd2 : Rw S W2 3 1 (.slice vo (D ++ T).length vc) (D ++ T).length (iL (D ++ T)) := h2.sub (fun k hk => o.v.low k hk)
    obtain ⟨o3, q3, f3⟩ := o2.setR (j := 12) (r' := rp.kids (.slice vo (D ++ T).length vc) (D ++ T)) (u := (.slice vo (D ++ T).length vc)) hrp (by decide) rfl (o2.ats (r := rp) hrp) hkd2
    have hri : (L.set p (rp.kids (.slice vo (D ++ T).length vc) (D ++ T)))[i]? = some r := by rw [List.getElem?_set_ne (fun e => hip e.symm)]; exact hr
    obtain ⟨o4, q4, f4⟩ := o3.setR (j := 11) (r' := r.par (-1)) (u := iv (-1)) hri (by decide) rfl (o3.ats (r := r) hri) (show Rw S _ 3 1 r.kv r.ks.length (iL r.ks) from o3.kds hri)
    have d12' : W2.cell? ⟨g, p * 13 + 12, none⟩ = some rp.kv := o2.nd (j := 12) hrp (by decide)
    rw [hkv] at d12'
    rw [hkl] at d12'
    have d11' : (W2.setCell ⟨g, p * 13 + 12, none⟩ (.slice vo (D ++ T).length vc)).cell? ⟨g, i * 13 + 11, none⟩ = some (iv r.p) := o3.nd (j := 11) hri (by decide)
    rw [hp] at d11'
    exact ⟨vo, _, vc, W2, h1, o1.c, o2.c, d12', f3, o3.c, d11', f4, .slice vo (D ++ T).length vc, o4, ((Keep.old b2).trans q3).trans q4⟩
  have hsub : kl - (m + 1) = t := by omega
  have hw1 : IntKind.i64.wrap ((m : Int) + 1) = (m : Int) + 1 := by rw [IntKind.wrap_i64]; omega
  have hq1 : (m : Int) + 1 ≤ (kl : Int) := by omega
  have hq2 : (m : Int) ≤ (kc : Int) := by omega
  have hkc0 : kc ≠ 0 := by omega
  have hN1 : m ≤ kc := by omega
  have hN2 : m + 1 ≤ kl := by omega
  have cw1 : W1.cell? ⟨x, 0, none⟩ = some (.slice (some ⟨g, 0, none⟩) n c) := (o.old b1).c
  have hnn : 0 ≤ (m : Int) + 1 := by omega
  by_cases hcap : kc = m + 1
  · have ht0 : t = 0 := by omega
    have hklm : kl = m + 1 := by omega
    have hs := hsec (some ⟨kg, 0, none⟩) 0 (fun j k hk => by have := (List.getElem?_eq_some_iff.1 hk).1; omega)
    obtain ⟨vo, vn, vc, W2, hrun2, e1, e2, e3, e4, e5, e6, e7, hz2⟩ := hs.out
    have HZ : Hid (∃ kv, RO S ((W2.setCell ⟨g, p * 13 + 12, none⟩ (.slice vo vn vc)).setCell ⟨g, i * 13 + 11, none⟩ (iv (-1))) x g n c ((L.set p (rp.kids kv (D ++ T))).set i (r.par (-1))) ∧ Keep S w ((W2.setCell ⟨g, p * 13 + 12, none⟩ (.slice vo vn vc)).setCell ⟨g, i * 13 + 11, none⟩ (iv (-1)))) := hz2
    subst hcap ht0 hklm
    have hmm : (m : Int) ≤ (m : Int) + 1 := by omega
    clear hsec hs hz2 hT1 hr1 hg1 b1 hlt1 hin hin2 bd hkd hkgb hkgl hsub hkc0 hq1 hq2 hN1 hN2 hkc1 hkc2 hKf hm ht hkl hkv hmt
    go_enter Try.func34, Try.ntmps34
    go_wp2_with fail
    refine k.mono ?_
    rintro e w' ⟨rfl, hw'⟩
    rw [hw']
    clear hw'
    go_wp2_with fail
    refine kp.mono ?_
    rintro e w' ⟨rfl, hw'⟩
    rw [hw']
    clear hw'
    go_upto_region 8 with fail
    go_region_law (first
      | (refine step_append_eq rfl _ _ 44 44 rfl _ _ (by simp [Act.eval]) (by first | (simp [Act.eval]; done) | simp [Act.eval, Act.put]) hrun1 ?_)
      | (refine step_append_eq rfl _ _ 44 44 rfl _ _ (by first | (simp [Act.eval]; done) | simp [Act.eval, Act.put]) (by first | (simp [Act.eval]; done) | simp [Act.eval, Act.put]) hrun2 ?_))
    all_goals
      go_wp2_with fail
      go_ret
      obtain ⟨kv, z1, z2⟩ := HZ.out
      exact ⟨kv, rfl, z1, z2⟩
  · have hs := hsec (some ⟨kg, m + 1, none⟩) (kc - (m + 1)) (by
      have h := hin2.2
      rw [Option.map_some, Addr.add_lit, List.length_append, hm] at h
      simpa using h)
    obtain ⟨vo, vn, vc, W2, hrun2, e1, e2, e3, e4, e5, e6, e7, hz2⟩ := hs.out
    have HZ : Hid (∃ kv, RO S ((W2.setCell ⟨g, p * 13 + 12, none⟩ (.slice vo vn vc)).setCell ⟨g, i * 13 + 11, none⟩ (iv (-1))) x g n c ((L.set p (rp.kids kv (D ++ T))).set i (r.par (-1))) ∧ Keep S w ((W2.setCell ⟨g, p * 13 + 12, none⟩ (.slice vo vn vc)).setCell ⟨g, i * 13 + 11, none⟩ (iv (-1)))) := hz2
    clear hsec hs hz2 hT1 hr1 hg1 b1 hlt1 hin hin2 bd hkd hkgb hkgl hkc1 hkc2 hKf hm ht hkl hkv hmt
    go_enter Try.func34, Try.ntmps34
    go_wp2_with fail
    refine k.mono ?_
    rintro e w' ⟨rfl, hw'⟩
    rw [hw']
    clear hw'
    go_wp2_with fail
    refine kp.mono ?_
    rintro e w' ⟨rfl, hw'⟩
    rw [hw']
    clear hw'
    go_upto_region 8 with fail
    go_region_law (first
      | (refine step_append_eq rfl _ _ 44 44 rfl _ _ (by simp [Act.eval]) (by first | (simp [Act.eval]; done) | simp [Act.eval, Act.put]) hrun1 ?_)
      | (refine step_append_eq rfl _ _ 44 44 rfl _ _ (by first | (simp [Act.eval]; done) | simp [Act.eval, Act.put]) (by first | (simp [Act.eval]; done) | simp [Act.eval, Act.put]) hrun2 ?_))
    all_goals
      go_wp2_with fail
      go_ret
      obtain ⟨kv, z1, z2⟩ := HZ.out
      exact ⟨kv, rfl, z1, z2⟩
end Go.Proofs.Ytcdaghlbfclpkaa
