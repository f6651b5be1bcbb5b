/- Good: it answers, whatever the text; nothing that was there turns. -/
import Derived.Test.YtaadphifagimaaaDoorUone
import Derived.Test.YtaadphifagimaaaDoorCds
import Derived.Deep.DeepCutAuto
namespace Go.Proofs.YtaadphifagimaaaDoor
open Go.RowKit

theorem info87 : (Tryd.prog.info? 87).map (fun i => (i.zero, i.size, i.bytes)) = some (some (.agg #[.int .i64 0, .int .i64 0]), 2, 16) := by kernel_rfl
theorem info89 : (Tryd.prog.info? 89).map (fun i => (i.zero, i.size, i.bytes)) = some (some (.agg #[.int .i64 0, .int .i64 0, .int .i64 0]), 3, 24) := by kernel_rfl

/-- A row of one's own, of n elements, whatever they are. -/
def OwnN (w : World) (B e size : Nat) (v : Value) (n : Nat) : Prop := ∃ xs, w.ownsRow B e size v n xs
theorem OwnN.form {w : World} {B e size n : Nat} {v : Value} (h : OwnN w B e size v n) : ∃ ao c, v = .slice ao n c := by
  obtain ⟨xs, h⟩ := h
  rcases h.2 with ⟨rfl, rfl⟩ | ⟨g, cap, cur, rfl, _⟩
  · exact ⟨_, _, rfl⟩
  · exact ⟨_, _, rfl⟩
theorem OwnN.below {w w' : World} {B e size n : Nat} {v : Value} (h : OwnN w B e size v n) (b : Below w.heap.size w w') : OwnN w' B e size v n := by
  obtain ⟨xs, h1, h2⟩ := h
  refine ⟨xs, h1, ?_⟩
  rcases h2 with hn | ⟨g, cap, cur, hv, hBg, hg, rest⟩
  · exact .inl hn
  · exact .inr ⟨g, cap, cur, hv, hBg, (b.block g (Array.getElem?_eq_some_iff.1 hg).1).trans hg, rest⟩
theorem OwnN.kept {w w' : World} {B e e2 size n : Nat} {v : Value} (h : OwnN w B e size v n) (hne : e ≠ e2) (k : ∀ (k : Nat) (cur : Array Value) (e' : TypeId) (m : Nat × Nat), e' ≠ e2 → w.heap[k]? = some (Obj.cells cur e' m) → w'.heap[k]? = some (Obj.cells cur e' m)) : OwnN w' B e size v n := by
  obtain ⟨xs, h1, h2⟩ := h
  refine ⟨xs, h1, ?_⟩
  rcases h2 with hn | ⟨g, cap, cur, hv, hBg, hg, rest⟩
  · exact .inl hn
  · exact .inr ⟨g, cap, cur, hv, hBg, k g cur e _ hne hg, rest⟩

theorem own_app {B t e size bytes n : Nat} {z v : Value} {W : World} (news : List Value) (ht : Tryd.prog.underlying t = some (.slice e)) (hinfo : (Tryd.prog.info? e).map (fun i => (i.zero, i.size, i.bytes)) = some (some z, size, bytes))
    (hzs : z.cells.size = size) (hsz : 0 < size) (hb : bytes ≤ 32) (hown : OwnN W B e size v n) (hB : B ≤ W.heap.size) (hn : n ≤ 1000000) (hl : news.length = size) (h1 : ∀ u ∈ news, u.oneCell' = true) :
    ∃ v' W', (Builtin.append_ #[t, t] t #[v, .slice (some ⟨W.heap.size, 0, none⟩) 1 1]).run Tryd.prog (W.alloc (.cells news.toArray e)) = .ok v' W' ∧
      OwnN W' B e size v' (n + 1) ∧ Below B W W' ∧ (∀ (k : Nat) (cur : Array Value) (e' : TypeId) (m : Nat × Nat), e' ≠ e → W.heap[k]? = some (Obj.cells cur e' m) → W'.heap[k]? = some (Obj.cells cur e' m)) := by
  obtain ⟨i0, hi0, hz0, hzs0, hzb⟩ := info_parts hinfo
  obtain ⟨W1, hW1⟩ : ∃ W1, W1 = W.alloc (.cells news.toArray e) := ⟨_, rfl⟩
  have hbe : Below W.heap.size W W1 := by rw [hW1]; exact (Below.refl _ _).alloc (Nat.le_refl _) _
  have hnew : W1.heap[W.heap.size]? = some (.cells news.toArray e (0, 0)) := by rw [hW1]; exact heap_alloc_new _ _
  obtain ⟨xs, ho1⟩ := hown.below hbe
  have hz : W1.heap.size = W.heap.size + 1 := by rw [hW1]; simp
  obtain ⟨v', W', hrun, ho, hg1, _, _⟩ := run_append_own_at (P := Tryd.prog) W1 B t t e i0 _ size bytes ht hi0 hz0 hzs0 hzb hzs hsz v n xs ho1 ⟨W.heap.size, 0, none⟩ 1 1 news (by omega)
    (fun j u hj => by
      rw [Addr.add_lit, Nat.zero_add]
      simp [World.cell?, hnew]; exact hj)
    h1 (by unfold maxLen; omega) (by have := Nat.mul_le_mul (show n + 1 ≤ 1000001 by omega) hb; omega) (by omega)
  have hrow : ∀ k, v.ownBlock = some k → B ≤ k ∧ ∃ cu, W1.heap[k]? = some (.cells cu e (0, 0)) := fun k hk => by
    rcases ho1.2 with ⟨hv, _⟩ | ⟨g, cap, cur, hv, hB', hgb, _⟩
    · rw [hv] at hk; simp [Value.ownBlock] at hk
    · rw [hv] at hk; simp [Value.ownBlock] at hk; subst hk
      exact ⟨hB', cur, hgb⟩
  refine ⟨v', W', by rw [← hW1]; exact hrun, ⟨_, ho⟩, (hbe.mono hB).grown hg1 (by omega) (fun k hk => (hrow k hk).1), ?_⟩
  intro k cur e' m hne hk
  have hlt := (Array.getElem?_eq_some_iff.1 hk).1
  rw [hg1.block k (by omega) (fun e2 => by
    obtain ⟨_, cu, hc⟩ := hrow k e2.symm
    rw [hbe.block k hlt, hk] at hc; simp at hc; exact hne hc.2.1), hbe.block k hlt]
  exact hk

theorem fault_app {B n : Nat} {v : Value} {W : World} (a b : Int) (hown : OwnN W B 87 2 v n) (hB : B ≤ W.heap.size) (hn : n ≤ 1000000) :
    ∃ v' W', (Builtin.append_ #[65, 65] 65 #[v, .slice (some ⟨W.heap.size, 0, none⟩) 1 1]).run Tryd.prog (W.alloc (.cells #[.int .i64 a, .int .i64 b] 87)) = .ok v' W' ∧
      OwnN W' B 87 2 v' (n + 1) ∧ Below B W W' ∧ (∀ (k : Nat) (cur : Array Value) (e' : TypeId) (m : Nat × Nat), e' ≠ 87 → W.heap[k]? = some (Obj.cells cur e' m) → W'.heap[k]? = some (Obj.cells cur e' m)) :=
  own_app [.int .i64 a, .int .i64 b] Tryd.underlying65 info87 rfl (by decide) (by decide) hown hB hn rfl (by simp [Value.oneCell'])
theorem char_app {B n : Nat} {v : Value} {W : World} (a b c : Int) (hown : OwnN W B 89 3 v n) (hB : B ≤ W.heap.size) (hn : n ≤ 1000000) :
    ∃ v' W', (Builtin.append_ #[64, 64] 64 #[v, .slice (some ⟨W.heap.size, 0, none⟩) 1 1]).run Tryd.prog (W.alloc (.cells #[.int .i64 a, .int .i64 b, .int .i64 c] 89)) = .ok v' W' ∧
      OwnN W' B 89 3 v' (n + 1) ∧ Below B W W' ∧ (∀ (k : Nat) (cur : Array Value) (e' : TypeId) (m : Nat × Nat), e' ≠ 89 → W.heap[k]? = some (Obj.cells cur e' m) → W'.heap[k]? = some (Obj.cells cur e' m)) :=
  own_app [.int .i64 a, .int .i64 b, .int .i64 c] Tryd.underlying64 info89 rfl (by decide) (by decide) hown hB hn rfl (by simp [Value.oneCell'])

set_option maxHeartbeats 1000000 in
set_option maxRecDepth 10000 in
theorem rdecode_any (s : ByteArray) (w : World) (hs : s.size ≤ 100000) :
    Calls Tryd.prog 38 #[.string s, .int .i64 0] w fun e w' => ∃ lv fo nf cf, e = .returned (.tuple #[lv, .slice fo nf cf]) ∧ Below w.heap.size w w' := by
  go_enter Tryd.func38, Tryd.ntmps38
  go_wp2_with fail
  go_loopw [0, 1, 6, 7] (fun sv av lv fv wr => ∃ (q : ByteArray) (p nl nf : Nat), sv = .string q ∧ av = .int .i64 p ∧ p + q.size ≤ s.size ∧ nl + q.size ≤ s.size ∧ nf ≤ nl ∧ OwnN wr w.heap.size 89 3 lv nl ∧ OwnN wr w.heap.size 87 2 fv nf ∧ Below w.heap.size w wr) (fun sv _ _ _ _ => match sv with | .string q => q.size | _ => 0)
  case atStart => exact ⟨s, 0, 0, 0, rfl, rfl, by omega, by omega, Nat.le_refl _, ⟨[], rfl, .inl ⟨rfl, rfl⟩⟩, ⟨[], rfl, .inl ⟨rfl, rfl⟩⟩, Below.refl _ _⟩
  case round =>
    obtain ⟨q, p, nl, nf, rfl, rfl, hp, hnl, hnf, hL, hF, hbw⟩ := hrel
    have HW : Hid (OwnN wr w.heap.size 89 3 u6 nl ∧ OwnN wr w.heap.size 87 2 u7 nf ∧ Below w.heap.size w wr) := ⟨hL, hF, hbw⟩
    clear hL hF hbw
    by_cases hz : 0 < q.size
    · have k1 := Utf.one_any q wr hz (by omega)
      have hne : q.data.toList ≠ [] := fun e => by have : q.data.toList.length = q.size := Array.length_toList; rw [e] at this; simp at this; omega
      have h1 := Utf.one_pos q.data.toList
      have h2 := Utf.one_len q.data.toList hne
      have hql : q.data.toList.length = q.size := Array.length_toList
      rw [hql] at h2
      obtain ⟨o, ho⟩ : ∃ o, Utf.one q.data.toList = o := ⟨_, rfl⟩
      rw [ho] at k1 h1 h2
      obtain ⟨r, n, m⟩ := o
      simp only at k1 h1 h2
      clear ho hne hql
      go_wp2_with fail
      refine k1.mono ?_
      rintro e w1 ⟨rfl, b1⟩
      have H1 : Hid (OwnN w1 w.heap.size 89 3 u6 nl ∧ OwnN w1 w.heap.size 87 2 u7 nf ∧ Below w.heap.size w w1) := ⟨HW.out.1.below b1, HW.out.2.1.below b1, HW.out.2.2.trans (b1.mono HW.out.2.2.size)⟩
      clear b1 k1 HW
      by_cases hr : r < 0
      · obtain ⟨fv', w2, e1, F1, b2, k2⟩ := fault_app 1 (p : Int) H1.out.2.1 H1.out.2.2.size (by omega)
        obtain ⟨lv', w3, e2, L1, b3, k3⟩ := char_app 65533 (p : Int) ((p : Int) + (n : Int)) (H1.out.1.kept (by decide) k2) (H1.out.2.2.trans b2).size (by omega)
        have H3 : Hid (OwnN w3 w.heap.size 89 3 lv' (nl + 1) ∧ OwnN w3 w.heap.size 87 2 fv' (nf + 1) ∧ Below w.heap.size w w3) := ⟨L1, F1.kept (by decide) k3, (H1.out.2.2.trans b2).trans b3⟩
        have E2 : Hid ((Builtin.append_ #[64, 64] 64 #[u6, .slice (some ⟨w2.heap.size, 0, none⟩) 1 1]).run Tryd.prog (w2.alloc (.cells #[.int .i64 65533, .int .i64 p, .int .i64 ((p : Int) + (n : Int))] 89)) = .ok lv' w3) := e2
        clear e2 F1 b2 k2 L1 b3 k3
        go_upto_region 7 with (at_builtin; refine list_append_eq rfl _ _ 65 65 rfl _ _ rfl rfl e1 ?_)
        clear e1
        have e2 := E2.out
        go_wp2_with (at_builtin; refine list_append_eq rfl _ _ 64 64 rfl _ _ rfl rfl e2 ?_)
        refine ⟨⟨q.extract n q.size, p + n, nl + 1, nf + 1, by simp, by go_num, by simp [ByteArray.size_extract]; omega, by simp [ByteArray.size_extract]; omega, by omega, H3.out⟩, by simp; omega⟩
      · obtain ⟨lv', w3, e2, L1, b3, k3⟩ := char_app r (p : Int) ((p : Int) + (n : Int)) H1.out.1 H1.out.2.2.size (by omega)
        have H3 : Hid (OwnN w3 w.heap.size 89 3 lv' (nl + 1) ∧ OwnN w3 w.heap.size 87 2 u7 nf ∧ Below w.heap.size w w3) := ⟨L1, H1.out.2.1.kept (by decide) k3, H1.out.2.2.trans b3⟩
        clear L1 b3 k3
        go_wp2_with (at_builtin; refine list_append_eq rfl _ _ 64 64 rfl _ _ rfl rfl e2 ?_)
        refine ⟨⟨q.extract n q.size, p + n, nl + 1, nf, by simp, by go_num, by simp [ByteArray.size_extract]; omega, by simp [ByteArray.size_extract]; omega, by omega, H3.out⟩, by simp; omega⟩
    · obtain ⟨fo, cf, hfv⟩ := HW.out.2.1.form
      subst hfv
      go_wp2_with fail
      go_ret2
      exact ⟨_, _, _, _, rfl, HW.out.2.2⟩

set_option maxHeartbeats 400000 in
theorem good_any (s : ByteArray) (w : World) (hs : s.size ≤ 100000) : Calls Tryd.prog 18 #[.string s] w fun e w' => ∃ b, e = .returned (.bool b) ∧ Below w.heap.size w w' := by
  go_enter Tryd.func18, Tryd.ntmps18
  go_wp2_with fail
  refine (rdecode_any s w hs).mono ?_
  rintro e w1 ⟨lv, fo, nf, cf, rfl, b1⟩
  have HB : Hid _ := b1
  clear b1
  go_wp2
  go_ret
  exact ⟨_, rfl, HB.out⟩
end Go.Proofs.YtaadphifagimaaaDoor
