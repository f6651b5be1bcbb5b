/- reference, likely, One. -/
import Derived.Test.YtdiealijjhfhjaaGreatDoorZd
namespace Go.Proofs.YtdiealijjhfhjaaGreatDoor.G6
open Go.RowKit
set_option maxHeartbeats 1000000 in
theorem reference_any {w : World} {B : Nat} {tv : Value} {L : List Rf} (H : Hi w) (T : TrieV w B tv L) (F : Fine L) (s : ByteArray) (attr : Bool) (hs : s.size ≤ 1000000) :
    Calls Tryz.prog 119 #[.string s, .bool attr, tv] w fun e w' => Refd w .i32 (refP L attr s.data.toList) e w' := by
  have hlen : s.data.toList.length = s.size := Array.length_toList
  have p1 := fun w => strings_HasPrefix s ⟨#[38, 35]⟩ w
  have p2 := fun w => strings_HasPrefix s ⟨#[38]⟩ w
  rw [show Lib.hasPrefix s.data.toList (ByteArray.mk #[38, 35]).data.toList = [38, 35].isPrefixOf s.data.toList from rfl] at p1
  rw [show Lib.hasPrefix s.data.toList (ByteArray.mk #[38]).data.toList = [38].isPrefixOf s.data.toList from rfl] at p2
  unfold refP
  cases h1 : [38, 35].isPrefixOf s.data.toList
  · rw [h1] at p1
    rw [if_neg (by simp)]
    cases h2 : [38].isPrefixOf s.data.toList
    · rw [h2] at p2
      rw [if_neg (by simp)]
      clear h1 h2 H T F
      go_enter Tryz.func119, Tryz.ntmps119
      go_wp2_with fail
      refine (p1 _).mono ?_
      rintro e w' ⟨rfl, rfl⟩
      go_wp2_with fail
      refine (p2 _).mono ?_
      rintro e w' ⟨rfl, rfl⟩
      go_wp2_with fail
      go_ret3
      exact ⟨_, rfl, cds_nil _ _, Below.refl _ _⟩
    · rw [h2] at p2
      rw [if_pos rfl]
      have hsz : 1 ≤ s.size := by
        rw [List.isPrefixOf_iff_prefix] at h2
        have := h2.length_le
        rw [hlen] at this
        exact this
      have hnd := named_any T F s attr hsz hs
      have HR : Hid (∀ e w', Refd w .i32 (namedP L attr (s.data.toList.drop 1)) e w' → ∃ r n v, e = .returned (.tuple #[.int .i32 r, .int .i64 n, v]) ∧ Refd w .i32 (namedP L attr (s.data.toList.drop 1)) (.returned (.tuple #[.int .i32 r, .int .i64 n, v])) w') := fun e w' h => by
        obtain ⟨v, rfl, h2⟩ := h
        exact ⟨_, _, v, rfl, v, rfl, h2⟩
      clear h1 h2 H T F
      go_enter Tryz.func119, Tryz.ntmps119
      go_wp2_with fail
      refine (p1 _).mono ?_
      rintro e w' ⟨rfl, rfl⟩
      go_wp2_with fail
      refine (p2 _).mono ?_
      rintro e w' ⟨rfl, rfl⟩
      go_wp2_with ((go_at_call 160; refine hnd.mono ?_; intro e w2 hr; obtain ⟨r, n, v, rfl, hr2⟩ := HR.out _ _ hr; clear hr; have HR2 : Hid _ := hr2; clear hr2))
      go_ret3
      exact HR2.out
  · rw [h1] at p1
    rw [if_pos rfl]
    have hsz : 2 ≤ s.size := by
      rw [List.isPrefixOf_iff_prefix] at h1
      have := h1.length_le
      rw [hlen] at this
      exact this
    have hnd := numbered_any s w H hsz hs
    have HR : Hid (∀ e w', Refd w .i32 (numbP s.data.toList) e w' → ∃ r n v, e = .returned (.tuple #[.int .i32 r, .int .i64 n, v]) ∧ Refd w .i32 (numbP s.data.toList) (.returned (.tuple #[.int .i32 r, .int .i64 n, v])) w') := fun e w' h => by
      obtain ⟨v, rfl, h2⟩ := h
      exact ⟨_, _, v, rfl, v, rfl, h2⟩
    clear h1 H T F
    go_enter Tryz.func119, Tryz.ntmps119
    go_wp2_with (first | (go_at_call 158; refine (p1 _).mono ?_; rintro e w' ⟨rfl, rfl⟩) | (go_at_call 159; refine hnd.mono ?_; intro e w2 hr; obtain ⟨r, n, v, rfl, hr2⟩ := HR.out _ _ hr; clear hr; have HR2 : Hid _ := hr2; clear hr2))
    go_ret3
    exact HR2.out
end Go.Proofs.YtdiealijjhfhjaaGreatDoor.G6
namespace Go.Proofs.YtdiealijjhfhjaaGreatDoor.G6
open Go.RowKit
theorem info136 : (Tryz.prog.info? 172).map (fun i => (i.zero, i.size, i.bytes)) = some (some (.agg #[.string ByteArray.empty, .int .i64 0]), 2, 24) := by kernel_rfl
abbrev RowIs (w : World) (B : Nat) (v : Value) (L : List Rf) : Prop := w.ownsRow B 172 2 v L.length (L.flatMap Rf.cells)
theorem row_below {w w' : World} {B : Nat} {v : Value} {L : List Rf} (h : RowIs w B v L) (b : Below w.heap.size w w') : RowIs w' B v L := by
  refine ⟨h.1, ?_⟩
  rcases h.2 with hn | ⟨g, cap, cur, hv, hBg, hg, rest⟩
  · exact .inl hn
  · exact .inr ⟨g, cap, cur, hv, hBg, (b.block g (Array.getElem?_eq_some_iff.1 hg).1).trans hg, rest⟩
theorem row_app {w : World} {B : Nat} {l : Value} {L : List Rf} (h : RowIs w B l L) (x : Rf) (hB : B ≤ w.heap.size) (hL : L.length ≤ 1000) :
    ∃ l' w', (Builtin.append_ #[153, 153] 153 #[l, .slice (some ⟨w.heap.size, 0, none⟩) 1 1]).run Tryz.prog (w.alloc (.cells #[.string x.n, .int .i64 x.r] 172)) = .ok l' w' ∧ RowIs w' B l' (L ++ [x]) ∧ Below B w w' := by
  obtain ⟨i0, hi, hz0, hz1, hz2⟩ := info_parts info136
  obtain ⟨W, hW⟩ : ∃ W, W = w.alloc (.cells #[.string x.n, .int .i64 x.r] 172) := ⟨_, rfl⟩
  have hnew : W.heap[w.heap.size]? = some (.cells #[.string x.n, .int .i64 x.r] 172 (0, 0)) := by rw [hW]; exact heap_alloc_new _ _
  have hbe : Below w.heap.size w W := by rw [hW]; exact (Below.refl _ _).alloc (Nat.le_refl _) _
  have hsz : W.heap.size = w.heap.size + 1 := by rw [hW]; simp
  rw [← hW]
  have hown := row_below h hbe
  obtain ⟨l', w', hr, ho, hg, _, hloc⟩ := run_append_own_at (P := Tryz.prog) W B 153 153 172 i0 _ 2 24 Tryz.underlying153 hi hz0 hz1 hz2 rfl (by decide) l L.length _ hown ⟨w.heap.size, 0, none⟩ 1 1 [.string x.n, .int .i64 x.r] rfl
    (fun j u hj => by
      rw [Addr.add_lit, Nat.zero_add]
      simp [World.cell?, hnew]
      exact hj) (by simp [Value.oneCell']) (by unfold maxLen; omega) (by omega) (by omega)
  refine ⟨l', w', hr, ?_, ?_⟩
  · show w'.ownsRow B 172 2 l' (L ++ [x]).length ((L ++ [x]).flatMap Rf.cells)
    rw [List.length_append, List.flatMap_append]
    exact ho
  · refine (hbe.mono hB).grown hg (by omega) (fun k hk => ?_)
    rcases hown.2 with ⟨hv, _⟩ | ⟨g, cap, cur, hv, hBg, _⟩
    · rw [hv] at hk; simp [Value.ownBlock] at hk
    · rw [hv] at hk; simp [Value.ownBlock] at hk; omega
theorem rf_at (l : List Rf) (i : Nat) (x : Rf) (h : l[i]? = some x) : (l.flatMap Rf.cells)[i * 2]? = some (.string x.n) ∧ (l.flatMap Rf.cells)[i * 2 + 1]? = some (.int .i64 x.r) := by
  induction l generalizing i with
  | nil => simp at h
  | cons y l ih =>
    rw [List.flatMap_cons]
    cases i with
    | zero => simp at h; subst h; exact ⟨rfl, rfl⟩
    | succ i =>
      have := ih i (by simpa using h)
      rw [show (i + 1) * 2 = i * 2 + 1 + 1 by omega, show i * 2 + 1 + 1 + 1 = (i * 2 + 1) + 1 + 1 by omega]
      simp only [Rf.cells, List.cons_append, List.nil_append, List.getElem?_cons_succ]
      exact this
theorem row_ref {w : World} {B : Nat} {v : Value} {L : List Rf} (h : RowIs w B v L) : ∃ ao cap, v = .slice ao L.length cap ∧ RefRow w ao L := by
  rcases h.2 with ⟨rfl, h0⟩ | ⟨g, cap, cur, rfl, hB, hg, h1, h2, h3, h4⟩
  · have : L = [] := List.eq_nil_of_length_eq_zero h0
    subst this
    exact ⟨none, 0, rfl, fun i x hx => by simp at hx⟩
  · refine ⟨_, cap, rfl, fun i x hx => ?_⟩
    have hil := (List.getElem?_eq_some_iff.1 hx).1
    obtain ⟨q1, q2⟩ := rf_at L i x hx
    rw [← h4, List.getElem?_take_of_lt (by omega), Array.getElem?_toList] at q1 q2
    refine ⟨g, 0, rfl, (Array.getElem?_eq_some_iff.1 hg).1, ?_, ?_⟩
    · simp [World.cell?, hg, q1]
    · simp [World.cell?, hg, q2]
theorem TrieIs.mono {w : World} {B B' t : Nat} {l : List Rf} (T : TrieIs w B t l) (h : B' ≤ B) : TrieIs w B' t l := by
  obtain ⟨N, M, k, T1, h2⟩ := T
  exact ⟨N, M, k, ⟨T1.root, fun p b e => Nat.le_trans h (T1.hB p b e), fun p m e => Nat.le_trans h (T1.hM p m e), T1.inj, T1.minj, T1.up, T1.mup, T1.vup, T1.node, T1.maps, T1.count⟩, h2⟩
structure Api (L : List Rf) : Prop where
  refs : ∀ w, Calls Tryz.prog 129 #[] w fun e w' => e = .returned (.slice (some ⟨w.heap.size, 0, none⟩) 78 78) ∧ RefRow w' (some ⟨w.heap.size, 0, none⟩) L ∧ Below w.heap.size w w' ∧ w'.heap.size = w.heap.size + 1
  len : L.length = 78
  fine : Fine L
def firstC (c : UInt8) (x : Rf) : Bool := [c].isPrefixOf x.nm
def likeL (L : List Rf) (l : List UInt8) : List Rf := match l with
  | a :: b :: _ => if a = 38 ∧ b ≠ 35 then L.filter (firstC b) else []
  | _ => []
set_option maxHeartbeats 1000000 in
set_option maxRecDepth 10000 in
theorem likely_some {L : List Rf} (A : Api L) (s : ByteArray) (w : World) (h2 : 2 ≤ s.size) (h0 : (s[0].toNat : Int) = 38) (h1 : ((s[1].toNat : Int) == 35) = false) :
    Calls Tryz.prog 120 #[.string s] w fun e w' => ∃ tv, e = .returned tv ∧ Below w.heap.size w w' ∧ TrieV w' w.heap.size tv (L.filter (firstC s[1])) := by
  have HA : Hid (Api L) := A
  clear A
  have hx12 : (s.extract 1 2).data.toList = [s[1]] := by
    have h3 : 1 < s.data.toList.length := by rw [Array.length_toList]; exact h2
    simp only [ByteArray.data_extract, Array.toList_extract, List.extract_eq_take_drop]
    rw [List.drop_eq_getElem_cons h3]
    rfl
  have hpf : ∀ n : ByteArray, ∀ w, Calls Tryz.prog 158 #[.string n, .string (s.extract 1 2)] w fun e w' => e = .returned (.bool ([s[1]].isPrefixOf n.data.toList)) ∧ w' = w := fun n w => by
    have := strings_HasPrefix n (s.extract 1 2) w
    rw [hx12] at this
    exact this
  clear hx12
  go_enter Tryz.func120, Tryz.ntmps120
  go_wp2_with (go_at_call 129; refine (HA.out.refs _).mono ?_; rintro e w1 ⟨rfl, hr, b1, z1⟩; have HR : Hid _ := (⟨hr, b1, z1⟩ : _ ∧ _ ∧ _); clear hr b1 z1)
  go_loopw [3, 21] (fun lv iv wr => ∃ (i : Nat), iv = .int .i64 i ∧ i ≤ 78 ∧ Below w1.heap.size w1 wr ∧ RowIs wr w1.heap.size lv ((L.take i).filter (firstC s[1]))) (fun _ iv _ => 78 - (intOf iv).toNat)
  case atStart => exact ⟨0, rfl, by decide, Below.refl _ _, rfl, .inl ⟨rfl, rfl⟩⟩
  case round =>
    obtain ⟨i, rfl, hi, hbl, hrow⟩ := hrel
    have HW : Hid (Below w1.heap.size w1 wr ∧ RowIs wr w1.heap.size u3 ((L.take i).filter (firstC s[1]))) := ⟨hbl, hrow⟩
    by_cases hlt : i < 78
    · have hil : i < L.length := by rw [HA.out.len]; exact hlt
      obtain ⟨x, hx⟩ : ∃ x, L[i]? = some x := ⟨_, List.getElem?_eq_getElem hil⟩
      obtain ⟨b, off, hbo, hb, d0, d1⟩ := (HR.out.1.below hbl) i x hx
      simp only [Option.some.injEq, Addr.mk.injEq, and_true] at hbo
      obtain ⟨rfl, rfl⟩ := hbo
      have htk : L.take (i + 1) = L.take i ++ [x] := by
        rw [List.getElem?_eq_getElem hil] at hx
        rw [← List.take_append_getElem hil, Option.some.inj hx]
      obtain ⟨n, r⟩ := x
      simp only [Nat.zero_add] at d0 d1
      have Hfl : Hid (((L.take (i + 1)).filter (firstC s[1])) = ((L.take i).filter (firstC s[1])) ++ (if [s[1]].isPrefixOf n.data.toList = true then [⟨n, r⟩] else [])) := by
        show _ = _
        rw [htk, List.filter_append]
        congr 1
        simp only [List.filter_cons, List.filter_nil, firstC]
        rfl
      have hll : ((L.take i).filter (firstC s[1])).length ≤ 1000 := Nat.le_trans (List.length_filter_le _ _) (by rw [List.length_take, HA.out.len]; omega)
      have hw1 : w1.heap.size ≤ wr.heap.size := hbl.size
      have hp := hpf n
      clear hbl hrow htk hx hil hpf
      cases hpx : [s[1]].isPrefixOf n.data.toList
      · rw [hpx] at hp Hfl
        go_wp2_with fail
        go_quiet (exact (hp _).mono fun _ _ h => ⟨h.1, _, h.2⟩)
        go_wp2_with fail
        have hb2 : Below wr.heap.size wr ((wr.alloc (.cells #[.string n, .int .i64 r] 172)).drewN nq) := below_drewN ((Below.refl _ _).alloc (Nat.le_refl _) _) _
        refine ⟨⟨i + 1, by go_num, by omega, HW.out.1.trans (hb2.mono HW.out.1.size), ?_⟩, by simp [intOf]; omega⟩
        rw [Hfl.out]
        simpa using row_below HW.out.2 hb2
      · rw [hpx] at hp Hfl
        go_wp2_with fail
        go_quiet (exact (hp _).mono fun _ _ h => ⟨h.1, _, h.2⟩)
        have hb2 : Below wr.heap.size wr ((wr.alloc (.cells #[.string n, .int .i64 r] 172)).drewN nq) := below_drewN ((Below.refl _ _).alloc (Nat.le_refl _) _) _
        obtain ⟨v1, w2, e1, C1, b1⟩ := row_app (row_below HW.out.2 hb2) ⟨n, r⟩ (by simp; omega) hll
        have HC : Hid (RowIs w2 w1.heap.size v1 ((L.take (i + 1)).filter (firstC s[1])) ∧ Below w1.heap.size w1 w2) := ⟨by rw [Hfl.out]; simpa using C1, (HW.out.1.trans (hb2.mono HW.out.1.size)).trans b1⟩
        have hsz : ((wr.alloc (.cells #[.string n, .int .i64 r] 172)).drewN nq).heap.size = wr.heap.size + 1 := by simp
        rw [hsz] at e1
        have HW2 : Hid True := trivial
        clear C1 b1 hb2 hsz HW Hfl hp hpx
        go_wp2_with (at_builtin; refine list_append_eq rfl _ _ 153 153 rfl _ _ rfl rfl e1 ?_)
        refine ⟨⟨i + 1, by go_num, by omega, HC.out.2, HC.out.1⟩, by simp [intOf]; omega⟩
    · have hie : i = 78 := by omega
      subst hie
      obtain ⟨ao, cap, hv, hrr⟩ := row_ref HW.out.2
      subst hv
      have hll : (L.filter (firstC s[1])).length ≤ 100000 := Nat.le_trans (List.length_filter_le _ _) (by rw [HA.out.len]; decide)
      have et : L.take 78 = L := List.take_of_length_le (by rw [HA.out.len]; decide)
      rw [et] at hrr ⊢
      have hnew := new_any (lo := ao) _ cap hrr rfl hll
      have HN : Hid (∀ e w', (∃ t, e = Ending.returned (.pointer (some ⟨t, 0, none⟩)) ∧ TrieIs w' wr.heap.size t (L.filter (firstC s[1])) ∧ Below wr.heap.size wr w') → ∃ tv, e = .returned tv ∧ Below w.heap.size w w' ∧ TrieV w' w.heap.size tv (L.filter (firstC s[1]))) := by
        rintro e w' ⟨t, rfl, T, b⟩
        have hb3 : w1.heap.size ≤ wr.heap.size := HW.out.1.size
        have hz : w.heap.size ≤ w1.heap.size := HR.out.2.1.size
        refine ⟨_, rfl, ?_, .inr ⟨t, rfl, T.mono (by omega)⟩⟩
        exact (HR.out.2.1.trans (HW.out.1.mono hz)).trans (b.mono (by omega))
      clear hrr hrow hbl et hll
      go_wp2_with (go_at_call 161; refine hnew.mono ?_; intro e w3 h; obtain ⟨tv, rfl, h4⟩ := HN.out _ _ h; clear h; have H4 : Hid _ := h4; clear h4)
      go_ret
      exact ⟨_, rfl, H4.out⟩
theorem list2 (s : ByteArray) (h2 : 2 ≤ s.size) : s.data.toList = s[0] :: s[1] :: s.data.toList.drop 2 := by
  have h0 : 0 < s.data.toList.length := by rw [Array.length_toList]; show 0 < s.size; omega
  have h1 : 1 < s.data.toList.length := by rw [Array.length_toList]; show 1 < s.size; omega
  have a := List.drop_eq_getElem_cons h0
  have b := List.drop_eq_getElem_cons h1
  rw [List.drop_zero] at a
  rw [a, b]
  rfl
set_option maxHeartbeats 1000000 in
theorem likely_any {L : List Rf} (A : Api L) (s : ByteArray) (w : World) :
    Calls Tryz.prog 120 #[.string s] w fun e w' => ∃ tv, e = .returned tv ∧ Below w.heap.size w w' ∧ TrieV w' w.heap.size tv (likeL L s.data.toList) := by
  by_cases h2 : 2 ≤ s.size
  · have hl := list2 s h2
    by_cases h0 : (s[0].toNat : Int) = 38
    · have e0 : s[0] = 38 := UInt8.toNat_inj.1 (by show s[0].toNat = 38; omega)
      by_cases h1 : (s[1].toNat : Int) = 35
      · have e1 : s[1] = 35 := UInt8.toNat_inj.1 (by show s[1].toNat = 35; omega)
        have HL : Hid (likeL L s.data.toList = []) := by show likeL L s.data.toList = []; rw [hl]; simp [likeL, e1]
        clear hl e0 e1
        go_enter Tryz.func120, Tryz.ntmps120
        go_wp2_with fail
        go_ret
        exact ⟨_, rfl, Below.refl _ _, .inl ⟨rfl, HL.out⟩⟩
      · have HL : likeL L s.data.toList = L.filter (firstC s[1]) := by
          rw [hl]
          show (if s[0] = 38 ∧ s[1] ≠ 35 then _ else _) = _
          rw [if_pos ⟨e0, fun e => h1 (by rw [e]; rfl)⟩]
        rw [HL]
        exact likely_some A s w h2 h0 (beq_false_of_ne h1)
    · have e0 : s[0] ≠ 38 := fun e => h0 (by rw [e]; rfl)
      have HL : Hid (likeL L s.data.toList = []) := by show likeL L s.data.toList = []; rw [hl]; simp [likeL, e0]
      have h0' : ((s[0].toNat : Int) != 38) = true := by rw [bne_iff_ne]; exact h0
      clear hl e0
      go_enter Tryz.func120, Tryz.ntmps120
      go_wp2_with fail
      go_ret
      exact ⟨_, rfl, Below.refl _ _, .inl ⟨rfl, HL.out⟩⟩
  · have HL : Hid (likeL L s.data.toList = []) := by
      show likeL L s.data.toList = []
      have hlen : s.data.toList.length = s.size := Array.length_toList
      match hm : s.data.toList with
      | [] => rfl
      | [a] => rfl
      | a :: b :: c => rw [hm] at hlen; simp at hlen; omega
    go_enter Tryz.func120, Tryz.ntmps120
    go_wp2_with fail
    go_ret
    exact ⟨_, rfl, Below.refl _ _, .inl ⟨rfl, HL.out⟩⟩
end Go.Proofs.YtdiealijjhfhjaaGreatDoor.G6
namespace Go.Proofs.YtdiealijjhfhjaaGreatDoor.G6
open Go.RowKit
theorem val_filter {L : List Rf} {c : UInt8} {p : Path} (t : Path) (hp : p = c :: t) : val (L.filter (firstC c)) p = val L p := by
  induction L with
  | nil => rfl
  | cons x L ih =>
    rw [List.filter_cons]
    by_cases hx : firstC c x = true
    · rw [if_pos hx]
      simp only [val, ih]
    · rw [if_neg hx]
      simp only [val]
      rw [if_neg]
      · exact ih
      · rintro ⟨_, e⟩
        refine hx ?_
        unfold firstC
        rw [e, hp]
        simp
theorem pre_filter {L : List Rf} {c : UInt8} {p : Path} (t : Path) (hp : p = c :: t) : pre (L.filter (firstC c)) p = pre L p := by
  subst hp
  rw [Bool.eq_iff_iff]
  simp only [pre, List.any_eq_true, List.mem_filter, Bool.and_eq_true, firstC, List.isPrefixOf_iff_prefix]
  constructor
  · rintro ⟨x, ⟨h1, _⟩, h3⟩; exact ⟨x, h1, h3⟩
  · rintro ⟨x, h1, h2, u, h3⟩
    exact ⟨x, ⟨h1, t ++ u, by rw [← h3]; rfl⟩, h2, u, h3⟩
theorem goes_pre (L : List Rf) (p : Path) : goes L p = pre L p := by
  unfold goes
  by_cases h : 0 < cnt [] L
  · rw [decide_eq_true h, Bool.true_and]
  · rw [cnt_pos (by omega) p, Bool.and_false]
theorem best_filter {L : List Rf} {c : UInt8} {s : Path} (t : Path) (hs : s = c :: t) (k : Nat) : best (L.filter (firstC c)) s k = best L s k := by
  induction k with
  | zero => rfl
  | succ k ih =>
    unfold best
    rw [val_filter (t.take k) (by rw [hs]; rfl), ih]
theorem begC_filter {L : List Rf} {c : UInt8} {s : Path} (t : Path) (hs : s = c :: t) (n : Nat) : begC (L.filter (firstC c)) s n = begC L s n := by
  unfold begC
  rw [goes_pre, goes_pre, pre_filter (t.take n) (by rw [hs]; rfl)]
theorem begF_filter {L : List Rf} {c : UInt8} {s : Path} (t : Path) (hs : s = c :: t) (f n : Nat) : begF (L.filter (firstC c)) s f n = begF L s f n := by
  induction f generalizing n with
  | zero => rfl
  | succ f ih => simp only [begF]; rw [begC_filter t hs, ih]
theorem named_filter {L : List Rf} {c : UInt8} {s : Path} (t : Path) (hs : s = c :: t) (attr : Bool) : namedP (L.filter (firstC c)) attr s = namedP L attr s := by
  unfold namedP begunP begN
  simp only [best_filter t hs, begF_filter t hs]
theorem named_empty (L : List Rf) (attr : Bool) : namedP L attr [] = (0, 0, []) := by
  unfold namedP begunP begN
  simp [best, begF]
theorem ref_like (L : List Rf) (attr : Bool) (l : List UInt8) : refP (likeL L l) attr l = refP L attr l := by
  unfold refP
  split
  · rfl
  split
  · rename_i h1 h2
    match l, h1, h2 with
    | [a], _, _ => rw [show ([a] : List UInt8).drop 1 = [] from rfl, named_empty, named_empty]
    | a :: b :: t, h1, h2 =>
      have ha : a = 38 := by simp [List.isPrefixOf] at h2; exact h2.symm
      subst ha
      have hb : b ≠ 35 := fun e => by subst e; exact h1 (by simp [List.isPrefixOf])
      show namedP (if (38 : UInt8) = 38 ∧ b ≠ 35 then L.filter (firstC b) else []) attr (b :: t) = _
      rw [if_pos ⟨rfl, hb⟩]
      exact named_filter t rfl attr
  · rfl
theorem numB_fine (k base : Nat) (l : List UInt8) : 0 ≤ (numB k base l).1 ∧ (numB k base l).1 ≤ 1114111 := by
  have := chrP_ok (accN base (digs base (l.drop k)) : Nat)
  unfold numB
  split
  · simp
  split
  · show 0 ≤ (chrP _).1 ∧ (chrP _).1 ≤ 1114111; omega
  · show 0 ≤ (chrP _).1 ∧ (chrP _).1 ≤ 1114111; omega
theorem ref_fine {L : List Rf} (F : Fine L) (attr : Bool) (l : List UInt8) : 0 ≤ (refP L attr l).1 ∧ (refP L attr l).1 ≤ 1114111 := by
  unfold refP
  split
  · unfold numbP
    split
    · exact numB_fine _ _ _
    · exact numB_fine _ _ _
  split
  · have := best_fine F (l.drop 1) (l.drop 1).length
    unfold namedP
    repeat' split
    all_goals first | exact this | simp
  · simp
theorem Fine.like {L : List Rf} (F : Fine L) (l : List UInt8) : Fine (likeL L l) := by
  unfold likeL
  split
  · split
    · exact fun x hx => F x (List.mem_filter.1 hx).1
    · exact fun x hx => by cases hx
  · exact fun x hx => by cases hx
set_option maxHeartbeats 1000000 in
theorem one_any {L : List Rf} (A : Api L) {w : World} (H : Hi w) (s : ByteArray) (attr : Bool) (hs : s.size ≤ 1000000) :
    Calls Tryz.prog 82 #[.string s, .bool attr] w fun e w' => Refd w .i64 (refP L attr s.data.toList) e w' := by
  have HR : Hid (∀ w1 e w2 tv, Below w.heap.size w w1 → TrieV w1 w.heap.size tv (likeL L s.data.toList) → Refd w1 .i32 (refP (likeL L s.data.toList) attr s.data.toList) e w2 → ∃ r n v, e = .returned (.tuple #[.int .i32 r, .int .i64 n, v]) ∧ 0 ≤ r ∧ r ≤ 1114111 ∧ Refd w .i64 (refP L attr s.data.toList) (.returned (.tuple #[.int .i64 r, .int .i64 n, v])) w2) := by
    rintro w1 e w2 tv b1 T ⟨v, rfl, h1, h2⟩
    rw [ref_like] at h1 ⊢
    have := ref_fine A.fine attr s.data.toList
    exact ⟨_, _, v, rfl, this.1, this.2, v, rfl, cds_mono h1 b1.size, b1.trans (h2.mono b1.size)⟩
  have k1 := likely_any A s w
  have k2 : ∀ w1 tv, Hi w1 → TrieV w1 w.heap.size tv (likeL L s.data.toList) → Calls Tryz.prog 119 #[.string s, .bool attr, tv] w1 fun e w' => Refd w1 .i32 (refP (likeL L s.data.toList) attr s.data.toList) e w' := fun w1 tv H1 T => reference_any H1 T (A.fine.like _) s attr hs
  have HH : Hid (Hi w) := H
  clear H A
  go_enter Tryz.func82, Tryz.ntmps82
  go_wp2_with (go_at_call 120; refine k1.mono ?_; rintro e w1 ⟨tv, rfl, b1, T⟩; have K2 := k2 w1 tv (HH.out.below b1 HH.out.lt) T; have HB : Hid _ := (⟨b1, T⟩ : _ ∧ _); clear b1 T k1 k2)
  refine K2.mono ?_
  intro e w2 h
  obtain ⟨r, n, v, rfl, h0, h1, h3⟩ := HR.out w1 e w2 tv HB.out.1 HB.out.2 h
  have H3 : Hid _ := h3
  clear h h3 HR HB
  go_wp2
  go_ret3
  exact H3.out
end Go.Proofs.YtdiealijjhfhjaaGreatDoor.G6
