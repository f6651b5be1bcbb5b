/- The document's Text. -/
import Derived.Test.YtaadphifagimaaaDoorTx
import Derived.Test.YtaadphifagimaaaDoorRo
import Derived.Test.YtaadphifagimaaaDoorRe3
import Derived.Test.YtaadphifagimaaaDoorAwake
import Derived.Laws.IdiomStrings
import Derived.Lib.SlBytesConst
namespace Go.Proofs.YtaadphifagimaaaDoor
open Go.RowKit

theorem info5 : (Tryd.prog.info? 5).map (fun i => (i.zero, i.size, i.bytes)) = some (some (.int .u8 0), 1, 1) := by kernel_rfl
/-- A row of bytes of one's own. -/
def OwnB (w : World) (B : Nat) (v : Value) (l : List UInt8) : Prop := w.ownsRow B 5 1 v l.length (Lib.byteCells l)

theorem OwnB.below {w w' : World} {B : Nat} {v : Value} {l : List UInt8} (h : OwnB w B v l) (b : Below w.heap.size w w') : OwnB w' B v l := by
  refine ⟨h.1, ?_⟩
  rcases h.2 with hn | ⟨g, cap, cur, hv, hBg, hg, rest⟩
  · exact .inl hn
  · exact .inr ⟨g, cap, cur, hv, hBg, (b.block g (Array.getElem?_eq_some_iff.1 hg).1).trans hg, rest⟩
theorem bcells_at {l : List UInt8} {j : Nat} {u : Value} (h : (Lib.byteCells l)[j]? = some u) : ∃ c, l[j]? = some c ∧ u = .int .u8 (c.toNat : Int) := by
  unfold Lib.byteCells at h
  rw [List.getElem?_map] at h
  cases hc : l[j]? with
  | none => rw [hc] at h; cases h
  | some c => rw [hc] at h; exact ⟨c, rfl, by simpa using h.symm⟩

/-- Bytes behind the row. -/
theorem bytes_app {w W : World} {B : Nat} {v : Value} {l : List UInt8} (h : OwnB w B v l) (hb : Below w.heap.size w W) (nb : List UInt8) (g c : Nat) (hsrc : ∀ j x, nb[j]? = some x → W.cell? ⟨g, j, none⟩ = some (.int .u8 (x.toNat : Int))) (hB : B ≤ w.heap.size) (hl : l.length + nb.length ≤ 1000000) :
    ∃ v' W', (Builtin.append_ #[50, 50] 50 #[v, .slice (some ⟨g, 0, none⟩) nb.length c]).run Tryd.prog W = .ok v' W' ∧ OwnB W' B v' (l ++ nb) ∧ Below B w W' := by
  obtain ⟨i0, hi, hz0, hz1, hz2⟩ := info_parts info5
  have hown := h.below hb
  have hbl : ∀ k : List UInt8, (Lib.byteCells k).length = k.length := Lib.byteCells_length
  obtain ⟨v', W', hr, ho, hg, _, _⟩ := run_append_own_at (P := Tryd.prog) W B 50 50 5 i0 _ 1 1 Tryd.underlying50 hi hz0 hz1 hz2 rfl (by decide) v l.length _ hown ⟨g, 0, none⟩ nb.length c (Lib.byteCells nb) (by rw [hbl, Nat.mul_one])
    (fun j u hj => by
      rw [Addr.add_lit, Nat.zero_add]
      obtain ⟨x, h1, rfl⟩ := bcells_at hj
      exact hsrc j x h1)
    (fun u hu => by
      obtain ⟨j, hj, e⟩ := List.getElem_of_mem hu
      obtain ⟨x, _, rfl⟩ := bcells_at (List.getElem?_eq_some_iff.2 ⟨hj, e⟩)
      rfl) (by unfold maxLen; omega) (by omega) (Nat.le_trans hB hb.size)
  refine ⟨v', W', hr, ?_, ?_⟩
  · unfold OwnB
    rw [List.length_append, Lib.byteCells_append]
    exact ho
  · refine (hb.mono hB).grown hg (Nat.le_trans hB hb.size) (fun k hk => ?_)
    rcases hown.2 with ⟨hv, _⟩ | ⟨g', cap, cur, hv, hBg, _⟩
    · rw [hv] at hk; simp [Value.ownBlock] at hk
    · rw [hv] at hk; simp [Value.ownBlock] at hk; omega

/-- string(b). -/
theorem str_of {w : World} {B : Nat} {v : Value} {l : List UInt8} (h : OwnB w B v l) : (convert 50 9 v).run Tryd.prog w = .ok (.string ⟨l.toArray⟩) w := by
  rcases h.2 with ⟨rfl, h0⟩ | ⟨g, cap, cur, rfl, hB, hg, h1, h2, h3, h4⟩
  · have : l = [] := List.eq_nil_of_length_eq_zero h0
    subst this
    exact run_convert_bytes_nil w 50 5 Tryd.underlying50 Tryd.underlying5 0 0 9 Tryd.underlying9
  · refine run_convert_bytes_back w 50 9 5 ⟨g, 0, none⟩ cap l Tryd.underlying50 Tryd.underlying5 Tryd.underlying9 (fun j hj => ?_)
    rw [Addr.add_lit, Nat.zero_add]
    have h5 : (Lib.byteCells l)[j]? = some (.int .u8 (l[j].toNat : Int)) := by
      unfold Lib.byteCells
      rw [List.getElem?_map, List.getElem?_eq_getElem hj]
      rfl
    rw [← h4, Nat.mul_one, List.getElem?_take_of_lt hj, Array.getElem?_toList] at h5
    simp [World.cell?, hg, h5]

/-- A byte as a new row. -/
theorem one_app {w : World} {B : Nat} {v : Value} {l : List UInt8} (h : OwnB w B v l) (c : UInt8) (hB : B ≤ w.heap.size) (hl : l.length ≤ 900000) :
    ∃ v' W', (Builtin.append_ #[50, 50] 50 #[v, .slice (some ⟨w.heap.size, 0, none⟩) 1 1]).run Tryd.prog (w.alloc (.cells #[.int .u8 (c.toNat : Int)] 5)) = .ok v' W' ∧ OwnB W' B v' (l ++ [c]) ∧ Below B w W' := by
  have hnew := heap_alloc_new w (.cells #[.int .u8 (c.toNat : Int)] 5)
  obtain ⟨W, hW⟩ : ∃ W, W = w.alloc (.cells #[.int .u8 (c.toNat : Int)] 5) := ⟨_, rfl⟩
  have hb : Below w.heap.size w W := by rw [hW]; exact (Below.refl _ _).alloc (Nat.le_refl _) _
  rw [← hW] at hnew ⊢
  refine bytes_app h hb [c] w.heap.size 1 (fun j x hx => ?_) hB (by simp; omega)
  have : j = 0 := by
    have := (List.getElem?_eq_some_iff.1 hx).1
    simp at this
    exact this
  subst this
  simp at hx
  subst hx
  simp [World.cell?, hnew]

/-- The names' characters are below the surrogates. -/
def Low (L : List Rf) : Prop := ∀ x ∈ L, x.r < 55296
theorem best_low {L : List Rf} (F : Low L) (s : Path) (k : Nat) : (best L s k).1 < 55296 := by
  induction k with
  | zero => simp [best]
  | succ k ih =>
    unfold best
    split
    · rename_i r hr
      obtain ⟨x, h1, h2⟩ := val_mem hr
      have := F x h1
      show r < 55296
      omega
    · exact ih
theorem numB_low (k base : Nat) (l : List UInt8) : (numB k base l).1 < 55296 ∨ 57343 < (numB k base l).1 := by
  have := chrP_ok (accN base (digs base (l.drop k)) : Nat)
  unfold numB
  split
  · simp
  split
  · exact this.2.2
  · exact this.2.2
theorem ref_low {L : List Rf} (F : Low L) (attr : Bool) (l : List UInt8) : (refP L attr l).1 < 55296 ∨ 57343 < (refP L attr l).1 := by
  unfold refP
  split
  · unfold numbP
    split
    · exact numB_low _ _ _
    · exact numB_low _ _ _
  split
  · have := best_low F (l.drop 1) (l.drop 1).length
    unfold namedP
    repeat' split
    all_goals first | exact .inl this | simp
  · simp
structure Apz (L : List Rf) : Prop extends Apx L where
  low : Low L
theorem apz_refs : Apz refs where
  toApx := api_refs
  low := by unfold Low; decide +kernel

/-- Behind a text turned into bytes: those bytes, nothing else turned. -/
theorem conv_app {w : World} {B : Nat} {v : Value} {l : List UInt8} (h : OwnB w B v l) (s : ByteArray) (hB : B ≤ w.heap.size) (hl : l.length + s.size ≤ 900000) :
    ∃ u W1 v' W', (convert 9 50 (.string s)).run Tryd.prog w = .ok u W1 ∧ (Builtin.append_ #[50, 50] 50 #[v, u]).run Tryd.prog W1 = .ok v' W' ∧ OwnB W' B v' (l ++ s.data.toList) ∧ Below B w W' := by
  have hc := run_bytes_of_string (P := Tryd.prog) w 9 50 5 s Tryd.underlying9 Tryd.underlying50 Tryd.underlying5
  obtain ⟨c, hcc⟩ : ∃ c, grownCap w s.size 0 5 = c := ⟨_, rfl⟩
  rw [hcc] at hc
  obtain ⟨C, hC⟩ : ∃ C, bytesRow s c = C := ⟨_, rfl⟩
  rw [hC] at hc
  obtain ⟨W1, hW1⟩ : ∃ W1, W1 = w.drew.alloc (.cells C 5 (C.size, C.size + 1)) := ⟨_, rfl⟩
  rw [← hW1] at hc
  have hb : Below w.heap.size w W1 := by rw [hW1]; exact ((Below.refl _ _).drew).alloc (Nat.le_refl _) _
  have hnew : W1.heap[w.heap.size]? = some (.cells C 5 (C.size, C.size + 1)) := by rw [hW1]; exact heap_alloc_new w.drew _
  have hsl : s.data.toList.length = s.size := Array.length_toList
  obtain ⟨v', W', e, o, bb⟩ := bytes_app h hb s.data.toList w.heap.size c (fun j x hx => by
    have h5 : C[j]? = some (.int .u8 (x.toNat : Int)) := by
      have hjl := (List.getElem?_eq_some_iff.1 hx).1
      rw [hsl] at hjl
      rw [← hC]
      unfold bytesRow
      rw [Array.getElem?_append_left (by simpa using hjl), Array.getElem?_map]
      rw [Array.getElem?_toList] at hx
      rw [hx]
      rfl
    simp [World.cell?, hnew, h5]) hB (by omega)
  rw [hsl] at e
  exact ⟨_, W1, v', W', hc, e, o, bb⟩

set_option maxHeartbeats 1000000 in
set_option maxRecDepth 10000 in
theorem rtext_any {L : List Rf} (A : Apz L) (s : ByteArray) (attr : Bool) (w : World) (hs : s.size ≤ 100000) :
    Calls Tryd.prog 15 #[.string s, .bool attr] w fun e w' => e = .returned (.string ⟨(textP L attr s.data.toList).toArray⟩) ∧ Below w.heap.size w w' := by
  have HA : Hid (Apz L ∧ (textP L attr s.data.toList).length ≤ 400000) := by
    have h1 := text_len L attr s.data.toList
    have h2 : s.data.toList.length = s.size := Array.length_toList
    exact ⟨A, by omega⟩
  clear A
  go_enter Tryd.func15, Tryd.ntmps15
  go_wp2_with fail
  go_loopw [0, 5] (fun sv bv wr => ∃ (q : ByteArray) (acc : List UInt8), sv = .string q ∧ q.size ≤ s.size ∧ OwnB wr w.heap.size bv acc ∧ Below w.heap.size w wr ∧ acc ++ textP L attr q.data.toList = textP L attr s.data.toList) (fun sv _ _ => match sv with | .string q => q.size | _ => 0)
  case atStart => exact ⟨s, [], rfl, Nat.le_refl _, ⟨rfl, .inl ⟨rfl, rfl⟩⟩, Below.refl _ _, rfl⟩
  case round =>
    obtain ⟨q, acc, rfl, hqs, hO, hbw, hacc⟩ := hrel
    have hal : acc.length ≤ 400000 := by
      have := HA.out.2
      rw [← hacc, List.length_append] at this
      omega
    have HW : Hid (OwnB wr w.heap.size u5 acc ∧ Below w.heap.size w wr ∧ acc ++ textP L attr q.data.toList = textP L attr s.data.toList) := ⟨hO, hbw, hacc⟩
    have hql : q.data.toList.length = q.size := Array.length_toList
    clear hO hbw hacc
    by_cases hz : 0 < q.size
    · have k1 := rone_any HA.out.1.toApi q attr wr (by omega)
      have hrl := ref_len L attr q.data.toList
      rw [hql] at hrl
      have hrf := ref_fine HA.out.1.fine attr q.data.toList
      have hrw := ref_low HA.out.1.low attr q.data.toList
      have hl1 := list1 q hz
      have HT : Hid (textP L attr q.data.toList = if (refP L attr q.data.toList).2.1 = 0 then q[0] :: textP L attr (q.data.toList.drop 1) else Lib.encodeRune (refP L attr q.data.toList).1 ++ textP L attr (q.data.toList.drop (refP L attr q.data.toList).2.1)) := by
        show _ = _
        have := text_cons L attr q[0] (q.data.toList.drop 1)
        rw [← hl1] at this
        exact this
      obtain ⟨p, hp⟩ : ∃ p, refP L attr q.data.toList = p := ⟨_, rfl⟩
      rw [hp] at k1 hrl hrf hrw HT
      obtain ⟨r, n, C⟩ := p
      simp only at k1 hrl hrf hrw HT
      obtain ⟨hr0, hr1⟩ := hrf
      clear hp hl1 hql
      go_wp2_with fail
      refine k1.mono ?_
      rintro e w1 ⟨v1, rfl, _, b1⟩
      simp only
      have H1 : Hid (OwnB w1 w.heap.size u5 acc ∧ Below w.heap.size w w1) := ⟨HW.out.1.below b1, HW.out.2.1.trans (b1.mono HW.out.2.1.size)⟩
      clear b1 k1
      by_cases hn : n = 0
      · subst hn
        rw [if_pos rfl] at HT
        obtain ⟨v2, w2, e1, O2, b2⟩ := one_app H1.out.1 q[0] H1.out.2.size (by omega)
        have H2 : Hid (OwnB w2 w.heap.size v2 (acc ++ [q[0]]) ∧ Below w.heap.size w w2) := ⟨O2, H1.out.2.trans b2⟩
        clear O2 b2
        go_wp2_with (at_builtin; refine list_append_eq rfl _ _ 50 50 rfl _ _ rfl rfl e1 ?_)
        refine ⟨⟨q.extract 1 q.size, acc ++ [q[0]], by simp, by rw [size_drop]; omega, H2.out.1, H2.out.2, ?_⟩, by simp; omega⟩
        rw [bytes_drop, ← HW.out.2.2, HT.out]
        simp only [List.append_assoc, List.cons_append, List.nil_append]
      · rw [if_neg hn] at HT
        have k2 := fun w => renc_ok r w hr0 hr1 hrw
        have hes := enc_same r hr0 hr1 hrw
        have hel : (Utf8.encode r).size ≤ 4 := by
          have : (Utf8.encode r).size = (Lib.encodeRune r).length := by rw [← hes]; exact Array.length_toList.symm
          rw [this]; exact enc_len r
        obtain ⟨es, hes2⟩ : ∃ es, Utf8.encode r = es := ⟨_, rfl⟩
        rw [hes2] at k2 hes hel
        have HE : Hid (es.data.toList = Lib.encodeRune r) := hes
        clear hes hes2
        go_wp2_with fail
        refine (k2 _).mono ?_
        rintro e w2 ⟨rfl, b2⟩
        have H2 : Hid (OwnB w2 w.heap.size u5 acc ∧ Below w.heap.size w w2) := ⟨H1.out.1.below b2, H1.out.2.trans (b2.mono H1.out.2.size)⟩
        obtain ⟨u, W1, v3, w3, c1, e1, O3, b3⟩ := conv_app H2.out.1 es H2.out.2.size (by omega)
        have H3 : Hid (OwnB w3 w.heap.size v3 (acc ++ es.data.toList) ∧ Below w.heap.size w w3) := ⟨O3, H2.out.2.trans b3⟩
        clear b2 O3 b3 k2 H1
        go_wp2_with (at_builtin; refine list_append_eq rfl _ _ 50 50 rfl _ _ rfl rfl e1 ?_)
        refine ⟨⟨q.extract n q.size, acc ++ es.data.toList, by simp, by rw [size_drop]; omega, H3.out.1, H3.out.2, ?_⟩, by simp; omega⟩
        rw [bytes_drop, ← HW.out.2.2, HT.out, HE.out]
        simp only [List.append_assoc]
    · have hq0 : q.data.toList = [] := List.eq_nil_of_length_eq_zero (by omega)
      have hst := str_of HW.out.1
      have HF : Hid (acc = textP L attr s.data.toList) := by
        have := HW.out.2.2
        rw [hq0, text_nil, List.append_nil] at this
        exact this
      clear hq0
      go_wp2_with fail
      go_ret
      rw [HF.out]
      exact ⟨rfl, HW.out.2.1⟩
end Go.Proofs.YtaadphifagimaaaDoor
