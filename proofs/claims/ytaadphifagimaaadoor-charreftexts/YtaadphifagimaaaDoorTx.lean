/- Text. -/
import Derived.Test.YtaadphifagimaaaDoorTp
import Derived.Test.YtaadphifagimaaaDoorEs
import Derived.Deep.DeepCutAuto
namespace Go.Proofs.YtaadphifagimaaaDoor
open Go.RowKit

theorem bldr_at_below {B b : Nat} {p : Value} {bs : List Value} {w w' : World} (h : Lib.BuilderAtF 52 5 B b p bs w) (k : Below w.heap.size w w') : Lib.BuilderAtF 52 5 B b p bs w' := by
  obtain ⟨hB, v, hb, ⟨hl, hown⟩, hne⟩ := h
  refine ⟨hB, v, (k.block b (Array.getElem?_eq_some_iff.1 hb).1).trans hb, ⟨hl, ?_⟩, hne⟩
  rcases hown with hn | ⟨g, cap, cur, fz, hv, hBg, hg, rest⟩
  · exact .inl hn
  · exact .inr ⟨g, cap, cur, fz, hv, hBg, (k.block g (Array.getElem?_eq_some_iff.1 hg).1).trans hg, rest⟩
theorem bldr_below {B b : Nat} {bs : List Value} {w w' : World} (h : Lib.IsBuilderF 52 5 B b bs w) (k : Below w.heap.size w w') : Lib.IsBuilderF 52 5 B b bs w' := by
  rcases h with h | h
  · exact .inl (bldr_at_below h k)
  · exact .inr (bldr_at_below h k)

theorem TrieAt.kept {w w' : World} {B t : Nat} {N M : Path → Option Nat} {V : Path → Option Int} {c : Int} {k : Nat} (T : TrieAt w B t N M V c k) (e : ∀ p b, N p = some b → w'.heap[b]? = w.heap[b]?) (e2 : ∀ p m, M p = some m → w'.heap[m]? = w.heap[m]?) : TrieAt w' B t N M V c k where
  root := T.root
  hB := T.hB
  hM := T.hM
  inj := T.inj
  minj := T.minj
  up := T.up
  mup := T.mup
  vup := T.vup
  node := fun p b h => (T.node p b h).same (e p b h)
  maps := fun p m h => (T.maps p m h).same (e2 p m h)
  count := (World.cell?_of_block (a := ⟨t, 3, none⟩) (e _ _ T.root)).trans T.count
/-- A write into a builder turns no trie. -/
theorem TrieIs.others {w w' : World} {B t b : Nat} {l : List Rf} (T : TrieIs w B t l) (hb : b < B) (k : Lib.OthersKept 5 (some b) w w') : TrieIs w' B t l := by
  obtain ⟨N, M, n, T, h2, h3⟩ := T
  refine ⟨N, M, n, T.kept (fun p d h => ?_) (fun p m h => ?_), h2, h3⟩
  · have O := T.node p d h
    have hB := T.hB p d h
    obtain ⟨o, ho⟩ : ∃ o, w.heap[d]? = some o := ⟨_, Array.getElem?_eq_getElem O.lt⟩
    rw [ho]
    exact k d o ho (by simp; omega) (fun c fz e => O.tg c fz (by rw [ho, e]))
  · have hB := T.hM p m h
    obtain ⟨D, ⟨es, clock, hbk, _⟩, _⟩ := T.maps p m h
    rw [hbk]
    exact k m _ hbk (by simp; omega) (fun c fz e => by cases e)

theorem extract_take' (s : ByteArray) (k : Nat) : (s.extract 0 k).data.toList = s.data.toList.take k := by
  simp [ByteArray.data_extract]
theorem size_drop (s : ByteArray) (n : Nat) : (s.extract n s.size).size = s.size - n := by simp [ByteArray.size_extract]
theorem enc38 : Lib.encodeRune 38 = [38] := by decide

/-- Text's trie, made or not yet. -/
def TV (B : Nat) (L : List Rf) (tv : Value) (w : World) : Prop := tv = .pointer none ∨ ∃ t, tv = .pointer (some ⟨t, 0, none⟩) ∧ TrieIs w (B + 1) t L

/-- A reference is read, or a & stands. -/
theorem text_amp (L : List Rf) (attr : Bool) {q : List UInt8} {o : Nat} (h1 : q[o]? = some 38) (h2 : ∀ k, k < o → q[k]? ≠ some 38) :
    textP L attr q = q.take o ++ (if (refP L attr (q.drop o)).2.1 = 0 then Lib.encodeRune 38 ++ textP L attr (q.drop (o + 1)) else Lib.encodeRune (refP L attr (q.drop o)).1 ++ textP L attr (q.drop (o + (refP L attr (q.drop o)).2.1))) := by
  have hol := (List.getElem?_eq_some_iff.1 h1).1
  have hd : q.drop o = 38 :: q.drop (o + 1) := by
    rw [List.drop_eq_getElem_cons hol]
    congr 1
    exact (List.getElem?_eq_some_iff.1 h1).2
  have hp : ∀ c ∈ q.take o, c ≠ 38 := fun c hc e => by
    obtain ⟨k, hk, he⟩ := List.getElem_of_mem hc
    rw [List.length_take] at hk
    refine h2 k (by omega) ?_
    rw [List.getElem_take] at he
    rw [List.getElem?_eq_getElem (by omega), he, e]
  have e1 : textP L attr q = textP L attr (q.take o ++ q.drop o) := by rw [List.take_append_drop]
  rw [e1, text_plain L attr _ _ hp]
  congr 1
  rw [hd, text_cons, enc38]
  split
  · rfl
  · rw [← hd, List.drop_drop]

theorem idx_none {l : List UInt8} (h : Lib.indexByte l 38 = -1) : ∀ c ∈ l, c ≠ 38 := fun c hc e => by
  obtain ⟨k, hk, he⟩ := List.getElem_of_mem hc
  exact Lib.indexByte_none h k (by rw [List.getElem?_eq_getElem hk, he, e])

set_option maxHeartbeats 1000000 in
set_option maxRecDepth 10000 in
theorem text_any {L : List Rf} (A : Api L) {w : World} (H : Hi w) (s : ByteArray) (attr : Bool) (hs : s.size ≤ 100000) :
    Calls Tryd.prog 14 #[.string s, .bool attr] w fun e w' => e = .returned (.string ⟨(textP L attr s.data.toList).toArray⟩) ∧ Below w.heap.size w w' := by
  have HA : Hid (Api L ∧ Hi w ∧ (textP L attr s.data.toList).length ≤ 400000) := by
    have h1 := text_len L attr s.data.toList
    have h2 : s.data.toList.length = s.size := Array.length_toList
    exact ⟨A, H, by omega⟩
  clear A H
  go_enter Tryd.func14, Tryd.ntmps14
  go_wp2_with fail
  go_loopw [0, 6] (fun sv tv wr => ∃ (q : ByteArray) (acc : List UInt8), sv = .string q ∧ q.size ≤ s.size ∧ Lib.IsBuilderF 52 5 w.heap.size w.heap.size (Lib.byteCells acc) wr ∧ w.heap.size < wr.heap.size ∧ Below w.heap.size w wr ∧ acc ++ textP L attr q.data.toList = textP L attr s.data.toList ∧ TV w.heap.size L tv wr) (fun sv _ _ => match sv with | .string q => q.size | _ => 0)
  case atStart => exact ⟨s, [], rfl, Nat.le_refl _, Lib.IsBuilderF.of (Lib.fresh_isBuilder 52 5 w), by simp, (Below.refl _ w).alloc (Nat.le_refl _) _, rfl, .inl rfl⟩
  case round =>
    obtain ⟨q, acc, rfl, hqs, hI, hsz, hbw, hacc, hT⟩ := hrel
    have hal : acc.length ≤ 400000 := by
      have := HA.out.2.2
      rw [← hacc, List.length_append] at this
      omega
    have HW : Hid (Lib.IsBuilderF 52 5 w.heap.size w.heap.size (Lib.byteCells acc) wr ∧ w.heap.size < wr.heap.size ∧ Below w.heap.size w wr ∧ acc ++ textP L attr q.data.toList = textP L attr s.data.toList ∧ TV w.heap.size L u6 wr) := ⟨hI, hsz, hbw, hacc, hT⟩
    have hix := fun w => strings_IndexByte q 38 w
    rw [show (38 : Int).toNat.toUInt8 = 38 from rfl] at hix
    have hge := Lib.indexByte_ge q.data.toList 38
    have hql : q.data.toList.length = q.size := Array.length_toList
    obtain ⟨o, ho⟩ : ∃ o, Lib.indexByte q.data.toList 38 = o := ⟨_, rfl⟩
    rw [ho] at hix hge
    clear hI hbw hacc hT
    by_cases hneg : o < 0
    · have hm1 : o = -1 := by omega
      subst hm1
      have HP : Hid (textP L attr q.data.toList = q.data.toList) := text_none L attr _ (idx_none ho)
      have kw1 := fun wx (h1 : Lib.IsBuilderF 52 5 w.heap.size w.heap.size (Lib.byteCells acc) wx) (h2 : w.heap.size ≤ wx.heap.size) => writeString_k w.heap.size w.heap.size (Lib.byteCells acc) q wx h1 (by rw [Lib.byteCells_length]; omega) h2
      clear ho hge hql
      go_wp2_with (go_at_call 30; refine (hix _).mono ?_; rintro e w' ⟨rfl, hw'⟩; obtain rfl := hw'.symm)
      refine (kw1 _ HW.out.1 (by omega)).mono ?_
      rintro e W2 ⟨rfl, h1, b1, k1⟩
      have HE : acc ++ q.data.toList = textP L attr s.data.toList := by rw [← HW.out.2.2.2.1, HP.out]
      rw [← Lib.byteCells_append, HE] at h1
      have HB2 : Hid (Below w.heap.size w W2) := HW.out.2.2.1.trans b1
      have ks := string_k w.heap.size w.heap.size (textP L attr s.data.toList) W2 (Or.inr h1) HB2.out.size
      clear h1 b1 k1 kw1 HE HP hix
      go_wp2_with fail
      refine ks.mono ?_
      rintro e W3 ⟨rfl, h1, b1, k1⟩
      have HB3 : Hid (Below w.heap.size w W3) := HB2.out.trans b1
      clear h1 b1 k1 ks
      go_wp2
      go_ret
      exact ⟨rfl, HB3.out⟩
    · obtain ⟨o, rfl⟩ : ∃ k : Nat, o = k := ⟨o.toNat, by omega⟩
      obtain ⟨hat, hbf⟩ := Lib.indexByte_some ho
      have hol : o < q.size := by
        have := (List.getElem?_eq_some_iff.1 hat).1
        omega
      have HP : Hid (textP L attr q.data.toList = _) := text_amp L attr hat hbf
      clear ho hge hat hbf
      have HACC : Hid (acc ++ textP L attr q.data.toList = textP L attr s.data.toList) := HW.out.2.2.2.1
      have hnn : ¬ ((o : Int) < 0) := by omega
      rcases HW.out.2.2.2.2 with hu | ⟨t, hu, hTr⟩
      · subst hu
        go_wp2_with (go_at_call 30; refine (hix _).mono ?_; rintro e w' ⟨rfl, hw'⟩; obtain rfl := hw'.symm)
        refine (HA.out.1.refs _).mono ?_
        rintro e w1 ⟨rfl, hr1, b1, z1⟩
        have kn := new_any 78 78 hr1 HA.out.1.len (by decide)
        have H1 : Hid (Below wr.heap.size wr w1) := b1
        clear hr1 b1 z1
        go_wp2_with fail
        refine kn.mono ?_
        rintro e Wc ⟨t, rfl, T, b2⟩
        have HC : Hid (Lib.IsBuilderF 52 5 w.heap.size w.heap.size (Lib.byteCells acc) Wc ∧ w.heap.size < Wc.heap.size ∧ Below w.heap.size w Wc ∧ TrieIs Wc (w.heap.size + 1) t L) := by
          have hb := H1.out.trans (b2.mono H1.out.size)
          have z1 := H1.out.size
          exact ⟨bldr_below HW.out.1 hb, Nat.lt_of_lt_of_le HW.out.2.1 hb.size, HW.out.2.2.1.trans (hb.mono HW.out.2.2.1.size), T.mono (by have := HW.out.2.1; omega)⟩
        clear T b2 H1 kn HW
        go_wp2_with fail
        have kw := writeString_k w.heap.size w.heap.size (Lib.byteCells acc) (q.extract 0 o) Wc HC.out.1 (by rw [Lib.byteCells_length]; simp only [ByteArray.size_extract]; omega) (by have := HC.out.2.1; omega)
        refine kw.mono ?_
        rintro e W2 ⟨rfl, h1, b1, k1⟩
        have H2 : Hid (Lib.IsBuilderF 52 5 w.heap.size w.heap.size (Lib.byteCells (acc ++ q.data.toList.take o)) W2 ∧ w.heap.size < W2.heap.size ∧ Below w.heap.size w W2 ∧ TrieIs W2 (w.heap.size + 1) t L) := by
          refine ⟨?_, Nat.lt_of_lt_of_le HC.out.2.1 b1.size, HC.out.2.2.1.trans b1, HC.out.2.2.2.others (Nat.lt_succ_self _) k1⟩
          rw [Lib.byteCells_append, ← extract_take']
          exact Or.inr h1
        have kr := reference_any (L := L) (tv := .pointer (some ⟨t, 0, none⟩)) (HA.out.2.1.below H2.out.2.2.1 HA.out.2.1.lt) (.inr ⟨t, rfl, H2.out.2.2.2⟩) HA.out.1.fine (q.extract o q.size) attr (by rw [size_drop]; omega)
        rw [bytes_drop] at kr
        have hrl := ref_len L attr (q.data.toList.drop o)
        rw [List.length_drop, hql] at hrl
        have hrf := ref_fine HA.out.1.fine attr (q.data.toList.drop o)
        obtain ⟨p, hp⟩ : ∃ p, refP L attr (q.data.toList.drop o) = p := ⟨_, rfl⟩
        rw [hp] at kr hrl hrf HP
        obtain ⟨r, n, C⟩ := p
        simp only at kr hrl hrf HP
        obtain ⟨hr0, hr1⟩ := hrf
        clear h1 b1 k1 kw hp HC
        go_wp2_with fail
        refine kr.mono ?_
        rintro e W3 ⟨v, rfl, c3, b3⟩
        simp only
        have H3 : Hid (Lib.IsBuilderF 52 5 w.heap.size w.heap.size (Lib.byteCells (acc ++ q.data.toList.take o)) W3 ∧ w.heap.size < W3.heap.size ∧ Below w.heap.size w W3 ∧ TrieIs W3 (w.heap.size + 1) t L) :=
          ⟨bldr_below H2.out.1 b3, Nat.lt_of_lt_of_le H2.out.2.1 b3.size, H2.out.2.2.1.trans (b3.mono H2.out.2.2.1.size), H2.out.2.2.2.below b3⟩
        have hlt : (acc ++ q.data.toList.take o).length ≤ 600000 := by rw [List.length_append, List.length_take, hql]; omega
        clear c3 b3 kr H2
        by_cases hn0 : n = 0
        · subst hn0
          rw [if_pos rfl] at HP
          have kr2 := writeRune_k w.heap.size w.heap.size (Lib.byteCells (acc ++ q.data.toList.take o)) 38 (by decide) (by decide) W3 H3.out.1 (by rw [Lib.byteCells_length]; omega) (by have := H3.out.2.1; omega)
          go_wp2_with fail
          refine kr2.mono ?_
          rintro e W4 ⟨rfl, h1, b1, k1⟩
          have H4 : Hid (Lib.IsBuilderF 52 5 w.heap.size w.heap.size (Lib.byteCells (acc ++ q.data.toList.take o ++ Lib.encodeRune 38)) W4 ∧ w.heap.size < W4.heap.size ∧ Below w.heap.size w W4 ∧ TV w.heap.size L (.pointer (some ⟨t, 0, none⟩)) W4) := by
            refine ⟨?_, Nat.lt_of_lt_of_le H3.out.2.1 b1.size, H3.out.2.2.1.trans b1, .inr ⟨t, rfl, H3.out.2.2.2.others (Nat.lt_succ_self _) k1⟩⟩
            rw [Lib.byteCells_append, Lib.byteCells_encodeRune]
            exact Or.inr h1
          clear h1 b1 k1 kr2 H3
          go_wp2_with fail
          refine ⟨⟨q.extract (o + 1) q.size, acc ++ q.data.toList.take o ++ Lib.encodeRune 38, by simp, by rw [size_drop]; omega, H4.out.1, H4.out.2.1, H4.out.2.2.1, ?_, H4.out.2.2.2⟩, by simp; omega⟩
          rw [bytes_drop, ← HACC.out, HP.out]
          simp only [List.append_assoc]
        · rw [if_neg hn0] at HP
          have kr2 := writeRune_k w.heap.size w.heap.size (Lib.byteCells (acc ++ q.data.toList.take o)) r (by omega) (by omega) W3 H3.out.1 (by rw [Lib.byteCells_length]; omega) (by have := H3.out.2.1; omega)
          go_wp2_with fail
          refine kr2.mono ?_
          rintro e W4 ⟨rfl, h1, b1, k1⟩
          have H4 : Hid (Lib.IsBuilderF 52 5 w.heap.size w.heap.size (Lib.byteCells (acc ++ q.data.toList.take o ++ Lib.encodeRune r)) W4 ∧ w.heap.size < W4.heap.size ∧ Below w.heap.size w W4 ∧ TV w.heap.size L (.pointer (some ⟨t, 0, none⟩)) W4) := by
            refine ⟨?_, Nat.lt_of_lt_of_le H3.out.2.1 b1.size, H3.out.2.2.1.trans b1, .inr ⟨t, rfl, H3.out.2.2.2.others (Nat.lt_succ_self _) k1⟩⟩
            rw [Lib.byteCells_append, Lib.byteCells_encodeRune]
            exact Or.inr h1
          clear h1 b1 k1 kr2 H3
          go_wp2_with fail
          refine ⟨⟨q.extract (o + n) q.size, acc ++ q.data.toList.take o ++ Lib.encodeRune r, by simp, by rw [size_drop]; omega, H4.out.1, H4.out.2.1, H4.out.2.2.1, ?_, H4.out.2.2.2⟩, by simp; omega⟩
          rw [bytes_drop, ← HACC.out, HP.out]
          simp only [List.append_assoc]
      · subst hu
        have HC : Hid (Lib.IsBuilderF 52 5 w.heap.size w.heap.size (Lib.byteCells acc) wr ∧ w.heap.size < wr.heap.size ∧ Below w.heap.size w wr ∧ TrieIs wr (w.heap.size + 1) t L) := ⟨HW.out.1, HW.out.2.1, HW.out.2.2.1, hTr⟩
        clear HW hTr
        go_wp2_with (go_at_call 30; refine (hix _).mono ?_; rintro e w' ⟨rfl, hw'⟩; obtain rfl := hw'.symm)
        have kw := writeString_k w.heap.size w.heap.size (Lib.byteCells acc) (q.extract 0 o) wr HC.out.1 (by rw [Lib.byteCells_length]; simp only [ByteArray.size_extract]; omega) (by have := HC.out.2.1; omega)
        refine kw.mono ?_
        rintro e W2 ⟨rfl, h1, b1, k1⟩
        have H2 : Hid (Lib.IsBuilderF 52 5 w.heap.size w.heap.size (Lib.byteCells (acc ++ q.data.toList.take o)) W2 ∧ w.heap.size < W2.heap.size ∧ Below w.heap.size w W2 ∧ TrieIs W2 (w.heap.size + 1) t L) := by
          refine ⟨?_, Nat.lt_of_lt_of_le HC.out.2.1 b1.size, HC.out.2.2.1.trans b1, HC.out.2.2.2.others (Nat.lt_succ_self _) k1⟩
          rw [Lib.byteCells_append, ← extract_take']
          exact Or.inr h1
        have kr := reference_any (L := L) (tv := .pointer (some ⟨t, 0, none⟩)) (HA.out.2.1.below H2.out.2.2.1 HA.out.2.1.lt) (.inr ⟨t, rfl, H2.out.2.2.2⟩) HA.out.1.fine (q.extract o q.size) attr (by rw [size_drop]; omega)
        rw [bytes_drop] at kr
        have hrl := ref_len L attr (q.data.toList.drop o)
        rw [List.length_drop, hql] at hrl
        have hrf := ref_fine HA.out.1.fine attr (q.data.toList.drop o)
        obtain ⟨p, hp⟩ : ∃ p, refP L attr (q.data.toList.drop o) = p := ⟨_, rfl⟩
        rw [hp] at kr hrl hrf HP
        obtain ⟨r, n, C⟩ := p
        simp only at kr hrl hrf HP
        obtain ⟨hr0, hr1⟩ := hrf
        clear h1 b1 k1 kw hp HC
        go_wp2_with fail
        refine kr.mono ?_
        rintro e W3 ⟨v, rfl, c3, b3⟩
        simp only
        have H3 : Hid (Lib.IsBuilderF 52 5 w.heap.size w.heap.size (Lib.byteCells (acc ++ q.data.toList.take o)) W3 ∧ w.heap.size < W3.heap.size ∧ Below w.heap.size w W3 ∧ TrieIs W3 (w.heap.size + 1) t L) :=
          ⟨bldr_below H2.out.1 b3, Nat.lt_of_lt_of_le H2.out.2.1 b3.size, H2.out.2.2.1.trans (b3.mono H2.out.2.2.1.size), H2.out.2.2.2.below b3⟩
        have hlt : (acc ++ q.data.toList.take o).length ≤ 600000 := by rw [List.length_append, List.length_take, hql]; omega
        clear c3 b3 kr H2
        by_cases hn0 : n = 0
        · subst hn0
          rw [if_pos rfl] at HP
          have kr2 := writeRune_k w.heap.size w.heap.size (Lib.byteCells (acc ++ q.data.toList.take o)) 38 (by decide) (by decide) W3 H3.out.1 (by rw [Lib.byteCells_length]; omega) (by have := H3.out.2.1; omega)
          go_wp2_with fail
          refine kr2.mono ?_
          rintro e W4 ⟨rfl, h1, b1, k1⟩
          have H4 : Hid (Lib.IsBuilderF 52 5 w.heap.size w.heap.size (Lib.byteCells (acc ++ q.data.toList.take o ++ Lib.encodeRune 38)) W4 ∧ w.heap.size < W4.heap.size ∧ Below w.heap.size w W4 ∧ TV w.heap.size L (.pointer (some ⟨t, 0, none⟩)) W4) := by
            refine ⟨?_, Nat.lt_of_lt_of_le H3.out.2.1 b1.size, H3.out.2.2.1.trans b1, .inr ⟨t, rfl, H3.out.2.2.2.others (Nat.lt_succ_self _) k1⟩⟩
            rw [Lib.byteCells_append, Lib.byteCells_encodeRune]
            exact Or.inr h1
          clear h1 b1 k1 kr2 H3
          go_wp2_with fail
          refine ⟨⟨q.extract (o + 1) q.size, acc ++ q.data.toList.take o ++ Lib.encodeRune 38, by simp, by rw [size_drop]; omega, H4.out.1, H4.out.2.1, H4.out.2.2.1, ?_, H4.out.2.2.2⟩, by simp; omega⟩
          rw [bytes_drop, ← HACC.out, HP.out]
          simp only [List.append_assoc]
        · rw [if_neg hn0] at HP
          have kr2 := writeRune_k w.heap.size w.heap.size (Lib.byteCells (acc ++ q.data.toList.take o)) r (by omega) (by omega) W3 H3.out.1 (by rw [Lib.byteCells_length]; omega) (by have := H3.out.2.1; omega)
          go_wp2_with fail
          refine kr2.mono ?_
          rintro e W4 ⟨rfl, h1, b1, k1⟩
          have H4 : Hid (Lib.IsBuilderF 52 5 w.heap.size w.heap.size (Lib.byteCells (acc ++ q.data.toList.take o ++ Lib.encodeRune r)) W4 ∧ w.heap.size < W4.heap.size ∧ Below w.heap.size w W4 ∧ TV w.heap.size L (.pointer (some ⟨t, 0, none⟩)) W4) := by
            refine ⟨?_, Nat.lt_of_lt_of_le H3.out.2.1 b1.size, H3.out.2.2.1.trans b1, .inr ⟨t, rfl, H3.out.2.2.2.others (Nat.lt_succ_self _) k1⟩⟩
            rw [Lib.byteCells_append, Lib.byteCells_encodeRune]
            exact Or.inr h1
          clear h1 b1 k1 kr2 H3
          go_wp2_with fail
          refine ⟨⟨q.extract (o + n) q.size, acc ++ q.data.toList.take o ++ Lib.encodeRune r, by simp, by rw [size_drop]; omega, H4.out.1, H4.out.2.1, H4.out.2.2.1, ?_, H4.out.2.2.2⟩, by simp; omega⟩
          rw [bytes_drop, ← HACC.out, HP.out]
          simp only [List.append_assoc]
end Go.Proofs.YtaadphifagimaaaDoor
