/- Text, the program's and the document's: the characters' bytes. -/
import Derived.Test.YtnpaodagpleiaaaSf
import Derived.Test.YtnpaodagpleiaaaEn
import Derived.Test.YtnpaodagpleiaaaShelf
import Derived.BigCall
namespace Go.Proofs.Ytnpaodagpleiaaa
open Go.RowKit

def tx1 (x : TL) : Path := if x.1.k = 1 then Lib.encodeRune (chr x.1.r) else []
def txP (l : List TL) : Path := l.flatMap tx1
theorem tx_drop {L : List TL} {i : Nat} {x : TL} (h : L[i]? = some x) : txP (L.drop i) = tx1 x ++ txP (L.drop (i + 1)) := by
  rw [drop_at h]
  unfold txP
  rw [List.flatMap_cons]
theorem enc_len (r : Int) : (Lib.encodeRune (chr r)).length ≤ 4 := by
  obtain ⟨h0, h1, h2⟩ := chr_ok r
  have hv : Utf8.valid (chr r) = true := by unfold Utf8.valid; simp; omega
  obtain ⟨c, hc⟩ := Int.eq_ofNat_of_zero_le h0
  rw [← chr_lib, val_enc _ hv c hc]
  repeat' split
  all_goals simp

set_option maxHeartbeats 2000000 in
set_option maxRecDepth 10000 in
theorem text_any {w : World} {lo : Option Addr} {L : List TL} (n cap : Nat) (ha : TkRow w lo L) (hn : L.length = n) (hn2 : n ≤ 2000000000000) :
    Calls Try.prog 17 #[.slice lo n cap] w fun e w' => e = .returned (.string ⟨(txP L).toArray⟩) ∧ Below w.heap.size w w' := by
  have HA : Hid (TkRow w lo L ∧ L.length = n) := ⟨ha, hn⟩
  clear ha hn
  go_enter Try.func17, Try.ntmps17
  go_wp2_with fail
  go_loopg [8] n (fun g2 iv wr => ∃ (i : Nat) (acc : Path), iv = .int .i64 i ∧ i + g2 = n ∧ acc.length ≤ 4 * i ∧ Lib.IsBuilderF 49 5 w.heap.size w.heap.size (Lib.byteCells acc) wr ∧ w.heap.size < wr.heap.size ∧ Below w.heap.size w wr ∧ acc ++ txP (L.drop i) = txP L)
  case atStart => exact ⟨0, [], rfl, by omega, Nat.zero_le _, Lib.IsBuilderF.of (Lib.fresh_isBuilder 49 5 w), by simp, (Below.refl _ w).alloc (Nat.le_refl _) _, rfl⟩
  case round =>
    obtain ⟨i, acc, rfl, hig, hal, hI, hsz, hbw, hacc⟩ := hrel
    have HW : Hid (Lib.IsBuilderF 49 5 w.heap.size w.heap.size (Lib.byteCells acc) wr ∧ w.heap.size < wr.heap.size ∧ Below w.heap.size w wr ∧ acc ++ txP (L.drop i) = txP L ∧ acc.length ≤ 4 * i) := ⟨hI, hsz, hbw, hacc, hal⟩
    clear hI hsz hbw hacc hal
    cases gk with
    | zero =>
      obtain rfl : i = n := by omega
      have hg0 : decide ((i : Int) < (i : Int)) = false := decide_eq_false (by omega)
      have ea : acc = txP L := by
        have h := HW.out.2.2.2.1
        rw [List.drop_of_length_le (by rw [HA.out.2]; exact Nat.le_refl _)] at h
        simpa [txP] using h
      have ks := string_k w.heap.size w.heap.size acc wr HW.out.1 (Nat.le_of_lt HW.out.2.1)
      rw [ea] at ks
      clear ea
      go_wp2_with fail
      refine ks.mono ?_
      rintro e w1 ⟨rfl, h1, b1, k1⟩
      have HB : Hid (Below w.heap.size w w1) := HW.out.2.2.1.trans b1
      clear h1 b1 k1 ks
      go_wp2_with fail
      go_ret
      exact ⟨rfl, HB.out⟩
    | succ k =>
      have hin : i < n := by omega
      obtain ⟨x, hx⟩ : ∃ x, L[i]? = some x := ⟨_, List.getElem?_eq_getElem (by rw [HA.out.2]; exact hin)⟩
      obtain ⟨b1, o1, rfl, h1, ⟨c0, c1, c2, c3, c4, c5, c6, c7⟩, ok1⟩ := (HA.out.1.below HW.out.2.2.1).at hx
      have HD : Hid (txP (L.drop i) = tx1 x ++ txP (L.drop (i + 1))) := tx_drop hx
      clear hx ok1
      obtain ⟨⟨kk, r, nm, tx, ao, m, ca, s, f, t⟩, A⟩ := x
      simp only at c0 c1 c2 c3 c4 c5 c6 c7
      obtain ⟨U, hU⟩ : ∃ U, wr.alloc (.cells #[.int .i64 kk, .int .i64 r, .string nm, .string tx, .slice ao m ca, .bool s, .int .i64 f, .int .i64 t] 26) = U := ⟨_, rfl⟩
      have HU : Hid (Lib.IsBuilderF 49 5 w.heap.size w.heap.size (Lib.byteCells acc) U ∧ w.heap.size < U.heap.size ∧ Below w.heap.size w U) := by
        show _ ∧ _ ∧ _
        rw [← hU]
        exact ⟨HW.out.1.alloc _, by have := HW.out.2.1; simp; omega, HW.out.2.2.1.alloc (Nat.le_of_lt HW.out.2.1) _⟩
      have hnew : U.heap[wr.heap.size]? = some (.cells (Tk.arr ⟨kk, r, nm, tx, ao, m, ca, s, f, t⟩) 26 (0, 0)) := by rw [← hU]; exact heap_alloc_new _ _
      obtain ⟨p0, p1, _, _, _, _, _, _⟩ := TkBox.of hnew
      simp only at p0 p1
      clear hnew
      by_cases hk : kk = 1
      · subst hk
        have ht1 : Hid (txP (L.drop i) = Lib.encodeRune (chr r) ++ txP (L.drop (i + 1))) := HD.out
        have kc := char_any r U
        have hcr := chr_ok r
        obtain ⟨c, hc⟩ : ∃ c, chr r = c := ⟨_, rfl⟩
        have hle := enc_len r
        rw [hc] at kc ht1 hcr hle
        have kw := writeRune_k w.heap.size w.heap.size (Lib.byteCells acc) c (by omega) (by omega) U HU.out.1 (by rw [Lib.byteCells_length]; have := HW.out.2.2.2.2; omega) (Nat.le_of_lt HU.out.2.1)
        clear hc
        go_wp2_with fail
        refine kc.mono ?_
        rintro e w1 ⟨rfl, hw1⟩
        obtain rfl := hw1.symm
        clear kc hw1
        go_wp2_with fail
        refine kw.mono ?_
        rintro e w2 ⟨rfl, q1, q2, q3⟩
        have H2 : Hid (Lib.IsBuilderF 49 5 w.heap.size w.heap.size (Lib.byteCells (acc ++ Lib.encodeRune c)) w2 ∧ w.heap.size < w2.heap.size ∧ Below w.heap.size w w2) := by
          refine ⟨?_, Nat.lt_of_lt_of_le HU.out.2.1 q2.size, HU.out.2.2.trans q2⟩
          rw [Lib.byteCells_append, Lib.byteCells_encodeRune]
          exact Or.inr q1
        clear q1 q2 q3 kw hU
        go_wp2_with fail
        go_roundg k
        case measure => omega
        case rel =>
          refine ⟨i + 1, acc ++ Lib.encodeRune c, by go_num, by omega, ?_, H2.out.1, H2.out.2.1, H2.out.2.2, ?_⟩
          · rw [List.length_append]; have := HW.out.2.2.2.2; omega
          · rw [← HW.out.2.2.2.1, ht1.out, List.append_assoc]
      · have ht1 : Hid (txP (L.drop i) = txP (L.drop (i + 1))) := by
          have h := HD.out
          unfold tx1 at h
          rw [if_neg hk, List.nil_append] at h
          exact h
        have hk' := beq_false_of_ne hk
        clear hk
        go_wp2_with fail
        go_roundg k
        case measure => omega
        case rel => exact ⟨i + 1, acc, by go_num, by omega, by have := HW.out.2.2.2.2; omega, HU.out.1, HU.out.2.1, HU.out.2.2, by rw [← HW.out.2.2.2.1, ht1.out]⟩

set_option maxHeartbeats 2000000 in
set_option maxRecDepth 10000 in
theorem rtext_any {w : World} {lo : Option Addr} {L : List TL} (n cap : Nat) (ha : TkRow w lo L) (hn : L.length = n) (hn2 : n ≤ 2000000000000) :
    Calls Try.prog 18 #[.slice lo n cap] w fun e w' => e = .returned (.string ⟨(txP L).toArray⟩) ∧ Below w.heap.size w w' := by
  have HA : Hid (TkRow w lo L ∧ L.length = n) := ⟨ha, hn⟩
  clear ha hn
  go_enter Try.func18, Try.ntmps18
  go_wp2_with fail
  go_loopg [3, 4] n (fun g2 sv iv wr => ∃ (i : Nat) (acc : ByteArray), sv = .string acc ∧ iv = .int .i64 i ∧ i + g2 = n ∧ acc.size ≤ 4 * i ∧ Below w.heap.size w wr ∧ acc.data.toList ++ txP (L.drop i) = txP L)
  case atStart => exact ⟨0, ⟨#[]⟩, rfl, rfl, by omega, Nat.zero_le _, Below.refl _ _, rfl⟩
  case round =>
    obtain ⟨i, acc, rfl, rfl, hig, hsz, hbw, hacc⟩ := hrel
    have HW : Hid (Below w.heap.size w wr ∧ acc.data.toList ++ txP (L.drop i) = txP L) := ⟨hbw, hacc⟩
    clear hbw hacc
    cases gk with
    | zero =>
      obtain rfl : i = n := by omega
      have hg0 : decide ((i : Int) < (i : Int)) = false := decide_eq_false (by omega)
      have ea : Hid (acc = ⟨(txP L).toArray⟩) := by
        have h := HW.out.2
        rw [List.drop_of_length_le (by rw [HA.out.2]; exact Nat.le_refl _)] at h
        exact bytes_eq (by simpa [txP] using h)
      go_wp2_with fail
      go_ret
      exact ⟨ret_str ea.out, HW.out.1⟩
    | succ k =>
      have hin : i < n := by omega
      obtain ⟨x, hx⟩ : ∃ x, L[i]? = some x := ⟨_, List.getElem?_eq_getElem (by rw [HA.out.2]; exact hin)⟩
      obtain ⟨b1, o1, rfl, h1, ⟨c0, c1, c2, c3, c4, c5, c6, c7⟩, ok1⟩ := (HA.out.1.below HW.out.1).at hx
      have HD : Hid (txP (L.drop i) = tx1 x ++ txP (L.drop (i + 1))) := tx_drop hx
      clear hx ok1
      obtain ⟨⟨kk, r, nm, tx, ao, m, ca, s, f, t⟩, A⟩ := x
      simp only at c0 c1
      clear c2 c3 c4 c5 c6 c7
      by_cases hk : kk = 1
      · subst hk
        have ht1 : Hid (txP (L.drop i) = Lib.encodeRune (chr r) ++ txP (L.drop (i + 1))) := HD.out
        have kc := renc_any r wr
        have hcl := chr_lib r
        obtain ⟨E, hE⟩ : ∃ E, Utf8.encode (chr r) = E := ⟨_, rfl⟩
        rw [hE] at kc hcl
        have hE4 : E.size ≤ 4 := by
          have h1 := enc_len r
          rw [← hcl] at h1
          have h2 : E.data.toList.length = E.size := Array.length_toList
          omega
        have HE : Hid (E.data.toList = Lib.encodeRune (chr r)) := hcl
        clear hE hcl
        go_wp2_with fail
        refine kc.mono ?_
        rintro e w1 ⟨rfl, q1⟩
        have H2 : Hid (Below w.heap.size w w1) := HW.out.1.trans (q1.mono HW.out.1.size)
        clear kc q1
        go_wp2_with fail
        go_roundg k
        case measure => omega
        case rel =>
          refine ⟨i + 1, acc ++ E, rfl, by go_num, by omega, by rw [ByteArray.size_append]; omega, H2.out, ?_⟩
          rw [← HW.out.2, ht1.out, ← HE.out, ← List.append_assoc]
          congr 1
      · have ht1 : Hid (txP (L.drop i) = txP (L.drop (i + 1))) := by
          have h := HD.out
          unfold tx1 at h
          rw [if_neg hk, List.nil_append] at h
          exact h
        have hk' := beq_false_of_ne hk
        clear hk
        go_wp2_with fail
        go_roundg k
        case measure => omega
        case rel => exact ⟨i + 1, acc, rfl, by go_num, by omega, by omega, HW.out.1, by rw [← HW.out.2, ht1.out]⟩
end Go.Proofs.Ytnpaodagpleiaaa
