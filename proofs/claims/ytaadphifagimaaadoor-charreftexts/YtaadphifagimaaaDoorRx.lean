/- The document's Escape. -/
import Derived.Test.YtaadphifagimaaaDoorRt
namespace Go.Proofs.YtaadphifagimaaaDoor
open Go.RowKit

/-- A constant's bytes behind the row. -/
theorem const_app {w : World} {B : Nat} {v : Value} {l : List UInt8} (h : OwnB w B v l) (nb : List UInt8) (C : Array Value) (n : Nat) (hC : C = (Lib.byteCells nb).toArray) (hn : nb.length = n) (hB : B ≤ w.heap.size) (hl : l.length ≤ 900000) (h6 : n ≤ 6) :
    ∃ v' W', (convert 50 50 (.slice (some ⟨w.heap.size, 0, none⟩) n n)).run Tryd.prog (w.alloc (.cells C 5)) = .ok (.slice (some ⟨w.heap.size, 0, none⟩) n n) (w.alloc (.cells C 5 (C.size, C.size + 1))) ∧
      (Builtin.append_ #[50, 50] 50 #[v, .slice (some ⟨w.heap.size, 0, none⟩) n n]).run Tryd.prog (w.alloc (.cells C 5 (C.size, C.size + 1))) = .ok v' W' ∧ OwnB W' B v' (l ++ nb) ∧ Below B w W' := by
  have hc := Lib.run_convert_bytes_const (P := Tryd.prog) w 50 5 C n n Tryd.underlying50 Tryd.underlying5
  have hnew := heap_alloc_new w (.cells C 5 (C.size, C.size + 1))
  obtain ⟨W, hW⟩ : ∃ W, W = w.alloc (.cells C 5 (C.size, C.size + 1)) := ⟨_, rfl⟩
  have hb : Below w.heap.size w W := by rw [hW]; exact (Below.refl _ _).alloc (Nat.le_refl _) _
  rw [← hW] at hnew hc ⊢
  obtain ⟨v', W', e, o, bb⟩ := bytes_app h hb nb w.heap.size n (fun j x hx => by
    have h5 : C[j]? = some (.int .u8 (x.toNat : Int)) := by
      rw [hC, List.getElem?_toArray]
      unfold Lib.byteCells
      rw [List.getElem?_map, hx]
      rfl
    simp [World.cell?, hnew, h5]) hB (by omega)
  rw [hn] at e
  exact ⟨v', W', hc, e, o, bb⟩

theorem esc_nb (attr : Bool) (s : ByteArray) (i : Nat) (h : i + 1 < s.size) (h0 : (s[i].toNat : Int) = 194) (h1 : (s[i + 1].toNat : Int) = 160) : escP attr (s.data.toList.drop i) = sNbsp ++ escP attr (s.data.toList.drop (i + 2)) := by
  have e0 : s[i] = 194 := UInt8.toNat_inj.1 (by show s[i].toNat = 194; omega)
  have e1 : s[i + 1] = 160 := UInt8.toNat_inj.1 (by show s[i + 1].toNat = 160; omega)
  rw [drop_at s i (by omega), drop_at s (i + 1) h, e0, e1, escP, if_pos ⟨rfl, rfl⟩]
theorem esc_one (attr : Bool) (s : ByteArray) (i : Nat) (h : i < s.size) (hno : ¬ ((s[i].toNat : Int) = 194 ∧ ∃ h : i + 1 < s.size, (s[i + 1].toNat : Int) = 160)) : escP attr (s.data.toList.drop i) = escB attr s[i] ++ escP attr (s.data.toList.drop (i + 1)) := by
  rw [drop_at s i h]
  refine esc_cons attr _ _ ?_
  rintro ⟨e1, e2⟩
  refine hno ⟨by rw [e1]; rfl, ?_⟩
  by_cases hl : i + 1 < s.size
  · rw [head_drop s (i + 1) hl] at e2
    exact ⟨hl, by rw [Option.some.inj e2]; rfl⟩
  · rw [List.drop_eq_nil_of_le (by rw [Array.length_toList]; show s.size ≤ i + 1; omega)] at e2
    cases e2
theorem escB_eq (attr : Bool) (c : UInt8) : escB attr c = if (c.toNat : Int) = 38 then sAmp else if (c.toNat : Int) = 34 ∧ attr = true then sQuot else if (c.toNat : Int) = 60 ∧ attr = false then sLt else if (c.toNat : Int) = 62 ∧ attr = false then sGt else [c] := by
  have k : ∀ d : UInt8, (c = d) = ((c.toNat : Int) = (d.toNat : Int)) := fun d => propext ⟨fun e => by rw [e], fun e => UInt8.toNat_inj.1 (by omega)⟩
  unfold escB
  simp only [k]
  rfl

set_option maxHeartbeats 1000000 in
set_option maxRecDepth 10000 in
theorem resc_any (s : ByteArray) (attr : Bool) (w : World) (hs : s.size ≤ 100000) :
    Calls Tryd.prog 17 #[.string s, .bool attr] w fun e w' => e = .returned (.string ⟨(escP attr s.data.toList).toArray⟩) ∧ Below w.heap.size w w' := by
  have HA : Hid ((escP attr s.data.toList).length ≤ 600000 ∧ s.data.toList.length = s.size) := by
    have h1 := esc_len attr s.data.toList
    have h2 : s.data.toList.length = s.size := Array.length_toList
    exact ⟨by omega, h2⟩
  go_enter Tryd.func17, Tryd.ntmps17
  go_wp2_with fail
  go_loopw [5, 6] (fun bv iv wr => ∃ (i : Nat) (acc : List UInt8), iv = .int .i64 i ∧ i ≤ s.size ∧ OwnB wr w.heap.size bv acc ∧ Below w.heap.size w wr ∧ acc ++ escP attr (s.data.toList.drop i) = escP attr s.data.toList) (fun _ iv _ => s.size - (intOf iv).toNat)
  case atStart => exact ⟨0, [], rfl, Nat.zero_le _, ⟨rfl, .inl ⟨rfl, rfl⟩⟩, Below.refl _ _, rfl⟩
  case round =>
    obtain ⟨i, acc, rfl, hi, hO, hbw, hacc⟩ := hrel
    have hal : acc.length ≤ 600000 := by
      have := HA.out.1
      rw [← hacc, List.length_append] at this
      omega
    have HW : Hid (OwnB wr w.heap.size u5 acc ∧ Below w.heap.size w wr ∧ acc ++ escP attr (s.data.toList.drop i) = escP attr s.data.toList) := ⟨hO, hbw, hacc⟩
    clear hO hbw hacc
    by_cases hlt : i < s.size
    · by_cases h38 : (s[i].toNat : Int) = 38
      · have HE : Hid (escP attr (s.data.toList.drop i) = sAmp ++ escP attr (s.data.toList.drop (i + 1))) := by
          show _ = _
          rw [esc_one attr s i hlt (by omega), escB_eq, if_pos h38]
        obtain ⟨v2, w2, c1, e1, O2, b2⟩ := const_app HW.out.1 sAmp #[.int .u8 38, .int .u8 97, .int .u8 109, .int .u8 112, .int .u8 59] 5 rfl rfl HW.out.2.1.size (by omega) (by decide)
        have H2 : Hid (OwnB w2 w.heap.size v2 (acc ++ sAmp) ∧ Below w.heap.size w w2) := ⟨O2, HW.out.2.1.trans b2⟩
        have HR : Hid (acc ++ sAmp ++ escP attr (s.data.toList.drop (i + 1)) = escP attr s.data.toList) := by
          show _ = _
          rw [← HW.out.2.2, HE.out, List.append_assoc]
        clear O2 b2 HW HE
        go_wp2_with (at_builtin; refine list_append_eq rfl _ _ 50 50 rfl _ _ rfl rfl e1 ?_)
        exact ⟨⟨i + 1, acc ++ sAmp, by go_num, by omega, H2.out.1, H2.out.2, HR.out⟩, by simp [intOf]; omega⟩
      have h38' := beq_false_of_ne h38
      by_cases hnb : (s[i].toNat : Int) = 194 ∧ ∃ h : i + 1 < s.size, (s[i + 1].toNat : Int) = 160
      · obtain ⟨h194, hl1, h160⟩ := hnb
        have HE : Hid (escP attr (s.data.toList.drop i) = sNbsp ++ escP attr (s.data.toList.drop (i + 1 + 1))) := esc_nb attr s i hl1 h194 h160
        obtain ⟨v2, w2, c1, e1, O2, b2⟩ := const_app HW.out.1 sNbsp #[.int .u8 38, .int .u8 110, .int .u8 98, .int .u8 115, .int .u8 112, .int .u8 59] 6 rfl rfl HW.out.2.1.size (by omega) (by decide)
        have H2 : Hid (OwnB w2 w.heap.size v2 (acc ++ sNbsp) ∧ Below w.heap.size w w2) := ⟨O2, HW.out.2.1.trans b2⟩
        have HR : Hid (acc ++ sNbsp ++ escP attr (s.data.toList.drop (i + 1 + 1)) = escP attr s.data.toList) := by
          show _ = _
          rw [← HW.out.2.2, HE.out, List.append_assoc]
        clear O2 b2 HW HE
        go_wp2_with (at_builtin; refine list_append_eq rfl _ _ 50 50 rfl _ _ rfl rfl e1 ?_)
        exact ⟨⟨i + 1 + 1, acc ++ sNbsp, by go_num, by omega, H2.out.1, H2.out.2, HR.out⟩, by simp [intOf]; omega⟩
      have he := esc_one attr s i hlt hnb
      rw [escB_eq, if_neg h38] at he
      have HE0 : Hid (escP attr (s.data.toList.drop i) = _) := he
      clear he
      by_cases h34 : (s[i].toNat : Int) = 34 ∧ attr = true
      · have HE : Hid (escP attr (s.data.toList.drop i) = sQuot ++ escP attr (s.data.toList.drop (i + 1))) := by show _ = _; rw [HE0.out, if_pos h34]
        obtain ⟨h34, rfl⟩ := h34
        clear hnb
        obtain ⟨v2, w2, c1, e1, O2, b2⟩ := const_app HW.out.1 sQuot #[.int .u8 38, .int .u8 113, .int .u8 117, .int .u8 111, .int .u8 116, .int .u8 59] 6 rfl rfl HW.out.2.1.size (by omega) (by decide)
        have H2 : Hid (OwnB w2 w.heap.size v2 (acc ++ sQuot) ∧ Below w.heap.size w w2) := ⟨O2, HW.out.2.1.trans b2⟩
        have HR : Hid (acc ++ sQuot ++ escP true (s.data.toList.drop (i + 1)) = escP true s.data.toList) := by
          show _ = _
          rw [← HW.out.2.2, HE.out, List.append_assoc]
        clear O2 b2 HW HE
        go_wp2_with (at_builtin; refine list_append_eq rfl _ _ 50 50 rfl _ _ rfl rfl e1 ?_)
        exact ⟨⟨i + 1, acc ++ sQuot, by go_num, by omega, H2.out.1, H2.out.2, HR.out⟩, by simp [intOf]; omega⟩
      rw [if_neg h34] at HE0
      by_cases h60 : (s[i].toNat : Int) = 60 ∧ attr = false
      · have HE : Hid (escP attr (s.data.toList.drop i) = sLt ++ escP attr (s.data.toList.drop (i + 1))) := by show _ = _; rw [HE0.out, if_pos h60]
        obtain ⟨h60, rfl⟩ := h60
        clear hnb h34
        obtain ⟨v2, w2, c1, e1, O2, b2⟩ := const_app HW.out.1 sLt #[.int .u8 38, .int .u8 108, .int .u8 116, .int .u8 59] 4 rfl rfl HW.out.2.1.size (by omega) (by decide)
        have H2 : Hid (OwnB w2 w.heap.size v2 (acc ++ sLt) ∧ Below w.heap.size w w2) := ⟨O2, HW.out.2.1.trans b2⟩
        have HR : Hid (acc ++ sLt ++ escP false (s.data.toList.drop (i + 1)) = escP false s.data.toList) := by
          show _ = _
          rw [← HW.out.2.2, HE.out, List.append_assoc]
        clear O2 b2 HW HE
        go_wp2_with (at_builtin; refine list_append_eq rfl _ _ 50 50 rfl _ _ rfl rfl e1 ?_)
        exact ⟨⟨i + 1, acc ++ sLt, by go_num, by omega, H2.out.1, H2.out.2, HR.out⟩, by simp [intOf]; omega⟩
      rw [if_neg h60] at HE0
      by_cases h62 : (s[i].toNat : Int) = 62 ∧ attr = false
      · have HE : Hid (escP attr (s.data.toList.drop i) = sGt ++ escP attr (s.data.toList.drop (i + 1))) := by show _ = _; rw [HE0.out, if_pos h62]
        obtain ⟨h62, rfl⟩ := h62
        clear hnb h34 h60
        obtain ⟨v2, w2, c1, e1, O2, b2⟩ := const_app HW.out.1 sGt #[.int .u8 38, .int .u8 103, .int .u8 116, .int .u8 59] 4 rfl rfl HW.out.2.1.size (by omega) (by decide)
        have H2 : Hid (OwnB w2 w.heap.size v2 (acc ++ sGt) ∧ Below w.heap.size w w2) := ⟨O2, HW.out.2.1.trans b2⟩
        have HR : Hid (acc ++ sGt ++ escP false (s.data.toList.drop (i + 1)) = escP false s.data.toList) := by
          show _ = _
          rw [← HW.out.2.2, HE.out, List.append_assoc]
        clear O2 b2 HW HE
        go_wp2_with (at_builtin; refine list_append_eq rfl _ _ 50 50 rfl _ _ rfl rfl e1 ?_)
        exact ⟨⟨i + 1, acc ++ sGt, by go_num, by omega, H2.out.1, H2.out.2, HR.out⟩, by simp [intOf]; omega⟩
      rw [if_neg h62] at HE0
      obtain ⟨v2, w2, e1, O2, b2⟩ := one_app HW.out.1 s[i] HW.out.2.1.size (by omega)
      have H2 : Hid (OwnB w2 w.heap.size v2 (acc ++ [s[i]]) ∧ Below w.heap.size w w2) := ⟨O2, HW.out.2.1.trans b2⟩
      have HR : Hid (acc ++ [s[i]] ++ escP attr (s.data.toList.drop (i + 1)) = escP attr s.data.toList) := by
        show _ = _
        rw [← HW.out.2.2, HE0.out, List.append_assoc]
      clear O2 b2 HW HE0
      have fin : ∀ (_ : True), True := fun _ => trivial
      obtain ⟨c194, hc194⟩ : ∃ b, ((s[i].toNat : Int) == 194) = b := ⟨_, rfl⟩
      clear hc194 c194 fin h38
      cases attr
      · by_cases h194 : (s[i].toNat : Int) = 194
        · rw [h194] at e1
          clear h38' h34 h60 h62
          by_cases hl1 : i + 1 < s.size
          · have h160' : ((s[i + 1].toNat : Int) == 160) = false := beq_false_of_ne fun e => hnb ⟨h194, hl1, e⟩
            clear hnb
            go_wp2_with (at_builtin; refine list_append_eq rfl _ _ 50 50 rfl _ _ rfl rfl e1 ?_)
            exact ⟨⟨i + 1, acc ++ [s[i]], by go_num, by omega, H2.out.1, H2.out.2, HR.out⟩, by simp [intOf]; omega⟩
          · clear hnb
            go_wp2_with (at_builtin; refine list_append_eq rfl _ _ 50 50 rfl _ _ rfl rfl e1 ?_)
            exact ⟨⟨i + 1, acc ++ [s[i]], by go_num, by omega, H2.out.1, H2.out.2, HR.out⟩, by simp [intOf]; omega⟩
        have h194' := beq_false_of_ne h194
        clear h194 hnb
        have h60' : ((s[i].toNat : Int) == 60) = false := beq_false_of_ne fun e => h60 ⟨e, rfl⟩
        have h62' : ((s[i].toNat : Int) == 62) = false := beq_false_of_ne fun e => h62 ⟨e, rfl⟩
        clear h34 h60 h62
        by_cases h34 : (s[i].toNat : Int) = 34
        · rw [h34] at e1
          clear h38' h194' h60' h62'
          go_wp2_with (at_builtin; refine list_append_eq rfl _ _ 50 50 rfl _ _ rfl rfl e1 ?_)
          exact ⟨⟨i + 1, acc ++ [s[i]], by go_num, by omega, H2.out.1, H2.out.2, HR.out⟩, by simp [intOf]; omega⟩
        have h34' := beq_false_of_ne h34
        go_wp2_with (at_builtin; refine list_append_eq rfl _ _ 50 50 rfl _ _ rfl rfl e1 ?_)
        exact ⟨⟨i + 1, acc ++ [s[i]], by go_num, by omega, H2.out.1, H2.out.2, HR.out⟩, by simp [intOf]; omega⟩
      · by_cases h194 : (s[i].toNat : Int) = 194
        · rw [h194] at e1
          clear h38' h34 h60 h62
          by_cases hl1 : i + 1 < s.size
          · have h160' : ((s[i + 1].toNat : Int) == 160) = false := beq_false_of_ne fun e => hnb ⟨h194, hl1, e⟩
            clear hnb
            go_wp2_with (at_builtin; refine list_append_eq rfl _ _ 50 50 rfl _ _ rfl rfl e1 ?_)
            exact ⟨⟨i + 1, acc ++ [s[i]], by go_num, by omega, H2.out.1, H2.out.2, HR.out⟩, by simp [intOf]; omega⟩
          · clear hnb
            go_wp2_with (at_builtin; refine list_append_eq rfl _ _ 50 50 rfl _ _ rfl rfl e1 ?_)
            exact ⟨⟨i + 1, acc ++ [s[i]], by go_num, by omega, H2.out.1, H2.out.2, HR.out⟩, by simp [intOf]; omega⟩
        have h194' := beq_false_of_ne h194
        clear h194 hnb
        have h34' : ((s[i].toNat : Int) == 34) = false := beq_false_of_ne fun e => h34 ⟨e, rfl⟩
        clear h34 h60 h62
        by_cases h60 : (s[i].toNat : Int) = 60
        · rw [h60] at e1
          clear h38' h194' h34'
          go_wp2_with (at_builtin; refine list_append_eq rfl _ _ 50 50 rfl _ _ rfl rfl e1 ?_)
          exact ⟨⟨i + 1, acc ++ [s[i]], by go_num, by omega, H2.out.1, H2.out.2, HR.out⟩, by simp [intOf]; omega⟩
        have h60' := beq_false_of_ne h60
        by_cases h62 : (s[i].toNat : Int) = 62
        · rw [h62] at e1
          clear h38' h194' h34' h60'
          go_wp2_with (at_builtin; refine list_append_eq rfl _ _ 50 50 rfl _ _ rfl rfl e1 ?_)
          exact ⟨⟨i + 1, acc ++ [s[i]], by go_num, by omega, H2.out.1, H2.out.2, HR.out⟩, by simp [intOf]; omega⟩
        have h62' := beq_false_of_ne h62
        go_wp2_with (at_builtin; refine list_append_eq rfl _ _ 50 50 rfl _ _ rfl rfl e1 ?_)
        exact ⟨⟨i + 1, acc ++ [s[i]], by go_num, by omega, H2.out.1, H2.out.2, HR.out⟩, by simp [intOf]; omega⟩
    · have hie : i = s.size := by omega
      subst hie
      have hst := str_of HW.out.1
      have HF : Hid (acc = escP attr s.data.toList) := by
        have := HW.out.2.2
        rw [List.drop_eq_nil_of_le (by rw [HA.out.2]; exact Nat.le_refl _)] at this
        show _ = _
        simpa [escP] using this
      clear hlt
      go_wp2_with fail
      go_ret
      rw [HF.out]
      exact ⟨rfl, HW.out.2.1⟩
end Go.Proofs.YtaadphifagimaaaDoor
