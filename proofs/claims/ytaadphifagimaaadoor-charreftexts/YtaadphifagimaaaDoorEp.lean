/- A text escaped, byte by byte and character by character: the same. -/
import Derived.Test.YtaadphifagimaaaDoorDig
import Derived.Laws.RangeAny
import Derived.Lib.Small
namespace Go.Proofs.YtaadphifagimaaaDoor
open Go.RowKit

def sAmp : List UInt8 := [38, 97, 109, 112, 59]
def sNbsp : List UInt8 := [38, 110, 98, 115, 112, 59]
def sQuot : List UInt8 := [38, 113, 117, 111, 116, 59]
def sLt : List UInt8 := [38, 108, 116, 59]
def sGt : List UInt8 := [38, 103, 116, 59]

def escB (attr : Bool) (c : UInt8) : List UInt8 :=
  if c = 38 then sAmp else if c = 34 ∧ attr = true then sQuot else if c = 60 ∧ attr = false then sLt else if c = 62 ∧ attr = false then sGt else [c]
def escP (attr : Bool) : List UInt8 → List UInt8
  | [] => []
  | [c] => escB attr c
  | c :: d :: t => if c = 194 ∧ d = 160 then sNbsp ++ escP attr t else escB attr c ++ escP attr (d :: t)
/-- What stands for a character; nothing, if it stands for itself. -/
def escR (attr : Bool) (r : Int) : List UInt8 :=
  if r = 38 then sAmp else if r = 160 then sNbsp else if r = 34 ∧ attr = true then sQuot else if r = 60 ∧ attr = false then sLt else if r = 62 ∧ attr = false then sGt else []

theorem esc_cons (attr : Bool) (c : UInt8) (t : List UInt8) (h : ¬ (c = 194 ∧ t.head? = some 160)) : escP attr (c :: t) = escB attr c ++ escP attr t := by
  cases t with
  | nil => simp [escP]
  | cons d t =>
    rw [escP, if_neg]
    rintro ⟨rfl, rfl⟩
    exact h ⟨rfl, rfl⟩
theorem escB_high (attr : Bool) (c : UInt8) (h : 128 ≤ c.toNat) : escB attr c = [c] := by
  have hn : ∀ d : UInt8, d.toNat < 128 → c ≠ d := fun d hd e => by rw [e] at h; omega
  unfold escB
  rw [if_neg (hn 38 (by decide)), if_neg (fun e => hn 34 (by decide) e.1), if_neg (fun e => hn 60 (by decide) e.1), if_neg (fun e => hn 62 (by decide) e.1)]
theorem esc_high (attr : Bool) (c : UInt8) (t : List UInt8) (h : 128 ≤ c.toNat) (h2 : ¬ (c = 194 ∧ t.head? = some 160)) : escP attr (c :: t) = c :: escP attr t := by
  rw [esc_cons attr c t h2, escB_high attr c h]; rfl
theorem escB_len (attr : Bool) (c : UInt8) : (escB attr c).length ≤ 6 := by
  unfold escB
  repeat' split
  all_goals simp [sAmp, sQuot, sLt, sGt]
theorem esc_len (attr : Bool) (l : List UInt8) : (escP attr l).length ≤ 6 * l.length := by
  fun_induction escP attr l with
  | case1 => simp
  | case2 c => have := escB_len attr c; simp; omega
  | case3 d t ih h => simp [sNbsp]; omega
  | case4 c d t h ih => have := escB_len attr c; simp at ih ⊢; omega

theorem drop_at (s : ByteArray) (i : Nat) (h : i < s.size) : s.data.toList.drop i = s[i] :: s.data.toList.drop (i + 1) := by
  have h0 : i < s.data.toList.length := by rw [Array.length_toList]; exact h
  exact List.drop_eq_getElem_cons h0
theorem get_bang (s : ByteArray) (i : Nat) (h : i < s.size) : s.get! i = s[i] := by
  simp [ByteArray.get!, getElem!_pos, h]; rfl
theorem u8n {c : UInt8} {n : Nat} (h : n < 256) : c = UInt8.ofNat n ↔ c.toNat = n := by
  constructor
  · rintro rfl; simp; omega
  · intro e; exact UInt8.toNat_inj.1 (by rw [e]; simp; omega)
theorem head_drop (s : ByteArray) (i : Nat) (h : i < s.size) : (s.data.toList.drop i).head? = some s[i] := by rw [drop_at s i h]; rfl

theorem plain_step (attr : Bool) (s : ByteArray) (i : Nat) (h : i < s.size) (h1 : 128 ≤ (s[i]).toNat) (h2 : ¬ ((s[i]).toNat = 194 ∧ ∃ h : i + 1 < s.size, (s[i + 1]).toNat = 160)) : escP attr (s.data.toList.drop i) = s[i] :: escP attr (s.data.toList.drop (i + 1)) := by
  rw [drop_at s i h]
  refine esc_high attr _ _ h1 ?_
  rintro ⟨e1, e2⟩
  refine h2 ⟨by rw [e1]; rfl, ?_⟩
  by_cases hl : i + 1 < s.size
  · rw [head_drop s (i + 1) hl] at e2
    exact ⟨hl, by rw [Option.some.inj e2]; rfl⟩
  · rw [List.drop_eq_nil_of_le (by rw [Array.length_toList]; show s.size ≤ i + 1; omega)] at e2
    cases e2

theorem escR_none (attr : Bool) (r : Int) (h : 128 ≤ r) (h2 : r ≠ 160) : escR attr r = [] := by
  unfold escR
  rw [if_neg (by omega), if_neg h2, if_neg (by omega), if_neg (by omega), if_neg (by omega)]

/-- One character. -/
structure EscStep (attr : Bool) (s : ByteArray) (pos r w : Nat) : Prop where
  le : pos + w ≤ s.size
  one : 1 ≤ w
  same : escR attr r = [] → escP attr (s.data.toList.drop pos) = (s.data.toList.drop pos).take w ++ escP attr (s.data.toList.drop (pos + w))
  other : escR attr r ≠ [] → escP attr (s.data.toList.drop pos) = escR attr r ++ escP attr (s.data.toList.drop (pos + w)) ∧ Lib.runeLen r = w

theorem step1 (attr : Bool) (s : ByteArray) (pos : Nat) (h : pos < s.size) (r : Nat) (h0 : 128 ≤ (s[pos]).toNat) (hr : r = 65533) (h2 : ¬ ((s[pos]).toNat = 194 ∧ ∃ h : pos + 1 < s.size, (s[pos + 1]).toNat = 160)) : EscStep attr s pos r 1 := by
  subst hr
  have e : escR attr (65533 : Nat) = [] := escR_none attr _ (by decide) (by decide)
  exact ⟨by omega, Nat.le_refl _, fun _ => by rw [plain_step attr s pos h h0 h2, drop_at s pos h]; rfl, fun hn => absurd e hn⟩

theorem ascii_esc : ∀ n : Fin 128, ∀ attr : Bool, (escR attr (n.1 : Nat) = [] → escB attr (UInt8.ofNat n.1) = [UInt8.ofNat n.1]) ∧ (escR attr (n.1 : Nat) ≠ [] → escB attr (UInt8.ofNat n.1) = escR attr (n.1 : Nat)) := by decide +kernel

theorem esc_ascii (attr : Bool) (c : UInt8) (h : c.toNat < 128) : (escR attr (c.toNat : Nat) = [] → escB attr c = [c]) ∧ (escR attr (c.toNat : Nat) ≠ [] → escB attr c = escR attr (c.toNat : Nat)) := by
  have := ascii_esc ⟨c.toNat, h⟩ attr
  have e : UInt8.ofNat c.toNat = c := by simp
  simp only [e] at this
  exact this

theorem esc_step (attr : Bool) (s : ByteArray) (pos : Nat) (h : pos < s.size) : EscStep attr s pos (Utf8.decode s pos).1 (Utf8.decode s pos).2 := by
  have g0 : (s.get! (pos + 0)).toNat = (s[pos]).toNat := by rw [get_bang s (pos + 0) h]; rfl
  have hlt := UInt8.toNat_lt (s[pos])
  by_cases ha : (s[pos]).toNat < 128
  · rw [decode_ascii s pos h ha]
    have hd := drop_at s pos h
    have he := esc_cons attr (s[pos]) (s.data.toList.drop (pos + 1)) (fun e => by rw [e.1] at ha; exact absurd ha (by decide))
    rw [← hd] at he
    obtain ⟨k1, k2⟩ := esc_ascii attr (s[pos]) ha
    refine ⟨by show pos + 1 ≤ s.size; omega, Nat.le_refl _, fun hn => ?_, fun hn => ⟨?_, ?_⟩⟩
    · rw [he, k1 hn]
      show _ = (s.data.toList.drop pos).take 1 ++ _
      rw [hd]; rfl
    · rw [he, k2 hn]
    · show Lib.runeLen ((s[pos]).toNat : Nat) = 1
      unfold Lib.runeLen
      rw [if_neg (by omega), if_pos (by omega)]
  · have gn : ∀ k, (hk : pos + k < s.size) → (s.get! (pos + k)).toNat = (s[pos + k]).toNat := fun k hk => by rw [get_bang s (pos + k) hk]
    unfold Utf8.decode
    simp only [g0]
    rw [if_neg ha]
    split
    · rename_i h1
      simp only [Bool.and_eq_true, beq_iff_eq, decide_eq_true_eq] at h1
      obtain ⟨h6, hl1, hc1⟩ := h1
      rw [gn 1 hl1] at hc1 ⊢
      split
      · rename_i hge
        have p2 := plain_step attr s (pos + 1) hl1 (by omega) (by omega)
        by_cases hnb : (s[pos]).toNat % 32 * 64 + (s[pos + 1]).toNat % 64 = 160
        · have e0 : s[pos] = 194 := UInt8.toNat_inj.1 (by show (s[pos]).toNat = 194; omega)
          have e1 : s[pos + 1] = 160 := UInt8.toNat_inj.1 (by show (s[pos + 1]).toNat = 160; omega)
          have hE : escP attr (s.data.toList.drop pos) = sNbsp ++ escP attr (s.data.toList.drop (pos + 2)) := by
            rw [drop_at s pos h, drop_at s (pos + 1) hl1, e0, e1, escP, if_pos ⟨rfl, rfl⟩]
          have hR : escR attr (((s[pos]).toNat % 32 * 64 + (s[pos + 1]).toNat % 64 : Nat) : Int) = sNbsp := by rw [hnb]; rfl
          refine ⟨hl1, by show 1 ≤ 2; decide, fun hn => ?_, fun hn => ⟨?_, ?_⟩⟩
          · rw [hR] at hn; cases hn
          · rw [hR]; exact hE
          · show Lib.runeLen (((s[pos]).toNat % 32 * 64 + (s[pos + 1]).toNat % 64 : Nat) : Int) = 2
            rw [hnb]; rfl
        · have p1 := plain_step attr s pos h (by omega) (by rintro ⟨a, _, b⟩; omega)
          have hR : escR attr (((s[pos]).toNat % 32 * 64 + (s[pos + 1]).toNat % 64 : Nat) : Int) = [] := escR_none attr _ (by omega) (by omega)
          refine ⟨hl1, by show 1 ≤ 2; decide, fun _ => ?_, fun hn => absurd hR hn⟩
          show _ = (s.data.toList.drop pos).take 2 ++ _
          rw [p1, p2, drop_at s pos h, drop_at s (pos + 1) hl1]; rfl
      · exact step1 attr s pos h _ (by omega) rfl (by rintro ⟨a, _, b⟩; omega)
    · rename_i hn6
      have hno : ¬ ((s[pos]).toNat = 194 ∧ ∃ h : pos + 1 < s.size, (s[pos + 1]).toNat = 160) := by
        rintro ⟨a, hl1, b⟩
        refine hn6 ?_
        simp only [Bool.and_eq_true, beq_iff_eq, decide_eq_true_eq]
        exact ⟨by omega, hl1, by rw [gn 1 hl1]; omega⟩
      have p1 := plain_step attr s pos h (by omega) hno
      split
      · rename_i h1
        simp only [Bool.and_eq_true, beq_iff_eq, decide_eq_true_eq] at h1
        obtain ⟨⟨h14, hl1, hc1⟩, hl2, hc2⟩ := h1
        rw [gn 1 hl1] at hc1
        rw [gn 2 hl2] at hc2
        split
        · rename_i hge
          simp only [Bool.and_eq_true, decide_eq_true_eq] at hge
          have p2 := plain_step attr s (pos + 1) hl1 (by omega) (by omega)
          have p3 := plain_step attr s (pos + 2) hl2 (by omega) (by omega)
          refine ⟨hl2, by show 1 ≤ 3; decide, fun _ => ?_, fun hn => absurd (escR_none attr _ (by omega) (by omega)) hn⟩
          show _ = (s.data.toList.drop pos).take 3 ++ _
          rw [p1, p2, p3, drop_at s pos h, drop_at s (pos + 1) hl1, drop_at s (pos + 2) hl2]; rfl
        · exact step1 attr s pos h _ (by omega) rfl hno
      · split
        · rename_i h1
          simp only [Bool.and_eq_true, beq_iff_eq, decide_eq_true_eq] at h1
          obtain ⟨⟨⟨h30, hl1, hc1⟩, hl2, hc2⟩, hl3, hc3⟩ := h1
          rw [gn 1 hl1] at hc1
          rw [gn 2 hl2] at hc2
          rw [gn 3 hl3] at hc3
          split
          · rename_i hge
            simp only [Bool.and_eq_true, decide_eq_true_eq] at hge
            have p2 := plain_step attr s (pos + 1) hl1 (by omega) (by omega)
            have p3 := plain_step attr s (pos + 2) hl2 (by omega) (by omega)
            have p4 := plain_step attr s (pos + 3) hl3 (by omega) (by omega)
            refine ⟨hl3, by show 1 ≤ 4; decide, fun _ => ?_, fun hn => absurd (escR_none attr _ (by omega) (by omega)) hn⟩
            show _ = (s.data.toList.drop pos).take 4 ++ _
            rw [p1, p2, p3, p4, drop_at s pos h, drop_at s (pos + 1) hl1, drop_at s (pos + 2) hl2, drop_at s (pos + 3) hl3]; rfl
          · exact step1 attr s pos h _ (by omega) rfl hno
        · exact step1 attr s pos h _ (by omega) rfl hno
end Go.Proofs.YtaadphifagimaaaDoor
