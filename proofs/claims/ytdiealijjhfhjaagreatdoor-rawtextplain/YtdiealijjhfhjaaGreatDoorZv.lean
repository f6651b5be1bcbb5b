/- A character in whatever state, the end in whatever state. -/
import Derived.Test.YtdiealijjhfhjaaGreatDoorZt
import Derived.Test.YtdiealijjhfhjaaGreatDoorZs
import Derived.Test.YtdiealijjhfhjaaGreatDoorZu
import Derived.BigQuiet
import Derived.Deep.RegionHeld3
namespace Go.Proofs.YtdiealijjhfhjaaGreatDoor
open Go.RowKit
theorem ne_one {l : List Ch} (h : l.length = 1) : l ≠ [] := fun e => by rw [e] at h; cases h
theorem take_any {Z : Nat → Prop} {S : Nat → Prop} {x : Nat} {m : Mc} {w : World} (h : Mach Z S x m w) (hi : Inv m) (c : Ch) (hwl : m.wait.length ≤ 20000) (hls : m.last.size ≤ 1000000) (hn : m.tot ≤ 400000000) :
    Calls Tryz.prog m.st #[mp x, cv c] w (Did Z S x (m.take c) w) := by
  unfold Mc.take
  rcases hi.1 with k | k | k | k | k | k | k | k | ⟨k, hw⟩
  · rw [k.1]; exact tagOpen_any h c (ne_one k.2) (by omega)
  · rw [k.1]; exact endOpen_any h c k.2 (by omega)
  · rw [k.1]; exact markup_any h c k.2.1 hwl k.2.2 (by omega)
  · rw [k.1]; exact rawSlash_any h c k.2 hwl hls (by omega)
  · rw [k.1]; exact rawName_any h c k.2 hwl hls (by omega)
  · rw [k.1]; exact cdataTwo_any h c k.2 (by omega)
  · rw [k.1]; exact rawOpen_any h c (by omega)
  · rw [k.1]; exact cdataOne_any h c (by omega)
  · rcases k with k | k | k | k | k | k | k | k | k | k | k | k | k | k | k | k | k | k | k | k | k | k | k
    · rw [k]; exact data_any h c (by omega)
    · rw [k]; exact tagName_any h c (by omega)
    · rw [k]; exact beforeName_any h c (by omega)
    · rw [k]; exact name_any h c (by omega)
    · rw [k]; exact afterName_any h c (by omega)
    · rw [k]; exact beforeValue_any h c (by omega)
    · rw [k]; exact double_1 h c.r c.a c.z (by omega)
    · rw [k]; exact single_1 h c.r c.a c.z (by omega)
    · rw [k]; exact bare_any h c (by omega)
    · rw [k]; exact afterValue_any h c (by omega)
    · rw [k]; exact slash_any h c (by omega)
    · rw [k]; exact inBogus_any h c (by omega)
    · rw [k]; exact comStart_any h c (by omega)
    · rw [k]; exact comStartDash_any h c (by omega)
    · rw [k]; exact comment_any h c (by omega)
    · rw [k]; exact comDash_any h c (by omega)
    · rw [k]; exact comEnd_any h c (by omega)
    · rw [k]; exact comBang_any h c (by omega)
    · rw [k]; exact beforeDoc_any h c (by omega)
    · rw [k]; exact docName_any h c (by omega)
    · rw [k]; exact afterDoc_any h c (by omega)
    · rw [k]; exact bogusDoc_any h c (by omega)
    · rw [k]; exact cdata_any h c (by omega)
theorem endS_any {Z : Nat → Prop} {S : Nat → Prop} {x : Nat} {m : Mc} {w : World} (h : Mach Z S x m w) (hi : Inv m) (at' : Int) (hwl : m.wait.length ≤ 20000) (hn : m.tot ≤ 400000000) :
    Calls Tryz.prog m.en #[mp x, .int .i64 at'] w (Did Z S x (m.endS at') w) := by
  unfold Mc.endS
  rcases hi.2 with ⟨k, ks⟩ | k | k | k | k | k | k | k
  · have hw : m.wait ≠ [] ∧ ∀ c ∈ m.wait.tail, c.r ≠ 62 := by
      rcases hi.1 with h | h | h | h | h | h | h | h | ⟨h, _⟩
      · rw [ks] at h; exact absurd h.1 (by decide)
      · rw [ks] at h; exact absurd h.1 (by decide)
      · exact h.2
      · rw [ks] at h; exact absurd h.1 (by decide)
      · rw [ks] at h; exact absurd h.1 (by decide)
      · rw [ks] at h; exact absurd h.1 (by decide)
      · rw [ks] at h; exact absurd h.1 (by decide)
      · rw [ks] at h; exact absurd h.1 (by decide)
      · rw [ks] at h; simp at h
    rw [k]; exact endMarkup_any h at' hw.1 hwl hw.2 (by omega)
  · rw [k]; exact endWaiting_any h at' (by omega)
  · rw [k]; exact endTagOpen_any h at' (by omega)
  · rw [k]; exact endEndOpen_any h at' (by omega)
  · rw [k]; exact endTag_any h at' (by omega)
  · rw [k]; exact endBogus_any h at' (by omega)
  · rw [k]; exact endComment_any h at' (by omega)
  · rw [k]; exact endDoctype_any h at' (by omega)
end Go.Proofs.YtdiealijjhfhjaaGreatDoor
namespace Go.Proofs.YtdiealijjhfhjaaGreatDoor
open Go.RowKit
set_option maxHeartbeats 1000000 in
set_option maxRecDepth 20000 in
theorem refers_any {Z : Nat → Prop} {S : Nat → Prop} {x : Nat} {m : Mc} {w : World} (h : Mach Z S x m w) : Calls Tryz.prog 51 #[mp x] w fun e w' => e = .returned (.bool (decide (m.ref ≠ []))) ∧ w' = w := by
  obtain ⟨v, T, h⟩ := h
  have hxw := h.lt
  have c6 := h.cells 6 v.r rfl
  obtain ⟨ao, ca, e6, _, _⟩ := own_form (h.bag.own 1 _ rfl)
  simp only at e6
  obtain ⟨k, hk⟩ : ∃ k, m.ref.length = k := ⟨_, rfl⟩
  rw [e6, hk] at c6
  have hd : decide (m.ref ≠ []) = decide (((k : Nat) : Int) > 0) := by
    cases hr : m.ref with
    | nil => rw [hr] at hk; subst hk; rfl
    | cons a l => rw [hr] at hk; subst hk; simp
  rw [hd]
  clear h e6 hk hd
  go_enter Tryz.func51, Tryz.ntmps51
  go_wp2_with fail
  go_ret
  exact ⟨rfl, rfl⟩
theorem Walk.kind8 {Z : Nat → Prop} {S : Nat → Prop} {x : Nat} {m : Mc} {B : Nat} {c : Ch} {w W : World} (h : Walk Z S x m B c w W) : W.cell? ⟨x, 8, none⟩ = some (.int .i64 m.kind) := by
  obtain ⟨v, h1, _⟩ := h.mach
  exact h1 8 _ rfl
set_option maxHeartbeats 2000000 in
set_option maxRecDepth 20000 in
theorem put_1 {Z : Nat → Prop} {S : Nat → Prop} {x : Nat} {m : Mc} {w : World} (h : Mach Z S x m w) (r p q : Int) (b : Bool) (hk : (m.kind == 0) = false) (hn : m.tot ≤ 500000000) : Calls Tryz.prog 85 #[mp x, cv ⟨r, p, q⟩, .bool b] w (Did Z S x (m.put ⟨r, p, q⟩ b) w) := by
  have HE : Hid (m.put ⟨r, p, q⟩ b = m.addValue r) := by
    show m.put ⟨r, p, q⟩ b = m.addValue r
    simp at hk
    simp [Mc.put, hk]
  obtain ⟨W0, hW0, k0⟩ := Walk.start h ⟨r, p, q⟩
  have hxw := h.low
  obtain ⟨hb0, d0, d1, d2⟩ := k0.box
  have hx0 := k0.lt
  have hne : w.heap.size ≠ x := by omega
  have s8 := k0.kind8
  obtain ⟨kd, hkd⟩ : ∃ kd, m.kind = kd := ⟨_, rfl⟩
  rw [hkd] at s8 hk
  have K0 : Hid (Walk Z S x m w.heap.size ⟨r, p, q⟩ w W0) := k0
  clear h k0 hkd
  go_enter Tryz.func85, Tryz.ntmps85
  go_wp2_with fail
  go_still_tail 5, (show Tryz.prog.follows .mixedOrders = true by kernel_rfl)
  go_wp2_with fail
  refine (K0.out.drew.call (fun U h => addValue_any h r (by show m.tot ≤ _; omega))).mono ?_
  rintro e W1 ⟨rfl, k1⟩
  have K1 : Hid (Walk Z S x (m.addValue r) w.heap.size ⟨r, p, q⟩ w W1) := k1
  clear k1
  go_wp2_with fail
  first
    | refine bodyPost_end (results_none rfl _ _ _) rfl ?_
    | refine bodyPost_ret (results_none rfl _ _ _) rfl ?_
  refine ⟨rfl, ?_⟩
  rw [HE.out]
  exact K1.out.post
set_option maxHeartbeats 2000000 in
set_option maxRecDepth 20000 in
theorem put_2 {Z : Nat → Prop} {S : Nat → Prop} {x : Nat} {m : Mc} {w : World} (h : Mach Z S x m w) (r p q : Int) (b : Bool) (hk : m.kind = 0) (hn : m.tot ≤ 500000000) : Calls Tryz.prog 85 #[mp x, cv ⟨r, p, q⟩, .bool b] w (Did Z S x (m.put ⟨r, p, q⟩ b) w) := by
  have HE : Hid (m.put ⟨r, p, q⟩ b = m.tell (ptOf (⟨1, r, ByteArray.empty, ByteArray.empty, none, 0, 0, b, p, q⟩, []))) := by
    show m.put ⟨r, p, q⟩ b = m.tell (ptOf (⟨1, r, ByteArray.empty, ByteArray.empty, none, 0, 0, b, p, q⟩, []))
    simp [Mc.put, hk, chT, ptOf]
  obtain ⟨W0, hW0, k0⟩ := Walk.start h ⟨r, p, q⟩
  have hxw := h.low
  obtain ⟨hb0, d0, d1, d2⟩ := k0.box
  have hx0 := k0.lt
  have hne : w.heap.size ≠ x := by omega
  have s8 := k0.kind8
  rw [hk] at s8
  have K0 : Hid (Walk Z S x m w.heap.size ⟨r, p, q⟩ w W0) := k0
  clear h k0 hk
  go_enter Tryz.func85, Tryz.ntmps85
  go_wp2_with fail
  refine (K0.out.call (fun U h => tell_any h (⟨1, r, ByteArray.empty, ByteArray.empty, none, 0, 0, b, p, q⟩, []) (by show m.tot ≤ _; omega) (ok_none _ _ _ _ _ _ _))).mono ?_
  rintro e W1 ⟨rfl, k1⟩
  have K1 : Hid (Walk Z S x (m.tell (ptOf (⟨1, r, ByteArray.empty, ByteArray.empty, none, 0, 0, b, p, q⟩, []))) w.heap.size ⟨r, p, q⟩ w W1) := k1
  clear k1
  go_wp2_with fail
  first
    | refine bodyPost_end (results_none rfl _ _ _) rfl ?_
    | refine bodyPost_ret (results_none rfl _ _ _) rfl ?_
  refine ⟨rfl, ?_⟩
  rw [HE.out]
  exact K1.out.post
theorem put_any {Z : Nat → Prop} {S : Nat → Prop} {x : Nat} {m : Mc} {w : World} (h : Mach Z S x m w) (c : Ch) (b : Bool) (hn : m.tot ≤ 500000000) : Calls Tryz.prog 85 #[mp x, cv c, .bool b] w (Did Z S x (m.put c b) w) := by
  by_cases hk : m.kind = 0
  · exact put_2 h c.r c.a c.z b hk hn
  · exact put_1 h c.r c.a c.z b (by simp [hk]) hn
end Go.Proofs.YtdiealijjhfhjaaGreatDoor
namespace Go.Proofs.YtdiealijjhfhjaaGreatDoor
open Go.RowKit
theorem lastR_at (l : List Ch) (f : Ch) (n : Nat) (h : (f :: l).length = n + 1) : ∃ c, (f :: l)[n]? = some c ∧ c.r = Mc.lastR (f :: l) := by
  have hl : (f :: l)[n]? = (f :: l).getLast? := by
    rw [List.getLast?_eq_getElem?, h]
    rfl
  cases hc : (f :: l).getLast? with
  | none => rw [List.getLast?_eq_none_iff] at hc; cases hc
  | some c => exact ⟨c, by rw [hl, hc], by unfold Mc.lastR; rw [hc]⟩
set_option maxHeartbeats 2000000 in
set_option maxRecDepth 20000 in
theorem sureNumber_1 {w : World} {lo : Option Addr} {f : Ch} {L : List Ch} (n cap : Nat) (ha : ChRow lo (f :: L) w) (hn : (f :: L).length = n + 1) (hn2 : n ≤ 2000000000000) (h120 : (f.r == 120) = true) :
    Calls Tryz.prog 187 #[.slice lo (n + 1) cap] w fun e w' => e = .returned (.bool (Mc.sureNum (f :: L))) ∧ Below w.heap.size w w' := by
  obtain ⟨b, off, rfl, hb, c0, _, _⟩ := ha 0 f rfl
  obtain ⟨c, hc, hr⟩ := lastR_at L f n hn
  obtain ⟨b', off', he, hb', c1, _, _⟩ := ha n c hc
  cases he
  have hlen : 1 < (f :: L).length ↔ 0 < n := by omega
  obtain ⟨r, hr2⟩ : ∃ r, c.r = r := ⟨_, rfl⟩
  obtain ⟨fr, hfr⟩ : ∃ fr, f.r = fr := ⟨_, rfl⟩
  rw [hr2] at c1 hr
  rw [hfr] at c0 h120
  simp only [Nat.zero_mul, Nat.add_zero] at c0
  have HE : Hid (Mc.sureNum (f :: L) = (if 48 ≤ r ∧ r ≤ 57 then false else if ¬ (fr = 120 ∨ fr = 88) then true else decide (0 < n) && !decide ((97 ≤ r ∧ r ≤ 102) ∨ (65 ≤ r ∧ r ≤ 70)))) := by
    show Mc.sureNum (f :: L) = _
    unfold Mc.sureNum
    simp only [← hr, hfr, hlen]
  rw [HE.out]
  obtain ⟨v, hv⟩ : ∃ v, v = (if 48 ≤ r ∧ r ≤ 57 then false else if ¬ (fr = 120 ∨ fr = 88) then true else decide (0 < n) && !decide ((97 ≤ r ∧ r ≤ 102) ∨ (65 ≤ r ∧ r ≤ 70))) := ⟨_, rfl⟩
  rw [← hv]
  have HV : Hid (v = (if 48 ≤ r ∧ r ≤ 57 then false else if ¬ (fr = 120 ∨ fr = 88) then true else decide (0 < n) && !decide ((97 ≤ r ∧ r ≤ 102) ∨ (65 ≤ r ∧ r ≤ 70)))) := hv
  clear HE ha hn hc hr hr2 hfr hlen hv
  go_enter Tryz.func187, Tryz.ntmps187
  go_wp2_with fail
  go_quiet (fail)
  go_wp2_with fail
  all_goals
    go_ret
    refine ⟨congrArg (fun z => Ending.returned (.bool z)) ?_, G9.below_drewN (Below.refl _ _) _⟩
    have hv := HV.out
    rw [hv]
    simp only [beq_iff_eq] at h120
    subst h120
    rw [Bool.eq_iff_iff]
    simp
    try omega
set_option maxHeartbeats 2000000 in
set_option maxRecDepth 20000 in
theorem sureNumber_2 {w : World} {lo : Option Addr} {f : Ch} {L : List Ch} (n cap : Nat) (ha : ChRow lo (f :: L) w) (hn : (f :: L).length = n + 1) (hn2 : n ≤ 2000000000000) (h120 : (f.r == 120) = false) (h88 : (f.r == 88) = true) :
    Calls Tryz.prog 187 #[.slice lo (n + 1) cap] w fun e w' => e = .returned (.bool (Mc.sureNum (f :: L))) ∧ Below w.heap.size w w' := by
  obtain ⟨b, off, rfl, hb, c0, _, _⟩ := ha 0 f rfl
  obtain ⟨c, hc, hr⟩ := lastR_at L f n hn
  obtain ⟨b', off', he, hb', c1, _, _⟩ := ha n c hc
  cases he
  have hlen : 1 < (f :: L).length ↔ 0 < n := by omega
  obtain ⟨r, hr2⟩ : ∃ r, c.r = r := ⟨_, rfl⟩
  obtain ⟨fr, hfr⟩ : ∃ fr, f.r = fr := ⟨_, rfl⟩
  rw [hr2] at c1 hr
  rw [hfr] at c0 h120 h88
  simp only [Nat.zero_mul, Nat.add_zero] at c0
  have HE : Hid (Mc.sureNum (f :: L) = (if 48 ≤ r ∧ r ≤ 57 then false else if ¬ (fr = 120 ∨ fr = 88) then true else decide (0 < n) && !decide ((97 ≤ r ∧ r ≤ 102) ∨ (65 ≤ r ∧ r ≤ 70)))) := by
    show Mc.sureNum (f :: L) = _
    unfold Mc.sureNum
    simp only [← hr, hfr, hlen]
  rw [HE.out]
  obtain ⟨v, hv⟩ : ∃ v, v = (if 48 ≤ r ∧ r ≤ 57 then false else if ¬ (fr = 120 ∨ fr = 88) then true else decide (0 < n) && !decide ((97 ≤ r ∧ r ≤ 102) ∨ (65 ≤ r ∧ r ≤ 70))) := ⟨_, rfl⟩
  rw [← hv]
  have HV : Hid (v = (if 48 ≤ r ∧ r ≤ 57 then false else if ¬ (fr = 120 ∨ fr = 88) then true else decide (0 < n) && !decide ((97 ≤ r ∧ r ≤ 102) ∨ (65 ≤ r ∧ r ≤ 70)))) := hv
  clear HE ha hn hc hr hr2 hfr hlen hv
  go_enter Tryz.func187, Tryz.ntmps187
  go_wp2_with fail
  go_quiet (fail)
  go_wp2_with fail
  all_goals
    go_ret
    refine ⟨congrArg (fun z => Ending.returned (.bool z)) ?_, G9.below_drewN (Below.refl _ _) _⟩
    have hv := HV.out
    rw [hv]
    simp only [beq_iff_eq] at h88
    subst h88
    rw [Bool.eq_iff_iff]
    simp
    try omega
set_option maxHeartbeats 2000000 in
set_option maxRecDepth 20000 in
theorem sureNumber_3 {w : World} {lo : Option Addr} {f : Ch} {L : List Ch} (n cap : Nat) (ha : ChRow lo (f :: L) w) (hn : (f :: L).length = n + 1) (hn2 : n ≤ 2000000000000) (h120 : (f.r == 120) = false) (h88 : (f.r == 88) = false) :
    Calls Tryz.prog 187 #[.slice lo (n + 1) cap] w fun e w' => e = .returned (.bool (Mc.sureNum (f :: L))) ∧ Below w.heap.size w w' := by
  obtain ⟨b, off, rfl, hb, c0, _, _⟩ := ha 0 f rfl
  obtain ⟨c, hc, hr⟩ := lastR_at L f n hn
  obtain ⟨b', off', he, hb', c1, _, _⟩ := ha n c hc
  cases he
  have hlen : 1 < (f :: L).length ↔ 0 < n := by omega
  obtain ⟨r, hr2⟩ : ∃ r, c.r = r := ⟨_, rfl⟩
  obtain ⟨fr, hfr⟩ : ∃ fr, f.r = fr := ⟨_, rfl⟩
  rw [hr2] at c1 hr
  rw [hfr] at c0 h120 h88
  simp only [Nat.zero_mul, Nat.add_zero] at c0
  have HE : Hid (Mc.sureNum (f :: L) = (if 48 ≤ r ∧ r ≤ 57 then false else if ¬ (fr = 120 ∨ fr = 88) then true else decide (0 < n) && !decide ((97 ≤ r ∧ r ≤ 102) ∨ (65 ≤ r ∧ r ≤ 70)))) := by
    show Mc.sureNum (f :: L) = _
    unfold Mc.sureNum
    simp only [← hr, hfr, hlen]
  rw [HE.out]
  obtain ⟨v, hv⟩ : ∃ v, v = (if 48 ≤ r ∧ r ≤ 57 then false else if ¬ (fr = 120 ∨ fr = 88) then true else decide (0 < n) && !decide ((97 ≤ r ∧ r ≤ 102) ∨ (65 ≤ r ∧ r ≤ 70))) := ⟨_, rfl⟩
  rw [← hv]
  have HV : Hid (v = (if 48 ≤ r ∧ r ≤ 57 then false else if ¬ (fr = 120 ∨ fr = 88) then true else decide (0 < n) && !decide ((97 ≤ r ∧ r ≤ 102) ∨ (65 ≤ r ∧ r ≤ 70)))) := hv
  clear HE ha hn hc hr hr2 hfr hlen hv
  go_enter Tryz.func187, Tryz.ntmps187
  go_wp2_with fail
  go_quiet (fail)
  go_wp2_with fail
  all_goals
    go_ret
    refine ⟨congrArg (fun z => Ending.returned (.bool z)) ?_, G9.below_drewN (Below.refl _ _) _⟩
    have hv := HV.out
    rw [hv]
    have h3 : fr ≠ 120 := by simpa using h120
    have h4 : fr ≠ 88 := by simpa using h88
    rw [Bool.eq_iff_iff]
    simp [h3, h4]
    try omega
set_option maxHeartbeats 2000000 in
theorem sureNumber_0 {w : World} (lo : Option Addr) (cap : Nat) : Calls Tryz.prog 187 #[.slice lo 0 cap] w fun e w' => e = .returned (.bool false) ∧ Below w.heap.size w w' := by
  go_enter Tryz.func187, Tryz.ntmps187
  go_wp2_with fail
  go_ret
  exact ⟨rfl, Below.refl _ _⟩
theorem sureNumber_any {w : World} {lo : Option Addr} {L : List Ch} (n cap : Nat) (ha : ChRow lo L w) (hn : L.length = n) (hn2 : n ≤ 2000000000000) :
    Calls Tryz.prog 187 #[.slice lo n cap] w fun e w' => e = .returned (.bool (Mc.sureNum L)) ∧ Below w.heap.size w w' := by
  cases L with
  | nil => subst hn; exact sureNumber_0 lo cap
  | cons f L =>
    cases n with
    | zero => simp at hn
    | succ n =>
      cases h1 : (f.r == 120) with
      | true => exact sureNumber_1 n cap ha hn (by omega) h1
      | false =>
        cases h2 : (f.r == 88) with
        | true => exact sureNumber_2 n cap ha hn (by omega) h1 h2
        | false => exact sureNumber_3 n cap ha hn (by omega) h1 h2
end Go.Proofs.YtdiealijjhfhjaaGreatDoor
namespace Go.Proofs.YtdiealijjhfhjaaGreatDoor
open Go.RowKit
def Says (Z : Nat → Prop) (S : Nat → Prop) (x : Nat) (m : Mc) (w : World) (b : Bool) (e : Ending) (w' : World) : Prop := e = .returned (.bool b) ∧ Post Z S x m w w'
theorem says_low {Z : Nat → Prop} {S : Nat → Prop} {x : Nat} {m : Mc} {w w' : World} (h : Mach Z S x m w) (b : Below w.heap.size w w') (v : Bool) : Says Z S x m w v (.returned (.bool v)) w' := ⟨rfl, Post.of (h.below b) (Keep.old b)⟩
set_option maxHeartbeats 2000000 in
set_option maxRecDepth 20000 in
theorem sure_1 {Z : Nat → Prop} {S : Nat → Prop} {x : Nat} {m : Mc} {w : World} (h : Mach Z S x m w) (a d : Ch) (t : List Ch) (hl : m.ref = a :: d :: t) (hn : m.tot ≤ 500000000) (h35 : (d.r == 35) = true) : Calls Tryz.prog 156 #[mp x] w (Says Z S x m w (Mc.sureNum t)) := by
  have HM : Hid (Mach Z S x m w) := h
  obtain ⟨v, T, h⟩ := h
  have hxw := h.lt
  have c6 := h.cells 6 v.r rfl
  obtain ⟨ao, ca, e6, hca, hrow, hz, hmx⟩ := rowC (h.bag.own 1 _ rfl)
  have hk : m.ref.length = t.length + 2 := by rw [hl]; rfl
  have hkb : t.length ≤ 500000000 := by unfold Mc.tot at hn; omega
  obtain ⟨k, hk2⟩ : ∃ k, t.length = k := ⟨_, rfl⟩
  rw [e6, hk, hk2] at c6
  rw [hk, hk2] at hca
  rw [hk2] at hkb
  obtain ⟨b, off, rfl, hb, d0, _, _⟩ := hrow 1 d (by rw [hl]; rfl)
  obtain ⟨rfl, _⟩ := hz b off rfl
  have hdr := hrow.drop 2 ca (by omega)
  rw [hl] at hdr
  simp only [List.drop_succ_cons, List.drop_zero] at hdr
  have HS : Hid (∀ c2, Calls Tryz.prog 187 #[.slice (if ca = 2 then some ⟨b, 0, none⟩ else (some (⟨b, 0, none⟩ : Addr)).map (·.add (2 * 3))) k c2] w fun e w' => e = .returned (.bool (Mc.sureNum t)) ∧ Below w.heap.size w w') := fun c2 => sureNumber_any k c2 hdr hk2 (by omega)
  obtain ⟨r, hr⟩ : ∃ r, d.r = r := ⟨_, rfl⟩
  rw [hr] at d0 h35
  have d0' : w.cell? ⟨b, 3, none⟩ = some (.int .i64 r) := d0
  clear d0 hz h hrow hdr hl hk hk2 hn e6 hr
  go_enter Tryz.func156, Tryz.ntmps156
  go_wp2_with fail
  all_goals
    have HS2 := HS.out
    simp only [h, if_true, if_false, Option.map_some, Addr.add, Nat.reduceMul, Nat.zero_add] at HS2
    refine (HS2 _).mono ?_
    rintro e w1 ⟨rfl, b1⟩
    have B1 : Hid (Says Z S x m w (Mc.sureNum t) (.returned (.bool (Mc.sureNum t))) w1) := says_low HM.out b1 _
    clear b1 HS2
    go_wp2_with fail
    go_ret
    exact B1.out
set_option maxHeartbeats 2000000 in
set_option maxRecDepth 20000 in
theorem sure_2 {Z : Nat → Prop} {S : Nat → Prop} {x : Nat} {m : Mc} {w : World} (h : Mach Z S x m w) (a d : Ch) (t : List Ch) (hl : m.ref = a :: d :: t) (hn : m.tot ≤ 500000000) (h35 : (d.r == 35) = false) (h59 : (Mc.lastR m.ref == 59) = true) : Calls Tryz.prog 156 #[mp x] w (Says Z S x m w true) := by
  have HM : Hid (Mach Z S x m w) := h
  obtain ⟨v, T, h⟩ := h
  have hxw := h.lt
  have c6 := h.cells 6 v.r rfl
  obtain ⟨ao, ca, e6, hca, hrow, hz, hmx⟩ := rowC (h.bag.own 1 _ rfl)
  have hk : m.ref.length = t.length + 2 := by rw [hl]; rfl
  have hkb : t.length ≤ 500000000 := by unfold Mc.tot at hn; omega
  obtain ⟨k, hk2⟩ : ∃ k, t.length = k := ⟨_, rfl⟩
  rw [e6, hk, hk2] at c6
  rw [hk, hk2] at hca
  rw [hk2] at hkb
  obtain ⟨b, off, rfl, hb, d0, _, _⟩ := hrow 1 d (by rw [hl]; rfl)
  obtain ⟨rfl, _⟩ := hz b off rfl
  obtain ⟨c, hc, hcr⟩ := lastR_at (d :: t) a (k + 1) (by simp [hk2])
  rw [← hl] at hc hcr
  obtain ⟨b', off', he, _, d1, _, _⟩ := hrow (k + 1) c hc
  cases he
  rw [hcr] at d1
  obtain ⟨z, hzr⟩ : ∃ z, Mc.lastR m.ref = z := ⟨_, rfl⟩
  rw [hzr] at d1 h59
  obtain ⟨r, hr⟩ : ∃ r, d.r = r := ⟨_, rfl⟩
  rw [hr] at d0 h35
  have d0' : w.cell? ⟨b, 3, none⟩ = some (.int .i64 r) := d0
  have d1' : w.cell? ⟨b, (k + 1) * 3, none⟩ = some (.int .i64 z) := by rw [Nat.zero_add] at d1; exact d1
  clear d0 d1 hz h hrow hl hk hk2 hn e6 hr hzr hcr hc
  go_enter Tryz.func156, Tryz.ntmps156
  go_wp2_with fail
  go_quiet (fail)
  go_wp2_with fail
  go_ret
  exact says_low HM.out (G9.below_drewN (Below.refl _ _) _) _
end Go.Proofs.YtdiealijjhfhjaaGreatDoor
namespace Go.Proofs.YtdiealijjhfhjaaGreatDoor
open Go.RowKit
abbrev Sn (x : Nat) (rv pv : Value) (W0 w' : World) : Prop := w'.cell? ⟨x, 6, none⟩ = some rv ∧ w'.cell? ⟨x, 7, none⟩ = some pv ∧ Below W0.heap.size W0 w'
theorem sn_below {x : Nat} {rv pv : Value} {W0 w' : World} (h : Sn x rv pv W0 w') : Below W0.heap.size W0 w' := h.2.2
theorem sn_step {x : Nat} {rv pv : Value} {W0 w' w2 : World} (h : Sn x rv pv W0 w') (b : Below w'.heap.size w' w2) (hx : x < W0.heap.size) (c6 : W0.cell? ⟨x, 6, none⟩ = some rv) (c7 : W0.cell? ⟨x, 7, none⟩ = some pv) : Sn x rv pv W0 w2 := by
  have hb : Below W0.heap.size W0 w2 := h.2.2.trans (b.mono h.2.2.size)
  exact ⟨(hb.cell (p := ⟨x, 6, none⟩) hx).trans c6, (hb.cell (p := ⟨x, 7, none⟩) hx).trans c7, hb⟩
theorem sn_keep {x : Nat} {rv pv : Value} {W0 w' : World} (h : Sn x rv pv W0 w') (hx : x < W0.heap.size) (c6 : W0.cell? ⟨x, 6, none⟩ = some rv) (c7 : W0.cell? ⟨x, 7, none⟩ = some pv) : Sn x rv pv W0 w'.drew := sn_step h ((Below.refl _ _).drew) hx c6 c7
set_option maxHeartbeats 4000000 in
set_option maxRecDepth 20000 in
theorem sure_3 {Z : Nat → Prop} {S : Nat → Prop} {x : Nat} {m : Mc} {v : Vs} {T : List TL} {w : World} (h : MachV Z S x m v T w) (a d : Ch) (t : List Ch) (hl : m.ref = a :: d :: t) (hn : m.tot ≤ 500000000) (h35 : (d.r == 35) = false) (h59 : (Mc.lastR m.ref == 59) = false) (g : Nat) (hg : v.p = .pointer (some ⟨g, 0, none⟩)) (hgt : Stays S w fun w => G6.TrieIs w 0 g G6.refs) : Calls Tryz.prog 156 #[mp x] w (Says Z S x m w (!G6.goes G6.refs (encs (d :: t)))) := by
  have HM : Hid (Mach Z S x m w) := ⟨v, T, h⟩
  have hxw := h.lt
  have c6 := h.cells 6 v.r rfl
  have c7 := h.cells 7 v.p rfl
  rw [hg] at c7
  obtain ⟨ao, ca, e6, hca, hrow, hz, hmx⟩ := rowC (h.bag.own 1 _ rfl)
  have hk : m.ref.length = t.length + 2 := by rw [hl]; rfl
  have hkb : t.length ≤ 500000000 := by unfold Mc.tot at hn; omega
  obtain ⟨k, hk2⟩ : ∃ k, t.length = k := ⟨_, rfl⟩
  rw [e6, hk, hk2] at c6
  rw [hk, hk2] at hca
  rw [hk2] at hkb
  obtain ⟨b, off, rfl, hb, d0, _, _⟩ := hrow 1 d (by rw [hl]; rfl)
  obtain ⟨rfl, _⟩ := hz b off rfl
  obtain ⟨c, hc, hcr⟩ := lastR_at (d :: t) a (k + 1) (by simp [hk2])
  rw [← hl] at hc hcr
  obtain ⟨b', off', he, _, d1, _, _⟩ := hrow (k + 1) c hc
  cases he
  rw [hcr] at d1
  obtain ⟨z, hzr⟩ : ∃ z, Mc.lastR m.ref = z := ⟨_, rfl⟩
  rw [hzr] at d1 h59
  obtain ⟨r, hr⟩ : ∃ r, d.r = r := ⟨_, rfl⟩
  rw [hr] at d0 h35
  have d0' : w.cell? ⟨b, 3, none⟩ = some (.int .i64 r) := d0
  have d1' : w.cell? ⟨b, (k + 1) * 3, none⟩ = some (.int .i64 z) := by rw [Nat.zero_add] at d1; exact d1
  have hc1 : ¬ ca = 1 := by omega
  have hdr := hrow.drop 1 ca (by omega)
  rw [hl, if_neg hc1] at hdr
  have hdr2 : ChRow (some ⟨b, 3, none⟩) (d :: t) w := hdr
  have HT : Hid (∀ w' c2, Below w.heap.size w w' → Calls Tryz.prog 83 #[.slice (some ⟨b, 3, none⟩) (k + 1) c2] w' fun e w'' => e = .returned (.string (bs (encs (d :: t)))) ∧ Below w'.heap.size w' w'') := fun w' c2 bw => textOf_any (k + 1) c2 (hdr2.below bw) (by simp [hk2]) (by omega)
  have HG : Hid (∀ w', Below w.heap.size w w' → Calls Tryz.prog 188 #[.pointer (some ⟨g, 0, none⟩), .string (bs (encs (d :: t)))] w' fun e w'' => e = .returned (.bool (G6.goes G6.refs (encs (d :: t)))) ∧ Below w'.heap.size w' w'') := fun w' bw => by
    have hs : (bs (encs (d :: t))).size ≤ 9223372036854775807 := by
      rw [bs_size]
      have := encs_len (d :: t)
      simp only [List.length_cons, hk2] at this
      omega
    have := G6.goes_any (hgt w' (Keep.old bw)) (bs (encs (d :: t))) hs
    rwa [bs_list] at this
  clear d0 d1 hz h hrow hl hk hk2 hn e6 hr hzr hcr hc hdr hdr2 hg hgt
  go_enter Tryz.func156, Tryz.ntmps156
  go_wp2_with fail
  go_quiet (fail)
  go_wp2_with fail
  obtain ⟨n, hn⟩ : ∃ n, k + 2 = n := ⟨_, rfl⟩
  have e1 : k + 1 = n - 1 := by omega
  have i1 : (1 : Int) ≤ (n : Int) := by omega
  have i2 : (n : Int) ≤ (ca : Int) := by omega
  rw [hn] at c6
  rw [e1] at HT
  clear hn e1 hca hkb
  have hin : Sn x (.slice (some ⟨b, 0, none⟩) n ca) (.pointer (some ⟨g, 0, none⟩)) w (w.drewN nq) := ⟨by simpa using c6, by simpa using c7, G9.below_drewN (Below.refl _ _) _⟩
  go_region_held3 (fun w' => w'.cell? ⟨x, 6, none⟩ = some (.slice (some ⟨b, 0, none⟩) n ca) ∧ w'.cell? ⟨x, 7, none⟩ = some (.pointer (some ⟨g, 0, none⟩)) ∧ Below w.heap.size w w')
    (first | assumption | exact sn_keep (by assumption) hxw c6 c7 | go_keep)
    (first
      | (go_at_call 83; refine (HT.out _ _ (sn_below (by assumption))).mono ?_; rintro e w' ⟨rfl, hbw⟩; have hkk := sn_step (by assumption) hbw hxw c6 c7)
      | (go_at_call 188; refine (HG.out _ (sn_below (by assumption))).mono ?_; rintro e w' ⟨rfl, hbw⟩; have hkk := sn_step (by assumption) hbw hxw c6 c7))
  all_goals
    go_wp2_with fail
    go_ret
    exact says_low HM.out (sn_below (by assumption)) _
end Go.Proofs.YtdiealijjhfhjaaGreatDoor
