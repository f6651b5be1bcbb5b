/- The law TreeEqual: its walk. -/
import Derived.Test.YtdpibnmbgjhohaaEa
import Derived.Test.YtdpibnmbgjhohaaFc
namespace Go.Proofs.Ytdpibnmbgjhohaa
open Go.RowKit

theorem alk_refl (d : Nd) (n : Nat) : alk d n d n = true := by simp [alk]
mutual
theorem eT_refl : ∀ (t : Tr), eT t t = true
  | .mk d ks => by
    have h := eL_refl ks
    rw [eT]
    show (decide (d.id = d.id) && ((d.sf == d.sf && d.st == d.st) && ((d.ef == d.ef && d.et == d.et) && (eqA d.al d.al && (alk d ks.length d ks.length && eL ks ks))))) = true
    rw [h, alk_refl, eqA_iff.2 rfl]
    simp
theorem eL_refl : ∀ (l : List Tr), eL l l = true
  | [] => by rw [eL]
  | t :: ts => by rw [eL, eT_refl t, eL_refl ts]; rfl
end
mutual
theorem lT_refl : ∀ (t : Tr), lT t t = true
  | .mk d ks => by
    have h := lL_refl ks
    rw [lT]
    show (alk d ks.length d ks.length && (sameP d.al d.al && lL ks ks)) = true
    rw [h, alk_refl, same_refl]
    rfl
theorem lL_refl : ∀ (l : List Tr), lL l l = true
  | [] => by rw [lL]
  | t :: ts => by rw [lL, lT_refl t, lL_refl ts]; rfl
end
set_option maxRecDepth 20000 in
set_option maxHeartbeats 16000000 in
theorem equal_walk (w : World) (t : Tr) (av kv : Value) (ht : TrC w t av kv) (hok : Ok t) (u : Tr) (av' kv' : Value) (hu : TrC w u av' kv') (hok' : Ok u) : Calls Try.prog 3 #[nv t.d av kv, nv u.d av' kv'] w fun e w' => e = .returned (.bool true) ∧ Below w.heap.size w w' := by
  obtain ⟨a, ac, k, kc, rfl, rfl, _⟩ := ht.flat
  obtain ⟨a', ac', k', kc', rfl, rfl, _⟩ := hu.flat
  obtain ⟨V, hV⟩ : ∃ V, (w.alloc (na t.d (.slice a t.d.al.length ac) (.slice k t.k.length kc))).alloc (na u.d (.slice a' u.d.al.length ac') (.slice k' u.k.length kc')) = V := ⟨_, rfl⟩
  have hq := als_spec w [na t.d (.slice a t.d.al.length ac) (.slice k t.k.length kc), na u.d (.slice a' u.d.al.length ac') (.slice k' u.k.length kc')]
  simp only [als, List.length_cons, List.length_nil] at hq
  rw [hV] at hq
  obtain ⟨hb, hsz, h1⟩ := hq
  have hxA : Bx V (w.heap.size) #[iv t.d.id, iv t.d.kind, iv t.d.space, .string t.d.name, .string t.d.text, .slice a t.d.al.length ac, iv t.d.sf, iv t.d.st, iv t.d.ef, iv t.d.et, .slice k t.k.length kc] := h1 0 _ rfl
  have hxB : Bx V (w.heap.size + 1) #[iv u.d.id, iv u.d.kind, iv u.d.space, .string u.d.name, .string u.d.text, .slice a' u.d.al.length ac', iv u.d.sf, iv u.d.st, iv u.d.ef, iv u.d.et, .slice k' u.k.length kc'] := h1 1 _ rfl
  have HX : Hid (Bx V (w.heap.size) #[iv t.d.id, iv t.d.kind, iv t.d.space, .string t.d.name, .string t.d.text, .slice a t.d.al.length ac, iv t.d.sf, iv t.d.st, iv t.d.ef, iv t.d.et, .slice k t.k.length kc] ∧ Bx V (w.heap.size + 1) #[iv u.d.id, iv u.d.kind, iv u.d.space, .string u.d.name, .string u.d.text, .slice a' u.d.al.length ac', iv u.d.sf, iv u.d.st, iv u.d.ef, iv u.d.et, .slice k' u.k.length kc']) := ⟨hxA, hxB⟩
  have HV : Hid ((w.alloc (na t.d (.slice a t.d.al.length ac) (.slice k t.k.length kc))).alloc (na u.d (.slice a' u.d.al.length ac') (.slice k' u.k.length kc')) = V ∧ Below w.heap.size w V) := ⟨hV, hb⟩
  have htV := ht.old hb
  have huV := hu.old hb
  have h7 : ∀ W, Below V.heap.size V W → Calls Try.prog 7 #[nv t.d (.slice a t.d.al.length ac) (.slice k t.k.length kc)] W fun e w' => e = .returned (iv (if wT t 200 3000 < 0 then 0 else 1)) ∧ Below W.heap.size W w' := fun W b => small_any (htV.old b).v hok
  have h7' : ∀ W, Below V.heap.size V W → Calls Try.prog 7 #[nv u.d (.slice a' u.d.al.length ac') (.slice k' u.k.length kc')] W fun e w' => e = .returned (iv (if wT u 200 3000 < 0 then 0 else 1)) ∧ Below W.heap.size W w' := fun W b => small_any (huV.old b).v hok'
  clear hV h1 hsz ht hu
  by_cases hs : wT t 200 3000 < 0
  · have h70 := h7 V (Below.refl _ _)
    rw [if_pos hs] at h70
    clear h7 h7' hxA hxB htV huV hb hs
    go_enter Try.func3, Try.ntmps3
    go_wp2_with fail
    rw [HV.out.1]
    refine h70.mono ?_
    rintro e W1 ⟨rfl, b1⟩
    clear h70
    go_wp2_with fail
    refine (awake_any _).mono ?_
    rintro e W2 ⟨rfl, b2⟩
    go_wp2_with fail
    go_ret
    exact ⟨rfl, (HV.out.2.trans (b1.mono HV.out.2.size)).trans (b2.mono (Nat.le_trans HV.out.2.size b1.size))⟩
  have h70 := h7 V (Below.refl _ _)
  rw [if_neg hs] at h70
  clear h7
  by_cases hs' : wT u 200 3000 < 0
  · have H70 : Hid (∀ W, Below V.heap.size V W → Calls Try.prog 7 #[nv u.d (.slice a' u.d.al.length ac') (.slice k' u.k.length kc')] W fun e w' => e = .returned (iv 0) ∧ Below W.heap.size W w') := fun W b => by
      have := h7' W b
      rwa [if_pos hs'] at this
    clear h7' htV huV hb hs hs'
    go_enter Try.func3, Try.ntmps3
    go_wp2_with fail
    rw [HV.out.1]
    refine h70.mono ?_
    rintro e W1 ⟨rfl, b1⟩
    have hB1 := hxB.old b1
    have hc7 := H70.out W1 b1
    clear h70
    have y0 : W1.cell? ⟨w.heap.size + 1, 0, none⟩ = some (iv u.d.id) := Bx.cell hB1 0
    have y1 : W1.cell? ⟨w.heap.size + 1, 1, none⟩ = some (iv u.d.kind) := Bx.cell hB1 1
    have y2 : W1.cell? ⟨w.heap.size + 1, 2, none⟩ = some (iv u.d.space) := Bx.cell hB1 2
    have y3 : W1.cell? ⟨w.heap.size + 1, 3, none⟩ = some (.string u.d.name) := Bx.cell hB1 3
    have y4 : W1.cell? ⟨w.heap.size + 1, 4, none⟩ = some (.string u.d.text) := Bx.cell hB1 4
    have y5 : W1.cell? ⟨w.heap.size + 1, 5, none⟩ = some (.slice a' u.d.al.length ac') := Bx.cell hB1 5
    have y6 : W1.cell? ⟨w.heap.size + 1, 6, none⟩ = some (iv u.d.sf) := Bx.cell hB1 6
    have y7 : W1.cell? ⟨w.heap.size + 1, 7, none⟩ = some (iv u.d.st) := Bx.cell hB1 7
    have y8 : W1.cell? ⟨w.heap.size + 1, 8, none⟩ = some (iv u.d.ef) := Bx.cell hB1 8
    have y9 : W1.cell? ⟨w.heap.size + 1, 9, none⟩ = some (iv u.d.et) := Bx.cell hB1 9
    have y10 : W1.cell? ⟨w.heap.size + 1, 10, none⟩ = some (.slice k' u.k.length kc') := Bx.cell hB1 10
    go_wp2_with fail
    refine hc7.mono ?_
    rintro e W2 ⟨rfl, b2⟩
    clear hc7 y0 y1 y2 y3 y4 y5 y6 y7 y8 y9 y10
    go_wp2_with fail
    refine (awake_any _).mono ?_
    rintro e W3 ⟨rfl, b3⟩
    go_wp2_with fail
    go_ret
    have h3 := b1.trans ((b2.trans (b3.mono b2.size)).mono b1.size)
    exact ⟨rfl, HV.out.2.trans (h3.mono HV.out.2.size)⟩
  have ti := tiny_of hs
  have ti' := tiny_of hs'
  have hc := ti.cnt
  have H70 : Hid (∀ W, Below V.heap.size V W → Calls Try.prog 7 #[nv u.d (.slice a' u.d.al.length ac') (.slice k' u.k.length kc')] W fun e w' => e = .returned (iv 1) ∧ Below W.heap.size W w') := fun W b => by
    have := h7' W b
    rwa [if_neg hs'] at this
  obtain ⟨E, hE⟩ : ∃ E, eT t u = E := ⟨_, rfl⟩
  obtain ⟨F, hF⟩ : ∃ F, lT t u = F := ⟨_, rfl⟩
  have H9 : Hid (∀ W, Below V.heap.size V W → Calls Try.prog 9 #[nv t.d (.slice a t.d.al.length ac) (.slice k t.k.length kc), nv u.d (.slice a' u.d.al.length ac') (.slice k' u.k.length kc')] W fun e w' => e = .returned (.bool E) ∧ Below W.heap.size W w') := fun W b => by
    rw [← hE]
    exact equal_prog (htV.old b) (huV.old b) ti.sml (by omega)
  have H9a : Hid (∀ W, Below V.heap.size V W → Calls Try.prog 9 #[nv t.d (.slice a t.d.al.length ac) (.slice k t.k.length kc), nv t.d (.slice a t.d.al.length ac) (.slice k t.k.length kc)] W fun e w' => e = .returned (.bool true) ∧ Below W.heap.size W w') := fun W b => by
    have := equal_prog (htV.old b) (htV.old b) ti.sml (by omega)
    rwa [eT_refl] at this
  have H10 : Hid (∀ W, Below V.heap.size V W → Calls Try.prog 10 #[nv t.d (.slice a t.d.al.length ac) (.slice k t.k.length kc), nv u.d (.slice a' u.d.al.length ac') (.slice k' u.k.length kc')] W fun e w' => e = .returned (.bool E) ∧ Below W.heap.size W w') := fun W b => by
    rw [← hE]
    exact requal_any htV.v u _ _ huV.v hok W b
  have H11 : Hid (∀ W, Below V.heap.size V W → Calls Try.prog 11 #[nv t.d (.slice a t.d.al.length ac) (.slice k t.k.length kc), nv u.d (.slice a' u.d.al.length ac') (.slice k' u.k.length kc')] W fun e w' => e = .returned (.bool F) ∧ Below W.heap.size W w') := fun W b => by
    rw [← hF]
    exact like_prog (htV.old b) (huV.old b) ti.sml (by omega)
  have H11a : Hid (∀ W, Below V.heap.size V W → Calls Try.prog 11 #[nv t.d (.slice a t.d.al.length ac) (.slice k t.k.length kc), nv t.d (.slice a t.d.al.length ac) (.slice k t.k.length kc)] W fun e w' => e = .returned (.bool true) ∧ Below W.heap.size W w') := fun W b => by
    have := like_prog (htV.old b) (htV.old b) ti.sml (by omega)
    rwa [lT_refl] at this
  have H12 : Hid (∀ W, Below V.heap.size V W → Calls Try.prog 12 #[nv t.d (.slice a t.d.al.length ac) (.slice k t.k.length kc), nv u.d (.slice a' u.d.al.length ac') (.slice k' u.k.length kc')] W fun e w' => e = .returned (.bool F) ∧ Below W.heap.size W w') := fun W b => by
    rw [← hF]
    exact rlike_any htV.v u _ _ huV.v hok ti.few.few ti'.few.few W b
  clear h7' htV huV hb hs hs' ti ti' hc hE hF
  go_enter Try.func3, Try.ntmps3
  go_wp2_with fail
  rw [HV.out.1]
  refine h70.mono ?_
  rintro e W1 ⟨rfl, b1⟩
  have hB1 := hxB.old b1
  have hc7 := H70.out W1 b1
  have HB1 : Hid (Below V.heap.size V W1) := b1
  clear h70 b1 hxA hxB
  have y0 : W1.cell? ⟨w.heap.size + 1, 0, none⟩ = some (iv u.d.id) := Bx.cell hB1 0
  have y1 : W1.cell? ⟨w.heap.size + 1, 1, none⟩ = some (iv u.d.kind) := Bx.cell hB1 1
  have y2 : W1.cell? ⟨w.heap.size + 1, 2, none⟩ = some (iv u.d.space) := Bx.cell hB1 2
  have y3 : W1.cell? ⟨w.heap.size + 1, 3, none⟩ = some (.string u.d.name) := Bx.cell hB1 3
  have y4 : W1.cell? ⟨w.heap.size + 1, 4, none⟩ = some (.string u.d.text) := Bx.cell hB1 4
  have y5 : W1.cell? ⟨w.heap.size + 1, 5, none⟩ = some (.slice a' u.d.al.length ac') := Bx.cell hB1 5
  have y6 : W1.cell? ⟨w.heap.size + 1, 6, none⟩ = some (iv u.d.sf) := Bx.cell hB1 6
  have y7 : W1.cell? ⟨w.heap.size + 1, 7, none⟩ = some (iv u.d.st) := Bx.cell hB1 7
  have y8 : W1.cell? ⟨w.heap.size + 1, 8, none⟩ = some (iv u.d.ef) := Bx.cell hB1 8
  have y9 : W1.cell? ⟨w.heap.size + 1, 9, none⟩ = some (iv u.d.et) := Bx.cell hB1 9
  have y10 : W1.cell? ⟨w.heap.size + 1, 10, none⟩ = some (.slice k' u.k.length kc') := Bx.cell hB1 10
  go_wp2_with fail
  refine hc7.mono ?_
  rintro e W2 ⟨rfl, b2⟩
  have HB2 : Hid (Below V.heap.size V W2) := HB1.out.trans (b2.mono HB1.out.size)
  clear hc7 y0 y1 y2 y3 y4 y5 y6 y7 y8 y9 y10 b2 hB1
  have bl_of : ∀ {w' : World}, w'.cell? ⟨w.heap.size, 0, none⟩ = some (iv t.d.id) ∧ w'.cell? ⟨w.heap.size, 1, none⟩ = some (iv t.d.kind) ∧ w'.cell? ⟨w.heap.size, 2, none⟩ = some (iv t.d.space) ∧ w'.cell? ⟨w.heap.size, 3, none⟩ = some (.string t.d.name) ∧ w'.cell? ⟨w.heap.size, 4, none⟩ = some (.string t.d.text) ∧ w'.cell? ⟨w.heap.size, 5, none⟩ = some (.slice a t.d.al.length ac) ∧ w'.cell? ⟨w.heap.size, 6, none⟩ = some (iv t.d.sf) ∧ w'.cell? ⟨w.heap.size, 7, none⟩ = some (iv t.d.st) ∧ w'.cell? ⟨w.heap.size, 8, none⟩ = some (iv t.d.ef) ∧ w'.cell? ⟨w.heap.size, 9, none⟩ = some (iv t.d.et) ∧ w'.cell? ⟨w.heap.size, 10, none⟩ = some (.slice k t.k.length kc) ∧ w'.cell? ⟨w.heap.size + 1, 0, none⟩ = some (iv u.d.id) ∧ w'.cell? ⟨w.heap.size + 1, 1, none⟩ = some (iv u.d.kind) ∧ w'.cell? ⟨w.heap.size + 1, 2, none⟩ = some (iv u.d.space) ∧ w'.cell? ⟨w.heap.size + 1, 3, none⟩ = some (.string u.d.name) ∧ w'.cell? ⟨w.heap.size + 1, 4, none⟩ = some (.string u.d.text) ∧ w'.cell? ⟨w.heap.size + 1, 5, none⟩ = some (.slice a' u.d.al.length ac') ∧ w'.cell? ⟨w.heap.size + 1, 6, none⟩ = some (iv u.d.sf) ∧ w'.cell? ⟨w.heap.size + 1, 7, none⟩ = some (iv u.d.st) ∧ w'.cell? ⟨w.heap.size + 1, 8, none⟩ = some (iv u.d.ef) ∧ w'.cell? ⟨w.heap.size + 1, 9, none⟩ = some (iv u.d.et) ∧ w'.cell? ⟨w.heap.size + 1, 10, none⟩ = some (.slice k' u.k.length kc') ∧ Below V.heap.size V w' → Below V.heap.size V w' := fun h => h.2.2.2.2.2.2.2.2.2.2.2.2.2.2.2.2.2.2.2.2.2.2
  have mk_s : ∀ {w' : World}, Below V.heap.size V w' → w'.cell? ⟨w.heap.size, 0, none⟩ = some (iv t.d.id) ∧ w'.cell? ⟨w.heap.size, 1, none⟩ = some (iv t.d.kind) ∧ w'.cell? ⟨w.heap.size, 2, none⟩ = some (iv t.d.space) ∧ w'.cell? ⟨w.heap.size, 3, none⟩ = some (.string t.d.name) ∧ w'.cell? ⟨w.heap.size, 4, none⟩ = some (.string t.d.text) ∧ w'.cell? ⟨w.heap.size, 5, none⟩ = some (.slice a t.d.al.length ac) ∧ w'.cell? ⟨w.heap.size, 6, none⟩ = some (iv t.d.sf) ∧ w'.cell? ⟨w.heap.size, 7, none⟩ = some (iv t.d.st) ∧ w'.cell? ⟨w.heap.size, 8, none⟩ = some (iv t.d.ef) ∧ w'.cell? ⟨w.heap.size, 9, none⟩ = some (iv t.d.et) ∧ w'.cell? ⟨w.heap.size, 10, none⟩ = some (.slice k t.k.length kc) ∧ w'.cell? ⟨w.heap.size + 1, 0, none⟩ = some (iv u.d.id) ∧ w'.cell? ⟨w.heap.size + 1, 1, none⟩ = some (iv u.d.kind) ∧ w'.cell? ⟨w.heap.size + 1, 2, none⟩ = some (iv u.d.space) ∧ w'.cell? ⟨w.heap.size + 1, 3, none⟩ = some (.string u.d.name) ∧ w'.cell? ⟨w.heap.size + 1, 4, none⟩ = some (.string u.d.text) ∧ w'.cell? ⟨w.heap.size + 1, 5, none⟩ = some (.slice a' u.d.al.length ac') ∧ w'.cell? ⟨w.heap.size + 1, 6, none⟩ = some (iv u.d.sf) ∧ w'.cell? ⟨w.heap.size + 1, 7, none⟩ = some (iv u.d.st) ∧ w'.cell? ⟨w.heap.size + 1, 8, none⟩ = some (iv u.d.ef) ∧ w'.cell? ⟨w.heap.size + 1, 9, none⟩ = some (iv u.d.et) ∧ w'.cell? ⟨w.heap.size + 1, 10, none⟩ = some (.slice k' u.k.length kc') ∧ Below V.heap.size V w' := fun h => by
    have hA := HX.out.1.old h
    have hB := HX.out.2.old h
    exact ⟨Bx.cell hA 0, Bx.cell hA 1, Bx.cell hA 2, Bx.cell hA 3, Bx.cell hA 4, Bx.cell hA 5, Bx.cell hA 6, Bx.cell hA 7, Bx.cell hA 8, Bx.cell hA 9, Bx.cell hA 10, Bx.cell hB 0, Bx.cell hB 1, Bx.cell hB 2, Bx.cell hB 3, Bx.cell hB 4, Bx.cell hB 5, Bx.cell hB 6, Bx.cell hB 7, Bx.cell hB 8, Bx.cell hB 9, Bx.cell hB 10, h⟩
  have call_s : ∀ {f : FuncId} {args : Array Value} {v : Value} {w1 : World}, (w1.cell? ⟨w.heap.size, 0, none⟩ = some (iv t.d.id) ∧ w1.cell? ⟨w.heap.size, 1, none⟩ = some (iv t.d.kind) ∧ w1.cell? ⟨w.heap.size, 2, none⟩ = some (iv t.d.space) ∧ w1.cell? ⟨w.heap.size, 3, none⟩ = some (.string t.d.name) ∧ w1.cell? ⟨w.heap.size, 4, none⟩ = some (.string t.d.text) ∧ w1.cell? ⟨w.heap.size, 5, none⟩ = some (.slice a t.d.al.length ac) ∧ w1.cell? ⟨w.heap.size, 6, none⟩ = some (iv t.d.sf) ∧ w1.cell? ⟨w.heap.size, 7, none⟩ = some (iv t.d.st) ∧ w1.cell? ⟨w.heap.size, 8, none⟩ = some (iv t.d.ef) ∧ w1.cell? ⟨w.heap.size, 9, none⟩ = some (iv t.d.et) ∧ w1.cell? ⟨w.heap.size, 10, none⟩ = some (.slice k t.k.length kc) ∧ w1.cell? ⟨w.heap.size + 1, 0, none⟩ = some (iv u.d.id) ∧ w1.cell? ⟨w.heap.size + 1, 1, none⟩ = some (iv u.d.kind) ∧ w1.cell? ⟨w.heap.size + 1, 2, none⟩ = some (iv u.d.space) ∧ w1.cell? ⟨w.heap.size + 1, 3, none⟩ = some (.string u.d.name) ∧ w1.cell? ⟨w.heap.size + 1, 4, none⟩ = some (.string u.d.text) ∧ w1.cell? ⟨w.heap.size + 1, 5, none⟩ = some (.slice a' u.d.al.length ac') ∧ w1.cell? ⟨w.heap.size + 1, 6, none⟩ = some (iv u.d.sf) ∧ w1.cell? ⟨w.heap.size + 1, 7, none⟩ = some (iv u.d.st) ∧ w1.cell? ⟨w.heap.size + 1, 8, none⟩ = some (iv u.d.ef) ∧ w1.cell? ⟨w.heap.size + 1, 9, none⟩ = some (iv u.d.et) ∧ w1.cell? ⟨w.heap.size + 1, 10, none⟩ = some (.slice k' u.k.length kc') ∧ Below V.heap.size V w1) → Calls Try.prog f args w1 (fun e w' => e = .returned v ∧ Below w1.heap.size w1 w') → Calls Try.prog f args w1 (fun e w' => e = .returned v ∧ (w'.cell? ⟨w.heap.size, 0, none⟩ = some (iv t.d.id) ∧ w'.cell? ⟨w.heap.size, 1, none⟩ = some (iv t.d.kind) ∧ w'.cell? ⟨w.heap.size, 2, none⟩ = some (iv t.d.space) ∧ w'.cell? ⟨w.heap.size, 3, none⟩ = some (.string t.d.name) ∧ w'.cell? ⟨w.heap.size, 4, none⟩ = some (.string t.d.text) ∧ w'.cell? ⟨w.heap.size, 5, none⟩ = some (.slice a t.d.al.length ac) ∧ w'.cell? ⟨w.heap.size, 6, none⟩ = some (iv t.d.sf) ∧ w'.cell? ⟨w.heap.size, 7, none⟩ = some (iv t.d.st) ∧ w'.cell? ⟨w.heap.size, 8, none⟩ = some (iv t.d.ef) ∧ w'.cell? ⟨w.heap.size, 9, none⟩ = some (iv t.d.et) ∧ w'.cell? ⟨w.heap.size, 10, none⟩ = some (.slice k t.k.length kc) ∧ w'.cell? ⟨w.heap.size + 1, 0, none⟩ = some (iv u.d.id) ∧ w'.cell? ⟨w.heap.size + 1, 1, none⟩ = some (iv u.d.kind) ∧ w'.cell? ⟨w.heap.size + 1, 2, none⟩ = some (iv u.d.space) ∧ w'.cell? ⟨w.heap.size + 1, 3, none⟩ = some (.string u.d.name) ∧ w'.cell? ⟨w.heap.size + 1, 4, none⟩ = some (.string u.d.text) ∧ w'.cell? ⟨w.heap.size + 1, 5, none⟩ = some (.slice a' u.d.al.length ac') ∧ w'.cell? ⟨w.heap.size + 1, 6, none⟩ = some (iv u.d.sf) ∧ w'.cell? ⟨w.heap.size + 1, 7, none⟩ = some (iv u.d.st) ∧ w'.cell? ⟨w.heap.size + 1, 8, none⟩ = some (iv u.d.ef) ∧ w'.cell? ⟨w.heap.size + 1, 9, none⟩ = some (iv u.d.et) ∧ w'.cell? ⟨w.heap.size + 1, 10, none⟩ = some (.slice k' u.k.length kc') ∧ Below V.heap.size V w')) :=
    fun h1 h2 => h2.mono fun _ _ h => ⟨h.1, mk_s ((bl_of h1).trans (h.2.mono (bl_of h1).size))⟩
  have K : W2.cell? ⟨w.heap.size, 0, none⟩ = some (iv t.d.id) ∧ W2.cell? ⟨w.heap.size, 1, none⟩ = some (iv t.d.kind) ∧ W2.cell? ⟨w.heap.size, 2, none⟩ = some (iv t.d.space) ∧ W2.cell? ⟨w.heap.size, 3, none⟩ = some (.string t.d.name) ∧ W2.cell? ⟨w.heap.size, 4, none⟩ = some (.string t.d.text) ∧ W2.cell? ⟨w.heap.size, 5, none⟩ = some (.slice a t.d.al.length ac) ∧ W2.cell? ⟨w.heap.size, 6, none⟩ = some (iv t.d.sf) ∧ W2.cell? ⟨w.heap.size, 7, none⟩ = some (iv t.d.st) ∧ W2.cell? ⟨w.heap.size, 8, none⟩ = some (iv t.d.ef) ∧ W2.cell? ⟨w.heap.size, 9, none⟩ = some (iv t.d.et) ∧ W2.cell? ⟨w.heap.size, 10, none⟩ = some (.slice k t.k.length kc) ∧ W2.cell? ⟨w.heap.size + 1, 0, none⟩ = some (iv u.d.id) ∧ W2.cell? ⟨w.heap.size + 1, 1, none⟩ = some (iv u.d.kind) ∧ W2.cell? ⟨w.heap.size + 1, 2, none⟩ = some (iv u.d.space) ∧ W2.cell? ⟨w.heap.size + 1, 3, none⟩ = some (.string u.d.name) ∧ W2.cell? ⟨w.heap.size + 1, 4, none⟩ = some (.string u.d.text) ∧ W2.cell? ⟨w.heap.size + 1, 5, none⟩ = some (.slice a' u.d.al.length ac') ∧ W2.cell? ⟨w.heap.size + 1, 6, none⟩ = some (iv u.d.sf) ∧ W2.cell? ⟨w.heap.size + 1, 7, none⟩ = some (iv u.d.st) ∧ W2.cell? ⟨w.heap.size + 1, 8, none⟩ = some (iv u.d.ef) ∧ W2.cell? ⟨w.heap.size + 1, 9, none⟩ = some (iv u.d.et) ∧ W2.cell? ⟨w.heap.size + 1, 10, none⟩ = some (.slice k' u.k.length kc') ∧ Below V.heap.size V W2 := mk_s HB2.out
  go_upto_region 3 with fail
  go_region_held3 (fun w' => w'.cell? ⟨w.heap.size, 0, none⟩ = some (iv t.d.id) ∧ w'.cell? ⟨w.heap.size, 1, none⟩ = some (iv t.d.kind) ∧ w'.cell? ⟨w.heap.size, 2, none⟩ = some (iv t.d.space) ∧ w'.cell? ⟨w.heap.size, 3, none⟩ = some (.string t.d.name) ∧ w'.cell? ⟨w.heap.size, 4, none⟩ = some (.string t.d.text) ∧ w'.cell? ⟨w.heap.size, 5, none⟩ = some (.slice a t.d.al.length ac) ∧ w'.cell? ⟨w.heap.size, 6, none⟩ = some (iv t.d.sf) ∧ w'.cell? ⟨w.heap.size, 7, none⟩ = some (iv t.d.st) ∧ w'.cell? ⟨w.heap.size, 8, none⟩ = some (iv t.d.ef) ∧ w'.cell? ⟨w.heap.size, 9, none⟩ = some (iv t.d.et) ∧ w'.cell? ⟨w.heap.size, 10, none⟩ = some (.slice k t.k.length kc) ∧ w'.cell? ⟨w.heap.size + 1, 0, none⟩ = some (iv u.d.id) ∧ w'.cell? ⟨w.heap.size + 1, 1, none⟩ = some (iv u.d.kind) ∧ w'.cell? ⟨w.heap.size + 1, 2, none⟩ = some (iv u.d.space) ∧ w'.cell? ⟨w.heap.size + 1, 3, none⟩ = some (.string u.d.name) ∧ w'.cell? ⟨w.heap.size + 1, 4, none⟩ = some (.string u.d.text) ∧ w'.cell? ⟨w.heap.size + 1, 5, none⟩ = some (.slice a' u.d.al.length ac') ∧ w'.cell? ⟨w.heap.size + 1, 6, none⟩ = some (iv u.d.sf) ∧ w'.cell? ⟨w.heap.size + 1, 7, none⟩ = some (iv u.d.st) ∧ w'.cell? ⟨w.heap.size + 1, 8, none⟩ = some (iv u.d.ef) ∧ w'.cell? ⟨w.heap.size + 1, 9, none⟩ = some (iv u.d.et) ∧ w'.cell? ⟨w.heap.size + 1, 10, none⟩ = some (.slice k' u.k.length kc') ∧ Below V.heap.size V w')
    (first | assumption | exact mk_s (Below.drew (bl_of (by assumption))) | go_keep)
    (first
      | (go_at_call 9; first | (refine (call_s (by assumption) (H9.out _ (bl_of (by assumption)))).mono ?_; rintro e w' ⟨rfl, h⟩) | (refine (call_s (by assumption) (H9a.out _ (bl_of (by assumption)))).mono ?_; rintro e w' ⟨rfl, h⟩))
      | (go_at_call 10; refine (call_s (by assumption) (H10.out _ (bl_of (by assumption)))).mono ?_; rintro e w' ⟨rfl, h⟩)
      | (go_at_call 11; first | (refine (call_s (by assumption) (H11.out _ (bl_of (by assumption)))).mono ?_; rintro e w' ⟨rfl, h⟩) | (refine (call_s (by assumption) (H11a.out _ (bl_of (by assumption)))).mono ?_; rintro e w' ⟨rfl, h⟩))
      | (go_at_call 12; refine (call_s (by assumption) (H12.out _ (bl_of (by assumption)))).mono ?_; rintro e w' ⟨rfl, h⟩)
      | (go_at_call 8; refine (call_s (by assumption) (awake_any _)).mono ?_; rintro e w' ⟨rfl, h⟩))
  go_wp2_with fail
  go_ret
  exact ⟨rfl, HV.out.2.trans ((bl_of h).mono HV.out.2.size)⟩
end Go.Proofs.Ytdpibnmbgjhohaa
