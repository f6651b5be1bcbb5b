/- The law TreeFinds, given what the program's Strip, the document's sorting and the examples answer: the walk. -/
import Derived.Test.YtdpibnmbgjhohaaId
import Derived.Test.YtdpibnmbgjhohaaBj
import Derived.Test.YtdpibnmbgjhohaaAh
import Derived.Deep.RegionHeld3
namespace Go.Proofs.Ytdpibnmbgjhohaa
open Go.RowKit

theorem alk_same (d : Nd) (n : Nat) : alk d n d n = true := by simp [alk]
mutual
theorem eT_same : ∀ (t : Tr), eT t t = true
  | .mk d ks => by
    have h := eL_same ks
    rw [eT]
    show (decide (d.id = d.id) && ((d.sf == d.sf && d.st == d.st) && ((d.ef == d.ef && d.et == d.et) && (eqA d.al d.al && (alk d ks.length d ks.length && eL ks ks))))) = true
    rw [h, alk_same, eqA_iff.2 rfl]
    simp
theorem eL_same : ∀ (l : List Tr), eL l l = true
  | [] => by rw [eL]
  | t :: ts => by rw [eL, eT_same t, eL_same ts]; rfl
end
mutual
theorem fT_ok : ∀ (t : Tr) (i : Int) (x : Tr), fT t i = some x → Ok t → Ok x
  | .mk d ks, i, x, h, o => by
    rw [fT] at h
    split at h
    · cases h
      exact o
    · cases o with
      | mk _ _ _ o4 => exact fL_ok ks i x h o4
theorem fL_ok : ∀ (l : List Tr) (i : Int) (x : Tr), fL l i = some x → (∀ t ∈ l, Ok t) → Ok x
  | [], i, x, h, _ => by
    rw [fL] at h
    cases h
  | t :: ts, i, x, h, o => by
    rw [fL] at h
    cases hq : fT t i with
    | some u =>
      rw [hq] at h
      cases h
      exact fT_ok t i _ hq (o t List.mem_cons_self)
    | none =>
      rw [hq] at h
      exact fL_ok ts i x h fun u hu => o u (List.mem_cons_of_mem _ hu)
end
mutual
theorem sT_ok : ∀ (t : Tr), Ok t → Ok (sT t)
  | .mk d ks, o => by
    cases o with
    | mk o1 o2 o3 o4 =>
      rw [sT]
      exact .mk (by show (sortP d.al).length ≤ _; rw [sort_len]; exact o1) o2 (by rw [sL_len]; exact o3) (sL_ok ks o4)
theorem sL_ok : ∀ (l : List Tr), (∀ t ∈ l, Ok t) → ∀ t ∈ sL l, Ok t
  | [], _ => by
    rw [sL]
    intro t h
    simp at h
  | t :: ts, o => by
    rw [sL]
    intro u hu
    rcases List.mem_cons.1 hu with rfl | hu
    · exact sT_ok t (o t List.mem_cons_self)
    · exact sL_ok ts (fun v hv => o v (List.mem_cons_of_mem _ hv)) u hu
end
/-- What is found, or a node without anything. -/
def zTr : Tr := .mk { id := 0, kind := 0, space := 0, name := ⟨#[]⟩, text := ⟨#[]⟩, al := [], av := .slice none 0 0, sf := 0, st := 0, ef := 0, et := 0 } []
def fX (t : Tr) (i : Int) : Tr := (fT t i).getD zTr
theorem ok_z : Ok zTr := .mk (by simp) (by decide) (by simp) (fun t h => by simp at h)
theorem trv_z (w : World) : TrV w zTr (.slice none 0 0) (.slice none 0 0) := .mk (d := zTr.d) (ks := []) (kb := 0) (ko := 0) (avs := fun _ => iv 0) (kvs := fun _ => iv 0) (fun i x h => by cases h) (fun e => absurd rfl e) (fun j t h => by simp at h) (fun j t h => by simp at h)
theorem fX_ok (t : Tr) (i : Int) (o : Ok t) : Ok (fX t i) := by
  unfold fX
  cases h : fT t i with
  | some x => exact fT_ok t i x h o
  | none => exact ok_z
/-- What Find answers. -/
def FndX (X : Tr) (B : Bool) (W : World) (e : Ending) (w' : World) : Prop := ∃ a n c k m d, e = .returned (.tuple #[.agg #[iv X.d.id, iv X.d.kind, iv X.d.space, .string X.d.name, .string X.d.text, .slice a n c, iv X.d.sf, iv X.d.st, iv X.d.ef, iv X.d.et, .slice k m d], .bool B]) ∧ TrV w' X (.slice a n c) (.slice k m d) ∧ Below W.heap.size W w'
theorem trv_flat {w : World} {t : Tr} {av kv : Value} (h : TrV w t av kv) : ∃ a n c k m d, av = .slice a n c ∧ kv = .slice k m d := by
  cases h
  exact ⟨_, _, _, _, _, _, rfl, rfl⟩
theorem fnd_of {W w' : World} {t : Tr} {i : Int} {e : Ending} (b : Below W.heap.size W w') (h : FindIs w' (fT t i) e) : FndX (fX t i) (fT t i).isSome W e w' := by
  unfold fX
  cases hq : fT t i with
  | some x =>
    rw [hq] at h
    obtain ⟨av, kv, h1, h2⟩ := h
    obtain ⟨a, n, c, k, m, d, rfl, rfl⟩ := trv_flat h1
    exact ⟨a, n, c, k, m, d, h2, h1, b⟩
  | none =>
    rw [hq] at h
    exact ⟨none, 0, 0, none, 0, 0, h, trv_z _, b⟩
theorem find_is {w : World} {o : Option Tr} {e : Ending} (h : FindC w o e) : FindIs w o e := by
  cases o with
  | none => exact h
  | some x =>
    obtain ⟨av, kv, h1, h2⟩ := h
    exact ⟨av, kv, h1.v, h2⟩
theorem find_mv {w w' : World} {o : Option Tr} {e : Ending} (b : Below w.heap.size w w') (h : FindIs w o e) : FindIs w' o e := by
  cases o with
  | none => exact h
  | some x =>
    obtain ⟨av, kv, h1, h2⟩ := h
    exact ⟨av, kv, h1.mv b.size (fun k hk => b.block k hk), h2⟩
def Strips22 : Prop := ∀ (W : World) (t : Tr) (av kv : Value), TrC W t av kv → Sml t → cT t ≤ 900000 → Calls Try.prog 22 #[nv t.d av kv] W fun e w' => Below W.heap.size W w' ∧ ∃ av' kv', e = .returned (nv (sD t.d) av' kv') ∧ TrC w' (sT t) av' kv'
def Awake8 : Prop := ∀ W : World, Calls Try.prog 8 #[] W fun e w' => e = .returned (.bool true) ∧ Below W.heap.size W w'
/-- What both Strips answer, whichever is called first; then Equal and the examples. -/
def P22 (t : Tr) (X : World → Prop) (W : World) (K : Option Addr → Nat → Nat → Option Addr → Nat → Nat → World → Prop) (e : Ending) (w' : World) : Prop := ∃ a n c k m d, e = .returned (.agg #[iv 0, iv t.d.kind, iv t.d.space, .string t.d.name, .string t.d.text, .slice a n c, iv (-1), iv (-1), iv (-1), iv (-1), .slice k m d]) ∧ X w' ∧ Below W.heap.size W w' ∧ K a n c k m d w'
theorem st_equal {w w' : World} {t : Tr} (ho : Ok t) {a a' k k' : Option Addr} {n n' c c' m m' d d' : Nat} (h : TrV w (sT t) (.slice a n c) (.slice k m d)) (h' : TrV w (sT t) (.slice a' n' c') (.slice k' m' d')) (b : Below w.heap.size w w') :
    Calls Try.prog 10 #[.agg #[iv 0, iv t.d.kind, iv t.d.space, .string t.d.name, .string t.d.text, .slice a n c, iv (-1), iv (-1), iv (-1), iv (-1), .slice k m d], .agg #[iv 0, iv t.d.kind, iv t.d.space, .string t.d.name, .string t.d.text, .slice a' n' c', iv (-1), iv (-1), iv (-1), iv (-1), .slice k' m' d']] w' fun e w'' => e = .returned (.bool true) ∧ Below w'.heap.size w' w'' := by
  obtain ⟨nd, ks⟩ := t
  have hr := requal_any h _ _ _ h' (sT_ok _ ho) w' b
  rw [eT_same] at hr
  rw [sT] at hr
  exact hr
set_option maxRecDepth 20000 in
set_option maxHeartbeats 8000000 in
theorem finds_walk (H8 : Awake8) (H22 : Strips22) (H41 : Sorts41) (w : World) (t : Tr) (av kv : Value) (ht : TrC w t av kv) (hok : Ok t) (hsm : ¬ wT t 200 3000 < 0 → Sml t ∧ cT t ≤ 900000) (i : Int) : Calls Try.prog 5 #[nv t.d av kv, iv i] w fun e w' => e = .returned (.bool true) ∧ Below w.heap.size w w' := by
  obtain ⟨a, _, ac, k, _, kc, rfl, rfl⟩ := trv_flat ht.v
  have hfl : ∀ {n m : Nat}, TrV w t (.slice a n ac) (.slice k m kc) → n = t.d.al.length ∧ m = t.k.length := fun h => by
    cases h
    exact ⟨rfl, rfl⟩
  obtain ⟨rfl, rfl⟩ := hfl ht.v
  clear hfl
  obtain ⟨V, hV⟩ : ∃ V, w.alloc (.cells #[iv t.d.id, iv t.d.kind, iv t.d.space, .string t.d.name, .string t.d.text, .slice a t.d.al.length ac, iv t.d.sf, iv t.d.st, iv t.d.ef, iv t.d.et, .slice k t.k.length kc] 27) = V := ⟨_, rfl⟩
  have hb : Below w.heap.size w V := by rw [← hV]; exact (Below.refl _ _).alloc (Nat.le_refl _) _
  have hx : Bx V w.heap.size #[iv t.d.id, iv t.d.kind, iv t.d.space, .string t.d.name, .string t.d.text, .slice a t.d.al.length ac, iv t.d.sf, iv t.d.st, iv t.d.ef, iv t.d.et, .slice k t.k.length kc] := by rw [← hV]; exact heap_alloc_new w _
  have HV : Hid (w.alloc (.cells #[iv t.d.id, iv t.d.kind, iv t.d.space, .string t.d.name, .string t.d.text, .slice a t.d.al.length ac, iv t.d.sf, iv t.d.st, iv t.d.ef, iv t.d.et, .slice k t.k.length kc] 27) = V ∧ Below w.heap.size w V) := ⟨hV, hb⟩
  have h7 := small_any (ht.old hb).v hok
  have H8' : Hid Awake8 := H8
  by_cases hs : wT t 200 3000 < 0
  · rw [if_pos hs] at h7
    clear hV hb ht H8 H22 H41 hsm
    go_enter Try.func5, Try.ntmps5
    go_wp2_with fail
    rw [HV.out.1]
    refine h7.mono ?_
    rintro e W1 ⟨rfl, b1⟩
    go_wp2_with fail
    refine (H8'.out _).mono ?_
    rintro e W2 ⟨rfl, b2⟩
    go_wp2_with fail
    go_ret
    exact ⟨rfl, (HV.out.2.trans (b1.mono HV.out.2.size)).trans (b2.mono (Nat.le_trans HV.out.2.size b1.size))⟩
  · rw [if_neg hs] at h7
    obtain ⟨hsm2, hcn⟩ := hsm hs
    have htV := ht.old hb
    obtain ⟨X, hX⟩ : ∃ X, fX t i = X := ⟨_, rfl⟩
    obtain ⟨B, hB⟩ : ∃ B, (fT t i).isSome = B := ⟨_, rfl⟩
    have HX : Hid (Ok X) := by rw [← hX]; exact fX_ok t i hok
    have H20 : Hid (∀ W, Below V.heap.size V W → Calls Try.prog 20 #[.agg #[iv t.d.id, iv t.d.kind, iv t.d.space, .string t.d.name, .string t.d.text, .slice a t.d.al.length ac, iv t.d.sf, iv t.d.st, iv t.d.ef, iv t.d.et, .slice k t.k.length kc], iv i] W (FndX X B W)) := fun W b => ((callsIn_wide (n := 0)).1 (find_in 0 (htV.old b) hsm2 hcn i)).mono fun e w' h => by
      rw [← hX, ← hB]
      exact fnd_of h.1 (find_is h.2)
    have H21 : Hid (∀ W, Below V.heap.size V W → Calls Try.prog 21 #[.agg #[iv t.d.id, iv t.d.kind, iv t.d.space, .string t.d.name, .string t.d.text, .slice a t.d.al.length ac, iv t.d.sf, iv t.d.st, iv t.d.ef, iv t.d.et, .slice k t.k.length kc], iv i] W (FndX X B W)) := fun W b => (rfind_any htV.v i hok W b).mono fun e w' h => by
      rw [← hX, ← hB]
      exact fnd_of h.2 (find_mv (b.trans (h.2.mono b.size)) h.1)
    have HT : Hid (TrC V t (.slice a t.d.al.length ac) (.slice k t.k.length kc) ∧ Sml t ∧ cT t ≤ 900000 ∧ Ok t ∧ Strips22 ∧ Sorts41) := ⟨htV, hsm2, hcn, hok, H22, H41⟩
    clear hV hb ht hs hsm hsm2 hcn htV hok hX hB H8 H22 H41
    go_enter Try.func5, Try.ntmps5
    go_wp2_with fail
    rw [HV.out.1]
    refine h7.mono ?_
    rintro e W1 ⟨rfl, b1⟩
    have hx1 := hx.old b1
    obtain ⟨b0, hb0⟩ : ∃ b0, w.heap.size = b0 := ⟨_, rfl⟩
    have hx2 : Bx W1 b0 #[iv t.d.id, iv t.d.kind, iv t.d.space, .string t.d.name, .string t.d.text, .slice a t.d.al.length ac, iv t.d.sf, iv t.d.st, iv t.d.ef, iv t.d.et, .slice k t.k.length kc] := by rw [← hb0]; exact hx1
    have HB1 : Hid (Below V.heap.size V W1 ∧ Bx W1 b0 #[iv t.d.id, iv t.d.kind, iv t.d.space, .string t.d.name, .string t.d.text, .slice a t.d.al.length ac, iv t.d.sf, iv t.d.st, iv t.d.ef, iv t.d.et, .slice k t.k.length kc] ∧ w.heap.size = b0) := ⟨b1, hx2, hb0⟩
    have h20 := H20.out W1 b1
    clear h7 b1 hx hx1 hb0
    rw [HB1.out.2.2]
    have x0 : W1.cell? ⟨b0, 0, none⟩ = some (iv t.d.id) := hx2.cell 0
    have x1 : W1.cell? ⟨b0, 1, none⟩ = some (iv t.d.kind) := hx2.cell 1
    have x2 : W1.cell? ⟨b0, 2, none⟩ = some (iv t.d.space) := hx2.cell 2
    have x3 : W1.cell? ⟨b0, 3, none⟩ = some (.string t.d.name) := hx2.cell 3
    have x4 : W1.cell? ⟨b0, 4, none⟩ = some (.string t.d.text) := hx2.cell 4
    have x5 : W1.cell? ⟨b0, 5, none⟩ = some (.slice a t.d.al.length ac) := hx2.cell 5
    have x6 : W1.cell? ⟨b0, 6, none⟩ = some (iv t.d.sf) := hx2.cell 6
    have x7 : W1.cell? ⟨b0, 7, none⟩ = some (iv t.d.st) := hx2.cell 7
    have x8 : W1.cell? ⟨b0, 8, none⟩ = some (iv t.d.ef) := hx2.cell 8
    have x9 : W1.cell? ⟨b0, 9, none⟩ = some (iv t.d.et) := hx2.cell 9
    have x10 : W1.cell? ⟨b0, 10, none⟩ = some (.slice k t.k.length kc) := hx2.cell 10
    clear hx2 H20
    go_wp2_with fail
    refine h20.mono ?_
    rintro e W2 ⟨a1, n1, c1, k1, m1, d1, rfl, hT2, b2⟩
    obtain ⟨W3, hW3⟩ : ∃ W3, W2.alloc (.cells #[iv X.d.id, iv X.d.kind, iv X.d.space, .string X.d.name, .string X.d.text, .slice a1 n1 c1, iv X.d.sf, iv X.d.st, iv X.d.ef, iv X.d.et, .slice k1 m1 d1] 27) = W3 := ⟨_, rfl⟩
    have HW3 : Hid (W2.alloc (.cells #[iv X.d.id, iv X.d.kind, iv X.d.space, .string X.d.name, .string X.d.text, .slice a1 n1 c1, iv X.d.sf, iv X.d.st, iv X.d.ef, iv X.d.et, .slice k1 m1 d1] 27) = W3) := hW3
    have p3 : Bx W3 W2.heap.size #[iv X.d.id, iv X.d.kind, iv X.d.space, .string X.d.name, .string X.d.text, .slice a1 n1 c1, iv X.d.sf, iv X.d.st, iv X.d.ef, iv X.d.et, .slice k1 m1 d1] := by rw [← hW3]; exact heap_alloc_new W2 _
    have b3 : Below W2.heap.size W2 W3 := by rw [← hW3]; exact (Below.refl _ _).alloc (Nat.le_refl _) _
    have b13 := b2.trans (b3.mono b2.size)
    have hx3 : Bx W3 b0 #[iv t.d.id, iv t.d.kind, iv t.d.space, .string t.d.name, .string t.d.text, .slice a t.d.al.length ac, iv t.d.sf, iv t.d.st, iv t.d.ef, iv t.d.et, .slice k t.k.length kc] := HB1.out.2.1.old b13
    have h21 := H21.out W3 (HB1.out.1.trans (b13.mono HB1.out.1.size))
    obtain ⟨b1, hb1⟩ : ∃ b1, W2.heap.size = b1 := ⟨_, rfl⟩
    have p3' : Bx W3 b1 #[iv X.d.id, iv X.d.kind, iv X.d.space, .string X.d.name, .string X.d.text, .slice a1 n1 c1, iv X.d.sf, iv X.d.st, iv X.d.ef, iv X.d.et, .slice k1 m1 d1] := by rw [← hb1]; exact p3
    have H3 : Hid (Below W1.heap.size W1 W3 ∧ Bx W3 b1 #[iv X.d.id, iv X.d.kind, iv X.d.space, .string X.d.name, .string X.d.text, .slice a1 n1 c1, iv X.d.sf, iv X.d.st, iv X.d.ef, iv X.d.et, .slice k1 m1 d1] ∧ TrV W3 X (.slice a1 n1 c1) (.slice k1 m1 d1) ∧ W2.heap.size = b1) := ⟨b13, p3', hT2.mv b3.size (fun k hk => b3.block k hk), hb1⟩
    clear h20 hT2 b2 hW3 p3 p3' b3 b13 hb1 H21 x0 x1 x2 x3 x4 x5 x6 x7 x8 x9 x10
    go_upto_region 4 with fail
    rw [HW3.out, H3.out.2.2.2]
    clear HW3
    have x0 : W3.cell? ⟨b0, 0, none⟩ = some (iv t.d.id) := hx3.cell 0
    have x1 : W3.cell? ⟨b0, 1, none⟩ = some (iv t.d.kind) := hx3.cell 1
    have x2 : W3.cell? ⟨b0, 2, none⟩ = some (iv t.d.space) := hx3.cell 2
    have x3 : W3.cell? ⟨b0, 3, none⟩ = some (.string t.d.name) := hx3.cell 3
    have x4 : W3.cell? ⟨b0, 4, none⟩ = some (.string t.d.text) := hx3.cell 4
    have x5 : W3.cell? ⟨b0, 5, none⟩ = some (.slice a t.d.al.length ac) := hx3.cell 5
    have x6 : W3.cell? ⟨b0, 6, none⟩ = some (iv t.d.sf) := hx3.cell 6
    have x7 : W3.cell? ⟨b0, 7, none⟩ = some (iv t.d.st) := hx3.cell 7
    have x8 : W3.cell? ⟨b0, 8, none⟩ = some (iv t.d.ef) := hx3.cell 8
    have x9 : W3.cell? ⟨b0, 9, none⟩ = some (iv t.d.et) := hx3.cell 9
    have x10 : W3.cell? ⟨b0, 10, none⟩ = some (.slice k t.k.length kc) := hx3.cell 10
    clear hx3
    go_wp2_with fail
    refine h21.mono ?_
    rintro e W4 ⟨a2, n2, c2, k2, m2, d2, rfl, hT4, b4⟩
    obtain ⟨W5, hW5⟩ : ∃ W5, W4.alloc (.cells #[iv X.d.id, iv X.d.kind, iv X.d.space, .string X.d.name, .string X.d.text, .slice a2 n2 c2, iv X.d.sf, iv X.d.st, iv X.d.ef, iv X.d.et, .slice k2 m2 d2] 27) = W5 := ⟨_, rfl⟩
    have HW5 : Hid (W4.alloc (.cells #[iv X.d.id, iv X.d.kind, iv X.d.space, .string X.d.name, .string X.d.text, .slice a2 n2 c2, iv X.d.sf, iv X.d.st, iv X.d.ef, iv X.d.et, .slice k2 m2 d2] 27) = W5) := hW5
    have p5 : Bx W5 W4.heap.size #[iv X.d.id, iv X.d.kind, iv X.d.space, .string X.d.name, .string X.d.text, .slice a2 n2 c2, iv X.d.sf, iv X.d.st, iv X.d.ef, iv X.d.et, .slice k2 m2 d2] := by rw [← hW5]; exact heap_alloc_new W4 _
    have b5 : Below W4.heap.size W4 W5 := by rw [← hW5]; exact (Below.refl _ _).alloc (Nat.le_refl _) _
    have b35 := b4.trans (b5.mono b4.size)
    obtain ⟨b2, hb2⟩ : ∃ b2, W4.heap.size = b2 := ⟨_, rfl⟩
    have p5' : Bx W5 b2 #[iv X.d.id, iv X.d.kind, iv X.d.space, .string X.d.name, .string X.d.text, .slice a2 n2 c2, iv X.d.sf, iv X.d.st, iv X.d.ef, iv X.d.et, .slice k2 m2 d2] := by rw [← hb2]; exact p5
    have o5 : Bx W5 b1 #[iv X.d.id, iv X.d.kind, iv X.d.space, .string X.d.name, .string X.d.text, .slice a1 n1 c1, iv X.d.sf, iv X.d.st, iv X.d.ef, iv X.d.et, .slice k1 m1 d1] := H3.out.2.1.old b35
    have b15 := H3.out.1.trans (b35.mono H3.out.1.size)
    have z5 : Bx W5 b0 #[iv t.d.id, iv t.d.kind, iv t.d.space, .string t.d.name, .string t.d.text, .slice a t.d.al.length ac, iv t.d.sf, iv t.d.st, iv t.d.ef, iv t.d.et, .slice k t.k.length kc] := HB1.out.2.1.old b15
    have bV5 := HB1.out.1.trans (b15.mono HB1.out.1.size)
    have bw5 : Below w.heap.size w W5 := HV.out.2.trans (bV5.mono HV.out.2.size)
    have HB2 : Hid (W4.heap.size = b2) := hb2
    have K5 : (W5.cell? ⟨b0, 0, none⟩ = some (iv t.d.id) ∧ W5.cell? ⟨b0, 1, none⟩ = some (iv t.d.kind) ∧ W5.cell? ⟨b0, 2, none⟩ = some (iv t.d.space) ∧ W5.cell? ⟨b0, 3, none⟩ = some (.string t.d.name) ∧ W5.cell? ⟨b0, 4, none⟩ = some (.string t.d.text) ∧ W5.cell? ⟨b0, 5, none⟩ = some (.slice a t.d.al.length ac) ∧ W5.cell? ⟨b0, 6, none⟩ = some (iv t.d.sf) ∧ W5.cell? ⟨b0, 7, none⟩ = some (iv t.d.st) ∧ W5.cell? ⟨b0, 8, none⟩ = some (iv t.d.ef) ∧ W5.cell? ⟨b0, 9, none⟩ = some (iv t.d.et) ∧ W5.cell? ⟨b0, 10, none⟩ = some (.slice k t.k.length kc)) ∧ (W5.cell? ⟨b1, 0, none⟩ = some (iv X.d.id) ∧ W5.cell? ⟨b1, 1, none⟩ = some (iv X.d.kind) ∧ W5.cell? ⟨b1, 2, none⟩ = some (iv X.d.space) ∧ W5.cell? ⟨b1, 3, none⟩ = some (.string X.d.name) ∧ W5.cell? ⟨b1, 4, none⟩ = some (.string X.d.text) ∧ W5.cell? ⟨b1, 5, none⟩ = some (.slice a1 n1 c1) ∧ W5.cell? ⟨b1, 6, none⟩ = some (iv X.d.sf) ∧ W5.cell? ⟨b1, 7, none⟩ = some (iv X.d.st) ∧ W5.cell? ⟨b1, 8, none⟩ = some (iv X.d.ef) ∧ W5.cell? ⟨b1, 9, none⟩ = some (iv X.d.et) ∧ W5.cell? ⟨b1, 10, none⟩ = some (.slice k1 m1 d1)) ∧ (W5.cell? ⟨b2, 0, none⟩ = some (iv X.d.id) ∧ W5.cell? ⟨b2, 1, none⟩ = some (iv X.d.kind) ∧ W5.cell? ⟨b2, 2, none⟩ = some (iv X.d.space) ∧ W5.cell? ⟨b2, 3, none⟩ = some (.string X.d.name) ∧ W5.cell? ⟨b2, 4, none⟩ = some (.string X.d.text) ∧ W5.cell? ⟨b2, 5, none⟩ = some (.slice a2 n2 c2) ∧ W5.cell? ⟨b2, 6, none⟩ = some (iv X.d.sf) ∧ W5.cell? ⟨b2, 7, none⟩ = some (iv X.d.st) ∧ W5.cell? ⟨b2, 8, none⟩ = some (iv X.d.ef) ∧ W5.cell? ⟨b2, 9, none⟩ = some (iv X.d.et) ∧ W5.cell? ⟨b2, 10, none⟩ = some (.slice k2 m2 d2)) := ⟨⟨z5.cell 0, z5.cell 1, z5.cell 2, z5.cell 3, z5.cell 4, z5.cell 5, z5.cell 6, z5.cell 7, z5.cell 8, z5.cell 9, z5.cell 10⟩, ⟨o5.cell 0, o5.cell 1, o5.cell 2, o5.cell 3, o5.cell 4, o5.cell 5, o5.cell 6, o5.cell 7, o5.cell 8, o5.cell 9, o5.cell 10⟩, p5'.cell 0, p5'.cell 1, p5'.cell 2, p5'.cell 3, p5'.cell 4, p5'.cell 5, p5'.cell 6, p5'.cell 7, p5'.cell 8, p5'.cell 9, p5'.cell 10⟩
    have mk_s : ∀ {w' : World}, Below W5.heap.size W5 w' → (w'.cell? ⟨b0, 0, none⟩ = some (iv t.d.id) ∧ w'.cell? ⟨b0, 1, none⟩ = some (iv t.d.kind) ∧ w'.cell? ⟨b0, 2, none⟩ = some (iv t.d.space) ∧ w'.cell? ⟨b0, 3, none⟩ = some (.string t.d.name) ∧ w'.cell? ⟨b0, 4, none⟩ = some (.string t.d.text) ∧ w'.cell? ⟨b0, 5, none⟩ = some (.slice a t.d.al.length ac) ∧ w'.cell? ⟨b0, 6, none⟩ = some (iv t.d.sf) ∧ w'.cell? ⟨b0, 7, none⟩ = some (iv t.d.st) ∧ w'.cell? ⟨b0, 8, none⟩ = some (iv t.d.ef) ∧ w'.cell? ⟨b0, 9, none⟩ = some (iv t.d.et) ∧ w'.cell? ⟨b0, 10, none⟩ = some (.slice k t.k.length kc)) ∧ (w'.cell? ⟨b1, 0, none⟩ = some (iv X.d.id) ∧ w'.cell? ⟨b1, 1, none⟩ = some (iv X.d.kind) ∧ w'.cell? ⟨b1, 2, none⟩ = some (iv X.d.space) ∧ w'.cell? ⟨b1, 3, none⟩ = some (.string X.d.name) ∧ w'.cell? ⟨b1, 4, none⟩ = some (.string X.d.text) ∧ w'.cell? ⟨b1, 5, none⟩ = some (.slice a1 n1 c1) ∧ w'.cell? ⟨b1, 6, none⟩ = some (iv X.d.sf) ∧ w'.cell? ⟨b1, 7, none⟩ = some (iv X.d.st) ∧ w'.cell? ⟨b1, 8, none⟩ = some (iv X.d.ef) ∧ w'.cell? ⟨b1, 9, none⟩ = some (iv X.d.et) ∧ w'.cell? ⟨b1, 10, none⟩ = some (.slice k1 m1 d1)) ∧ (w'.cell? ⟨b2, 0, none⟩ = some (iv X.d.id) ∧ w'.cell? ⟨b2, 1, none⟩ = some (iv X.d.kind) ∧ w'.cell? ⟨b2, 2, none⟩ = some (iv X.d.space) ∧ w'.cell? ⟨b2, 3, none⟩ = some (.string X.d.name) ∧ w'.cell? ⟨b2, 4, none⟩ = some (.string X.d.text) ∧ w'.cell? ⟨b2, 5, none⟩ = some (.slice a2 n2 c2) ∧ w'.cell? ⟨b2, 6, none⟩ = some (iv X.d.sf) ∧ w'.cell? ⟨b2, 7, none⟩ = some (iv X.d.st) ∧ w'.cell? ⟨b2, 8, none⟩ = some (iv X.d.ef) ∧ w'.cell? ⟨b2, 9, none⟩ = some (iv X.d.et) ∧ w'.cell? ⟨b2, 10, none⟩ = some (.slice k2 m2 d2)) := fun h => ⟨⟨cell_below h K5.1.1, cell_below h K5.1.2.1, cell_below h K5.1.2.2.1, cell_below h K5.1.2.2.2.1, cell_below h K5.1.2.2.2.2.1, cell_below h K5.1.2.2.2.2.2.1, cell_below h K5.1.2.2.2.2.2.2.1, cell_below h K5.1.2.2.2.2.2.2.2.1, cell_below h K5.1.2.2.2.2.2.2.2.2.1, cell_below h K5.1.2.2.2.2.2.2.2.2.2.1, cell_below h K5.1.2.2.2.2.2.2.2.2.2.2⟩, ⟨cell_below h K5.2.1.1, cell_below h K5.2.1.2.1, cell_below h K5.2.1.2.2.1, cell_below h K5.2.1.2.2.2.1, cell_below h K5.2.1.2.2.2.2.1, cell_below h K5.2.1.2.2.2.2.2.1, cell_below h K5.2.1.2.2.2.2.2.2.1, cell_below h K5.2.1.2.2.2.2.2.2.2.1, cell_below h K5.2.1.2.2.2.2.2.2.2.2.1, cell_below h K5.2.1.2.2.2.2.2.2.2.2.2.1, cell_below h K5.2.1.2.2.2.2.2.2.2.2.2.2⟩, cell_below h K5.2.2.1, cell_below h K5.2.2.2.1, cell_below h K5.2.2.2.2.1, cell_below h K5.2.2.2.2.2.1, cell_below h K5.2.2.2.2.2.2.1, cell_below h K5.2.2.2.2.2.2.2.1, cell_below h K5.2.2.2.2.2.2.2.2.1, cell_below h K5.2.2.2.2.2.2.2.2.2.1, cell_below h K5.2.2.2.2.2.2.2.2.2.2.1, cell_below h K5.2.2.2.2.2.2.2.2.2.2.2.1, cell_below h K5.2.2.2.2.2.2.2.2.2.2.2.2⟩
    have hTX1 : TrV W5 X (.slice a1 n1 c1) (.slice k1 m1 d1) := H3.out.2.2.1.mv b35.size (fun k hk => b35.block k hk)
    have hTX2 : TrV W5 X (.slice a2 n2 c2) (.slice k2 m2 d2) := hT4.mv b5.size (fun k hk => b5.block k hk)
    have hT5 : TrC W5 t (.slice a t.d.al.length ac) (.slice k t.k.length kc) := HT.out.1.old bV5
    have bd : Below W5.heap.size W5 W5.drew := (Below.refl _ _).drew
    have F8 : ∀ W, Below W5.heap.size W5 W → Hid (Calls Try.prog 8 #[] W fun e w' => e = .returned (.bool true) ∧ Below W5.heap.size W5 w' ∧ Hid (Below w.heap.size w w')) := fun W b => (H8'.out W).mono (by
      rintro e w' ⟨rfl, b'⟩
      have q := b.trans (b'.mono b.size)
      exact ⟨rfl, q, bw5.trans (q.mono bw5.size)⟩)
    have F10 : ∀ W, Below W5.heap.size W5 W → ∀ {a a' k k' : Option Addr} {n n' c c' m m' d d' : Nat}, TrV W (sT t) (.slice a n c) (.slice k m d) → TrV W (sT t) (.slice a' n' c') (.slice k' m' d') → Hid (Calls Try.prog 10 #[.agg #[iv 0, iv t.d.kind, iv t.d.space, .string t.d.name, .string t.d.text, .slice a n c, iv (-1), iv (-1), iv (-1), iv (-1), .slice k m d], .agg #[iv 0, iv t.d.kind, iv t.d.space, .string t.d.name, .string t.d.text, .slice a' n' c', iv (-1), iv (-1), iv (-1), iv (-1), .slice k' m' d']] W fun e w' => e = .returned (.bool true) ∧ Below W5.heap.size W5 w' ∧ Hid (Calls Try.prog 8 #[] w' fun e w' => e = .returned (.bool true) ∧ Below W5.heap.size W5 w' ∧ Hid (Below w.heap.size w w'))) := fun W b _ _ _ _ _ _ _ _ _ _ _ _ h h' => (st_equal HT.out.2.2.2.1 h h' (Below.refl _ _)).mono (by
      rintro e w' ⟨rfl, b'⟩
      have q := b.trans (b'.mono b.size)
      exact ⟨rfl, q, F8 w' q⟩)
    have G22 : ∀ W, Below W5.heap.size W5 W → Calls Try.prog 22 #[.agg #[iv t.d.id, iv t.d.kind, iv t.d.space, .string t.d.name, .string t.d.text, .slice a t.d.al.length ac, iv t.d.sf, iv t.d.st, iv t.d.ef, iv t.d.et, .slice k t.k.length kc]] W fun e w' => ∃ u n c v m d, e = .returned (.agg #[iv 0, iv t.d.kind, iv t.d.space, .string t.d.name, .string t.d.text, .slice u n c, iv (-1), iv (-1), iv (-1), iv (-1), .slice v m d]) ∧ Below W.heap.size W w' ∧ TrV w' (sT t) (.slice u n c) (.slice v m d) := fun W b => (HT.out.2.2.2.2.1 W t _ _ (hT5.old b) HT.out.2.1 HT.out.2.2.1).mono (by
      rintro e w' ⟨b', av', kv', rfl, h⟩
      obtain ⟨u, n, c, v, m, d, rfl, rfl⟩ := trv_flat h.v
      exact ⟨u, n, c, v, m, d, rfl, b', h.v⟩)
    have G23 : ∀ W, Below W5.heap.size W5 W → Calls Try.prog 23 #[.agg #[iv t.d.id, iv t.d.kind, iv t.d.space, .string t.d.name, .string t.d.text, .slice a t.d.al.length ac, iv t.d.sf, iv t.d.st, iv t.d.ef, iv t.d.et, .slice k t.k.length kc]] W fun e w' => ∃ u n c v m d, e = .returned (.agg #[iv 0, iv t.d.kind, iv t.d.space, .string t.d.name, .string t.d.text, .slice u n c, iv (-1), iv (-1), iv (-1), iv (-1), .slice v m d]) ∧ Below W.heap.size W w' ∧ TrV w' (sT t) (.slice u n c) (.slice v m d) := fun W b => (rstrip_any HT.out.2.2.2.2.2 hT5.v HT.out.2.1 W b).mono (by
      rintro e w' ⟨u, c, v, d, rfl, b', h⟩
      exact ⟨u, _, c, v, _, d, rfl, b', h.trv⟩)
    have KO : Hid (Calls Try.prog 10 #[.agg #[iv X.d.id, iv X.d.kind, iv X.d.space, .string X.d.name, .string X.d.text, .slice a1 n1 c1, iv X.d.sf, iv X.d.st, iv X.d.ef, iv X.d.et, .slice k1 m1 d1], .agg #[iv X.d.id, iv X.d.kind, iv X.d.space, .string X.d.name, .string X.d.text, .slice a2 n2 c2, iv X.d.sf, iv X.d.st, iv X.d.ef, iv X.d.et, .slice k2 m2 d2]] W5.drew fun e w1 => e = .returned (.bool true) ∧ Below W5.heap.size W5 w1 ∧
        Hid (Calls Try.prog 22 #[.agg #[iv t.d.id, iv t.d.kind, iv t.d.space, .string t.d.name, .string t.d.text, .slice a t.d.al.length ac, iv t.d.sf, iv t.d.st, iv t.d.ef, iv t.d.et, .slice k t.k.length kc]] w1 fun e w2 => ∃ u n c v m d, e = .returned (.agg #[iv 0, iv t.d.kind, iv t.d.space, .string t.d.name, .string t.d.text, .slice u n c, iv (-1), iv (-1), iv (-1), iv (-1), .slice v m d]) ∧ Below W5.heap.size W5 w2 ∧ Hid (Calls Try.prog 23 #[.agg #[iv t.d.id, iv t.d.kind, iv t.d.space, .string t.d.name, .string t.d.text, .slice a t.d.al.length ac, iv t.d.sf, iv t.d.st, iv t.d.ef, iv t.d.et, .slice k t.k.length kc]] w2 fun e w3 => ∃ u' n' c' v' m' d', e = .returned (.agg #[iv 0, iv t.d.kind, iv t.d.space, .string t.d.name, .string t.d.text, .slice u' n' c', iv (-1), iv (-1), iv (-1), iv (-1), .slice v' m' d']) ∧ Below W5.heap.size W5 w3 ∧ Hid (Calls Try.prog 10 #[.agg #[iv 0, iv t.d.kind, iv t.d.space, .string t.d.name, .string t.d.text, .slice u n c, iv (-1), iv (-1), iv (-1), iv (-1), .slice v m d], .agg #[iv 0, iv t.d.kind, iv t.d.space, .string t.d.name, .string t.d.text, .slice u' n' c', iv (-1), iv (-1), iv (-1), iv (-1), .slice v' m' d']] w3 fun e w' => e = .returned (.bool true) ∧ Below W5.heap.size W5 w' ∧ Hid (Calls Try.prog 8 #[] w' fun e w' => e = .returned (.bool true) ∧ Below W5.heap.size W5 w' ∧ Hid (Below w.heap.size w w'))))) ∧
        Hid (Calls Try.prog 23 #[.agg #[iv t.d.id, iv t.d.kind, iv t.d.space, .string t.d.name, .string t.d.text, .slice a t.d.al.length ac, iv t.d.sf, iv t.d.st, iv t.d.ef, iv t.d.et, .slice k t.k.length kc]] w1 fun e w2 => ∃ u n c v m d, e = .returned (.agg #[iv 0, iv t.d.kind, iv t.d.space, .string t.d.name, .string t.d.text, .slice u n c, iv (-1), iv (-1), iv (-1), iv (-1), .slice v m d]) ∧ Below W5.heap.size W5 w2 ∧ Hid (Calls Try.prog 22 #[.agg #[iv t.d.id, iv t.d.kind, iv t.d.space, .string t.d.name, .string t.d.text, .slice a t.d.al.length ac, iv t.d.sf, iv t.d.st, iv t.d.ef, iv t.d.et, .slice k t.k.length kc]] w2 fun e w3 => ∃ u' n' c' v' m' d', e = .returned (.agg #[iv 0, iv t.d.kind, iv t.d.space, .string t.d.name, .string t.d.text, .slice u' n' c', iv (-1), iv (-1), iv (-1), iv (-1), .slice v' m' d']) ∧ Below W5.heap.size W5 w3 ∧ Hid (Calls Try.prog 10 #[.agg #[iv 0, iv t.d.kind, iv t.d.space, .string t.d.name, .string t.d.text, .slice u' n' c', iv (-1), iv (-1), iv (-1), iv (-1), .slice v' m' d'], .agg #[iv 0, iv t.d.kind, iv t.d.space, .string t.d.name, .string t.d.text, .slice u n c, iv (-1), iv (-1), iv (-1), iv (-1), .slice v m d]] w3 fun e w' => e = .returned (.bool true) ∧ Below W5.heap.size W5 w' ∧ Hid (Calls Try.prog 8 #[] w' fun e w' => e = .returned (.bool true) ∧ Below W5.heap.size W5 w' ∧ Hid (Below w.heap.size w w')))))) := by
      have hq := requal_any hTX1 _ _ _ hTX2 HX.out W5.drew bd
      rw [eT_same] at hq
      refine hq.mono ?_
      rintro e w1 ⟨rfl, r1⟩
      have q1 := bd.trans (r1.mono bd.size)
      refine ⟨rfl, q1, (G22 w1 q1).mono ?_, (G23 w1 q1).mono ?_⟩
      · rintro e w2 ⟨u, n, c, v, m, d, rfl, r2, h2⟩
        have q2 := q1.trans (r2.mono q1.size)
        refine ⟨u, n, c, v, m, d, rfl, q2, (G23 w2 q2).mono ?_⟩
        rintro e w3 ⟨u', n', c', v', m', d', rfl, r3, h3⟩
        have q3 := q2.trans (r3.mono q2.size)
        exact ⟨u', n', c', v', m', d', rfl, q3, F10 w3 q3 (h2.mv r3.size (fun k hk => r3.block k hk)) h3⟩
      · rintro e w2 ⟨u, n, c, v, m, d, rfl, r2, h2⟩
        have q2 := q1.trans (r2.mono q1.size)
        refine ⟨u, n, c, v, m, d, rfl, q2, (G22 w2 q2).mono ?_⟩
        rintro e w3 ⟨u', n', c', v', m', d', rfl, r3, h3⟩
        have q3 := q2.trans (r3.mono q2.size)
        exact ⟨u', n', c', v', m', d', rfl, q3, F10 w3 q3 h3 (h2.mv r3.size (fun k hk => r3.block k hk))⟩
    clear G22 G23 F8 F10 hTX1 hTX2 hT5 HT HX H3 h21 hT4 b4 hW5 p5 b5 b35 hb2 p5' o5 b15 z5 bV5 bw5 x0 x1 x2 x3 x4 x5 x6 x7 x8 x9 x10
    go_upto_region 5 with fail
    rw [HW5.out, HB2.out]
    clear HW5 HB2
    go_region_held3 (fun w' => (w'.cell? ⟨b0, 0, none⟩ = some (iv t.d.id) ∧ w'.cell? ⟨b0, 1, none⟩ = some (iv t.d.kind) ∧ w'.cell? ⟨b0, 2, none⟩ = some (iv t.d.space) ∧ w'.cell? ⟨b0, 3, none⟩ = some (.string t.d.name) ∧ w'.cell? ⟨b0, 4, none⟩ = some (.string t.d.text) ∧ w'.cell? ⟨b0, 5, none⟩ = some (.slice a t.d.al.length ac) ∧ w'.cell? ⟨b0, 6, none⟩ = some (iv t.d.sf) ∧ w'.cell? ⟨b0, 7, none⟩ = some (iv t.d.st) ∧ w'.cell? ⟨b0, 8, none⟩ = some (iv t.d.ef) ∧ w'.cell? ⟨b0, 9, none⟩ = some (iv t.d.et) ∧ w'.cell? ⟨b0, 10, none⟩ = some (.slice k t.k.length kc)) ∧ (w'.cell? ⟨b1, 0, none⟩ = some (iv X.d.id) ∧ w'.cell? ⟨b1, 1, none⟩ = some (iv X.d.kind) ∧ w'.cell? ⟨b1, 2, none⟩ = some (iv X.d.space) ∧ w'.cell? ⟨b1, 3, none⟩ = some (.string X.d.name) ∧ w'.cell? ⟨b1, 4, none⟩ = some (.string X.d.text) ∧ w'.cell? ⟨b1, 5, none⟩ = some (.slice a1 n1 c1) ∧ w'.cell? ⟨b1, 6, none⟩ = some (iv X.d.sf) ∧ w'.cell? ⟨b1, 7, none⟩ = some (iv X.d.st) ∧ w'.cell? ⟨b1, 8, none⟩ = some (iv X.d.ef) ∧ w'.cell? ⟨b1, 9, none⟩ = some (iv X.d.et) ∧ w'.cell? ⟨b1, 10, none⟩ = some (.slice k1 m1 d1)) ∧ (w'.cell? ⟨b2, 0, none⟩ = some (iv X.d.id) ∧ w'.cell? ⟨b2, 1, none⟩ = some (iv X.d.kind) ∧ w'.cell? ⟨b2, 2, none⟩ = some (iv X.d.space) ∧ w'.cell? ⟨b2, 3, none⟩ = some (.string X.d.name) ∧ w'.cell? ⟨b2, 4, none⟩ = some (.string X.d.text) ∧ w'.cell? ⟨b2, 5, none⟩ = some (.slice a2 n2 c2) ∧ w'.cell? ⟨b2, 6, none⟩ = some (iv X.d.sf) ∧ w'.cell? ⟨b2, 7, none⟩ = some (iv X.d.st) ∧ w'.cell? ⟨b2, 8, none⟩ = some (iv X.d.ef) ∧ w'.cell? ⟨b2, 9, none⟩ = some (iv X.d.et) ∧ w'.cell? ⟨b2, 10, none⟩ = some (.slice k2 m2 d2))) (first | with_reducible assumption | with_reducible exact mk_s (by assumption)) (first
      | (go_at_call 10; with_reducible refine Calls.mono KO.out ?_; rintro e w1 ⟨rfl, r1, HA, HB⟩)
      | (go_at_call 22; with_reducible refine Calls.mono HA.out ?_; rintro e w2 ⟨u, n, c, v, m, d, rfl, r2, HC⟩)
      | (go_at_call 23; with_reducible refine Calls.mono HB.out ?_; rintro e w2 ⟨u, n, c, v, m, d, rfl, r2, HC⟩)
      | (go_at_call 23; with_reducible refine Calls.mono HC.out ?_; rintro e w3 ⟨u', n', c', v', m', d', rfl, r3, HD⟩)
      | (go_at_call 22; with_reducible refine Calls.mono HC.out ?_; rintro e w3 ⟨u', n', c', v', m', d', rfl, r3, HD⟩)
      | (go_at_call 10; with_reducible refine Calls.mono HD.out ?_; rintro e w4 ⟨rfl, r4, HE⟩)
      | (go_at_call 8; with_reducible refine Calls.mono HE.out ?_; rintro e w5 ⟨rfl, r5, HF⟩))
    all_goals
      go_wp2_with fail
      go_ret
      exact ⟨rfl, HF.out⟩
end Go.Proofs.Ytdpibnmbgjhohaa
