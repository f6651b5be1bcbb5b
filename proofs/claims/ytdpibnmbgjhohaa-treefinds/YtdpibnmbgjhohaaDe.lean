/- awake. -/
import Derived.Test.YtdpibnmbgjhohaaDd
namespace Go.Proofs.Ytdpibnmbgjhohaa
open Go.RowKit

def kd0 : Nd := ⟨1, 2, 0, ⟨#[]⟩, ⟨#[97]⟩, .slice none 0 0, [], 0, 0, 0, 0⟩
def rd0 : Nd := ⟨0, 0, 0, ⟨#[]⟩, ⟨#[]⟩, .slice none 0 0, [], 0, 0, 0, 0⟩
def kT0 : Tr := .mk kd0 []
def rT0 : Tr := .mk rd0 [kT0]
theorem sml_k : Sml kT0 := .mk (by simp [kd0]) (by simp) (fun t h => by simp at h)
theorem sml_r : Sml rT0 := .mk (by simp [rd0]) (by simp) (fun t h => by simp at h; subst h; exact sml_k)
theorem trc_k (w : World) : TrC w kT0 (.slice none 0 0) (.slice none 0 0) :=
  .mk (kb := 0) (ko := 0) (avs := fun _ => undef) (kvs := fun _ => undef) (fun i x h => by simp [kd0] at h) (fun h => absurd rfl h) (fun j t hj => by simp at hj) (fun j t hj => by simp at hj) ⟨Nat.le_refl _, by simp [maxLen]⟩
theorem trc_r {w : World} {b : Nat} (h : w.heap[b]? = some (na kd0 (.slice none 0 0) (.slice none 0 0))) : TrC w rT0 (.slice none 0 0) (.slice (some ⟨b, 0, none⟩) 1 1) :=
  .mk (kb := b) (ko := 0) (avs := fun _ => .slice none 0 0) (kvs := fun _ => .slice none 0 0) (fun i x h => by simp [rd0] at h) (fun _ => rfl) (fun j t hj => by
    cases j with
    | zero => simp at hj; subst hj; exact ⟨(Array.getElem?_eq_some_iff.1 h).1, by rw [Nat.zero_mul]; exact na_cells h⟩
    | succ j => simp at hj) (fun j t hj => by
    cases j with
    | zero => simp at hj; subst hj; exact trc_k w
    | succ j => simp at hj) ⟨Nat.le_refl _, by simp [maxLen]⟩
theorem num_r : numP (iT rT0) = true := by
  rw [numP_iff (S := [0, 1]) (L := iT rT0) (List.Perm.refl _) (by simp) (by decide)]
  intro j hj x hx
  match j, hx with
  | 0, hx => simp at hx; subst hx; exact ⟨by omega, fun y h => absurd h (Nat.lt_irrefl _)⟩
  | 1, hx => simp at hx; subst hx; exact ⟨by omega, fun y _ hy => by simp at hy; omega⟩
  | j + 2, hx => simp at hx
theorem num_k : numP (iT kT0) = true := by
  rw [numP_iff (S := [1]) (L := iT kT0) (List.Perm.refl _) (by simp) (by decide)]
  intro j hj x hx
  match j, hx with
  | 0, hx => simp at hx; subst hx; exact ⟨by omega, fun y h => absurd h (Nat.lt_irrefl _)⟩
  | j + 1, hx => simp at hx
theorem chk_r : chkP rT0 = 0 := by
  rw [chkP, if_pos num_r]
  rfl
theorem chk_k : chkP kT0 = 3 := by
  rw [chkP, if_pos num_k]
  rfl
theorem find_r : fT rT0 1 = some kT0 := rfl
theorem dep_r : dT rT0 = 2 := rfl
theorem cnt_r : cT rT0 = 2 := rfl
theorem eq_rr : eT rT0 rT0 = true := by
  simp [rT0, kT0, rd0, kd0, eT, eL, alk, eqA, Tr.d, Tr.k]
theorem eq_rk : eT rT0 kT0 = false := by
  simp [rT0, kT0, rd0, kd0, eT, Tr.d, Tr.k]
set_option maxRecDepth 20000 in
set_option maxHeartbeats 4000000 in
theorem awake_any (w : World) : Calls Try.prog 8 #[] w fun e w' => e = .returned (.bool true) ∧ Below w.heap.size w w' := by
  obtain ⟨V1, hV1⟩ : ∃ V, (w.alloc (.cells #[iv 1, iv 2, iv 0, .string { data := #[] }, .string { data := #[97] }, .slice none 0 0, iv 0, iv 0, iv 0, iv 0, .slice none 0 0] 27)).alloc (.cells #[iv 0, iv 0, iv 0, .string { data := #[] }, .string { data := #[] }, .slice none 0 0, iv 0, iv 0, iv 0, iv 0, .slice (some ⟨w.heap.size, 0, none⟩) 1 1] 27) = V := ⟨_, rfl⟩
  have hq := als_spec w [.cells #[iv 1, iv 2, iv 0, .string { data := #[] }, .string { data := #[97] }, .slice none 0 0, iv 0, iv 0, iv 0, iv 0, .slice none 0 0] 27, .cells #[iv 0, iv 0, iv 0, .string { data := #[] }, .string { data := #[] }, .slice none 0 0, iv 0, iv 0, iv 0, iv 0, .slice (some ⟨w.heap.size, 0, none⟩) 1 1] 27]
  simp only [als, List.length_cons, List.length_nil] at hq
  rw [hV1] at hq
  obtain ⟨b1, s1, h1⟩ := hq
  have p0 : V1.heap[w.heap.size]? = some (.cells #[iv 1, iv 2, iv 0, .string { data := #[] }, .string { data := #[97] }, .slice none 0 0, iv 0, iv 0, iv 0, iv 0, .slice none 0 0] 27 (0, 0)) := h1 0 _ rfl
  have p1 : V1.heap[w.heap.size + 1]? = some (.cells #[iv 0, iv 0, iv 0, .string { data := #[] }, .string { data := #[] }, .slice none 0 0, iv 0, iv 0, iv 0, iv 0, .slice (some ⟨w.heap.size, 0, none⟩) 1 1] 27 (0, 0)) := h1 1 _ rfl
  have ht1 : TrC V1 rT0 (.slice none 0 0) (.slice (some ⟨w.heap.size, 0, none⟩) 1 1) := trc_r p0
  have hf := (callsIn_wide (n := 0)).1 (find_in 0 ht1 sml_r (by rw [cnt_r]; omega) 1)
  have HV : Hid ((w.alloc (.cells #[iv 1, iv 2, iv 0, .string { data := #[] }, .string { data := #[97] }, .slice none 0 0, iv 0, iv 0, iv 0, iv 0, .slice none 0 0] 27)).alloc (.cells #[iv 0, iv 0, iv 0, .string { data := #[] }, .string { data := #[] }, .slice none 0 0, iv 0, iv 0, iv 0, iv 0, .slice (some ⟨w.heap.size, 0, none⟩) 1 1] 27) = V1) := hV1
  clear hV1 h1
  go_enter Try.func8, Try.ntmps8
  go_wp2_with fail
  rw [HV.out]
  refine hf.mono ?_
  rintro e W1 ⟨b2, hF⟩
  rw [find_r] at hF
  obtain ⟨av, kv, hx1, rfl⟩ := hF
  obtain ⟨xa, xc, xk, xd, rfl, rfl, _⟩ := hx1.flat
  obtain ⟨V2, hV2⟩ : ∃ V, W1.alloc (na kT0.d (.slice xa kT0.d.al.length xc) (.slice xk kT0.k.length xd)) = V := ⟨_, rfl⟩
  have b3 : Below W1.heap.size W1 V2 := by rw [← hV2]; exact (Below.refl _ _).alloc (Nat.le_refl _) _
  have q0 : Bx V2 W1.heap.size #[iv 1, iv 2, iv 0, .string { data := #[] }, .string { data := #[97] }, .slice xa 0 xc, iv 0, iv 0, iv 0, iv 0, .slice xk 0 xd] := by rw [← hV2]; exact heap_alloc_new W1 _
  have b4 : Below w.heap.size w V2 := (b1.trans (b2.mono b1.size)).trans (b3.mono (Nat.le_trans b1.size b2.size))
  have hr : Bx V2 (w.heap.size + 1) #[iv 0, iv 0, iv 0, .string { data := #[] }, .string { data := #[] }, .slice none 0 0, iv 0, iv 0, iv 0, iv 0, .slice (some ⟨w.heap.size, 0, none⟩) 1 1] := (b3.block _ (by have := b2.size; omega)).trans ((b2.block _ (by omega)).trans p1)
  have hx : Bx V2 W1.heap.size #[iv 1, iv 2, iv 0, .string { data := #[] }, .string { data := #[97] }, .slice xa 0 xc, iv 0, iv 0, iv 0, iv 0, .slice xk 0 xd] := q0
  have ht : TrC V2 rT0 (.slice none 0 0) (.slice (some ⟨w.heap.size, 0, none⟩) 1 1) := (ht1.old b2).old b3
  have hu : TrC V2 kT0 (.slice xa 0 xc) (.slice xk 0 xd) := hx1.old b3
  have HD : Hid (∀ W, Below V2.heap.size V2 W → Calls Try.prog 16 #[nv rT0.d (.slice none 0 0) (.slice (some ⟨w.heap.size, 0, none⟩) 1 1)] W fun e w' => e = .returned (iv 2) ∧ Below W.heap.size W w') := fun W b => (callsIn_wide (n := 0)).1 (depth_in 0 (ht.old b) (by rw [cnt_r]; omega))
  have HC : Hid (∀ W, Below V2.heap.size V2 W → Calls Try.prog 15 #[nv rT0.d (.slice none 0 0) (.slice (some ⟨w.heap.size, 0, none⟩) 1 1)] W fun e w' => e = .returned (iv 2) ∧ Below W.heap.size W w') := fun W b => (callsIn_wide (n := 0)).1 (count_in 0 (ht.old b) (by rw [cnt_r]; omega))
  have HK : Hid (∀ W, Below V2.heap.size V2 W → Calls Try.prog 18 #[nv rT0.d (.slice none 0 0) (.slice (some ⟨w.heap.size, 0, none⟩) 1 1)] W fun e w' => e = .returned (iv 0) ∧ Below W.heap.size W w') := fun W b => by
    have := (callsIn_wide (n := 0)).1 (check_in 0 (ht.old b) (by rw [cnt_r]; omega))
    rwa [chk_r] at this
  have HX : Hid (∀ W, Below V2.heap.size V2 W → Calls Try.prog 18 #[nv kT0.d (.slice xa 0 xc) (.slice xk 0 xd)] W fun e w' => e = .returned (iv 3) ∧ Below W.heap.size W w') := fun W b => by
    have := (callsIn_wide (n := 0)).1 (check_in 0 (hu.old b) (by decide))
    rwa [chk_k] at this
  have HE : Hid (∀ W, Below V2.heap.size V2 W → Calls Try.prog 9 #[nv rT0.d (.slice none 0 0) (.slice (some ⟨w.heap.size, 0, none⟩) 1 1), nv rT0.d (.slice none 0 0) (.slice (some ⟨w.heap.size, 0, none⟩) 1 1)] W fun e w' => e = .returned (.bool true) ∧ Below W.heap.size W w') := fun W b => by
    have := equal_prog (ht.old b) (ht.old b) sml_r (by rw [cnt_r]; omega)
    rwa [eq_rr] at this
  have HN : Hid (∀ W, Below V2.heap.size V2 W → Calls Try.prog 9 #[nv rT0.d (.slice none 0 0) (.slice (some ⟨w.heap.size, 0, none⟩) 1 1), nv kT0.d (.slice xa 0 xc) (.slice xk 0 xd)] W fun e w' => e = .returned (.bool false) ∧ Below W.heap.size W w') := fun W b => by
    have := equal_prog (ht.old b) (hu.old b) sml_r (by rw [cnt_r]; omega)
    rwa [eq_rk] at this
  have HB : Hid (Below w.heap.size w V2) := b4
  have bb : Hid (Below V2.heap.size V2 V2) := Below.refl _ _
  clear hf p0 p1 ht1 b1 s1 b2 hx1 b3 q0 b4 ht hu
  have r0 : V2.cell? ⟨w.heap.size + 1, 0, none⟩ = some (iv 0) := Bx.cell hr 0
  have r1 : V2.cell? ⟨w.heap.size + 1, 1, none⟩ = some (iv 0) := Bx.cell hr 1
  have r2 : V2.cell? ⟨w.heap.size + 1, 2, none⟩ = some (iv 0) := Bx.cell hr 2
  have r3 : V2.cell? ⟨w.heap.size + 1, 3, none⟩ = some (.string { data := #[] }) := Bx.cell hr 3
  have r4 : V2.cell? ⟨w.heap.size + 1, 4, none⟩ = some (.string { data := #[] }) := Bx.cell hr 4
  have r5 : V2.cell? ⟨w.heap.size + 1, 5, none⟩ = some (.slice none 0 0) := Bx.cell hr 5
  have r6 : V2.cell? ⟨w.heap.size + 1, 6, none⟩ = some (iv 0) := Bx.cell hr 6
  have r7 : V2.cell? ⟨w.heap.size + 1, 7, none⟩ = some (iv 0) := Bx.cell hr 7
  have r8 : V2.cell? ⟨w.heap.size + 1, 8, none⟩ = some (iv 0) := Bx.cell hr 8
  have r9 : V2.cell? ⟨w.heap.size + 1, 9, none⟩ = some (iv 0) := Bx.cell hr 9
  have r10 : V2.cell? ⟨w.heap.size + 1, 10, none⟩ = some (.slice (some ⟨w.heap.size, 0, none⟩) 1 1) := Bx.cell hr 10
  have x0 : V2.cell? ⟨W1.heap.size, 0, none⟩ = some (iv 1) := Bx.cell hx 0
  have x1 : V2.cell? ⟨W1.heap.size, 1, none⟩ = some (iv 2) := Bx.cell hx 1
  have x2 : V2.cell? ⟨W1.heap.size, 2, none⟩ = some (iv 0) := Bx.cell hx 2
  have x3 : V2.cell? ⟨W1.heap.size, 3, none⟩ = some (.string { data := #[] }) := Bx.cell hx 3
  have x4 : V2.cell? ⟨W1.heap.size, 4, none⟩ = some (.string { data := #[97] }) := Bx.cell hx 4
  have x5 : V2.cell? ⟨W1.heap.size, 5, none⟩ = some (.slice xa 0 xc) := Bx.cell hx 5
  have x6 : V2.cell? ⟨W1.heap.size, 6, none⟩ = some (iv 0) := Bx.cell hx 6
  have x7 : V2.cell? ⟨W1.heap.size, 7, none⟩ = some (iv 0) := Bx.cell hx 7
  have x8 : V2.cell? ⟨W1.heap.size, 8, none⟩ = some (iv 0) := Bx.cell hx 8
  have x9 : V2.cell? ⟨W1.heap.size, 9, none⟩ = some (iv 0) := Bx.cell hx 9
  have x10 : V2.cell? ⟨W1.heap.size, 10, none⟩ = some (.slice xk 0 xd) := Bx.cell hx 10
  go_wp2_with fail
  refine (HD.out _ bb.out).mono ?_
  rintro e Y1 ⟨rfl, c1⟩
  have bb2 : Hid (Below V2.heap.size V2 Y1) := bb.out.trans (c1.mono bb.out.size)
  have hr2 := hr.old c1
  have hx2 := hx.old c1
  clear bb hr hx
  have bb := bb2
  have hr := hr2
  have hx := hx2
  clear bb2 hr2 hx2 c1
  clear r0 r1 r2 r3 r4 r5 r6 r7 r8 r9 r10 x0 x1 x2 x3 x4 x5 x6 x7 x8 x9 x10
  clear hV2
  have r0 : Y1.cell? ⟨w.heap.size + 1, 0, none⟩ = some (iv 0) := Bx.cell hr 0
  have r1 : Y1.cell? ⟨w.heap.size + 1, 1, none⟩ = some (iv 0) := Bx.cell hr 1
  have r2 : Y1.cell? ⟨w.heap.size + 1, 2, none⟩ = some (iv 0) := Bx.cell hr 2
  have r3 : Y1.cell? ⟨w.heap.size + 1, 3, none⟩ = some (.string { data := #[] }) := Bx.cell hr 3
  have r4 : Y1.cell? ⟨w.heap.size + 1, 4, none⟩ = some (.string { data := #[] }) := Bx.cell hr 4
  have r5 : Y1.cell? ⟨w.heap.size + 1, 5, none⟩ = some (.slice none 0 0) := Bx.cell hr 5
  have r6 : Y1.cell? ⟨w.heap.size + 1, 6, none⟩ = some (iv 0) := Bx.cell hr 6
  have r7 : Y1.cell? ⟨w.heap.size + 1, 7, none⟩ = some (iv 0) := Bx.cell hr 7
  have r8 : Y1.cell? ⟨w.heap.size + 1, 8, none⟩ = some (iv 0) := Bx.cell hr 8
  have r9 : Y1.cell? ⟨w.heap.size + 1, 9, none⟩ = some (iv 0) := Bx.cell hr 9
  have r10 : Y1.cell? ⟨w.heap.size + 1, 10, none⟩ = some (.slice (some ⟨w.heap.size, 0, none⟩) 1 1) := Bx.cell hr 10
  go_wp2_with fail
  refine (HC.out _ bb.out).mono ?_
  rintro e Y2 ⟨rfl, c2⟩
  have bb2 : Hid (Below V2.heap.size V2 Y2) := bb.out.trans (c2.mono bb.out.size)
  have hr2 := hr.old c2
  have hx2 := hx.old c2
  clear bb hr hx
  have bb := bb2
  have hr := hr2
  have hx := hx2
  clear bb2 hr2 hx2 c2
  clear r0 r1 r2 r3 r4 r5 r6 r7 r8 r9 r10
  have r0 : Y2.cell? ⟨w.heap.size + 1, 0, none⟩ = some (iv 0) := Bx.cell hr 0
  have r1 : Y2.cell? ⟨w.heap.size + 1, 1, none⟩ = some (iv 0) := Bx.cell hr 1
  have r2 : Y2.cell? ⟨w.heap.size + 1, 2, none⟩ = some (iv 0) := Bx.cell hr 2
  have r3 : Y2.cell? ⟨w.heap.size + 1, 3, none⟩ = some (.string { data := #[] }) := Bx.cell hr 3
  have r4 : Y2.cell? ⟨w.heap.size + 1, 4, none⟩ = some (.string { data := #[] }) := Bx.cell hr 4
  have r5 : Y2.cell? ⟨w.heap.size + 1, 5, none⟩ = some (.slice none 0 0) := Bx.cell hr 5
  have r6 : Y2.cell? ⟨w.heap.size + 1, 6, none⟩ = some (iv 0) := Bx.cell hr 6
  have r7 : Y2.cell? ⟨w.heap.size + 1, 7, none⟩ = some (iv 0) := Bx.cell hr 7
  have r8 : Y2.cell? ⟨w.heap.size + 1, 8, none⟩ = some (iv 0) := Bx.cell hr 8
  have r9 : Y2.cell? ⟨w.heap.size + 1, 9, none⟩ = some (iv 0) := Bx.cell hr 9
  have r10 : Y2.cell? ⟨w.heap.size + 1, 10, none⟩ = some (.slice (some ⟨w.heap.size, 0, none⟩) 1 1) := Bx.cell hr 10
  have x0 : Y2.cell? ⟨W1.heap.size, 0, none⟩ = some (iv 1) := Bx.cell hx 0
  have x1 : Y2.cell? ⟨W1.heap.size, 1, none⟩ = some (iv 2) := Bx.cell hx 1
  have x2 : Y2.cell? ⟨W1.heap.size, 2, none⟩ = some (iv 0) := Bx.cell hx 2
  have x3 : Y2.cell? ⟨W1.heap.size, 3, none⟩ = some (.string { data := #[] }) := Bx.cell hx 3
  have x4 : Y2.cell? ⟨W1.heap.size, 4, none⟩ = some (.string { data := #[97] }) := Bx.cell hx 4
  have x5 : Y2.cell? ⟨W1.heap.size, 5, none⟩ = some (.slice xa 0 xc) := Bx.cell hx 5
  have x6 : Y2.cell? ⟨W1.heap.size, 6, none⟩ = some (iv 0) := Bx.cell hx 6
  have x7 : Y2.cell? ⟨W1.heap.size, 7, none⟩ = some (iv 0) := Bx.cell hx 7
  have x8 : Y2.cell? ⟨W1.heap.size, 8, none⟩ = some (iv 0) := Bx.cell hx 8
  have x9 : Y2.cell? ⟨W1.heap.size, 9, none⟩ = some (iv 0) := Bx.cell hx 9
  have x10 : Y2.cell? ⟨W1.heap.size, 10, none⟩ = some (.slice xk 0 xd) := Bx.cell hx 10
  go_wp2_with fail
  refine (HK.out _ bb.out).mono ?_
  rintro e Y3 ⟨rfl, c3⟩
  have bb2 : Hid (Below V2.heap.size V2 Y3) := bb.out.trans (c3.mono bb.out.size)
  have hr2 := hr.old c3
  have hx2 := hx.old c3
  clear bb hr hx
  have bb := bb2
  have hr := hr2
  have hx := hx2
  clear bb2 hr2 hx2 c3
  clear x0 x1 x2 x3 x4 x5 x6 x7 x8 x9 x10 r0 r1 r2 r3 r4 r5 r6 r7 r8 r9 r10
  have x0 : Y3.cell? ⟨W1.heap.size, 0, none⟩ = some (iv 1) := Bx.cell hx 0
  have x1 : Y3.cell? ⟨W1.heap.size, 1, none⟩ = some (iv 2) := Bx.cell hx 1
  have x2 : Y3.cell? ⟨W1.heap.size, 2, none⟩ = some (iv 0) := Bx.cell hx 2
  have x3 : Y3.cell? ⟨W1.heap.size, 3, none⟩ = some (.string { data := #[] }) := Bx.cell hx 3
  have x4 : Y3.cell? ⟨W1.heap.size, 4, none⟩ = some (.string { data := #[97] }) := Bx.cell hx 4
  have x5 : Y3.cell? ⟨W1.heap.size, 5, none⟩ = some (.slice xa 0 xc) := Bx.cell hx 5
  have x6 : Y3.cell? ⟨W1.heap.size, 6, none⟩ = some (iv 0) := Bx.cell hx 6
  have x7 : Y3.cell? ⟨W1.heap.size, 7, none⟩ = some (iv 0) := Bx.cell hx 7
  have x8 : Y3.cell? ⟨W1.heap.size, 8, none⟩ = some (iv 0) := Bx.cell hx 8
  have x9 : Y3.cell? ⟨W1.heap.size, 9, none⟩ = some (iv 0) := Bx.cell hx 9
  have x10 : Y3.cell? ⟨W1.heap.size, 10, none⟩ = some (.slice xk 0 xd) := Bx.cell hx 10
  go_wp2_with fail
  refine (HX.out _ bb.out).mono ?_
  rintro e Y4 ⟨rfl, c4⟩
  have bb2 : Hid (Below V2.heap.size V2 Y4) := bb.out.trans (c4.mono bb.out.size)
  have hr2 := hr.old c4
  have hx2 := hx.old c4
  clear bb hr hx
  have bb := bb2
  have hr := hr2
  have hx := hx2
  clear bb2 hr2 hx2 c4
  clear x0 x1 x2 x3 x4 x5 x6 x7 x8 x9 x10
  have r0 : Y4.cell? ⟨w.heap.size + 1, 0, none⟩ = some (iv 0) := Bx.cell hr 0
  have r1 : Y4.cell? ⟨w.heap.size + 1, 1, none⟩ = some (iv 0) := Bx.cell hr 1
  have r2 : Y4.cell? ⟨w.heap.size + 1, 2, none⟩ = some (iv 0) := Bx.cell hr 2
  have r3 : Y4.cell? ⟨w.heap.size + 1, 3, none⟩ = some (.string { data := #[] }) := Bx.cell hr 3
  have r4 : Y4.cell? ⟨w.heap.size + 1, 4, none⟩ = some (.string { data := #[] }) := Bx.cell hr 4
  have r5 : Y4.cell? ⟨w.heap.size + 1, 5, none⟩ = some (.slice none 0 0) := Bx.cell hr 5
  have r6 : Y4.cell? ⟨w.heap.size + 1, 6, none⟩ = some (iv 0) := Bx.cell hr 6
  have r7 : Y4.cell? ⟨w.heap.size + 1, 7, none⟩ = some (iv 0) := Bx.cell hr 7
  have r8 : Y4.cell? ⟨w.heap.size + 1, 8, none⟩ = some (iv 0) := Bx.cell hr 8
  have r9 : Y4.cell? ⟨w.heap.size + 1, 9, none⟩ = some (iv 0) := Bx.cell hr 9
  have r10 : Y4.cell? ⟨w.heap.size + 1, 10, none⟩ = some (.slice (some ⟨w.heap.size, 0, none⟩) 1 1) := Bx.cell hr 10
  go_wp2_with fail
  refine (HE.out _ bb.out).mono ?_
  rintro e Y5 ⟨rfl, c5⟩
  have bb2 : Hid (Below V2.heap.size V2 Y5) := bb.out.trans (c5.mono bb.out.size)
  have hr2 := hr.old c5
  have hx2 := hx.old c5
  clear bb hr hx
  have bb := bb2
  have hr := hr2
  have hx := hx2
  clear bb2 hr2 hx2 c5
  clear r0 r1 r2 r3 r4 r5 r6 r7 r8 r9 r10
  have r0 : Y5.cell? ⟨w.heap.size + 1, 0, none⟩ = some (iv 0) := Bx.cell hr 0
  have r1 : Y5.cell? ⟨w.heap.size + 1, 1, none⟩ = some (iv 0) := Bx.cell hr 1
  have r2 : Y5.cell? ⟨w.heap.size + 1, 2, none⟩ = some (iv 0) := Bx.cell hr 2
  have r3 : Y5.cell? ⟨w.heap.size + 1, 3, none⟩ = some (.string { data := #[] }) := Bx.cell hr 3
  have r4 : Y5.cell? ⟨w.heap.size + 1, 4, none⟩ = some (.string { data := #[] }) := Bx.cell hr 4
  have r5 : Y5.cell? ⟨w.heap.size + 1, 5, none⟩ = some (.slice none 0 0) := Bx.cell hr 5
  have r6 : Y5.cell? ⟨w.heap.size + 1, 6, none⟩ = some (iv 0) := Bx.cell hr 6
  have r7 : Y5.cell? ⟨w.heap.size + 1, 7, none⟩ = some (iv 0) := Bx.cell hr 7
  have r8 : Y5.cell? ⟨w.heap.size + 1, 8, none⟩ = some (iv 0) := Bx.cell hr 8
  have r9 : Y5.cell? ⟨w.heap.size + 1, 9, none⟩ = some (iv 0) := Bx.cell hr 9
  have r10 : Y5.cell? ⟨w.heap.size + 1, 10, none⟩ = some (.slice (some ⟨w.heap.size, 0, none⟩) 1 1) := Bx.cell hr 10
  have x0 : Y5.cell? ⟨W1.heap.size, 0, none⟩ = some (iv 1) := Bx.cell hx 0
  have x1 : Y5.cell? ⟨W1.heap.size, 1, none⟩ = some (iv 2) := Bx.cell hx 1
  have x2 : Y5.cell? ⟨W1.heap.size, 2, none⟩ = some (iv 0) := Bx.cell hx 2
  have x3 : Y5.cell? ⟨W1.heap.size, 3, none⟩ = some (.string { data := #[] }) := Bx.cell hx 3
  have x4 : Y5.cell? ⟨W1.heap.size, 4, none⟩ = some (.string { data := #[97] }) := Bx.cell hx 4
  have x5 : Y5.cell? ⟨W1.heap.size, 5, none⟩ = some (.slice xa 0 xc) := Bx.cell hx 5
  have x6 : Y5.cell? ⟨W1.heap.size, 6, none⟩ = some (iv 0) := Bx.cell hx 6
  have x7 : Y5.cell? ⟨W1.heap.size, 7, none⟩ = some (iv 0) := Bx.cell hx 7
  have x8 : Y5.cell? ⟨W1.heap.size, 8, none⟩ = some (iv 0) := Bx.cell hx 8
  have x9 : Y5.cell? ⟨W1.heap.size, 9, none⟩ = some (iv 0) := Bx.cell hx 9
  have x10 : Y5.cell? ⟨W1.heap.size, 10, none⟩ = some (.slice xk 0 xd) := Bx.cell hx 10
  go_wp2_with fail
  refine (HN.out _ bb.out).mono ?_
  rintro e Y6 ⟨rfl, c6⟩
  have bb2 : Hid (Below V2.heap.size V2 Y6) := bb.out.trans (c6.mono bb.out.size)
  have hr2 := hr.old c6
  have hx2 := hx.old c6
  clear bb hr hx
  have bb := bb2
  have hr := hr2
  have hx := hx2
  clear bb2 hr2 hx2 c6
  clear r0 r1 r2 r3 r4 r5 r6 r7 r8 r9 r10 x0 x1 x2 x3 x4 x5 x6 x7 x8 x9 x10
  go_wp2_with fail
  go_ret
  exact ⟨rfl, HB.out.trans (bb.out.mono HB.out.size)⟩
end Go.Proofs.Ytdpibnmbgjhohaa
