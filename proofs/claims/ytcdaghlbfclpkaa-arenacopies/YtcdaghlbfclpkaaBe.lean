/- awake: the chapter's examples. -/
import Derived.Test.YtcdaghlbfclpkaaBd
import Derived.Test.YtcdaghlbfclpkaaAq
namespace Go.Proofs.Ytcdaghlbfclpkaa
open Go.RowKit

def dpp : Nd := ⟨0, 1, 0, ⟨#[112]⟩, ⟨#[]⟩, .slice none 0 0, [], 0, 0, 0, 0⟩
def kz (i : Nat) : List Nat := if i = 0 then [1] else []
def sz2 (i : Nat) : Nat := if i = 0 then 2 else 1
theorem fam2 (a0 a1 : Value) : Fam 2 [doc0 a0, dpp.as 1 a1] [⟨false, 0, 0, 0⟩, ⟨true, 0, 0, 0⟩] [⟨1, 1⟩, ⟨0, 0⟩] kz sz2 := by
  refine ⟨fun i d h => ?_, fun i e h => ?_, fun i => ?_, fun i k h => ?_, fun d h => ?_, fun i => ?_⟩
  · match i, h with
    | 0, h => simp at h; subst h; rfl
    | 1, h => simp at h; subst h; rfl
  · match i, h with
    | 0, h => simp at h; subst h; exact .cons (by decide) rfl .nil
    | 1, h => simp at h; subst h; exact .nil
  · unfold kz
    split <;> simp
  · unfold kz at h
    split at h
    · simp at h; omega
    · simp at h
  · simp at h
    rcases h with rfl | rfl <;> simp [doc0, dpp, Nd.as]
  · unfold kz
    split
    · rename_i h
      subst h
      decide
    · rename_i h
      simp [sz2, h]
set_option maxHeartbeats 4000000 in
set_option maxRecDepth 20000 in
theorem awake_any (w : World) : Calls Try.prog 11 #[] w fun e w' => e = .returned (.bool true) ∧ Below w.heap.size w w' := by
  go_enter Try.func11, Try.ntmps11
  go_wp2_with fail
  refine (new_any w).mono ?_
  rintro e w1 ⟨x, av, rfl, h1, b1⟩
  have k2 : Calls Try.prog 23 #[ptr x, .agg #[iv 0, iv 1, iv 0, .string ⟨#[112]⟩, .string ⟨#[]⟩, .slice none 0 0, iv 0, iv 0, iv 0, iv 0, .slice none 0 0]] w1 (Added (fun k => k < w.heap.size) x 1 dpp [doc0 av] [⟨false, 0, 0, 0⟩] [⟨0, 0⟩] w1) :=
    make_any h1 (n := 1) rfl (by omega) dpp rfl (ao := none) (ac := 0) ⟨⟨none, 0, rfl, fun i x hx => by simp [dpp] at hx⟩, by simp [dpp]⟩ none 0 0
  have H1 : Hid (Below w.heap.size w w1) := b1
  clear h1 b1
  go_wp2_with fail
  refine k2.mono ?_
  rintro e w2 ⟨av2, rfl, h2, q2⟩
  obtain ⟨g, n, cn, h, cs, k, ce, o2⟩ := h2.open (by simp)
  obtain rfl : n = 2 := by have := o2.nn; simpa using this.symm
  have H2 : Hid (Below w.heap.size w w2) := H1.out.trans (q2.below (fun _ h => h) H1.out.size)
  clear h2 q2 k2 H1
  have hw : Calls Try.prog 46 #[ptr x, iv ((0 : Nat) : Int), iv ((1 : Nat) : Int)] w2 (Rd (.bool false) w2) := within_new o2 (i := 0) (t := 1) (e := ⟨0, 0⟩) rfl rfl
  have k3 : Calls Try.prog 24 #[ptr x, iv 0, iv 1, iv (-1)] w2 (fun e w' => e = .returned (iv 0) ∧ Op3 (fun k => k < w.heap.size) w' x g 2 cn h cs k ce [doc0 av, dpp.as 1 av2] [⟨false, 0, 0, 0⟩, ⟨true, 0, 0, 0⟩] [⟨1, 1⟩, ⟨0, 0⟩] ∧ Keep (fun k => k < w.heap.size) w2 w') :=
    ins_last o2 (p := 0) (i := 1) (s := ⟨false, 0, 0, 0⟩) (d := doc0 av) (ep := ⟨0, 0⟩) (by decide) (by decide) (by decide) rfl rfl rfl rfl hw rfl (by decide)
  clear o2 hw
  go_wp2_with fail
  refine k3.mono ?_
  rintro e w3 ⟨rfl, o3, q3⟩
  have H3 : Hid (Below w.heap.size w w3) := H2.out.trans (q3.below (fun _ h => h) H2.out.size)
  clear H2 q3 k3
  have k4 : Calls Try.prog 24 #[ptr x, iv 0, iv 1, iv (-1)] w3 (Rd (iv 3) w3) := ins_in o3 (p := 0) (i := 1) (b := -1) (s := ⟨true, 0, 0, 0⟩) (by decide) (by decide) (by decide) (.inl rfl) rfl rfl
  have k5 : Calls Try.prog 24 #[ptr x, iv 1, iv 0, iv (-1)] w3 (Rd (iv 4) w3) := ins_no o3 (p := 1) (i := 0) (b := -1) (by decide)
  have k6 : Calls Try.prog 17 #[ptr x, iv 0] w3 (Kds [1] w3) := kids_any o3 (i := 0) (e := ⟨1, 1⟩) (L := [1]) rfl (.cons (by decide) rfl .nil) (by decide)
  have O3 : Hid (Op3 (fun k => k < w.heap.size) w3 x g 2 cn h cs k ce [doc0 av, dpp.as 1 av2] [⟨false, 0, 0, 0⟩, ⟨true, 0, 0, 0⟩] [⟨1, 1⟩, ⟨0, 0⟩]) := o3
  clear o3
  go_wp2_with fail
  refine k4.mono ?_
  rintro e w' ⟨rfl, hw'⟩
  rw [hw']
  clear hw' k4
  go_wp2_with fail
  refine k5.mono ?_
  rintro e w' ⟨rfl, hw'⟩
  rw [hw']
  clear hw' k5
  go_wp2_with fail
  refine k6.mono ?_
  rintro e w4 ⟨v4, rfl, b4, r4⟩
  obtain ⟨gk, ck, _, rfl, _, _, hk4, _⟩ := r4.form (by decide)
  have c4 : w4.cell? ⟨gk, 0, none⟩ = some (iv 1) := r4.cell rfl
  have H4 : Hid (Below w.heap.size w w4 ∧ gk < w4.heap.size) := ⟨H3.out.trans (b4.mono H3.out.size), (Array.getElem?_eq_some_iff.1 hk4).1⟩
  have o4 := O3.out.old b4
  have k7 : Calls Try.prog 20 #[ptr x, iv 0] w4 (fun e w' => ∃ ao ac kb kc, e = .returned (.agg #[iv 0, iv 0, iv 0, .string ⟨#[]⟩, .string ⟨#[]⟩, .slice ao 0 ac, iv (-1), iv (-1), iv (-1), iv (-1), .slice (some ⟨kb, 0, none⟩) 1 kc]) ∧ Below w4.heap.size w4 w' ∧ w'.cell? ⟨kb, 3, none⟩ = some (.string ⟨#[112]⟩) ∧ kb < w'.heap.size) := by
    refine (tree_any o4 (fam2 av av2) (i := 0) (d := doc0 av) rfl (by decide)).mono ?_
    rintro e w5 ⟨ao, ac, kp, kc, kb, rfl, b5, _, hkp, hkd⟩
    obtain rfl := hkp (by decide)
    have t := hkd 0 1 rfl
    cases t with
    | mk hd h hp hk =>
      simp at hd
      subst hd
      refine ⟨ao, ac, kb, kc, rfl, b5, h.cs 3 (by decide) (by decide), ?_⟩
      obtain ⟨cur, hc⟩ := h.ty
      exact (Array.getElem?_eq_some_iff.1 hc).1
  have O4 : Hid (Op3 (fun k => k < w.heap.size) w4 x g 2 cn h cs k ce [doc0 av, dpp.as 1 av2] [⟨false, 0, 0, 0⟩, ⟨true, 0, 0, 0⟩] [⟨1, 1⟩, ⟨0, 0⟩]) := o4
  have C4 : Hid (w4.cell? ⟨gk, 0, none⟩ = some (iv 1)) := c4
  clear o4 c4 b4 r4 hk4 k6 O3 H3
  go_wp2_with fail
  refine k7.mono ?_
  rintro e w5 ⟨ao, ac, kb, kc, rfl, b5, c5, hkb⟩
  have hgk := H4.out.2
  have hgk5 : gk < w5.heap.size := Nat.lt_of_lt_of_le hgk b5.size
  have c6 : w5.cell? ⟨gk, 0, none⟩ = some (iv 1) := (cell_same (b5.block gk hgk) 0).trans C4.out
  have b6 : Below w5.heap.size w5 (w5.alloc (.cells #[iv 0, iv 0, iv 0, .string ⟨#[]⟩, .string ⟨#[]⟩, .slice ao 0 ac, iv (-1), iv (-1), iv (-1), iv (-1), .slice (some ⟨kb, 0, none⟩) 1 kc] 35)) := (Below.refl _ _).alloc (Nat.le_refl _) _
  have n6 : Bx (w5.alloc (.cells #[iv 0, iv 0, iv 0, .string ⟨#[]⟩, .string ⟨#[]⟩, .slice ao 0 ac, iv (-1), iv (-1), iv (-1), iv (-1), .slice (some ⟨kb, 0, none⟩) 1 kc] 35)) w5.heap.size #[iv 0, iv 0, iv 0, .string ⟨#[]⟩, .string ⟨#[]⟩, .slice ao 0 ac, iv (-1), iv (-1), iv (-1), iv (-1), .slice (some ⟨kb, 0, none⟩) 1 kc] := heap_alloc_new w5 _
  go_upto_region 10 with fail
  generalize hW6 : w5.alloc (.cells #[iv 0, iv 0, iv 0, .string ⟨#[]⟩, .string ⟨#[]⟩, .slice ao 0 ac, iv (-1), iv (-1), iv (-1), iv (-1), .slice (some ⟨kb, 0, none⟩) 1 kc] 35) = w6 at *
  have d6 : w6.cell? ⟨gk, 0, none⟩ = some (iv 1) := (cell_same (b6.block gk hgk5) 0).trans c6
  have e6 : w6.cell? ⟨kb, 3, none⟩ = some (.string ⟨#[112]⟩) := (cell_same (b6.block kb hkb) 3).trans c5
  have n10 : w6.cell? ⟨w5.heap.size, 10, none⟩ = some (.slice (some ⟨kb, 0, none⟩) 1 kc) := n6.cell 10
  have o6 := (O4.out.old b5).old b6
  have p1 : Calls Try.prog 14 #[ptr x, iv 1] w6 (Rd (iv 0) w6) := parent_any o6 1
  have p0 : Calls Try.prog 14 #[ptr x, iv 0] w6 (Rd (iv (-1)) w6) := parent_any o6 0
  have l2 : Calls Try.prog 13 #[ptr x] w6 (Rd (iv 2) w6) := len_any o6
  have mk : Calls Try.prog 23 #[ptr x, .agg #[iv 0, iv 0, iv 0, .string ⟨#[]⟩, .string ⟨#[]⟩, .slice none 0 0, iv 0, iv 0, iv 0, iv 0, .slice none 0 0]] w6 (fun e w' => e = .returned (iv (-1)) ∧ Below w6.heap.size w6 w') := make_no x ⟨0, 0, 0, ⟨#[]⟩, ⟨#[]⟩, .slice none 0 0, [], 0, 0, 0, 0⟩ none 0 none 0 0 rfl
  have H6 : Hid (Below w.heap.size w w6) := (H4.out.1.trans (b5.mono H4.out.1.size)).trans (b6.mono (Nat.le_trans H4.out.1.size b5.size))
  clear hgk hgk5 c6 b6 n6 hW6 o6 b5 c5 hkb O4 C4 H4 k7
  go_wp2_with fail
  refine p1.mono ?_
  rintro e w' ⟨rfl, hw'⟩
  rw [hw']
  clear hw'
  go_wp2_with fail
  refine p0.mono ?_
  rintro e w' ⟨rfl, hw'⟩
  rw [hw']
  clear hw'
  go_wp2_with fail
  refine l2.mono ?_
  rintro e w' ⟨rfl, hw'⟩
  rw [hw']
  clear hw'
  go_wp2_with fail
  refine mk.mono ?_
  rintro e w7 ⟨rfl, b7⟩
  have HZ : Hid (Below w.heap.size w w7) := H6.out.trans (b7.mono H6.out.size)
  clear b7
  go_wp2_with fail
  go_ret
  exact ⟨rfl, HZ.out⟩
end Go.Proofs.Ytcdaghlbfclpkaa
