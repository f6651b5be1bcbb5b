/- The law Utf8inSpans holds for every text: the characters' spans stand together, cover all bytes, have one to four bytes each, and each number is a character. No condition. -/
import Derived.Test.YteonfhgcjcpfkaaBase
import Derived.ProofKit
import Derived.OpenShut
import Derived.ShutString
import Derived.ChangeOld
import Derived.ChangeMaps
import Derived.Lib.SmallJoins
namespace Go.Proofs.Yteonfhgcjcpfkaa
open Go.ChangeShapes Go.WideShapes Go.ChangeAt Go.RowKit Go.Joins

theorem ext_take (n a : Nat) : ∀ (m k : Nat) (t : List UInt8), ext n a k t = k + (m + 1) → ∃ b r, t = b :: r ∧ okc k a b.toNat = true ∧ ext n a (k + 1) r = k + 1 + m
  | m, k, [], h => by rw [ext] at h; omega
  | m, k, b :: r, h => by
    rw [ext] at h
    split at h
    · rename_i c; exact ⟨b, r, rfl, c.2, by omega⟩
    · omega

/-- A number that is told is a character. -/
theorem one_char (l : List UInt8) (hl : l ≠ []) : (one l).2.1 ≤ 4 ∧ mayB (if (one l).1 = -1 then 65533 else (one l).1) = true := by
  cases l with
  | nil => exact absurd rfl hl
  | cons a t =>
    have h4 := need_le a.toNat
    have hbad : mayB (if (-1 : Int) = -1 then 65533 else -1) = true := by decide
    rw [one_cons]
    by_cases c0 : need a.toNat = 0
    · rw [if_pos c0]; exact ⟨by decide, hbad⟩
    · rw [if_neg c0]
      by_cases c1 : ext (need a.toNat) a.toNat 1 t < need a.toNat
      · rw [if_pos c1]; exact ⟨by show ext _ _ _ _ ≤ 4; omega, hbad⟩
      · rw [if_neg c1]
        refine ⟨h4, ?_⟩
        have ht := ext_top (need a.toNat) a.toNat t 1 (by omega)
        have hx : ext (need a.toNat) a.toNat 1 t = need a.toNat := by omega
        have ha := UInt8.toNat_lt a
        have key : ∀ v : Int, (0 ≤ v ∧ v ≤ 1114111 ∧ (v < 55296 ∨ 57343 < v)) → mayB (if v = -1 then 65533 else v) = true := fun v hv => by
          rw [if_neg (by omega)]; unfold mayB; exact decide_eq_true hv
        apply key
        show 0 ≤ val (mask (need a.toNat) a.toNat : Nat) (t.take (need a.toNat - 1)) ∧ _
        have hn : need a.toNat = 1 ∨ need a.toNat = 2 ∨ need a.toNat = 3 ∨ need a.toNat = 4 := by omega
        rcases hn with hn | hn | hn | hn
        · rw [hn]
          have h1 : a.toNat < 128 := by
            unfold need at hn
            split at hn
            · assumption
            · repeat' split at hn
              all_goals omega
          simp [mask, val]; omega
        · rw [hn] at hx ⊢
          have h1 : 194 ≤ a.toNat ∧ a.toNat ≤ 223 := by
            unfold need at hn
            repeat' split at hn
            all_goals omega
          obtain ⟨b, r, rfl, hb, _⟩ := ext_take 2 a.toNat 0 1 t hx
          have hb2 := UInt8.toNat_lt b
          simp only [mask, val, List.take, List.foldl, add6]
          simp; omega
        · rw [hn] at hx ⊢
          have h1 : 224 ≤ a.toNat ∧ a.toNat ≤ 239 := by
            unfold need at hn
            repeat' split at hn
            all_goals omega
          obtain ⟨b, r, rfl, hb, hx2⟩ := ext_take 3 a.toNat 1 1 t hx
          obtain ⟨c, r2, rfl, hc, _⟩ := ext_take 3 a.toNat 0 2 r hx2
          have hb2 : lo2 a.toNat ≤ b.toNat ∧ b.toNat ≤ hi2 a.toNat := by unfold okc at hb; simpa using hb
          simp only [mask, val, List.take, List.foldl, add6]
          unfold lo2 hi2 at hb2
          simp
          repeat' split at hb2
          all_goals omega
        · rw [hn] at hx ⊢
          have h1 : 240 ≤ a.toNat ∧ a.toNat ≤ 244 := by
            unfold need at hn
            repeat' split at hn
            all_goals omega
          obtain ⟨b, r, rfl, hb, hx2⟩ := ext_take 4 a.toNat 2 1 t hx
          obtain ⟨c, r2, rfl, hc, hx3⟩ := ext_take 4 a.toNat 1 2 r hx2
          obtain ⟨d, r3, rfl, hd, _⟩ := ext_take 4 a.toNat 0 3 r2 hx3
          have hb2 : lo2 a.toNat ≤ b.toNat ∧ b.toNat ≤ hi2 a.toNat := by unfold okc at hb; simpa using hb
          simp only [mask, val, List.take, List.foldl, add6]
          unfold lo2 hi2 at hb2
          simp
          repeat' split at hb2
          all_goals omega

theorem items_all : ∀ (n : Nat) (l : List UInt8), l.length ≤ n → ∀ x ∈ items l, 1 ≤ x.2 ∧ x.2 ≤ 4 ∧ mayB (if x.1 = -1 then 65533 else x.1) = true
  | 0, l, h, x, hx => by
    have : l = [] := List.eq_nil_of_length_eq_zero (by omega)
    subst this; simp [items_nil] at hx
  | n + 1, l, h, x, hx => by
    by_cases hl : l = []
    · subst hl; simp [items_nil] at hx
    · have h1 := one_pos l
      obtain ⟨h2, h3⟩ := one_char l hl
      rw [items_cons l hl] at hx
      rcases List.mem_cons.1 hx with e | e
      · subst e; exact ⟨h1, h2, h3⟩
      · exact items_all n _ (by rw [List.length_drop]; omega) x e

theorem items_tot (l : List UInt8) : tot (items l) = l.length := by
  obtain ⟨_, r2, _, r4⟩ := run_ok l [] trivial
  rw [List.nil_append] at r2
  rw [r2, tot_append]
  have : tot (fin (run [] l).1) = (run [] l).1.length := by
    unfold fin
    split
    · rename_i h; rw [h]; rfl
    · simp [tot]
  simp at r4
  omega

theorem chs_at : ∀ (l : List (Int × Nat)) (p : Int) (k : Nat) (x : Int × Nat), l[k]? = some x → (chs p l)[k]? = some ⟨if x.1 = -1 then 65533 else x.1, p + (tot (l.take k) : Nat), p + (tot (l.take k) : Nat) + (x.2 : Int)⟩ ∧ tot (l.take (k + 1)) = tot (l.take k) + x.2
  | [], _, _, _, h => by simp at h
  | (r, n) :: l, p, 0, x, h => by
    simp at h; subst h
    simp [chs, tot]
  | (r, n) :: l, p, k + 1, x, h => by
    obtain ⟨h1, h2⟩ := chs_at l (p + (n : Int)) k x (by simpa using h)
    rw [List.take_succ_cons, List.take_succ_cons, tot_cons, tot_cons, h2]
    refine ⟨?_, by show n + _ = n + _ + _; omega⟩
    rw [chs, List.getElem?_cons_succ, h1]
    have e : p + (n : Int) + (tot (l.take k) : Nat) = p + ((n + tot (l.take k) : Nat) : Int) := by omega
    rw [e]

set_option maxHeartbeats 1000000 in
theorem spa_long (s : ByteArray) (w : World) (h : 20000 < s.size) : Calls Try.prog 7 #[.string s] w fun e w' => e = .returned (.bool true) ∧ Below w.heap.size w w' := by
  go_enter Try.func7, Try.ntmps7
  go_wp2_with (go_at_call 8; refine (awake_any _).mono ?_; rintro e w1 ⟨rfl, b1⟩)
  go_ret
  exact ⟨rfl, b1⟩

set_option maxHeartbeats 1000000 in
theorem spa_short (s : ByteArray) (w : World) (h : s.size ≤ 20000) : Calls Try.prog 7 #[.string s] w fun e w' => e = .returned (.bool true) ∧ Below w.heap.size w w' := by
  obtain ⟨L, hL⟩ : ∃ L, items s.data.toList = L := ⟨_, rfl⟩
  have hall := items_all _ s.data.toList (Nat.le_refl _)
  have htot := items_tot s.data.toList
  have hsl : s.data.toList.length = s.size := Array.length_toList
  rw [hsl] at htot
  rw [hL] at hall htot
  have hlen : L.length ≤ tot L := by
    have : ∀ (l : List (Int × Nat)), (∀ x ∈ l, 1 ≤ x.2) → l.length ≤ tot l := fun l => by
      induction l with
      | nil => intro _; simp [tot]
      | cons x l ih => intro hx; rw [tot_cons, List.length_cons]; have := ih (fun y hy => hx y (List.mem_cons_of_mem _ hy)); have := hx x (List.mem_cons_self ..); omega
    exact this L fun x hx => (hall x hx).1
  have HALL : Hid (∀ x ∈ L, 1 ≤ x.2 ∧ x.2 ≤ 4 ∧ mayB (if x.1 = -1 then 65533 else x.1) = true) := hall
  have HT : Hid (tot L = s.size) := htot
  obtain ⟨n, hn⟩ : ∃ n, L.length = n := ⟨_, rfl⟩
  have HN : Hid (L.length = n) := hn
  have hn2 : n ≤ 20000 := by omega
  have HL : Hid (items s.data.toList = L) := hL
  clear hall htot hsl hlen hL hn
  go_enter Try.func7, Try.ntmps7
  go_wp2_with fail
  refine (decode_as s (chs 0 L) (fls 0 L) n _ (by omega) (by rw [HL.out]) (by rw [HL.out]) (by rw [chs_length]; exact HN.out) rfl).mono ?_
  rintro e w1 ⟨ca, cc, fa, fc, rfl, l1, l2, c1, f1, b1⟩
  have C1 : Hid (Chars w.heap.size (.slice ca n cc) (chs 0 L) w1) := c1
  clear c1 f1
  unfold maxLen at l2
  go_wp2_with fail
  go_loop [5, 6] (fun a i => ∃ k : Nat, k ≤ n ∧ i = .int .i64 k ∧ a = .int .i64 (tot (L.take k) : Nat)) (fun _ i => n - (intOf i).toNat)
  case atStart => exact ⟨0, Nat.zero_le _, rfl, by simp [tot]⟩
  case round =>
    obtain ⟨k, hk, rfl, rfl⟩ := hrel
    by_cases hlt : k < n
    · obtain ⟨x, hx⟩ : ∃ x, L[k]? = some x := ⟨_, List.getElem?_eq_getElem (by rw [HN.out]; exact hlt)⟩
      obtain ⟨q1, q2⟩ := chs_at L 0 k x hx
      obtain ⟨x1, x2, x3⟩ := HALL.out x (List.mem_of_getElem? hx)
      obtain ⟨g, cap, hv, _, _, hg, hcl⟩ := row_cells C1.out (by rw [chs_length, HN.out]; omega)
      simp only [Value.slice.injEq] at hv
      obtain ⟨rfl, he1, he2⟩ := hv
      clear he1 he2
      obtain ⟨d0, d1, d2⟩ := ch_at _ k _ q1
      have e0 := hcl _ _ d0
      have e1 := hcl _ _ d1
      have e2 := hcl _ _ d2
      simp only [Int.zero_add] at e1 e2
      obtain ⟨T, hT⟩ : ∃ T : Int, ((tot (L.take k) : Nat) : Int) = T := ⟨_, rfl⟩
      have HTK : Hid (((tot (L.take k) : Nat) : Int) = T) := hT
      have Q2 : Hid (tot (L.take (k + 1)) = tot (L.take k) + x.2) := q2
      have hT0 : 0 ≤ T := by omega
      have hT1 : T ≤ 100000000 := by
        have hle : tot (L.take k) ≤ tot L := by have := tot_append (L.take k) (L.drop k); rw [List.take_append_drop] at this; omega
        have := HT.out
        omega
      rw [hT] at e1 e2 ⊢
      obtain ⟨R, hR⟩ : ∃ R, (if x.1 = -1 then 65533 else x.1) = R := ⟨_, rfl⟩
      rw [hR] at e0 x3
      obtain ⟨Z, hZ⟩ : ∃ Z : Int, T + (x.2 : Int) = Z := ⟨_, rfl⟩
      rw [hZ] at e2
      have z1 : T < Z := by omega
      have z2 : Z ≤ T + 4 := by omega
      have HZ : Hid (T + (x.2 : Int) = Z) := hZ
      clear hcl d0 d1 d2 q1 q2 hT hR hZ x1 x2 hx
      go_wp2_with (go_at_call 15; refine (may_as _ true _ x3).mono ?_; rintro e w' ⟨rfl, rfl⟩)
      refine ⟨⟨k + 1, by omega, by go_num, ?_⟩, by simp [intOf]; omega⟩
      have := HZ.out
      have := HTK.out
      rw [Q2.out]
      congr 1
      push_cast
      omega
    · have hkn : k = n := by omega
      have htk : (tot (L.take k) : Nat) = s.size := by rw [hkn, List.take_of_length_le (by rw [HN.out]; exact Nat.le_refl _)]; exact HT.out
      rw [htk]
      go_wp2_with (go_at_call 8; refine (awake_any _).mono ?_; rintro e w2 ⟨rfl, b2⟩)
      go_ret
      exact ⟨rfl, b1.trans (b2.mono b1.size)⟩

theorem spa_walk (s : ByteArray) (w : World) : Calls Try.prog 7 #[.string s] w fun e w' => e = .returned (.bool true) ∧ Below w.heap.size w w' := by
  by_cases h : 20000 < s.size
  · exact spa_long s w h
  · exact spa_short s w (by omega)

set_option maxRecDepth 100000 in
theorem spa_lifted (os : Os) (started : os.Started) (H : Type) (enc : TypeId × Value → H) :
    ReturnsInHanded {} Try.checked os 7 .any (Rows.utf8inSpansSpec.pre6 enc Try.prog Try.f7 Rows.utf8inSpansRow.domain false) (Rows.utf8inSpansSpec.post enc Try.prog Try.f7 false true false false) := by
  refine returnsInHanded_of_change (C := Try.checked) own started (by kernel_rfl) Try.func7
    (ChangeSpec.witness6 (enc := enc) (C := Try.checked) false ⟨#[], #[.string ⟨#[]⟩], []⟩ 8 (by kernel_rfl) (by kernel_rfl) (by kernel_rfl) (by kernel_rfl)) ?_
  intro W base args ds gs before hval0 hW hcnd _
  have hval : ∀ (j : Nat) t v, Try.f7.params[j]? = some t → args[j]? = some v → Value.okWide Try.prog W .any base t v := hval0
  have hW' := hW
  obtain ⟨p, q, hA0, hV, rfl, hfz, hnd⟩ := hW
  have hA : DataW.TrodAll enc Try.prog W 0 (fun _ => true) true Try.f7.params.toList args.toList ds p := hA0
  rw [Try.params7] at hA hval
  obtain ⟨v0, vs0, d0, ds0, p0, q0, hargs, rfl, rfl, h0, r0⟩ := trodAll_cons hA
  obtain ⟨rfl, rfl, rfl⟩ := trodAll_nil r0
  obtain rfl : args = #[v0] := by cases args; simp_all
  obtain ⟨rfl, rfl⟩ := trodVars_none hV
  have k0 := h0
  have lt0 : ∀ x ∈ p0, x.block < W.heap.size := by obtain ⟨m, hm⟩ := k0; exact DataW.trod_lt m _ _ _ hm
  obtain ⟨x0, hv0, _, _, wx0⟩ := Go.ChangeMaps.open_string Try.underlying9 (hval 0 9 v0 rfl rfl) h0
  subst hv0
  clear hA0 hval0
  refine (spa_walk x0 W).mono fun e W' ⟨he, bel⟩ => ?_
  subst he
  exact ⟨_, rfl, _, _, _, [], _, [], hW', trodAll_mk1 (shut_bool Try.underlying4 _), (trodAll_cons_mk (Below.trod laidOut (by kernel_rfl) (of_decide_eq_true (by kernel_rfl)) k0 bel lt0) trodAll_mk0), rfl, bel.frame _, fun h => by cases h⟩

theorem spans_holds : Rows.Utf8inSpansSaid :=
  OpenClaim.holds_of_wide 7 Try.f7 rfl rfl rfl rfl rfl rfl rfl ⟨rfl, rfl, rfl, rfl, rfl⟩ rfl rfl rfl rfl rfl (by kernel_rfl) Try.func7 (by kernel_rfl)
    (of_decide_eq_true (by kernel_rfl)) (by unfold Func.isWrapper; first | (rw [if_pos (by decide +kernel)]; kernel_rfl) | (rw [if_neg (by decide +kernel)]; exact ⟨rfl, rfl⟩))
    (fun os started H enc _ => spa_lifted os started H enc)
#print axioms spans_holds
end Go.Proofs.Yteonfhgcjcpfkaa
