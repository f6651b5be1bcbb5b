/- slices.Index, slices.Contains; holder's ways; within; Same. -/
import Derived.Test.YtibndgembpcdgaaMp
import Derived.DeepKeys4
import Derived.Laws.EntriesVeiled
namespace Go.Proofs.Ytibndgembpcdgaa
open Go.RowKit Go.Maps

theorem At.eqb_comm (x y : At) : At.eqb x y = At.eqb y x := by
  rw [Bool.eq_iff_iff, At.eqb_iff, At.eqb_iff]
  exact ⟨Eq.symm, Eq.symm⟩

def idxR (g : Bool) (r : Int) : Prop := if g = true then ∃ i : Nat, r = i ∧ i ≤ 100000 else r = -1

set_option maxHeartbeats 1000000 in
theorem index_any {w : World} {ao : Option Addr} {L : List At} (n cap : Nat) (nm vl : ByteArray) (ha : AtRow w ao L) (hn : L.length = n) (hn2 : n ≤ 100000) :
    Calls Try.prog 56 #[.slice ao n cap, .agg #[.string nm, .string vl]] w fun e w' => ∃ r : Int, e = .returned (.int .i64 r) ∧ idxR (inP ⟨nm, vl⟩ L) r ∧ Below w.heap.size w w' := by
  obtain ⟨g, hg0⟩ : ∃ g, inP ⟨nm, vl⟩ L = g := ⟨_, rfl⟩
  rw [hg0]
  have HA : Hid (AtRow w ao L ∧ L.length = n ∧ inP ⟨nm, vl⟩ (L.drop 0) = g) := ⟨ha, hn, hg0⟩
  clear ha hn hg0
  obtain ⟨W, hW⟩ : ∃ W, w.alloc (.cells #[.string nm, .string vl] 24) = W := ⟨_, rfl⟩
  have hbW : Below w.heap.size w W := by rw [← hW]; exact (Below.refl _ _).alloc (Nat.le_refl _) _
  have hnew : W.heap[w.heap.size]? = some (.cells #[.string nm, .string vl] 24 (0, 0)) := by rw [← hW]; exact heap_alloc_new _ _
  have d1 : W.cell? ⟨w.heap.size, 0, none⟩ = some (.string nm) := by simp [World.cell?, hnew]
  have d2 : W.cell? ⟨w.heap.size, 1, none⟩ = some (.string vl) := by simp [World.cell?, hnew]
  have HW : Hid (Below w.heap.size w W) := hbW
  go_enter Try.func56, Try.ntmps56
  go_wp2_with fail
  clear hW hnew hbW
  go_loopg [8] n (fun g2 iv wr => ∃ (i q : Nat), iv = .int .i64 i ∧ i + g2 = n ∧ inP ⟨nm, vl⟩ (L.drop i) = g ∧ wr = W.drewN q)
  case atStart => exact ⟨0, 0, rfl, by omega, HA.out.2.2, rfl⟩
  case round =>
    obtain ⟨i, q, rfl, hig, hgi, rfl⟩ := hrel
    have HG : Hid (inP ⟨nm, vl⟩ (L.drop i) = g) := hgi
    clear hgi
    cases gk with
    | zero =>
      obtain rfl : i = n := by omega
      have hg0 : decide ((i : Int) < (i : Int)) = false := decide_eq_false (by omega)
      go_wp2_with fail
      have e : g = false := by
        have h := HG.out
        rw [List.drop_of_length_le (by rw [HA.out.2.1]; exact Nat.le_refl _)] at h
        exact h.symm
      subst e
      go_ret
      exact ⟨-1, rfl, by unfold idxR; rw [if_neg (by decide)], below_drewN HW.out _⟩
    | succ k =>
      have hin : i < n := by omega
      have hil : i < L.length := by rw [HA.out.2.1]; exact hin
      obtain ⟨x, hx⟩ : ∃ x, L[i]? = some x := ⟨_, List.getElem?_eq_getElem hil⟩
      obtain ⟨b1, o1, rfl, h1, c1, c2⟩ := (HA.out.1.below HW.out) i x hx
      have HD : Hid (inP ⟨nm, vl⟩ (L.drop i) = (At.eqb x ⟨nm, vl⟩ || inP ⟨nm, vl⟩ (L.drop (i + 1)))) := in_drop hx
      clear hil hx
      obtain ⟨nm1, vl1⟩ := x
      simp only at c1 c2
      have heq := eq24 nm vl nm1 vl1
      obtain ⟨r, hr⟩ : ∃ r, At.eqb ⟨nm1, vl1⟩ ⟨nm, vl⟩ = r := ⟨_, rfl⟩
      rw [hr] at HD
      simp only [At.eqb_comm ⟨nm, vl⟩, hr] at heq
      clear hr
      cases r with
      | true =>
        have e : g = true := by
          rw [← HG.out, HD.out]
          rfl
        subst e
        go_wp2_with fail
        go_quiet (fail)
        go_wp2_with fail
        go_ret
        exact ⟨i, rfl, by unfold idxR; rw [if_pos rfl]; exact ⟨i, rfl, by omega⟩, below_drewN (below_drewN HW.out _) _⟩
      | false =>
        have HN : Hid (inP ⟨nm, vl⟩ (L.drop (i + 1)) = g) := by
          have h := HD.out
          rw [Bool.false_or] at h
          exact h.symm.trans HG.out
        go_wp2_with fail
        go_quiet (fail)
        go_wp2_with fail
        go_roundg k
        case measure => omega
        case rel => exact ⟨i + 1, _, by go_num, by omega, HN.out, rfl⟩

set_option maxHeartbeats 1000000 in
theorem contains_any {w : World} {ao : Option Addr} {L : List At} (n cap : Nat) (nm vl : ByteArray) (ha : AtRow w ao L) (hn : L.length = n) (hn2 : n ≤ 100000) :
    Calls Try.prog 42 #[.slice ao n cap, .agg #[.string nm, .string vl]] w fun e w' => e = .returned (.bool (inP ⟨nm, vl⟩ L)) ∧ Below w.heap.size w w' := by
  obtain ⟨W, hW⟩ : ∃ W, w.alloc (.cells #[.string nm, .string vl] 24) = W := ⟨_, rfl⟩
  have hbW : Below w.heap.size w W := by rw [← hW]; exact (Below.refl _ _).alloc (Nat.le_refl _) _
  have hnew : W.heap[w.heap.size]? = some (.cells #[.string nm, .string vl] 24 (0, 0)) := by rw [← hW]; exact heap_alloc_new _ _
  have d1 : W.cell? ⟨w.heap.size, 0, none⟩ = some (.string nm) := by simp [World.cell?, hnew]
  have d2 : W.cell? ⟨w.heap.size, 1, none⟩ = some (.string vl) := by simp [World.cell?, hnew]
  have HW : Hid (Below w.heap.size w W) := hbW
  have hi := index_any n cap nm vl (ha.below hbW) hn hn2
  obtain ⟨g, hg0⟩ : ∃ g, inP ⟨nm, vl⟩ L = g := ⟨_, rfl⟩
  rw [hg0] at hi ⊢
  clear hg0 ha hn hnew hbW
  go_enter Try.func42, Try.ntmps42
  go_wp2_with fail
  clear hW
  refine hi.mono ?_
  rintro e w1 ⟨r, rfl, hr, b1⟩
  clear hi
  have H1 : Hid (Below w.heap.size w w1) := HW.out.trans (b1.mono HW.out.size)
  clear b1
  unfold idxR at hr
  cases g with
  | true =>
    rw [if_pos rfl] at hr
    obtain ⟨i, rfl, hi2⟩ := hr
    have h0 : decide ((0 : Int) ≤ (i : Int)) = true := decide_eq_true (by omega)
    go_wp2_with fail
    go_ret
    exact ⟨by simp, H1.out⟩
  | false =>
    rw [if_neg (by decide)] at hr
    subst hr
    go_wp2_with fail
    go_ret
    exact ⟨rfl, H1.out⟩

set_option maxHeartbeats 1000000 in
/-- holder's first way: the row itself is asked. -/
theorem hold1_any {W : World} {c : Nat} {ao : Option Addr} {L : List At} (n cap : Nat) (nm vl : ByteArray) (hc : c < W.heap.size) (h0 : W.cell? ⟨c, 0, none⟩ = some (.slice ao n cap)) (ha : AtRow W ao L) (hn : L.length = n) (hn2 : n ≤ 100000) :
    Calls Try.prog 41 #[.agg #[.string nm, .string vl], .pointer (some ⟨c, 0, none⟩)] W fun e w' => e = .returned (.bool (inP ⟨nm, vl⟩ L)) ∧ Below W.heap.size W w' := by
  obtain ⟨V, hV⟩ : ∃ V, W.alloc (.cells #[.string nm, .string vl] 24) = V := ⟨_, rfl⟩
  have hbV : Below W.heap.size W V := by rw [← hV]; exact (Below.refl _ _).alloc (Nat.le_refl _) _
  have hnew : V.heap[W.heap.size]? = some (.cells #[.string nm, .string vl] 24 (0, 0)) := by rw [← hV]; exact heap_alloc_new _ _
  have d1 : V.cell? ⟨W.heap.size, 0, none⟩ = some (.string nm) := by simp [World.cell?, hnew]
  have d2 : V.cell? ⟨W.heap.size, 1, none⟩ = some (.string vl) := by simp [World.cell?, hnew]
  have d3 := (hbV.cell (p := ⟨c, 0, none⟩) hc).trans h0
  have HV : Hid (Below W.heap.size W V) := hbV
  have hi := contains_any n cap nm vl (ha.below hbV) hn hn2
  obtain ⟨g, hg0⟩ : ∃ g, inP ⟨nm, vl⟩ L = g := ⟨_, rfl⟩
  rw [hg0] at hi ⊢
  clear hg0 ha hn hnew hbV
  go_enter Try.func41, Try.ntmps41
  go_wp2_with fail
  clear hV
  refine hi.mono ?_
  rintro e w1 ⟨rfl, b1⟩
  clear hi
  have H1 : Hid (Below W.heap.size W w1) := HV.out.trans (b1.mono HV.out.size)
  clear b1
  go_wp2_with fail
  go_ret
  exact ⟨rfl, H1.out⟩

theorem laidOut : laidOutB Try.prog = true := by kernel_rfl
theorem law24 : Keyed Try.prog 24 := Keyed.of_law (deep_law_laid laidOut (m := 3) (by omega) (of_decide_eq_true (by kernel_rfl)) (by kernel_rfl) (by kernel_rfl))
theorem key24 {a b : ByteArray} (ha : a.size ≤ maxLen) (hb : b.size ≤ maxLen) : ∃ l, keyOf Try.prog 24 (.agg #[.string a, .string b]) = some l := by
  have hkt : Try.prog.keyType 24 = true := by kernel_rfl
  have hc24 : Try.prog.cellsOf 24 = 2 := by kernel_rfl
  have hc9 : Try.prog.cellsOf 9 = 1 := by kernel_rfl
  obtain ⟨d, hty⟩ : ∃ d, Try.prog.types.size + 1 = d + 1 + 1 := ⟨101, by
    have : Try.prog.types.size = 102 := by kernel_rfl
    omega⟩
  unfold keyOf
  rw [Try.underlying24, hty]
  simp only [hkt, Value.formed, Try.underlying24, hc24]
  simp [Program.keyLits, Try.underlying24, Try.underlying9, Value.cells, hc24, hc9, ha, hb]

theorem make62 (w : World) (n : Nat) : (Instr.makeMap 62 (some (.int .i64 n))).run Try.prog w = .ok (.map (some w.heap.size)) (w.alloc (.map #[] 0)) := by
  simp [Instr.makeMap, run_underlying Try.underlying62, asInt, asIntOf, Result.andThen]

theorem results_ident {tmps : Array Value} {w : World} {R : Nat} {a b : ByteArray} (hp : tmps.getD 2 undef = .pointer (some ⟨R, 0, none⟩))
    (h1 : w.cell? ⟨R, 0, none⟩ = some (.string a)) (h2 : w.cell? ⟨R, 1, none⟩ = some (.string b)) : (results Try.f44 tmps).run Try.prog w = .ok (.agg #[.string a, .string b]) w := by
  have hp' : tmps[2]?.getD undef = .pointer (some ⟨R, 0, none⟩) := by simpa using hp
  simp [results, hp', asAddr, load24 h1 h2]

set_option maxHeartbeats 1000000 in
theorem ident_any (W : World) (nm vl : ByteArray) : Calls Try.prog 44 #[.agg #[.string nm, .string vl]] W fun e w' => e = .returned (.agg #[.string nm, .string vl]) ∧ Below W.heap.size W w' := by
  obtain ⟨V, hV⟩ : ∃ V, W.alloc (.cells #[.string nm, .string vl] 24) = V := ⟨_, rfl⟩
  have hbV : Below W.heap.size W V := by rw [← hV]; exact (Below.refl _ _).alloc (Nat.le_refl _) _
  have hnew : V.heap[W.heap.size]? = some (.cells #[.string nm, .string vl] 24 (0, 0)) := by rw [← hV]; exact heap_alloc_new _ _
  have hVl : W.heap.size < V.heap.size := (Array.getElem?_eq_some_iff.1 hnew).1
  have d1 : V.cell? ⟨W.heap.size, 0, none⟩ = some (.string nm) := by simp [World.cell?, hnew]
  have d2 : V.cell? ⟨W.heap.size, 1, none⟩ = some (.string vl) := by simp [World.cell?, hnew]
  have HV : Hid (Below W.heap.size W V) := hbV
  clear hnew hbV
  go_enter Try.func44, Try.ntmps44
  go_wp2_with fail
  clear hV
  obtain ⟨U, hU⟩ : ∃ U, V.alloc (.cells #[.string nm, .string vl] 24) = U := ⟨_, rfl⟩
  have hbU : Below V.heap.size V U := by rw [← hU]; exact (Below.refl _ _).alloc (Nat.le_refl _) _
  have hnU : U.heap[V.heap.size]? = some (.cells #[.string nm, .string vl] 24 (0, 0)) := by rw [← hU]; exact heap_alloc_new _ _
  rw [hU]
  have u0 : U.cell? ⟨V.heap.size, 0, none⟩ = some (.string nm) := by simp [World.cell?, hnU]
  have u1 : U.cell? ⟨V.heap.size, 1, none⟩ = some (.string vl) := by simp [World.cell?, hnU]
  exact bodyPost_ret (results_ident rfl u0 u1) rfl ⟨rfl, HV.out.trans (hbU.mono HV.out.size)⟩

set_option maxHeartbeats 2000000 in
theorem keys24_any {w : World} {ao : Option Addr} {L : List At} (n cap : Nat) (ha : AtRow w ao L) (hn : L.length = n) (hn2 : n ≤ 900) (hfine : Fine L) :
    Calls Try.prog 43 #[.slice ao n cap, .func (.func 44) #[] #[]] w fun e w' => ∃ m, e = .returned (.map (some m)) ∧ w.heap.size ≤ m ∧ SetIs 24 w' m n (fun v => ∃ x ∈ L, v = .agg #[.string x.n, .string x.v]) ∧ Below w.heap.size w w' := by
  have HA : Hid (AtRow w ao L ∧ L.length = n ∧ Fine L) := ⟨ha, hn, hfine⟩
  clear ha hn hfine
  have hmm := make62
  obtain ⟨V, hV⟩ : ∃ V, w.alloc (.map #[] 0) = V := ⟨_, rfl⟩
  have HV : Hid (SetIs 24 V w.heap.size 0 (fun _ => False) ∧ Below w.heap.size w V) := by
    rw [← hV]
    exact ⟨set_made 24 w, (Below.refl _ _).alloc (Nat.le_refl _) _⟩
  go_enter Try.func43, Try.ntmps43
  go_wp2_with fail
  clear hmm hV
  go_loopg [13] n (fun g2 iv wr => ∃ i : Nat, iv = .int .i64 i ∧ i + g2 = n ∧ SetIs 24 wr w.heap.size i (fun v => ∃ x ∈ L.take i, v = .agg #[.string x.n, .string x.v]) ∧ Below w.heap.size w wr)
  case atStart => exact ⟨0, rfl, by omega, HV.out.1.iff (fun v => by simp), HV.out.2⟩
  case round =>
    obtain ⟨i, rfl, hig, hgi, hbe⟩ := hrel
    have HG : Hid (SetIs 24 wr w.heap.size i (fun v => ∃ x ∈ L.take i, v = .agg #[.string x.n, .string x.v]) ∧ Below w.heap.size w wr) := ⟨hgi, hbe⟩
    clear hgi hbe
    cases gk with
    | zero =>
      obtain rfl : i = n := by omega
      have hg0 : decide ((i : Int) < (i : Int)) = false := decide_eq_false (by omega)
      go_wp2_with fail
      go_ret
      have h := HG.out
      rw [List.take_of_length_le (by rw [HA.out.2.1]; exact Nat.le_refl _)] at h
      exact ⟨w.heap.size, rfl, Nat.le_refl _, h⟩
    | succ k =>
      have hin : i < n := by omega
      obtain ⟨x, hx⟩ : ∃ x, L[i]? = some x := ⟨_, List.getElem?_eq_getElem (by rw [HA.out.2.1]; exact hin)⟩
      obtain ⟨b1, o1, rfl, h1, c1, c2⟩ := (HA.out.1.below HG.out.2) i x hx
      have HT : Hid (L.take (i + 1) = L.take i ++ [x]) := take_at hx
      have hsz := HA.out.2.2 x (List.mem_of_getElem? hx)
      clear hx
      obtain ⟨nm, vl⟩ := x
      simp only at c1 c2 hsz
      obtain ⟨kl, hkey⟩ := key24 hsz.1 hsz.2
      obtain ⟨V1, hV1⟩ : ∃ V1, wr.alloc (.cells #[.string nm, .string vl] 24) = V1 := ⟨_, rfl⟩
      have b1' : Below wr.heap.size wr V1 := by rw [← hV1]; exact (Below.refl _ _).alloc (Nat.le_refl _) _
      have HV1 : Hid (Below wr.heap.size wr V1) := b1'
      have hVn : V1.heap[wr.heap.size]? = some (.cells #[.string nm, .string vl] 24 (0, 0)) := by rw [← hV1]; exact heap_alloc_new _ _
      have d0 : V1.cell? ⟨wr.heap.size, 0, none⟩ = some (.string nm) := by simp [World.cell?, hVn]
      have d1 : V1.cell? ⟨wr.heap.size, 1, none⟩ = some (.string vl) := by simp [World.cell?, hVn]
      clear hVn b1' hsz
      go_wp2_with fail
      refine (ident_any V1 nm vl).mono ?_
      rintro e w1 ⟨rfl, q⟩
      clear hV1 d0 d1 c1 c2 h1
      have hw1 : Below wr.heap.size wr w1 := HV1.out.trans (q.mono HV1.out.size)
      have hset : SetIs 24 w1 w.heap.size i (fun v => ∃ x ∈ L.take i, v = .agg #[.string x.n, .string x.v]) := HG.out.1.below hw1
      have HB1 : Hid (Below w.heap.size w w1) := HG.out.2.trans (hw1.mono HG.out.2.size)
      clear q hw1
      go_wp2_with (at_mapUpdate; refine wpList_put_set law24 Try.underlying62 rfl _ _ _ rfl w.heap.size i rfl hset (by unfold maxLen; omega) _ _ rfl rfl hkey ?_; intro w2 hs2 hg2)
      have HN : Hid (SetIs 24 w2 w.heap.size (i + 1) (fun v => ∃ x ∈ L.take (i + 1), v = .agg #[.string x.n, .string x.v]) ∧ Below w.heap.size w w2) := by
        refine ⟨hs2.iff fun v => ?_, HB1.out.grown hg2 HB1.out.size (fun j hj => by cases hj; exact Nat.le_refl _)⟩
        rw [HT.out]
        simp only [List.mem_append, List.mem_singleton]
        constructor
        · rintro (⟨x, h1, h2⟩ | h)
          · exact ⟨x, .inl h1, h2⟩
          · exact ⟨_, .inr rfl, h⟩
        · rintro ⟨x, h1 | h1, h2⟩
          · exact .inl ⟨x, h1, h2⟩
          · subst h1; exact .inr h2
      clear hs2 hg2 hset
      go_roundg k
      case measure => omega
      case rel => exact ⟨i + 1, by go_num, by omega, HN.out⟩


theorem in_key {L : List At} {nm vl : ByteArray} : (∃ x ∈ L, Value.agg #[.string nm, .string vl] = .agg #[.string x.n, .string x.v]) ↔ inP ⟨nm, vl⟩ L = true := by
  rw [in_iff]
  constructor
  · rintro ⟨x, h1, h2⟩
    simp only [Value.agg.injEq, Array.mk.injEq, List.cons.injEq, Value.string.injEq, and_true] at h2
    obtain ⟨rfl, rfl⟩ := h2
    exact h1
  · exact fun h => ⟨_, h, rfl⟩

set_option maxHeartbeats 1000000 in
/-- holder's second way: a set is asked. -/
theorem hold3_any {W : World} {c m k : Nat} {L : List At} (nm vl : ByteArray) (hc : c < W.heap.size) (h0 : W.cell? ⟨c, 0, none⟩ = some (.map (some m))) (hs : SetIs 24 W m k (fun v => ∃ x ∈ L, v = .agg #[.string x.n, .string x.v])) (hn : nm.size ≤ maxLen) (hv : vl.size ≤ maxLen) :
    Calls Try.prog 45 #[.agg #[.string nm, .string vl], .pointer (some ⟨c, 0, none⟩)] W fun e w' => e = .returned (.bool (inP ⟨nm, vl⟩ L)) ∧ Below W.heap.size W w' := by
  obtain ⟨kl, hkey⟩ := key24 hn hv
  obtain ⟨V, hV⟩ : ∃ V, W.alloc (.cells #[.string nm, .string vl] 24) = V := ⟨_, rfl⟩
  have hbV : Below W.heap.size W V := by rw [← hV]; exact (Below.refl _ _).alloc (Nat.le_refl _) _
  have hnew : V.heap[W.heap.size]? = some (.cells #[.string nm, .string vl] 24 (0, 0)) := by rw [← hV]; exact heap_alloc_new _ _
  have d1 : V.cell? ⟨W.heap.size, 0, none⟩ = some (.string nm) := by simp [World.cell?, hnew]
  have d2 : V.cell? ⟨W.heap.size, 1, none⟩ = some (.string vl) := by simp [World.cell?, hnew]
  have d3 := (hbV.cell (p := ⟨c, 0, none⟩) hc).trans h0
  have HV : Hid (Below W.heap.size W (V.alloc (.cells #[] 48))) := hbV.alloc hbV.size _
  have hsV := hs.below hbV
  obtain ⟨g, hg0⟩ : ∃ g, inP ⟨nm, vl⟩ L = g := ⟨_, rfl⟩
  have hr : g = true ↔ ∃ x ∈ L, Value.agg #[.string nm, .string vl] = .agg #[.string x.n, .string x.v] := by rw [← hg0]; exact in_key.symm
  rw [hg0]
  clear hg0 hnew hbV hs
  go_enter Try.func45, Try.ntmps45
  go_wp2_with (at_lookup; refine wpList_look_set law24 Try.underlying62 rfl _ _ rfl m k rfl hsV _ _ rfl hkey g hr ?_)
  go_ret
  exact ⟨rfl, HV.out⟩

theorem enters37 : ∀ args w, (callFunc 37 args).run Try.prog w = .ok (.enter 37 args) w := enters_of Try.func37 (by kernel_rfl) rfl
theorem enters41 : ∀ args w, (callFunc 41 args).run Try.prog w = .ok (.enter 41 args) w := enters_of Try.func41 (by kernel_rfl) rfl
theorem enters45 : ∀ args w, (callFunc 45 args).run Try.prog w = .ok (.enter 45 args) w := enters_of Try.func45 (by kernel_rfl) rfl

/-- As Fits, for attributes whose texts are no longer than a string may be. -/
def FitsF (w0 : World) (g c : Nat) (p : At → Bool) : Prop :=
  ∀ W, Below w0.heap.size w0 W → ∀ nm vl : ByteArray, nm.size ≤ maxLen → vl.size ≤ maxLen → Calls Try.prog g #[.agg #[.string nm, .string vl], .pointer (some ⟨c, 0, none⟩)] W fun e w' => e = .returned (.bool (p ⟨nm, vl⟩)) ∧ Below W.heap.size W w'

/-- What holder hands back: a function that tells what stands in L. -/
def Holder (w : World) (v : Value) (L : List At) : Prop := ∃ g c, v = .func (.func g) #[] #[.pointer (some ⟨c, 0, none⟩)] ∧ (∀ args w, (callFunc g args).run Try.prog w = .ok (.enter g args) w) ∧ FitsF w g c (fun x => inP x L)

set_option maxHeartbeats 2000000 in
theorem holder_any {w : World} {ao : Option Addr} {L : List At} (n cap : Nat) (ha : AtRow w ao L) (hn : L.length = n) (hn2 : n ≤ 900) (hL : Fine L) :
    Calls Try.prog 36 #[.slice ao n cap] w fun e w' => ∃ v, e = .returned v ∧ Holder w' v L ∧ Below w.heap.size w w' := by
  obtain ⟨V, hV⟩ : ∃ V, w.alloc (.cells #[.slice ao n cap] 22) = V := ⟨_, rfl⟩
  obtain ⟨hVl, d0, bV⟩ := one_slot _ hV
  have HA : Hid (AtRow V ao L ∧ L.length = n ∧ Fine L ∧ Below w.heap.size w V) := ⟨ha.below bV, hn, hL, bV⟩
  clear ha hn hL bV
  by_cases h8 : n ≤ 8
  · have hd : decide ((n : Int) ≤ 8) = true := decide_eq_true (by omega)
    go_enter Try.func36, Try.ntmps36
    go_wp2_with fail
    go_ret
    refine ⟨_, rfl, ⟨41, w.heap.size, rfl, enters41, fun W bW nm vl _ _ => ?_⟩, HA.out.2.2.2⟩
    exact hold1_any n cap nm vl (Nat.lt_of_lt_of_le hVl bW.size) ((bW.cell (p := ⟨w.heap.size, 0, none⟩) hVl).trans d0) (HA.out.1.below bW) HA.out.2.1 (by omega)
  · have hd : decide ((n : Int) ≤ 8) = false := decide_eq_false (by omega)
    have hk := keys24_any n cap HA.out.1 HA.out.2.1 hn2 HA.out.2.2.1
    go_enter Try.func36, Try.ntmps36
    go_wp2_with fail
    refine hk.mono ?_
    rintro e w1 ⟨m, rfl, hm, hs, b1⟩
    clear hk hV
    obtain ⟨U, hU⟩ : ∃ U, w1.alloc (.cells #[.map (some m)] 62) = U := ⟨_, rfl⟩
    have hnU : U.heap[w1.heap.size]? = some (.cells #[.map (some m)] 62 (0, 0)) := by rw [← hU]; exact heap_alloc_new _ _
    have bU : Below w1.heap.size w1 U := by rw [← hU]; exact (Below.refl _ _).alloc (Nat.le_refl _) _
    have hUl : w1.heap.size < U.heap.size := (Array.getElem?_eq_some_iff.1 hnU).1
    have u0 : U.cell? ⟨w1.heap.size, 0, none⟩ = some (.map (some m)) := by simp [World.cell?, hnU]
    have HU : Hid (SetIs 24 U m n (fun v => ∃ x ∈ L, v = .agg #[.string x.n, .string x.v]) ∧ Below w.heap.size w U ∧ U.cell? ⟨w1.heap.size, 0, none⟩ = some (.map (some m))) := by
      have b := HA.out.2.2.2.trans (b1.mono HA.out.2.2.2.size)
      exact ⟨hs.below bU, b.trans (bU.mono b.size), u0⟩
    clear hs b1 bU hnU u0
    go_wp2_with fail
    go_ret
    refine ⟨_, rfl, ⟨45, w1.heap.size, rfl, enters45, fun W bW nm vl h1 h2 => ?_⟩, HU.out.2.1⟩
    exact hold3_any nm vl (Nat.lt_of_lt_of_le hUl bW.size) ((bW.cell (p := ⟨w1.heap.size, 0, none⟩) hUl).trans HU.out.2.2) (HU.out.1.below bW) h1 h2

set_option maxHeartbeats 1000000 in
theorem with1_any {W : World} {c : Nat} {v : Value} {L : List At} (nm vl : ByteArray) (hc : c < W.heap.size) (h0 : W.cell? ⟨c, 0, none⟩ = some v) (hv : Holder W v L) (hn : nm.size ≤ maxLen) (hvl : vl.size ≤ maxLen) :
    Calls Try.prog 37 #[.agg #[.string nm, .string vl], .pointer (some ⟨c, 0, none⟩)] W fun e w' => e = .returned (.bool (!inP ⟨nm, vl⟩ L)) ∧ Below W.heap.size W w' := by
  obtain ⟨g, c2, rfl, eg, hf⟩ := hv
  obtain ⟨V, hV⟩ : ∃ V, W.alloc (.cells #[.string nm, .string vl] 24) = V := ⟨_, rfl⟩
  have hbV : Below W.heap.size W V := by rw [← hV]; exact (Below.refl _ _).alloc (Nat.le_refl _) _
  have hnew : V.heap[W.heap.size]? = some (.cells #[.string nm, .string vl] 24 (0, 0)) := by rw [← hV]; exact heap_alloc_new _ _
  have d1 : V.cell? ⟨W.heap.size, 0, none⟩ = some (.string nm) := by simp [World.cell?, hnew]
  have d2 : V.cell? ⟨W.heap.size, 1, none⟩ = some (.string vl) := by simp [World.cell?, hnew]
  have d3 := (hbV.cell (p := ⟨c, 0, none⟩) hc).trans h0
  have HV : Hid (Below W.heap.size W V) := hbV
  have hi := hf V hbV nm vl hn hvl
  simp only at hi
  obtain ⟨r, hr⟩ : ∃ r, inP ⟨nm, vl⟩ L = r := ⟨_, rfl⟩
  rw [hr] at hi ⊢
  clear hr hnew hbV hf
  go_enter Try.func37, Try.ntmps37
  go_wp2_with fail
  clear hV
  refine hi.mono ?_
  rintro e w1 ⟨rfl, b1⟩
  clear hi
  have H1 : Hid (Below W.heap.size W w1) := HV.out.trans (b1.mono HV.out.size)
  clear b1
  go_wp2_with fail
  go_ret
  exact ⟨rfl, H1.out⟩

theorem find_not {A B : List At} : (!(A.find? fun x => !inP x B).isSome) = withinP A B := by
  rw [Bool.eq_iff_iff]
  unfold withinP
  rw [List.all_eq_true, Bool.not_eq_true', ← Bool.not_eq_true, List.find?_isSome]
  constructor
  · intro h x hx
    cases e : inP x B with
    | true => rfl
    | false => exact absurd ⟨x, hx, by rw [e]; rfl⟩ h
  · rintro h ⟨x, hx, h2⟩
    rw [h x hx] at h2
    cases h2

set_option maxHeartbeats 1000000 in
theorem within_any {w : World} {ao bo : Option Addr} {A B : List At} (n m ca cb : Nat) (ha : AtRow w ao A) (hb : AtRow w bo B) (hn : A.length = n) (hm : B.length = m) (hn2 : n ≤ 900) (hm2 : m ≤ 900) (hA : Fine A) (hB : Fine B) :
    Calls Try.prog 28 #[.slice ao n ca, .slice bo m cb] w fun e w' => e = .returned (.bool (withinP A B)) ∧ Below w.heap.size w w' := by
  have hh := holder_any m cb hb hm hm2 hB
  have HA : Hid (AtRow w ao A ∧ A.length = n ∧ Fine A) := ⟨ha, hn, hA⟩
  rw [← find_not]
  clear ha hn hA hb hm hB
  go_enter Try.func28, Try.ntmps28
  go_wp2_with fail
  refine hh.mono ?_
  rintro e w1 ⟨v, rfl, hv, b1⟩
  clear hh
  obtain ⟨U, hU⟩ : ∃ U, w1.alloc (.cells #[v] 41) = U := ⟨_, rfl⟩
  have hnU : U.heap[w1.heap.size]? = some (.cells #[v] 41 (0, 0)) := by rw [← hU]; exact heap_alloc_new _ _
  have bU : Below w1.heap.size w1 U := by rw [← hU]; exact (Below.refl _ _).alloc (Nat.le_refl _) _
  have hUl : w1.heap.size < U.heap.size := (Array.getElem?_eq_some_iff.1 hnU).1
  have u0 : U.cell? ⟨w1.heap.size, 0, none⟩ = some v := by simp [World.cell?, hnU]
  have bwU : Below w.heap.size w U := b1.trans (bU.mono b1.size)
  have hfits : Fits U 37 w1.heap.size (fun x => !inP x B) A := fun W bW nm vl hmem =>
    with1_any nm vl (Nat.lt_of_lt_of_le hUl bW.size) ((bW.cell (p := ⟨w1.heap.size, 0, none⟩) hUl).trans u0) (by
      obtain ⟨g, c, e, eg, hf⟩ := hv
      exact ⟨g, c, e, eg, fun W' bW' => hf W' ((bU.trans (bW.mono bU.size)).trans (bW'.mono (Nat.le_trans bU.size bW.size)))⟩) (HA.out.2.2 _ hmem).1 (HA.out.2.2 _ hmem).2
  have hf := first_any n ca 37 w1.heap.size _ enters37 hfits (HA.out.1.below bwU) HA.out.2.1 (by omega)
  obtain ⟨r, hr⟩ : ∃ r, A.find? (fun x => !inP x B) = r := ⟨_, rfl⟩
  rw [hr] at hf
  obtain ⟨d, hd⟩ : ∃ d, r.isSome = d := ⟨_, rfl⟩
  rw [hd] at hf
  have HU : Hid (Below w.heap.size w U ∧ (A.find? (fun x => !inP x B)).isSome = d) := ⟨bwU, by rw [hr]; exact hd⟩
  obtain ⟨g, c, rfl, _⟩ := hv
  clear hfits bU bwU hnU u0 b1 hr hd
  go_wp2_with fail
  refine hf.mono ?_
  rintro e w2 ⟨rfl, q⟩
  clear hf hU
  have H2 : Hid (Below w.heap.size w (w2.alloc (.cells #[.string (gn r), .string (gv r)] 24))) := by
    have b := HU.out.1.trans (q.mono HU.out.1.size)
    exact b.alloc b.size _
  clear q
  go_wp2_with fail
  go_ret
  rw [HU.out.2]
  exact ⟨rfl, H2.out⟩

set_option maxHeartbeats 1000000 in
theorem same_any {w : World} {ao bo : Option Addr} {A B : List At} (n m ca cb : Nat) (ha : AtRow w ao A) (hb : AtRow w bo B) (hn : A.length = n) (hm : B.length = m) (hn2 : n ≤ 900) (hm2 : m ≤ 900) (hA : Fine A) (hB : Fine B) :
    Calls Try.prog 17 #[.slice ao n ca, .slice bo m cb] w fun e w' => e = .returned (.bool (sameP A B)) ∧ Below w.heap.size w w' := by
  by_cases hnm : n = m
  · subst hnm
    have e : sameP A B = (withinP A B && withinP B A) := by
      unfold sameP
      rw [hn, hm]
      simp
    rw [e]
    have k1 := within_any n n ca cb ha hb hn hm hn2 hm2 hA hB
    have HA : Hid (AtRow w ao A ∧ AtRow w bo B ∧ A.length = n ∧ B.length = n ∧ Fine A ∧ Fine B) := ⟨ha, hb, hn, hm, hA, hB⟩
    obtain ⟨r1, hr1⟩ : ∃ r, withinP A B = r := ⟨_, rfl⟩
    obtain ⟨r2, hr2⟩ : ∃ r, withinP B A = r := ⟨_, rfl⟩
    have HR : Hid (withinP B A = r2) := hr2
    rw [hr1] at k1 ⊢
    rw [hr2]
    clear hr1 hr2 ha hb hn hm hA hB e
    go_enter Try.func17, Try.ntmps17
    go_wp2_with fail
    refine k1.mono ?_
    rintro e w1 ⟨rfl, b1⟩
    clear k1
    have k2 := within_any n n cb ca (HA.out.2.1.below b1) (HA.out.1.below b1) HA.out.2.2.2.1 HA.out.2.2.1 hn2 hn2 HA.out.2.2.2.2.2 HA.out.2.2.2.2.1
    rw [HR.out] at k2
    have H1 : Hid (Below w.heap.size w w1) := b1
    clear b1
    cases r1 with
    | false =>
      go_wp2_with fail
      go_ret
      exact ⟨rfl, H1.out⟩
    | true =>
      go_wp2_with fail
      refine k2.mono ?_
      rintro e w2 ⟨rfl, b2⟩
      clear k2
      have H2 : Hid (Below w.heap.size w w2) := H1.out.trans (b2.mono H1.out.size)
      clear b2
      go_wp2_with fail
      go_ret
      exact ⟨by simp, H2.out⟩
  · have e : sameP A B = false := by
      unfold sameP
      rw [hn, hm, decide_eq_false hnm]
      rfl
    rw [e]
    have hne : ((n : Int) == (m : Int)) = false := by simp; omega
    clear ha hb hn hm hA hB e
    go_enter Try.func17, Try.ntmps17
    go_wp2_with fail
    go_ret
    exact ⟨rfl, Below.refl _ _⟩
end Go.Proofs.Ytibndgembpcdgaa
