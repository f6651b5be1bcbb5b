/- What each call says of its stack, as a pair of calls wants it. -/
import Derived.Test.YtkmghkfdegdikaaDoorCg
namespace Go.Proofs.YtkmghkfdegdikaaDoor
open Go.RowKit

/-- A plain answer. -/
def IsV (a : Value) (_ : World) (v : Value) (_ : World) : Prop := v = a
theorem isV_stb (a : Value) : ∀ A v V V', IsV a A v V → Stb A V V' → IsV a A v V' := fun _ _ _ _ h _ => h
/-- A row of elements, new. -/
def NewRow (O : List El) (V : World) (v : Value) (V' : World) : Prop := Rw (fun k => k < V.heap.size) V' 34 4 v O.length (O.flatMap El.cs) ∧ ∀ d ∈ O, Own V' d.av d.al
theorem newRow_stb (O : List El) : ∀ A v V V', NewRow O A v V → Stb A V V' → NewRow O A v V' := fun A v V V' h s =>
  ⟨h.1.mv fun g hg => by
    obtain ⟨_, c, h5⟩ := own_blk h.1.own hg
    exact s.2 g c 34 h5 (.inl (Nat.not_lt.1 (h.1.out g hg))), fun d hd => (h.2 d hd).mv fun g cur hg => s.2 g cur 71 hg (.inr rfl)⟩
theorem NewRow.is {O : List El} {A V : World} {v : Value} (h : NewRow O A v V) : RowIs V v O := ⟨h.1.sub (fun _ hf => hf.elim), h.2⟩

section
variable {Z : Nat → Prop} {w : World} {x y : Nat} {rv lv : Value} {M N : List El}
theorem p_has (hM : M.length ≤ 1000000) (s : Int) {no : Option Addr} {nl : List ByteArray} (hn : ∀ V, Keep Z w V → StrRow V no nl) (n nc : Nat) (hnl : nl.length = n) (hnf : n ≤ 9223372036854775807) :
    PCall Z w x rv M 19 #[ptr x, iv s, .slice no n nc] (fun M' => M' = M) (IsV (.bool (hasS nl s M.reverse))) := fun V kV h =>
  (has_any h (by omega) s (hn V kV) n nc hnl hnf).mono (by
    rintro e V' ⟨rfl, b⟩
    exact ⟨_, rv, M, rfl, h.old b, Keep.old b, rfl, rfl⟩)
theorem q_has (hN : N.length ≤ 1000000) (s : Int) {no : Option Addr} {nl : List ByteArray} (hn : ∀ V, Keep Z w V → StrRow V no nl) (n nc : Nat) (hnl : nl.length = n) (hnf : n ≤ 9223372036854775807) :
    QCall Z w y lv N 30 #[ptr y, iv s, .slice no n nc] (fun N' => N' = N) (IsV (.bool (hasS nl s N.reverse))) := fun V kV h =>
  (rhas_any h (by omega) s (hn V kV) n nc hnl hnf).mono (by
    rintro e V' ⟨rfl, b⟩
    exact ⟨_, lv, N, rfl, h.old b, Keep.old b, rfl, rfl⟩)
theorem p_find (hM : M.length ≤ 1000000) (a : Int) : PCall Z w x rv M 25 #[ptr x, iv a] (fun M' => M' = M) (IsV (iv (fnd a M M.length))) := fun V _ h =>
  (find_any h (by omega) a).mono (by
    rintro e V' ⟨rfl, rfl⟩
    exact ⟨_, rv, M, rfl, h, Keep.refl _ _, rfl, rfl⟩)
theorem q_find (hN : N.length ≤ 1000000) (a : Int) : QCall Z w y lv N 36 #[ptr y, iv a] (fun N' => N' = N) (IsV (iv (fnd a N N.length))) := fun V _ h =>
  (rfind_any h (by omega) a).mono (by
    rintro e V' ⟨rfl, rfl⟩
    exact ⟨_, lv, N, rfl, h, Keep.refl _ _, rfl, rfl⟩)
theorem p_rem (hM : M.length ≤ 1000000) (a : Int) : PCall Z w x rv M 24 #[ptr x, iv a] (fun M' => M' = remP a M) (IsV (.bool (decide (0 ≤ fnd a M M.length)))) := fun V _ h =>
  (remove_any h (by omega) a).mono (by
    rintro e V' ⟨rfl, ⟨rv', s'⟩, k'⟩
    exact ⟨_, rv', _, rfl, s', k', rfl, rfl⟩)
theorem q_rem (hN : N.length ≤ 1000000) (a : Int) : QCall Z w y lv N 34 #[ptr y, iv a] (fun N' => N' = remP a N) (IsV (.bool (decide (0 ≤ fnd a N N.length)))) := fun V _ h =>
  (rremove_any h (by omega) a).mono (by
    rintro e V' ⟨rfl, ⟨rv', s'⟩, k'⟩
    exact ⟨_, rv', _, rfl, s', k', rfl, rfl⟩)
theorem p_abv (hM : M.length ≤ 1000000) (a : Int) (d : El) (hd : ∀ V, Keep Z w V → Ats V d.av d.al) : PCall Z w x rv M 26 #[ptr x, iv a, .agg d.arr] (fun M' => ∃ v, M' = abvP a M { d with av := v }) (IsV (.bool (decide (0 ≤ fnd a M M.length)))) := fun V kV h =>
  (above_any h (by omega) a d (hd V kV)).mono (by
    rintro e V' ⟨rfl, ⟨v, rv', s'⟩, k'⟩
    exact ⟨_, rv', _, rfl, s', k', ⟨v, rfl⟩, rfl⟩)
theorem q_abv (hN : N.length ≤ 1000000) (a : Int) (d : El) (hd : ∀ V, Keep Z w V → Ats V d.av d.al) : QCall Z w y lv N 35 #[ptr y, iv a, .agg d.arr] (fun N' => ∃ v, N' = abvP a N { d with av := v }) (IsV (.bool (decide (0 ≤ fnd a N N.length)))) := fun V kV h =>
  (rabove_any h (by omega) a d (hd V kV)).mono (by
    rintro e V' ⟨rfl, ⟨v, rv', s'⟩, k'⟩
    exact ⟨_, rv', _, rfl, s', k', ⟨v, rfl⟩, rfl⟩)
theorem len_dr (M : List El) (k : Nat) : (M.drop k).reverse.length = M.length - k := by rw [List.length_reverse, List.length_drop]
theorem p_imp (hM : M.length ≤ 1000000) (hT : ∀ V, Keep Z w V → Tb V) (but : ByteArray) : PCall Z w x rv M 20 #[ptr x, .string but] (fun M' => M' = M.take (leftI but M M.length)) (NewRow (M.drop (leftI but M M.length)).reverse) := fun V kV h =>
  (implied_pop (hT V kV) h (by omega) but).mono (by
    rintro e V' ⟨v, rv', rfl, s', k', r', o'⟩
    exact ⟨v, rv', _, rfl, s', k', rfl, by rw [len_dr]; exact r', fun d hd => o' d (List.drop_subset _ _ (List.mem_reverse.1 hd))⟩)
theorem q_imp (hN : N.length ≤ 1000000) (but : ByteArray) : QCall Z w y lv N 32 #[ptr y, .string but] (fun N' => N' = N.take (leftI but N N.length)) (NewRow (N.drop (leftI but N N.length)).reverse) := fun V _ h =>
  (rimplied_pop h (by omega) but).mono (by
    rintro e V' ⟨v, rfl, ⟨rv', s'⟩, k', r', o'⟩
    exact ⟨v, rv', _, rfl, s', k', rfl, by rw [len_dr]; exact r', fun d hd => o' d (List.mem_reverse.1 hd)⟩)
theorem p_unt (hM : M.length ≤ 1000000) {no : Option Addr} {nl : List ByteArray} (hn : ∀ V, Keep Z w V → StrRow V no nl) (n nc : Nat) (hnl : nl.length = n) (hnf : n ≤ 9223372036854775807) : PCall Z w x rv M 23 #[ptr x, .slice no n nc] (fun M' => M' = M.take (leftU nl M (M.length - 1))) (NewRow (M.drop (leftU nl M (M.length - 1))).reverse) := fun V kV h =>
  (until_any h (by omega) (hn V kV) n nc hnl hnf).mono (by
    rintro e V' ⟨v, rv', rfl, s', k', r', o'⟩
    exact ⟨v, rv', _, rfl, s', k', rfl, by rw [len_dr]; exact r', fun d hd => o' d (List.drop_subset _ _ (List.mem_reverse.1 hd))⟩)
theorem q_unt (hN : N.length ≤ 1000000) {no : Option Addr} {nl : List ByteArray} (hz : ∀ V, Keep Z w V → ∀ k, Z k → k < V.heap.size ∧ k ≠ y ∧ lv.ownBlock ≠ some k) (hn : ∀ V, Keep Z w V → StrRow V no nl) (n nc : Nat) (hnl : nl.length = n) (hnf : n ≤ 9223372036854775807) : QCall Z w y lv N 33 #[ptr y, .slice no n nc] (fun N' => N' = N.take (leftU nl N (N.length - 1))) (NewRow (N.drop (leftU nl N (N.length - 1))).reverse) := fun V kV h =>
  (runtil_any h (by omega) (fun V2 k2 => hn V2 (kV.trans (k2.sub fun k hk => hz V kV k hk))) n nc hnl hnf).mono (by
    rintro e V' ⟨v, rfl, ⟨rv', s'⟩, k', r', o'⟩
    exact ⟨v, rv', _, rfl, s', k', rfl, by rw [len_dr]; exact r', fun d hd => o' d (List.mem_reverse.1 hd)⟩)
end
/-- What Do answers and leaves. -/
def DoIs (Z : Nat → Prop) (w : World) (x y : Nat) (M N : List El) (e : Ending) (w' : World) : Prop :=
  ∃ r : Int, e = .returned (iv r) ∧ ∃ rv lv M' N', Two Z w' x y rv lv M' N' ∧ Keep Z w w' ∧ M'.length ≤ M.length + 1 ∧ N'.length ≤ N.length + 1 ∧ (M.map El.pu = N.map El.pu → r = 1 ∧ M'.map El.pu = N'.map El.pu)
/-- With one block more that is held fast. -/
def Wide (Z : Nat → Prop) (b : Nat) (k : Nat) : Prop := Z k ∨ k = b
theorem Two.wide {Z : Nat → Prop} {w W0 : World} {x y : Nat} {rv lv : Value} {M N : List El} (t : Two Z w x y rv lv M N) (b : Below w.heap.size w W0) (hl : w.heap.size < W0.heap.size) : Two (Wide Z w.heap.size) W0 x y rv lv M N := by
  have t0 := t.old b
  have hx := t.p.lt
  have hy := t.q.lt
  refine ⟨⟨fun k hk => ?_, t0.p.blk, fun hk => ?_, ⟨t0.p.row.own, fun g hg hk => ?_⟩, t0.p.own⟩, ⟨fun k hk => ?_, t0.q.blk, fun hk => ?_, ⟨t0.q.row.own, fun g hg hk => ?_⟩, t0.q.own⟩, t.ap⟩
  · rcases hk with hk | rfl
    · exact t0.p.low k hk
    · exact hl
  · rcases hk with hk | hk
    · exact t.p.out hk
    · omega
  · rcases hk with hk | rfl
    · exact t.p.row.out g hg hk
    · exact Nat.lt_irrefl _ (own_blk t.p.row.own hg).1
  · rcases hk with hk | rfl
    · exact t0.q.low k hk
    · exact hl
  · rcases hk with hk | hk
    · exact t.q.out hk
    · omega
  · rcases hk with hk | rfl
    · exact t.q.row.out g hg hk
    · exact Nat.lt_irrefl _ (own_blk t.q.row.own hg).1
theorem Two.sub {Z U : Nat → Prop} {w : World} {x y : Nat} {rv lv : Value} {M N : List El} (t : Two Z w x y rv lv M N) (k : ∀ i, U i → Z i) : Two U w x y rv lv M N := ⟨t.p.sub k, t.q.sub k, t.ap⟩
/-- From what holds behind both calls to what Do leaves. -/
theorem Fin2.doIs {Z : Nat → Prop} {w W0 V2 : World} {x y : Nat} {M N : List El} {PM QN : List El → Prop} {PR QR : World → Value → World → Prop} {v u : Value} (h : Fin2 (Wide Z w.heap.size) W0 x y PM QN PR QR v u V2) (b : Below w.heap.size w W0) (hp : ∀ M', PM M' → M'.length ≤ M.length + 1) (hq : ∀ N', QN N' → N'.length ≤ N.length + 1) (r : Int) (hr : ∀ M' N', PM M' → QN N' → M.map El.pu = N.map El.pu → r = 1 ∧ M'.map El.pu = N'.map El.pu) : DoIs Z w x y M N (.returned (iv r)) V2 := by
  obtain ⟨rv', lv', M', N', t, k, pm, qn, _, _⟩ := h
  exact ⟨r, rfl, rv', lv', M', N', t.sub fun i hi => .inl hi, (Keep.old b).trans (k.sub fun i hi => .inl hi), hp M' pm, hq N' qn, hr M' N' pm qn⟩
theorem len_pu {M N : List El} (h : M.map El.pu = N.map El.pu) : M.length = N.length := by simpa using congrArg List.length h
theorem has_pu {M N : List El} (h : M.map El.pu = N.map El.pu) (l : List ByteArray) (s : Int) : hasS l s M.reverse = hasS l s N.reverse := by
  rw [hasS_map, hasS_map, List.map_reverse, List.map_reverse, pu_sn h]
theorem leftI_pu {M N : List El} (h : M.map El.pu = N.map El.pu) (but : ByteArray) : leftI but M M.length = leftI but N N.length := by rw [leftI_map, leftI_map, pu_sn h, len_pu h]
theorem leftU_pu {M N : List El} (h : M.map El.pu = N.map El.pu) (l : List ByteArray) : leftU l M (M.length - 1) = leftU l N (N.length - 1) := by rw [leftU_map, leftU_map, pu_sn h, len_pu h]
theorem fnd_pu' {M N : List El} (h : M.map El.pu = N.map El.pu) (id : Int) : fnd id M M.length = fnd id N N.length := by rw [len_pu h, fnd_pu id h]
theorem map_eraseIdx' {α β : Type} (f : α → β) : ∀ (l : List α) (i : Nat), (l.eraseIdx i).map f = (l.map f).eraseIdx i
  | [], i => by simp
  | a :: l, 0 => by simp
  | a :: l, i + 1 => by simp [map_eraseIdx' f l i]
theorem rem_pu {M N : List El} (h : M.map El.pu = N.map El.pu) (id : Int) : (remP id M).map El.pu = (remP id N).map El.pu := by
  unfold remP
  rw [fnd_pu' h id]
  split
  · exact h
  · rw [map_eraseIdx', map_eraseIdx', h]
theorem abv_pu {M N : List El} (h : M.map El.pu = N.map El.pu) (id : Int) (d e : El) (hd : d.pu = e.pu) : (abvP id M d).map El.pu = (abvP id N e).map El.pu := by
  unfold abvP
  rw [fnd_pu' h id]
  split
  · exact h
  · rw [List.map_append, List.map_append, List.map_append, List.map_append, List.map_take, List.map_drop, List.map_take, List.map_drop, h]
    simp only [List.map_cons, List.map_nil]
    rw [hd]
theorem rem_len (id : Int) (M : List El) : (remP id M).length ≤ M.length + 1 := by
  unfold remP
  split
  · omega
  · have := List.length_eraseIdx_le M (fnd id M M.length).toNat
    omega
theorem abv_len (id : Int) (M : List El) (d : El) : (abvP id M d).length ≤ M.length + 1 := by
  unfold abvP
  split
  · omega
  · rw [List.length_append, List.length_append, List.length_take, List.length_drop]
    simp
    omega
end Go.Proofs.YtkmghkfdegdikaaDoor
