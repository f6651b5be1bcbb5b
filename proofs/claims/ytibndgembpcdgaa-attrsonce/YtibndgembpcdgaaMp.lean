/- Sets of keys; keys of a row's names; Missing. -/
import Derived.Test.YtibndgembpcdgaaCc
import Derived.StringKeys
namespace Go.Proofs.Ytibndgembpcdgaa
open Go.RowKit Go.Maps

theorem law9 : Keyed Try.prog 9 := string_keyed Try.underlying9
theorem zero48 (w : World) : (zeroValue 48).run Try.prog w = .ok (.agg #[]) w := by kernel_rfl
theorem make44 (w : World) (n : Nat) : (Instr.makeMap 44 (some (.int .i64 n))).run Try.prog w = .ok (.map (some w.heap.size)) (w.alloc (.map #[] 0)) := by
  simp [Instr.makeMap, run_underlying Try.underlying44, asInt, asIntOf, Result.andThen]

/-- Block m is a set of at most k keys of type K: just those of f. -/
def SetIs (K : TypeId) (w : World) (m k : Nat) (f : Value → Prop) : Prop :=
  ∃ D : DataW Unit, w.ownsMap Try.prog K unitElem m k D ∧ ∀ v l, keyOf Try.prog K v = some l → (Maps.has D l = true ↔ f v)

theorem SetIs.lt {K : TypeId} {w : World} {m k : Nat} {f : Value → Prop} (h : SetIs K w m k f) : m < w.heap.size := by
  obtain ⟨D, h1, _⟩ := h
  exact h1.lt
theorem SetIs.same {K : TypeId} {w w' : World} {m k : Nat} {f : Value → Prop} (h : SetIs K w m k f) (e : w'.heap[m]? = w.heap[m]?) : SetIs K w' m k f := by
  obtain ⟨D, ⟨es, clock, hb, rest⟩, h2⟩ := h
  exact ⟨D, ⟨es, clock, e.trans hb, rest⟩, h2⟩
theorem SetIs.below {K : TypeId} {w w' : World} {m k : Nat} {f : Value → Prop} (h : SetIs K w m k f) (b : Below w.heap.size w w') : SetIs K w' m k f := h.same (b.block m h.lt)
theorem SetIs.iff {K : TypeId} {w : World} {m k : Nat} {f g : Value → Prop} (h : SetIs K w m k f) (e : ∀ v, f v ↔ g v) : SetIs K w m k g := by
  obtain ⟨D, h1, h2⟩ := h
  exact ⟨D, h1, fun v l hv => (h2 v l hv).trans (e v)⟩
theorem SetIs.mono {K : TypeId} {w : World} {m k k' : Nat} {f : Value → Prop} (h : SetIs K w m k f) (e : k ≤ k') : SetIs K w m k' f := by
  obtain ⟨D, h1, h2⟩ := h
  exact ⟨D, h1.mono e, h2⟩
theorem set_made (K : TypeId) (w : World) : SetIs K (w.alloc (.map #[] 0)) w.heap.size 0 (fun _ => False) :=
  ⟨.map [], World.ownsMap_made _ _ _ _, fun v l _ => by simp [Maps.has]⟩
theorem SetIs.ne {K : TypeId} {w : World} {m k c : Nat} {f : Value → Prop} {v : Value} (h : SetIs K w m k f) (hc : w.cell? ⟨c, 0, none⟩ = some v) : c ≠ m := fun e => by
  subst e
  obtain ⟨D, ⟨es, clock, hb, _⟩, _⟩ := h
  simp [World.cell?, hb] at hc
theorem put_set {K : TypeId} (law : Keyed Try.prog K) {D : DataW Unit} {f : Value → Prop} {v : Value} {l : Lit} {w : World} {m k : Nat} (hD : w.ownsMap Try.prog K unitElem m k D) (h2 : ∀ v l, keyOf Try.prog K v = some l → (Maps.has D l = true ↔ f v)) (hv : keyOf Try.prog K v = some l) :
    ∀ u lu, keyOf Try.prog K u = some lu → (Maps.has (D.put l (.agg [])) lu = true ↔ (f u ∨ u = v)) := fun u lu hu => by
  by_cases e : lu = l
  · subst e
    have : u = v := law.inj hu hv
    subst this
    rw [Maps.has_put_same hD.isMap (law.key hv)]
    simp
  · rw [Maps.has_put_other e, h2 u lu hu]
    have : u ≠ v := fun h => e (by rw [h, hv] at hu; exact (Option.some.inj hu).symm)
    simp [this]

/-- A look-up in a set, a key more in it: at the operation. -/
theorem wpList_look_set {K T : TypeId} (law : Keyed Try.prog K) (hT : Try.prog.underlying T = some (.map K 48)) {w : World} {ops : Array Oper} {rest : List Oper} {o : Oper} {a : Act} {Q : Exit → Act → World → Prop} (hg : o.guard = none) (x y : Operand) (hop : o.op = Op.lookup T x y true)
    (m k : Nat) {f : Value → Prop} (hm : a.eval x = .map (some m)) (hs : SetIs K w m k f) (key : Value) (l : Lit) (hy : a.eval y = key) (hkey : keyOf Try.prog K key = some l) (r : Bool) (hr : r = true ↔ f key)
    (hK : wpList Try.prog ops Q rest (a.put o.dst (.tuple #[.agg #[], .bool r])) w) : wpList Try.prog ops Q (o :: rest) a w := by
  obtain ⟨D, h1, h2⟩ := hs
  have e : Maps.has D l = r := by rw [Bool.eq_iff_iff, h2 key l hkey, hr]
  refine wpList_lookup_own_unit _ hg x y T hop K 48 law hT (zero48 _) m k D hm h1 key l hy hkey ?_
  rw [e]
  exact hK
theorem wpList_put_set {K T : TypeId} (law : Keyed Try.prog K) (hT : Try.prog.underlying T = some (.map K 48)) {w : World} {ops : Array Oper} {rest : List Oper} {o : Oper} {a : Act} {Q : Exit → Act → World → Prop} (hg : o.guard = none) (x y z : Operand) (hop : o.op = Op.mapUpdate T x y z)
    (m k : Nat) {f : Value → Prop} (hm : a.eval x = .map (some m)) (hs : SetIs K w m k f) (hk : k < maxLen) (key : Value) (l : Lit) (hy : a.eval y = key) (hz : a.eval z = .agg #[]) (hkey : keyOf Try.prog K key = some l)
    (hK : ∀ w', SetIs K w' m (k + 1) (fun u => f u ∨ u = key) → w.grownBy w' (some m) → wpList Try.prog ops Q rest (a.put o.dst undef) w') : wpList Try.prog ops Q (o :: rest) a w := by
  obtain ⟨D, h1, h2⟩ := hs
  refine wpList_mapUpdate_own _ hg x y z T hop K 48 law hT (unitElem (H := Unit)) m k D hm h1 hk key (.agg #[]) l hy hz hkey (.agg []) [] unitElem_mk ?_
  intro w' hown hgr
  exact hK w' ⟨_, hown, put_set law h1 h2 hkey⟩ hgr

/-- Names and values that are no longer than a string may be. -/
def Fine (L : List At) : Prop := ∀ x ∈ L, x.n.size ≤ maxLen ∧ x.v.size ≤ maxLen

set_option maxHeartbeats 400000 in
theorem nameOf_any (W : World) (nm vl : ByteArray) : Calls Try.prog 25 #[.agg #[.string nm, .string vl]] W fun e w' => e = .returned (.string nm) ∧ Below W.heap.size W w' := by
  have HB : Hid (Below W.heap.size W (W.alloc (.cells #[.string nm, .string vl] 24))) := (Below.refl W.heap.size W).alloc (Nat.le_refl _) _
  go_enter Try.func25, Try.ntmps25
  go_wp2_with fail
  go_ret
  exact ⟨rfl, HB.out⟩

theorem take_at {L : List At} {i : Nat} {x : At} (h : L[i]? = some x) : L.take (i + 1) = L.take i ++ [x] := by
  obtain ⟨h1, rfl⟩ := List.getElem?_eq_some_iff.1 h
  exact (List.take_append_getElem h1).symm

set_option maxHeartbeats 2000000 in
theorem keys9_any {w : World} {ao : Option Addr} {L : List At} (n cap : Nat) (ha : AtRow w ao L) (hn : L.length = n) (hn2 : n ≤ 900) (hfine : Fine L) :
    Calls Try.prog 24 #[.slice ao n cap, .func (.func 25) #[] #[]] w fun e w' => ∃ m, e = .returned (.map (some m)) ∧ w.heap.size ≤ m ∧ SetIs 9 w' m n (fun v => ∃ x ∈ L, v = .string x.n) ∧ Below w.heap.size w w' := by
  have HA : Hid (AtRow w ao L ∧ L.length = n ∧ Fine L) := ⟨ha, hn, hfine⟩
  clear ha hn hfine
  have hmm := make44
  obtain ⟨V, hV⟩ : ∃ V, w.alloc (.map #[] 0) = V := ⟨_, rfl⟩
  have HV : Hid (SetIs 9 V w.heap.size 0 (fun _ => False) ∧ Below w.heap.size w V) := by
    rw [← hV]
    exact ⟨set_made 9 w, (Below.refl _ _).alloc (Nat.le_refl _) _⟩
  go_enter Try.func24, Try.ntmps24
  go_wp2_with fail
  clear hmm hV
  go_loopg [13] n (fun g2 iv wr => ∃ i : Nat, iv = .int .i64 i ∧ i + g2 = n ∧ SetIs 9 wr w.heap.size i (fun v => ∃ x ∈ L.take i, v = .string x.n) ∧ Below w.heap.size w wr)
  case atStart => exact ⟨0, rfl, by omega, HV.out.1.iff (fun v => by simp), HV.out.2⟩
  case round =>
    obtain ⟨i, rfl, hig, hgi, hbe⟩ := hrel
    have HG : Hid (SetIs 9 wr w.heap.size i (fun v => ∃ x ∈ L.take i, v = .string x.n) ∧ Below w.heap.size w wr) := ⟨hgi, hbe⟩
    clear hgi hbe
    cases gk with
    | zero =>
      obtain rfl : i = n := by omega
      have hg0 : decide ((i : Int) < (i : Int)) = false := decide_eq_false (by omega)
      go_wp2_with fail
      go_ret
      have h := HG.out
      rw [List.take_of_length_le (by rw [HA.out.2.1]; exact Nat.le_refl _)] at h
      exact ⟨w.heap.size, rfl, Nat.le_refl _, h⟩
    | succ k =>
      have hin : i < n := by omega
      obtain ⟨x, hx⟩ : ∃ x, L[i]? = some x := ⟨_, List.getElem?_eq_getElem (by rw [HA.out.2.1]; exact hin)⟩
      obtain ⟨b1, o1, rfl, h1, c1, c2⟩ := (HA.out.1.below HG.out.2) i x hx
      have HT : Hid (L.take (i + 1) = L.take i ++ [x]) := take_at hx
      have hsz := (HA.out.2.2 x (List.mem_of_getElem? hx)).1
      clear hx
      obtain ⟨nm, vl⟩ := x
      simp only at c1 c2 hsz
      have hkey := WideMaps.keyOf_string_mk (P := Try.prog) Try.underlying9 hsz
      obtain ⟨V1, hV1⟩ : ∃ V1, wr.alloc (.cells #[.string nm, .string vl] 24) = V1 := ⟨_, rfl⟩
      have b1' : Below wr.heap.size wr V1 := by rw [← hV1]; exact (Below.refl _ _).alloc (Nat.le_refl _) _
      have HV1 : Hid (Below wr.heap.size wr V1) := b1'
      have hVn : V1.heap[wr.heap.size]? = some (.cells #[.string nm, .string vl] 24 (0, 0)) := by rw [← hV1]; exact heap_alloc_new _ _
      have d0 : V1.cell? ⟨wr.heap.size, 0, none⟩ = some (.string nm) := by simp [World.cell?, hVn]
      have d1 : V1.cell? ⟨wr.heap.size, 1, none⟩ = some (.string vl) := by simp [World.cell?, hVn]
      clear hVn b1' hsz
      go_wp2_with fail
      refine (nameOf_any V1 nm vl).mono ?_
      rintro e w1 ⟨rfl, q⟩
      clear hV1 d0 d1 c1 c2 h1
      have hw1 : Below wr.heap.size wr w1 := HV1.out.trans (q.mono HV1.out.size)
      have hset : SetIs 9 w1 w.heap.size i (fun v => ∃ x ∈ L.take i, v = .string x.n) := HG.out.1.below hw1
      have HB1 : Hid (Below w.heap.size w w1) := HG.out.2.trans (hw1.mono HG.out.2.size)
      clear q hw1
      go_wp2_with (at_mapUpdate; refine wpList_put_set law9 Try.underlying44 rfl _ _ _ rfl w.heap.size i rfl hset (by unfold maxLen; omega) _ _ rfl rfl hkey ?_; intro w2 hs2 hg2)
      have HN : Hid (SetIs 9 w2 w.heap.size (i + 1) (fun v => ∃ x ∈ L.take (i + 1), v = .string x.n) ∧ Below w.heap.size w w2) := by
        refine ⟨hs2.iff fun v => ?_, HB1.out.grown hg2 HB1.out.size (fun j hj => by cases hj; exact Nat.le_refl _)⟩
        rw [HT.out]
        simp only [List.mem_append, List.mem_singleton]
        constructor
        · rintro (⟨x, h1, h2⟩ | h)
          · exact ⟨x, .inl h1, h2⟩
          · exact ⟨_, .inr rfl, h⟩
        · rintro ⟨x, h1 | h1, h2⟩
          · exact .inl ⟨x, h1, h2⟩
          · subst h1; exact .inr h2
      clear hs2 hg2 hset
      go_roundg k
      case measure => omega
      case rel => exact ⟨i + 1, by go_num, by omega, HN.out⟩

set_option maxHeartbeats 1000000 in
theorem miss1_any {W : World} {c m k : Nat} {f : Value → Prop} (nm vl : ByteArray) (hc : c < W.heap.size) (h0 : W.cell? ⟨c, 0, none⟩ = some (.map (some m))) (hs : SetIs 9 W m k f) (hk : k < 100000) (hsz : nm.size ≤ maxLen) (r : Bool) (hr : r = true ↔ f (.string nm)) :
    Calls Try.prog 27 #[.agg #[.string nm, .string vl], .pointer (some ⟨c, 0, none⟩)] W fun e w' => e = .returned (.bool (!r)) ∧ SetIs 9 w' m (k + 1) (fun u => f u ∨ u = .string nm) ∧ W.grownBy w' (some m) := by
  have hkey := WideMaps.keyOf_string_mk (P := Try.prog) Try.underlying9 hsz
  have hml := hs.lt
  have hne := hs.ne h0
  obtain ⟨V, hV⟩ : ∃ V, W.alloc (.cells #[.string nm, .string vl] 24) = V := ⟨_, rfl⟩
  have hVn : V.heap[W.heap.size]? = some (.cells #[.string nm, .string vl] 24 (0, 0)) := by rw [← hV]; exact heap_alloc_new _ _
  have bV : Below W.heap.size W V := by rw [← hV]; exact (Below.refl _ _).alloc (Nat.le_refl _) _
  have hVl : W.heap.size < V.heap.size := (Array.getElem?_eq_some_iff.1 hVn).1
  have d0 : V.cell? ⟨W.heap.size, 0, none⟩ = some (.string nm) := by simp [World.cell?, hVn]
  have d1 : V.cell? ⟨W.heap.size, 1, none⟩ = some (.string vl) := by simp [World.cell?, hVn]
  have hcV := (bV.cell (p := ⟨c, 0, none⟩) hc).trans h0
  have hcl : c < V.heap.size := Nat.lt_of_lt_of_le hc bV.size
  have hsV := hs.below bV
  have hgV : W.grownBy V (some m) := ⟨bV.os, bV.tape, bV.output, bV.size, fun d hd _ => bV.block d hd⟩
  have hsA : SetIs 9 (V.alloc (.cells #[] 48)) m k f := hsV.below ((Below.refl _ _).alloc (Nat.le_refl _) _)
  have hgA : W.grownBy (V.alloc (.cells #[] 48)) (some m) := hgV.trans (World.grownBy_alloc _ _ _)
  have HP : Hid (r = true → SetIs 9 (V.alloc (.cells #[] 48)) m (k + 1) (fun u => f u ∨ u = .string nm)) := fun h => (hsA.mono (Nat.le_succ _)).iff fun u => ⟨Or.inl, fun h' => h'.elim id fun e => by rw [e]; exact hr.1 h⟩
  have HG : Hid (W.grownBy (V.alloc (.cells #[] 48)) (some m)) := hgA
  clear hVn bV h0 hs hgV hgA hc
  go_enter Try.func27, Try.ntmps27
  cases r with
  | true =>
    go_wp2_with (at_lookup; refine wpList_look_set law9 Try.underlying44 rfl _ _ rfl m k rfl hsV _ _ rfl hkey true hr ?_)
    go_ret
    exact ⟨rfl, HP.out trivial, HG.out⟩
  | false =>
    go_wp2_with (first
      | (at_lookup; refine wpList_look_set law9 Try.underlying44 rfl _ _ rfl m k rfl hsV _ _ rfl hkey false hr ?_)
      | (at_mapUpdate; refine wpList_put_set law9 Try.underlying44 rfl _ _ _ rfl m k rfl hsA (by unfold maxLen; omega) _ _ rfl rfl hkey ?_; intro w2 hs2 hg2)
      | go_in)
    go_ret
    exact ⟨rfl, hs2, HG.out.trans hg2⟩

/-- What is new behind L when M has come. -/
def outP (L M : List At) : List At := (missP L M).drop L.length
theorem miss_out (L M : List At) : missP L M = L ++ outP L M := by
  have h := List.take_append_drop L.length (missP L M)
  rw [miss_take] at h
  exact h.symm
theorem miss_snoc (L M : List At) (x : At) : missP L (M ++ [x]) = addP (missP L M) x := by
  unfold missP
  rw [List.foldl_append]
  rfl
theorem out_snoc (L M : List At) (x : At) : outP L (M ++ [x]) = if hasP (missP L M) x.nm = true then outP L M else outP L M ++ [x] := by
  unfold outP
  rw [miss_snoc]
  unfold addP
  split
  · rfl
  · rw [List.drop_append_of_le_length (miss_len L M).2]
theorem out_len (L M : List At) : (outP L M).length ≤ M.length := by
  unfold outP
  rw [List.length_drop]
  have := (miss_len L M).1
  omega

theorem has_str {L : List At} {nm : ByteArray} : (∃ x ∈ L, Value.string nm = .string x.n) ↔ hasP L nm.data.toList = true := by
  rw [has_iff]
  constructor
  · rintro ⟨x, h1, h2⟩
    simp only [Value.string.injEq] at h2
    exact ⟨x, h1, by rw [h2]⟩
  · rintro ⟨x, h1, h2⟩
    exact ⟨x, h1, by rw [bytes_eq h2]⟩

theorem AtRow.grown {w wr : World} {lo : Option Addr} {l : List At} {K m k : Nat} {f : Value → Prop} (h : AtRow w lo l) (hg : w.grownBy wr (some m)) (hs : SetIs K w m k f) : AtRow wr lo l := fun i x hx => by
  obtain ⟨b, off, h1, h2, h3, h4⟩ := h i x hx
  have hbm : b ≠ m := fun e => by
    subst e
    obtain ⟨D, ⟨es, clock, hb, _⟩, _⟩ := hs
    simp [World.cell?, hb] at h3
  have e := hg.block b h2 (by simpa using hbm)
  exact ⟨b, off, h1, Nat.lt_of_lt_of_le h2 hg.size, (World.cell?_of_block (a := ⟨b, off + i * 2, none⟩) e).trans h3, (World.cell?_of_block (a := ⟨b, off + i * 2 + 1, none⟩) e).trans h4⟩

set_option maxHeartbeats 4000000 in
theorem kept_any {w : World} {ao : Option Addr} {L M : List At} (n cap c m k : Nat) (ha : AtRow w ao M) (hn : M.length = n) (hn2 : n ≤ 900) (hfine : Fine M) (hk : k ≤ 900) (hc : c < w.heap.size) (h0 : w.cell? ⟨c, 0, none⟩ = some (.map (some m))) (hs : SetIs 9 w m k (fun v => ∃ x ∈ L, v = .string x.n)) :
    Calls Try.prog 26 #[.slice ao n cap, .func (.func 27) #[] #[.pointer (some ⟨c, 0, none⟩)]] w fun e w' => ∃ v, e = .returned v ∧ RowIs w' w.heap.size v (outP L M) ∧ w.grownBy w' (some m) := by
  have hml := hs.lt
  have hne := hs.ne h0
  have e27 : ∀ args w, (callFunc 27 args).run Try.prog w = .ok (.enter 27 args) w := enters_of Try.func27 (by kernel_rfl) rfl
  have HA : Hid (AtRow w ao M ∧ M.length = n ∧ Fine M ∧ w.cell? ⟨c, 0, none⟩ = some (.map (some m)) ∧ SetIs 9 w m k (fun v => ∃ x ∈ L, v = .string x.n)) := ⟨ha, hn, hfine, h0, hs⟩
  clear ha hn hfine h0 hs
  go_enter Try.func26, Try.ntmps26
  go_wp2_with fail
  go_loopg [5, 10] n (fun g2 v iv wr => ∃ i : Nat, iv = .int .i64 i ∧ i + g2 = n ∧ RowIs wr w.heap.size v (outP L (M.take i)) ∧ SetIs 9 wr m (k + i) (fun v => ∃ x ∈ missP L (M.take i), v = .string x.n) ∧ w.grownBy wr (some m))
  case atStart =>
    refine ⟨0, rfl, by omega, ?_, ?_, ⟨rfl, rfl, rfl, Nat.le_refl _, fun _ _ _ => rfl⟩⟩
    · have e : outP L (M.take 0) = [] := by unfold outP; simp [missP]
      rw [e]
      exact World.ownsRow_nil _ _ _ _
    · have e : missP L (M.take 0) = L := by simp [missP]
      rw [e]
      exact HA.out.2.2.2.2
  case round =>
    obtain ⟨i, rfl, hig, hrow, hset, hgr⟩ := hrel
    have HG : Hid (RowIs wr w.heap.size u5 (outP L (M.take i)) ∧ SetIs 9 wr m (k + i) (fun v => ∃ x ∈ missP L (M.take i), v = .string x.n) ∧ w.grownBy wr (some m)) := ⟨hrow, hset, hgr⟩
    have hwr := hgr.size
    clear hrow hset hgr
    cases gk with
    | zero =>
      obtain rfl : i = n := by omega
      have hg0 : decide ((i : Int) < (i : Int)) = false := decide_eq_false (by omega)
      go_wp2_with fail
      go_ret
      have h := HG.out
      rw [List.take_of_length_le (by rw [HA.out.2.1]; exact Nat.le_refl _)] at h
      exact ⟨u5, rfl, h.1, h.2.2⟩
    | succ g =>
      have hin : i < n := by omega
      obtain ⟨x, hx⟩ : ∃ x, M[i]? = some x := ⟨_, List.getElem?_eq_getElem (by rw [HA.out.2.1]; exact hin)⟩
      obtain ⟨b1, o1, rfl, h1, c1, c2⟩ := (HA.out.1.grown HG.out.2.2 HA.out.2.2.2.2) i x hx
      have HT : Hid (M.take (i + 1) = M.take i ++ [x]) := take_at hx
      have hsz := (HA.out.2.2.1 x (List.mem_of_getElem? hx)).1
      clear hx
      obtain ⟨nm, vl⟩ := x
      simp only at c1 c2 hsz
      have hcr : wr.cell? ⟨c, 0, none⟩ = some (.map (some m)) := (World.cell?_of_block (a := ⟨c, 0, none⟩) (HG.out.2.2.block c hc (by simpa using hne))).trans HA.out.2.2.2.1
      obtain ⟨V1, hV1⟩ : ∃ V1, wr.alloc (.cells #[.string nm, .string vl] 24) = V1 := ⟨_, rfl⟩
      have bV : Below wr.heap.size wr V1 := by rw [← hV1]; exact (Below.refl _ _).alloc (Nat.le_refl _) _
      have hVn : V1.heap[wr.heap.size]? = some (.cells #[.string nm, .string vl] 24 (0, 0)) := by rw [← hV1]; exact heap_alloc_new _ _
      have hVl : wr.heap.size < V1.heap.size := (Array.getElem?_eq_some_iff.1 hVn).1
      have d0 : V1.cell? ⟨wr.heap.size, 0, none⟩ = some (.string nm) := by simp [World.cell?, hVn]
      have d1 : V1.cell? ⟨wr.heap.size, 1, none⟩ = some (.string vl) := by simp [World.cell?, hVn]
      obtain ⟨r, hr⟩ : ∃ r, hasP (missP L (M.take i)) nm.data.toList = r := ⟨_, rfl⟩
      have hcall := miss1_any (W := V1) (c := c) (m := m) (k := k + i) nm vl (by omega) ((bV.cell (p := ⟨c, 0, none⟩) (by show c < _; omega)).trans hcr) (HG.out.2.1.below bV) (by omega) hsz r (by rw [← hr]; exact has_str.symm)
      have HR : Hid (hasP (missP L (M.take i)) nm.data.toList = r ∧ Below wr.heap.size wr V1) := ⟨hr, bV⟩
      clear hVn bV hr hsz hcr
      go_wp2_with fail
      refine hcall.mono ?_
      rintro e w1 ⟨rfl, hs1, hg1⟩
      clear hcall hV1 c1 c2 h1
      have hwm : wr.heap.size ≠ m := by omega
      have e1 := hg1.block wr.heap.size hVl (by simpa using hwm)
      have d0' := (World.cell?_of_block (a := ⟨wr.heap.size, 0, none⟩) e1).trans d0
      have d1' := (World.cell?_of_block (a := ⟨wr.heap.size, 1, none⟩) e1).trans d1
      have hl1 : wr.heap.size < w1.heap.size := Nat.lt_of_lt_of_le hVl hg1.size
      have hgw : wr.grownBy w1 (some m) := ⟨hg1.os.trans HR.out.2.os, hg1.tape.trans HR.out.2.tape, hg1.output.trans HR.out.2.output, by omega, fun d hd hd' => (hg1.block d (by omega) hd').trans (HR.out.2.block d hd)⟩
      have hrow1 : RowIs w1 w.heap.size u5 (outP L (M.take i)) := own_mv HG.out.1 fun q hq => hgw.block q (own_blk HG.out.1 hq).2.1 (by
        have := (own_blk HG.out.1 hq).1
        simp
        omega)
      have hall : w.grownBy w1 (some m) := HG.out.2.2.trans hgw
      have HW : Hid (RowIs w1 w.heap.size u5 (outP L (M.take i)) ∧ SetIs 9 w1 m (k + i + 1) (fun u => (∃ x ∈ missP L (M.take i), u = .string x.n) ∨ u = .string nm) ∧ w.grownBy w1 (some m)) := ⟨hrow1, hs1, hall⟩
      have hBw : w.heap.size ≤ w1.heap.size := by omega
      have hol := out_len L (M.take i)
      have htl : (M.take i).length ≤ 900 := by rw [List.length_take]; omega
      clear hs1 hg1 d0 d1 e1 hgw hrow1 hall
      cases r with
      | true =>
        have HN : Hid (RowIs w1 w.heap.size u5 (outP L (M.take (i + 1))) ∧ SetIs 9 w1 m (k + (i + 1)) (fun v => ∃ x ∈ missP L (M.take (i + 1)), v = .string x.n) ∧ w.grownBy w1 (some m)) := by
          refine ⟨?_, ?_, HW.out.2.2⟩
          · rw [HT.out, out_snoc, if_pos HR.out.1]
            exact HW.out.1
          · rw [HT.out, miss_snoc]
            unfold addP
            rw [if_pos HR.out.1]
            refine HW.out.2.1.iff fun u => ⟨fun h => h.elim id fun e => ?_, Or.inl⟩
            rw [e]
            exact has_str.2 HR.out.1
        go_wp2_with fail
        go_roundg g
        case measure => omega
        case rel => exact ⟨i + 1, by go_num, by omega, HN.out⟩
      | false =>
        obtain ⟨w2, hw2⟩ : ∃ w2, w1.alloc (.cells #[.string nm, .string vl] 24) = w2 := ⟨_, rfl⟩
        have b2 : Below w1.heap.size w1 w2 := by rw [← hw2]; exact (Below.refl _ _).alloc (Nat.le_refl _) _
        have o2 := at_one w1 ⟨nm, vl⟩
        simp only at o2
        rw [hw2] at o2
        obtain ⟨v3, w3, e3, r3, f3⟩ := row_more (own_below HW.out.1 b2) _ 1 o2 (Nat.le_trans hBw b2.size) (by omega) (by simp)
        have hmf : w.grownBy w3 (some m) := by
          have h := HW.out.2.2
          have hb2s := b2.size
          refine ⟨f3.os.trans (b2.os.trans h.os), f3.tape.trans (b2.tape.trans h.tape), f3.output.trans (b2.output.trans h.output), Nat.le_trans h.size (Nat.le_trans b2.size f3.size), fun d hd hd' => ?_⟩
          exact (f3.block d (by omega) (fun e => by have := (own_blk HW.out.1 e.symm).1; omega)).trans ((b2.block d (by omega)).trans (h.block d hd hd'))
        have HN : Hid (RowIs w3 w.heap.size v3 (outP L (M.take (i + 1))) ∧ SetIs 9 w3 m (k + (i + 1)) (fun v => ∃ x ∈ missP L (M.take (i + 1)), v = .string x.n) ∧ w.grownBy w3 (some m)) := by
          refine ⟨?_, ?_, hmf⟩
          · rw [HT.out, out_snoc, if_neg (by rw [HR.out.1]; exact fun h => by cases h)]
            exact r3
          · rw [HT.out, miss_snoc]
            unfold addP
            rw [if_neg (by rw [HR.out.1]; exact fun h => by cases h)]
            have hs3 : SetIs 9 w3 m (k + i + 1) (fun u => (∃ x ∈ missP L (M.take i), u = .string x.n) ∨ u = .string nm) := HW.out.2.1.same ((f3.block m (by have := b2.size; omega) (fun e => by have := (own_blk HW.out.1 e.symm).1; omega)).trans (b2.block m (by omega)))
            refine hs3.iff fun u => ?_
            simp only [List.mem_append, List.mem_singleton]
            constructor
            · rintro (⟨x, h1, h2⟩ | h)
              · exact ⟨x, .inl h1, h2⟩
              · exact ⟨_, .inr rfl, h⟩
            · rintro ⟨x, h1 | h1, h2⟩
              · exact .inl ⟨x, h1, h2⟩
              · subst h1; exact .inr h2
        clear r3 f3 b2 o2 hmf
        go_wp2_with (at_builtin; refine list_append_eq rfl _ _ 22 22 rfl _ _ rfl rfl e3 ?_)
        go_roundg g
        case measure => omega
        case rel => exact ⟨i + 1, by go_num, by omega, HN.out⟩

set_option maxHeartbeats 2000000 in
theorem missing_any {w : World} {ao bo : Option Addr} {L M : List At} (n m ca cb : Nat) (ha : AtRow w ao L) (hb : AtRow w bo M) (hn : L.length = n) (hm : M.length = m) (hnm : n + m ≤ 900) (hL : Fine L) (hM : Fine M) :
    Calls Try.prog 15 #[.slice ao n ca, .slice bo m cb] w fun e w' => ∃ v, e = .returned v ∧ RowIs w' w.heap.size v (missP L M) ∧ Below w.heap.size w w' := by
  have HA : Hid (AtRow w ao L ∧ L.length = n ∧ AtRow w bo M ∧ M.length = m ∧ Fine M) := ⟨ha, hn, hb, hm, hM⟩
  have hk := keys9_any n ca ha hn (by omega) hL
  clear ha hn hb hm hM hL
  go_enter Try.func15, Try.ntmps15
  go_wp2_with fail
  refine hk.mono ?_
  rintro e w1 ⟨b, rfl, hbm, hs, b1⟩
  clear hk
  obtain ⟨V, hV⟩ : ∃ V, w1.alloc (.cells #[.map (some b)] 44) = V := ⟨_, rfl⟩
  have hVn : V.heap[w1.heap.size]? = some (.cells #[.map (some b)] 44 (0, 0)) := by rw [← hV]; exact heap_alloc_new _ _
  have bV : Below w1.heap.size w1 V := by rw [← hV]; exact (Below.refl _ _).alloc (Nat.le_refl _) _
  have hVl : w1.heap.size < V.heap.size := (Array.getElem?_eq_some_iff.1 hVn).1
  have d0 : V.cell? ⟨w1.heap.size, 0, none⟩ = some (.map (some b)) := by simp [World.cell?, hVn]
  have hwV : Below w.heap.size w V := b1.trans (bV.mono b1.size)
  have hkp := kept_any (L := L) m cb w1.heap.size b n (HA.out.2.2.1.below hwV) HA.out.2.2.2.1 (by omega) HA.out.2.2.2.2 (by omega) hVl d0 (hs.below bV)
  have H1 : Hid (Below w.heap.size w V ∧ w.heap.size ≤ b) := ⟨hwV, hbm⟩
  clear hVn bV d0 hwV hs b1 hbm
  go_wp2_with fail
  refine hkp.mono ?_
  rintro e w2 ⟨v, rfl, r2, g2⟩
  clear hkp hV
  have b2 : Below w.heap.size w w2 := H1.out.1.grown g2 H1.out.1.size (fun j hj => by cases hj; exact H1.out.2)
  obtain ⟨co, cc, rfl, r2', _, _⟩ := row_at r2
  obtain ⟨l2, hl2⟩ : ∃ l2, (outP L M).length = l2 := ⟨_, rfl⟩
  rw [hl2]
  have hle : l2 ≤ m := by rw [← hl2, ← HA.out.2.2.2.1]; exact out_len L M
  obtain ⟨w3, hw3⟩ : ∃ w3, w2.alloc (.cells #[.slice ao n ca, .slice co l2 cc] 22) = w3 := ⟨_, rfl⟩
  obtain ⟨g1, g2', g3, g4⟩ := two_slot _ _ hw3
  have b3 : Below w.heap.size w w3 := b2.trans (g4.mono b2.size)
  have hc := concat_two n l2 ca cc g1 g2' g3 (HA.out.1.below b3) (r2'.below g4) HA.out.2.1 hl2 (by omega)
  rw [← miss_out] at hc
  have H3 : Hid (Below w.heap.size w w3) := b3
  clear g1 g2' g3 g4 b3 b2 r2 r2' g2 hl2
  go_wp2_with fail
  refine hc.mono ?_
  rintro e w4 ⟨v4, rfl, r4, b4⟩
  clear hc
  have H4 : Hid (RowIs w4 w.heap.size v4 (missP L M) ∧ Below w.heap.size w w4) := by
    refine ⟨⟨r4.1, r4.2.imp id fun ⟨g, cp, cur, e1, e2, e3⟩ => ⟨g, cp, cur, e1, Nat.le_trans H3.out.size e2, e3⟩⟩, H3.out.trans (b4.mono H3.out.size)⟩
  clear r4 b4
  go_wp2_with fail
  go_ret
  exact ⟨v4, rfl, H4.out⟩
end Go.Proofs.Ytibndgembpcdgaa
