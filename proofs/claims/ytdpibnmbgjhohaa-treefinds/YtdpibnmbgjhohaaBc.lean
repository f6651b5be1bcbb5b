/- A tree in memory, gone over by the program's iterator, where it is not changed. -/
import Derived.Test.YtdpibnmbgjhohaaBb
import Derived.Test.YtdpibnmbgjhohaaAe
import Derived.Shelf.Abstract
namespace Go.Proofs.Ytdpibnmbgjhohaa
open Go.RowKit
attribute [local go_sem] Oper.semAt_some

/-- A tree as values, with room for each list of kids. -/
inductive TrC (w : World) : Tr → Value → Value → Prop
  | mk {d : Nd} {ks : List Tr} {ac kc kb ko : Nat} {ao kp : Option Addr} {avs kvs : Nat → Value} (ha : AtRow w ao d.al) (hp : ks ≠ [] → kp = some ⟨kb, ko, none⟩) (hc : ∀ (j : Nat) t, ks[j]? = some t → kb < w.heap.size ∧ CellsAt w kb (ko + j * 11) (t.d.cs (avs j) (kvs j))) (hk : ∀ (j : Nat) t, ks[j]? = some t → TrC w t (avs j) (kvs j)) (hl : ks.length ≤ kc ∧ kc ≤ maxLen) : TrC w (.mk d ks) (.slice ao d.al.length ac) (.slice kp ks.length kc)
theorem TrC.v {w : World} {t : Tr} {av kv : Value} (h : TrC w t av kv) : TrV w t av kv := by
  induction h with
  | mk ha hp hc _ _ ih => exact .mk ha hp hc ih
theorem TrC.mv {w w' : World} {t : Tr} {av kv : Value} (h : TrC w t av kv) (hs : w.heap.size ≤ w'.heap.size) (b : ∀ k, k < w.heap.size → w'.heap[k]? = w.heap[k]?) : TrC w' t av kv := by
  induction h with
  | mk ha hp hc _ hl ih =>
    refine .mk (fun j x hj => ?_) hp (fun j t hj => ⟨Nat.lt_of_lt_of_le (hc j t hj).1 hs, (hc j t hj).2.mv (b _ (hc j t hj).1)⟩) ih hl
    obtain ⟨g, off, h1, h2, h3, h4⟩ := ha j x hj
    have e := b g h2
    exact ⟨g, off, h1, Nat.lt_of_lt_of_le h2 hs, by rw [← h3]; simp [World.cell?, e], by rw [← h4]; simp [World.cell?, e]⟩
theorem TrC.old {w w' : World} {t : Tr} {av kv : Value} (h : TrC w t av kv) (b : Below w.heap.size w w') : TrC w' t av kv := h.mv b.size fun k hk => b.block k hk
theorem TrC.kids {w : World} {t : Tr} {av kv : Value} (h : TrC w t av kv) : ∃ s : Sl, kv = slv s ∧ s.2.1 = t.k.length ∧ s.2.1 ≤ s.2.2 ∧ s.2.2 ≤ maxLen ∧ ∀ (j : Nat) u, t.k[j]? = some u → ∃ b off av kv, s.1 = some ⟨b, off, none⟩ ∧ b < w.heap.size ∧ CellsAt w b (off + j * 11) (u.d.cs av kv) ∧ TrC w u av kv := by
  cases h with
  | mk ha hp hc hk hl =>
    rename_i d ks ac kc kb ko ao kp avs kvs
    refine ⟨(kp, ks.length, kc), rfl, rfl, hl.1, hl.2, fun j u hu => ⟨kb, ko, avs j, kvs j, hp (fun e => ?_), (hc j u hu).1, (hc j u hu).2, hk j u hu⟩⟩
    subst e
    simp [Tr.k] at hu

mutual
/-- All nodes in order, each with its level. -/
def vT : Tr → Nat → List (Tr × Nat)
  | .mk d ks, lv => (.mk d ks, lv) :: vL ks (lv + 1)
def vL : List Tr → Nat → List (Tr × Nat)
  | [], _ => []
  | t :: ts, lv => vT t lv ++ vL ts lv
end
mutual
theorem vT_len : ∀ (t : Tr) (lv : Nat), (vT t lv).length = cT t
  | .mk d ks, lv => by rw [vT, cT, List.length_cons, vL_len ks]
theorem vL_len : ∀ (l : List Tr) (lv : Nat), (vL l lv).length = cL l
  | [], _ => rfl
  | t :: ts, lv => by rw [vL, cL, List.length_append, vT_len t, vL_len ts]
end
theorem vT_eq (t : Tr) (lv : Nat) : vT t lv = (t, lv) :: vL t.k (lv + 1) := by
  obtain ⟨d, ks⟩ := t
  rw [vT]; rfl
/-- What is left of the levels, the deepest first. -/
def rem : List (List Tr) → List (Tr × Nat)
  | [] => []
  | l :: ls => vL l (ls.length + 1) ++ rem ls
def meas : List (List Tr) → Nat
  | [] => 0
  | l :: ls => 1 + 2 * cL l + meas ls
/-- A level's slice. -/
def Lv (w w2 : World) (r : Nat) (s : Sl) (l : List Tr) : Prop :=
  s.2.1 = l.length ∧ s.2.1 ≤ s.2.2 ∧ s.2.2 ≤ maxLen ∧ (0 < s.2.1 → ∃ b off, s.1 = some ⟨b, off, none⟩ ∧ (b < w.heap.size ∨ b = r) ∧ ∀ (j : Nat) u, l[j]? = some u → ∃ av kv, CellsAt w2 b (off + j * 11) (u.d.cs av kv) ∧ TrC w u av kv)
theorem Lv.tail {w w2 : World} {r n c : Nat} {a : Addr} {u : Tr} {l : List Tr} (h : Lv w w2 r (some a, n + 1, c) (u :: l)) : Lv w w2 r (some (nx a c), n, c - 1) l := by
  obtain ⟨h1, h2, h3, h4⟩ := h
  simp only [List.length_cons] at h1 h2 h3 h4
  obtain ⟨b, off, e, hb, hj⟩ := h4 (by omega)
  cases e
  refine ⟨by simp; omega, by simp; omega, by simp; omega, fun h0 => ?_⟩
  simp only [] at h0
  refine ⟨b, off + 11, ?_, hb, fun j u' hu => ?_⟩
  · rw [nx, if_neg (by omega)]
  · obtain ⟨av, kv, q1, q2⟩ := hj (j + 1) u' (by simpa using hu)
    refine ⟨av, kv, ?_, q2⟩
    rw [show off + 11 + j * 11 = off + (j + 1) * 11 by omega]
    exact q1
inductive Lvs (w w2 : World) (r : Nat) : List Sl → List (List Tr) → Prop
  | nil : Lvs w w2 r [] []
  | cons {s : Sl} {l : List Tr} {ss : List Sl} {ls : List (List Tr)} (h : Lv w w2 r s l) (t : Lvs w w2 r ss ls) : Lvs w w2 r (s :: ss) (l :: ls)
theorem Lvs.len {w w2 : World} {r : Nat} {s : List Sl} {l : List (List Tr)} (h : Lvs w w2 r s l) : s.length = l.length := by
  induction h with
  | nil => rfl
  | cons _ _ ih => simp [ih]
theorem Lvs.fit {w w2 : World} {r : Nat} {s : List Sl} {l : List (List Tr)} (h : Lvs w w2 r s l) : ∀ x ∈ s, x.2.1 ≤ x.2.2 ∧ x.2.2 ≤ maxLen ∧ (0 < x.2.1 → ∃ b off, x.1 = some ⟨b, off, none⟩) := by
  induction h with
  | nil => intro x hx; simp at hx
  | cons h _ ih =>
    intro x hx
    simp only [List.mem_cons] at hx
    rcases hx with rfl | hx
    · exact ⟨h.2.1, h.2.2.1, fun h0 => by obtain ⟨b, off, e, _⟩ := h.2.2.2 h0; exact ⟨b, off, e⟩⟩
    · exact ih x hx
/-- How the body of a round may be left, in a caller's words. -/
def wPost (I : List (Tr × Nat) → World → Prop) (Ix : Code → World → Prop) (pre : List (Tr × Nat)) (W : World) : Exit → Act → World → Prop
  | .normal, _, W' => Kp 25 W W' ∧ I pre W'
  | .ret, _, W' => Kp 25 W W' ∧ Ix .ret W'
  | .exit id, _, W' => Kp 25 W W' ∧ Ix (.exit id) W'
  | .goto t, _, W' => Kp 25 W W' ∧ Ix (.goto t) W'
  | .panic _, _, _ => False
  | .outgrown, _, _ => False

theorem fold2 (T : Array Value) (p q : Tmp) (x y : Value) : (#[p, q].zip #[x, y]).foldl (fun t (z : Tmp × Value) => match z with | (p, v) => t.setIfInBounds p v) T = (T.setIfInBounds p x).setIfInBounds q y := by
  simp
theorem walk_law {n r bx : Nat} {pq pr : Tmp} {g : Operand} {assign body : Code} {Q : Exit → Act → World → Prop} {a : Act} {w w2 : World} {t : Tr} {av kv : Value}
    (ht : TrC w t av kv) (hn : cT t ≤ 900000) (hb : Below w.heap.size w w2) (hr : CellsAt w2 r 0 (t.d.cs av kv)) (hbx : bx < w2.heap.size) (hbc : w2.cell? ⟨bx, 0, none⟩ = some (.slice (some ⟨r, 0, none⟩) 1 1))
    (hg : a.eval g = .func (.func 48) #[] #[.pointer (some ⟨bx, 0, none⟩)])
    (I : List (Tr × Nat) → World → Prop) (Ix : Code → World → Prop)
    (hI : ∀ pre W1 W2, I pre W1 → Off 25 w2.heap.size W1 W2 → I pre W2) (hIx : ∀ c W1 W2, Ix c W1 → Off 25 w2.heap.size W1 W2 → Ix c W2)
    (hmem : ∀ pre W, I pre W → Below w.heap.size w W ∧ W.heap[r]? = w2.heap[r]?) (h0 : I [] w2)
    (a₁ : Value → Value → Act)
    (hassign : ∀ (l : Nat) (x y : Value) (W : World) (K : Act → World → Prop), K (a₁ x y) W →
      assign.wpIn (Fence.wide.inRound l) (n - 1 - 1) Try.prog (Exit.then K (fun _ _ _ => False)) { tmps := (a.tmps.setIfInBounds pq x).setIfInBounds pr y, defers := [] } W)
    (hbody : ∀ (l : Nat) (pre : List (Tr × Nat)) (u : Tr) (lv : Nat) (rest : List (Tr × Nat)) (b off : Nat) (av kv : Value) (W : World), vT t 1 = pre ++ (u, lv) :: rest → I pre W → CellsAt W b off (u.d.cs av kv) → TrC w u av kv →
      body.wpIn (Fence.wide.inRound l) (n - 1 - 1) Try.prog (wPost I Ix (pre ++ [(u, lv)]) W) (a₁ (.pointer (some ⟨b, off, none⟩)) (iv lv)) W)
    (hdone : ∀ (D : Nat) (W : World), w2.heap.size ≤ D → I (vT t 1) W → W.heap[D]? = some (.deferred (some [])) → Q .normal { a with defers := { target := .collected D, args := #[] } :: a.defers } W)
    (hstop : ∀ (D : Nat) (c : Code) (W : World), w2.heap.size ≤ D → Ix c W → W.heap[D]? = some (.deferred (some [])) → c.wpIn Fence.wide n Try.prog Q { a with defers := { target := .collected D, args := #[] } :: a.defers } W) :
    (Code.rangeFunc g #[pq, pr] assign body).wpIn Fence.wide n Try.prog Q a w2 := by
  refine range_law (nodes_seq (n - 1) bx w2.heap.size (some ⟨r, 0, none⟩, 1, 1) w2 hbx hbc) (Nat.le_refl _) hg (enters_of Try.func48 (by kernel_rfl) rfl) ?_ ?_
    (fun g s W => ∃ F pre, Lvs w w2 r s F ∧ g = meas F ∧ s.length ≤ pre.length + 1 ∧ vT t 1 = pre ++ rem F ∧ I pre W) Ix (meas [[t]]) ?_ hIx ?_ ?_ ?_ ?_ (fun x => a₁ (x.getD 0 undef) (x.getD 1 undef)) ?_ ?_ ?_ hstop
  · intro s x hx
    unfold encN at hx
    split at hx
    · cases hx; rfl
    · cases hx
  · rintro s W l o o' s' hl ho ⟨b, n, c, st, ks, rfl, hc, rfl⟩
    refine ⟨b, n, c, st, ks, rfl, ?_, rfl⟩
    rw [← hc]
    refine World.cell?_of_block (World.putObj_heap_other (fun e => ?_))
    obtain ⟨u, h1, h2⟩ := cells_of_cell hc
    rw [e, hl] at h1
    cases h1
    rw [ho] at h2
    cases h2
  · rintro g s W1 W2 ⟨F, pre, h1, h2, h3, h4, h5⟩ ho
    exact ⟨F, pre, h1, h2, h3, h4, hI _ _ _ h5 ho⟩
  · rintro g s s' W1 hs ⟨F, pre, h1, h2, h3, h4, h5⟩
    cases h1 with
    | nil => cases hs
    | cons hl ht =>
      rename_i x l ss ls
      obtain ⟨xa, xn, xc⟩ := x
      cases xn with
      | succ k => cases hs
      | zero =>
        cases hs
        have : l = [] := List.eq_nil_of_length_eq_zero hl.1.symm
        subst this
        refine ⟨ls, pre, ht, ?_, ?_, ?_, h5⟩
        · simp [meas, cL] at h2; omega
        · simp at h3; omega
        · rw [h4, rem, vL]; rfl
  · rintro s W ⟨F, pre, h1, h2, _⟩
    cases h1 with
    | nil => rfl
    | cons _ _ => simp [meas] at h2; omega
  · rintro g s W ⟨F, pre, h1, h2, h3, h4, h5⟩
    refine ⟨?_, h1.fit⟩
    have := congrArg List.length h4
    rw [vT_len, List.length_append] at this
    omega
  · rintro Wc W1 s h1 h2 rfl
    refine ⟨[[t]], [], .cons ⟨rfl, Nat.le_refl _, by simp [maxLen], fun _ => ⟨r, 0, rfl, .inr rfl, fun j u hu => ?_⟩⟩ .nil, rfl, by simp, by simp [rem, vL], hI _ _ _ h0 (h1.trans (h2.mono h1.size))⟩
    cases j with
    | zero => simp at hu; subst hu; exact ⟨av, kv, by simpa using hr, ht⟩
    | succ j => simp at hu
  · intro l s x W K hx hK
    unfold encN at hx
    split at hx
    · cases hx
      rw [fold2]
      exact hassign l _ _ W K hK
    · cases hx
  · rintro l g s x W hx ⟨F, pre, h1, h2, h3, h4, h5⟩
    unfold encN at hx
    split at hx
    · rename_i a m c st
      cases hx
      cases h1 with
      | cons hl ht =>
        rename_i l' ls
        cases l' with
        | nil => have := hl.1; simp at this
        | cons u l' =>
          obtain ⟨b, off, e, hbr, hj⟩ := hl.2.2.2 (by simp)
          cases e
          obtain ⟨av', kv', hc, hu⟩ := hj 0 u rfl
          have hcW : ∀ W', I pre W' ∨ I (pre ++ [(u, ls.length + 1)]) W' → CellsAt W' b off (u.d.cs av' kv') := fun W' hor => by
            have hm : Below w.heap.size w W' ∧ W'.heap[r]? = w2.heap[r]? := by
              rcases hor with h | h
              · exact hmem _ _ h
              · exact hmem _ _ h
            have := hc.mv (w' := W') (by
              rcases hbr with h | h
              · exact (hm.1.block b h).trans (hb.block b h).symm
              · rw [h]; exact hm.2)
            simpa using this
          have hlen : st.length = ls.length := ht.len
          have heq : vT t 1 = pre ++ (u, ls.length + 1) :: (vL u.k (ls.length + 2) ++ vL l' (ls.length + 1) ++ rem ls) := by
            rw [h4, rem, vL, vT_eq]
            simp
          have hbd := hbody l pre u (ls.length + 1) _ b off av' kv' W heq h5 (hcW _ (.inl h5)) hu
          rw [show (iv ((ls.length + 1 : Nat) : Int)) = iv ((st.length : Int) + 1) by rw [hlen]; rfl] at hbd
          refine wpIn_mono hbd ?_
          rintro e a3 W3 hp
          cases e with
          | normal =>
            obtain ⟨hk3, hi3⟩ := hp
            obtain ⟨ks, hks, k1, k2, k3, k4⟩ := hu.kids
            refine ⟨hk3, _, ⟨⟨b, off, none⟩, m, c, st, ks, rfl, ?_, rfl⟩, ?_⟩
            · rw [← hks]
              exact hcW _ (.inr hi3) 10 _ rfl
            · refine ⟨u.k :: l' :: ls, pre ++ [(u, ls.length + 1)], .cons ⟨k1, k2, k3, fun hpos => ?_⟩ (.cons hl.tail ht), ?_, ?_, ?_, hi3⟩
              · obtain ⟨u0, hu0⟩ : ∃ u0, u.k[0]? = some u0 := ⟨_, List.getElem?_eq_getElem (by omega)⟩
                obtain ⟨b', off', _, _, e', _⟩ := k4 0 u0 hu0
                refine ⟨b', off', e', ?_, fun j u' hu' => ?_⟩
                · obtain ⟨b2, off2, av2, kv2, e2, q1, q2, q3⟩ := k4 0 u0 hu0
                  rw [e'] at e2; cases e2
                  exact .inl q1
                · obtain ⟨b2, off2, av2, kv2, e2, q1, q2, q3⟩ := k4 j u' hu'
                  rw [e'] at e2; cases e2
                  exact ⟨av2, kv2, q2.mv (hb.block _ q1), q3⟩
              · obtain ⟨d, ks'⟩ := u
                simp only [meas, cL, cT, Tr.k] at h2 ⊢
                omega
              · simp at h3 ⊢; omega
              · rw [heq]
                simp [rem]
          | ret => exact hp
          | exit id => exact hp
          | goto t => exact hp
          | panic ch => exact hp
          | outgrown => exact hp
    · cases hx
  · rintro D g s W hD hs ⟨F, pre, h1, h2, h3, h4, h5⟩ hd
    subst hs
    cases h1
    rw [rem, List.append_nil] at h4
    rw [← h4] at h5
    exact hdone D W hD h5 hd
theorem nodes_any (w : World) (ao : Option Addr) (n c : Nat) : Calls Try.prog 32 #[.slice ao n c] w fun e w' => e = .returned (.func (.func 48) #[] #[.pointer (some ⟨w.heap.size, 0, none⟩)]) ∧ w' = w.alloc (.cells #[.slice ao n c] 25) := by
  go_enter Try.func32, Try.ntmps32
  go_wp2
  go_ret
  exact ⟨rfl, rfl⟩
end Go.Proofs.Ytdpibnmbgjhohaa
