/- The trie of all names is made. -/
import Derived.Test.YtdiealijjhfhjaaGreatDoorZv
namespace Go.Proofs.YtdiealijjhfhjaaGreatDoor
open Go.RowKit
theorem trie_stays {U : Nat → Prop} {w : World} {B t : Nat} {l : List G6.Rf} (T : G6.TrieIs w B t l) (hU : ∀ b, B ≤ b → b < w.heap.size → U b) : Stays U w fun w => G6.TrieIs w 0 t l := fun w' k => by
  obtain ⟨N, M, kk, h1, h2⟩ := T
  have h3 := h1.same (w' := w') fun b hb hs => k.block b (hU b hb hs) hs
  exact ⟨N, M, kk, { h3 with hB := fun _ _ _ => Nat.zero_le _, hM := fun _ _ _ => Nat.zero_le _ }, h2⟩
def Since (S : Nat → Prop) (w w2 : World) (k : Nat) : Prop := S k ∨ (w.heap.size ≤ k ∧ k < w2.heap.size)
theorem MachV.since {Z : Nat → Prop} {S : Nat → Prop} {x : Nat} {m : Mc} {v : Vs} {T : List TL} {w w2 : World} (h : MachV Z S x m v T w) (b : Below w.heap.size w w2) : MachV Z (Since S w w2) x m v T w2 := by
  have h2 := h.below b
  have hb : Bag (Since S w w2) w2 (m.rows v T) := h2.bag.more fun i r hr g hg hU => by
    rcases hU with hU | hU
    · exact hU
    · have := (own_blk (h.bag.own i r hr) hg).1
      omega
  refine ⟨fun k hk => ?_, ⟨fun hx => ?_, fun k hk => .inl (h.hz.2 k hk)⟩, h2.hi.mono fun _ => .inl, h2.blk, hb, ?_, h2.trie.mono fun _ => .inl, h2.told, fun t ht => (h2.toks t ht).mono fun _ => .inl⟩
  · rcases hk with hk | hk
    · exact h2.low k hk
    · exact hk.2
  · have := h.lt
    rcases hx with hx | hx
    · exact h.hx hx
    · omega
  · refine h2.names.mv (fun k e hS hU => ?_) (fun _ _ _ => rfl)
    rcases hU with hU | hU
    · exact hS hU
    · have hn := h.names
      rw [e] at hn
      have := hn.lt
      omega
theorem MachV.made {Z : Nat → Prop} {S : Nat → Prop} {x : Nat} {m : Mc} {v : Vs} {T : List TL} {w w2 : World} (h : MachV Z S x m v T w) (b : Below w.heap.size w w2) {t : Nat} (ht : G6.TrieIs w2 w.heap.size t G6.refs) :
    MachV Z (Since S w w2) x m { v with p := .pointer (some ⟨t, 0, none⟩) } T (w2.setCell ⟨x, 7, none⟩ (.pointer (some ⟨t, 0, none⟩))) ∧ Keep S w (w2.setCell ⟨x, 7, none⟩ (.pointer (some ⟨t, 0, none⟩))) := by
  have h1 := h.since b
  have hk := (Keep.refl (Since S w w2) w2).setCell (p := ⟨x, 7, none⟩) h1.hx (.pointer (some ⟨t, 0, none⟩))
  have hne : ∀ g, g ≠ x → (w2.setCell ⟨x, 7, none⟩ (.pointer (some ⟨t, 0, none⟩))).heap[g]? = w2.heap[g]? := fun g hg => Below.heap_setCell _ _ _ _ hg
  refine ⟨⟨fun k hS => Nat.lt_of_lt_of_le (h1.low k hS) hk.size, h1.hz, h1.hi.keep hk, ?_, ?_, ?_, ?_, h1.told, fun t ht => (h1.toks t ht).keep hk⟩, (Keep.old b).trans (hk.sub fun _ => .inl)⟩
  · have : (m.cells v).set! 7 (.pointer (some ⟨t, 0, none⟩)) = m.cells { v with p := .pointer (some ⟨t, 0, none⟩) } := rfl
    rw [← this]
    simp [World.setCell, Array.getElem?_modify, h1.blk]
  · exact h1.bag.mv (fun g cur e zz he hg _ => hne g (fun e2 => by subst e2; rw [h1.blk] at hg; simp at hg; exact he hg.2.1.symm)) (rows_ne _ _ _)
  · refine h1.names.mv (fun _ _ h => h) (fun b e _ => hne b (fun e2 => ?_))
    subst e2
    have hn := h1.names
    rw [e] at hn
    exact hn.obj _ _ _ h1.blk
  · exact .inr ⟨t, rfl, (trie_stays ht fun b h1 h2 => .inr ⟨h1, h2⟩).keep hk⟩
end Go.Proofs.YtdiealijjhfhjaaGreatDoor
namespace Go.Proofs.YtdiealijjhfhjaaGreatDoor
open Go.RowKit
theorem refs_any (w : World) : Calls Tryz.prog 129 #[] w fun e w' => e = .returned (.slice (some ⟨w.heap.size, 0, none⟩) 78 78) ∧ G6.RefRow w' (some ⟨w.heap.size, 0, none⟩) G6.refs ∧ Below w.heap.size w w' ∧ w'.heap.size = w.heap.size + 1 := by
  refine (G6.refs_walk w).mono ?_
  rintro e w' ⟨rfl, rfl⟩
  obtain ⟨L, hL⟩ : ∃ L, L = G6.refs := ⟨_, rfl⟩
  rw [← hL]
  clear hL
  refine ⟨rfl, fun i x hx => ?_, (Below.refl _ _).alloc (Nat.le_refl _) _, by simp⟩
  have e := heap_alloc_new w (.cells (L.flatMap G6.Rf.cells).toArray 172)
  obtain ⟨W, hW⟩ : ∃ W, W = w.alloc (.cells (L.flatMap G6.Rf.cells).toArray 172) := ⟨_, rfl⟩
  rw [← hW] at e ⊢
  obtain ⟨h1, h2⟩ := G6.rf_at L i x hx
  refine ⟨w.heap.size, 0, rfl, by rw [hW]; simp, ?_, ?_⟩
  · simp [World.cell?, e, h1]
  · simp [World.cell?, e, h2]
theorem api_refs : G6.Api G6.refs where
  refs := refs_any
  len := G6.refs_len
  fine := by unfold G6.Fine; decide +kernel
end Go.Proofs.YtdiealijjhfhjaaGreatDoor
namespace Go.Proofs.YtdiealijjhfhjaaGreatDoor
open Go.RowKit
set_option maxHeartbeats 4000000 in
set_option maxRecDepth 20000 in
theorem sure_4 {Z : Nat → Prop} {S : Nat → Prop} {x : Nat} {m : Mc} {v : Vs} {T : List TL} {w : World} (h : MachV Z S x m v T w) (a d : Ch) (t : List Ch) (hl : m.ref = a :: d :: t) (hn : m.tot ≤ 500000000) (h35 : (d.r == 35) = false) (h59 : (Mc.lastR m.ref == 59) = false) (hg : v.p = .pointer none) : Calls Tryz.prog 156 #[mp x] w (Says Z S x m w (!G6.goes G6.refs (encs (d :: t)))) := by
  have HM : Hid (MachV Z S x m v T w) := h
  have hxw := h.lt
  have c6 := h.cells 6 v.r rfl
  have c7 := h.cells 7 v.p rfl
  have f7 := h.free 7
  rw [hg] at c7
  obtain ⟨ao, ca, e6, hca, hrow, hz, hmx⟩ := rowC (h.bag.own 1 _ rfl)
  have hk : m.ref.length = t.length + 2 := by rw [hl]; rfl
  have hkb : t.length ≤ 500000000 := by unfold Mc.tot at hn; omega
  obtain ⟨k, hk2⟩ : ∃ k, t.length = k := ⟨_, rfl⟩
  rw [e6, hk, hk2] at c6
  rw [hk, hk2] at hca
  rw [hk2] at hkb
  obtain ⟨b, off, rfl, hb, d0, _, _⟩ := hrow 1 d (by rw [hl]; rfl)
  obtain ⟨rfl, _⟩ := hz b off rfl
  obtain ⟨c, hc, hcr⟩ := lastR_at (d :: t) a (k + 1) (by simp [hk2])
  rw [← hl] at hc hcr
  obtain ⟨b', off', he, _, d1, _, _⟩ := hrow (k + 1) c hc
  cases he
  rw [hcr] at d1
  obtain ⟨z, hzr⟩ : ∃ z, Mc.lastR m.ref = z := ⟨_, rfl⟩
  rw [hzr] at d1 h59
  obtain ⟨r, hr⟩ : ∃ r, d.r = r := ⟨_, rfl⟩
  rw [hr] at d0 h35
  have d0' : w.cell? ⟨b, 3, none⟩ = some (.int .i64 r) := d0
  have d1' : w.cell? ⟨b, (k + 1) * 3, none⟩ = some (.int .i64 z) := by rw [Nat.zero_add] at d1; exact d1
  have hc1 : ¬ ca = 1 := by omega
  have hdr := hrow.drop 1 ca (by omega)
  rw [hl, if_neg hc1] at hdr
  have hdr2 : ChRow (some ⟨b, 3, none⟩) (d :: t) w := hdr
  have HC : Hid (t.length = k ∧ m.ref = a :: d :: t ∧ v.r = .slice (some ⟨b, 0, none⟩) (k + 2) ca) := ⟨hk2, hl, by rw [e6, hk, hk2]⟩
  clear d0 d1 hz h hrow hl hk hk2 hn e6 hr hzr hcr hc hdr hdr2 hg
  go_enter Tryz.func156, Tryz.ntmps156
  go_wp2_with fail
  go_quiet (fail)
  have hbq : Below w.heap.size w (w.drewN nq) := G9.below_drewN (Below.refl _ _) _
  have c6q : (w.drewN nq).cell? ⟨x, 6, none⟩ = some (.slice (some ⟨b, 0, none⟩) (k + 2) ca) := by simpa using c6
  have c7q : (w.drewN nq).cell? ⟨x, 7, none⟩ = some (.pointer none) := by simpa using c7
  generalize hQ : w.drewN nq = Q at *
  go_wp2_with fail
  refine (refs_any _).mono ?_
  rintro e w1 ⟨rfl, hr1, b1, _⟩
  have b01 : Below w.heap.size w w1 := hbq.trans (b1.mono hbq.size)
  have HR : Hid (G6.RefRow w1 (some ⟨Q.heap.size, 0, none⟩) G6.refs) := hr1
  clear hr1 b1
  go_wp2_with fail
  refine (G6.new_any 78 78 HR.out G6.refs_len (by decide)).mono ?_
  rintro e w2 ⟨g, rfl, ht, b2⟩
  have b02 : Below w.heap.size w w2 := b01.trans (b2.mono b01.size)
  have hx2 : x < w2.heap.size := Nat.lt_of_lt_of_le hxw b02.size
  have c6b : w2.cell? ⟨x, 6, none⟩ = some (.slice (some ⟨b, 0, none⟩) (k + 2) ca) := (b02.cell (p := ⟨x, 6, none⟩) hxw).trans c6
  have c7b : w2.cell? ⟨x, 7, none⟩ = some (.pointer none) := (b02.cell (p := ⟨x, 7, none⟩) hxw).trans c7
  have f7b : w2.frozen? ⟨x, 7, none⟩ = false := (World.frozen?_of_block (a := ⟨x, 7, none⟩) (b02.block x hxw)).trans f7
  have hm := (HM.out.below b01).made b2 ht
  have HP : Hid (MachV Z (Since S w1 w2) x m { v with p := .pointer (some ⟨g, 0, none⟩) } T (w2.setCell ⟨x, 7, none⟩ (.pointer (some ⟨g, 0, none⟩))) ∧ Keep S w (w2.setCell ⟨x, 7, none⟩ (.pointer (some ⟨g, 0, none⟩)))) := ⟨hm.1, (Keep.old b01).trans hm.2⟩
  have c6c := hm.1.cells 6 v.r rfl
  have c7c := hm.1.cells 7 (.pointer (some ⟨g, 0, none⟩)) rfl
  have hx3 := hm.1.lt
  rw [HC.out.2.2] at c6c
  clear hm ht b2 b01 hbq hQ c6q c7q HR f7
  go_wp2_with fail
  generalize hW : w2.setCell ⟨x, 7, none⟩ (.pointer (some ⟨g, 0, none⟩)) = W at *
  have HT : Hid (∀ w' c2, Below W.heap.size W w' → Calls Tryz.prog 83 #[.slice (some ⟨b, 3, none⟩) (k + 1) c2] w' fun e w'' => e = .returned (.string (bs (encs (d :: t)))) ∧ Below w'.heap.size w' w'') := fun w' c2 bw => by
    obtain ⟨ao', ca', e6', _, hrow', _, _⟩ := rowC (HP.out.1.bag.own 1 _ rfl)
    have e7 : Value.slice ao' m.ref.length ca' = .slice (some ⟨b, 0, none⟩) (k + 2) ca := e6'.symm.trans HC.out.2.2
    injection e7 with q1 q2 q3
    subst q1
    have hdr := hrow'.drop 1 ca (by omega)
    rw [HC.out.2.1, if_neg hc1] at hdr
    have hdr2 : ChRow (some ⟨b, 3, none⟩) (d :: t) W := hdr
    exact textOf_any (k + 1) c2 (hdr2.below bw) (by simp [HC.out.1]) (by omega)
  have HG : Hid (∀ w', Below W.heap.size W w' → Calls Tryz.prog 188 #[.pointer (some ⟨g, 0, none⟩), .string (bs (encs (d :: t)))] w' fun e w'' => e = .returned (.bool (G6.goes G6.refs (encs (d :: t)))) ∧ Below w'.heap.size w' w'') := fun w' bw => by
    have hs : (bs (encs (d :: t))).size ≤ 9223372036854775807 := by
      rw [bs_size]
      have := encs_len (d :: t)
      simp only [List.length_cons, HC.out.1] at this
      omega
    rcases HP.out.1.trie with h0 | ⟨g', h0, h1⟩
    · cases h0
    · cases h0
      have := G6.goes_any (h1 w' (Keep.old bw)) (bs (encs (d :: t))) hs
      rwa [bs_list] at this
  obtain ⟨n, hn⟩ : ∃ n, k + 2 = n := ⟨_, rfl⟩
  have e1 : k + 1 = n - 1 := by omega
  have i1 : (1 : Int) ≤ (n : Int) := by omega
  have i2 : (n : Int) ≤ (ca : Int) := by omega
  rw [hn] at c6c
  rw [e1] at HT
  clear hn e1 hca hkb hW c6 c7 c6b c7b f7b d0' d1' b02 hx2
  have hin : Sn x (.slice (some ⟨b, 0, none⟩) n ca) (.pointer (some ⟨g, 0, none⟩)) W W := ⟨c6c, c7c, Below.refl _ _⟩
  go_region_held3 (fun w' => w'.cell? ⟨x, 6, none⟩ = some (.slice (some ⟨b, 0, none⟩) n ca) ∧ w'.cell? ⟨x, 7, none⟩ = some (.pointer (some ⟨g, 0, none⟩)) ∧ Below W.heap.size W w')
    (first | assumption | exact sn_keep (by assumption) hx3 c6c c7c | go_keep)
    (first
      | (go_at_call 83; refine (HT.out _ _ (sn_below (by assumption))).mono ?_; rintro e w' ⟨rfl, hbw⟩; have hkk := sn_step (by assumption) hbw hx3 c6c c7c)
      | (go_at_call 188; refine (HG.out _ (sn_below (by assumption))).mono ?_; rintro e w' ⟨rfl, hbw⟩; have hkk := sn_step (by assumption) hbw hx3 c6c c7c))
  all_goals
    go_wp2_with fail
    go_ret
    refine ⟨rfl, ?_⟩
    exact Post.go (fun _ h => h) HP.out.2 ⟨_, fun _ => .inl, ⟨_, _, HP.out.1.below (sn_below (by assumption))⟩, Keep.old (sn_below (by assumption))⟩
end Go.Proofs.YtdiealijjhfhjaaGreatDoor
namespace Go.Proofs.YtdiealijjhfhjaaGreatDoor
open Go.RowKit
theorem sure_any {Z : Nat → Prop} {S : Nat → Prop} {x : Nat} {m : Mc} {w : World} (h : Mach Z S x m w) (h2 : 2 ≤ m.ref.length) (hn : m.tot ≤ 500000000) : Calls Tryz.prog 156 #[mp x] w (Says Z S x m w (Mc.sure m.ref)) := by
  match hl : m.ref with
  | [] => rw [hl] at h2; simp at h2
  | [_] => rw [hl] at h2; simp at h2
  | a :: d :: t =>
    cases h35 : (d.r == 35) with
    | true =>
      have e : Mc.sure (a :: d :: t) = Mc.sureNum t := by unfold Mc.sure; dsimp only; rw [if_pos (by simpa using h35)]
      rw [e]
      exact sure_1 h a d t hl hn h35
    | false =>
      cases h59 : (Mc.lastR m.ref == 59) with
      | true =>
        have e : Mc.sure (a :: d :: t) = true := by unfold Mc.sure; dsimp only; rw [if_neg (by simpa using h35), if_pos (by rw [hl] at h59; simpa using h59)]
        rw [e]
        exact sure_2 h a d t hl hn h35 h59
      | false =>
        have e : Mc.sure (a :: d :: t) = !G6.goes G6.refs (encs (d :: t)) := by unfold Mc.sure; dsimp only; rw [if_neg (by simpa using h35), if_neg (by rw [hl] at h59; simpa using h59)]
        rw [e]
        obtain ⟨v, T, h⟩ := h
        rcases h.trie with h0 | ⟨g, h0, h1⟩
        · exact sure_4 h a d t hl hn h35 h59 h0
        · exact sure_3 h a d t hl hn h35 h59 g h0 h1
end Go.Proofs.YtdiealijjhfhjaaGreatDoor
