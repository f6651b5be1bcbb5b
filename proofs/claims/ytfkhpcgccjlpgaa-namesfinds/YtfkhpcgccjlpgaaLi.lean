/- list: the names at a node and below it. -/
import Derived.Test.YtfkhpcgccjlpgaaLm
namespace Go.Proofs.Ytfkhpcgccjlpgaa
open Go.RowKit

def ownAt (V : Path → Option Int) (p : Path) : List Rf := match V p with
  | some r => [⟨⟨p.toArray⟩, r⟩]
  | none => []
def allBytes : List UInt8 := (List.range 256).map UInt8.ofNat
def kids (E : Path → Bool) (p : Path) : List UInt8 := allBytes.filter fun x => E (p ++ [x])
/-- The names at p and below it, n bytes deep. -/
def listP (V : Path → Option Int) (E : Path → Bool) : Nat → Path → List Rf
  | 0, p => ownAt V p
  | n + 1, p => ownAt V p ++ (kids E p).flatMap fun x => listP V E n (p ++ [x])

theorem allBytes_mem (x : UInt8) : x ∈ allBytes := by
  unfold allBytes
  rw [List.mem_map]
  exact ⟨x.toNat, List.mem_range.2 (UInt8.toNat_lt x), by simp⟩
theorem allBytes_rise : allBytes.Pairwise (fun x y => x.toNat < y.toNat) := by decide +kernel
theorem kids_rise (E : Path → Bool) (p : Path) : (kids E p).Pairwise (fun x y => x.toNat < y.toNat) := allBytes_rise.filter _

theorem rise_eq : ∀ {a b : List UInt8}, a.Pairwise (fun x y => x.toNat < y.toNat) → b.Pairwise (fun x y => x.toNat < y.toNat) → (∀ x, x ∈ a ↔ x ∈ b) → a = b
  | [], [], _, _, _ => rfl
  | [], y :: b, _, _, h => absurd ((h y).2 (by simp)) (by simp)
  | x :: a, [], _, _, h => absurd ((h x).1 (by simp)) (by simp)
  | x :: a, y :: b, ha, hb, h => by
    rw [List.pairwise_cons] at ha hb
    have hxy : x = y := by
      have h1 : x ∈ y :: b := (h x).1 (by simp)
      have h2 : y ∈ x :: a := (h y).2 (by simp)
      rcases List.mem_cons.1 h1 with e | h1
      · exact e
      · rcases List.mem_cons.1 h2 with e | h2
        · exact e.symm
        · have := hb.1 x h1
          have := ha.1 y h2
          omega
    subst hxy
    congr 1
    refine rise_eq ha.2 hb.2 fun z => ?_
    have := h z
    simp only [List.mem_cons] at this
    constructor
    · intro hz
      rcases this.1 (.inr hz) with e | e
      · subst e; have := ha.1 z hz; omega
      · exact e
    · intro hz
      rcases this.2 (.inr hz) with e | e
      · subst e; have := hb.1 z hz; omega
      · exact e

theorem name_str {w : World} {B : Nat} {v : Value} {p : Path} (h : NameIs w B v p) : (convert 38 9 v).run Try.prog w = .ok (.string ⟨p.toArray⟩) w := by
  rcases h.2 with ⟨rfl, h0⟩ | ⟨g, cap, cur, rfl, hB, hg, h1, h2, h3, h4⟩
  · have hp0 : p = [] := List.eq_nil_of_length_eq_zero h0
    subst hp0
    exact run_convert_bytes_nil (P := Try.prog) w 38 5 Try.underlying38 Try.underlying5 0 0 9 Try.underlying9
  · refine run_convert_bytes_back (P := Try.prog) w 38 9 5 ⟨g, 0, none⟩ cap p Try.underlying38 Try.underlying5 Try.underlying9 fun j hj => ?_
    rw [Addr.add_lit, Nat.zero_add]
    have e : (cur.toList.take (p.length * 1))[j]? = some (eu p[j]) := by rw [h4]; simp [hj]
    rw [List.getElem?_take_of_lt (by omega), Array.getElem?_toList] at e
    simp [World.cell?, hg, e]

theorem own_mv {w w' : World} {B e s n : Nat} {v : Value} {xs : List Value} (h : w.ownsRow B e s v n xs) (k : ∀ g, v.ownBlock = some g → w'.heap[g]? = w.heap[g]?) : w'.ownsRow B e s v n xs := by
  refine ⟨h.1, ?_⟩
  rcases h.2 with hn | ⟨g, cap, cur, rfl, hb, hg, rest⟩
  · exact .inl hn
  · exact .inr ⟨g, cap, cur, rfl, hb, (k g rfl).trans hg, rest⟩

/-- What list leaves. -/
def Listed (B : Nat) (v l : Value) (p : Path) (L R : List Rf) (w : World) (e : Ending) (w' : World) : Prop :=
  ∃ l', e = .returned l' ∧ RowIs w' B l' (L ++ R) ∧ (l'.ownBlock = l.ownBlock ∨ ∃ g, l'.ownBlock = some g ∧ w.heap.size ≤ g) ∧ NmKeep v p.length w w' ∧ LFr v l w w'

theorem TrieAt.keep {w w' : World} {B t : Nat} {N M : Path → Option Nat} {V : Path → Option Int} {c : Int} {k : Nat} (T : TrieAt w B t N M V c k) (e1 : ∀ q d, N q = some d → w'.heap[d]? = w.heap[d]?) (e2 : ∀ q d, M q = some d → w'.heap[d]? = w.heap[d]?) : TrieAt w' B t N M V c k where
  root := T.root
  hB := T.hB
  hM := T.hM
  inj := T.inj
  minj := T.minj
  up := T.up
  mup := T.mup
  vup := T.vup
  node := fun p b h => (T.node p b h).same (e1 p b h)
  maps := fun p m h => (T.maps p m h).same (e2 p m h)
  count := (World.cell?_of_block (a := ⟨t, 3, none⟩) (e1 [] t T.root)).trans T.count

/-- What list has between two of a node's bytes. -/
structure Mid (B : Nat) (v l0 : Value) (p : Path) (Lk : List Rf) (W2 : World) (li : Value) (w : World) : Prop where
  row : RowIs w B li Lk
  loc : li.ownBlock = l0.ownBlock ∨ ∃ g, li.ownBlock = some g ∧ W2.heap.size ≤ g
  nm : NmKeep v p.length W2 w
  fr : LFr v l0 W2 w

theorem NmKeep.refl (v : Value) (n : Nat) (w : World) : NmKeep v n w w := fun _ _ cur h => ⟨cur, h, rfl, rfl⟩
theorem LFr.refl (v l : Value) (w : World) : LFr v l w w := ⟨rfl, rfl, rfl, Nat.le_refl _, fun _ _ _ _ => rfl⟩

theorem NmKeep.trans {v : Value} {n : Nat} {a b c : World} (h : NmKeep v n a b) (g : NmKeep v n b c) : NmKeep v n a c := fun d hd cur hc => by
  obtain ⟨c1, e1, e2, e3⟩ := h d hd cur hc
  obtain ⟨c2, f1, f2, f3⟩ := g d hd c1 e1
  exact ⟨c2, f1, f2.trans e2, f3.trans e3⟩

/-- One of a node's bytes more: the name with it, what is below it. -/
theorem Mid.step {B : Nat} {v l0 v' li l'' : Value} {p : Path} {x : UInt8} {Lk R : List Rf} {W2 wr w' w'' : World} (m : Mid B v l0 p Lk W2 li wr) (hn : NameIs W2 B v p) (hloc : v'.ownBlock = v.ownBlock ∨ ∃ g, v'.ownBlock = some g ∧ wr.heap.size ≤ g) (hk : NmKeep v p.length wr w') (hf : LFr v (.slice none 0 0) wr w')
    (r2 : RowIs w'' B l'' (Lk ++ R)) (l2 : l''.ownBlock = li.ownBlock ∨ ∃ g, l''.ownBlock = some g ∧ w'.heap.size ≤ g) (k2 : NmKeep v' (p ++ [x]).length w' w'') (f2 : LFr v' li w' w'') : Mid B v l0 p (Lk ++ R) W2 l'' w'' := by
  have hs1 := m.fr.size
  have hs2 := hf.size
  have hs3 := f2.size
  have hvb : ∀ g, v.ownBlock = some g → g < W2.heap.size := fun g hg => (own_blk hn hg).2.1
  have hnr : NameIs wr B v p := hn.keep m.nm
  have hv'n : ∀ g, v.ownBlock = some g → v'.ownBlock ≠ v.ownBlock → some g ≠ v'.ownBlock := fun g hg hne e => hne (by rw [← e, hg])
  have hli : ∀ g, v.ownBlock = some g → some g ≠ li.ownBlock := fun g hg e => apart hnr m.row hg e.symm
  have hkeep2 : NmKeep v p.length w' w'' := fun g hg cur hc => by
    by_cases he : v'.ownBlock = v.ownBlock
    · obtain ⟨c1, e1, e2, e3⟩ := k2 g (he.trans hg) cur hc
      refine ⟨c1, e1, e2, ?_⟩
      have := congrArg (List.take p.length) e3
      rw [List.take_take, List.take_take] at this
      simpa using this
    · have hgw : g < w'.heap.size := by have := hvb g hg; omega
      exact ⟨cur, (f2.block g hgw (hv'n g hg he) (hli g hg)).trans hc, rfl, rfl⟩
  refine ⟨r2, ?_, (m.nm.trans hk).trans hkeep2, ?_⟩
  · rcases l2 with e | ⟨g, e, h⟩
    · rw [e]; exact m.loc
    · exact .inr ⟨g, e, by omega⟩
  · refine ⟨f2.os.trans (hf.os.trans m.fr.os), f2.tape.trans (hf.tape.trans m.fr.tape), f2.output.trans (hf.output.trans m.fr.output), by omega, fun d hd h1 h2 => ?_⟩
    have h3 : some d ≠ v'.ownBlock := by
      rcases hloc with e | ⟨g, e, h⟩
      · rw [e]; exact h1
      · rw [e]; intro e2; cases e2; omega
    have h4 : some d ≠ li.ownBlock := by
      rcases m.loc with e | ⟨g, e, h⟩
      · rw [e]; exact h2
      · rw [e]; intro e2; cases e2; omega
    rw [f2.block d (by omega) h3 h4, hf.block d (by omega) h1 (by simp [Value.ownBlock]), m.fr.block d hd h1 h2]

set_option maxHeartbeats 4000000 in
theorem list_node (t Bt B c k : Nat) (N M : Path → Option Nat) (V : Path → Option Int) (hk : k ≤ 100000) (C : UInt8 → List Rf) (p : Path)
    (ih : ∀ (x : UInt8) (b : Nat) (v l : Value) (L : List Rf) (w : World), N (p ++ [x]) = some b → TrieAt w Bt t N M V (c : Int) k → B ≤ w.heap.size → NameIs w B v (p ++ [x]) → RowIs w B l L → (L ++ C x).length ≤ 1000 →
      Calls Try.prog 22 #[.pointer (some ⟨b, 0, none⟩), v, l] w (Listed B v l (p ++ [x]) L (C x) w))
    (b : Nat) (v l : Value) (L : List Rf) (w : World) (hNp : N p = some b) (T : TrieAt w Bt t N M V (c : Int) k) (hNB : ∀ q d, N q = some d → d < B) (hMB : ∀ q d, M q = some d → d < B) (hBw : B ≤ w.heap.size)
    (hname : NameIs w B v p) (hp8 : p.length ≤ 8) (hrow : RowIs w B l L) (hlen : (L ++ (ownAt V p ++ (kids (fun q => (N q).isSome) p).flatMap C)).length ≤ 1000) :
    Calls Try.prog 22 #[.pointer (some ⟨b, 0, none⟩), v, l] w (Listed B v l p L (ownAt V p ++ (kids (fun q => (N q).isSome) p).flatMap C) w) := by
  have O := T.node p b hNp
  have c0 := O.c0
  have c1 := O.c1
  have c2 := O.c2
  have hbw : b < w.heap.size := O.lt
  have HI := (show Hid _ from ih)
  have HA : Hid (TrieAt w Bt t N M V (c : Int) k ∧ NameIs w B v p ∧ RowIs w B l L ∧ (∀ q d, N q = some d → d < B) ∧ (∀ q d, M q = some d → d < B) ∧ N p = some b) := ⟨T, hname, hrow, hNB, hMB, hNp⟩
  have HLN : Hid ((L ++ (ownAt V p ++ (kids (fun q => (N q).isSome) p).flatMap C)).length ≤ 1000) := hlen
  obtain ⟨mo, hmo⟩ : ∃ mo, M p = mo := ⟨_, rfl⟩
  rw [hmo] at c0
  have HMO : Hid (M p = mo) := hmo
  clear T hname hrow hNB hMB hlen ih hmo O hNp
  go_enter Try.func22, Try.ntmps22
  go_upto_if 12 with fail
  go_cut [2] (fun s2 wc => ∃ l1, s2 = l1 ∧ RowIs wc B l1 (L ++ ownAt V p) ∧ (l1.ownBlock = l.ownBlock ∨ ∃ g, l1.ownBlock = some g ∧ w.heap.size ≤ g) ∧ LFr (.slice none 0 0) l w wc)
  case first =>
    cases hv : V p with
    | none =>
      rw [hv] at c1
      simp only [Option.isSome_none] at c1
      go_wp2_with fail
      go_meet
      refine ⟨l, rfl, ?_, .inl rfl, ⟨rfl, rfl, rfl, Nat.le_refl _, fun _ _ _ _ => rfl⟩⟩
      simpa [ownAt, hv] using HA.out.2.2.1
    | some r =>
      rw [hv] at c1 c2
      simp only [Option.isSome_some, Option.getD_some] at c1 c2
      obtain ⟨l1, w1, hrun, r1, r2, r3⟩ := row_app HA.out.2.2.1 ⟨⟨p.toArray⟩, r⟩ hBw (by have := HLN.out; rw [List.length_append] at this; omega)
      have hcv : ∀ n, (convert 38 9 v).run Try.prog (w.drewN n) = .ok (.string ⟨p.toArray⟩) (w.drewN n) := fun n => name_str (w := w.drewN n) HA.out.2.1
      have HF : Hid (RowIs w1 B l1 (L ++ ownAt V p) ∧ (l1.ownBlock = l.ownBlock ∨ ∃ g, l1.ownBlock = some g ∧ w.heap.size ≤ g) ∧ LFr (.slice none 0 0) l w w1) := ⟨by simpa [ownAt, hv] using r1, r2, r3⟩
      have hcv0 : (convert 38 9 v).run Try.prog w.drew = .ok (.string ⟨p.toArray⟩) w.drew := name_str (w := w.drew) HA.out.2.1
      clear r1 r2 r3
      go_wp2_with fail
      go_region_law (refine step_append_eq rfl _ _ 22 22 rfl _ _ (by simp [Act.eval]) (by simp [Act.eval]) hrun ?_)
      all_goals
        go_wp2_with fail
        go_meet
        exact ⟨l1, rfl, HF.out⟩
  case rest =>
    obtain ⟨l1, h2, hr1, hl1, hf1⟩ := hcut
    obtain rfl : l1 = _ := h2.symm
    have HN1 : Hid (NameIs wc B v p) := own_mv HA.out.2.1 fun g hg => hf1.block g (own_blk HA.out.2.1 hg).2.1 (by simp [Value.ownBlock]) (fun e => apart HA.out.2.1 HA.out.2.2.1 hg e.symm)
    have hfar : ∀ d, d < B → wc.heap[d]? = w.heap[d]? := fun d hd => hf1.block d (by omega) (by simp [Value.ownBlock]) (fun e => by have := (own_blk HA.out.2.2.1 e.symm).1; omega)
    have HT1 : Hid (TrieAt wc Bt t N M V (c : Int) k) := HA.out.1.keep (fun q d h => hfar d (HA.out.2.2.2.1 q d h)) (fun q d h => hfar d (HA.out.2.2.2.2.1 q d h))
    have H1 : Hid (RowIs wc B l1 (L ++ ownAt V p) ∧ (l1.ownBlock = l.ownBlock ∨ ∃ g, l1.ownBlock = some g ∧ w.heap.size ≤ g) ∧ LFr (.slice none 0 0) l w wc) := ⟨hr1, hl1, hf1⟩
    have d0 : wc.cell? ⟨b, 0, none⟩ = some (.map mo) := by rw [← HMO.out]; exact (HT1.out.node p b HA.out.2.2.2.2.2).c0
    have hbc : b < wc.heap.size := lt_of_cell d0
    have hBc : B ≤ wc.heap.size := Nat.le_trans hBw hf1.size
    clear hr1 hl1 hf1 hfar c0 c1 c2
    obtain ⟨W1, hW1⟩ : ∃ W1, W1 = wc.alloc (.cells #[.map mo] 40) := ⟨_, rfl⟩
    have hb1 : Below wc.heap.size wc W1 := by rw [hW1]; exact (Below.refl _ _).alloc (Nat.le_refl _) _
    have HW1 : Hid (W1 = wc.alloc (.cells #[.map mo] 40)) := hW1
    have hm1 : W1.cell? ⟨wc.heap.size, 0, none⟩ = some (.map mo) := by rw [hW1]; simp
    have hz1 : W1.heap.size = wc.heap.size + 1 := by rw [hW1]; simp
    have hM1 : MapAt W1 mo k (fun x => N (p ++ [x])) := by
      have HT2 := HT1.out.below hb1
      rw [← HMO.out]
      cases hmp : M p with
      | none =>
        intro x
        cases hx : N (p ++ [x]) with
        | none => exact hx
        | some d => obtain ⟨m, h⟩ := HT2.up _ _ _ hx; rw [hmp] at h; cases h
      | some m => exact HT2.maps p m hmp
    have hso := sorted_any wc.heap.size k mo _ W1 hk (by omega) hm1 hM1
    clear hM1 hm1 hW1
    go_wp2_with fail
    refine (mkeys_any mo wc).mono ?_
    rintro e w1 ⟨rfl, rfl⟩
    rw [← HW1.out]
    go_wp2_with fail
    refine hso.mono ?_
    rintro e W2 ⟨kv, ss, rfl, hmem, ⟨ao, kc, rfl, hcell, hrise⟩, hb2⟩
    have hss : ss = kids (fun q => (N q).isSome) p := rise_eq hrise (kids_rise _ _) (fun x => by rw [hmem x]; simp [kids, allBytes_mem])
    obtain ⟨n, hn⟩ : ∃ n, ss.length = n := ⟨_, rfl⟩
    have hn256 : n ≤ 256 := by rw [← hn]; exact nodup_u8 (hrise.imp fun {a b} h e => by subst e; omega)
    have hbe : Below wc.heap.size wc W2 := hb1.trans (hb2.mono (by omega))
    have HM0 : Hid (Mid B v l1 p (L ++ ownAt V p ++ (ss.take 0).flatMap C) W2 l1 W2 ∧ NameIs W2 B v p ∧ TrieAt W2 Bt t N M V (c : Int) k) := by
      refine ⟨⟨?_, .inl rfl, NmKeep.refl _ _ _, LFr.refl _ _ _⟩, ?_, HT1.out.below hbe⟩
      · rw [List.take_zero, List.flatMap_nil, List.append_nil]
        exact own_mv H1.out.1 fun g hg => hbe.block g (own_blk H1.out.1 hg).2.1
      · exact own_mv HN1.out fun g hg => hbe.block g (own_blk HN1.out hg).2.1
    have HC : Hid ((∀ j x, ss[j]? = some x → ∃ g, ao = some ⟨g, 0, none⟩ ∧ W1.heap.size ≤ g ∧ g < W2.heap.size ∧ W2.cell? ⟨g, j, none⟩ = some (eu x)) ∧ ss = kids (fun q => (N q).isSome) p ∧ ss.length = n ∧ (∀ x, x ∈ ss ↔ (N (p ++ [x])).isSome = true)) := ⟨hcell, hss, hn, hmem⟩
    have HBE : Hid (Below wc.heap.size wc W2) := hbe
    have hzW : wc.heap.size < W2.heap.size := by have := hb2.size; omega
    rw [hn]
    clear hcell hss hn hmem hrise hbe hb1 hb2 hso d0
    go_wp2_with fail
    go_loopg [2, 30] n (fun g s2 s30 wr => ∃ i li, s2 = li ∧ s30 = .int .i64 (i : Nat) ∧ i + g = n ∧ Mid B v l1 p (L ++ ownAt V p ++ (ss.take i).flatMap C) W2 li wr)
    case atStart => exact ⟨0, _, rfl, rfl, by omega, HM0.out.1⟩
    case round =>
      obtain ⟨i, li, h2, rfl, hig, hmid⟩ := hrel
      obtain rfl : li = _ := h2.symm
      have hTr : TrieAt wr Bt t N M V (c : Int) k := HM0.out.2.2.keep (fun q d h => hmid.fr.block d (HM0.out.2.2.node q d h).lt (fun e => by have := (own_blk HM0.out.2.1 e.symm).1; have := HA.out.2.2.2.1 q d h; omega) (fun e => by have := (own_blk HM0.out.1.row e.symm).1; have := HA.out.2.2.2.1 q d h; omega))
        (fun q d h => hmid.fr.block d (HM0.out.2.2.maps q d h).lt (fun e => by have := (own_blk HM0.out.2.1 e.symm).1; have := HA.out.2.2.2.2.1 q d h; omega) (fun e => by have := (own_blk HM0.out.1.row e.symm).1; have := HA.out.2.2.2.2.1 q d h; omega))
      have hWr := hmid.fr.size
      have HM : Hid (Mid B v l1 p (L ++ ownAt V p ++ (ss.take i).flatMap C) W2 li wr ∧ TrieAt wr Bt t N M V (c : Int) k) := ⟨hmid, hTr⟩
      clear hmid hTr
      cases gk with
      | zero =>
        obtain rfl : i = n := by omega
        have HF : Hid (Listed B v l p L (ownAt V p ++ (kids (fun q => (N q).isSome) p).flatMap C) w (.returned li) wr) := by
          have hm := HM.out.1
          refine ⟨li, rfl, ?_, ?_, ?_, ?_⟩
          · have := hm.row
            rw [List.take_of_length_le (by rw [HC.out.2.2.1]; exact Nat.le_refl _), HC.out.2.1, List.append_assoc] at this
            exact this
          · have hs1 := H1.out.2.2.size
            rcases hm.loc with e | ⟨g, e, h⟩
            · rw [e]; exact H1.out.2.1
            · exact .inr ⟨g, e, by omega⟩
          · intro g hg cur hc
            have h1 : wc.heap[g]? = w.heap[g]? := H1.out.2.2.block g (own_blk HA.out.2.1 hg).2.1 (by simp [Value.ownBlock]) (fun e => apart HA.out.2.1 HA.out.2.2.1 hg e.symm)
            have h2 : W2.heap[g]? = wc.heap[g]? := HBE.out.block g (own_blk HN1.out hg).2.1
            exact hm.nm g hg cur (h2.trans (h1.trans hc))
          · have hs1 := H1.out.2.2.size
            refine ⟨hm.fr.os.trans (HBE.out.os.trans H1.out.2.2.os), hm.fr.tape.trans (HBE.out.tape.trans H1.out.2.2.tape), hm.fr.output.trans (HBE.out.output.trans H1.out.2.2.output), by omega, fun d hd h1 h2 => ?_⟩
            have h3 : some d ≠ l1.ownBlock := by
              rcases H1.out.2.1 with e | ⟨g, e, h⟩
              · rw [e]; exact h2
              · rw [e]; intro e2; cases e2; omega
            rw [hm.fr.block d (by omega) h1 h3, HBE.out.block d (by omega), H1.out.2.2.block d hd (by simp [Value.ownBlock]) h2]
        have hg0 : decide ((i : Int) < (i : Int)) = false := decide_eq_false (by omega)
        go_wp2_with fail
        go_ret
        exact HF.out
      | succ g =>
        have hin : i < n := by omega
        have hil : i < ss.length := by rw [HC.out.2.2.1]; exact hin
        obtain ⟨x, hx⟩ : ∃ x, ss[i]? = some x := ⟨_, List.getElem?_eq_getElem hil⟩
        obtain ⟨gk, rfl, hgk1, hgk2, hkc⟩ := HC.out.1 i x hx
        have hkr : wr.cell? ⟨gk, i, none⟩ = some (eu x) := (World.cell?_of_block (a := ⟨gk, i, none⟩) (HM.out.1.fr.block gk hgk2 (fun e => by have := (own_blk HN1.out e.symm).2.1; omega) (fun e => by have := (own_blk H1.out.1 e.symm).2.1; omega))).trans hkc
        have hgkr : gk < wr.heap.size := lt_of_cell hkr
        have hxm : x ∈ ss := List.mem_of_getElem? hx
        obtain ⟨b', hb'⟩ : ∃ b', N (p ++ [x]) = some b' := Option.isSome_iff_exists.1 ((HC.out.2.2.2 x).1 hxm)
        have htk : ss.take (i + 1) = ss.take i ++ [x] := by
          rw [← List.take_append_getElem hil]
          congr 2
          have := List.getElem?_eq_getElem hil
          rw [hx] at this
          exact (Option.some.inj this).symm
        have hBr : B ≤ wr.heap.size := by omega
        have hnm : NameIs wr B v p := HM0.out.2.1.keep HM.out.1.nm
        obtain ⟨v', w', hrun, n1, n2, n3, n4⟩ := name_app hnm x hBr (by omega)
        have hTw : TrieAt w' Bt t N M V (c : Int) k := HM.out.2.keep (fun q d h => n4.block d (HM.out.2.node q d h).lt (fun e => by have := (own_blk hnm e.symm).1; have := HA.out.2.2.2.1 q d h; omega) (by simp [Value.ownBlock]))
          (fun q d h => n4.block d (HM.out.2.maps q d h).lt (fun e => by have := (own_blk hnm e.symm).1; have := HA.out.2.2.2.2.1 q d h; omega) (by simp [Value.ownBlock]))
        have hrw : RowIs w' B li (L ++ ownAt V p ++ (ss.take i).flatMap C) := own_mv HM.out.1.row fun d hd => n4.block d (own_blk HM.out.1.row hd).2.1 (fun e => apart hnm HM.out.1.row e.symm hd) (by simp [Value.ownBlock])
        have hlen2 : (L ++ ownAt V p ++ (ss.take i).flatMap C ++ C x).length ≤ 1000 := by
          have h1 := HLN.out
          rw [← HC.out.2.1, ← List.take_append_drop (i + 1) ss, htk] at h1
          simp only [List.flatMap_append, List.length_append, List.flatMap_cons, List.flatMap_nil, List.append_nil] at h1 ⊢
          omega
        have hcall := HI.out x b' v' li _ w' hb' hTw (Nat.le_trans hBr n4.size) n1 hrw hlen2
        have HST : Hid (∀ l'' w'', RowIs w'' B l'' (L ++ ownAt V p ++ (ss.take i).flatMap C ++ C x) → (l''.ownBlock = li.ownBlock ∨ ∃ g, l''.ownBlock = some g ∧ w'.heap.size ≤ g) → NmKeep v' (p ++ [x]).length w' w'' → LFr v' li w' w'' → Mid B v l1 p (L ++ ownAt V p ++ (ss.take (i + 1)).flatMap C) W2 l'' w'') := fun l'' w'' q1 q2 q3 q4 => by
          have := HM.out.1.step HM0.out.2.1 n2 n3 n4 q1 q2 q3 q4
          rw [htk, List.flatMap_append, List.flatMap_cons, List.flatMap_nil, List.append_nil, ← List.append_assoc]
          exact this
        have cb := (HM.out.2.node p b HA.out.2.2.2.2.2).c0
        have cb' := (hTw.node p b HA.out.2.2.2.2.2).c0
        have hlk := HM.out.2.look p x
        have hlk' := hTw.look p x
        have hlka := ((HM.out.2.below ((Below.refl _ _).alloc (Nat.le_refl _) (.cells #[eu x] 5))).same (w' := (wr.alloc (.cells #[eu x] 5)).drew) (fun _ _ _ => rfl)).look p x
        have hlkd := (HM.out.2.same (w' := wr.drew) (fun _ _ _ => rfl)).look p x
        rw [hb', HMO.out] at hlk hlk' hlka hlkd
        rw [HMO.out] at cb cb'
        simp only [ptr, Option.map_some] at hlk hlk' hlka hlkd
        have hbr : b < wr.heap.size := lt_of_cell cb
        clear hkc hxm htk hnm n1 n2 n3 n4 hTw hrw hlen2 hx hil
        have hlt : decide ((i : Int) < (n : Int)) = true := decide_eq_true (by omega)
        go_upto_region 6 with fail
        go_region_law (first
          | (refine step_append_eq rfl _ _ 38 38 rfl _ _ (by simp [Act.eval]) (by simp [Act.eval]) hrun ?_)
          | (refine step_call_eq 22 _ _ _ _ rfl rfl (enters_of Try.func22 (by kernel_rfl) rfl) _ _ _ (by simp [Act.eval]) (by simp [Act.eval]) (by simp [Act.eval]) hcall ?_
             rintro e w3 ⟨l'', rfl, q1, q2, q3, q4⟩
             refine ⟨l'', rfl, ?_⟩))
        all_goals
          have HMM : Hid (Mid B v l1 p (L ++ ownAt V p ++ (ss.take (i + 1)).flatMap C) W2 l'' w3) := HST.out _ _ q1 q2 q3 q4
          clear q1 q2 q3 q4
          go_wp2_with fail
          go_roundg g
          case measure => omega
          case rel => exact ⟨i + 1, l'', rfl, by go_num, by omega, HMM.out⟩

theorem list_any (t Bt B c k : Nat) (N M : Path → Option Nat) (V : Path → Option Int) (hk : k ≤ 100000) (hNB : ∀ q d, N q = some d → d < B) (hMB : ∀ q d, M q = some d → d < B) (hdeep : ∀ p x, 8 ≤ p.length → N (p ++ [x]) = none) :
    ∀ (n : Nat) (p : Path) (b : Nat) (v l : Value) (L : List Rf) (w : World), p.length + n = 8 → N p = some b → TrieAt w Bt t N M V (c : Int) k → B ≤ w.heap.size →
      NameIs w B v p → RowIs w B l L → (L ++ listP V (fun q => (N q).isSome) n p).length ≤ 1000 →
      Calls Try.prog 22 #[.pointer (some ⟨b, 0, none⟩), v, l] w (Listed B v l p L (listP V (fun q => (N q).isSome) n p) w) := by
  intro n
  induction n with
  | zero =>
    intro p b v l L w hpn hNp T hBw hname hrow hlen
    have hk0 : kids (fun q => (N q).isSome) p = [] := by
      unfold kids
      rw [List.filter_eq_nil_iff]
      intro x _
      show ¬ (N (p ++ [x])).isSome = true
      rw [hdeep p x (by omega)]
      simp
    have h := list_node t Bt B c k N M V hk (fun _ => []) p (fun x b v l L w hN => by rw [hdeep p x (by omega)] at hN; cases hN) b v l L w hNp T hNB hMB hBw hname (by omega) hrow
    rw [hk0, List.flatMap_nil, List.append_nil] at h
    exact h hlen
  | succ n ih =>
    intro p b v l L w hpn hNp T hBw hname hrow hlen
    exact list_node t Bt B c k N M V hk (fun x => listP V (fun q => (N q).isSome) n (p ++ [x])) p (fun x b v l L w h1 h2 h3 h4 h5 h6 => ih (p ++ [x]) b v l L w (by simp; omega) h1 h2 h3 h4 h5 h6) b v l L w hNp T hNB hMB hBw hname (by omega) hrow hlen
end Go.Proofs.Ytfkhpcgccjlpgaa
