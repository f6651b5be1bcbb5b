/- A reader in memory: its stream, its machine, the faults that it gathered; what stands while others turn. -/
import Derived.Test.YtdiealijjhfhjaaGreatDoorYc
import Derived.Test.YtdiealijjhfhjaaGreatDoorYa
import Derived.Test.YtdiealijjhfhjaaGreatDoorYb
import Derived.Test.YtdiealijjhfhjaaGreatDoorYi
namespace Go.Proofs.YtdiealijjhfhjaaGreatDoor
open Go.RowKit
theorem noTr {w : World} {k : Nat} {cur : Array Value} {e : TypeId} {z : Nat × Nat} (h : w.heap[k]? = some (.cells cur e z)) (h1 : e ≠ 189) (h2 : e ≠ 191) : NoTr w k := by
  refine ⟨fun o v nd => ?_, fun n g md => ?_⟩
  · rcases nd.tg _ _ _ h with e | e
    · exact h1 e
    · exact h2 e
  · obtain ⟨D, ⟨es, clock, hb, _⟩, _⟩ := md
    rw [h] at hb
    cases hb
theorem foot_type {Z S : Nat → Prop} {x : Nat} {m : Mc} {v : Vs} {w : World} (h : MachV Z S x m v [] w) {k : Nat} (hf : Foot x m v [] k) {cur : Array Value} {e : TypeId} {z : Nat × Nat} (hk : w.heap[k]? = some (.cells cur e z)) : e = 75 ∨ e = 44 ∨ e = 5 ∨ e = 108 ∨ e = 42 ∨ e = 57 := by
  rcases hf with rfl | ⟨i, r, hr, hg⟩ | hm
  · rw [h.blk] at hk
    simp at hk
    exact .inl hk.2.1.symm
  · obtain ⟨_, cur', z', hc⟩ := own_blk (h.bag.own i r hr) hg
    rw [hk] at hc
    simp at hc
    rw [hc.2.1]
    have := List.mem_of_getElem? hr
    simp only [Mc.rows, List.mem_cons, List.not_mem_nil, or_false] at this
    rcases this with rfl | rfl | rfl | rfl | rfl | rfl | rfl | rfl | rfl <;> simp
  · have hn := h.names
    rw [hm] at hn
    exact absurd hk (hn.obj _ _ _)
def Own (r x xs d : Nat) (m : Mc) (v : Vs) (fv : Value) (k : Nat) : Prop := Foot x m v [] k ∨ k = r ∨ k = xs ∨ k = d ∨ fv.ownBlock = some k
structure Rd (B r x xs d : Nat) (m : Mc) (v : Vs) (tn : Bool) (p : Int) (u : List UInt8) (wt : Ch) (fv : Value) (fs : List (Int × Int)) (W : World) : Prop where
  blk : W.heap[r]? = some (.cells #[.pointer (some ⟨xs, 0, none⟩), .pointer (some ⟨x, 0, none⟩), .bool tn, fv] 52 (0, 0))
  strm : G4.Strm xs d p u wt W
  frow : W.ownsRow B 57 2 fv fs.length (fs.flatMap gcells)
  hB : 1 < B ∧ B ≤ r ∧ B ≤ xs ∧ B ≤ d
  mach : MachV NoZ (Rest x m v W) x m v [] W
  vo : v.o = .slice none 0 0
  low : ∀ k, Foot x m v [] k → B ≤ k
  fo : ∀ g, fv.ownBlock = some g → ¬ Foot x m v [] g
structure Fr (O O' : Nat → Prop) (w w' : World) : Prop where
  keep : Keep (fun k => ¬ O k) w w'
  own : ∀ k, O' k → O k ∨ w.heap.size ≤ k
theorem Fr.trans {O O' O'' : Nat → Prop} {a b c : World} (h : Fr O O' a b) (k : Fr O' O'' b c) : Fr O O'' a c := by
  refine ⟨⟨k.keep.os.trans h.keep.os, k.keep.tape.trans h.keep.tape, k.keep.output.trans h.keep.output, Nat.le_trans h.keep.size k.keep.size, fun i h1 h2 => ?_⟩, fun i hi => ?_⟩
  · rw [k.keep.block i (fun ho => ?_) (Nat.lt_of_lt_of_le h2 h.keep.size)]
    · exact h.keep.block i h1 h2
    · rcases h.own i ho with e | e
      · exact h1 e
      · omega
  · rcases k.own i hi with e | e
    · exact h.own i e
    · exact .inr (Nat.le_trans h.keep.size e)
theorem Fr.refl (O : Nat → Prop) (w : World) : Fr O O w w := ⟨Keep.refl _ _, fun _ h => .inl h⟩
theorem Fr.old {O : Nat → Prop} {w w' : World} (h : Below w.heap.size w w') : Fr O O w w' := ⟨Keep.old h, fun _ h => .inl h⟩
theorem frow_blk {B : Nat} {fv : Value} {fs : List (Int × Int)} {W : World} (h : W.ownsRow B 57 2 fv fs.length (fs.flatMap gcells)) {g : Nat} (hg : fv.ownBlock = some g) : g < W.heap.size ∧ B ≤ g ∧ ∃ cur, W.heap[g]? = some (.cells cur 57 (0, 0)) := by
  rcases h.2 with ⟨rfl, _⟩ | ⟨g', cap, cur, rfl, hb, hgb, _⟩
  · simp [Value.ownBlock] at hg
  · simp [Value.ownBlock] at hg; subst hg
    exact ⟨(Array.getElem?_eq_some_iff.1 hgb).1, hb, cur, hgb⟩
theorem strm_blk {x d : Nat} {p : Int} {u : List UInt8} {wt : Ch} {w : World} (h : G4.Strm x d p u wt w) : x < w.heap.size ∧ d < w.heap.size ∧ (∃ cur, w.heap[x]? = some (.cells cur 94 (0, 0))) ∧ ∃ cur, w.heap[d]? = some (.cells cur 115 (0, 0)) := by
  obtain ⟨h1, h2, _⟩ := h
  have e1 := h1
  unfold G4.StrIs at e1
  have e2 := h2
  unfold G4.Dec G4.DecIs at e2
  exact ⟨(Array.getElem?_eq_some_iff.1 e1).1, (Array.getElem?_eq_some_iff.1 e2).1, ⟨_, e1⟩, ⟨_, e2⟩⟩
theorem strm_mv {x d : Nat} {p : Int} {u : List UInt8} {wt : Ch} {w w' : World} (h : G4.Strm x d p u wt w) (h1 : w'.heap[x]? = w.heap[x]?) (h2 : w'.heap[d]? = w.heap[d]?) : G4.Strm x d p u wt w' := ⟨h1.trans h.str, h2.trans h.dec, h.ok⟩
theorem row_mv {w w' : World} {B e s n : Nat} {v : Value} {xs : List Value} (h : w.ownsRow B e s v n xs) (k : ∀ g, v.ownBlock = some g → w'.heap[g]? = w.heap[g]?) : w'.ownsRow B e s v n xs := by
  refine ⟨h.1, ?_⟩
  rcases h.2 with hn | ⟨g, cap, cur, rfl, hb, hg, rest⟩
  · exact .inl hn
  · exact .inr ⟨g, cap, cur, rfl, hb, (k g rfl).trans hg, rest⟩
section
variable {B r x xs d : Nat} {m : Mc} {v : Vs} {tn : Bool} {p : Int} {u : List UInt8} {wt : Ch} {fv : Value} {fs : List (Int × Int)} {W : World}
theorem Rd.lt (h : Rd B r x xs d m v tn p u wt fv fs W) : r < W.heap.size := (Array.getElem?_eq_some_iff.1 h.blk).1
theorem Rd.one (h : Rd B r x xs d m v tn p u wt fv fs W) : Rest x m v W 1 := by
  refine ⟨?_, fun hf => ?_⟩
  · have := h.lt
    have := h.hB
    omega
  · have := h.low 1 hf
    have := h.hB
    omega
theorem Rd.foot (h : Rd B r x xs d m v tn p u wt fv fs W) {k : Nat} (hf : Foot x m v [] k) : k < W.heap.size ∧ k ≠ r ∧ k ≠ xs ∧ k ≠ d ∧ fv.ownBlock ≠ some k := by
  obtain ⟨s1, s2, ⟨c1, e1⟩, c2, e2⟩ := strm_blk h.strm
  refine ⟨(foot_out h.mach hf).2, fun e => ?_, fun e => ?_, fun e => ?_, fun e => h.fo k e hf⟩
  · subst e; rcases foot_type h.mach hf h.blk with e | e | e | e | e | e <;> exact absurd e (by decide)
  · subst e; rcases foot_type h.mach hf e1 with e | e | e | e | e | e <;> exact absurd e (by decide)
  · subst e; rcases foot_type h.mach hf e2 with e | e | e | e | e | e <;> exact absurd e (by decide)
theorem Rd.own_lt (h : Rd B r x xs d m v tn p u wt fv fs W) {k : Nat} (ho : Own r x xs d m v fv k) : k < W.heap.size ∧ B ≤ k := by
  obtain ⟨s1, s2, _⟩ := strm_blk h.strm
  rcases ho with ho | rfl | rfl | rfl | ho
  · exact ⟨(h.foot ho).1, h.low k ho⟩
  · exact ⟨h.lt, h.hB.2.1⟩
  · exact ⟨s1, h.hB.2.2.1⟩
  · exact ⟨s2, h.hB.2.2.2⟩
  · obtain ⟨q1, q2, _⟩ := frow_blk h.frow ho
    exact ⟨q1, q2⟩
theorem Rd.past (h : Rd B r x xs d m v tn p u wt fv fs W) {G : Nat → Prop} {W' : World} (hG : ∀ k, G k → k < W.heap.size → ¬ Own r x xs d m v fv k ∧ k ≠ 1 ∧ NoTr W k) (hk : Keep (fun k => ¬ G k) W W') : Rd B r x xs d m v tn p u wt fv fs W' := by
  obtain ⟨s1, s2, _⟩ := strm_blk h.strm
  have kept : ∀ k, Own r x xs d m v fv k → W'.heap[k]? = W.heap[k]? := fun k ho => hk.block k (fun hg => (hG k hg (h.own_lt ho).1).1 ho) (h.own_lt ho).1
  exact ⟨(kept r (.inr (.inl rfl))).trans h.blk, strm_mv h.strm (kept xs (.inr (.inr (.inl rfl)))) (kept d (.inr (.inr (.inr (.inl rfl))))), row_mv h.frow fun g hg => kept g (.inr (.inr (.inr (.inr hg)))), h.hB,
    h.mach.over h.one (fun k hg hl => ⟨fun hf => (hG k hg hl).1 (.inl hf), (hG k hg hl).2⟩) hk, h.vo, h.low, h.fo⟩
theorem Rd.below (h : Rd B r x xs d m v tn p u wt fv fs W) {W' : World} (b : Below W.heap.size W W') : Rd B r x xs d m v tn p u wt fv fs W' :=
  h.past (G := fun _ => False) (fun _ h => h.elim) (Keep.old b)
end
end Go.Proofs.YtdiealijjhfhjaaGreatDoor
namespace Go.Proofs.YtdiealijjhfhjaaGreatDoor
open Go.RowKit
theorem stays_in {U : Nat → Prop} {W : World} {T : Tk} {L : List At} (h : Stays U W fun w => TkS NoZ w T L) (hL : L ≠ []) {b : Nat} (e : T.ao = some ⟨b, 0, none⟩) : U b := by
  refine Classical.byContradiction fun hU => ?_
  obtain ⟨b', cur, z, e', hb, _⟩ := h.now.2 hL
  rw [e] at e'
  cases e'
  have hlt := (Array.getElem?_eq_some_iff.1 hb).1
  have hk : Keep U W { W with heap := W.heap.set! b (.cells #[] 0 (0, 0)) } := ⟨rfl, rfl, rfl, by simp, fun k hk hkl => by
    have : b ≠ k := fun e => hU (e ▸ hk)
    simp [this]⟩
  obtain ⟨b', cur', z', e', hb', _⟩ := (h _ hk).2 hL
  rw [e] at e'
  cases e'
  simp [hlt] at hb'
theorem stays_row {U : Nat → Prop} {W : World} {ao : Option Addr} {T : List TL} (h : Stays U W fun w => TkRowS NoZ w ao T) (hT : T ≠ []) {b o : Nat} (e : ao = some ⟨b, o, none⟩) : U b := by
  refine Classical.byContradiction fun hU => ?_
  obtain ⟨t, ht⟩ : ∃ t, T[0]? = some t := by
    cases T with
    | nil => exact absurd rfl hT
    | cons t T => exact ⟨t, rfl⟩
  have hk : Keep U W { W with heap := W.heap.set! b (.cells #[] 0 (0, 0)) } := ⟨rfl, rfl, rfl, by simp, fun k hk hkl => by
    have : b ≠ k := fun e => hU (e ▸ hk)
    simp [this]⟩
  obtain ⟨⟨b', o', e', hlt, hc⟩, _⟩ := (h _ hk).1 0 t ht
  rw [e] at e'
  cases e'
  have := hc 0 (.int .i64 t.1.k) rfl
  have hlt' : b < W.heap.size := by simpa using hlt
  simp [World.cell?, hlt'] at this
structure Tol (O : Nat → Prop) (ao : Option Addr) (T : List TL) (W : World) : Prop where
  row : TkRowS NoZ W ao T
  blk : ∀ b o, T ≠ [] → ao = some ⟨b, o, none⟩ → ¬ O b
  ats : ∀ t ∈ T, ∀ b, t.2 ≠ [] → t.1.ao = some ⟨b, 0, none⟩ → ¬ O b
section
variable {B r x xs d : Nat} {m m' : Mc} {v : Vs} {tn : Bool} {p : Int} {u : List UInt8} {wt : Ch} {fv : Value} {fs : List (Int × Int)} {W : World}
theorem Rd.went (h : Rd B r x xs d m v tn p u wt fv fs W) {U : Nat → Prop} {v' : Vs} {W' : World} (hU : ∀ k, Rest x m v W k → U k) (hm : MachV NoZ U x m' v' [] W') (ho : v'.o = .slice none 0 0) (hk : Keep (Rest x m v W) W W') :
    Rd B r x xs d m' v' tn p u wt fv fs W' ∧ Fr (Own r x xs d m v fv) (Own r x xs d m' v' fv) W W' ∧ ∀ k, U k → ¬ Foot x m' v' [] k := by
  obtain ⟨s1, s2, ⟨c1, e1⟩, c2, e2⟩ := strm_blk h.strm
  have ft : ∀ k, Foot x m' v' [] k → Foot x m v [] k ∨ W.heap.size ≤ k := fun k hf => by
    by_cases h1 : k < W.heap.size
    · refine .inl (Classical.byContradiction fun h2 => (foot_out hm hf).1 (hU k ⟨h1, h2⟩))
    · exact .inr (by omega)
  have kept : ∀ k, k < W.heap.size → ¬ Foot x m v [] k → W'.heap[k]? = W.heap[k]? := fun k h1 h2 => hk.block k ⟨h1, h2⟩ h1
  have nr : ¬ Foot x m v [] r := fun hf => (h.foot hf).2.1 rfl
  have nxs : ¬ Foot x m v [] xs := fun hf => (h.foot hf).2.2.1 rfl
  have nd : ¬ Foot x m v [] d := fun hf => (h.foot hf).2.2.2.1 rfl
  have hBW : B ≤ W.heap.size := Nat.le_trans h.hB.2.1 (Nat.le_of_lt h.lt)
  refine ⟨⟨(kept r h.lt nr).trans h.blk, strm_mv h.strm (kept xs s1 nxs) (kept d s2 nd), row_mv h.frow fun g hg => kept g (frow_blk h.frow hg).1 (h.fo g hg), h.hB, hm.over (hU 1 h.one) (G := fun _ => False) (fun _ h => h.elim) (Keep.refl _ _), ho, fun k hf => ?_, fun g hg hf => ?_⟩, ⟨⟨hk.os, hk.tape, hk.output, hk.size, fun k h1 h2 => kept k h2 fun hf => h1 (.inl hf)⟩, fun k hO => ?_⟩, fun k hk hf => (foot_out hm hf).1 hk⟩
  · rcases ft k hf with e | e
    · exact h.low k e
    · omega
  · rcases ft g hf with e | e
    · exact h.fo g hg e
    · have := (frow_blk h.frow hg).1
      omega
  · rcases hO with hf | ho
    · rcases ft k hf with e | e
      · exact .inl (.inl e)
      · exact .inr e
    · exact .inl (.inr ho)
theorem Rd.tol (h : Rd B r x xs d m v tn p u wt fv fs W) {U : Nat → Prop} {ao : Option Addr} {T : List TL} (hU : ∀ k, U k → ¬ Foot x m v [] k) (ht : Stays U W fun w => TkRowS NoZ w ao T) (ha : ∀ b o, ao = some ⟨b, o, none⟩ → T ≠ [] → b ≠ r ∧ b ≠ xs ∧ b ≠ d ∧ fv.ownBlock ≠ some b) : Tol (Own r x xs d m v fv) ao T W := by
  obtain ⟨s1, s2, ⟨c1, e1⟩, c2, e2⟩ := strm_blk h.strm
  refine ⟨ht.now, fun b o hT e ho => ?_, fun t hm b hL e ho => ?_⟩
  · have hb := stays_row ht hT e
    obtain ⟨q1, q2, q3, q4⟩ := ha b o e hT
    rcases ho with hf | hf | hf | hf | hf
    · exact hU b hb hf
    · exact q1 hf
    · exact q2 hf
    · exact q3 hf
    · exact q4 hf
  · have hb := stays_in (ht.imp fun w' h => h.2 t hm) hL e
    obtain ⟨b', cur, z, e', hc, _⟩ := (ht.now.2 t hm).2 hL
    rw [e] at e'
    cases e'
    rcases ho with hf | hf | hf | hf | hf
    · exact hU b hb hf
    · subst hf; rw [h.blk] at hc; simp at hc
    · subst hf; rw [e1] at hc; simp at hc
    · subst hf; rw [e2] at hc; simp at hc
    · obtain ⟨_, _, cur', hc'⟩ := frow_blk h.frow hf
      rw [hc'] at hc; simp at hc
def RGave (B r x xs d : Nat) (m : Mc) (v : Vs) (m' : Mc) (tn : Bool) (p : Int) (u : List UInt8) (wt : Ch) (fv : Value) (fs : List (Int × Int)) (L : List Pt) (W : World) (e : Ending) (W' : World) : Prop :=
  ∃ v' T ao cap, e = .returned (.slice ao T.length cap) ∧ T.map ptOf = L ∧ T.length ≤ cap ∧ Rd B r x xs d m' v' tn p u wt fv fs W' ∧ Fr (Own r x xs d m v fv) (Own r x xs d m' v' fv) W W' ∧ Tol (Own r x xs d m' v' fv) ao T W' ∧ ∀ b o, ao = some ⟨b, o, none⟩ → Foot x m v [] b ∨ W.heap.size ≤ b
theorem Rd.gave (h : Rd B r x xs d m v tn p u wt fv fs W) {f : Nat} {args : Array Value} {L : List Pt} (H : ∀ U, Mach NoZ U x m W → Calls Tryz.prog f args W (Gave NoZ U x m' L W)) : Calls Tryz.prog f args W (RGave B r x xs d m v m' tn p u wt fv fs L W) := by
  refine (H _ ⟨v, [], h.mach⟩).mono ?_
  rintro e W' ⟨U, T, ao, cap, rfl, h1, h2, h3, ⟨v', h4, h5⟩, h6, h7, h8⟩
  obtain ⟨k1, k2, k3⟩ := h.went h3 h4 h5 h6
  have hb : ∀ b o, ao = some ⟨b, o, none⟩ → Foot x m v [] b ∨ W.heap.size ≤ b := fun b o e => by
    have := h8 b o e
    by_cases hl : b < W.heap.size
    · exact .inl (Classical.byContradiction fun hf => this ⟨hl, hf⟩)
    · exact .inr (by omega)
  refine ⟨v', T, ao, cap, rfl, h1, h2, k1, k2, k1.tol k3 h7 fun b o e hT => ?_, hb⟩
  obtain ⟨s1, s2, _⟩ := strm_blk h.strm
  rcases hb b o e with hf | hl
  · exact (h.foot hf).2
  · have := h.lt
    exact ⟨by omega, by omega, by omega, fun e => by have := (frow_blk h.frow e).1; omega⟩
theorem Rd.did (h : Rd B r x xs d m v tn p u wt fv fs W) {f : Nat} {args : Array Value} (H : ∀ U v, MachV NoZ U x m v [] W → Calls Tryz.prog f args W (DidV NoZ U x m' v [] W)) : Calls Tryz.prog f args W fun e W' => e = .returned (.tuple #[]) ∧ Rd B r x xs d m' v tn p u wt fv fs W' ∧ Fr (Own r x xs d m v fv) (Own r x xs d m' v fv) W W' := by
  refine (H _ v h.mach).mono ?_
  rintro e W' ⟨rfl, h1, h2⟩
  obtain ⟨k1, k2, _⟩ := h.went (fun _ h => h) h1 h.vo h2
  exact ⟨rfl, k1, k2⟩
end
end Go.Proofs.YtdiealijjhfhjaaGreatDoor
namespace Go.Proofs.YtdiealijjhfhjaaGreatDoor
open Go.RowKit
theorem tks_mv {W W' : World} {T : Tk} {L : List At} (h : TkS NoZ W T L) (k : ∀ b, L ≠ [] → T.ao = some ⟨b, 0, none⟩ → W'.heap[b]? = W.heap[b]?) : TkS NoZ W' T L := by
  obtain ⟨⟨h1, h2, h3⟩, h4⟩ := h
  by_cases hL : L = []
  · subst hL
    exact ⟨⟨h1, G9.AtRow.nil _ _, h3⟩, fun e => absurd rfl e⟩
  · obtain ⟨d, cur, z, e1, e2, e3⟩ := h4 hL
    have e := k d hL e1
    refine ⟨⟨h1, fun i x hx => ?_, h3⟩, fun _ => ⟨d, cur, z, e1, e.trans e2, e3⟩⟩
    obtain ⟨b', off, r1, r2, r3, r4⟩ := h2 i x hx
    rw [e1] at r1
    cases r1
    refine ⟨d, 0, e1, (Array.getElem?_eq_some_iff.1 (e.trans e2)).1, ?_, ?_⟩
    · rw [← r3]; simp [World.cell?, e]
    · rw [← r4]; simp [World.cell?, e]
theorem tks_blk {W : World} {T : Tk} {L : List At} (h : TkS NoZ W T L) (hL : L ≠ []) {b : Nat} (e : T.ao = some ⟨b, 0, none⟩) : b < W.heap.size ∧ ∃ cur z, W.heap[b]? = some (.cells cur 108 z) := by
  obtain ⟨d, cur, z, e1, e2, e3⟩ := h.2 hL
  rw [e] at e1
  cases e1
  exact ⟨(Array.getElem?_eq_some_iff.1 e2).1, cur, z, e2⟩
structure Gat (O : Nat → Prop) (B : Nat) (ov : Value) (T : List TL) (W : World) : Prop where
  own : Rw.own W (rwT ov T)
  blk : ∀ g, ov.ownBlock = some g → ¬ O g ∧ B ≤ g
  tks : ∀ t ∈ T, TkS NoZ W t.1 t.2
  ats : ∀ t ∈ T, ∀ b, t.2 ≠ [] → t.1.ao = some ⟨b, 0, none⟩ → ¬ O b
theorem Gat.nil (O : Nat → Prop) (B : Nat) (W : World) : Gat O B (.slice none 0 0) [] W := ⟨⟨rfl, .inl ⟨rfl, rfl⟩⟩, fun g hg => (by simp [Value.ownBlock] at hg), fun t ht => (by cases ht), fun t ht => (by cases ht)⟩
theorem Gat.fr {O O' : Nat → Prop} {B : Nat} {ov : Value} {T : List TL} {W W' : World} (h : Gat O B ov T W) (f : Fr O O' W W') : Gat O' B ov T W' := by
  refine ⟨own_mv h.own fun g hg => f.keep.block g (h.blk g hg).1 (own_blk h.own hg).1, fun g hg => ⟨fun ho => ?_, (h.blk g hg).2⟩, fun t ht => tks_mv (h.tks t ht) fun b hL e => f.keep.block b (h.ats t ht b hL e) (tks_blk (h.tks t ht) hL e).1, fun t ht b hL e ho => ?_⟩
  · rcases f.own g ho with e | e
    · exact (h.blk g hg).1 e
    · have := (own_blk h.own hg).1
      omega
  · rcases f.own b ho with e' | e'
    · exact h.ats t ht b hL e e'
    · have := (tks_blk (h.tks t ht) hL e).1
      omega
theorem Gat.form {O : Nat → Prop} {B : Nat} {ov : Value} {T : List TL} {W : World} (h : Gat O B ov T W) : ∃ ao c, ov = .slice ao T.length c ∧ T.length ≤ c ∧ c ≤ maxLen := own_form h.own
theorem Gat.sub {O : Nat → Prop} {B C : Nat} {ov : Value} {T : List TL} {W : World} (h : Gat O B ov T W) (hC : C ≤ B) : Gat O C ov T W := ⟨h.own, fun g hg => ⟨(h.blk g hg).1, Nat.le_trans hC (h.blk g hg).2⟩, h.tks, h.ats⟩
theorem Gat.tol {O : Nat → Prop} {B : Nat} {ao : Option Addr} {c : Nat} {T : List TL} {W : World} (h : Gat O B (.slice ao T.length c) T W) : Tol O ao T W := by
  by_cases hT : T = []
  · subst hT
    exact ⟨TkRowS.nil _ _, fun b o e => absurd rfl e, fun t ht => by cases ht⟩
  · rcases h.own.2 with ⟨e, h0⟩ | ⟨g, cap, cur, z, e, hg, hz, h1, h2, h3, h4⟩
    · simp only at h0
      cases T with
      | nil => exact absurd rfl hT
      | cons t T => simp at h0
    · simp only [Value.slice.injEq] at e
      obtain ⟨rfl, _, rfl⟩ := e
      refine ⟨own_row hg h4 h.tks, fun b o _ e ho => ?_, h.ats⟩
      cases e
      exact (h.blk _ (by simp [Value.ownBlock])).1 ho
section
variable {B r x xs d : Nat} {m : Mc} {v : Vs} {tn : Bool} {p : Int} {u : List UInt8} {wt : Ch} {fv : Value} {fs : List (Int × Int)} {W : World}
theorem Rd.app (h : Rd B r x xs d m v tn p u wt fv fs W) {C : Nat} {ov : Value} {T T' : List TL} {ao : Option Addr} (g : Gat (Own r x xs d m v fv) C ov T W) (t : Tol (Own r x xs d m v fv) ao T' W) (c : Nat) (hC : 2 ≤ C ∧ C ≤ W.heap.size) (hn : T.length + T'.length ≤ 1000000000000) :
    ∃ ov' W', (Builtin.append_ #[23, 23] 23 #[ov, .slice ao T'.length c]).run Tryz.prog W = .ok ov' W' ∧ Gat (Own r x xs d m v fv) C ov' (T ++ T') W' ∧ Rd B r x xs d m v tn p u wt fv fs W' ∧ W.grownBy W' ov.ownBlock := by
  obtain ⟨ov', W', hrun, q1, q2, q3, q4⟩ := out_app g.own ao c t.row hn
  have ty : ∀ k, ov.ownBlock = some k → k < W.heap.size ∧ ∃ cur z, W.heap[k]? = some (.cells cur 42 z) := fun k hk => own_blk g.own hk
  have hk : Keep (fun k => ¬ ov.ownBlock = some k) W W' := ⟨q2.os, q2.tape, q2.output, q2.size, fun k h1 h2 => q2.block k h2 fun e => h1 e.symm⟩
  have hta : ∀ (t : TL), TkS NoZ W t.1 t.2 → TkS NoZ W' t.1 t.2 := fun t ht => tks_mv ht fun b hL e => by
    obtain ⟨e1, cur, z, e2⟩ := tks_blk ht hL e
    refine q2.block b e1 fun e3 => ?_
    obtain ⟨_, cur', z', e4⟩ := ty b e3.symm
    rw [e2] at e4
    simp at e4
  refine ⟨ov', W', hrun, ⟨q1, fun k hk' => ?_, fun s hs => ?_, fun s hs => ?_⟩, h.past (G := fun k => ov.ownBlock = some k) (fun k hk' hl => ⟨(g.blk k hk').1, ?_, ?_⟩) hk, q2⟩
  · rcases q3 with e | e
    · rw [e] at hk'
      exact g.blk k hk'
    · rw [e] at hk'
      cases hk'
      exact ⟨fun ho => by have := (h.own_lt ho).1; omega, hC.2⟩
  · rcases List.mem_append.1 hs with hs | hs
    · exact hta s (g.tks s hs)
    · exact hta s (t.row.2 s hs)
  · rcases List.mem_append.1 hs with hs | hs
    · exact g.ats s hs
    · exact t.ats s hs
  · have := (g.blk k hk').2
    omega
  · obtain ⟨_, cur, z, e⟩ := ty k hk'
    exact noTr e (by decide) (by decide)
theorem Rd.flow (h : Rd B r x xs d m v tn p u wt fv fs W) {W' : World} {p' : Int} {u' : List UInt8} {wt' : Ch} (hs : G4.Strm xs d p' u' wt' W') (hk : G4.Keep (G4.Rest W.heap.size xs d) W W') :
    Rd B r x xs d m v tn p' u' wt' fv fs W' ∧ Fr (Own r x xs d m v fv) (Own r x xs d m v fv) W W' := by
  obtain ⟨s1, s2, ⟨c1, e1⟩, c2, e2⟩ := strm_blk h.strm
  have kept : ∀ k, k < W.heap.size → k ≠ xs → k ≠ d → W'.heap[k]? = W.heap[k]? := fun k h1 h2 h3 => hk.block k ⟨h1, h2, h3⟩ h1
  have nr : r ≠ xs ∧ r ≠ d := ⟨fun e => by have := h.blk; rw [e, e1] at this; simp at this, fun e => by have := h.blk; rw [e, e2] at this; simp at this⟩
  refine ⟨⟨(kept r h.lt nr.1 nr.2).trans h.blk, hs, row_mv h.frow fun g hg => ?_, h.hB, h.mach.over h.one (G := fun k => k = xs ∨ k = d) (fun k hk hl => ?_) ⟨hk.os, hk.tape, hk.output, hk.size, fun k h1 h2 => kept k h2 (fun e => h1 (.inl e)) (fun e => h1 (.inr e))⟩, h.vo, h.low, h.fo⟩, ⟨⟨hk.os, hk.tape, hk.output, hk.size, fun k h1 h2 => kept k h2 (fun e => h1 (.inr (.inr (.inl e)))) (fun e => h1 (.inr (.inr (.inr (.inl e)))))⟩, fun k h => .inl h⟩⟩
  · obtain ⟨g1, _, cur, g2⟩ := frow_blk h.frow hg
    refine kept g g1 (fun e => ?_) (fun e => ?_)
    · rw [e, e1] at g2; simp at g2
    · rw [e, e2] at g2; simp at g2
  · have hB := h.hB
    rcases hk with rfl | rfl
    · exact ⟨fun hf => (h.foot hf).2.2.1 rfl, by omega, noTr e1 (by decide) (by decide)⟩
    · exact ⟨fun hf => (h.foot hf).2.2.2.1 rfl, by omega, noTr e2 (by decide) (by decide)⟩
theorem Rd.fault (h : Rd B r x xs d m v tn p u wt fv fs W) {C : Nat} {fa : Option Addr} {fc : Nat} {F : List (Int × Int)} (hF : W.ownsRow C 57 2 (.slice fa F.length fc) F.length (F.flatMap gcells)) (hn : fs.length + F.length ≤ 1000000000000) :
    ∃ fv' W', (Builtin.append_ #[24, 24] 24 #[fv, .slice fa F.length fc]).run Tryz.prog W = .ok fv' W' ∧ W'.cell? ⟨r, 3, none⟩ = some fv ∧ W'.frozen? ⟨r, 3, none⟩ = false ∧ r < W'.heap.size ∧
      Rd B r x xs d m v tn p u wt fv' (fs ++ F) (W'.setCell ⟨r, 3, none⟩ fv') ∧ Fr (Own r x xs d m v fv) (Own r x xs d m v fv') W (W'.setCell ⟨r, 3, none⟩ fv') := by
  obtain ⟨s1, s2, ⟨c1, e1⟩, c2, e2⟩ := strm_blk h.strm
  obtain ⟨i0, hi, hz0, hz1, hz2⟩ := info_parts info58
  have hown : OwnQ W false 57 2 fv fs.length (fs.flatMap gcells) := OwnQ.of h.frow
  have key : ∃ fv' W', (Builtin.append_ #[24, 24] 24 #[fv, .slice fa F.length fc]).run Tryz.prog W = .ok fv' W' ∧ OwnQ W' false 57 2 fv' (fs.length + F.length) (fs.flatMap gcells ++ F.flatMap gcells) ∧ W.grownBy W' fv.ownBlock ∧ (fv'.ownBlock = fv.ownBlock ∨ fv'.ownBlock = some W.heap.size) := by
    rcases hF.2 with ⟨e, h0⟩ | ⟨g, cap, cur, e, _, hg, q1, q2, q3, q4⟩
    · obtain ⟨bo, cap, ee, hc, _⟩ := own_form hown
      simp only [Value.slice.injEq] at e
      obtain ⟨rfl, h00, rfl⟩ := e
      have hF0 : F = [] := List.length_eq_zero_iff.1 h0
      subst hF0
      have hs : Src Tryz.prog i0.size 24 (.slice none 0 0) 0 [] W := Src.ofNil W Tryz.underlying24 0
      have hrun := run_append_nothing (P := Tryz.prog) W 24 24 24 57 i0 Tryz.underlying24 hi bo fs.length cap hc _ hs
      rw [← ee] at hrun
      exact ⟨fv, W, hrun, by simpa using hown, ⟨rfl, rfl, rfl, Nat.le_refl _, fun _ _ _ => rfl⟩, .inl rfl⟩
    · simp only [Value.slice.injEq] at e
      obtain ⟨rfl, _, rfl⟩ := e
      have hlen : (F.flatMap gcells).length = F.length * 2 := hF.1
      exact row_app Tryz.underlying24 info58 rfl (by decide) (by decide) hown g 0 F.length fc (F.flatMap gcells) hlen (fun j u' hj => by
        have hjl := (List.getElem?_eq_some_iff.1 hj).1
        rw [← q4, List.getElem?_take_of_lt (by omega), Array.getElem?_toList] at hj
        rw [Nat.zero_add]
        simp [World.cell?, hg, hj]) (fl_one F) (by omega)
  obtain ⟨fv', W', hrun, q1, q2, q3⟩ := key
  have hrf : fv.ownBlock ≠ some r := fun e => by
    obtain ⟨_, _, cur, g2⟩ := frow_blk h.frow e
    rw [h.blk] at g2; simp at g2
  have hr1 : W'.heap[r]? = some (.cells #[.pointer (some ⟨xs, 0, none⟩), .pointer (some ⟨x, 0, none⟩), .bool tn, fv] 52 (0, 0)) := (q2.block r h.lt fun e => hrf e.symm).trans h.blk
  have hset : (W'.setCell ⟨r, 3, none⟩ fv').heap[r]? = some (.cells #[.pointer (some ⟨xs, 0, none⟩), .pointer (some ⟨x, 0, none⟩), .bool tn, fv'] 52 (0, 0)) := by
    simp [World.setCell, Array.getElem?_modify, hr1]
  have hne : ∀ k, k ≠ r → (W'.setCell ⟨r, 3, none⟩ fv').heap[k]? = W'.heap[k]? := fun k hk => Below.heap_setCell _ _ _ _ hk
  have hfr : fv'.ownBlock ≠ some r := fun e => by
    rcases q3 with e' | e'
    · exact hrf (e'.symm.trans e)
    · rw [e'] at e
      cases e
      have := h.lt
      omega
  have kept : ∀ k, k < W.heap.size → k ≠ r → fv.ownBlock ≠ some k → (W'.setCell ⟨r, 3, none⟩ fv').heap[k]? = W.heap[k]? := fun k h1 h2 h3 => (hne k h2).trans (q2.block k h1 fun e => h3 e.symm)
  have hsz : W.heap.size ≤ (W'.setCell ⟨r, 3, none⟩ fv').heap.size := by simp [World.setCell]; exact q2.size
  have nx : ∀ k, (k = xs ∨ k = d) → k ≠ r ∧ fv.ownBlock ≠ some k := fun k hk => by
    rcases hk with rfl | rfl
    · exact ⟨fun e => by have := h.blk; rw [← e, e1] at this; simp at this, fun e => by obtain ⟨_, _, cur, g2⟩ := frow_blk h.frow e; rw [e1] at g2; simp at g2⟩
    · exact ⟨fun e => by have := h.blk; rw [← e, e2] at this; simp at this, fun e => by obtain ⟨_, _, cur, g2⟩ := frow_blk h.frow e; rw [e2] at g2; simp at g2⟩
  have hkK : Keep (fun k => ¬ (k = r ∨ fv.ownBlock = some k)) W (W'.setCell ⟨r, 3, none⟩ fv') := ⟨q2.os, q2.tape, q2.output, hsz, fun k h1 h2 => kept k h2 (fun e => h1 (.inl e)) (fun e => h1 (.inr e))⟩
  have hnew : ∀ g, fv'.ownBlock = some g → fv.ownBlock = some g ∨ W.heap.size ≤ g := fun g hg => by
    rcases q3 with e | e
    · exact .inl (e.symm.trans hg)
    · rw [e] at hg
      cases hg
      exact .inr (Nat.le_refl _)
  refine ⟨fv', W', hrun, by simp [World.cell?, hr1], by simp [World.frozen?, hr1], Nat.lt_of_lt_of_le h.lt q2.size, ⟨hset, strm_mv h.strm (kept xs s1 (nx xs (.inl rfl)).1 (nx xs (.inl rfl)).2) (kept d s2 (nx d (.inr rfl)).1 (nx d (.inr rfl)).2), ?_, h.hB, h.mach.over h.one (G := fun k => k = r ∨ fv.ownBlock = some k) (fun k hk hl => ?_) hkK, h.vo, h.low, fun g hg hf => ?_⟩, ⟨⟨q2.os, q2.tape, q2.output, hsz, fun k h1 h2 => kept k h2 (fun e => h1 (.inr (.inl e))) (fun e => h1 (.inr (.inr (.inr (.inr e)))))⟩, fun k ho => ?_⟩⟩
  · rw [List.length_append, List.flatMap_append]
    have h0 := q1.row
    refine ⟨h0.1, ?_⟩
    rcases h0.2 with hn' | ⟨g, cap, cur, e, _, hg, rest⟩
    · exact .inl hn'
    · refine .inr ⟨g, cap, cur, e, ?_, (hne g fun e' => hfr (by rw [e, e']; simp [Value.ownBlock])).trans hg, rest⟩
      rcases hnew g (by rw [e]; simp [Value.ownBlock]) with e' | e'
      · exact (frow_blk h.frow e').2.1
      · have := h.lt
        have := h.hB
        omega
  · have hB := h.hB
    rcases hk with rfl | hk
    · exact ⟨fun hf => (h.foot hf).2.1 rfl, by omega, noTr h.blk (by decide) (by decide)⟩
    · obtain ⟨g1, g0, cur, g2⟩ := frow_blk h.frow hk
      exact ⟨h.fo k hk, by omega, noTr g2 (by decide) (by decide)⟩
  · rcases hnew g hg with e | e
    · exact h.fo g e hf
    · have := (h.foot hf).1
      omega
  · rcases ho with ho | ho | ho | ho | ho
    · exact .inl (.inl ho)
    · exact .inl (.inr (.inl ho))
    · exact .inl (.inr (.inr (.inl ho)))
    · exact .inl (.inr (.inr (.inr (.inl ho))))
    · rcases hnew k ho with e | e
      · exact .inl (.inr (.inr (.inr (.inr e))))
      · exact .inr e
end
end Go.Proofs.YtdiealijjhfhjaaGreatDoor
