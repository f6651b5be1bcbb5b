/- A range over an iterator that keeps a row of its own: what each keeps of the other's; the statement. -/
import Derived.Test.YtdpibnmbgjhohaaAb
import Derived.RangeFuncLeaves
import Derived.RangeFuncCalls
import Derived.RangeFuncRecord
import Derived.TacticsInMore
import Derived.OwnWalkIn
import Derived.LoopNIn
import Derived.LoopIn
import Derived.Sort.LoopGhostIn
import Derived.Sort.CutIn
import Derived.Sort.QuietIn
import Derived.Stop.RegionWithIn
namespace Go.Proofs.Ytdpibnmbgjhohaa
open Go.RowKit

/-- What is an iterator's: cells of the type that its row has, and all that is no cells. -/
def Mine (q : Nat) : Obj → Bool
  | .cells _ t _ => t == q
  | _ => true
/-- An iterator's step: nothing ahead of B turns, and of what lies there only what is its own. -/
structure Off (q B : Nat) (W W' : World) : Prop where
  os : W'.os = W.os
  tape : W'.tape = W.tape
  output : W'.output = W.output
  size : W.heap.size ≤ W'.heap.size
  low : ∀ k, k < B → W'.heap[k]? = W.heap[k]?
  oth : ∀ (k : Nat) (o : Obj), W.heap[k]? = some o → Mine q o = false → W'.heap[k]? = some o
theorem Off.refl (q B : Nat) (W : World) : Off q B W W := ⟨rfl, rfl, rfl, Nat.le_refl _, fun _ _ => rfl, fun _ _ h _ => h⟩
theorem Off.trans {q B : Nat} {a b c : World} (h : Off q B a b) (k : Off q B b c) : Off q B a c :=
  ⟨k.os.trans h.os, k.tape.trans h.tape, k.output.trans h.output, Nat.le_trans h.size k.size, fun i hi => (k.low i hi).trans (h.low i hi), fun i o h1 h2 => k.oth i o (h.oth i o h1 h2) h2⟩
theorem Off.mono {q B C : Nat} {a b : World} (h : Off q B a b) (k : C ≤ B) : Off q C a b := ⟨h.os, h.tape, h.output, h.size, fun i hi => h.low i (Nat.lt_of_lt_of_le hi k), h.oth⟩
theorem Off.below {q B : Nat} {a b : World} (h : Off q B a b) : Below B a b := ⟨h.os, h.tape, h.output, h.size, h.low⟩
theorem Off.grown {q B : Nat} {W W' : World} {o : Option Nat} (h : W.grownBy W' o) (hB : B ≤ W.heap.size) (ho : ∀ g, o = some g → B ≤ g ∧ ∃ u, W.heap[g]? = some u ∧ Mine q u = true) : Off q B W W' :=
  ⟨h.os, h.tape, h.output, h.size, fun k hk => h.block k (Nat.lt_of_lt_of_le hk hB) (fun e => by have := (ho k e.symm).1; omega), fun k u hk hu => by
    refine (h.block k (Array.getElem?_eq_some_iff.1 hk).1 (fun e => ?_)).trans hk
    obtain ⟨_, u', h1, h2⟩ := ho k e.symm
    rw [h1] at hk; cases hk; rw [h2] at hu; cases hu⟩
theorem Off.alloc (q : Nat) {B : Nat} (W : World) (o : Obj) (hB : B ≤ W.heap.size) : Off q B W (W.alloc o) := Off.grown (World.grownBy_alloc W o none) hB (fun g e => by cases e)
theorem Off.put {q B l : Nat} {W : World} {o : Obj} (o' : Obj) (hB : B ≤ l) (hl : W.heap[l]? = some o) (ho : Mine q o = true) : Off q B W (W.putObj l o') :=
  ⟨rfl, rfl, rfl, by simp, fun k hk => World.putObj_heap_other (by omega), fun k u hk hu => by
    refine (World.putObj_heap_other (fun e => ?_)).trans hk
    subst e; rw [hl] at hk; cases hk; rw [ho] at hu; cases hu⟩
/-- A round's word: what is the iterator's lies as it lay. -/
structure Kp (q : Nat) (W W' : World) : Prop where
  size : W.heap.size ≤ W'.heap.size
  same : ∀ (k : Nat) (o : Obj), W.heap[k]? = some o → Mine q o = true → W'.heap[k]? = some o
theorem Kp.refl (q : Nat) (W : World) : Kp q W W := ⟨Nat.le_refl _, fun _ _ h _ => h⟩
theorem Kp.trans {q : Nat} {a b c : World} (h : Kp q a b) (k : Kp q b c) : Kp q a c := ⟨Nat.le_trans h.size k.size, fun i o h1 h2 => k.same i o (h.same i o h1 h2) h2⟩
theorem grown_set (W : World) (a : Addr) (v : Value) : W.grownBy (W.setCell a v) (some a.block) :=
  ⟨rfl, rfl, rfl, (KeepsWalks.setCell W a v).size, fun k _ e => Below.heap_setCell W a v k (fun h => e (by rw [h]))⟩
theorem Kp.old {q : Nat} {a b : World} (h : Below a.heap.size a b) : Kp q a b := ⟨h.size, fun k _ hk _ => (h.block k (Array.getElem?_eq_some_iff.1 hk).1).trans hk⟩
theorem Kp.grown {q : Nat} {W W' : World} {o : Option Nat} (h : W.grownBy W' o) (ho : ∀ g, o = some g → ∃ u, W.heap[g]? = some u ∧ Mine q u = false) : Kp q W W' :=
  ⟨h.size, fun k u hk hu => by
    refine (h.block k (Array.getElem?_eq_some_iff.1 hk).1 (fun e => ?_)).trans hk
    obtain ⟨u', h1, h2⟩ := ho k e.symm
    rw [h1] at hk; cases hk; rw [h2] at hu; cases hu⟩
theorem Kp.set {q : Nat} {W : World} {b j t : Nat} {cur : Array Value} {z : Nat × Nat} (v : Value) (h : W.heap[b]? = some (.cells cur t z)) (ht : t ≠ q) : Kp q W (W.setCell ⟨b, j, none⟩ v) :=
  Kp.grown (o := some b) (grown_set W ⟨b, j, none⟩ v) (fun g e => by cases e; exact ⟨_, h, by simp [Mine, ht]⟩)
theorem Kp.drew {q : Nat} (W : World) : Kp q W W.drew := ⟨Nat.le_refl _, fun _ _ h _ => h⟩
/-- A call of an iterator: what it is called with, how far it is, what it does next. -/
def Seq {σ : Type} (n q gf : Nat) (lb : Array Value) (B0 : Nat) (enc : σ → Option (Array Value)) (idle : σ → Option σ) (adv : σ → World → σ → Prop) (fit fin : σ → Prop) (ini : World → World → σ → Prop) (w0 : World) : Prop :=
  ∀ (l : Nat) (J : Nat → σ → World → Prop) (Jx : World → Prop) (W : World) (g0 : Nat), Below B0 w0 W → B0 ≤ W.heap.size →
    (∀ g s W1 W2, J g s W1 → Off q W.heap.size W1 W2 → J g s W2) →
    (∀ g s s' W1, idle s = some s' → J (g + 1) s W1 → J g s' W1) →
    (∀ s W1, J 0 s W1 → fin s) → (∀ g s W1, J g s W1 → fit s) →
    (∀ g s a W1, enc s = some a → J (g + 1) s W1 → YieldAt Fence.wide (n - 1) Try.prog l a W1 fun e W2 =>
      (e = .returned (.bool true) ∧ Kp q W1 W2 ∧ ∃ s', adv s W2 s' ∧ J g s' W2) ∨ (e = .returned (.bool false) ∧ Jx W2)) →
    (∀ W1 s, Off q W.heap.size W W1 → ini W W1 s → J g0 s W1) →
    CallsIn Fence.wide n Try.prog gf (#[.func (.yield l) #[] #[]] ++ lb) W fun e W' => (∃ v, e = .returned v) ∧ ((∃ g s, fin s ∧ J g s W') ∨ Jx W')
/-- How the body of a round may be left. -/
def rPost {σ : Type} (q : Nat) (J : σ → World → Prop) (adv : World → σ → Prop) (Jx : Code → World → Prop) (W : World) : Exit → Act → World → Prop
  | .normal, _, W' => Kp q W W' ∧ ∃ s', adv W' s' ∧ J s' W'
  | .ret, _, W' => Kp q W W' ∧ Jx .ret W'
  | .exit id, _, W' => Kp q W W' ∧ Jx (.exit id) W'
  | .goto t, _, W' => Kp q W W' ∧ Jx (.goto t) W'
  | .panic _, _, _ => False
  | .outgrown, _, _ => False

theorem range_law {σ : Type} {n q gf B0 : Nat} {lb : Array Value} {enc : σ → Option (Array Value)} {idle : σ → Option σ} {adv : σ → World → σ → Prop} {fit fin : σ → Prop} {ini : World → World → σ → Prop} {g : Operand} {ps : Array Tmp} {assign body : Code} {Q : Exit → Act → World → Prop} {a : Act} {w : World}
    (hseq : Seq (n - 1) q gf lb B0 enc idle adv fit fin ini w) (hB0 : B0 ≤ w.heap.size)
    (hg : a.eval g = .func (.func gf) #[] lb) (eg : ∀ args w, (callFunc gf args).run Try.prog w = .ok (.enter gf args) w) (hps : ∀ s x, enc s = some x → x.size = ps.size)
    (hadv : ∀ s W l o o' s', W.heap[l]? = some o → o.isCells = false → adv s W s' → adv s (W.putObj l o') s')
    (J : Nat → σ → World → Prop) (Jx : Code → World → Prop) (g0 : Nat)
    (hJ : ∀ g s W1 W2, J g s W1 → Off q w.heap.size W1 W2 → J g s W2) (hJx : ∀ c W1 W2, Jx c W1 → Off q w.heap.size W1 W2 → Jx c W2)
    (hidle : ∀ g s s' W1, idle s = some s' → J (g + 1) s W1 → J g s' W1) (hfin : ∀ s W1, J 0 s W1 → fin s) (hfit : ∀ g s W1, J g s W1 → fit s) (h0 : ∀ Wc W1 s, Off q w.heap.size w Wc → Off q Wc.heap.size Wc W1 → ini Wc W1 s → J g0 s W1)
    (a₁ : Array Value → Act)
    (hassign : ∀ (l : Nat) (s : σ) (x : Array Value) (W : World) (K : Act → World → Prop), enc s = some x → K (a₁ x) W →
      assign.wpIn (Fence.wide.inRound l) (n - 1 - 1) Try.prog (Exit.then K (fun _ _ _ => False)) { tmps := (ps.zip x).foldl (fun t (p, v) => t.setIfInBounds p v) a.tmps, defers := [] } W)
    (hbody : ∀ (l g : Nat) (s : σ) (x : Array Value) (W : World), enc s = some x → J (g + 1) s W → body.wpIn (Fence.wide.inRound l) (n - 1 - 1) Try.prog (rPost q (J g) (adv s) Jx W) (a₁ x) W)
    (hdone : ∀ (D g : Nat) (s : σ) (W : World), w.heap.size ≤ D → fin s → J g s W → W.heap[D]? = some (.deferred (some [])) → Q .normal { a with defers := { target := .collected D, args := #[] } :: a.defers } W)
    (hstop : ∀ (D : Nat) (c : Code) (W : World), w.heap.size ≤ D → Jx c W → W.heap[D]? = some (.deferred (some [])) → c.wpIn Fence.wide n Try.prog Q { a with defers := { target := .collected D, args := #[] } :: a.defers } W) :
    (Code.rangeFunc g ps assign body).wpIn Fence.wide n Try.prog Q a w := by
  refine wpIn_rangeFunc ?_
  intro fn hfn
  obtain ⟨rec, hrec⟩ : ∃ rec : LoopState → Option Code → Loop, rec = fun st pe => { state := st, pending := pe, fn, tmps := a.tmps, params := ps, assign, body, defers := w.heap.size } := ⟨_, rfl⟩
  have o1 : Off q w.heap.size w (w.alloc (.deferred (some []))) := Off.alloc q w _ (Nat.le_refl _)
  have o2 : Off q w.heap.size (w.alloc (.deferred (some []))) ((w.alloc (.deferred (some []))).alloc (.loop (rec .ready none))) := Off.alloc q _ _ (by simp)
  have hL1 : ((w.alloc (.deferred (some []))).alloc (.loop (rec .ready none))).heap[w.heap.size + 1]? = some (.loop (rec .ready none)) := by
    have := World.alloc_heap_new (w.alloc (.deferred (some []))) (.loop (rec .ready none)); rwa [World.size_alloc] at this
  have hK1 : ((w.alloc (.deferred (some []))).alloc (.loop (rec .ready none))).heap[w.heap.size]? = some (.deferred (some [])) :=
    (Below.heap_alloc _ _ _ (by simp)).trans (World.alloc_heap_new w _)
  have hrun := run_enterLoop_outer (P := Try.prog) (w := w) fn a.tmps ps assign body
  have hsz : ((w.alloc (.deferred (some []))).alloc (.loop (rec .ready none))).heap.size = w.heap.size + 2 := by simp
  rw [show ({ state := .ready, pending := none, fn := fn, tmps := a.tmps, params := ps, assign := assign, body := body, defers := w.heap.size } : Loop) = rec .ready none by rw [hrec]] at hrun
  revert o1 o2 hL1 hK1 hrun hsz
  generalize (w.alloc (.deferred (some []))).alloc (.loop (rec .ready none)) = W1
  intro o1 o2 hL1 hK1 hrun hsz
  have o3 : Off q w.heap.size w W1 := o1.trans o2
  refine ⟨w.heap.size + 1, [{ target := .collected w.heap.size, args := #[] }], W1, { target := .fn (.func gf) lb, args := #[.func (.yield (w.heap.size + 1)) #[] #[]] }, W1, gf,
    #[.func (.yield (w.heap.size + 1)) #[] #[]] ++ lb, W1, hrun, ?_, fun _ _ => trivial, ?_, fun h => by simp [Fence.wide] at h, ?_⟩
  · simp only [resolve, hg]
    simp [go_sem]
  · simp [invoke, go_sem, eg]
  · refine (hseq (w.heap.size + 1)
      (fun g s W => J g s W ∧ W.heap[w.heap.size + 1]? = some (.loop (rec .ready none)) ∧ W.heap[w.heap.size]? = some (.deferred (some [])))
      (fun W => ∃ c, Jx c W ∧ W.heap[w.heap.size + 1]? = some (.loop (rec .done (some c))) ∧ W.heap[w.heap.size]? = some (.deferred (some [])))
      W1 g0 (o3.below.mono hB0) (by omega)
      (fun g s A B hs ho => ⟨hJ g s A B hs.1 (ho.mono (by omega)), (ho.low _ (by omega)).trans hs.2.1, (ho.low _ (by omega)).trans hs.2.2⟩)
      (fun g s s' A h1 h2 => ⟨hidle g s s' A h1 h2.1, h2.2⟩)
      (fun s A h => hfin s A h.1) (fun g s A h => hfit g s A h.1) ?_ (fun A s ho hi => ⟨h0 _ A s o3 ho hi, (ho.low _ (by omega)).trans hL1, (ho.low _ (by omega)).trans hK1⟩)).mono ?_
    · rintro g s x W hx ⟨hi, hl, hk⟩
      have hlt : w.heap.size + 1 < W.heap.size := (Array.getElem?_eq_some_iff.1 hl).1
      have hy := run_yield (P := Try.prog) (args := x) hl (by rw [hrec]; exact hps s x hx)
      rw [hrec] at hy
      refine ⟨fn, _, assign, body, hy, roundIn_of_wpIn hfn (hassign _ s x W _ hx ⟨_, run_beginRound hl (by rw [hrec]), ?_⟩)⟩
      have hl2 : (W.putObj (w.heap.size + 1) (.loop { rec .ready none with state := .busy })).heap[w.heap.size + 1]? = some (.loop { rec .ready none with state := .busy }) := World.putObj_heap_same hlt
      have hk2 : (W.putObj (w.heap.size + 1) (.loop { rec .ready none with state := .busy })).heap[w.heap.size]? = some (.deferred (some [])) := (World.putObj_heap_other (by omega)).trans hk
      have op : Off q w.heap.size W (W.putObj (w.heap.size + 1) (.loop { rec .ready none with state := .busy })) := Off.put _ (by omega) hl rfl
      -- the two worlds differ in the record alone
      have hpq : ∀ W3, Kp q (W.putObj (w.heap.size + 1) (.loop { rec .ready none with state := .busy })) W3 → Kp q W (W3.putObj (w.heap.size + 1) (.loop (rec .ready none))) := fun W3 hk3 => ⟨by have := hk3.size; simp at this ⊢; exact this, fun k o h1 h2 => by
        by_cases e : k = w.heap.size + 1
        · subst e
          rw [hl] at h1
          cases h1
          exact World.putObj_heap_same (Nat.lt_of_lt_of_le hlt (by have := hk3.size; simpa using this))
        · exact (World.putObj_heap_other e).trans (hk3.same k o ((World.putObj_heap_other e).trans h1) h2)⟩
      refine wpIn_mono (hbody _ g s x _ hx (hJ _ _ _ _ hi op)) ?_
      have fin : ∀ (jump : Option Code) (W3 : World), Kp q (W.putObj (w.heap.size + 1) (.loop { rec .ready none with state := .busy })) W3 →
          (Instr.endRound (w.heap.size + 1) jump).run Try.prog W3 = .ok (.bool jump.isNone) (W3.putObj (w.heap.size + 1) (.loop (rec (if jump.isNone then .ready else .done) jump))) ∧
          W3.heap[w.heap.size + 1]? = some (.loop { rec .ready none with state := .busy }) ∧
          (W3.putObj (w.heap.size + 1) (.loop (rec (if jump.isNone then .ready else .done) jump))).heap[w.heap.size + 1]? = some (.loop (rec (if jump.isNone then .ready else .done) jump)) ∧
          (W3.putObj (w.heap.size + 1) (.loop (rec (if jump.isNone then .ready else .done) jump))).heap[w.heap.size]? = some (.deferred (some [])) ∧
          Off q w.heap.size W3 (W3.putObj (w.heap.size + 1) (.loop (rec (if jump.isNone then .ready else .done) jump))) := fun jump W3 hk3 => by
        have hl3 := hk3.same _ _ hl2 rfl
        have := run_endRound (P := Try.prog) jump hl3
        rw [hrec] at this ⊢
        exact ⟨this, by rw [hrec] at hl3; exact hl3, World.putObj_heap_same (Array.getElem?_eq_some_iff.1 hl3).1, (World.putObj_heap_other (by omega)).trans (hk3.same _ _ hk2 rfl), Off.put _ (by omega) hl3 rfl⟩
      rintro e a3 W3 hp
      cases e with
      | normal =>
        obtain ⟨hk3, s', hi2, hi3⟩ := hp
        obtain ⟨hr, hl3, hl4, hk4, ho⟩ := fin none W3 hk3
        exact ⟨_, _, hr, .inl ⟨rfl, hpq _ hk3, s', hadv _ _ _ _ _ _ hl3 rfl hi2, hJ _ _ _ _ hi3 ho, hl4, hk4⟩⟩
      | ret =>
        obtain ⟨hk3, hi3⟩ := hp
        obtain ⟨hr, hl3, hl4, hk4, ho⟩ := fin (some .ret) W3 hk3
        exact ⟨_, _, hr, .inr ⟨rfl, .ret, hJx _ _ _ hi3 ho, hl4, hk4⟩⟩
      | exit id =>
        obtain ⟨hk3, hi3⟩ := hp
        obtain ⟨hr, hl3, hl4, hk4, ho⟩ := fin (some (.exit id)) W3 hk3
        exact ⟨_, _, hr, .inr ⟨rfl, .exit id, hJx _ _ _ hi3 ho, hl4, hk4⟩⟩
      | goto t =>
        obtain ⟨hk3, hi3⟩ := hp
        obtain ⟨hr, hl3, hl4, hk4, ho⟩ := fin (some (.goto t)) W3 hk3
        exact ⟨_, _, hr, .inr ⟨rfl, .goto t, hJx _ _ _ hi3 ho, hl4, hk4⟩⟩
      | panic ch => exact hp.elim
      | outgrown => exact hp.elim
    · rintro e W2 ⟨⟨v, rfl⟩, (⟨g, s, hS, hi, hl, hk⟩ | ⟨c, hi, hl, hk⟩)⟩
      · exact ⟨none, _, by have := run_endLoop (P := Try.prog) hl (by rw [hrec]; simp); rw [hrec] at this; exact this, hdone _ g s _ (Nat.le_refl _) hS (hJ _ _ _ _ hi (Off.put _ (by omega) hl rfl)) ((World.putObj_heap_other (by omega)).trans hk)⟩
      · exact ⟨some c, _, by have := run_endLoop (P := Try.prog) hl (by rw [hrec]; simp); rw [hrec] at this; exact this, hstop _ c _ (Nat.le_refl _) (hJx _ _ _ hi (Off.put _ (by omega) hl rfl)) ((World.putObj_heap_other (by omega)).trans hk)⟩
end Go.Proofs.Ytdpibnmbgjhohaa
