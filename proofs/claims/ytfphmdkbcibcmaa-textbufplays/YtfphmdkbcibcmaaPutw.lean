/- (textbuf.Buf).put: a string laid ahead of piece i. -/
import Derived.Test.YtfphmdkbcibcmaaPut
import Derived.Test.YtfphmdkbcibcmaaCut
import Derived.Lib.ConvBytes
namespace Go.Proofs.Ytfphmdkbcibcmaa
open Go.RowKit

/-- 'append' where its run is known by an equation, as one step of a region that draws. -/
theorem step_append_eq {P : Program} {ops : Array Oper} {o : Oper} {a : Act} {w : World} {K : Act → World → Prop} {Q : Exit → Act → World → Prop} {E : Prop}
    (hg : o.guard = none) (d x : Operand) (dT sT : TypeId) (hop : o.op = Op.call { callee := Callee.builtin Builtin.append, args := #[d, x], argTypes := #[dT, sT] })
    (v u : Value) (hd : a.eval d = v) (hx : a.eval x = u) {v' : Value} {w' : World} (hr : (Builtin.append_ #[dT, sT] o.type #[v, u]).run P w = .ok v' w') (hK : K (a.put o.dst v') w') :
    if Region.wanted o (yielded ops a.tmps) = true then Oper.wp P o a w K Q else E := by
  have hw : Region.wanted o (yielded ops a.tmps) = true := by simp [Region.wanted, hg]
  rw [if_pos hw]
  unfold Oper.wp
  simp [execOp, hop, resolve, invoke, builtin, hd, hx, hr, Result.andThen]
  exact hK

theorem empty_iff (s : ByteArray) : s.toList.isEmpty = decide (s.size = 0) := by
  rw [Lib.toList_data]
  have : s.data.toList.length = s.size := Array.length_toList
  cases h : s.data.toList with
  | nil =>
    rw [h] at this; simp only [List.length_nil] at this
    rw [decide_eq_true (by omega)]; rfl
  | cons a r =>
    rw [h] at this; simp only [List.length_cons] at this
    rw [decide_eq_false (by omega)]; rfl

set_option maxHeartbeats 1000000 in
theorem put_nothing (b : Nat) (i : Int) (s : ByteArray) (w : World) (hs : s.size = 0) :
    Calls Try.prog 24 #[.pointer (some ⟨b, 0, none⟩), .int .i64 i, .string s] w fun e w' => e = .returned (.tuple #[]) ∧ w' = w := by
  have h0 : s.toList.isEmpty = true := by rw [empty_iff]; simp [hs]
  clear hs
  go_enter Try.func24, Try.ntmps24
  go_wp2_with fail
  (try simp only [Exit.inBlock, Exit.then])
  refine bodyPost_ret (results_none rfl _ _ _) rfl ?_
  exact ⟨rfl, rfl⟩

set_option maxHeartbeats 1000000 in
theorem put_behind (B b g cap k : Nat) (most len : Int) (ps : List Pc) (es : List Ed) (w : World) (p : Pc) (bv : Value) (s : ByteArray) (h : BufIs B b most len ps es w)
    (hblk : w.heap[b]? = some (.cells #[.int .i64 most, .int .i64 len, .slice (some ⟨g, 0, none⟩) ps.length cap, bv] 54 (0, 0))) (hown : w.ownsRow B 59 1 (.slice (some ⟨g, 0, none⟩) ps.length cap) ps.length (ps.map Pc.val))
    (hpk : ps[k]? = some p) (hB : B ≤ w.heap.size) (hsz : p.bs.length + s.size ≤ 1000000) (hs : s.size ≠ 0) (hps : ps.length ≤ 1000000) :
    Calls Try.prog 24 #[.pointer (some ⟨b, 0, none⟩), .int .i64 ((k : Int) + 1), .string s] w fun e w' => e = .returned (.tuple #[]) ∧ ∃ p' : Pc, p'.bs = p.bs ++ s.data.toList ∧ BufIs B b most len (ps.set k p') es w' ∧ Kept [59, 54, 5] B w w' := by
  obtain ⟨ao, n', c', W', hr, x1, x2, x3, p', e1, e2, e3⟩ := put_mem h hblk hown hpk hB hsz
  have hk : k < ps.length := (List.getElem?_eq_some_iff.1 hpk).1
  have c2 : w.cell? ⟨b, 2, none⟩ = some (.slice (some ⟨g, 0, none⟩) ps.length cap) := by simp [World.cell?, hblk]
  have cg : w.cell? ⟨g, k, none⟩ = some (.slice (some ⟨p.g, p.off, none⟩) p.bs.length p.cap) := by
    rcases (own_open hown).2 with ⟨hv, _⟩ | ⟨g', cap', cur, hv, hB, hb, _, _, _, hc, _, hf, _⟩
    · cases hv
    · simp only [Value.slice.injEq, Option.some.injEq, Addr.mk.injEq, and_true, true_and] at hv
      obtain ⟨rfl, rfl⟩ := hv
      exact hc k p.val (by rw [List.getElem?_map, hpk]; rfl)
  have h0 : s.toList.isEmpty = false := by rw [empty_iff]; simp [hs]
  have E1 : Hid (p'.bs = p.bs ++ s.data.toList) := e1
  have hk1 : (k : Int) + 1 - 1 = (k : Int) := by omega
  have hw1 : IntKind.i64.wrap (k : Int) = (k : Int) := by rw [IntKind.wrap_i64]; omega
  clear h hblk hown hs e1 hpk hsz
  go_enter Try.func24, Try.ntmps24
  go_wp2_with fail
  go_region_law (refine step_append_eq rfl _ _ 59 9 rfl _ _ (by simp [Act.eval]) (by simp [Act.eval]) (hr _) ?_)
  all_goals
    go_wp2_with fail
    (try simp only [Exit.inBlock, Exit.then])
    refine bodyPost_ret (results_none rfl _ _ _) rfl ?_
    exact ⟨rfl, p', E1.out, e2, e3⟩
end Go.Proofs.Ytfphmdkbcibcmaa
