/- The reader's take, where no element says what is within it. -/
import Derived.Test.YtdiealijjhfhjaaGreatDoorYn
namespace Go.Proofs.YtdiealijjhfhjaaGreatDoor
open Go.RowKit
def Took (B r x xs d : Nat) (m : Mc) (v : Vs) (m' : Mc) (tn : Bool) (p : Int) (u : List UInt8) (wt : Ch) (fv : Value) (fs' : List (Int × Int)) (L : List Pt) (W : World) (e : Ending) (W' : World) : Prop :=
  ∃ v' fv' ov T, e = .returned ov ∧ T.map ptOf = L ∧ Rd B r x xs d m' v' tn p u wt fv' fs' W' ∧ Fr (Own r x xs d m v fv) (Own r x xs d m' v' fv') W W' ∧ Gat (Own r x xs d m' v' fv') W.heap.size ov T W'
theorem Fr.grown {O O' : Nat → Prop} {w W W' : World} {o : Option Nat} (h : Fr O O' w W) (g : W.grownBy W' o) (ho : ∀ k, o = some k → w.heap.size ≤ k) : Fr O O' w W' :=
  ⟨⟨g.os.trans h.keep.os, g.tape.trans h.keep.tape, g.output.trans h.keep.output, Nat.le_trans h.keep.size g.size, fun k h1 h2 => (g.block k (Nat.lt_of_lt_of_le h2 h.keep.size) (fun e => by have := ho k e.symm; omega)).trans (h.keep.block k h1 h2)⟩, h.own⟩
theorem ch_cells {W : World} {C : Nat} {ca : Option Addr} {cc : Nat} {L : List Ch} (h : W.ownsRow C 44 3 (.slice ca L.length cc) L.length (L.flatMap G4.Ch.cells)) (i : Nat) (c : Ch) (hc : L[i]? = some c) : ∃ g, ca = some ⟨g, 0, none⟩ ∧ g < W.heap.size ∧ L.length ≤ cc ∧ cc ≤ maxLen ∧ W.cell? ⟨g, i * 3, none⟩ = some (.int .i64 c.r) ∧ W.cell? ⟨g, i * 3 + 1, none⟩ = some (.int .i64 c.a) ∧ W.cell? ⟨g, i * 3 + 2, none⟩ = some (.int .i64 c.z) := by
  have hl := (List.getElem?_eq_some_iff.1 hc).1
  rcases h.2 with ⟨_, h0⟩ | ⟨g, cap, cur, e1, _, hg, h1, h2, h3, h4⟩
  · omega
  · simp only [Value.slice.injEq] at e1
    obtain ⟨rfl, _, rfl⟩ := e1
    obtain ⟨q0, q1, q2⟩ := G4.ch_at L i c hc
    rw [← h4] at q0 q1 q2
    rw [List.getElem?_take_of_lt (by omega), Array.getElem?_toList] at q0 q1 q2
    exact ⟨g, rfl, (Array.getElem?_eq_some_iff.1 hg).1, h1, h2, by simp [World.cell?, hg, q0], by simp [World.cell?, hg, q1], by simp [World.cell?, hg, q2]⟩
set_option maxHeartbeats 4000000 in
set_option maxRecDepth 20000 in
theorem take_no {B r x xs d : Nat} {m : Mc} {v : Vs} {p : Int} {u : List UInt8} {wt : Ch} {fv : Value} {fs : List (Int × Int)} {W : World} (h : Rd B r x xs d m v false p u wt fv fs W) {n0 : Nat} (hg : Good n0 m) {C : Nat} {ca : Option Addr} {cn cc : Nat} {L : List Ch} (hc : W.ownsRow C 44 3 (.slice ca cn cc) cn (L.flatMap G4.Ch.cells)) (hL : L.length = cn) (hO : ∀ g, (Value.slice ca cn cc).ownBlock = some g → ¬ Own r x xs d m v fv g) (hn : n0 + cn ≤ 20000)
    {fa : Option Addr} {fn' fc : Nat} {F : List (Int × Int)} (hF : W.ownsRow C 57 2 (.slice fa fn' fc) fn' (F.flatMap gcells)) (hFl : F.length = fn') (hfs : fs.length + fn' ≤ 1000000000) :
    Calls Tryz.prog 34 #[.pointer (some ⟨r, 0, none⟩), .slice ca cn cc, .slice fa fn' fc] W (Took B r x xs d m v (Mc.feeds false L m).2 false p u wt fv (fs ++ F) (Mc.feeds false L m).1 W) := by
  subst hFl
  obtain ⟨fo, fcp, efv, _, _⟩ := G4.own_form h.frow
  obtain ⟨fv', W1, hrun, a1, a2, a3, a4, a5⟩ := h.fault hF (by omega)
  obtain ⟨fo', fcp', efv', _, _⟩ := G4.own_form a4.frow
  obtain ⟨f1, hf1⟩ : ∃ f1, fs.length = f1 := ⟨_, rfl⟩
  obtain ⟨f2, hf2⟩ : ∃ f2, (fs ++ F).length = f2 := ⟨_, rfl⟩
  rw [hf1] at efv
  rw [hf2] at efv'
  have c3 : W.cell? ⟨r, 3, none⟩ = some fv := by simp [World.cell?, h.blk]
  have hrW := h.lt
  obtain ⟨V, hV⟩ : ∃ V, W1.setCell ⟨r, 3, none⟩ fv' = V := ⟨_, rfl⟩
  rw [hV] at a4 a5
  have HV : Hid (Rd B r x xs d m v false p u wt fv' (fs ++ F) V ∧ Fr (Own r x xs d m v fv) (Own r x xs d m v fv') W V) := ⟨a4, a5⟩
  have HC : Hid (V.ownsRow C 44 3 (.slice ca L.length cc) L.length (L.flatMap G4.Ch.cells) ∧ (∀ g, (Value.slice ca L.length cc).ownBlock = some g → ¬ Own r x xs d m v fv' g ∧ g < V.heap.size) ∧ L.length = cn ∧ W.heap.size ≤ V.heap.size ∧ 2 ≤ W.heap.size) := by
    subst hL
    have hlt : ∀ g, (Value.slice ca L.length cc).ownBlock = some g → g < W.heap.size := fun g hg => (own_blk (OwnQ.of (q := false) hc) hg).1
    refine ⟨row_mv hc fun g hg => a5.keep.block g (hO g hg) (hlt g hg), fun g hg => ⟨fun ho => ?_, Nat.lt_of_lt_of_le (hlt g hg) a5.keep.size⟩, rfl, a5.keep.size, by have := h.hB; omega⟩
    rcases a5.own g ho with e | e
    · exact hO g hg e
    · have := hlt g hg; omega
  have HG : Hid (∀ i, i ≤ cn → Good (n0 + i) (Mc.feeds false (L.take i) m).2) := fun i hi => by
    have := feeds_good false hg (L.take i)
    rw [List.length_take, hL, Nat.min_eq_left hi] at this
    exact this
  obtain ⟨Fn, hFn⟩ : ∃ Fn, F.length = Fn := ⟨_, rfl⟩
  rw [hFn] at hrun ⊢
  clear h hc hF a4 a5 hg hfs hFn hO hL hf1 hf2
  rw [efv] at hrun a1 c3
  rw [efv'] at hrun hV
  have HFV : Hid (fv = .slice fo f1 fcp ∧ fv' = .slice fo' f2 fcp') := ⟨efv, efv'⟩
  clear efv efv'
  go_enter Tryz.func34, Tryz.ntmps34
  go_wp2_with (at_builtin; refine list_append_eq rfl _ _ 24 24 rfl _ _ rfl rfl hrun ?_)
  go_loopw [7, 22] (fun ov iv wr => ∃ (i : Nat) (T : List TL) (v' : Vs), iv = .int .i64 i ∧ i ≤ cn ∧ T.map ptOf = (Mc.feeds false (L.take i) m).1 ∧ T.length ≤ i * 300000 ∧ Rd B r x xs d (Mc.feeds false (L.take i) m).2 v' false p u wt fv' (fs ++ F) wr ∧ Fr (Own r x xs d m v fv') (Own r x xs d (Mc.feeds false (L.take i) m).2 v' fv') V wr ∧ Gat (Own r x xs d (Mc.feeds false (L.take i) m).2 v' fv') V.heap.size ov T wr) (fun _ iv _ => cn - (intOf iv).toNat)
  case atStart => exact ⟨0, [], v, rfl, Nat.zero_le _, rfl, Nat.le_refl _, HV.out.1, Fr.refl _ _, Gat.nil _ _ _⟩
  case round =>
    obtain ⟨i, T, v', rfl, hin, hT, hTl, hr, hf, ht⟩ := hrel
    obtain ⟨M, hM⟩ : ∃ M, (Mc.feeds false (L.take i) m).2 = M := ⟨_, rfl⟩
    rw [hM] at hr hf ht
    have hxr := hr.lt
    have HR : Hid (Rd B r x xs d M v' false p u wt fv' (fs ++ F) wr ∧ Fr (Own r x xs d m v fv') (Own r x xs d M v' fv') V wr ∧ Gat (Own r x xs d M v' fv') V.heap.size u7 T wr ∧ (Mc.feeds false (L.take i) m).2 = M ∧ T.map ptOf = (Mc.feeds false (L.take i) m).1 ∧ T.length ≤ i * 300000) := ⟨hr, hf, ht, hM, hT, hTl⟩
    by_cases hlt : i < cn
    · have hlt' : decide ((i : Int) < (cn : Int)) = true := decide_eq_true (by omega)
      obtain ⟨c, hc⟩ : ∃ c, L[i]? = some c := ⟨_, List.getElem?_eq_getElem (by rw [HC.out.2.2.1]; exact hlt)⟩
      obtain ⟨g, rfl, hgw, hcc1, hcc2, g0, g1, g2⟩ := ch_cells (row_mv HC.out.1 fun g hg => hf.keep.block g (HC.out.2.1 g hg).1 (HC.out.2.1 g hg).2) i c hc
      rw [HC.out.2.2.1] at hcc1
      have HE : Hid (Mc.feeds false (L.take (i + 1)) m = fdStep false (Mc.feeds false (L.take i) m) c) := by
        obtain ⟨h1, rfl⟩ := List.getElem?_eq_some_iff.1 hc
        show Mc.feeds false (L.take (i + 1)) m = _
        rw [← List.take_append_getElem h1, feeds_snoc]
      have HGM : Hid (Good (n0 + i) M) := by rw [← hM]; exact HG.out i hin
      clear hr hf ht hM hT hTl hc
      obtain ⟨rr, pp, qq⟩ := c
      simp only at g0 g1 g2
      obtain ⟨W0, hW0⟩ : ∃ W0, wr.alloc (.cells #[.int .i64 rr, .int .i64 pp, .int .i64 qq] 44) = W0 := ⟨_, rfl⟩
      have B0 : Below wr.heap.size wr W0 := by rw [← hW0]; exact (Below.refl _ _).alloc (Nat.le_refl _) _
      have hnew : W0.heap[wr.heap.size]? = some (.cells #[.int .i64 rr, .int .i64 pp, .int .i64 qq] 44 (0, 0)) := by rw [← hW0]; exact heap_alloc_new _ _
      have d0 : W0.cell? ⟨wr.heap.size, 0, none⟩ = some (.int .i64 rr) := by simp [World.cell?, hnew]
      have d1 : W0.cell? ⟨wr.heap.size, 1, none⟩ = some (.int .i64 pp) := by simp [World.cell?, hnew]
      have d2 : W0.cell? ⟨wr.heap.size, 2, none⟩ = some (.int .i64 qq) := by simp [World.cell?, hnew]
      have hqw : wr.heap.size < W0.heap.size := (Array.getElem?_eq_some_iff.1 hnew).1
      have HR0 : Hid (Rd B r x xs d M v' false p u wt fv' (fs ++ F) W0) := HR.out.1.below B0
      have hrW0 : r < W0.heap.size := HR0.out.lt
      have r1 : W0.cell? ⟨r, 1, none⟩ = some (.pointer (some ⟨x, 0, none⟩)) := by simp [World.cell?, HR0.out.blk]
      have HB0 : Hid (Below wr.heap.size wr W0) := B0
      clear hnew B0
      have HCL : Hid (∀ w', Below W0.heap.size W0 w' → Calls Tryz.prog 48 #[mp x, cv ⟨rr, pp, qq⟩] w' fun e W' => ∃ v2 T' ao cap, e = .returned (.slice ao T'.length cap) ∧ T'.map ptOf = (M.feed ⟨rr, pp, qq⟩).1 ∧ T'.length ≤ cap ∧ T'.length ≤ 300000 ∧ Rd B r x xs d (M.feed ⟨rr, pp, qq⟩).2 v2 false p u wt fv' (fs ++ F) W' ∧ Fr (Own r x xs d M v' fv') (Own r x xs d (M.feed ⟨rr, pp, qq⟩).2 v2 fv') wr W' ∧ Tol (Own r x xs d (M.feed ⟨rr, pp, qq⟩).2 v2 fv') ao T' W') := fun w' hb => by
        refine ((HR0.out.below hb).gave (fun U hU => feed_any hU HGM.out ⟨rr, pp, qq⟩ (by omega))).mono ?_
        rintro e W' ⟨v2, T', ao, cap, rfl, k1, k2, k3, k4, k5, _⟩
        have hl' : T'.length ≤ 300000 := by
          have := feed_len HGM.out ⟨rr, pp, qq⟩ (by omega)
          rw [← k1, List.length_map] at this
          exact this
        exact ⟨v2, T', ao, cap, rfl, k1, k2, hl', k3, (Fr.old (O := Own r x xs d M v' fv') HB0.out).trans ((Fr.old hb).trans k4), k5⟩
      go_upto_region 6 with fail
      clear hW0
      go_cut [10] (fun lv wc => ∃ v2 T' ao cap, lv = .slice ao T'.length cap ∧ T'.map ptOf = (M.feed ⟨rr, pp, qq⟩).1 ∧ T'.length ≤ cap ∧ T'.length ≤ 300000 ∧ Rd B r x xs d (M.feed ⟨rr, pp, qq⟩).2 v2 false p u wt fv' (fs ++ F) wc ∧ Fr (Own r x xs d M v' fv') (Own r x xs d (M.feed ⟨rr, pp, qq⟩).2 v2 fv') wr wc ∧ Tol (Own r x xs d (M.feed ⟨rr, pp, qq⟩).2 v2 fv') ao T' wc)
      case first =>
        go_region_with (go_at_call 48; refine (HCL.out _ ((Below.refl _ _).drew)).mono ?_; rintro e w1 ⟨v2, T', ao, cp, rfl, hgv⟩)
        all_goals
          have HGV : Hid _ := hgv
          clear hgv
          go_wp2_with fail
          go_meet
          exact ⟨v2, T', ao, cp, rfl, HGV.out⟩
      case rest =>
        obtain ⟨v2, T', ao, cp, rfl, k1, k2, k3, k4, k5, k6⟩ := hcut
        obtain ⟨ov', W2, hrun2, k7, k8, k9⟩ := k4.app (HR.out.2.2.1.fr k5) k6 cp ⟨Nat.le_trans HC.out.2.2.2.2 HC.out.2.2.2.1, Nat.le_trans HR.out.2.1.keep.size k5.keep.size⟩ (by have := HR.out.2.2.2.2.2; omega)
        have r2 : wc.cell? ⟨r, 2, none⟩ = some (.bool false) := by simp [World.cell?, k4.blk]
        have hrw := k4.lt
        have HF : Hid ((T ++ T').map ptOf = (Mc.feeds false (L.take (i + 1)) m).1 ∧ (T ++ T').length ≤ (i + 1) * 300000 ∧ Rd B r x xs d (Mc.feeds false (L.take (i + 1)) m).2 v2 false p u wt fv' (fs ++ F) W2 ∧ Fr (Own r x xs d m v fv') (Own r x xs d (Mc.feeds false (L.take (i + 1)) m).2 v2 fv') V W2 ∧ Gat (Own r x xs d (Mc.feeds false (L.take (i + 1)) m).2 v2 fv') V.heap.size ov' (T ++ T') W2) := by
          have e2 := HE.out
          unfold fdStep at e2
          rw [HR.out.2.2.2.1, show Mc.auto false (M.feed ⟨rr, pp, qq⟩).1 (M.feed ⟨rr, pp, qq⟩).2 = (M.feed ⟨rr, pp, qq⟩).2 from rfl] at e2
          rw [e2]
          refine ⟨?_, ?_, k8, ?_, k7⟩
          · rw [List.map_append, HR.out.2.2.2.2.1, k1]
          · have := HR.out.2.2.2.2.2
            rw [List.length_append]; omega
          · exact (HR.out.2.1.trans k5).grown k9 fun k hk => (HR.out.2.2.1.blk k hk).2
        clear k1 k4 k5 k6 k7 k8 k9 HCL HB0 HR0 d0 d1 d2 r1 hqw hrW0
        go_wp2_with (at_builtin; refine list_append_eq rfl _ _ 23 23 rfl _ _ rfl rfl hrun2 ?_)
        go_roundw
        case rel => exact ⟨i + 1, T ++ T', v2, by go_num, by omega, HF.out⟩
        case measure => simp [intOf]; omega
    · have hlt' : decide ((i : Int) < (cn : Int)) = false := decide_eq_false (by omega)
      have ei : i = cn := by omega
      have e0 : L.take i = L := by rw [ei, ← HC.out.2.2.1]; exact List.take_length
      have HZ : Hid (Took B r x xs d m v (Mc.feeds false L m).2 false p u wt fv (fs ++ F) (Mc.feeds false L m).1 W (.returned u7) wr) := by
        obtain ⟨h1, h2, h3, h4, h5, h6⟩ := HR.out
        rw [e0] at h4 h5
        rw [← h4] at h1 h2 h3
        exact ⟨v', fv', u7, T, rfl, h5, h1, HV.out.2.trans h2, h3.sub HC.out.2.2.2.1⟩
      clear hr hf ht hM hT hTl HR
      go_wp2_with fail
      go_ret
      exact HZ.out
end Go.Proofs.YtdiealijjhfhjaaGreatDoor
namespace Go.Proofs.YtdiealijjhfhjaaGreatDoor
open Go.RowKit
def TakeC (tn : Bool) : Prop := ∀ {B r x xs d : Nat} {m : Mc} {v : Vs} {p : Int} {u : List UInt8} {wt : Ch} {fv : Value} {fs : List (Int × Int)} {W : World}, Rd B r x xs d m v tn p u wt fv fs W → ∀ {n0 : Nat}, Good n0 m → ∀ {C : Nat} {ca : Option Addr} {cn cc : Nat} {L : List Ch}, W.ownsRow C 44 3 (.slice ca cn cc) cn (L.flatMap G4.Ch.cells) → L.length = cn → (∀ g, (Value.slice ca cn cc).ownBlock = some g → ¬ Own r x xs d m v fv g) → n0 + cn ≤ 20000 →
    ∀ {fa : Option Addr} {fn' fc : Nat} {F : List (Int × Int)}, W.ownsRow C 57 2 (.slice fa fn' fc) fn' (F.flatMap gcells) → F.length = fn' → fs.length + fn' ≤ 1000000000 →
    Calls Tryz.prog 34 #[.pointer (some ⟨r, 0, none⟩), .slice ca cn cc, .slice fa fn' fc] W (Took B r x xs d m v (Mc.feeds tn L m).2 tn p u wt fv (fs ++ F) (Mc.feeds tn L m).1 W)
theorem takeC_no : TakeC false := fun h _ hg _ _ _ _ _ hc hL hO hn _ _ _ _ hF hFl hfs => take_no h hg hc hL hO hn hF hFl hfs
section
variable {B r x xs d : Nat} {m : Mc} {v : Vs} {tn : Bool} {p : Int} {u : List UInt8} {wt : Ch} {fv : Value} {fs : List (Int × Int)} {W : World}
theorem Rd.took (HT : TakeC tn) {p' : Int} {u' : List UInt8} {wt' : Ch} {W' : World} (h : Rd B r x xs d m v tn p u wt fv fs W) (hs : G4.Strm xs d p' u' wt' W') (hk : G4.Keep (G4.Rest W.heap.size xs d) W W') {n0 : Nat} (hg : Good n0 m) {ca : Option Addr} {cn cc : Nat} {L : List Ch} (hc : G4.Chars W.heap.size (.slice ca cn cc) L W') (hn : n0 + L.length ≤ 20000)
    {fa : Option Addr} {fn' fc : Nat} {F : List (Int × Int)} (hF : G4.FaultsC W.heap.size (.slice fa fn' fc) F W') (hfs : fs.length + F.length ≤ 1000000000) :
    Calls Tryz.prog 34 #[.pointer (some ⟨r, 0, none⟩), .slice ca cn cc, .slice fa fn' fc] W' (Took B r x xs d m v (Mc.feeds tn L m).2 tn p' u' wt' fv (fs ++ F) (Mc.feeds tn L m).1 W) := by
  obtain ⟨k1, k2⟩ := h.flow hs hk
  unfold G4.Chars at hc
  unfold G4.FaultsC at hF
  obtain ⟨_, _, e1, _, _⟩ := G4.own_form hc
  obtain ⟨_, _, e2, _, _⟩ := G4.own_form hF
  simp only [Value.slice.injEq] at e1 e2
  have hcn : L.length = cn := e1.2.1.symm
  have hfn : F.length = fn' := e2.2.1.symm
  rw [hcn] at hc
  rw [hfn] at hF
  refine (HT k1 hg hc hcn (fun g hg ho => ?_) (by omega) hF hfn (by omega)).mono ?_
  · rcases hc.2 with ⟨e, _⟩ | ⟨g', cap, cur, e, hb, _⟩
    · rw [e] at hg; simp [Value.ownBlock] at hg
    · rw [e] at hg; simp [Value.ownBlock] at hg; subst hg
      rcases k2.own _ ho with e' | e'
      · have := (h.own_lt e').1; omega
      · have := (h.own_lt ho).1; omega
  · rintro e W2 ⟨v', fv', ov, T, rfl, q1, q2, q3, q4⟩
    exact ⟨v', fv', ov, T, rfl, q1, q2, k2.trans q3, q4.sub k2.keep.size⟩
set_option maxHeartbeats 1000000 in
set_option maxRecDepth 20000 in
theorem rfeed_any (HT : TakeC tn) (h : Rd B r x xs d m v tn p u wt fv fs W) {n0 : Nat} (hg : Good n0 m) (s : ByteArray) (hu : G4.pend u) (hp0 : 0 ≤ p) (hp1 : p ≤ 1400000000000) (hs : s.size ≤ 50000) (hn : n0 + (G4.tsL wt (G4.chs p (G4.run u s.data.toList).2)).2.length ≤ 20000) (hfs : fs.length + (G4.fcs p (G4.run u s.data.toList).2).length ≤ 1000000000) :
    Calls Tryz.prog 25 #[.pointer (some ⟨r, 0, none⟩), .string s] W (Took B r x xs d m v (Mc.feeds tn (G4.tsL wt (G4.chs p (G4.run u s.data.toList).2)).2 m).2 tn (p + (G4.tot (G4.run u s.data.toList).2 : Nat)) (G4.run u s.data.toList).1 (G4.tsL wt (G4.chs p (G4.run u s.data.toList).2)).1 fv (fs ++ G4.fcs p (G4.run u s.data.toList).2) (Mc.feeds tn (G4.tsL wt (G4.chs p (G4.run u s.data.toList).2)).2 m).1 W) := by
  have c0 : W.cell? ⟨r, 0, none⟩ = some (.pointer (some ⟨xs, 0, none⟩)) := by simp [World.cell?, h.blk]
  have hrW := h.lt
  have HS := G4.sfeed_any s hu hp0 hp1 h.strm hs
  have HK : Hid (∀ W' p' u' wt' ca cn cc fa fn' fc (L : List Ch) (F : List (Int × Int)), G4.Strm xs d p' u' wt' W' → G4.Keep (G4.Rest W.heap.size xs d) W W' → G4.Chars W.heap.size (.slice ca cn cc) L W' → n0 + L.length ≤ 20000 → G4.FaultsC W.heap.size (.slice fa fn' fc) F W' → fs.length + F.length ≤ 1000000000 →
      Calls Tryz.prog 34 #[.pointer (some ⟨r, 0, none⟩), .slice ca cn cc, .slice fa fn' fc] W' (Took B r x xs d m v (Mc.feeds tn L m).2 tn p' u' wt' fv (fs ++ F) (Mc.feeds tn L m).1 W)) := fun W' p' u' wt' ca cn cc fa fn' fc L F h1 h2 h3 h4 h5 h6 => h.took HT h1 h2 hg h3 h4 h5 h6
  clear h hg HT hu
  generalize hLL : (G4.tsL wt (G4.chs p (G4.run u s.data.toList).2)).2 = LL at *
  generalize hFF : G4.fcs p (G4.run u s.data.toList).2 = FF at *
  generalize (G4.run u s.data.toList).1 = u2 at *
  generalize (G4.tsL wt (G4.chs p (G4.run u s.data.toList).2)).1 = w2 at *
  generalize p + (G4.tot (G4.run u s.data.toList).2 : Nat) = p2 at *
  clear hLL hFF
  go_enter Tryz.func25, Tryz.ntmps25
  go_wp2_with fail
  refine HS.mono ?_
  rintro e W' ⟨ca, cn, cc, fa, fn', fc, rfl, k1, k2, k3, k4⟩
  have KK := HK.out W' _ _ _ ca cn cc fa fn' fc LL FF k1 k4 k2 hn k3 hfs
  clear k1 k2 k3 k4 HK
  go_wp2_with fail
  refine KK.mono ?_
  rintro e W2 ⟨v', fv', ov, T, rfl, hz⟩
  have HZ : Hid _ := hz
  clear hz
  go_wp2_with fail
  go_ret
  exact ⟨v', fv', ov, T, rfl, HZ.out⟩
end
end Go.Proofs.YtdiealijjhfhjaaGreatDoor
