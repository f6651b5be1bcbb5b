/- Copy: a machine that goes on as another does. -/
import Derived.Test.YtjjfalbngcbfaaaGreatDoorVb
import Derived.Deep.Cut
import Derived.Laws.Rows
import Derived.Deep.MidRow
namespace Go.Proofs.YtjjfalbngcbfaaaGreatDoor
open Go.RowKit Go.Maps

/-- Rows in new memory behind others. -/
theorem Bag.append {S S' : Nat → Prop} {w w' : World} {l k : List Rw} (h : Bag S w l) (b : Below w.heap.size w w') (hk : Bag S' w' k) (hS : ∀ i, i < w.heap.size → S' i) (hl : ∀ i, S i → i < w.heap.size) : Bag S w' (l ++ k) := by
  have h2 := h.below b
  have hat : ∀ i x, (l ++ k)[i]? = some x → (i < l.length ∧ l[i]? = some x) ∨ (l.length ≤ i ∧ k[i - l.length]? = some x) := fun i x hx => by
    by_cases hi : i < l.length
    · rw [List.getElem?_append_left hi] at hx
      exact .inl ⟨hi, hx⟩
    · rw [List.getElem?_append_right (by omega)] at hx
      exact .inr ⟨by omega, hx⟩
  refine ⟨fun i x hx => ?_, fun i x hx g hg hs => ?_, fun i j x y hne hx hy g hg hg2 => ?_⟩
  · rcases hat i x hx with ⟨_, h3⟩ | ⟨_, h3⟩
    · exact h2.own i x h3
    · exact hk.own _ x h3
  · rcases hat i x hx with ⟨_, h3⟩ | ⟨_, h3⟩
    · exact h2.out i x h3 g hg hs
    · exact hk.out _ x h3 g hg (hS g (hl g hs))
  · rcases hat i x hx with ⟨i1, h3⟩ | ⟨i1, h3⟩
    · rcases hat j y hy with ⟨_, h4⟩ | ⟨_, h4⟩
      · exact h2.apart i j x y hne h3 h4 g hg hg2
      · exact hk.out _ y h4 g hg2 (hS g (own_blk (h.own i x h3) hg).1)
    · rcases hat j y hy with ⟨_, h4⟩ | ⟨j1, h4⟩
      · exact hk.out _ x h3 g hg (hS g (own_blk (h.own j y h4) hg2).1)
      · exact hk.apart _ _ x y (by omega) h3 h4 g hg hg2
theorem Bag.some {S : Nat → Prop} {w w' : World} {l : List Rw} (h : Bag S w l) (k : ∀ g, ¬ S g → w'.heap[g]? = w.heap[g]?) : Bag S w' l :=
  ⟨fun i r hr => own_mv (h.own i r hr) fun g hg => k g (h.out i r hr g hg), h.out, h.apart⟩
theorem chars_one (l : List Ch) : ∀ u ∈ l.flatMap G4.Ch.cells, u.oneCell' = true := fun u hu => by
  rw [List.mem_flatMap] at hu
  obtain ⟨c, _, hu⟩ := hu
  simp only [G4.Ch.cells, List.mem_cons, List.not_mem_nil, or_false] at hu
  rcases hu with rfl | rfl | rfl <;> rfl
/-- What Copy gives. -/
def CopyAt (m : Mc) (p : Value) (w : World) (e : Ending) (w' : World) : Prop := ∃ v', e = .returned (mp w.heap.size) ∧ MachV NoZ (fun k => k < w.heap.size) w.heap.size m v' [] w' ∧ v'.o = .slice none 0 0 ∧ v'.p = p ∧ Below w.heap.size w w'

set_option maxHeartbeats 8000000 in
set_option maxRecDepth 20000 in
theorem copy_any {Z : Nat → Prop} {S : Nat → Prop} {x : Nat} {m : Mc} {v : Vs} {w : World} (h : MachV Z S x m v [] w) (ho : v.o = .slice none 0 0) (hn : m.tot ≤ 1000000000) : Calls Tryz.prog 17 #[mp x] w (CopyAt m v.p w) := by
  have hxw := h.lt
  obtain ⟨w0, w2, ew, _, _⟩ := own_form (h.bag.own 0 _ rfl)
  obtain ⟨r0, r2, er, _, _⟩ := own_form (h.bag.own 1 _ rfl)
  obtain ⟨n0, n2, en, _, _⟩ := own_form (h.bag.own 2 _ rfl)
  obtain ⟨t0, t2, et, _, _⟩ := own_form (h.bag.own 3 _ rfl)
  obtain ⟨a0, a2, ea, _, _⟩ := own_form (h.bag.own 4 _ rfl)
  obtain ⟨p0, p2, ep, _, _⟩ := own_form (h.bag.own 5 _ rfl)
  obtain ⟨q0, q2, eq, _, _⟩ := own_form (h.bag.own 6 _ rfl)
  obtain ⟨f0, f2, ef, _, _⟩ := own_form (h.bag.own 8 _ rfl)
  simp only at ew er en et ea ep eq ef
  obtain ⟨mv, em⟩ : ∃ mv, v.m = .map mv := by
    rcases h.names.2 with ⟨_, e⟩ | ⟨_, b, e, _⟩
    · exact ⟨_, e⟩
    · exact ⟨_, e⟩
  obtain ⟨tp, etp⟩ : ∃ tp, v.p = .pointer tp := by
    rcases h.trie with e | ⟨t, e, _⟩
    · exact ⟨_, e⟩
    · exact ⟨_, e⟩
  obtain ⟨w1, hw1⟩ : ∃ k, m.wait.length = k := ⟨_, rfl⟩
  obtain ⟨r1, hr1⟩ : ∃ k, m.ref.length = k := ⟨_, rfl⟩
  obtain ⟨n1, hn1⟩ : ∃ k, m.nm.length = k := ⟨_, rfl⟩
  obtain ⟨t1, ht1⟩ : ∃ k, m.tx.length = k := ⟨_, rfl⟩
  obtain ⟨a1, ha1⟩ : ∃ k, m.attrs.length = k := ⟨_, rfl⟩
  obtain ⟨p1, hp1⟩ : ∃ k, m.an.length = k := ⟨_, rfl⟩
  obtain ⟨q1, hq1⟩ : ∃ k, m.av.length = k := ⟨_, rfl⟩
  obtain ⟨f1, hf1⟩ : ∃ k, m.fs.length = k := ⟨_, rfl⟩
  rw [hw1] at ew
  rw [hr1] at er
  rw [hn1] at en
  rw [ht1] at et
  rw [ha1] at ea
  rw [hp1] at ep
  rw [hq1] at eq
  rw [hf1] at ef
  have hblk : w.heap[x]? = some (.cells #[.func (.func m.st) #[] #[], .func (.func m.en) #[] #[], .int .i64 m.text, .bool m.cd, .string m.last, .slice w0 w1 w2, .slice r0 r1 r2, .pointer tp, .int .i64 m.kind, .int .i64 m.frm, .slice n0 n1 n2, .slice t0 t1 t2, .bool m.self, .slice a0 a1 a2, .map mv, .int .i64 m.at_, .slice p0 p1 p2, .slice q0 q1 q2, .bool m.cnt, .slice none 0 0, .slice f0 f1 f2] 74 (0, 0)) := by
    have := h.blk
    unfold Mc.cells fn at this
    rw [ew, er, etp, en, et, ea, em, ep, eq, ho, ef] at this
    exact this
  have HM : Hid (MachV Z S x m v [] w ∧ m.tot ≤ 1000000000) := ⟨h, hn⟩
  have HE : Hid (v.w = .slice w0 w1 w2 ∧ v.r = .slice r0 r1 r2 ∧ v.n = .slice n0 n1 n2 ∧ v.t = .slice t0 t1 t2 ∧ v.a = .slice a0 a1 a2 ∧ v.m = .map mv ∧ v.an = .slice p0 p1 p2 ∧ v.av = .slice q0 q1 q2 ∧ v.f = .slice f0 f1 f2) := ⟨ew, er, en, et, ea, em, ep, eq, ef⟩
  have HLn : Hid (m.wait.length = w1 ∧ m.ref.length = r1 ∧ m.nm.length = n1 ∧ m.tx.length = t1 ∧ m.attrs.length = a1 ∧ m.an.length = p1 ∧ m.av.length = q1 ∧ m.fs.length = f1) := ⟨hw1, hr1, hn1, ht1, ha1, hp1, hq1, hf1⟩
  rw [etp]
  have HTP : Hid (v.p = .pointer tp) := etp
  clear h hn ew er en et ea em ep eq ef hw1 hr1 hn1 ht1 ha1 hp1 hq1 hf1 ho etp
  go_enter Tryz.func17, Tryz.ntmps17
  go_upto_region 3 with fail
  apply wp_region_lit
  refine wpList_plain rfl (fun K hK => ?_)
  unfold Oper.wp
  go_simp
  refine hK _ _ ?_
  clear hK K
  refine wpList_plain rfl (fun K hK => ?_)
  unfold Oper.wp
  go_simp
  refine hK _ _ ?_
  clear hK K
  refine wpList_load_row rfl 74 _ rfl x rfl 74 _ _ _ hblk Tryz.underlying74 rfl (by kernel_rfl) ?_
  refine wpList_plain rfl (fun K hK => ?_)
  unfold Oper.wp
  go_simp
  refine hK _ _ ?_
  clear hK K
  refine wpList_store_row rfl 74 _ _ rfl w.heap.size #[.func (.func m.st) #[] #[], .func (.func m.en) #[] #[], .int .i64 m.text, .bool m.cd, .string m.last, .slice w0 w1 w2, .slice r0 r1 r2, .pointer tp, .int .i64 m.kind, .int .i64 m.frm, .slice n0 n1 n2, .slice t0 t1 t2, .bool m.self, .slice a0 a1 a2, .map mv, .int .i64 m.at_, .slice p0 p1 p2, .slice q0 q1 q2, .bool m.cnt, .slice none 0 0, .slice f0 f1 f2] rfl rfl 74 _ (heap_alloc_new _ _) (by kernel_rfl) rfl (by simp [Value.oneCell']) ?_
  have hBz : (w.alloc (.cells #[Value.nilFunc, Value.nilFunc, .int .i64 0, .bool false, .string ⟨#[]⟩, .slice none 0 0, .slice none 0 0, .pointer none, .int .i64 0, .int .i64 0, .slice none 0 0, .slice none 0 0, .bool false, .slice none 0 0, .map none, .int .i64 0, .slice none 0 0, .slice none 0 0, .bool false, .slice none 0 0, .slice none 0 0] 74)).heap[w.heap.size]? = some (.cells #[Value.nilFunc, Value.nilFunc, .int .i64 0, .bool false, .string ⟨#[]⟩, .slice none 0 0, .slice none 0 0, .pointer none, .int .i64 0, .int .i64 0, .slice none 0 0, .slice none 0 0, .bool false, .slice none 0 0, .map none, .int .i64 0, .slice none 0 0, .slice none 0 0, .bool false, .slice none 0 0, .slice none 0 0] 74 (0, 0)) := heap_alloc_new _ _
  have bz : Below w.heap.size w (w.alloc (.cells #[Value.nilFunc, Value.nilFunc, .int .i64 0, .bool false, .string ⟨#[]⟩, .slice none 0 0, .slice none 0 0, .pointer none, .int .i64 0, .int .i64 0, .slice none 0 0, .slice none 0 0, .bool false, .slice none 0 0, .map none, .int .i64 0, .slice none 0 0, .slice none 0 0, .bool false, .slice none 0 0, .slice none 0 0] 74)) := (Below.refl _ _).alloc (Nat.le_refl _) _
  have hB0 : ((w.alloc (.cells #[Value.nilFunc, Value.nilFunc, .int .i64 0, .bool false, .string ⟨#[]⟩, .slice none 0 0, .slice none 0 0, .pointer none, .int .i64 0, .int .i64 0, .slice none 0 0, .slice none 0 0, .bool false, .slice none 0 0, .map none, .int .i64 0, .slice none 0 0, .slice none 0 0, .bool false, .slice none 0 0, .slice none 0 0] 74)).setRow w.heap.size #[.func (.func m.st) #[] #[], .func (.func m.en) #[] #[], .int .i64 m.text, .bool m.cd, .string m.last, .slice w0 w1 w2, .slice r0 r1 r2, .pointer tp, .int .i64 m.kind, .int .i64 m.frm, .slice n0 n1 n2, .slice t0 t1 t2, .bool m.self, .slice a0 a1 a2, .map mv, .int .i64 m.at_, .slice p0 p1 p2, .slice q0 q1 q2, .bool m.cnt, .slice none 0 0, .slice f0 f1 f2]).heap[w.heap.size]? = some (.cells #[.func (.func m.st) #[] #[], .func (.func m.en) #[] #[], .int .i64 m.text, .bool m.cd, .string m.last, .slice w0 w1 w2, .slice r0 r1 r2, .pointer tp, .int .i64 m.kind, .int .i64 m.frm, .slice n0 n1 n2, .slice t0 t1 t2, .bool m.self, .slice a0 a1 a2, .map mv, .int .i64 m.at_, .slice p0 p1 p2, .slice q0 q1 q2, .bool m.cnt, .slice none 0 0, .slice f0 f1 f2] 74 (0, 0)) := setRow_heap _ _ _ _ _ _ hBz
  have sz0 : w.heap.size + 1 ≤ ((w.alloc (.cells #[Value.nilFunc, Value.nilFunc, .int .i64 0, .bool false, .string ⟨#[]⟩, .slice none 0 0, .slice none 0 0, .pointer none, .int .i64 0, .int .i64 0, .slice none 0 0, .slice none 0 0, .bool false, .slice none 0 0, .map none, .int .i64 0, .slice none 0 0, .slice none 0 0, .bool false, .slice none 0 0, .slice none 0 0] 74)).setRow w.heap.size #[.func (.func m.st) #[] #[], .func (.func m.en) #[] #[], .int .i64 m.text, .bool m.cd, .string m.last, .slice w0 w1 w2, .slice r0 r1 r2, .pointer tp, .int .i64 m.kind, .int .i64 m.frm, .slice n0 n1 n2, .slice t0 t1 t2, .bool m.self, .slice a0 a1 a2, .map mv, .int .i64 m.at_, .slice p0 p1 p2, .slice q0 q1 q2, .bool m.cnt, .slice none 0 0, .slice f0 f1 f2]).heap.size := by simp [World.setRow]
  have b0 : Below w.heap.size w ((w.alloc (.cells #[Value.nilFunc, Value.nilFunc, .int .i64 0, .bool false, .string ⟨#[]⟩, .slice none 0 0, .slice none 0 0, .pointer none, .int .i64 0, .int .i64 0, .slice none 0 0, .slice none 0 0, .bool false, .slice none 0 0, .map none, .int .i64 0, .slice none 0 0, .slice none 0 0, .bool false, .slice none 0 0, .slice none 0 0] 74)).setRow w.heap.size #[.func (.func m.st) #[] #[], .func (.func m.en) #[] #[], .int .i64 m.text, .bool m.cd, .string m.last, .slice w0 w1 w2, .slice r0 r1 r2, .pointer tp, .int .i64 m.kind, .int .i64 m.frm, .slice n0 n1 n2, .slice t0 t1 t2, .bool m.self, .slice a0 a1 a2, .map mv, .int .i64 m.at_, .slice p0 p1 p2, .slice q0 q1 q2, .bool m.cnt, .slice none 0 0, .slice f0 f1 f2]) := bz.trans ⟨rfl, rfl, rfl, by simp [World.setRow], fun k hk => setRow_other _ _ _ _ (by omega)⟩
  clear hBz bz
  generalize (w.alloc (.cells #[Value.nilFunc, Value.nilFunc, .int .i64 0, .bool false, .string ⟨#[]⟩, .slice none 0 0, .slice none 0 0, .pointer none, .int .i64 0, .int .i64 0, .slice none 0 0, .slice none 0 0, .bool false, .slice none 0 0, .map none, .int .i64 0, .slice none 0 0, .slice none 0 0, .bool false, .slice none 0 0, .slice none 0 0] 74)).setRow w.heap.size #[.func (.func m.st) #[] #[], .func (.func m.en) #[] #[], .int .i64 m.text, .bool m.cd, .string m.last, .slice w0 w1 w2, .slice r0 r1 r2, .pointer tp, .int .i64 m.kind, .int .i64 m.frm, .slice n0 n1 n2, .slice t0 t1 t2, .bool m.self, .slice a0 a1 a2, .map mv, .int .i64 m.at_, .slice p0 p1 p2, .slice q0 q1 q2, .bool m.cnt, .slice none 0 0, .slice f0 f1 f2] = W0 at *
  have K0 : Hid (Below w.heap.size w W0 ∧ Bag (fun k => k < w.heap.size + 1) W0 []) := ⟨b0, Bag.nil _ _⟩
  have hcell : ∀ (W : World), Below w.heap.size w W → ∀ (i : Nat) (u : Value), (#[.func (.func m.st) #[] #[], .func (.func m.en) #[] #[], .int .i64 m.text, .bool m.cd, .string m.last, .slice w0 w1 w2, .slice r0 r1 r2, .pointer tp, .int .i64 m.kind, .int .i64 m.frm, .slice n0 n1 n2, .slice t0 t1 t2, .bool m.self, .slice a0 a1 a2, .map mv, .int .i64 m.at_, .slice p0 p1 p2, .slice q0 q1 q2, .bool m.cnt, .slice none 0 0, .slice f0 f1 f2] : Array Value)[i]? = some u → W.cell? ⟨x, i, none⟩ = some u := fun W bW i u hu => by
    rw [bW.cell (p := ⟨x, i, none⟩) hxw]
    simp [World.cell?, hblk, hu]
  have HC : Hid (∀ (W : World), Below w.heap.size w W → ∀ (i : Nat) (u : Value), (#[.func (.func m.st) #[] #[], .func (.func m.en) #[] #[], .int .i64 m.text, .bool m.cd, .string m.last, .slice w0 w1 w2, .slice r0 r1 r2, .pointer tp, .int .i64 m.kind, .int .i64 m.frm, .slice n0 n1 n2, .slice t0 t1 t2, .bool m.self, .slice a0 a1 a2, .map mv, .int .i64 m.at_, .slice p0 p1 p2, .slice q0 q1 q2, .bool m.cnt, .slice none 0 0, .slice f0 f1 f2] : Array Value)[i]? = some u → W.cell? ⟨x, i, none⟩ = some u) := hcell
  clear b0 hcell hblk
  have d0 : W0.cell? ⟨x, 5, none⟩ = some (.slice w0 w1 w2) := HC.out _ K0.out.1 5 _ rfl
  have hxw0 : x < W0.heap.size := Nat.lt_of_lt_of_le hxw K0.out.1.size
  go_wp2_with fail
  have ow0 : Rw.own W0 (rwC (.slice w0 w1 w2) m.wait) := by
    have q := own_mv (HM.out.1.bag.own 0 _ rfl) fun g hg => K0.out.1.block g (own_blk (HM.out.1.bag.own 0 _ rfl) hg).1
    simp only [HE.out] at q
    exact q
  have kk0 : Calls Tryz.prog 31 #[.slice w0 w1 w2] W0 (Cloned 37 3 m.wait.length _ W0) := cloneC_any ow0 (chars_one _) (by have := HM.out.2; unfold Mc.tot at this; show m.wait.length ≤ _; omega)
  refine kk0.mono ?_
  rintro e V1 ⟨w3, w4, rfl, ho0, hb0⟩
  have el0 : m.wait.length = w1 := by have := HLn.out; omega
  rw [el0] at ho0 ⊢
  have hBV0 : V1.heap[w.heap.size]? = some (.cells #[.func (.func m.st) #[] #[], .func (.func m.en) #[] #[], .int .i64 m.text, .bool m.cd, .string m.last, .slice w0 w1 w2, .slice r0 r1 r2, .pointer tp, .int .i64 m.kind, .int .i64 m.frm, .slice n0 n1 n2, .slice t0 t1 t2, .bool m.self, .slice a0 a1 a2, .map mv, .int .i64 m.at_, .slice p0 p1 p2, .slice q0 q1 q2, .bool m.cnt, .slice none 0 0, .slice f0 f1 f2] 74 (0, 0)) := (hb0.block _ (by omega)).trans hB0
  have sV0 : w.heap.size + 1 ≤ V1.heap.size := Nat.le_trans sz0 hb0.size
  have c0 : V1.cell? ⟨w.heap.size, 5, none⟩ = some (.slice w0 w1 w2) := by simp [World.cell?, hBV0]
  have fz0 : V1.frozen? ⟨w.heap.size, 5, none⟩ = false := by simp [World.frozen?, hBV0]
  obtain ⟨W1, hW1⟩ : ∃ W1, V1.setCell ⟨w.heap.size, 5, none⟩ (.slice w3 w1 w4) = W1 := ⟨_, rfl⟩
  have hB1 : W1.heap[w.heap.size]? = some (.cells #[.func (.func m.st) #[] #[], .func (.func m.en) #[] #[], .int .i64 m.text, .bool m.cd, .string m.last, .slice w3 w1 w4, .slice r0 r1 r2, .pointer tp, .int .i64 m.kind, .int .i64 m.frm, .slice n0 n1 n2, .slice t0 t1 t2, .bool m.self, .slice a0 a1 a2, .map mv, .int .i64 m.at_, .slice p0 p1 p2, .slice q0 q1 q2, .bool m.cnt, .slice none 0 0, .slice f0 f1 f2] 74 (0, 0)) := by rw [← hW1]; simp [World.setCell, Array.getElem?_modify, hBV0]
  have sz1 : w.heap.size + 1 ≤ W1.heap.size := by rw [← hW1]; simpa [World.setCell] using sV0
  have bs0 : Below w.heap.size V1 W1 := by rw [← hW1]; exact ⟨rfl, rfl, rfl, by simp [World.setCell], fun k hk => Below.heap_setCell _ _ _ _ (fun e => by simp only at e; omega)⟩
  have OUT0 : ∀ g, (rwC (.slice w3 w1 w4) m.wait : Rw).v.ownBlock = some g → W0.heap.size ≤ g := fun g hg => by
    rcases ho0.2 with ⟨e, _⟩ | ⟨g', cap, cur, e, hB, _⟩
    · rw [show (rwC (.slice w3 w1 w4) m.wait : Rw).v = .slice w3 w1 w4 from rfl, e] at hg; simp [Value.ownBlock] at hg
    · rw [show (rwC (.slice w3 w1 w4) m.wait : Rw).v = .slice w3 w1 w4 from rfl, e] at hg; simp [Value.ownBlock] at hg; omega
  have K1 : Hid (Below w.heap.size w W1 ∧ Bag (fun k => k < w.heap.size + 1) W1 [rwC (.slice w3 w1 w4) m.wait]) := by
    refine ⟨(K0.out.1.trans (hb0.mono K0.out.1.size)).trans bs0, ?_⟩
    rw [← hW1]
    exact (K0.out.2.snoc (fun k hk => by omega) hb0 (r := rwC (.slice w3 w1 w4) m.wait) (OwnQ.of (B := W0.heap.size) (by rw [← el0] at ho0; rw [← el0]; exact ho0)) OUT0).set (p := ⟨w.heap.size, 5, none⟩) (by show w.heap.size < _; omega) (.slice w3 w1 w4)
  clear kk0 ho0 hb0 hBV0 sV0 bs0 K0 hB0 d0 sz0 OUT0 el0 ow0 hxw0
  have d1 : W1.cell? ⟨x, 6, none⟩ = some (.slice r0 r1 r2) := HC.out _ K1.out.1 6 _ rfl
  have hxw1 : x < W1.heap.size := Nat.lt_of_lt_of_le hxw K1.out.1.size
  go_wp2_with fail
  have ow1 : Rw.own W1 (rwC (.slice r0 r1 r2) m.ref) := by
    have q := own_mv (HM.out.1.bag.own 1 _ rfl) fun g hg => K1.out.1.block g (own_blk (HM.out.1.bag.own 1 _ rfl) hg).1
    simp only [HE.out] at q
    exact q
  have kk1 : Calls Tryz.prog 31 #[.slice r0 r1 r2] W1 (Cloned 37 3 m.ref.length _ W1) := cloneC_any ow1 (chars_one _) (by have := HM.out.2; unfold Mc.tot at this; show m.ref.length ≤ _; omega)
  refine kk1.mono ?_
  rintro e V2 ⟨r3, r4, rfl, ho1, hb1⟩
  have el1 : m.ref.length = r1 := by have := HLn.out; omega
  rw [el1] at ho1 ⊢
  have hBV1 : V2.heap[w.heap.size]? = some (.cells #[.func (.func m.st) #[] #[], .func (.func m.en) #[] #[], .int .i64 m.text, .bool m.cd, .string m.last, .slice w3 w1 w4, .slice r0 r1 r2, .pointer tp, .int .i64 m.kind, .int .i64 m.frm, .slice n0 n1 n2, .slice t0 t1 t2, .bool m.self, .slice a0 a1 a2, .map mv, .int .i64 m.at_, .slice p0 p1 p2, .slice q0 q1 q2, .bool m.cnt, .slice none 0 0, .slice f0 f1 f2] 74 (0, 0)) := (hb1.block _ (by omega)).trans hB1
  have sV1 : w.heap.size + 1 ≤ V2.heap.size := Nat.le_trans sz1 hb1.size
  have c1 : V2.cell? ⟨w.heap.size, 6, none⟩ = some (.slice r0 r1 r2) := by simp [World.cell?, hBV1]
  have fz1 : V2.frozen? ⟨w.heap.size, 6, none⟩ = false := by simp [World.frozen?, hBV1]
  obtain ⟨W2, hW2⟩ : ∃ W2, V2.setCell ⟨w.heap.size, 6, none⟩ (.slice r3 r1 r4) = W2 := ⟨_, rfl⟩
  have hB2 : W2.heap[w.heap.size]? = some (.cells #[.func (.func m.st) #[] #[], .func (.func m.en) #[] #[], .int .i64 m.text, .bool m.cd, .string m.last, .slice w3 w1 w4, .slice r3 r1 r4, .pointer tp, .int .i64 m.kind, .int .i64 m.frm, .slice n0 n1 n2, .slice t0 t1 t2, .bool m.self, .slice a0 a1 a2, .map mv, .int .i64 m.at_, .slice p0 p1 p2, .slice q0 q1 q2, .bool m.cnt, .slice none 0 0, .slice f0 f1 f2] 74 (0, 0)) := by rw [← hW2]; simp [World.setCell, Array.getElem?_modify, hBV1]
  have sz2 : w.heap.size + 1 ≤ W2.heap.size := by rw [← hW2]; simpa [World.setCell] using sV1
  have bs1 : Below w.heap.size V2 W2 := by rw [← hW2]; exact ⟨rfl, rfl, rfl, by simp [World.setCell], fun k hk => Below.heap_setCell _ _ _ _ (fun e => by simp only at e; omega)⟩
  have OUT1 : ∀ g, (rwC (.slice r3 r1 r4) m.ref : Rw).v.ownBlock = some g → W1.heap.size ≤ g := fun g hg => by
    rcases ho1.2 with ⟨e, _⟩ | ⟨g', cap, cur, e, hB, _⟩
    · rw [show (rwC (.slice r3 r1 r4) m.ref : Rw).v = .slice r3 r1 r4 from rfl, e] at hg; simp [Value.ownBlock] at hg
    · rw [show (rwC (.slice r3 r1 r4) m.ref : Rw).v = .slice r3 r1 r4 from rfl, e] at hg; simp [Value.ownBlock] at hg; omega
  have K2 : Hid (Below w.heap.size w W2 ∧ Bag (fun k => k < w.heap.size + 1) W2 [rwC (.slice w3 w1 w4) m.wait, rwC (.slice r3 r1 r4) m.ref]) := by
    refine ⟨(K1.out.1.trans (hb1.mono K1.out.1.size)).trans bs1, ?_⟩
    rw [← hW2]
    exact (K1.out.2.snoc (fun k hk => by omega) hb1 (r := rwC (.slice r3 r1 r4) m.ref) (OwnQ.of (B := W1.heap.size) (by rw [← el1] at ho1; rw [← el1]; exact ho1)) OUT1).set (p := ⟨w.heap.size, 6, none⟩) (by show w.heap.size < _; omega) (.slice r3 r1 r4)
  clear kk1 ho1 hb1 hBV1 sV1 bs1 K1 hB1 d1 sz1 OUT1 el1 ow1 hxw1 hW1
  have g8 : W2.cell? ⟨x, 8, none⟩ = some (.int .i64 m.kind) := HC.out _ K2.out.1 8 _ rfl
  have g9 : W2.cell? ⟨x, 9, none⟩ = some (.int .i64 m.frm) := HC.out _ K2.out.1 9 _ rfl
  have g10 : W2.cell? ⟨x, 10, none⟩ = some (.slice n0 n1 n2) := HC.out _ K2.out.1 10 _ rfl
  have g11 : W2.cell? ⟨x, 11, none⟩ = some (.slice t0 t1 t2) := HC.out _ K2.out.1 11 _ rfl
  have g12 : W2.cell? ⟨x, 12, none⟩ = some (.bool m.self) := HC.out _ K2.out.1 12 _ rfl
  have g13 : W2.cell? ⟨x, 13, none⟩ = some (.slice a0 a1 a2) := HC.out _ K2.out.1 13 _ rfl
  have g14 : W2.cell? ⟨x, 14, none⟩ = some (.map mv) := HC.out _ K2.out.1 14 _ rfl
  have g15 : W2.cell? ⟨x, 15, none⟩ = some (.int .i64 m.at_) := HC.out _ K2.out.1 15 _ rfl
  have g16 : W2.cell? ⟨x, 16, none⟩ = some (.slice p0 p1 p2) := HC.out _ K2.out.1 16 _ rfl
  have g17 : W2.cell? ⟨x, 17, none⟩ = some (.slice q0 q1 q2) := HC.out _ K2.out.1 17 _ rfl
  have g18 : W2.cell? ⟨x, 18, none⟩ = some (.bool m.cnt) := HC.out _ K2.out.1 18 _ rfl
  have hxw2 : x < W2.heap.size := Nat.lt_of_lt_of_le hxw K2.out.1.size
  have k32 := copied_any (HM.out.1.below K2.out.1) HM.out.2 HE.out.2.2.1 HE.out.2.2.2.1 HE.out.2.2.2.2.1 HE.out.2.2.2.2.2.1 HE.out.2.2.2.2.2.2.1 HE.out.2.2.2.2.2.2.2.1
  go_wp2_with fail
  rename_i hKK
  refine k32.mono ?_
  rintro e V3 ⟨n3, n4, t3, t4, a3, a4, mv3, p3, p4, q3, q4, rfl, hbg, hnm, _, hb2⟩
  have hBV2 : V3.heap[w.heap.size]? = some (.cells #[.func (.func m.st) #[] #[], .func (.func m.en) #[] #[], .int .i64 m.text, .bool m.cd, .string m.last, .slice w3 w1 w4, .slice r3 r1 r4, .pointer tp, .int .i64 m.kind, .int .i64 m.frm, .slice n0 n1 n2, .slice t0 t1 t2, .bool m.self, .slice a0 a1 a2, .map mv, .int .i64 m.at_, .slice p0 p1 p2, .slice q0 q1 q2, .bool m.cnt, .slice none 0 0, .slice f0 f1 f2] 74 (0, 0)) := (hb2.block _ (by omega)).trans hB2
  have sV2 : w.heap.size + 1 ≤ V3.heap.size := Nat.le_trans sz2 hb2.size
  have u8 : V3.cell? ⟨w.heap.size, 8, none⟩ = some (.int .i64 m.kind) := by simp [World.cell?, hBV2]
  have z8 : V3.frozen? ⟨w.heap.size, 8, none⟩ = false := by simp [World.frozen?, hBV2]
  have u9 : V3.cell? ⟨w.heap.size, 9, none⟩ = some (.int .i64 m.frm) := by simp [World.cell?, hBV2]
  have z9 : V3.frozen? ⟨w.heap.size, 9, none⟩ = false := by simp [World.frozen?, hBV2]
  have u10 : V3.cell? ⟨w.heap.size, 10, none⟩ = some (.slice n0 n1 n2) := by simp [World.cell?, hBV2]
  have z10 : V3.frozen? ⟨w.heap.size, 10, none⟩ = false := by simp [World.frozen?, hBV2]
  have u11 : V3.cell? ⟨w.heap.size, 11, none⟩ = some (.slice t0 t1 t2) := by simp [World.cell?, hBV2]
  have z11 : V3.frozen? ⟨w.heap.size, 11, none⟩ = false := by simp [World.frozen?, hBV2]
  have u12 : V3.cell? ⟨w.heap.size, 12, none⟩ = some (.bool m.self) := by simp [World.cell?, hBV2]
  have z12 : V3.frozen? ⟨w.heap.size, 12, none⟩ = false := by simp [World.frozen?, hBV2]
  have u13 : V3.cell? ⟨w.heap.size, 13, none⟩ = some (.slice a0 a1 a2) := by simp [World.cell?, hBV2]
  have z13 : V3.frozen? ⟨w.heap.size, 13, none⟩ = false := by simp [World.frozen?, hBV2]
  have u14 : V3.cell? ⟨w.heap.size, 14, none⟩ = some (.map mv) := by simp [World.cell?, hBV2]
  have z14 : V3.frozen? ⟨w.heap.size, 14, none⟩ = false := by simp [World.frozen?, hBV2]
  have u15 : V3.cell? ⟨w.heap.size, 15, none⟩ = some (.int .i64 m.at_) := by simp [World.cell?, hBV2]
  have z15 : V3.frozen? ⟨w.heap.size, 15, none⟩ = false := by simp [World.frozen?, hBV2]
  have u16 : V3.cell? ⟨w.heap.size, 16, none⟩ = some (.slice p0 p1 p2) := by simp [World.cell?, hBV2]
  have z16 : V3.frozen? ⟨w.heap.size, 16, none⟩ = false := by simp [World.frozen?, hBV2]
  have u17 : V3.cell? ⟨w.heap.size, 17, none⟩ = some (.slice q0 q1 q2) := by simp [World.cell?, hBV2]
  have z17 : V3.frozen? ⟨w.heap.size, 17, none⟩ = false := by simp [World.frozen?, hBV2]
  have u18 : V3.cell? ⟨w.heap.size, 18, none⟩ = some (.bool m.cnt) := by simp [World.cell?, hBV2]
  have z18 : V3.frozen? ⟨w.heap.size, 18, none⟩ = false := by simp [World.frozen?, hBV2]
  have HBV : Hid (V3.heap[w.heap.size]? = some (.cells #[.func (.func m.st) #[] #[], .func (.func m.en) #[] #[], .int .i64 m.text, .bool m.cd, .string m.last, .slice w3 w1 w4, .slice r3 r1 r4, .pointer tp, .int .i64 m.kind, .int .i64 m.frm, .slice n0 n1 n2, .slice t0 t1 t2, .bool m.self, .slice a0 a1 a2, .map mv, .int .i64 m.at_, .slice p0 p1 p2, .slice q0 q1 q2, .bool m.cnt, .slice none 0 0, .slice f0 f1 f2] 74 (0, 0)) ∧ w.heap.size + 1 ≤ V3.heap.size) := ⟨hBV2, sV2⟩
  have HBG : Hid (Bag (fun k => k < W2.heap.size + 2) V3 [rwN (.slice n3 n1 n4) m.nm, rwB (.slice t3 t1 t4) m.tx, rwA (.slice a3 a1 a4) m.attrs, rwB (.slice p3 p1 p4) m.an, rwB (.slice q3 q1 q4) m.av] ∧ Names (fun k => k < W2.heap.size + 2) V3 m.attrs (.map mv3) ∧ Below W2.heap.size W2 V3 ∧ w.heap.size + 1 ≤ W2.heap.size) := ⟨hbg, hnm, hb2, sz2⟩
  have hxV : w.heap.size < V3.heap.size := by omega
  clear k32 hBV2 hB2 sV2 hbg hnm hb2 sz2 hW2 hxw2 g8 g9 g10 g11 g12 g13 g14 g15 g16 g17 g18
  dsimp only
  refine hKK _ _ ?_
  clear hKK
  refine wpList_plain rfl (fun K hK => ?_)
  unfold Oper.wp
  go_simp
  refine hK _ _ ?_
  clear hK K
  refine wpList_store_mid rfl 72 _ _ rfl w.heap.size 8 #[.int .i64 m.kind, .int .i64 m.frm, .slice n3 n1 n4, .slice t3 t1 t4, .bool m.self, .slice a3 a1 a4, .map mv3, .int .i64 m.at_, .slice p3 p1 p4, .slice q3 q1 q4, .bool m.cnt] rfl rfl (fun j hj => ?_) (by kernel_rfl) (by simp [Value.oneCell']) ?_
  · have hj : j < 11 := hj
    have hc : (V3.cell? ⟨w.heap.size, 8 + j, none⟩).isSome = true := by
      match j, hj with
      | 0, _ => rw [show (8 + 0 : Nat) = 8 from rfl, u8]; rfl
      | 1, _ => rw [show (8 + 1 : Nat) = 9 from rfl, u9]; rfl
      | 2, _ => rw [show (8 + 2 : Nat) = 10 from rfl, u10]; rfl
      | 3, _ => rw [show (8 + 3 : Nat) = 11 from rfl, u11]; rfl
      | 4, _ => rw [show (8 + 4 : Nat) = 12 from rfl, u12]; rfl
      | 5, _ => rw [show (8 + 5 : Nat) = 13 from rfl, u13]; rfl
      | 6, _ => rw [show (8 + 6 : Nat) = 14 from rfl, u14]; rfl
      | 7, _ => rw [show (8 + 7 : Nat) = 15 from rfl, u15]; rfl
      | 8, _ => rw [show (8 + 8 : Nat) = 16 from rfl, u16]; rfl
      | 9, _ => rw [show (8 + 9 : Nat) = 17 from rfl, u17]; rfl
      | 10, _ => rw [show (8 + 10 : Nat) = 18 from rfl, u18]; rfl
    exact ⟨hc, by simp [World.frozen?, HBV.out.1]⟩
  have hsc : V3.setCells w.heap.size 8 (#[.int .i64 m.kind, .int .i64 m.frm, .slice n3 n1 n4, .slice t3 t1 t4, .bool m.self, .slice a3 a1 a4, .map mv3, .int .i64 m.at_, .slice p3 p1 p4, .slice q3 q1 q4, .bool m.cnt] : Array Value).toList = setAll V3 w.heap.size [(8, .int .i64 m.kind), (9, .int .i64 m.frm), (10, .slice n3 n1 n4), (11, .slice t3 t1 t4), (12, .bool m.self), (13, .slice a3 a1 a4), (14, .map mv3), (15, .int .i64 m.at_), (16, .slice p3 p1 p4), (17, .slice q3 q1 q4), (18, .bool m.cnt)] := rfl
  rw [hsc]
  have hB3 : (setAll V3 w.heap.size [(8, .int .i64 m.kind), (9, .int .i64 m.frm), (10, .slice n3 n1 n4), (11, .slice t3 t1 t4), (12, .bool m.self), (13, .slice a3 a1 a4), (14, .map mv3), (15, .int .i64 m.at_), (16, .slice p3 p1 p4), (17, .slice q3 q1 q4), (18, .bool m.cnt)]).heap[w.heap.size]? = some (.cells #[.func (.func m.st) #[] #[], .func (.func m.en) #[] #[], .int .i64 m.text, .bool m.cd, .string m.last, .slice w3 w1 w4, .slice r3 r1 r4, .pointer tp, .int .i64 m.kind, .int .i64 m.frm, .slice n3 n1 n4, .slice t3 t1 t4, .bool m.self, .slice a3 a1 a4, .map mv3, .int .i64 m.at_, .slice p3 p1 p4, .slice q3 q1 q4, .bool m.cnt, .slice none 0 0, .slice f0 f1 f2] 74 (0, 0)) := by
    rw [setAll_blk _ _ _ _ _ _ HBV.out.1]
    simp
  have sz3 : w.heap.size + 1 ≤ (setAll V3 w.heap.size [(8, .int .i64 m.kind), (9, .int .i64 m.frm), (10, .slice n3 n1 n4), (11, .slice t3 t1 t4), (12, .bool m.self), (13, .slice a3 a1 a4), (14, .map mv3), (15, .int .i64 m.at_), (16, .slice p3 p1 p4), (17, .slice q3 q1 q4), (18, .bool m.cnt)]).heap.size := by rw [setAll_size]; exact HBV.out.2
  have K3 : Hid (Below w.heap.size w (setAll V3 w.heap.size [(8, .int .i64 m.kind), (9, .int .i64 m.frm), (10, .slice n3 n1 n4), (11, .slice t3 t1 t4), (12, .bool m.self), (13, .slice a3 a1 a4), (14, .map mv3), (15, .int .i64 m.at_), (16, .slice p3 p1 p4), (17, .slice q3 q1 q4), (18, .bool m.cnt)]) ∧ Bag (fun k => k < w.heap.size + 1) (setAll V3 w.heap.size [(8, .int .i64 m.kind), (9, .int .i64 m.frm), (10, .slice n3 n1 n4), (11, .slice t3 t1 t4), (12, .bool m.self), (13, .slice a3 a1 a4), (14, .map mv3), (15, .int .i64 m.at_), (16, .slice p3 p1 p4), (17, .slice q3 q1 q4), (18, .bool m.cnt)]) [rwC (.slice w3 w1 w4) m.wait, rwC (.slice r3 r1 r4) m.ref, rwN (.slice n3 n1 n4) m.nm, rwB (.slice t3 t1 t4) m.tx, rwA (.slice a3 a1 a4) m.attrs, rwB (.slice p3 p1 p4) m.an, rwB (.slice q3 q1 q4) m.av, rwT (.slice none 0 0) []] ∧ Names (fun k => k < w.heap.size + 1) (setAll V3 w.heap.size [(8, .int .i64 m.kind), (9, .int .i64 m.frm), (10, .slice n3 n1 n4), (11, .slice t3 t1 t4), (12, .bool m.self), (13, .slice a3 a1 a4), (14, .map mv3), (15, .int .i64 m.at_), (16, .slice p3 p1 p4), (17, .slice q3 q1 q4), (18, .bool m.cnt)]) m.attrs (.map mv3)) := by
    have q : Below w.heap.size V3 (setAll V3 w.heap.size [(8, .int .i64 m.kind), (9, .int .i64 m.frm), (10, .slice n3 n1 n4), (11, .slice t3 t1 t4), (12, .bool m.self), (13, .slice a3 a1 a4), (14, .map mv3), (15, .int .i64 m.at_), (16, .slice p3 p1 p4), (17, .slice q3 q1 q4), (18, .bool m.cnt)]) := ⟨(setAll_rest _ _ _).1, (setAll_rest _ _ _).2.1, (setAll_rest _ _ _).2.2, by rw [setAll_size]; exact Nat.le_refl _, fun k hk => setAll_ne _ _ _ k (by omega)⟩
    have hb3 := HBG.out.2.2.1
    have hs3 := HBG.out.2.2.2
    have q2 : Below w.heap.size w V3 := K2.out.1.trans (hb3.mono K2.out.1.size)
    have g7 := K2.out.2.append hb3 HBG.out.1 (fun i hi => by show i < _; omega) (fun i hi => by have hi : i < w.heap.size + 1 := hi; omega)
    have g7s : Bag (fun k => k < w.heap.size + 1) (setAll V3 w.heap.size [(8, .int .i64 m.kind), (9, .int .i64 m.frm), (10, .slice n3 n1 n4), (11, .slice t3 t1 t4), (12, .bool m.self), (13, .slice a3 a1 a4), (14, .map mv3), (15, .int .i64 m.at_), (16, .slice p3 p1 p4), (17, .slice q3 q1 q4), (18, .bool m.cnt)]) [rwC (.slice w3 w1 w4) m.wait, rwC (.slice r3 r1 r4) m.ref, rwN (.slice n3 n1 n4) m.nm, rwB (.slice t3 t1 t4) m.tx, rwA (.slice a3 a1 a4) m.attrs, rwB (.slice p3 p1 p4) m.an, rwB (.slice q3 q1 q4) m.av] := g7.some fun g hg => setAll_ne _ _ _ g fun e => hg (by show g < _; omega)
    have g8 := g7s.snoc (fun k hk => by have hk : k < w.heap.size + 1 := hk; omega) (Below.refl _ _) (r := rwT (.slice none 0 0) []) (own_none _ _ _ _) (fun g hg => by simp [Value.ownBlock] at hg)
    refine ⟨q2.trans q, g8, HBG.out.2.1.mv (fun b _ h1 h2 => h1 (by have h2 : b < w.heap.size + 1 := h2; show b < _; omega)) fun b _ hb => setAll_ne _ _ _ b fun e => hb (by show b < _; omega)⟩
  clear HBV HBG hsc u8 z8 u9 z9 u10 z10 u11 z11 u12 z12 u13 z13 u14 z14 u15 z15 u16 z16 u17 z17 u18 z18 hxV
  generalize setAll V3 w.heap.size [(8, .int .i64 m.kind), (9, .int .i64 m.frm), (10, .slice n3 n1 n4), (11, .slice t3 t1 t4), (12, .bool m.self), (13, .slice a3 a1 a4), (14, .map mv3), (15, .int .i64 m.at_), (16, .slice p3 p1 p4), (17, .slice q3 q1 q4), (18, .bool m.cnt)] = W3 at *
  have d3 : W3.cell? ⟨x, 20, none⟩ = some (.slice f0 f1 f2) := HC.out _ K3.out.1 20 _ rfl
  have hxw3 : x < W3.heap.size := Nat.lt_of_lt_of_le hxw K3.out.1.size
  go_wp2_with fail
  have ow3 : Rw.own W3 (rwF (.slice f0 f1 f2) m.fs) := by
    have q := own_mv (HM.out.1.bag.own 8 _ rfl) fun g hg => K3.out.1.block g (own_blk (HM.out.1.bag.own 8 _ rfl) hg).1
    simp only [HE.out] at q
    exact q
  have kk3 : Calls Tryz.prog 33 #[.slice f0 f1 f2] W3 (Cloned 58 2 m.fs.length _ W3) := cloneF_any ow3 (fl_one _) (by have := HM.out.2; unfold Mc.tot at this; show m.fs.length ≤ _; omega)
  refine kk3.mono ?_
  rintro e V4 ⟨f3, f4, rfl, ho3, hb3⟩
  have el3 : m.fs.length = f1 := by have := HLn.out; omega
  rw [el3] at ho3 ⊢
  have hBV3 : V4.heap[w.heap.size]? = some (.cells #[.func (.func m.st) #[] #[], .func (.func m.en) #[] #[], .int .i64 m.text, .bool m.cd, .string m.last, .slice w3 w1 w4, .slice r3 r1 r4, .pointer tp, .int .i64 m.kind, .int .i64 m.frm, .slice n3 n1 n4, .slice t3 t1 t4, .bool m.self, .slice a3 a1 a4, .map mv3, .int .i64 m.at_, .slice p3 p1 p4, .slice q3 q1 q4, .bool m.cnt, .slice none 0 0, .slice f0 f1 f2] 74 (0, 0)) := (hb3.block _ (by omega)).trans hB3
  have sV3 : w.heap.size + 1 ≤ V4.heap.size := Nat.le_trans sz3 hb3.size
  have c3 : V4.cell? ⟨w.heap.size, 20, none⟩ = some (.slice f0 f1 f2) := by simp [World.cell?, hBV3]
  have fz3 : V4.frozen? ⟨w.heap.size, 20, none⟩ = false := by simp [World.frozen?, hBV3]
  obtain ⟨W4, hW4⟩ : ∃ W4, V4.setCell ⟨w.heap.size, 20, none⟩ (.slice f3 f1 f4) = W4 := ⟨_, rfl⟩
  have hB4 : W4.heap[w.heap.size]? = some (.cells #[.func (.func m.st) #[] #[], .func (.func m.en) #[] #[], .int .i64 m.text, .bool m.cd, .string m.last, .slice w3 w1 w4, .slice r3 r1 r4, .pointer tp, .int .i64 m.kind, .int .i64 m.frm, .slice n3 n1 n4, .slice t3 t1 t4, .bool m.self, .slice a3 a1 a4, .map mv3, .int .i64 m.at_, .slice p3 p1 p4, .slice q3 q1 q4, .bool m.cnt, .slice none 0 0, .slice f3 f1 f4] 74 (0, 0)) := by rw [← hW4]; simp [World.setCell, Array.getElem?_modify, hBV3]
  have sz4 : w.heap.size + 1 ≤ W4.heap.size := by rw [← hW4]; simpa [World.setCell] using sV3
  have bs3 : Below w.heap.size V4 W4 := by rw [← hW4]; exact ⟨rfl, rfl, rfl, by simp [World.setCell], fun k hk => Below.heap_setCell _ _ _ _ (fun e => by simp only at e; omega)⟩
  have OUT3 : ∀ g, (rwF (.slice f3 f1 f4) m.fs : Rw).v.ownBlock = some g → W3.heap.size ≤ g := fun g hg => by
    rcases ho3.2 with ⟨e, _⟩ | ⟨g', cap, cur, e, hB, _⟩
    · rw [show (rwF (.slice f3 f1 f4) m.fs : Rw).v = .slice f3 f1 f4 from rfl, e] at hg; simp [Value.ownBlock] at hg
    · rw [show (rwF (.slice f3 f1 f4) m.fs : Rw).v = .slice f3 f1 f4 from rfl, e] at hg; simp [Value.ownBlock] at hg; omega
  have K4 : Hid (Below w.heap.size w W4 ∧ Bag (fun k => k < w.heap.size + 1) W4 [rwC (.slice w3 w1 w4) m.wait, rwC (.slice r3 r1 r4) m.ref, rwN (.slice n3 n1 n4) m.nm, rwB (.slice t3 t1 t4) m.tx, rwA (.slice a3 a1 a4) m.attrs, rwB (.slice p3 p1 p4) m.an, rwB (.slice q3 q1 q4) m.av, rwT (.slice none 0 0) [], rwF (.slice f3 f1 f4) m.fs] ∧ Names (fun k => k < w.heap.size + 1) W4 m.attrs (.map mv3) ∧ W4.heap[w.heap.size]? = some (.cells #[.func (.func m.st) #[] #[], .func (.func m.en) #[] #[], .int .i64 m.text, .bool m.cd, .string m.last, .slice w3 w1 w4, .slice r3 r1 r4, .pointer tp, .int .i64 m.kind, .int .i64 m.frm, .slice n3 n1 n4, .slice t3 t1 t4, .bool m.self, .slice a3 a1 a4, .map mv3, .int .i64 m.at_, .slice p3 p1 p4, .slice q3 q1 q4, .bool m.cnt, .slice none 0 0, .slice f3 f1 f4] 74 (0, 0))) := by
    refine ⟨(K3.out.1.trans (hb3.mono K3.out.1.size)).trans bs3, ?_, ?_, hB4⟩
    · rw [← hW4]
      exact (K3.out.2.1.snoc (fun k hk => by have hk : k < w.heap.size + 1 := hk; omega) hb3 (r := rwF (.slice f3 f1 f4) m.fs) (OwnQ.of (B := W3.heap.size) (by rw [← el3] at ho3; rw [← el3]; exact ho3)) OUT3).set (p := ⟨w.heap.size, 20, none⟩) (by show w.heap.size < _; omega) (.slice f3 f1 f4)
    · rw [← hW4]
      exact names_set (K3.out.2.2.mv (fun _ _ h => h) fun b e _ => hb3.block b (by have hq := K3.out.2.2; rw [e] at hq; exact hq.lt)) (p := ⟨w.heap.size, 20, none⟩) (by show w.heap.size < _; omega) (.slice f3 f1 f4)
  have HF : Hid (CopyAt m (.pointer tp) w (.returned (mp w.heap.size)) W4) := by
    have low := HM.out.1.low
    have bw := K4.out.1
    refine ⟨⟨.slice w3 w1 w4, .slice r3 r1 r4, .pointer tp, .slice n3 n1 n4, .slice t3 t1 t4, .slice a3 a1 a4, .map mv3, .slice p3 p1 p4, .slice q3 q1 q4, .slice none 0 0, .slice f3 f1 f4⟩, rfl, ⟨fun k hk => Nat.lt_of_lt_of_le hk bw.size, ⟨fun hx => Nat.lt_irrefl _ hx, fun _ h => h.elim⟩, (HM.out.1.hi.mono low).keep (Keep.old bw), K4.out.2.2.2, K4.out.2.1.more (fun i r hr g hg hU => Nat.lt_of_lt_of_le hU (Nat.le_succ _)), K4.out.2.2.1.mv (fun b _ h1 h2 => h1 (Nat.lt_of_lt_of_le h2 (Nat.le_succ _))) (fun _ _ _ => rfl), ?_, HM.out.1.told, fun t ht => (by cases ht)⟩, rfl, rfl, bw⟩
    have := (HM.out.1.trie.mono low).keep (Keep.old (S := fun k => k < w.heap.size) bw)
    rw [HTP.out] at this
    exact this
  clear kk3 ho3 hb3 hBV3 sV3 bs3 K3 hB3 d3 sz3 OUT3 el3 ow3 hxw3 K4 hB4 K2
  go_wp2_with fail
  go_ret
  exact HF.out
end Go.Proofs.YtjjfalbngcbfaaaGreatDoor
