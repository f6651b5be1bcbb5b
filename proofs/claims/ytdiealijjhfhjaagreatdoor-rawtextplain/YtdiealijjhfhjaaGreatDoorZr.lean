/- bogus: a comment that is none. -/
import Derived.Test.YtdiealijjhfhjaaGreatDoorZq
import Derived.StillTailTactics
namespace Go.Proofs.YtdiealijjhfhjaaGreatDoor
open Go.RowKit Go.Maps
theorem MachV.more {Z : Nat → Prop} {S : Nat → Prop} {x : Nat} {m : Mc} {v : Vs} {T : List TL} {w : World} (h : MachV Z S x m v T w) (P : Nat → Prop) (hl : ∀ k, P k → k < w.heap.size) (hx : ¬ P x) (hb : ∀ (i : Nat) (r : Rw), (m.rows v T)[i]? = some r → ∀ g, r.v.ownBlock = some g → ¬ P g) (hm : ∀ b, v.m = .map (some b) → ¬ P b) : MachV Z (fun k => S k ∨ P k) x m v T w :=
  ⟨fun k hk => hk.elim (h.low k) (hl k), ⟨fun hk => hk.elim h.hx hx, fun k hk => .inl (h.hz.2 k hk)⟩, h.hi.mono (fun _ h => .inl h), h.blk, h.bag.more (fun i r hr g hg hU => hU.elim id (fun hP => absurd hP (hb i r hr g hg))), h.names.mv (fun b e hS hU => hU.elim hS (hm b e)) (fun _ _ _ => rfl), h.trie.mono (fun _ h => .inl h), h.told, fun t ht => (h.toks t ht).mono (fun _ h => .inl h)⟩
abbrev Lets (S : Nat → Prop) (v : Vs) : Nat → Prop := fun k => S k ∨ v.w.ownBlock = some k
set_option maxHeartbeats 2000000 in
set_option maxRecDepth 20000 in
theorem beg_v {Z : Nat → Prop} {S : Nat → Prop} {x : Nat} {m : Mc} {v : Vs} {T : List TL} {w : World} (h : MachV Z S x m v T w) (kind : Int) (en : Nat) (hw : m.wait ≠ []) : Calls Tryz.prog 105 #[mp x, .int .i64 kind, fn en] w (Did Z (Lets S v) x (m.beg kind en) w) := by
  have hxw := h.lt
  obtain ⟨c, l, hcl⟩ : ∃ c l, m.wait = c :: l := by
    cases e : m.wait with
    | nil => exact absurd e hw
    | cons c l => exact ⟨c, l, rfl⟩
  obtain ⟨g, cap, eg, g1, g2, hg, _, d1, _⟩ := wait_cells h 0 c (by rw [hcl]; rfl)
  simp only [Nat.zero_mul, Nat.zero_add] at d1
  obtain ⟨n, hn⟩ : ∃ n, m.wait.length = n := ⟨_, rfl⟩
  have hn1 : 1 ≤ n := by rw [← hn, hcl]; simp
  have c5 := h.cells 5 v.w rfl
  rw [eg, hn] at c5
  rw [hn] at g1
  have hp : m.w0 = c.a := by unfold Mc.w0; rw [hcl]
  have HP : Hid (Post Z (Lets S v) x (m.beg kind en) w (setAll w x [(8, .int .i64 kind), (9, .int .i64 c.a), (10, .slice none 0 0), (11, .slice none 0 0), (12, .bool false), (13, .slice none 0 0), (14, .map none), (15, .int .i64 0), (16, .slice none 0 0), (17, .slice none 0 0), (18, .bool false), (5, .slice none 0 0), (1, fn en)])) := by
    obtain ⟨q1, q2⟩ := h.turn (m' := m.beg kind en) (v' := { v with w := .slice none 0 0, n := .slice none 0 0, t := .slice none 0 0, a := .slice none 0 0, m := .map none, an := .slice none 0 0, av := .slice none 0 0 }) (T' := T) [(8, .int .i64 kind), (9, .int .i64 c.a), (10, .slice none 0 0), (11, .slice none 0 0), (12, .bool false), (13, .slice none 0 0), (14, .map none), (15, .int .i64 0), (16, .slice none 0 0), (17, .slice none 0 0), (18, .bool false), (5, .slice none 0 0), (1, fn en)] rfl (by simp [Mc.cells, Mc.beg, Mc.noMade, hp]) (h.noMade.drop h.low 0 _ rfl 44 3) (Names.none _ _) rfl h.told h.toks
    have hsz : ∀ l, (setAll w x l).heap.size = w.heap.size := fun l => setAll_size x l w
    refine ⟨_, fun k hk => hk, ⟨_, _, q1.more (fun k => v.w.ownBlock = some k) (fun k hk => ?_) (fun hk => h.toW.apart 0 _ rfl x hk rfl) (fun i r hr g hg hP => ?_) (fun b e => by cases e)⟩, setAll_keep (fun hk => hk.elim h.hx (fun hk => h.toW.apart 0 _ rfl x hk rfl)) _ _⟩
    · rw [hsz]; exact (own_blk (h.bag.own 0 _ rfl) hk).1
    · match i, hr with
      | 0, hr => simp [Mc.rows, Mc.beg, Mc.noMade] at hr; subst hr; simp [Value.ownBlock] at hg
      | 1, hr => exact h.bag.apart 0 1 _ r (by decide) rfl hr g hP hg
      | 2, hr => simp [Mc.rows, Mc.beg, Mc.noMade] at hr; subst hr; simp [Value.ownBlock] at hg
      | 3, hr => simp [Mc.rows, Mc.beg, Mc.noMade] at hr; subst hr; simp [Value.ownBlock] at hg
      | 4, hr => simp [Mc.rows, Mc.beg, Mc.noMade] at hr; subst hr; simp [Value.ownBlock] at hg
      | 5, hr => simp [Mc.rows, Mc.beg, Mc.noMade] at hr; subst hr; simp [Value.ownBlock] at hg
      | 6, hr => simp [Mc.rows, Mc.beg, Mc.noMade] at hr; subst hr; simp [Value.ownBlock] at hg
      | 7, hr => exact h.bag.apart 0 7 _ r (by decide) rfl hr g hP hg
      | 8, hr => exact h.bag.apart 0 8 _ r (by decide) rfl hr g hP hg
      | (i + 9), hr => simp [Mc.rows] at hr
  have k1 := h.cells 1 _ rfl
  have f1 := h.free 1
  have k8 := h.cells 8 _ rfl
  have f8 := h.free 8
  have k9 := h.cells 9 _ rfl
  have f9 := h.free 9
  have k10 := h.cells 10 _ rfl
  have f10 := h.free 10
  have k11 := h.cells 11 _ rfl
  have f11 := h.free 11
  have k12 := h.cells 12 _ rfl
  have f12 := h.free 12
  have k13 := h.cells 13 _ rfl
  have f13 := h.free 13
  have k14 := h.cells 14 _ rfl
  have f14 := h.free 14
  have k15 := h.cells 15 _ rfl
  have f15 := h.free 15
  have k16 := h.cells 16 _ rfl
  have f16 := h.free 16
  have k17 := h.cells 17 _ rfl
  have f17 := h.free 17
  have k18 := h.cells 18 _ rfl
  have f18 := h.free 18
  have f5 := h.free 5
  have hgx : g ≠ x := h.toW.apart 0 _ rfl g (by simp [eg, Value.ownBlock])
  obtain ⟨ca, hca⟩ : ∃ ca, c.a = ca := ⟨_, rfl⟩
  rw [hca] at d1 HP
  clear h hp hcl hw eg hn hca
  unfold fn
  go_enter Tryz.func105, Tryz.ntmps105
  go_wp2_with fail
  refine bodyPost_end (results_none rfl _ _ _) rfl ?_
  exact ⟨rfl, HP.out⟩
theorem bogus_fold (m : Mc) (l : List Ch) (h : ∀ c ∈ l, c.r ≠ 62) : l.foldl Mc.inBogus m = { m with tx := m.tx ++ encs l } := by
  induction l generalizing m with
  | nil => simp [encs]
  | cons c l ih =>
    rw [List.foldl_cons, ih _ (fun d hd => h d (List.mem_cons_of_mem _ hd))]
    have : m.inBogus c = m.addText c.r := by unfold Mc.inBogus; rw [if_neg (h c List.mem_cons_self)]
    rw [this]
    simp [Mc.addText, encs]
structure BogW (Z : Nat → Prop) (S : Nat → Prop) (x : Nat) (m : Mc) (ao : Option Addr) (l : List Ch) (w W : World) : Prop where
  ex : ∃ U, (∀ k, S k → U k) ∧ Mach Z U x m W ∧ Stays U W (ChRow ao l)
  keep : Keep S w W
theorem BogW.post {Z : Nat → Prop} {S : Nat → Prop} {x : Nat} {m : Mc} {ao : Option Addr} {l : List Ch} {w W : World} (h : BogW Z S x m ao l w W) : Post Z S x m w W := by
  obtain ⟨U, h1, h2, _⟩ := h.ex
  exact ⟨U, h1, h2, h.keep⟩
theorem BogW.call {Z : Nat → Prop} {S : Nat → Prop} {x : Nat} {m m' : Mc} {ao : Option Addr} {l : List Ch} {w W : World} (h : BogW Z S x m ao l w W) {f : Nat} {args : Array Value} (H : ∀ U, Mach Z U x m W → Calls Tryz.prog f args W (Did Z U x m' W)) : Calls Tryz.prog f args W fun e W' => e = .returned (.tuple #[]) ∧ BogW Z S x m' ao l w W' := by
  obtain ⟨U, h1, h2, h3⟩ := h.ex
  refine (H U h2).mono ?_
  rintro e W' ⟨rfl, V, p1, p2, p3⟩
  exact ⟨rfl, ⟨V, fun k hk => p1 k (h1 k hk), p2, (h3.keep p3).mono p1⟩, h.keep.trans (p3.sub h1)⟩
theorem BogW.below {Z : Nat → Prop} {S : Nat → Prop} {x : Nat} {m : Mc} {ao : Option Addr} {l : List Ch} {w W W' : World} (h : BogW Z S x m ao l w W) (b : Below W.heap.size W W') : BogW Z S x m ao l w W' := by
  obtain ⟨U, h1, h2, h3⟩ := h.ex
  exact ⟨⟨U, h1, h2.below b, h3.keep (Keep.old b)⟩, h.keep.trans (Keep.old b)⟩
theorem BogW.turn {Z : Nat → Prop} {S : Nat → Prop} {x : Nat} {m m' : Mc} {ao : Option Addr} {lc : List Ch} {w W : World} (h : BogW Z S x m ao lc w W) (l : List (Nat × Value)) (hc : ∀ v, l.foldl (fun a p => a.set! p.1 p.2) (m.cells v) = m'.cells v) (hr : ∀ v T, m'.rows v T = m.rows v T) (ha : m'.attrs = m.attrs) (ho : m'.out = m.out) : BogW Z S x m' ao lc w (setAll W x l) := by
  obtain ⟨U, h1, ⟨v, T, h2⟩, h3⟩ := h.ex
  obtain ⟨q1, q2⟩ := h2.turn (m' := m') l rfl (hc v) (by rw [hr]; exact h2.bag) (by rw [ha]; exact h2.names) rfl (by rw [ho]; exact h2.told) h2.toks
  exact ⟨⟨U, h1, ⟨_, _, q1⟩, h3.keep q2⟩, h.keep.trans (q2.sub h1)⟩
theorem tot_bogf (m : Mc) (l : List Ch) : (l.foldl Mc.inBogus m).tot ≤ m.tot + 4 * l.length := by
  induction l generalizing m with
  | nil => simp
  | cons c l ih =>
    rw [List.foldl_cons, List.length_cons]
    have h1 := ih (m.inBogus c)
    have h2 : (m.inBogus c).tot ≤ m.tot + 4 := by
      unfold Mc.inBogus
      split
      · have := tot_tellMade m c.z; omega
      · exact tot_addText m c.r
    omega
set_option maxHeartbeats 2000000 in
set_option maxRecDepth 20000 in
theorem bogus_v {Z : Nat → Prop} {S : Nat → Prop} {x : Nat} {m : Mc} {v : Vs} {T : List TL} {w : World} (h : MachV Z S x m v T w) (hw : m.wait ≠ []) {ao : Option Addr} {l : List Ch} (n cap : Nat) (hl : Stays (Lets S v) w (ChRow ao l)) (hln : l.length = n) (hnn : n ≤ 10000000) (hgt : ∀ c ∈ l.dropLast, c.r ≠ 62) (hn : m.tot ≤ 440000000) : Calls Tryz.prog 146 #[mp x, .slice ao n cap] w (Did Z S x (m.bogus l) w) := by
  have hxw := h.lt
  have HL : Hid (Stays (Lets S v) w (ChRow ao l) ∧ l.length = n ∧ (∀ c ∈ l.dropLast, c.r ≠ 62)) := ⟨hl, hln, hgt⟩
  have HB := beg_v h 4 179 hw
  have HT : Hid ((m.beg 4 179).tot ≤ m.tot) := tot_beg m 4 179
  clear h hl hln hgt
  go_enter Tryz.func146, Tryz.ntmps146
  go_wp2_with fail
  refine HB.mono ?_
  rintro e w1 ⟨rfl, U, u1, u2, u3⟩
  have hx1 := u2.low
  have s0 : ∃ u, w1.cell? ⟨x, 0, none⟩ = some u ∧ w1.frozen? ⟨x, 0, none⟩ = false := by
    obtain ⟨v2, T2, u4⟩ := u2
    exact ⟨_, u4.cells 0 _ rfl, u4.free 0⟩
  obtain ⟨u0, s0, s1⟩ := s0
  have b1 : BogW Z S x (m.beg 4 179) ao l w w1 := ⟨⟨U, fun k hk => u1 k (.inl hk), u2, (HL.out.1.keep u3).mono u1⟩, u3.sub (fun k hk => .inl hk)⟩
  have B2 : Hid (BogW Z S x { m.beg 4 179 with st := 180 } ao l w (w1.setCell ⟨x, 0, none⟩ (.func (.func 180) #[] #[]))) := b1.turn [(0, fn 180)] (fun v => by simp [Mc.cells]) (fun _ _ => rfl) rfl rfl
  clear HB u1 u2 u3 b1
  go_wp2_with fail
  go_loopg [13] n (fun g2 iv wr => ∃ (i : Nat), iv = .int .i64 i ∧ i + g2 = n ∧ BogW Z S x ((l.take i).foldl Mc.inBogus { m.beg 4 179 with st := 180 }) ao l w wr)
  case atStart => exact ⟨0, rfl, by omega, B2.out⟩
  case round =>
    obtain ⟨i, rfl, hig, hI⟩ := hrel
    have HI : Hid (BogW Z S x ((l.take i).foldl Mc.inBogus { m.beg 4 179 with st := 180 }) ao l w wr) := hI
    obtain ⟨_, hxr, _, _⟩ := hI.post.mach
    clear B2 s0 s1 hx1
    cases gk with
    | zero =>
      obtain rfl : i = n := by omega
      have hg0 : decide ((i : Int) < (i : Int)) = false := decide_eq_false (by omega)
      clear hI
      go_wp2_with fail
      refine bodyPost_end (results_none rfl _ _ _) rfl ?_
      refine ⟨rfl, ?_⟩
      have h1 := HI.out.post
      rw [List.take_of_length_le (by rw [HL.out.2.1]; exact Nat.le_refl _)] at h1
      exact h1
    | succ k =>
      have hin : i < n := by omega
      obtain ⟨c, hc⟩ : ∃ c, l[i]? = some c := ⟨_, List.getElem?_eq_getElem (by rw [HL.out.2.1]; exact hin)⟩
      have hne : ∀ d ∈ l.take i, d.r ≠ 62 := fun d hd => HL.out.2.2 d (by
        rw [List.dropLast_eq_take]
        obtain ⟨j, hj, e⟩ := List.getElem_of_mem hd
        rw [List.length_take] at hj
        rw [List.getElem_take] at e
        rw [← e]
        refine List.mem_of_getElem? (i := j) ?_
        rw [List.getElem?_take_of_lt (by rw [HL.out.2.1]; omega)]
        exact List.getElem?_eq_getElem _)
      have HF : Hid ((l.take (i + 1)).foldl Mc.inBogus { m.beg 4 179 with st := 180 } = ((l.take i).foldl Mc.inBogus { m.beg 4 179 with st := 180 }).inBogus c) := by
        obtain ⟨h1, rfl⟩ := List.getElem?_eq_some_iff.1 hc
        show _ = _
        rw [← List.take_append_getElem h1, List.foldl_append]
        rfl
      obtain ⟨U2, v1, v2, v3⟩ := hI.ex
      obtain ⟨bk, off, rfl, g1, g2, g3, g4⟩ := v3.now i c hc
      have hst : wr.cell? ⟨x, 0, none⟩ = some (.func (.func 180) #[] #[]) := by
        obtain ⟨v9, T9, u9⟩ := v2
        have := u9.cells 0 _ rfl
        rw [bogus_fold _ _ hne] at this
        exact this
      obtain ⟨r, p, q⟩ := c
      simp only at g2 g3 g4
      obtain ⟨Wb, hWb⟩ : ∃ Wb, wr.alloc (.cells #[.int .i64 r, .int .i64 p, .int .i64 q] 44) = Wb := ⟨_, rfl⟩
      have b0 : Below wr.heap.size wr Wb := by rw [← hWb]; exact (Below.refl _ _).alloc (Nat.le_refl _) _
      have hnew : Wb.heap[wr.heap.size]? = some (.cells #[.int .i64 r, .int .i64 p, .int .i64 q] 44 (0, 0)) := by rw [← hWb]; exact heap_alloc_new _ _
      have d0 : Wb.cell? ⟨wr.heap.size, 0, none⟩ = some (.int .i64 r) := by simp [World.cell?, hnew]
      have d1 : Wb.cell? ⟨wr.heap.size, 1, none⟩ = some (.int .i64 p) := by simp [World.cell?, hnew]
      have d2 : Wb.cell? ⟨wr.heap.size, 2, none⟩ = some (.int .i64 q) := by simp [World.cell?, hnew]
      have hst2 : Wb.cell? ⟨x, 0, none⟩ = some (.func (.func 180) #[] #[]) := (b0.cell (p := ⟨x, 0, none⟩) hxr).trans hst
      have hxb : x < Wb.heap.size := Nat.lt_of_lt_of_le hxr b0.size
      have hbb : wr.heap.size < Wb.heap.size := (Array.getElem?_eq_some_iff.1 hnew).1
      have HK : Hid (BogW Z S x ((l.take i).foldl Mc.inBogus { m.beg 4 179 with st := 180 }) (some ⟨bk, off, none⟩) l w Wb) := HI.out.below b0
      have htot := tot_bogf { m.beg 4 179 with st := 180 } (l.take i)
      rw [List.length_take] at htot
      have HTT : Hid (((l.take i).foldl Mc.inBogus { m.beg 4 179 with st := 180 }).tot ≤ 500000000) := by
        have h3 : ({ m.beg 4 179 with st := 180 } : Mc).tot ≤ m.tot := HT.out
        show _ ≤ _
        omega
      clear hI v1 v2 v3 b0 hnew hst htot hne hc
      go_wp2_with fail
      go_still_tail 6, (show Tryz.prog.follows .mixedOrders = true by kernel_rfl)
      go_wp2_with fail
      refine ((HK.out.below ((Below.refl _ _).drew)).call (fun U h => inBogus_any h ⟨r, p, q⟩ HTT.out)).mono ?_
      rintro e w3 ⟨rfl, k3⟩
      have K3 : Hid (BogW Z S x ((l.take (i + 1)).foldl Mc.inBogus { m.beg 4 179 with st := 180 }) (some ⟨bk, off, none⟩) l w w3) := by
        show BogW Z _ _ _ _ _ _ _
        rw [HF.out]
        exact k3
      clear k3 hWb d0 d1 d2 hst2 g2 g3 g4 hbb hxb
      go_wp2_with fail
      go_roundg k
      case measure => omega
      case rel => exact ⟨i + 1, by go_num, by omega, K3.out⟩
end Go.Proofs.YtdiealijjhfhjaaGreatDoor
namespace Go.Proofs.YtdiealijjhfhjaaGreatDoor
open Go.RowKit Go.Maps
theorem en81 : Enters 108 := enters_of Tryz.func108 (by kernel_rfl) rfl
theorem bogus_one {Z : Nat → Prop} {U : Nat → Prop} {x : Nat} {m : Mc} {W V : World} (h : Mach Z U x m W) (c : Ch) (hV : W.alloc (.cells #[.int .i64 c.r, .int .i64 c.a, .int .i64 c.z] 44) = V) (hw : m.wait ≠ []) (hn : m.tot ≤ 440000000) : Calls Tryz.prog 146 #[mp x, .slice (some ⟨W.heap.size, 0, none⟩) 1 1] V (Did Z U x (m.bogus [c]) W) := by
  have b0 : Below W.heap.size W V := by rw [← hV]; exact (Below.refl _ _).alloc (Nat.le_refl _) _
  have hnew : V.heap[W.heap.size]? = some (.cells #[.int .i64 c.r, .int .i64 c.a, .int .i64 c.z] 44 (0, 0)) := by rw [← hV]; exact heap_alloc_new _ _
  have hlt : W.heap.size < V.heap.size := (Array.getElem?_eq_some_iff.1 hnew).1
  obtain ⟨v, T, h⟩ := h
  have h1 := h.one b0 hlt
  have hrow : Stays (Lets (fun k => U k ∨ k = W.heap.size) v) V (ChRow (some ⟨W.heap.size, 0, none⟩) [c]) := fun w' k i d hd => by
    have hi : i = 0 := by
      have := (List.getElem?_eq_some_iff.1 hd).1
      simpa using this
    subst hi
    simp at hd
    subst hd
    have hk := (k.block W.heap.size (.inl (.inr rfl)) hlt).trans hnew
    refine ⟨_, _, rfl, (Array.getElem?_eq_some_iff.1 hk).1, ?_, ?_, ?_⟩
    all_goals simp [World.cell?, hk]
  refine (bogus_v h1 hw 1 1 hrow rfl (by decide) (by simp) hn).mono ?_
  rintro e w' ⟨rfl, p⟩
  exact ⟨rfl, Post.go (fun k hk => .inl hk) (Keep.old b0) p⟩
set_option maxHeartbeats 2000000 in
set_option maxRecDepth 20000 in
theorem bogusAgain_1 {Z : Nat → Prop} {S : Nat → Prop} {x : Nat} {m : Mc} {w : World} (h : Mach Z S x m w) (r p q : Int) (hw : m.wait ≠ []) (hn : m.tot ≤ 430000000) : Calls Tryz.prog 109 #[mp x, cv ⟨r, p, q⟩] w (Did Z S x (m.bogusAgain ⟨r, p, q⟩) w) := by
  obtain ⟨W0, hW0, k0⟩ := Walk.start h ⟨r, p, q⟩
  have hxw := h.low
  obtain ⟨hb0, d0, d1, d2⟩ := k0.box
  have hx0 := k0.lt
  have K0 : Hid (Walk Z S x m w.heap.size ⟨r, p, q⟩ w W0) := k0
  clear h k0
  go_enter Tryz.func109, Tryz.ntmps109
  go_wp2_with fail
  refine (K0.out.call (fun U h => fault_any h 14 p (by omega))).mono ?_
  rintro e W1 ⟨rfl, k1⟩
  have K1 : Hid (Walk Z S x (m.fault 14 p) w.heap.size ⟨r, p, q⟩ w W1) := k1
  clear hb0 d0 d1 d2 hx0
  obtain ⟨hb1, d0, d1, d2⟩ := k1.box
  have hx1 := k1.lt
  obtain ⟨V, hV⟩ : ∃ V, W1.alloc (.cells #[.int .i64 r, .int .i64 p, .int .i64 q] 44) = V := ⟨_, rfl⟩
  clear k1
  go_wp2_with fail
  obtain ⟨U, u1, u2, _⟩ := K1.out.ex
  refine (bogus_one u2 ⟨r, p, q⟩ hV hw (by have := tot_fault m 14 p; omega)).mono ?_
  rintro e W2 ⟨rfl, p2⟩
  have P2 : Hid (Post Z S x (m.bogusAgain ⟨r, p, q⟩) w W2) := Post.go u1 K1.out.keep p2
  clear p2 u1 u2
  go_wp2_with fail
  refine bodyPost_end (results_none rfl _ _ _) rfl ?_
  exact ⟨rfl, P2.out⟩
set_option maxHeartbeats 2000000 in
set_option maxRecDepth 20000 in
theorem tagOpen_1 {Z : Nat → Prop} {S : Nat → Prop} {x : Nat} {m : Mc} {w : World} (h : Mach Z S x m w) (p q : Int)   (_hn : m.tot ≤ 420000000) : Calls Tryz.prog 71 #[mp x, cv ⟨33, p, q⟩] w (Did Z S x (m.tagOpen ⟨33, p, q⟩) w) := by
  have HE : Hid ((m.tagOpen ⟨33, p, q⟩) = ({ m with st := 100, en := 101 } : Mc)) := by
    show (m.tagOpen ⟨33, p, q⟩) = ({ m with st := 100, en := 101 } : Mc)
    simp [Mc.tagOpen]
  obtain ⟨W0, hW0, k0⟩ := Walk.start h ⟨33, p, q⟩
  have hxw := h.low
  obtain ⟨hb0, d0, d1, d2⟩ := k0.box
  have hx0 := k0.lt
  have hne : w.heap.size ≠ x := by omega
  obtain ⟨s0, s1, s2, s3⟩ := k0.st0
  have K0 : Hid (Walk Z S x m w.heap.size ⟨33, p, q⟩ w W0) := k0
  clear h k0
  go_enter Tryz.func71, Tryz.ntmps71
  have K1 : Hid (Walk Z S x ({ m with st := 100 } : Mc) w.heap.size ⟨33, p, q⟩ w (W0.setCell ⟨x, 0, none⟩ (.func (.func 100) #[] #[]))) := K0.out.st 100
  have hb1 := hb0
  have hx1 := hx0
  have K2 : Hid (Walk Z S x ({ m with st := 100, en := 101 } : Mc) w.heap.size ⟨33, p, q⟩ w ((W0.setCell ⟨x, 0, none⟩ (.func (.func 100) #[] #[])).setCell ⟨x, 1, none⟩ (.func (.func 101) #[] #[]))) := K1.out.en 101
  have hb2 := hb1
  have hx2 := hx1
  go_wp2_with fail
  first
    | refine bodyPost_end (results_none rfl _ _ _) rfl ?_
    | refine bodyPost_ret (results_none rfl _ _ _) rfl ?_
  refine ⟨rfl, ?_⟩
  rw [HE.out]
  exact K2.out.post
set_option maxHeartbeats 2000000 in
set_option maxRecDepth 20000 in
theorem tagOpen_2 {Z : Nat → Prop} {S : Nat → Prop} {x : Nat} {m : Mc} {w : World} (h : Mach Z S x m w) (p q : Int)   (hn : m.tot ≤ 420000000) : Calls Tryz.prog 71 #[mp x, cv ⟨47, p, q⟩] w (Did Z S x (m.tagOpen ⟨47, p, q⟩) w) := by
  have HE : Hid ((m.tagOpen ⟨47, p, q⟩) = ({ (m.hold ⟨47, p, q⟩) with st := 102, en := 103 } : Mc)) := by
    show (m.tagOpen ⟨47, p, q⟩) = ({ (m.hold ⟨47, p, q⟩) with st := 102, en := 103 } : Mc)
    simp [Mc.tagOpen]
  obtain ⟨W0, hW0, k0⟩ := Walk.start h ⟨47, p, q⟩
  have hxw := h.low
  obtain ⟨hb0, d0, d1, d2⟩ := k0.box
  have hx0 := k0.lt
  have hne : w.heap.size ≠ x := by omega
  obtain ⟨s0, s1, s2, s3⟩ := k0.st0
  have K0 : Hid (Walk Z S x m w.heap.size ⟨47, p, q⟩ w W0) := k0
  clear h k0
  go_enter Tryz.func71, Tryz.ntmps71
  go_wp2_with fail
  refine (K0.out.call (fun U h => hold_any h ⟨47, p, q⟩ (by show m.tot ≤ _; omega))).mono ?_
  rintro e W1 ⟨rfl, k1⟩
  have K1 : Hid (Walk Z S x (m.hold ⟨47, p, q⟩) w.heap.size ⟨47, p, q⟩ w W1) := k1
  clear hb0 d0 d1 d2 hx0 s0 s1 s2 s3
  obtain ⟨hb1, d0, d1, d2⟩ := k1.box
  have hx1 := k1.lt
  obtain ⟨s0, s1, s2, s3⟩ := k1.st0
  clear k1
  have K2 : Hid (Walk Z S x ({ (m.hold ⟨47, p, q⟩) with st := 102 } : Mc) w.heap.size ⟨47, p, q⟩ w (W1.setCell ⟨x, 0, none⟩ (.func (.func 102) #[] #[]))) := K1.out.st 102
  have hb2 := hb1
  have hx2 := hx1
  have K3 : Hid (Walk Z S x ({ (m.hold ⟨47, p, q⟩) with st := 102, en := 103 } : Mc) w.heap.size ⟨47, p, q⟩ w ((W1.setCell ⟨x, 0, none⟩ (.func (.func 102) #[] #[])).setCell ⟨x, 1, none⟩ (.func (.func 103) #[] #[]))) := K2.out.en 103
  have hb3 := hb2
  have hx3 := hx2
  go_wp2_with fail
  first
    | refine bodyPost_end (results_none rfl _ _ _) rfl ?_
    | refine bodyPost_ret (results_none rfl _ _ _) rfl ?_
  refine ⟨rfl, ?_⟩
  rw [HE.out]
  exact K3.out.post
set_option maxHeartbeats 2000000 in
set_option maxRecDepth 20000 in
theorem tagOpen_3 {Z : Nat → Prop} {S : Nat → Prop} {x : Nat} {m : Mc} {w : World} (h : Mach Z S x m w) (r p q : Int) (hlt : ltr r = true) (h33 : (r == 33) = false) (h47 : (r == 47) = false) (hw : m.wait ≠ []) (hn : m.tot ≤ 420000000) : Calls Tryz.prog 71 #[mp x, cv ⟨r, p, q⟩] w (Did Z S x (m.tagOpen ⟨r, p, q⟩) w) := by
  have HE : Hid ((m.tagOpen ⟨r, p, q⟩) = (({ (m.beg 2 106) with st := 108 } : Mc).tagName ⟨r, p, q⟩)) := by
    show (m.tagOpen ⟨r, p, q⟩) = (({ (m.beg 2 106) with st := 108 } : Mc).tagName ⟨r, p, q⟩)
    simp at h33 h47; simp [Mc.tagOpen, hlt, h33, h47]
  obtain ⟨W0, hW0, k0⟩ := Walk.start h ⟨r, p, q⟩
  have hxw := h.low
  obtain ⟨hb0, d0, d1, d2⟩ := k0.box
  have hx0 := k0.lt
  have hne : w.heap.size ≠ x := by omega
  obtain ⟨s0, s1, s2, s3⟩ := k0.st0
  have K0 : Hid (Walk Z S x m w.heap.size ⟨r, p, q⟩ w W0) := k0
  clear h k0
  go_enter Tryz.func71, Tryz.ntmps71
  go_wp2_with (first | (go_at_call 104; refine (letter_as (r) true _ hlt).mono ?_; rintro e w' ⟨rfl, hw'⟩; obtain rfl := hw'.symm; clear hw'))
  refine (K0.out.call (fun U h => beg_any h 2 106 hw)).mono ?_
  rintro e W1 ⟨rfl, k1⟩
  have K1 : Hid (Walk Z S x (m.beg 2 106) w.heap.size ⟨r, p, q⟩ w W1) := k1
  clear hb0 d0 d1 d2 hx0 s0 s1 s2 s3
  obtain ⟨hb1, d0, d1, d2⟩ := k1.box
  have hx1 := k1.lt
  obtain ⟨s0, s1, s2, s3⟩ := k1.st0
  clear k1
  go_wp2_with fail
  refine (K1.out.call (fun U h => again_any 108 en81 h ⟨r, p, q⟩ (fun U W h => tagName_any h ⟨r, p, q⟩ (by show (m.beg 2 106).tot ≤ _; have t0 := tot_beg m 2 106; omega)))).mono ?_
  rintro e W2 ⟨rfl, k2⟩
  have K2 : Hid (Walk Z S x (({ (m.beg 2 106) with st := 108 } : Mc).tagName ⟨r, p, q⟩) w.heap.size ⟨r, p, q⟩ w W2) := k2
  clear hb1 d0 d1 d2 hx1 s0 s1 s2 s3
  obtain ⟨hb2, d0, d1, d2⟩ := k2.box
  have hx2 := k2.lt
  obtain ⟨s0, s1, s2, s3⟩ := k2.st0
  clear k2
  go_wp2_with fail
  first
    | refine bodyPost_end (results_none rfl _ _ _) rfl ?_
    | refine bodyPost_ret (results_none rfl _ _ _) rfl ?_
  refine ⟨rfl, ?_⟩
  rw [HE.out]
  exact K2.out.post
set_option maxHeartbeats 2000000 in
set_option maxRecDepth 20000 in
theorem tagOpen_4 {Z : Nat → Prop} {S : Nat → Prop} {x : Nat} {m : Mc} {w : World} (h : Mach Z S x m w) (p q : Int)  (hw : m.wait ≠ []) (hn : m.tot ≤ 420000000) : Calls Tryz.prog 71 #[mp x, cv ⟨63, p, q⟩] w (Did Z S x (m.tagOpen ⟨63, p, q⟩) w) := by
  have HE : Hid ((m.tagOpen ⟨63, p, q⟩) = (m.bogusAgain ⟨63, p, q⟩)) := by
    show (m.tagOpen ⟨63, p, q⟩) = (m.bogusAgain ⟨63, p, q⟩)
    simp [Mc.tagOpen, show ltr 63 = false from rfl]
  have hlt : ltr 63 = false := rfl
  obtain ⟨W0, hW0, k0⟩ := Walk.start h ⟨63, p, q⟩
  have hxw := h.low
  obtain ⟨hb0, d0, d1, d2⟩ := k0.box
  have hx0 := k0.lt
  have hne : w.heap.size ≠ x := by omega
  obtain ⟨s0, s1, s2, s3⟩ := k0.st0
  have K0 : Hid (Walk Z S x m w.heap.size ⟨63, p, q⟩ w W0) := k0
  clear h k0
  go_enter Tryz.func71, Tryz.ntmps71
  go_wp2_with (first | (go_at_call 104; refine (letter_as (63) false _ hlt).mono ?_; rintro e w' ⟨rfl, hw'⟩; obtain rfl := hw'.symm; clear hw'))
  refine (K0.out.call (fun U h => bogusAgain_1 h 63 p q hw (by show m.tot ≤ _; omega))).mono ?_
  rintro e W1 ⟨rfl, k1⟩
  have K1 : Hid (Walk Z S x (m.bogusAgain ⟨63, p, q⟩) w.heap.size ⟨63, p, q⟩ w W1) := k1
  clear hb0 d0 d1 d2 hx0 s0 s1 s2 s3
  obtain ⟨hb1, d0, d1, d2⟩ := k1.box
  have hx1 := k1.lt
  obtain ⟨s0, s1, s2, s3⟩ := k1.st0
  clear k1
  go_wp2_with fail
  first
    | refine bodyPost_end (results_none rfl _ _ _) rfl ?_
    | refine bodyPost_ret (results_none rfl _ _ _) rfl ?_
  refine ⟨rfl, ?_⟩
  rw [HE.out]
  exact K1.out.post
set_option maxHeartbeats 2000000 in
set_option maxRecDepth 20000 in
theorem tagOpen_5 {Z : Nat → Prop} {S : Nat → Prop} {x : Nat} {m : Mc} {w : World} (h : Mach Z S x m w) (r p q : Int) (hlt : ltr r = false) (h33 : (r == 33) = false) (h47 : (r == 47) = false) (h63 : (r == 63) = false)  (hn : m.tot ≤ 420000000) : Calls Tryz.prog 71 #[mp x, cv ⟨r, p, q⟩] w (Did Z S x (m.tagOpen ⟨r, p, q⟩) w) := by
  have HE : Hid ((m.tagOpen ⟨r, p, q⟩) = ((m.fault 5 (p)).dataAgain ⟨r, p, q⟩)) := by
    show (m.tagOpen ⟨r, p, q⟩) = ((m.fault 5 (p)).dataAgain ⟨r, p, q⟩)
    simp at h33 h47 h63; simp [Mc.tagOpen, hlt, h33, h47, h63]
  obtain ⟨W0, hW0, k0⟩ := Walk.start h ⟨r, p, q⟩
  have hxw := h.low
  obtain ⟨hb0, d0, d1, d2⟩ := k0.box
  have hx0 := k0.lt
  have hne : w.heap.size ≠ x := by omega
  obtain ⟨s0, s1, s2, s3⟩ := k0.st0
  have K0 : Hid (Walk Z S x m w.heap.size ⟨r, p, q⟩ w W0) := k0
  clear h k0
  go_enter Tryz.func71, Tryz.ntmps71
  go_wp2_with (first | (go_at_call 104; refine (letter_as (r) false _ hlt).mono ?_; rintro e w' ⟨rfl, hw'⟩; obtain rfl := hw'.symm; clear hw'))
  refine (K0.out.call (fun U h => fault_any h 5 p (by show m.tot ≤ _; omega))).mono ?_
  rintro e W1 ⟨rfl, k1⟩
  have K1 : Hid (Walk Z S x (m.fault 5 (p)) w.heap.size ⟨r, p, q⟩ w W1) := k1
  clear hb0 d0 d1 d2 hx0 s0 s1 s2 s3
  obtain ⟨hb1, d0, d1, d2⟩ := k1.box
  have hx1 := k1.lt
  obtain ⟨s0, s1, s2, s3⟩ := k1.st0
  clear k1
  go_wp2_with fail
  refine (K1.out.call (fun U h => dataAgain_any h ⟨r, p, q⟩ (by show (m.fault 5 (p)).tot ≤ _; have t0 := tot_fault m 5 (p); omega))).mono ?_
  rintro e W2 ⟨rfl, k2⟩
  have K2 : Hid (Walk Z S x ((m.fault 5 (p)).dataAgain ⟨r, p, q⟩) w.heap.size ⟨r, p, q⟩ w W2) := k2
  clear hb1 d0 d1 d2 hx1 s0 s1 s2 s3
  obtain ⟨hb2, d0, d1, d2⟩ := k2.box
  have hx2 := k2.lt
  obtain ⟨s0, s1, s2, s3⟩ := k2.st0
  clear k2
  go_wp2_with fail
  first
    | refine bodyPost_end (results_none rfl _ _ _) rfl ?_
    | refine bodyPost_ret (results_none rfl _ _ _) rfl ?_
  refine ⟨rfl, ?_⟩
  rw [HE.out]
  exact K2.out.post
theorem tagOpen_any {Z : Nat → Prop} {S : Nat → Prop} {x : Nat} {m : Mc} {w : World} (h : Mach Z S x m w) (c : Ch) (hw : m.wait ≠ []) (hn : m.tot ≤ 420000000) : Calls Tryz.prog 71 #[mp x, cv c] w (Did Z S x (m.tagOpen c) w) := by
  obtain ⟨r, p, q⟩ := c
  by_cases h33 : r = 33
  · subst h33
    exact tagOpen_1 h p q hn
  by_cases h47 : r = 47
  · subst h47
    exact tagOpen_2 h p q hn
  cases hlt : ltr r with
  | true => exact tagOpen_3 h r p q hlt (by simpa using h33) (by simpa using h47) hw hn
  | false =>
    by_cases h63 : r = 63
    · subst h63
      exact tagOpen_4 h p q hw hn
    exact tagOpen_5 h r p q hlt (by simpa using h33) (by simpa using h47) (by simpa using h63) hn
set_option maxHeartbeats 2000000 in
set_option maxRecDepth 20000 in
theorem endOpen_1 {Z : Nat → Prop} {S : Nat → Prop} {x : Nat} {m : Mc} {w : World} (h : Mach Z S x m w) (r p q : Int) (hlt : ltr r = true) (hw : m.wait ≠ []) (hn : m.tot ≤ 420000000) : Calls Tryz.prog 102 #[mp x, cv ⟨r, p, q⟩] w (Did Z S x (m.endOpen ⟨r, p, q⟩) w) := by
  have HE : Hid ((m.endOpen ⟨r, p, q⟩) = (({ (m.beg 3 106) with st := 108 } : Mc).tagName ⟨r, p, q⟩)) := by
    show (m.endOpen ⟨r, p, q⟩) = (({ (m.beg 3 106) with st := 108 } : Mc).tagName ⟨r, p, q⟩)
    simp [Mc.endOpen, hlt]
  obtain ⟨W0, hW0, k0⟩ := Walk.start h ⟨r, p, q⟩
  have hxw := h.low
  obtain ⟨hb0, d0, d1, d2⟩ := k0.box
  have hx0 := k0.lt
  have hne : w.heap.size ≠ x := by omega
  obtain ⟨s0, s1, s2, s3⟩ := k0.st0
  have K0 : Hid (Walk Z S x m w.heap.size ⟨r, p, q⟩ w W0) := k0
  clear h k0
  go_enter Tryz.func102, Tryz.ntmps102
  go_wp2_with (first | (go_at_call 104; refine (letter_as (r) true _ hlt).mono ?_; rintro e w' ⟨rfl, hw'⟩; obtain rfl := hw'.symm; clear hw'))
  refine (K0.out.call (fun U h => beg_any h 3 106 hw)).mono ?_
  rintro e W1 ⟨rfl, k1⟩
  have K1 : Hid (Walk Z S x (m.beg 3 106) w.heap.size ⟨r, p, q⟩ w W1) := k1
  clear hb0 d0 d1 d2 hx0 s0 s1 s2 s3
  obtain ⟨hb1, d0, d1, d2⟩ := k1.box
  have hx1 := k1.lt
  obtain ⟨s0, s1, s2, s3⟩ := k1.st0
  clear k1
  go_wp2_with fail
  refine (K1.out.call (fun U h => again_any 108 en81 h ⟨r, p, q⟩ (fun U W h => tagName_any h ⟨r, p, q⟩ (by show (m.beg 3 106).tot ≤ _; have t0 := tot_beg m 3 106; omega)))).mono ?_
  rintro e W2 ⟨rfl, k2⟩
  have K2 : Hid (Walk Z S x (({ (m.beg 3 106) with st := 108 } : Mc).tagName ⟨r, p, q⟩) w.heap.size ⟨r, p, q⟩ w W2) := k2
  clear hb1 d0 d1 d2 hx1 s0 s1 s2 s3
  obtain ⟨hb2, d0, d1, d2⟩ := k2.box
  have hx2 := k2.lt
  obtain ⟨s0, s1, s2, s3⟩ := k2.st0
  clear k2
  go_wp2_with fail
  first
    | refine bodyPost_end (results_none rfl _ _ _) rfl ?_
    | refine bodyPost_ret (results_none rfl _ _ _) rfl ?_
  refine ⟨rfl, ?_⟩
  rw [HE.out]
  exact K2.out.post
set_option maxHeartbeats 2000000 in
set_option maxRecDepth 20000 in
theorem endOpen_2 {Z : Nat → Prop} {S : Nat → Prop} {x : Nat} {m : Mc} {w : World} (h : Mach Z S x m w) (p q : Int)   (hn : m.tot ≤ 420000000) : Calls Tryz.prog 102 #[mp x, cv ⟨62, p, q⟩] w (Did Z S x (m.endOpen ⟨62, p, q⟩) w) := by
  have HE : Hid ((m.endOpen ⟨62, p, q⟩) = (m.fault 6 (p)).toData) := by
    show (m.endOpen ⟨62, p, q⟩) = (m.fault 6 (p)).toData
    simp [Mc.endOpen, show ltr 62 = false from rfl]
  have hlt : ltr 62 = false := rfl
  obtain ⟨W0, hW0, k0⟩ := Walk.start h ⟨62, p, q⟩
  have hxw := h.low
  obtain ⟨hb0, d0, d1, d2⟩ := k0.box
  have hx0 := k0.lt
  have hne : w.heap.size ≠ x := by omega
  obtain ⟨s0, s1, s2, s3⟩ := k0.st0
  have K0 : Hid (Walk Z S x m w.heap.size ⟨62, p, q⟩ w W0) := k0
  clear h k0
  go_enter Tryz.func102, Tryz.ntmps102
  go_wp2_with (first | (go_at_call 104; refine (letter_as (62) false _ hlt).mono ?_; rintro e w' ⟨rfl, hw'⟩; obtain rfl := hw'.symm; clear hw'))
  refine (K0.out.call (fun U h => fault_any h 6 p (by show m.tot ≤ _; omega))).mono ?_
  rintro e W1 ⟨rfl, k1⟩
  have K1 : Hid (Walk Z S x (m.fault 6 (p)) w.heap.size ⟨62, p, q⟩ w W1) := k1
  clear hb0 d0 d1 d2 hx0 s0 s1 s2 s3
  obtain ⟨hb1, d0, d1, d2⟩ := k1.box
  have hx1 := k1.lt
  obtain ⟨s0, s1, s2, s3⟩ := k1.st0
  clear k1
  go_wp2_with fail
  refine (K1.out.call (fun U h => toData_any h)).mono ?_
  rintro e W2 ⟨rfl, k2⟩
  have K2 : Hid (Walk Z S x (m.fault 6 (p)).toData w.heap.size ⟨62, p, q⟩ w W2) := k2
  clear hb1 d0 d1 d2 hx1 s0 s1 s2 s3
  obtain ⟨hb2, d0, d1, d2⟩ := k2.box
  have hx2 := k2.lt
  obtain ⟨s0, s1, s2, s3⟩ := k2.st0
  clear k2
  go_wp2_with fail
  first
    | refine bodyPost_end (results_none rfl _ _ _) rfl ?_
    | refine bodyPost_ret (results_none rfl _ _ _) rfl ?_
  refine ⟨rfl, ?_⟩
  rw [HE.out]
  exact K2.out.post
set_option maxHeartbeats 2000000 in
set_option maxRecDepth 20000 in
theorem endOpen_3 {Z : Nat → Prop} {S : Nat → Prop} {x : Nat} {m : Mc} {w : World} (h : Mach Z S x m w) (r p q : Int) (hlt : ltr r = false) (h62 : (r == 62) = false) (hw : m.wait ≠ []) (hn : m.tot ≤ 420000000) : Calls Tryz.prog 102 #[mp x, cv ⟨r, p, q⟩] w (Did Z S x (m.endOpen ⟨r, p, q⟩) w) := by
  have HE : Hid ((m.endOpen ⟨r, p, q⟩) = (m.bogusAgain ⟨r, p, q⟩)) := by
    show (m.endOpen ⟨r, p, q⟩) = (m.bogusAgain ⟨r, p, q⟩)
    simp at h62; simp [Mc.endOpen, hlt, h62]
  obtain ⟨W0, hW0, k0⟩ := Walk.start h ⟨r, p, q⟩
  have hxw := h.low
  obtain ⟨hb0, d0, d1, d2⟩ := k0.box
  have hx0 := k0.lt
  have hne : w.heap.size ≠ x := by omega
  obtain ⟨s0, s1, s2, s3⟩ := k0.st0
  have K0 : Hid (Walk Z S x m w.heap.size ⟨r, p, q⟩ w W0) := k0
  clear h k0
  go_enter Tryz.func102, Tryz.ntmps102
  go_wp2_with (first | (go_at_call 104; refine (letter_as (r) false _ hlt).mono ?_; rintro e w' ⟨rfl, hw'⟩; obtain rfl := hw'.symm; clear hw'))
  refine (K0.out.call (fun U h => bogusAgain_1 h r p q hw (by show m.tot ≤ _; omega))).mono ?_
  rintro e W1 ⟨rfl, k1⟩
  have K1 : Hid (Walk Z S x (m.bogusAgain ⟨r, p, q⟩) w.heap.size ⟨r, p, q⟩ w W1) := k1
  clear hb0 d0 d1 d2 hx0 s0 s1 s2 s3
  obtain ⟨hb1, d0, d1, d2⟩ := k1.box
  have hx1 := k1.lt
  obtain ⟨s0, s1, s2, s3⟩ := k1.st0
  clear k1
  go_wp2_with fail
  first
    | refine bodyPost_end (results_none rfl _ _ _) rfl ?_
    | refine bodyPost_ret (results_none rfl _ _ _) rfl ?_
  refine ⟨rfl, ?_⟩
  rw [HE.out]
  exact K1.out.post
theorem endOpen_any {Z : Nat → Prop} {S : Nat → Prop} {x : Nat} {m : Mc} {w : World} (h : Mach Z S x m w) (c : Ch) (hw : m.wait ≠ []) (hn : m.tot ≤ 420000000) : Calls Tryz.prog 102 #[mp x, cv c] w (Did Z S x (m.endOpen c) w) := by
  obtain ⟨r, p, q⟩ := c
  cases hlt : ltr r with
  | true => exact endOpen_1 h r p q hlt hw hn
  | false =>
    by_cases h62 : r = 62
    · subst h62
      exact endOpen_2 h p q hn
    exact endOpen_3 h r p q hlt (by simpa using h62) hw hn
end Go.Proofs.YtdiealijjhfhjaaGreatDoor
namespace Go.Proofs.YtdiealijjhfhjaaGreatDoor
open Go.RowKit Go.Maps
theorem conv_str (s : ByteArray) (w : World) (hs : s.size ≤ 1000000000) : ∃ cap W1, (convert 9 68 (.string s)).run Tryz.prog w = .ok (.slice (some ⟨w.heap.size, 0, none⟩) s.size cap) W1 ∧ OwnQ W1 true 5 1 (.slice (some ⟨w.heap.size, 0, none⟩) s.size cap) s.size (Lib.byteCells s.data.toList) ∧ Below w.heap.size w W1 := by
  have hc := run_bytes_of_string (P := Tryz.prog) w 9 68 5 s Tryz.underlying9 Tryz.underlying68 Tryz.underlying5
  have hge := grownCap_ge w s.size 0 5
  have hle := grownCap_le_maxLen w s.size 0 5 (by unfold maxLen; omega)
  obtain ⟨c, hcc⟩ : ∃ c, grownCap w s.size 0 5 = c := ⟨_, rfl⟩
  rw [hcc] at hc hge hle
  have hsz : (bytesRow s c).size = c := by
    unfold bytesRow
    simp
    have : s.data.size = s.size := rfl
    omega
  have hlen : s.data.toList.length = s.size := Array.length_toList
  refine ⟨c, _, hc, ⟨by rw [Lib.byteCells_length, hlen, Nat.mul_one], .inr ⟨w.heap.size, c, bytesRow s c, _, rfl, heap_alloc_new w.drew _, .inr ⟨rfl, Nat.le_refl _⟩, hge, hle, by rw [hsz, Nat.mul_one], ?_⟩⟩, ((Below.refl _ _).drew).alloc (Nat.le_refl _) _⟩
  unfold bytesRow
  rw [Nat.mul_one, Array.toList_append, List.take_append_of_le_length (by simp)]
  rw [List.take_of_length_le (by simp)]
  simp [Lib.byteCells]
theorem two_set {w : World} {v : Value} {a b : Ch} (h : Rw.own w (rwC v [a, b])) (c d : Ch) : ∃ g cap, v = .slice (some ⟨g, 0, none⟩) 2 cap ∧ 2 ≤ cap ∧ cap ≤ maxLen ∧ v.ownBlock = some g ∧ (∀ i, i < 6 → ∃ u, w.cell? ⟨g, i, none⟩ = some u ∧ w.frozen? ⟨g, i, none⟩ = false) ∧
    Rw.own (setAll w g [(0, .int .i64 c.r), (1, .int .i64 c.a), (2, .int .i64 c.z), (3, .int .i64 d.r), (4, .int .i64 d.a), (5, .int .i64 d.z)]) (rwC v [c, d]) := by
  rcases h.2 with ⟨_, h0⟩ | ⟨g, cap, cur, z, e, hg, hz, h1, h2, h3, h4⟩
  · simp at h0
  · have hz0 : z = (0, 0) := by
      rcases hz with hz | ⟨hz, _⟩
      · exact hz
      · cases hz
    subst hz0
    simp only [List.length_cons, List.length_nil] at e h1 h3
    have h6 : 6 ≤ cur.size := by omega
    refine ⟨g, cap, e, h1, h2, by simp [e, Value.ownBlock], fun i hi => ⟨cur[i]'(by omega), ?_, ?_⟩, rfl, .inr ⟨g, cap, _, _, e, setAll_blk g _ w _ _ _ hg, .inl rfl, h1, h2, ?_, ?_⟩⟩
    · simp [World.cell?, hg]
    · simp [World.frozen?, hg]
    · simp [h3]
    · obtain ⟨l, hl⟩ : ∃ l, cur.toList = l := ⟨_, rfl⟩
      have hll : 6 ≤ l.length := by rw [← hl, Array.length_toList]; exact h6
      match l, hll with
      | x0 :: x1 :: x2 :: x3 :: x4 :: x5 :: rest, _ =>
        have hcur : cur = (x0 :: x1 :: x2 :: x3 :: x4 :: x5 :: rest).toArray := by rw [← hl]
        subst hcur
        simp [G4.Ch.cells]
end Go.Proofs.YtdiealijjhfhjaaGreatDoor
