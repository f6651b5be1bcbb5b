/- The document's Find, Has, Top, Pop. -/
import Derived.Test.YtkmghkfdegdikaaDoorCb
namespace Go.Proofs.YtkmghkfdegdikaaDoor
open Go.RowKit

set_option maxHeartbeats 1000000 in
theorem rfind_any {S : Nat → Prop} {w : World} {x : Nat} {rv : Value} {M : List El} (h : RStk S w x rv M) (hM : M.length ≤ 1000000000) (id : Int) : Calls Tryd.prog 36 #[ptr x, iv id] w fun e w' => e = .returned (iv (fnd id M M.length)) ∧ w' = w := by
  obtain ⟨r, hr⟩ : ∃ r, fnd id M M.length = r := ⟨_, rfl⟩
  rw [hr]
  have HR : Hid (fnd id M M.length = r ∧ RStk S w x rv M) := ⟨hr, h⟩
  obtain ⟨ao0, c0, hrv0, _⟩ := h.row.slice
  have cx0 : w.cell? ⟨x, 0, none⟩ = some (.slice ao0 M.length c0) := by rw [h.blk.cell 0, hrv0]; rfl
  obtain ⟨m, hm⟩ : ∃ m, M.length = m := ⟨_, rfl⟩
  have HM : Hid (M.length = m) := hm
  rw [hm] at cx0 hM
  clear hr hm h hrv0
  go_enter Tryd.func36, Tryd.ntmps36
  go_wp2_with fail
  go_loopg [5] m (fun g av wr => ∃ z : Int, av = iv z ∧ z = (g : Int) - 1 ∧ g ≤ m ∧ wr = w ∧ Hid (fnd id M g = r))
  case atStart => exact ⟨_, rfl, rfl, Nat.le_refl _, rfl, by
    show _ = _
    rw [← HM.out]
    exact HR.out.1⟩
  case round =>
    obtain ⟨z, rfl, hz, hg, hwr, HS⟩ := hrel
    rw [hwr]
    clear hwr
    cases gk with
    | zero =>
      obtain rfl : z = -1 := by omega
      clear hz
      have HF : Hid (-1 = r) := HS.out
      go_wp2_with fail
      go_ret
      rw [← HF.out]
      exact ⟨rfl, rfl⟩
    | succ k =>
      obtain rfl : z = (k : Int) := by omega
      clear hz
      have hk : k < m := by omega
      obtain ⟨d, hd⟩ : ∃ d, M[k]? = some d := ⟨_, List.getElem?_eq_getElem (by rw [HM.out]; exact hk)⟩
      clear cx0
      obtain ⟨g, cp, hrv, hc1, hc2, q0, _⟩ := HR.out.2.at hd
      have cx : w.cell? ⟨x, 0, none⟩ = some (.slice (some ⟨g, 0, none⟩) m cp) := by rw [HR.out.2.blk.cell 0, hrv, HM.out]; rfl
      have HN : Hid ((if d.id = id then (k : Int) else fnd id M k) = r) := by rw [← fnd_next hd]; exact HS.out
      clear hd hrv HS
      by_cases hi : d.id = id
      · have g0 : (d.id == id) = true := beq_iff_eq.2 hi
        have HF : Hid ((k : Int) = r) := by have := HN.out; rw [if_pos hi] at this; exact this
        clear hi
        go_wp2_with fail
        go_ret
        rw [← HF.out]
        exact ⟨rfl, rfl⟩
      · have g0 : (d.id == id) = false := beq_false_of_ne hi
        have HF : Hid (fnd id M k = r) := by have := HN.out; rw [if_neg hi] at this; exact this
        clear hi
        go_wp2_with fail
        go_roundg k
        case measure => omega
        case rel => exact ⟨_, rfl, rfl, by omega, rfl, HF⟩

set_option maxHeartbeats 2000000 in
set_option maxRecDepth 20000 in
theorem rhas_any {S : Nat → Prop} {w : World} {x : Nat} {rv : Value} {M : List El} (h : RStk S w x rv M) (hM : M.length ≤ 1000000000) (scope : Int) {lo : Option Addr} {l : List ByteArray} (hl : StrRow w lo l) (n c : Nat) (hn : l.length = n) (hn2 : n ≤ 9223372036854775807) :
    Calls Tryd.prog 30 #[ptr x, iv scope, .slice lo n c] w fun e w' => e = .returned (.bool (hasS l scope M.reverse)) ∧ Below w.heap.size w w' := by
  obtain ⟨r, hr⟩ : ∃ r, hasS l scope M.reverse = r := ⟨_, rfl⟩
  rw [hr]
  have HR : Hid (hasS l scope M.reverse = r ∧ RStk S w x rv M ∧ StrRow w lo l ∧ l.length = n ∧ n ≤ 9223372036854775807) := ⟨hr, h, hl, hn, hn2⟩
  obtain ⟨ao0, c0, hrv0, _⟩ := h.row.slice
  have cx0 : w.cell? ⟨x, 0, none⟩ = some (.slice ao0 M.length c0) := by rw [h.blk.cell 0, hrv0]; rfl
  clear hr hl hn hn2
  obtain ⟨m, hm⟩ : ∃ m, M.length = m := ⟨_, rfl⟩
  have HM : Hid (M.length = m) := hm
  rw [hm] at cx0 hM
  clear hm h hrv0
  go_enter Tryd.func30, Tryd.ntmps30
  go_wp2_with fail
  go_loopg [7] m (fun g av wr => ∃ z : Int, av = iv z ∧ z = (g : Int) - 1 ∧ g ≤ m ∧ Hid (Below w.heap.size w wr) ∧ Hid (hasS l scope (M.take g).reverse = r))
  case atStart => exact ⟨_, rfl, rfl, Nat.le_refl _, Below.refl _ _, by
    show _ = _
    rw [← HM.out, List.take_length]
    exact HR.out.1⟩
  case round =>
    obtain ⟨z, rfl, hz, hg, HB, HS⟩ := hrel
    cases gk with
    | zero =>
      obtain rfl : z = -1 := by omega
      clear hz
      have HF : Hid (false = r) := by
        have := HS.out
        rw [List.take_zero, List.reverse_nil] at this
        exact this
      clear HS
      go_wp2_with fail
      go_ret
      rw [← HF.out]
      exact ⟨rfl, HB.out⟩
    | succ k =>
      obtain rfl : z = (k : Int) := by omega
      clear hz
      have hk : k < m := by omega
      obtain ⟨d, hd⟩ : ∃ d, M[k]? = some d := ⟨_, List.getElem?_eq_getElem (by rw [HM.out]; exact hk)⟩
      clear cx0
      have hs := (HR.out.2.1).old HB.out
      obtain ⟨g, cp, hrv, hc1, hc2, q0, q1, q2, q3, _⟩ := hs.at hd
      have cx : wr.cell? ⟨x, 0, none⟩ = some (.slice (some ⟨g, 0, none⟩) m cp) := by rw [hs.blk.cell 0, hrv, HM.out]; rfl
      have ho := hs.own d (List.mem_of_getElem? hd)
      have HT : Hid ((M.take (k + 1)).reverse = d :: (M.take k).reverse) := take_rev hd
      obtain ⟨ao, ac, hav, _⟩ := ho.1.slice
      obtain ⟨id, sp, nm, av, al⟩ := d
      simp only at hav q0 q1 q2 q3
      subst hav
      have k1 := ris_any (HR.out.2.2.1.old HB.out) n c HR.out.2.2.2.1 HR.out.2.2.2.2 id sp nm ao al.length ac
      have HU : Hid (hasS l scope (⟨id, sp, nm, .slice ao al.length ac, al⟩ :: (M.take k).reverse) = r ∧ (∀ w2, Below wr.heap.size wr w2 → w2.cell? ⟨x, 0, none⟩ = some (.slice (some ⟨g, 0, none⟩) m cp) ∧ w2.cell? ⟨g, k * 4, none⟩ = some (iv id) ∧ w2.cell? ⟨g, k * 4 + 1, none⟩ = some (iv sp) ∧ w2.cell? ⟨g, k * 4 + 2, none⟩ = some (.string nm) ∧ w2.cell? ⟨g, k * 4 + 3, none⟩ = some (.slice ao al.length ac))) := ⟨by rw [← HT.out]; exact HS.out, fun w2 b2 => by
        have hs2 := hs.old b2
        obtain ⟨g', cp', hrv', _, _, p0, p1, p2, p3, _⟩ := hs2.at hd
        rw [hrv] at hrv'
        cases hrv'
        exact ⟨by rw [hs2.blk.cell 0, hrv, HM.out]; rfl, p0, p1, p2, p3⟩⟩
      clear hs hrv ho hd HS HT
      go_wp2_with fail
      refine k1.mono ?_
      rintro e w2 ⟨rfl, b2⟩
      clear k1 cx q0 q1 q2 q3
      have HC : Hid (Below wr.heap.size wr w2) := b2
      clear b2
      obtain ⟨cx, q0, q1, q2, q3⟩ := HU.out.2 w2 HC.out
      cases hA : isP sp nm 0 l with
      | true =>
        have HF : Hid (true = r) := by
          have := HU.out.1
          simp only [hasS, hA] at this
          exact this
        clear hA
        go_wp2_with fail
        go_ret
        rw [← HF.out]
        exact ⟨rfl, HB.out.trans (HC.out.mono HB.out.size)⟩
      | false =>
        have k2 := rends_any w2 scope id sp nm ao al.length ac
        have HF : Hid ((if endsP scope sp nm then false else hasS l scope (M.take k).reverse) = r) := by
          have := HU.out.1
          simp only [hasS, hA] at this
          exact this
        clear hA
        go_wp2_with fail
        refine k2.mono ?_
        rintro e w3 ⟨rfl, b3⟩
        clear k2 cx q0 q1 q2 q3
        have HD : Hid (Below w.heap.size w w3) := HB.out.trans ((HC.out.trans (b3.mono HC.out.size)).mono HB.out.size)
        clear b3
        cases hE : endsP scope sp nm with
        | true =>
          have HG : Hid (false = r) := by
            have := HF.out
            rw [hE] at this
            exact this
          clear hE
          go_wp2_with fail
          go_ret
          rw [← HG.out]
          exact ⟨rfl, HD.out⟩
        | false =>
          have HG : Hid (hasS l scope (M.take k).reverse = r) := by
            have := HF.out
            rw [hE] at this
            exact this
          clear hE
          go_wp2_with fail
          go_roundg k
          case measure => omega
          case rel => exact ⟨_, rfl, rfl, by omega, HD, HG⟩


set_option maxHeartbeats 1000000 in
theorem rtop_none {S : Nat → Prop} {w : World} {y : Nat} {rv : Value} (h : RStk S w y rv []) : Calls Tryd.prog 13 #[ptr y] w fun e w' => e = .returned noEl ∧ Below w.heap.size w w' := by
  obtain ⟨W1, hW1, x1, b1⟩ := zbox w
  have HW1 : Hid _ := hW1
  obtain ⟨ao0, c0, hrv0, _⟩ := h.row.slice
  have cx0 : W1.cell? ⟨y, 0, none⟩ = some (.slice ao0 0 c0) := by rw [(h.old b1).blk.cell 0, hrv0]; rfl
  have y0 : W1.cell? ⟨w.heap.size, 0, none⟩ = some (iv 0) := x1.cell 0
  have y1 : W1.cell? ⟨w.heap.size, 1, none⟩ = some (iv 0) := x1.cell 1
  have y2 : W1.cell? ⟨w.heap.size, 2, none⟩ = some (.string ⟨#[]⟩) := x1.cell 2
  have y3 : W1.cell? ⟨w.heap.size, 3, none⟩ = some (.slice none 0 0) := x1.cell 3
  have f0 := x1.frozen 0
  have f1 := x1.frozen 1
  have f2 := x1.frozen 2
  have f3 := x1.frozen 3
  have HP : Hid _ := And.intro (x1.put4 (iv 0) (iv 0) (.string ⟨#[]⟩) (.slice none 0 0)) (below_put4 b1 (Nat.le_refl _) (iv 0) (iv 0) (.string ⟨#[]⟩) (.slice none 0 0))
  clear hW1 x1 b1 h hrv0
  go_enter Tryd.func13, Tryd.ntmps13
  go_upto_region 1 with fail
  rw [HW1.out]
  go_wp2_with fail
  refine bodyPost_ret (results34b Tryd.results13 rfl rfl HP.out.1) rfl ?_
  exact ⟨rfl, HP.out.2⟩
set_option maxHeartbeats 2000000 in
set_option maxRecDepth 20000 in
theorem rtop_any {S : Nat → Prop} {w : World} {y : Nat} {rv : Value} {M : List El} (h : RStk S w y rv M) {m : Nat} {d : El} (hm : M.length = m + 1) (hd : M[m]? = some d) (hM : m ≤ 1000000000) :
    Calls Tryd.prog 13 #[ptr y] w fun e w' => e = .returned (.tuple #[.agg d.arr, .bool true]) ∧ Below w.heap.size w w' := by
  obtain ⟨W1, hW1, x1, b1⟩ := zbox w
  have HW1 : Hid _ := hW1
  have h1 := h.old b1
  obtain ⟨g, cp, hrv, hc1, hc2, q0, q1, q2, q3, ho⟩ := h1.at hd
  obtain ⟨n, hn⟩ : ∃ n, M.length = n := ⟨_, rfl⟩
  have cx : W1.cell? ⟨y, 0, none⟩ = some (.slice (some ⟨g, 0, none⟩) n cp) := by rw [h1.blk.cell 0, hrv, hn]; rfl
  rw [hn] at hm hc1
  have hz : (n : Int) - 1 = (m : Int) := by omega
  have hwr : IntKind.i64.wrap (m : Int) = (m : Int) := by rw [IntKind.wrap_i64]; omega
  have hmn : (m : Int) < (n : Int) := by omega
  have hm0 : (0 : Int) ≤ (m : Int) := by omega
  have hnz : ((n : Int) == 0) = false := beq_false_of_ne (by omega)
  obtain ⟨ao, ac, hav, _⟩ := ho.1.slice
  obtain ⟨id, sp, nm, av, al⟩ := d
  simp only at q0 q1 q2 q3 hav
  subst hav
  have y0 : W1.cell? ⟨w.heap.size, 0, none⟩ = some (iv 0) := x1.cell 0
  have y1 : W1.cell? ⟨w.heap.size, 1, none⟩ = some (iv 0) := x1.cell 1
  have y2 : W1.cell? ⟨w.heap.size, 2, none⟩ = some (.string ⟨#[]⟩) := x1.cell 2
  have y3 : W1.cell? ⟨w.heap.size, 3, none⟩ = some (.slice none 0 0) := x1.cell 3
  have f0 := x1.frozen 0
  have f1 := x1.frozen 1
  have f2 := x1.frozen 2
  have f3 := x1.frozen 3
  have b1d := b1.trans ((Below.refl W1.heap.size W1).drew.mono b1.size)
  have x1d := x1.old (Below.refl W1.heap.size W1).drew
  have HP : Hid (Bx ((((W1.setCell ⟨w.heap.size, 0, none⟩ (iv id)).setCell ⟨w.heap.size, 1, none⟩ (iv sp)).setCell ⟨w.heap.size, 2, none⟩ (.string nm)).setCell ⟨w.heap.size, 3, none⟩ (.slice ao al.length ac)).drew w.heap.size 34 #[iv id, iv sp, .string nm, .slice ao al.length ac] ∧ Below w.heap.size w ((((W1.setCell ⟨w.heap.size, 0, none⟩ (iv id)).setCell ⟨w.heap.size, 1, none⟩ (iv sp)).setCell ⟨w.heap.size, 2, none⟩ (.string nm)).setCell ⟨w.heap.size, 3, none⟩ (.slice ao al.length ac)).drew) := ⟨(x1.put4 _ _ _ _), (below_put4 b1 (Nat.le_refl _) _ _ _ _).drew⟩
  have HP2 : Hid (Bx ((((W1.drew.setCell ⟨w.heap.size, 0, none⟩ (iv id)).setCell ⟨w.heap.size, 1, none⟩ (iv sp)).setCell ⟨w.heap.size, 2, none⟩ (.string nm)).setCell ⟨w.heap.size, 3, none⟩ (.slice ao al.length ac)) w.heap.size 34 #[iv id, iv sp, .string nm, .slice ao al.length ac] ∧ Below w.heap.size w ((((W1.drew.setCell ⟨w.heap.size, 0, none⟩ (iv id)).setCell ⟨w.heap.size, 1, none⟩ (iv sp)).setCell ⟨w.heap.size, 2, none⟩ (.string nm)).setCell ⟨w.heap.size, 3, none⟩ (.slice ao al.length ac))) := ⟨(x1d.put4 _ _ _ _), below_put4 b1d (Nat.le_refl _) _ _ _ _⟩
  clear hrv h h1 hm hd ho hn x1 b1 hW1 hM b1d x1d hc1 hc2
  show Calls Tryd.prog 13 #[ptr y] w fun e w' => e = .returned (.tuple #[.agg #[iv id, iv sp, .string nm, .slice ao al.length ac], .bool true]) ∧ Below w.heap.size w w'
  go_enter Tryd.func13, Tryd.ntmps13
  go_upto_region 1 with fail
  rw [HW1.out]
  go_wp2_with fail
  go_region
  all_goals
    go_wp2_with fail
    first
      | (refine bodyPost_ret (results34b Tryd.results13 rfl rfl HP.out.1) rfl ?_; exact ⟨rfl, HP.out.2⟩)
      | (refine bodyPost_ret (results34b Tryd.results13 rfl rfl HP2.out.1) rfl ?_; exact ⟨rfl, HP2.out.2⟩)
end Go.Proofs.YtkmghkfdegdikaaDoor
