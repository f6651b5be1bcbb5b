/- Bytes behind a row of one's own: AppendRune, with, withLower; addName, addText, addAttr, addValue, addDashes. -/
import Derived.Test.YtdiealijjhfhjaaGreatDoorZk
import Derived.Lib.AppendStr
import Derived.Test.YtdiealijjhfhjaaGreatDoorZh
import Derived.Laws.IdiomStrings
import Derived.Laws.BytesArg
namespace Go.Proofs.YtdiealijjhfhjaaGreatDoor
open Go.RowKit
def Grew (q' : Bool) (v : Value) (n : Nat) (xs news : List Value) (w : World) (e : Ending) (w' : World) : Prop :=
  ∃ ao c, e = .returned (.slice ao (n + news.length) c) ∧ OwnQ w' q' 5 1 (.slice ao (n + news.length) c) (n + news.length) (xs ++ news) ∧ w.grownBy w' v.ownBlock ∧ ∀ g, (Value.slice ao (n + news.length) c).ownBlock = some g → v.ownBlock = some g ∨ w.heap.size ≤ g
theorem byte_run {w : World} {v : Value} {n : Nat} {xs : List Value} {q' : Bool} (hown : OwnQ w q' 5 1 v n xs) (hn : n ≤ 1000000000) (k : Nat) (news : List Value) (hl : news.length = k) (hk : k ≤ 8) (h1 : ∀ u ∈ news, u.oneCell' = true) :
    ∃ ao c W, (Builtin.append_ #[68, 68] 68 #[v, .slice (some ⟨w.heap.size, 0, none⟩) k k]).run Tryz.prog (w.alloc (.cells news.toArray 5)) = .ok (.slice ao (n + k) c) W ∧ Grew q' v n xs news w (.returned (.slice ao (n + k) c)) W := by
  have b0 : Below w.heap.size w (w.alloc (.cells news.toArray 5)) := (Below.refl _ _).alloc (Nat.le_refl _) _
  have hnew := heap_alloc_new w (.cells news.toArray 5)
  obtain ⟨W1, hW1⟩ : ∃ W1, (w.alloc (.cells news.toArray 5)) = W1 := ⟨_, rfl⟩
  rw [hW1] at b0 hnew ⊢
  have h2 : OwnQ W1 q' 5 1 v n xs := own_mv hown fun g hg => b0.block g (own_blk hown hg).1
  obtain ⟨v', W', hrun, ho, hg, hat⟩ := row_app Tryz.underlying68 info5 rfl (by decide) (by decide) h2 w.heap.size 0 k k news (by omega) (fun j u hj => by rw [Nat.zero_add]; simp [World.cell?, hnew]; exact hj) h1 (by omega)
  obtain ⟨ao, c, rfl, _, _⟩ := own_form ho
  refine ⟨ao, c, W', hrun, ao, c, by rw [hl], by rw [hl]; exact ho, ⟨hg.os.trans b0.os, hg.tape.trans b0.tape, hg.output.trans b0.output, Nat.le_trans b0.size hg.size, fun d hd hne => (hg.block d (Nat.lt_of_lt_of_le hd b0.size) hne).trans (b0.block d hd)⟩, fun g hg2 => ?_⟩
  rw [hl] at hg2
  rcases fresh_of hat g hg2 with h | h
  · exact .inl h
  · exact .inr (Nat.le_trans b0.size h)
set_option maxHeartbeats 4000000 in
set_option maxRecDepth 100000 in
theorem rune2 {w : World} {v : Value} {n : Nat} {xs : List Value} {q' : Bool} (hown : OwnQ w q' 5 1 v n xs) (hn : n ≤ 1000000000) (r : Int) (h0 : 128 ≤ r) (h1 : r ≤ 2047) : Calls Tryz.prog 197 #[v, .int .i32 r] w (Grew q' v n xs [.int .u8 (192 + r / 64), .int .u8 (128 + r % 64)] w) := by
  obtain ⟨ao, c, W, hrun, hG⟩ := byte_run hown hn 2 [.int .u8 (192 + r / 64), .int .u8 (128 + r % 64)] rfl (by decide) (by simp [Value.oneCell'])
  obtain ⟨ao0, c0, rfl, _, _⟩ := own_form hown
  have HG : Hid (Grew q' (.slice ao0 n c0) n xs [.int .u8 (192 + r / 64), .int .u8 (128 + r % 64)] w (.returned (.slice ao (n + 2) c)) W) := hG
  clear hG hown
  go_enter Tryz.func197, Tryz.ntmps197
  go_wp2_with (at_builtin; refine list_append_eq rfl _ _ 68 68 rfl _ _ rfl rfl hrun ?_)
  go_ret
  exact HG.out
set_option maxHeartbeats 4000000 in
set_option maxRecDepth 100000 in
theorem rune3a {w : World} {v : Value} {n : Nat} {xs : List Value} {q' : Bool} (hown : OwnQ w q' 5 1 v n xs) (hn : n ≤ 1000000000) (r : Int) (h0 : 2048 ≤ r) (h1 : r < 55296) : Calls Tryz.prog 197 #[v, .int .i32 r] w (Grew q' v n xs [.int .u8 (224 + r / 4096), .int .u8 (128 + r / 64 % 64), .int .u8 (128 + r % 64)] w) := by
  obtain ⟨ao, c, W, hrun, hG⟩ := byte_run hown hn 3 [.int .u8 (224 + r / 4096), .int .u8 (128 + r / 64 % 64), .int .u8 (128 + r % 64)] rfl (by decide) (by simp [Value.oneCell'])
  obtain ⟨ao0, c0, rfl, _, _⟩ := own_form hown
  have HG : Hid (Grew q' (.slice ao0 n c0) n xs [.int .u8 (224 + r / 4096), .int .u8 (128 + r / 64 % 64), .int .u8 (128 + r % 64)] w (.returned (.slice ao (n + 3) c)) W) := hG
  clear hG hown
  go_enter Tryz.func197, Tryz.ntmps197
  go_wp2_with (at_builtin; refine list_append_eq rfl _ _ 68 68 rfl _ _ rfl rfl hrun ?_)
  go_ret
  exact HG.out
set_option maxHeartbeats 4000000 in
set_option maxRecDepth 100000 in
theorem rune3b {w : World} {v : Value} {n : Nat} {xs : List Value} {q' : Bool} (hown : OwnQ w q' 5 1 v n xs) (hn : n ≤ 1000000000) (r : Int) (h0 : 57343 < r) (h1 : r ≤ 65535) : Calls Tryz.prog 197 #[v, .int .i32 r] w (Grew q' v n xs [.int .u8 (224 + r / 4096), .int .u8 (128 + r / 64 % 64), .int .u8 (128 + r % 64)] w) := by
  obtain ⟨ao, c, W, hrun, hG⟩ := byte_run hown hn 3 [.int .u8 (224 + r / 4096), .int .u8 (128 + r / 64 % 64), .int .u8 (128 + r % 64)] rfl (by decide) (by simp [Value.oneCell'])
  obtain ⟨ao0, c0, rfl, _, _⟩ := own_form hown
  have HG : Hid (Grew q' (.slice ao0 n c0) n xs [.int .u8 (224 + r / 4096), .int .u8 (128 + r / 64 % 64), .int .u8 (128 + r % 64)] w (.returned (.slice ao (n + 3) c)) W) := hG
  clear hG hown
  go_enter Tryz.func197, Tryz.ntmps197
  go_wp2_with (at_builtin; refine list_append_eq rfl _ _ 68 68 rfl _ _ rfl rfl hrun ?_)
  go_ret
  exact HG.out
set_option maxHeartbeats 4000000 in
set_option maxRecDepth 100000 in
theorem rune4 {w : World} {v : Value} {n : Nat} {xs : List Value} {q' : Bool} (hown : OwnQ w q' 5 1 v n xs) (hn : n ≤ 1000000000) (r : Int) (h0 : 65536 ≤ r) (h1 : r ≤ 1114111) : Calls Tryz.prog 197 #[v, .int .i32 r] w (Grew q' v n xs [.int .u8 (240 + r / 262144), .int .u8 (128 + r / 4096 % 64), .int .u8 (128 + r / 64 % 64), .int .u8 (128 + r % 64)] w) := by
  obtain ⟨ao, c, W, hrun, hG⟩ := byte_run hown hn 4 [.int .u8 (240 + r / 262144), .int .u8 (128 + r / 4096 % 64), .int .u8 (128 + r / 64 % 64), .int .u8 (128 + r % 64)] rfl (by decide) (by simp [Value.oneCell'])
  obtain ⟨ao0, c0, rfl, _, _⟩ := own_form hown
  have HG : Hid (Grew q' (.slice ao0 n c0) n xs [.int .u8 (240 + r / 262144), .int .u8 (128 + r / 4096 % 64), .int .u8 (128 + r / 64 % 64), .int .u8 (128 + r % 64)] w (.returned (.slice ao (n + 4) c)) W) := hG
  clear hG hown
  go_enter Tryz.func197, Tryz.ntmps197
  go_wp2_with (at_builtin; refine list_append_eq rfl _ _ 68 68 rfl _ _ rfl rfl hrun ?_)
  go_ret
  exact HG.out
theorem rune_one {r : Int} (h0 : 0 ≤ r) (h1 : r ≤ 127) : Lib.runeCells r = [.int .u8 r] := by simp [Lib.runeCells, Lib.encodeRuneZ_one h0 h1]
theorem chr_ok (r : Int) : 0 ≤ G9.chr r ∧ G9.chr r ≤ 1114111 ∧ (G9.chr r < 55296 ∨ 57343 < G9.chr r) := by
  unfold G9.chr G9.mayB
  split
  · rename_i h
    simp at h
    omega
  · omega
set_option maxHeartbeats 4000000 in
set_option maxRecDepth 100000 in
theorem appRune_any {w : World} {v : Value} {n : Nat} {xs : List Value} {q' : Bool} (hown : OwnQ w q' 5 1 v n xs) (hn : n ≤ 1000000000) (r : Int) (h0 : 0 ≤ r) (h1 : r ≤ 1114111) (h2 : r < 55296 ∨ 57343 < r) : Calls Tryz.prog 163 #[v, .int .i32 r] w (Grew q' v n xs (Lib.runeCells r) w) := by
  by_cases c1 : r ≤ 127
  · rw [rune_one h0 c1]
    obtain ⟨ao, c, W, hrun, hG⟩ := byte_run hown hn 1 [.int .u8 r] rfl (by decide) (by simp [Value.oneCell'])
    obtain ⟨ao0, c0, rfl, _, _⟩ := own_form hown
    have HG : Hid (Grew q' (.slice ao0 n c0) n xs [.int .u8 r] w (.returned (.slice ao (n + 1) c)) W) := hG
    clear hG hown h2
    go_enter Tryz.func163, Tryz.ntmps163
    go_wp2_with (at_builtin; refine list_append_eq rfl _ _ 68 68 rfl _ _ rfl rfl hrun ?_)
    go_ret
    exact HG.out
  · have key : Calls Tryz.prog 197 #[v, .int .i32 r] w (Grew q' v n xs (Lib.runeCells r) w) := by
      by_cases c2 : r ≤ 2047
      · rw [show Lib.runeCells r = [.int .u8 (192 + r / 64), .int .u8 (128 + r % 64)] by simp [Lib.runeCells, Lib.encodeRuneZ_two (by omega) c2]]
        exact rune2 hown hn r (by omega) c2
      by_cases c3 : r < 55296
      · rw [show Lib.runeCells r = [.int .u8 (224 + r / 4096), .int .u8 (128 + r / 64 % 64), .int .u8 (128 + r % 64)] by simp [Lib.runeCells, Lib.encodeRuneZ_three (Or.inl ⟨by omega, c3⟩)]]
        exact rune3a hown hn r (by omega) c3
      by_cases c4 : r ≤ 65535
      · rw [show Lib.runeCells r = [.int .u8 (224 + r / 4096), .int .u8 (128 + r / 64 % 64), .int .u8 (128 + r % 64)] by simp [Lib.runeCells, Lib.encodeRuneZ_three (Or.inr ⟨by omega, c4⟩)]]
        exact rune3b hown hn r (by omega) c4
      · rw [show Lib.runeCells r = [.int .u8 (240 + r / 262144), .int .u8 (128 + r / 4096 % 64), .int .u8 (128 + r / 64 % 64), .int .u8 (128 + r % 64)] by simp [Lib.runeCells, Lib.encodeRuneZ_four (by omega) h1]]
        exact rune4 hown hn r (by omega) h1
    obtain ⟨ao0, c0, rfl, _, _⟩ := own_form hown
    have HK : Hid (Calls Tryz.prog 197 #[.slice ao0 n c0, .int .i32 r] w (Grew q' (.slice ao0 n c0) n xs (Lib.runeCells r) w)) := key
    clear key hown h2
    go_enter Tryz.func163, Tryz.ntmps163
    go_wp2_with fail
    refine HK.out.mono ?_
    rintro e w1 ⟨ao, c, rfl, h3⟩
    have HG : Hid (Grew q' (.slice ao0 n c0) n xs (Lib.runeCells r) w (.returned (.slice ao (n + (Lib.runeCells r).length) c)) w1) := ⟨ao, c, rfl, h3⟩
    clear h3
    go_wp2_with fail
    go_ret
    exact HG.out
set_option maxHeartbeats 1000000 in
set_option maxRecDepth 100000 in
theorem with_any {w : World} {v : Value} {n : Nat} {xs : List Value} {q' : Bool} (hown : OwnQ w q' 5 1 v n xs) (hn : n ≤ 1000000000) (r : Int) : Calls Tryz.prog 164 #[v, .int .i64 r] w (Grew q' v n xs (Lib.byteCells (enc r)) w) := by
  unfold enc
  rw [Lib.byteCells_encodeRune]
  obtain ⟨q0, q1, q2⟩ := chr_ok r
  have hc := G9.char_any r
  obtain ⟨k, hk⟩ : ∃ k, G9.chr r = k := ⟨_, rfl⟩
  rw [hk] at q0 q1 q2 hc ⊢
  have key := appRune_any hown hn k q0 q1 q2
  obtain ⟨ao0, c0, rfl, _, _⟩ := own_form hown
  have HK : Hid (Calls Tryz.prog 163 #[.slice ao0 n c0, .int .i32 k] w (Grew q' (.slice ao0 n c0) n xs (Lib.runeCells k) w)) := key
  have HC : Hid (∀ w, Calls Tryz.prog 122 #[.int .i64 r] w fun e w' => e = .returned (.int .i32 k) ∧ w' = w) := hc
  clear key hown hc q2 hk
  go_enter Tryz.func164, Tryz.ntmps164
  go_wp2_with fail
  refine (HC.out _).mono ?_
  rintro e w1 ⟨rfl, hw1⟩
  obtain rfl := hw1.symm
  clear hw1
  go_wp2_with fail
  refine HK.out.mono ?_
  rintro e w1 ⟨ao, c, rfl, h3⟩
  have HG : Hid (Grew q' (.slice ao0 n c0) n xs (Lib.runeCells k) w (.returned (.slice ao (n + (Lib.runeCells k).length) c)) w1) := ⟨ao, c, rfl, h3⟩
  clear h3
  go_wp2_with fail
  go_ret
  exact HG.out
set_option maxHeartbeats 1000000 in
set_option maxRecDepth 100000 in
theorem withLower_any {w : World} {v : Value} {n : Nat} {xs : List Value} {q' : Bool} (hown : OwnQ w q' 5 1 v n xs) (hn : n ≤ 1000000000) (r : Int) : Calls Tryz.prog 186 #[v, .int .i64 r] w (Grew q' v n xs (Lib.byteCells (enc (lowr r))) w) := by
  have key := with_any hown hn (lowr r)
  obtain ⟨ao0, c0, rfl, _, _⟩ := own_form hown
  obtain ⟨L, hL⟩ : ∃ L, Lib.byteCells (enc (lowr r)) = L := ⟨_, rfl⟩
  rw [hL] at key ⊢
  clear hL hown
  unfold lowr at key
  split at key
  · rename_i hc
    have g1 : decide (65 ≤ r) = true := decide_eq_true hc.1
    have g2 : decide (r ≤ 90) = true := decide_eq_true hc.2
    have HK : Hid (Calls Tryz.prog 164 #[.slice ao0 n c0, .int .i64 (r + 32)] w (Grew q' (.slice ao0 n c0) n xs L w)) := key
    obtain ⟨hc1, hc2⟩ := hc
    clear key
    go_enter Tryz.func186, Tryz.ntmps186
    go_wp2_with fail
    refine HK.out.mono ?_
    rintro e w1 ⟨ao, c, rfl, h3⟩
    have HG : Hid (Grew q' (.slice ao0 n c0) n xs L w (.returned (.slice ao (n + L.length) c)) w1) := ⟨ao, c, rfl, h3⟩
    clear h3
    go_wp2_with fail
    go_ret
    exact HG.out
  · rename_i hc
    have HK : Hid (Calls Tryz.prog 164 #[.slice ao0 n c0, .int .i64 r] w (Grew q' (.slice ao0 n c0) n xs L w)) := key
    clear key
    by_cases h65 : 65 ≤ r
    · have h90 : ¬ r ≤ 90 := fun h => hc ⟨h65, h⟩
      clear hc
      go_enter Tryz.func186, Tryz.ntmps186
      go_wp2_with fail
      refine HK.out.mono ?_
      rintro e w1 ⟨ao, c, rfl, h3⟩
      have HG : Hid (Grew q' (.slice ao0 n c0) n xs L w (.returned (.slice ao (n + L.length) c)) w1) := ⟨ao, c, rfl, h3⟩
      clear h3
      go_wp2_with fail
      go_ret
      exact HG.out
    · clear hc
      go_enter Tryz.func186, Tryz.ntmps186
      go_wp2_with fail
      refine HK.out.mono ?_
      rintro e w1 ⟨ao, c, rfl, h3⟩
      have HG : Hid (Grew q' (.slice ao0 n c0) n xs L w (.returned (.slice ao (n + L.length) c)) w1) := ⟨ao, c, rfl, h3⟩
      clear h3
      go_wp2_with fail
      go_ret
      exact HG.out
set_option maxHeartbeats 1000000 in
set_option maxRecDepth 100000 in
theorem addName_any {Z : Nat → Prop} {S : Nat → Prop} {x : Nat} {m : Mc} {w : World} (h : Mach Z S x m w) (r : Int) (hn : m.tot ≤ 1000000000) : Calls Tryz.prog 154 #[.pointer (some ⟨x, 8, none⟩), .int .i64 r] w (Did Z S x (m.addName r) w) := by
  obtain ⟨v, T, h⟩ := h
  have hxw := h.lt
  have key := withLower_any (h.bag.own 2 _ rfl) (by unfold Mc.tot at hn; simp only; omega) r
  obtain ⟨ao, ca, e5, _, _⟩ := own_form (h.bag.own 2 _ rfl)
  simp only at e5 key
  have c5 := h.cells 10 v.n rfl
  have HM : Hid (MachV Z S x m v T w ∧ v.n = .slice ao m.nm.length ca) := ⟨h, e5⟩
  obtain ⟨k, hk⟩ : ∃ k, m.nm.length = k := ⟨_, rfl⟩
  obtain ⟨L, hL⟩ : ∃ L, Lib.byteCells (enc (lowr r)) = L := ⟨_, rfl⟩
  obtain ⟨X, hX⟩ : ∃ X, Lib.byteCells m.nm = X := ⟨_, rfl⟩
  have HL : Hid (Lib.byteCells (enc (lowr r)) = L ∧ m.nm.length = k ∧ Lib.byteCells m.nm = X) := ⟨hL, hk, hX⟩
  rw [e5, hL, hk, hX] at key
  rw [e5, hk] at c5
  have HK : Hid (Calls Tryz.prog 186 #[.slice ao k ca, .int .i64 r] w (Grew true (.slice ao k ca) k X L w)) := key
  clear h key e5 hk hL hX
  go_enter Tryz.func154, Tryz.ntmps154
  go_wp2_with fail
  refine HK.out.mono ?_
  rintro e w1 ⟨ao1, c1, rfl, h3, h4, h5⟩
  have hl : L.length = (enc (lowr r)).length := by rw [← HL.out.1]; simp [Lib.byteCells]
  have hp := HM.out.1.put (m' := m.addName r) (v' := { v with n := .slice ao1 (k + L.length) c1 }) (T' := T) 2 10 _ ⟨.slice ao1 (k + L.length) c1, 5, 1, k + L.length, X ++ L, true⟩ rfl h3 (fun g hg => by rw [show (rwN v.n m.nm).v = v.n from rfl, HM.out.2, HL.out.2.1]; exact h5 g hg) (by rw [show (rwN v.n m.nm).v = v.n from rfl, HM.out.2, HL.out.2.1]; exact h4)
    (by simp [Mc.rows, Mc.addName, ← HL.out.1, ← HL.out.2.1, ← HL.out.2.2, Lib.byteCells]) (by simp [Mc.cells, Mc.addName]) rfl rfl rfl HM.out.1.told HM.out.1.toks
  obtain ⟨q1, q2, q3, q4⟩ := hp
  have HP : Hid (Post Z S x (m.addName r) w (w1.setCell ⟨x, 10, none⟩ (.slice ao1 (k + L.length) c1))) := Post.of ⟨_, _, q1⟩ q2
  have q5 : w1.cell? ⟨x, 10, none⟩ = some v.n := q3
  clear q1 q2 q3 h3 h4 h5 hl
  go_wp2_with fail
  refine bodyPost_end (results_none rfl _ _ _) rfl ?_
  exact ⟨rfl, HP.out⟩
set_option maxHeartbeats 1000000 in
set_option maxRecDepth 100000 in
theorem addText_any {Z : Nat → Prop} {S : Nat → Prop} {x : Nat} {m : Mc} {w : World} (h : Mach Z S x m w) (r : Int) (hn : m.tot ≤ 1000000000) : Calls Tryz.prog 206 #[.pointer (some ⟨x, 8, none⟩), .int .i64 r] w (Did Z S x (m.addText r) w) := by
  obtain ⟨v, T, h⟩ := h
  have hxw := h.lt
  have key := with_any (h.bag.own 3 _ rfl) (by unfold Mc.tot at hn; simp only; omega) r
  obtain ⟨ao, ca, e5, _, _⟩ := own_form (h.bag.own 3 _ rfl)
  simp only at e5 key
  have c5 := h.cells 11 v.t rfl
  have HM : Hid (MachV Z S x m v T w ∧ v.t = .slice ao m.tx.length ca) := ⟨h, e5⟩
  obtain ⟨k, hk⟩ : ∃ k, m.tx.length = k := ⟨_, rfl⟩
  obtain ⟨L, hL⟩ : ∃ L, Lib.byteCells (enc r) = L := ⟨_, rfl⟩
  obtain ⟨X, hX⟩ : ∃ X, Lib.byteCells m.tx = X := ⟨_, rfl⟩
  have HL : Hid (Lib.byteCells (enc r) = L ∧ m.tx.length = k ∧ Lib.byteCells m.tx = X) := ⟨hL, hk, hX⟩
  rw [e5, hL, hk, hX] at key
  rw [e5, hk] at c5
  have HK : Hid (Calls Tryz.prog 164 #[.slice ao k ca, .int .i64 r] w (Grew false (.slice ao k ca) k X L w)) := key
  clear h key e5 hk hL hX
  go_enter Tryz.func206, Tryz.ntmps206
  go_wp2_with fail
  refine HK.out.mono ?_
  rintro e w1 ⟨ao1, c1, rfl, h3, h4, h5⟩
  have hl : L.length = (enc r).length := by rw [← HL.out.1]; simp [Lib.byteCells]
  have hp := HM.out.1.put (m' := m.addText r) (v' := { v with t := .slice ao1 (k + L.length) c1 }) (T' := T) 3 11 _ ⟨.slice ao1 (k + L.length) c1, 5, 1, k + L.length, X ++ L, false⟩ rfl h3 (fun g hg => by rw [show (rwB v.t m.tx).v = v.t from rfl, HM.out.2, HL.out.2.1]; exact h5 g hg) (by rw [show (rwB v.t m.tx).v = v.t from rfl, HM.out.2, HL.out.2.1]; exact h4)
    (by simp [Mc.rows, Mc.addText, ← HL.out.1, ← HL.out.2.1, ← HL.out.2.2, Lib.byteCells]) (by simp [Mc.cells, Mc.addText]) rfl rfl rfl HM.out.1.told HM.out.1.toks
  obtain ⟨q1, q2, q3, q4⟩ := hp
  have HP : Hid (Post Z S x (m.addText r) w (w1.setCell ⟨x, 11, none⟩ (.slice ao1 (k + L.length) c1))) := Post.of ⟨_, _, q1⟩ q2
  have q5 : w1.cell? ⟨x, 11, none⟩ = some v.t := q3
  clear q1 q2 q3 h3 h4 h5 hl
  go_wp2_with fail
  refine bodyPost_end (results_none rfl _ _ _) rfl ?_
  exact ⟨rfl, HP.out⟩
set_option maxHeartbeats 1000000 in
set_option maxRecDepth 100000 in
theorem addAttr_any {Z : Nat → Prop} {S : Nat → Prop} {x : Nat} {m : Mc} {w : World} (h : Mach Z S x m w) (r : Int) (hn : m.tot ≤ 1000000000) : Calls Tryz.prog 183 #[.pointer (some ⟨x, 8, none⟩), .int .i64 r] w (Did Z S x (m.addAttr r) w) := by
  obtain ⟨v, T, h⟩ := h
  have hxw := h.lt
  have key := withLower_any (h.bag.own 5 _ rfl) (by unfold Mc.tot at hn; simp only; omega) r
  obtain ⟨ao, ca, e5, _, _⟩ := own_form (h.bag.own 5 _ rfl)
  simp only at e5 key
  have c5 := h.cells 16 v.an rfl
  have HM : Hid (MachV Z S x m v T w ∧ v.an = .slice ao m.an.length ca) := ⟨h, e5⟩
  obtain ⟨k, hk⟩ : ∃ k, m.an.length = k := ⟨_, rfl⟩
  obtain ⟨L, hL⟩ : ∃ L, Lib.byteCells (enc (lowr r)) = L := ⟨_, rfl⟩
  obtain ⟨X, hX⟩ : ∃ X, Lib.byteCells m.an = X := ⟨_, rfl⟩
  have HL : Hid (Lib.byteCells (enc (lowr r)) = L ∧ m.an.length = k ∧ Lib.byteCells m.an = X) := ⟨hL, hk, hX⟩
  rw [e5, hL, hk, hX] at key
  rw [e5, hk] at c5
  have HK : Hid (Calls Tryz.prog 186 #[.slice ao k ca, .int .i64 r] w (Grew false (.slice ao k ca) k X L w)) := key
  clear h key e5 hk hL hX
  go_enter Tryz.func183, Tryz.ntmps183
  go_wp2_with fail
  refine HK.out.mono ?_
  rintro e w1 ⟨ao1, c1, rfl, h3, h4, h5⟩
  have hl : L.length = (enc (lowr r)).length := by rw [← HL.out.1]; simp [Lib.byteCells]
  have hp := HM.out.1.put (m' := m.addAttr r) (v' := { v with an := .slice ao1 (k + L.length) c1 }) (T' := T) 5 16 _ ⟨.slice ao1 (k + L.length) c1, 5, 1, k + L.length, X ++ L, false⟩ rfl h3 (fun g hg => by rw [show (rwB v.an m.an).v = v.an from rfl, HM.out.2, HL.out.2.1]; exact h5 g hg) (by rw [show (rwB v.an m.an).v = v.an from rfl, HM.out.2, HL.out.2.1]; exact h4)
    (by simp [Mc.rows, Mc.addAttr, ← HL.out.1, ← HL.out.2.1, ← HL.out.2.2, Lib.byteCells]) (by simp [Mc.cells, Mc.addAttr]) rfl rfl rfl HM.out.1.told HM.out.1.toks
  obtain ⟨q1, q2, q3, q4⟩ := hp
  have HP : Hid (Post Z S x (m.addAttr r) w (w1.setCell ⟨x, 16, none⟩ (.slice ao1 (k + L.length) c1))) := Post.of ⟨_, _, q1⟩ q2
  have q5 : w1.cell? ⟨x, 16, none⟩ = some v.an := q3
  clear q1 q2 q3 h3 h4 h5 hl
  go_wp2_with fail
  refine bodyPost_end (results_none rfl _ _ _) rfl ?_
  exact ⟨rfl, HP.out⟩
set_option maxHeartbeats 1000000 in
set_option maxRecDepth 100000 in
theorem addValue_any {Z : Nat → Prop} {S : Nat → Prop} {x : Nat} {m : Mc} {w : World} (h : Mach Z S x m w) (r : Int) (hn : m.tot ≤ 1000000000) : Calls Tryz.prog 124 #[.pointer (some ⟨x, 8, none⟩), .int .i64 r] w (Did Z S x (m.addValue r) w) := by
  obtain ⟨v, T, h⟩ := h
  have hxw := h.lt
  have key := with_any (h.bag.own 6 _ rfl) (by unfold Mc.tot at hn; simp only; omega) r
  obtain ⟨ao, ca, e5, _, _⟩ := own_form (h.bag.own 6 _ rfl)
  simp only at e5 key
  have c5 := h.cells 17 v.av rfl
  have HM : Hid (MachV Z S x m v T w ∧ v.av = .slice ao m.av.length ca) := ⟨h, e5⟩
  obtain ⟨k, hk⟩ : ∃ k, m.av.length = k := ⟨_, rfl⟩
  obtain ⟨L, hL⟩ : ∃ L, Lib.byteCells (enc r) = L := ⟨_, rfl⟩
  obtain ⟨X, hX⟩ : ∃ X, Lib.byteCells m.av = X := ⟨_, rfl⟩
  have HL : Hid (Lib.byteCells (enc r) = L ∧ m.av.length = k ∧ Lib.byteCells m.av = X) := ⟨hL, hk, hX⟩
  rw [e5, hL, hk, hX] at key
  rw [e5, hk] at c5
  have HK : Hid (Calls Tryz.prog 164 #[.slice ao k ca, .int .i64 r] w (Grew false (.slice ao k ca) k X L w)) := key
  clear h key e5 hk hL hX
  go_enter Tryz.func124, Tryz.ntmps124
  go_wp2_with fail
  refine HK.out.mono ?_
  rintro e w1 ⟨ao1, c1, rfl, h3, h4, h5⟩
  have hl : L.length = (enc r).length := by rw [← HL.out.1]; simp [Lib.byteCells]
  have hp := HM.out.1.put (m' := m.addValue r) (v' := { v with av := .slice ao1 (k + L.length) c1 }) (T' := T) 6 17 _ ⟨.slice ao1 (k + L.length) c1, 5, 1, k + L.length, X ++ L, false⟩ rfl h3 (fun g hg => by rw [show (rwB v.av m.av).v = v.av from rfl, HM.out.2, HL.out.2.1]; exact h5 g hg) (by rw [show (rwB v.av m.av).v = v.av from rfl, HM.out.2, HL.out.2.1]; exact h4)
    (by simp [Mc.rows, Mc.addValue, ← HL.out.1, ← HL.out.2.1, ← HL.out.2.2, Lib.byteCells]) (by simp [Mc.cells, Mc.addValue]) rfl rfl rfl HM.out.1.told HM.out.1.toks
  obtain ⟨q1, q2, q3, q4⟩ := hp
  have HP : Hid (Post Z S x (m.addValue r) w (w1.setCell ⟨x, 17, none⟩ (.slice ao1 (k + L.length) c1))) := Post.of ⟨_, _, q1⟩ q2
  have q5 : w1.cell? ⟨x, 17, none⟩ = some v.av := q3
  clear q1 q2 q3 h3 h4 h5 hl
  go_wp2_with fail
  refine bodyPost_end (results_none rfl _ _ _) rfl ?_
  exact ⟨rfl, HP.out⟩
theorem str_run {w : World} {v : Value} {n : Nat} {xs : List Value} (hown : w.ownsRow 0 5 1 v n xs) (hn : n ≤ 1000000000) (s : ByteArray) (hs : s.size ≤ 8) (h0 : 0 < s.size) :
    ∃ ao c W, (Builtin.append_ #[68, 9] 68 #[v, .string s]).run Tryz.prog w = .ok (.slice ao (n + s.size) c) W ∧ W.ownsRow 0 5 1 (.slice ao (n + s.size) c) (n + s.size) (xs ++ Lib.byteCells s.data.toList) ∧ w.grownBy W v.ownBlock ∧ ∀ g, (Value.slice ao (n + s.size) c).ownBlock = some g → v.ownBlock = some g ∨ w.heap.size ≤ g := by
  obtain ⟨i0, hi0, hz0, hzs0, hzb⟩ := info_parts info5
  obtain ⟨v', W, hr, h1, h2, _⟩ := Lib.run_append_own_string (P := Tryz.prog) w 0 68 9 68 5 i0 Tryz.underlying68 Tryz.underlying9 hi0 hz0 hzs0 hzb v n xs hown s (by unfold maxLen; omega) (by omega) (Nat.zero_le _)
  obtain ⟨ao, c, rfl, _, _⟩ := own_form (OwnQ.of (q := false) h1)
  refine ⟨ao, c, W, hr, h1, h2, fun g hg => ?_⟩
  rcases hown.2 with ⟨rfl, rfl⟩ | ⟨b, cap, cur, rfl, _, hb, hnc, hcm, hcs, htake⟩
  · rw [run_append_nil_string (P := Tryz.prog) w 68 9 68 5 i0 (.int .u8 0) Tryz.underlying68 Tryz.underlying9 hi0 hz0 s h0 (by omega) (by rw [hzb]; omega)] at hr
    simp only [Result.ok.injEq, Value.slice.injEq] at hr
    rw [← hr.1.1] at hg
    simp [Value.ownBlock] at hg
    exact .inr (by omega)
  · by_cases hroom : n + s.size ≤ cap
    · rw [Lib.run_append_room_string (P := Tryz.prog) w 68 9 68 5 i0 Tryz.underlying68 Tryz.underlying9 hi0 hzs0 b n cap cur hb s hroom (by omega)] at hr
      simp only [Result.ok.injEq, Value.slice.injEq] at hr
      rw [← hr.1.1] at hg
      exact .inl hg
    · rw [Lib.run_append_grow_string (P := Tryz.prog) w 68 9 68 5 i0 (.int .u8 0) Tryz.underlying68 Tryz.underlying9 hi0 hz0 ⟨b, 0, none⟩ n cap xs (by rw [hzs0]; exact hown.1) (hown.cells (g := b) rfl) s (by omega) (by omega) (by rw [hzb]; exact growslice_fits (by omega) (by omega))] at hr
      simp only [Result.ok.injEq, Value.slice.injEq] at hr
      rw [← hr.1.1] at hg
      simp [Value.ownBlock] at hg
      exact .inr (by omega)
set_option maxHeartbeats 1000000 in
set_option maxRecDepth 100000 in
theorem addDashes_any {Z : Nat → Prop} {S : Nat → Prop} {x : Nat} {m : Mc} {w : World} (h : Mach Z S x m w) (s : ByteArray) (hs : s.size ≤ 8) (h0 : 0 < s.size) (hn : m.tot ≤ 1000000000) : Calls Tryz.prog 218 #[.pointer (some ⟨x, 8, none⟩), .string s] w (Did Z S x (m.addDashes s.data.toList) w) := by
  obtain ⟨v, T, h⟩ := h
  have hxw := h.lt
  obtain ⟨ao1, c1, W, hrun, h3, h4, h5⟩ := str_run (h.bag.own 3 _ rfl).row (by unfold Mc.tot at hn; simp only; omega) s hs h0
  obtain ⟨ao, ca, e5, _, _⟩ := own_form (h.bag.own 3 _ rfl)
  simp only at e5 hrun h3
  have c5 := h.cells 11 v.t rfl
  have hsl : s.data.toList.length = s.size := Array.length_toList
  obtain ⟨q1, q2, q3, q4⟩ := h.put (m' := m.addDashes s.data.toList) (v' := { v with t := .slice ao1 (m.tx.length + s.size) c1 }) (T' := T) 3 11 _ ⟨.slice ao1 (m.tx.length + s.size) c1, 5, 1, m.tx.length + s.size, Lib.byteCells m.tx ++ Lib.byteCells s.data.toList, false⟩ rfl (.of h3) h5 h4 (by simp [Mc.rows, Mc.addDashes, Lib.byteCells]) (by simp [Mc.cells, Mc.addDashes]) rfl rfl rfl h.told h.toks
  have HP : Hid (Post Z S x (m.addDashes s.data.toList) w (W.setCell ⟨x, 11, none⟩ (.slice ao1 (m.tx.length + s.size) c1))) := Post.of ⟨_, _, q1⟩ q2
  have q5 : W.cell? ⟨x, 11, none⟩ = some v.t := q3
  rw [e5] at c5 hrun
  clear h q1 q2 q3 h3 h4 h5 e5 hsl
  obtain ⟨k, hk⟩ : ∃ k, m.tx.length = k := ⟨_, rfl⟩
  rw [hk] at c5 hrun HP
  clear hk
  go_enter Tryz.func218, Tryz.ntmps218
  go_wp2_with (at_builtin; refine list_append_eq rfl _ _ 68 9 rfl _ _ rfl rfl hrun ?_)
  refine bodyPost_end (results_none rfl _ _ _) rfl ?_
  exact ⟨rfl, HP.out⟩
end Go.Proofs.YtdiealijjhfhjaaGreatDoor
namespace Go.Proofs.YtdiealijjhfhjaaGreatDoor
open Go.RowKit Go.Maps
theorem conv_own {W : World} {v : Value} {l : List UInt8} {q : Bool} (h : OwnQ W q 5 1 v l.length (Lib.byteCells l)) : (convert 68 9 v).run Tryz.prog W = .ok (.string (bs l)) W := by
  rcases h.2 with ⟨rfl, h0⟩ | ⟨g, cap, cur, z, rfl, hg, _, h1, h2, h3, h4⟩
  · have : l = [] := List.eq_nil_of_length_eq_zero h0
    subst this
    exact run_convert_bytes_nil _ 68 5 Tryz.underlying68 Tryz.underlying5 0 0 9 Tryz.underlying9
  · refine run_convert_bytes_back W 68 9 5 ⟨g, 0, none⟩ cap l Tryz.underlying68 Tryz.underlying5 Tryz.underlying9 (fun j hj => ?_)
    rw [Addr.add_lit, Nat.zero_add]
    have e : (Lib.byteCells l)[j]? = some (.int .u8 (l[j].toNat : Nat)) := by simp [Lib.byteCells, List.getElem?_eq_getElem hj]
    rw [← h4, List.getElem?_take_of_lt (by omega), Array.getElem?_toList] at e
    simp [World.cell?, hg, e]
theorem zero91 (w : World) : (zeroValue 198).run Tryz.prog w = .ok (.agg #[]) w := by kernel_rfl
theorem make68 (w : World) (n : Int) : (Instr.makeMap 69 (some (.int .i64 n))).run Tryz.prog w = .ok (.map (some w.heap.size)) (w.alloc (.map #[] 0)) := by
  simp [Instr.makeMap, run_underlying Tryz.underlying69, asInt, asIntOf, Result.andThen]
theorem SetIs.below {K : TypeId} {w w' : World} {m k : Nat} {f : Value → Prop} (h : SetIs K w m k f) (b : Below w.heap.size w w') : SetIs K w' m k f := h.same (b.block m h.lt)
theorem set_made (K : TypeId) (w : World) : SetIs K (w.alloc (.map #[] 0)) w.heap.size 0 (fun _ => False) :=
  ⟨.map [], World.ownsMap_made _ _ _ _, fun v l _ => by simp [Maps.has]⟩
theorem put_set {K : TypeId} (law : Keyed Tryz.prog K) {D : DataW Unit} {f : Value → Prop} {v : Value} {l : Lit} {w : World} {m k : Nat} (hD : w.ownsMap Tryz.prog K unitElem m k D) (h2 : ∀ v l, keyOf Tryz.prog K v = some l → (Maps.has D l = true ↔ f v)) (hv : keyOf Tryz.prog K v = some l) :
    ∀ u lu, keyOf Tryz.prog K u = some lu → (Maps.has (D.put l (.agg [])) lu = true ↔ (f u ∨ u = v)) := fun u lu hu => by
  by_cases e : lu = l
  · subst e
    have : u = v := law.inj hu hv
    subst this
    rw [Maps.has_put_same hD.isMap (law.key hv)]
    simp
  · rw [Maps.has_put_other e, h2 u lu hu]
    have : u ≠ v := fun h => e (by rw [h, hv] at hu; exact (Option.some.inj hu).symm)
    simp [this]
theorem wpList_look_set {K T : TypeId} (law : Keyed Tryz.prog K) (hT : Tryz.prog.underlying T = some (.map K 198)) {w : World} {ops : Array Oper} {rest : List Oper} {o : Oper} {a : Act} {Q : Exit → Act → World → Prop} (hg : o.guard = none) (x y : Operand) (hop : o.op = Op.lookup T x y true)
    (m k : Nat) {f : Value → Prop} (hm : a.eval x = .map (some m)) (hs : SetIs K w m k f) (key : Value) (l : Lit) (hy : a.eval y = key) (hkey : keyOf Tryz.prog K key = some l) (r : Bool) (hr : r = true ↔ f key)
    (hK : wpList Tryz.prog ops Q rest (a.put o.dst (.tuple #[.agg #[], .bool r])) w) : wpList Tryz.prog ops Q (o :: rest) a w := by
  obtain ⟨D, h1, h2⟩ := hs
  have e : Maps.has D l = r := by rw [Bool.eq_iff_iff, h2 key l hkey, hr]
  refine wpList_lookup_own_unit _ hg x y T hop K 198 law hT (zero91 _) m k D hm h1 key l hy hkey ?_
  rw [e]
  exact hK
theorem wpList_put_set {K T : TypeId} (law : Keyed Tryz.prog K) (hT : Tryz.prog.underlying T = some (.map K 198)) {w : World} {ops : Array Oper} {rest : List Oper} {o : Oper} {a : Act} {Q : Exit → Act → World → Prop} (hg : o.guard = none) (x y z : Operand) (hop : o.op = Op.mapUpdate T x y z)
    (m k : Nat) {f : Value → Prop} (hm : a.eval x = .map (some m)) (hs : SetIs K w m k f) (hk : k < maxLen) (key : Value) (l : Lit) (hy : a.eval y = key) (hz : a.eval z = .agg #[]) (hkey : keyOf Tryz.prog K key = some l)
    (hK : ∀ w', SetIs K w' m (k + 1) (fun u => f u ∨ u = key) → w.grownBy w' (some m) → wpList Tryz.prog ops Q rest (a.put o.dst undef) w') : wpList Tryz.prog ops Q (o :: rest) a w := by
  obtain ⟨D, h1, h2⟩ := hs
  refine wpList_mapUpdate_own _ hg x y z T hop K 198 law hT (unitElem (H := Unit)) m k D hm h1 hk key (.agg #[]) l hy hz hkey (.agg []) [] unitElem_mk ?_
  intro w' hown hgr
  exact hK w' ⟨_, hown, put_set law h1 h2 hkey⟩ hgr
theorem take_at {L : List At} {i : Nat} {x : At} (h : L[i]? = some x) : L.take (i + 1) = L.take i ++ [x] := by
  obtain ⟨h1, rfl⟩ := List.getElem?_eq_some_iff.1 h
  exact (List.take_append_getElem h1).symm
set_option maxHeartbeats 2000000 in
set_option maxRecDepth 20000 in
theorem namesOf_any {w : World} {ao : Option Addr} {L : List At} (n cap : Nat) (ha : G9.AtRow w ao L) (hn : L.length = n) (hn2 : n ≤ 1000000000) (hfine : ∀ a ∈ L, a.n.size ≤ 1000000000) :
    Calls Tryz.prog 211 #[.slice ao n cap] w fun e w' => ∃ b, e = .returned (.map (some b)) ∧ w.heap.size ≤ b ∧ SetIs 9 w' b n (fun v => ∃ x ∈ L, v = .string x.n) ∧ Below w.heap.size w w' := by
  have HA : Hid (G9.AtRow w ao L ∧ L.length = n ∧ ∀ a ∈ L, a.n.size ≤ 1000000000) := ⟨ha, hn, hfine⟩
  clear ha hn hfine
  have hmm := make68
  obtain ⟨V, hV⟩ : ∃ V, w.alloc (.map #[] 0) = V := ⟨_, rfl⟩
  have HV : Hid (SetIs 9 V w.heap.size 0 (fun _ => False) ∧ Below w.heap.size w V) := by
    rw [← hV]
    exact ⟨set_made 9 w, (Below.refl _ _).alloc (Nat.le_refl _) _⟩
  go_enter Tryz.func211, Tryz.ntmps211
  go_wp2_with fail
  clear hmm hV
  go_loopg [12] n (fun g2 iv wr => ∃ i : Nat, iv = .int .i64 i ∧ i + g2 = n ∧ SetIs 9 wr w.heap.size i (fun v => ∃ x ∈ L.take i, v = .string x.n) ∧ Below w.heap.size w wr)
  case atStart => exact ⟨0, rfl, by omega, HV.out.1.iff (fun v => by simp), HV.out.2⟩
  case round =>
    obtain ⟨i, rfl, hig, hgi, hbe⟩ := hrel
    have HG : Hid (SetIs 9 wr w.heap.size i (fun v => ∃ x ∈ L.take i, v = .string x.n) ∧ Below w.heap.size w wr) := ⟨hgi, hbe⟩
    clear hgi hbe
    cases gk with
    | zero =>
      obtain rfl : i = n := by omega
      have hg0 : decide ((i : Int) < (i : Int)) = false := decide_eq_false (by omega)
      go_wp2_with fail
      go_ret
      have h := HG.out
      rw [List.take_of_length_le (by rw [HA.out.2.1]; exact Nat.le_refl _)] at h
      exact ⟨w.heap.size, rfl, Nat.le_refl _, h⟩
    | succ k =>
      have hin : i < n := by omega
      obtain ⟨x, hx⟩ : ∃ x, L[i]? = some x := ⟨_, List.getElem?_eq_getElem (by rw [HA.out.2.1]; exact hin)⟩
      obtain ⟨b1, o1, rfl, h1, c1, c2⟩ := (HA.out.1.below HG.out.2) i x hx
      have HT : Hid (L.take (i + 1) = L.take i ++ [x]) := take_at hx
      have hsz := HA.out.2.2 x (List.mem_of_getElem? hx)
      clear hx
      obtain ⟨nm, vl⟩ := x
      simp only at c1 c2 hsz
      have hkey := WideMaps.keyOf_string_mk (P := Tryz.prog) Tryz.underlying9 (s := nm) (by unfold maxLen; omega)
      obtain ⟨V1, hV1⟩ : ∃ V1, wr.alloc (.cells #[.string nm, .string vl] 108) = V1 := ⟨_, rfl⟩
      have b1' : Below wr.heap.size wr V1 := by rw [← hV1]; exact (Below.refl _ _).alloc (Nat.le_refl _) _
      have HV1 : Hid (Below wr.heap.size wr V1) := b1'
      have hVn : V1.heap[wr.heap.size]? = some (.cells #[.string nm, .string vl] 108 (0, 0)) := by rw [← hV1]; exact heap_alloc_new _ _
      have d0 : V1.cell? ⟨wr.heap.size, 0, none⟩ = some (.string nm) := by simp [World.cell?, hVn]
      have d1 : V1.cell? ⟨wr.heap.size, 1, none⟩ = some (.string vl) := by simp [World.cell?, hVn]
      have hset : SetIs 9 V1 w.heap.size i (fun v => ∃ x ∈ L.take i, v = .string x.n) := HG.out.1.below b1'
      have HB1 : Hid (Below w.heap.size w V1) := HG.out.2.trans (b1'.mono HG.out.2.size)
      clear hVn b1' hsz
      go_wp2_with (at_mapUpdate; refine wpList_put_set law9 Tryz.underlying69 rfl _ _ _ rfl w.heap.size i rfl hset (by unfold maxLen; omega) _ _ rfl rfl hkey ?_; intro w2 hs2 hg2)
      have HN : Hid (SetIs 9 w2 w.heap.size (i + 1) (fun v => ∃ x ∈ L.take (i + 1), v = .string x.n) ∧ Below w.heap.size w w2) := by
        refine ⟨hs2.iff fun v => ?_, HB1.out.grown hg2 HB1.out.size (fun j hj => by cases hj; exact Nat.le_refl _)⟩
        rw [HT.out]
        simp only [List.mem_append, List.mem_singleton]
        constructor
        · rintro (⟨x, h1, h2⟩ | h)
          · exact ⟨x, .inl h1, h2⟩
          · exact ⟨_, .inr rfl, h⟩
        · rintro ⟨x, h1 | h1, h2⟩
          · exact .inl ⟨x, h1, h2⟩
          · subst h1; exact .inr h2
      clear hs2 hg2 hset
      go_roundg k
      case measure => omega
      case rel => exact ⟨i + 1, by go_num, by omega, HN.out⟩
theorem get_some (L : List At) (s : ByteArray) : (G9.getP L s.data.toList).isSome = L.any fun a => decide (a.nm = s.data.toList) := by
  unfold G9.getP
  rw [Bool.eq_iff_iff, List.find?_isSome, List.any_eq_true]
theorem rowA {w : World} {v : Value} {L : List At} (h : Rw.own w (rwA v L)) : ∃ ao cap, v = .slice ao L.length cap ∧ G9.AtRow w ao L := by
  obtain ⟨ao, cap, e, h1, _⟩ := G9.row_at (B := 0) h.row
  exact ⟨ao, cap, e, h1⟩
theorem eql68 (o : Option Nat) (w : World) : (binOp .eql 69 (.map o) (.map none)).run Tryz.prog w = .ok (.bool o.isNone) w := by
  cases o <;> kernel_rfl
theorem neq68 (o : Option Nat) (w : World) : (binOp .neq 69 (.map o) (.map none)).run Tryz.prog w = .ok (.bool (!o.isNone)) w := by
  cases o <;> kernel_rfl
set_option maxHeartbeats 2000000 in
set_option maxRecDepth 20000 in
theorem has_any {Z : Nat → Prop} {S : Nat → Prop} {x : Nat} {m : Mc} {w : World} (h : Mach Z S x m w) (s : ByteArray) (hs : s.size ≤ 1000000000) : Calls Tryz.prog 223 #[.pointer (some ⟨x, 8, none⟩), .string s] w fun e w' => e = .returned (.bool (m.attrs.any fun a => decide (a.nm = s.data.toList))) ∧ Below w.heap.size w w' := by
  obtain ⟨v, T, h⟩ := h
  have hxw := h.lt
  have c14 := h.cells 14 v.m rfl
  have c13 := h.cells 13 v.a rfl
  obtain ⟨ao, ca, ea, hrow⟩ := rowA (h.bag.own 4 _ rfl)
  rw [ea] at c13
  rcases h.names with ⟨hf, ⟨h8, em⟩ | ⟨h8, b, em, hb, hset⟩⟩
  · rw [em] at c14
    obtain ⟨n, hn⟩ : ∃ n, m.attrs.length = n := ⟨_, rfl⟩
    have hg := G9.get_any n ca s hrow hn (by omega)
    rw [get_some] at hg
    rw [hn] at c13
    obtain ⟨R, hR⟩ : ∃ R, (m.attrs.any fun a => decide (a.nm = s.data.toList)) = R := ⟨_, rfl⟩
    obtain ⟨G, hG⟩ : ∃ G, G9.gv (G9.getP m.attrs s.data.toList) = G := ⟨_, rfl⟩
    rw [hG] at hg
    rw [hR] at hg ⊢
    have HG : Hid (Calls Tryz.prog 225 #[.slice ao n ca, .string s] w fun e w' => e = .returned (.tuple #[.string G, .bool R]) ∧ Below w.heap.size w w') := hg
    have hq := eql68 none w
    clear h hf hg hR hG hn h8 em hrow ea
    go_enter Tryz.func223, Tryz.ntmps223
    go_wp2_with fail
    refine HG.out.mono ?_
    rintro e w1 ⟨rfl, b1⟩
    have B1 : Hid (Below w.heap.size w w1) := b1
    clear b1
    go_wp2_with fail
    go_ret
    exact ⟨rfl, B1.out⟩
  · rw [em] at c14
    have hkey := WideMaps.keyOf_string_mk (P := Tryz.prog) Tryz.underlying9 (s := s) (by unfold maxLen; omega)
    obtain ⟨R, hR⟩ : ∃ R, (m.attrs.any fun a => decide (a.nm = s.data.toList)) = R := ⟨_, rfl⟩
    have hr : R = true ↔ ∃ a ∈ m.attrs, Value.string s = .string a.n := by
      rw [← hR, List.any_eq_true]
      constructor
      · rintro ⟨a, h1, h2⟩
        exact ⟨a, h1, by rw [G9.bytes_eq (of_decide_eq_true h2)]⟩
      · rintro ⟨a, h1, h2⟩
        refine ⟨a, h1, decide_eq_true ?_⟩
        simp only [Value.string.injEq] at h2
        rw [h2]
    have hq := eql68 (some b) w
    rw [hR]
    clear h hf hR h8 em hrow ea
    go_enter Tryz.func223, Tryz.ntmps223
    go_wp2_with (at_lookup; refine wpList_look_set law9 Tryz.underlying69 rfl _ _ rfl b _ rfl hset _ _ rfl hkey R hr ?_)
    go_ret
    exact ⟨rfl, (Below.refl _ _).alloc (Nat.le_refl _) _⟩
end Go.Proofs.YtdiealijjhfhjaaGreatDoor
