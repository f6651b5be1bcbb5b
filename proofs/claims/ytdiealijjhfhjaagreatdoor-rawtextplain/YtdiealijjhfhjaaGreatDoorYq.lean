/- A new reader: plainName, ahead, newReader. -/
import Derived.Test.YtdiealijjhfhjaaGreatDoorYp
namespace Go.Proofs.YtdiealijjhfhjaaGreatDoor
open Go.RowKit
def lowC (b : UInt8) : Bool := decide (97 ≤ b.toNat ∧ b.toNat ≤ 122)
def plainB (s : ByteArray) : Bool := s.data.toList.all lowC && decide (s.data.toList ≠ [])
set_option maxHeartbeats 1000000 in
set_option maxRecDepth 20000 in
theorem plainName_any (s : ByteArray) (w : World) (hs : s.size ≤ 100000) : Calls Tryz.prog 32 #[.string s] w fun e w' => e = .returned (.bool (plainB s)) ∧ w' = w := by
  go_enter Tryz.func32, Tryz.ntmps32
  go_wp2_with fail
  go_loopw [6] (fun iv wr => ∃ i : Nat, iv = .int .i64 i ∧ i ≤ s.size ∧ wr = w ∧ (s.data.toList.take i).all lowC = true) (fun iv _ => s.size - (intOf iv).toNat)
  case atStart => exact ⟨0, rfl, Nat.zero_le _, rfl, rfl⟩
  case round =>
    obtain ⟨i, rfl, hin, rfl, ha⟩ := hrel
    have HA : Hid ((s.data.toList.take i).all lowC = true) := ha
    clear ha
    by_cases hlt : i < s.size
    · have hlt' : decide ((i : Int) < (s.size : Int)) = true := decide_eq_true (by omega)
      have h1 : i < s.data.toList.length := by rw [Array.length_toList]; exact hlt
      have hb : s.data.toList[i] = s[i] := by simp [ByteArray.getElem_eq_getElem_data]
      have HT : Hid (s.data.toList.take (i + 1) = s.data.toList.take i ++ [s[i]] ∧ s[i] ∈ s.data.toList) := ⟨by rw [List.take_succ_eq_append_getElem h1, hb], by rw [← hb]; exact List.getElem_mem h1⟩
      clear hb
      by_cases g1 : s[i].toNat < 97
      · have g1' : decide ((s[i].toNat : Int) < 97) = true := decide_eq_true (by omega)
        go_wp2_with fail
        go_ret
        refine ⟨?_, rfl⟩
        have : plainB s = false := by
          unfold plainB
          rw [Bool.and_eq_false_iff]
          left
          rw [List.all_eq_false]
          exact ⟨s[i], HT.out.2, by unfold lowC; simp; omega⟩
        rw [this]
        rfl
      · have g1' : decide ((s[i].toNat : Int) < 97) = false := decide_eq_false (by omega)
        by_cases g2 : s[i].toNat > 122
        · have g2' : decide ((s[i].toNat : Int) > 122) = true := decide_eq_true (by omega)
          go_wp2_with fail
          go_ret
          refine ⟨?_, rfl⟩
          have : plainB s = false := by
            unfold plainB
            rw [Bool.and_eq_false_iff]
            left
            rw [List.all_eq_false]
            exact ⟨s[i], HT.out.2, by unfold lowC; simp; omega⟩
          rw [this]
          rfl
        · have g2' : decide ((s[i].toNat : Int) > 122) = false := decide_eq_false (by omega)
          go_wp2_with fail
          refine ⟨⟨i + 1, by go_num, by omega, trivial, ?_⟩, by simp [intOf]; omega⟩
          rw [HT.out.1, List.all_append, HA.out]
          simp [lowC]; omega
    · have hlt' : decide ((i : Int) < (s.size : Int)) = false := decide_eq_false (by omega)
      have hall : s.data.toList.all lowC = true := by
        have := HA.out
        rw [List.take_of_length_le (by rw [Array.length_toList]; have h3 : s.data.size = s.size := rfl; omega)] at this
        exact this
      have HB : Hid (plainB s = !s.toList.isEmpty) := by
        show _ = _
        unfold plainB
        rw [hall, ByteArray.toList_eq]
        cases s.data.toList <;> simp
      clear hall
      go_wp2_with fail
      go_ret
      exact ⟨by rw [HB.out]; rfl, rfl⟩
def ahF : Int → List UInt8 → List Ch
  | _, [] => []
  | p, b :: t => ⟨(b.toNat : Int), p, p + 1⟩ :: ahF (p + 1) t
theorem ahF_len : ∀ (l : List UInt8) (p : Int), (ahF p l).length = l.length
  | [], _ => rfl
  | _ :: t, p => by simp [ahF, ahF_len t]
theorem ahF_app : ∀ (l k : List UInt8) (p : Int), ahF p (l ++ k) = ahF p l ++ ahF (p + (l.length : Nat)) k
  | [], k, p => by simp [ahF]
  | b :: t, k, p => by
    rw [List.cons_append, ahF, ahF, ahF_app t k, List.cons_append, List.length_cons]
    congr 3
    omega
def ahC (l : List UInt8) : List Ch := ahF (-(l.length : Int)) l
theorem ahF_snoc (l : List UInt8) (i : Nat) (h : i < l.length) (p : Int) : ahF p (l.take (i + 1)) = ahF p (l.take i) ++ [⟨(l[i].toNat : Int), p + (i : Nat), p + (i : Nat) + 1⟩] := by
  rw [List.take_succ_eq_append_getElem h, ahF_app, List.length_take, Nat.min_eq_left (by omega)]
  rfl
set_option maxHeartbeats 2000000 in
set_option maxRecDepth 20000 in
theorem ahead_any {B r x xs d : Nat} {m : Mc} {v : Vs} {tn : Bool} {p : Int} {u : List UInt8} {wt : Ch} {fv : Value} {fs : List (Int × Int)} {W : World} (h : Rd B r x xs d m v tn p u wt fv fs W) (hg : Good 0 m) (s : ByteArray) (hs : s.size ≤ 6000) :
    Calls Tryz.prog 33 #[.pointer (some ⟨r, 0, none⟩), .string s] W fun e W' => e = .returned (.tuple #[]) ∧ ∃ v', Rd B r x xs d (Mc.feeds false (ahC s.data.toList) m).2 v' tn p u wt fv fs W' ∧ Fr (Own r x xs d m v fv) (Own r x xs d (Mc.feeds false (ahC s.data.toList) m).2 v' fv) W W' := by
  have HR : Hid (Rd B r x xs d m v tn p u wt fv fs W ∧ Good 0 m) := ⟨h, hg⟩
  clear h hg
  have hsl : s.data.toList.length = s.size := Array.length_toList
  have HSL : Hid (s.data.toList.length = s.size) := hsl
  clear hsl
  go_enter Tryz.func33, Tryz.ntmps33
  go_wp2_with fail
  go_loopw [8] (fun iv wr => ∃ (i : Nat) (v' : Vs), iv = .int .i64 i ∧ i ≤ s.size ∧ Rd B r x xs d (Mc.feeds false (ahF (-(s.size : Int)) (s.data.toList.take i)) m).2 v' tn p u wt fv fs wr ∧ Fr (Own r x xs d m v fv) (Own r x xs d (Mc.feeds false (ahF (-(s.size : Int)) (s.data.toList.take i)) m).2 v' fv) W wr) (fun iv _ => s.size - (intOf iv).toNat)
  case atStart => exact ⟨0, v, rfl, Nat.zero_le _, HR.out.1, Fr.refl _ _⟩
  case round =>
    obtain ⟨i, v', rfl, hin, hr, hf⟩ := hrel
    have hxr := hr.lt
    have c1 : wr.cell? ⟨r, 1, none⟩ = some (.pointer (some ⟨x, 0, none⟩)) := by simp [World.cell?, hr.blk]
    by_cases hlt : i < s.size
    · have hlt' : decide ((i : Int) < (s.size : Int)) = true := decide_eq_true (by omega)
      have h1 : i < s.data.toList.length := by rw [HSL.out]; exact hlt
      have hb : s.data.toList[i] = s[i] := by simp [ByteArray.getElem_eq_getElem_data]
      obtain ⟨M, hM⟩ : ∃ M, (Mc.feeds false (ahF (-(s.size : Int)) (s.data.toList.take i)) m).2 = M := ⟨_, rfl⟩
      rw [hM] at hr hf
      have HE : Hid ((Mc.feeds false (ahF (-(s.size : Int)) (s.data.toList.take (i + 1))) m).2 = (M.feed ⟨((s[i]'hlt).toNat : Int), (i : Int) - (s.size : Int), (i : Int) - (s.size : Int) + 1⟩).2) := by
        show _ = _
        rw [ahF_snoc _ i h1, feeds_snoc]
        unfold fdStep
        rw [hM, hb, show -(s.size : Int) + (i : Nat) = (i : Int) - (s.size : Int) by omega]
        rfl
      have HGM : Hid (Good i M) := by
        have := feeds_good false HR.out.2 (ahF (-(s.size : Int)) (s.data.toList.take i))
        rw [hM, ahF_len, List.length_take, HSL.out, Nat.min_eq_left (by omega), Nat.zero_add] at this
        exact this
      have HA : Hid (Rd B r x xs d M v' tn p u wt fv fs wr ∧ Fr (Own r x xs d m v fv) (Own r x xs d M v' fv) W wr) := ⟨hr, hf⟩
      have HCL : Hid (∀ w' (a q q' : Int), Below wr.heap.size wr w' → Calls Tryz.prog 48 #[mp x, cv ⟨a, q, q'⟩] w' fun e W' => ∃ v2 rv, e = .returned rv ∧ Rd B r x xs d (M.feed ⟨a, q, q'⟩).2 v2 tn p u wt fv fs W' ∧ Fr (Own r x xs d m v fv) (Own r x xs d (M.feed ⟨a, q, q'⟩).2 v2 fv) W W') := fun w' a q q' hb' => by
        refine ((HA.out.1.below hb').gave (fun U hU => feed_any hU HGM.out ⟨a, q, q'⟩ (by omega))).mono ?_
        rintro e W' ⟨v2, T', ao, cap, rfl, k1, k2, k3, k4, k5, _⟩
        exact ⟨v2, _, rfl, k3, HA.out.2.trans ((Fr.old hb').trans k4)⟩
      clear hr hf hM hb
      have hw1 : IntKind.i64.wrap ((s[i]'hlt).toNat : Int) = ((s[i]'hlt).toNat : Int) := by have := (s[i]'hlt).toNat_lt; rw [IntKind.wrap_i64]; omega
      have hw2 : IntKind.i64.wrap ((i : Int) - (s.size : Int) + 1) = (i : Int) - (s.size : Int) + 1 := by rw [IntKind.wrap_i64]; omega
      go_upto_region 4 with fail
      go_region_with (go_at_call 48; refine (HCL.out _ _ _ _ ((Below.refl _ _).drew)).mono ?_; rintro e w1 ⟨v2, rv, rfl, hgv⟩)
      all_goals
        have HZ : Hid (Rd B r x xs d (Mc.feeds false (ahF (-(s.size : Int)) (s.data.toList.take (i + 1))) m).2 v2 tn p u wt fv fs w1 ∧ Fr (Own r x xs d m v fv) (Own r x xs d (Mc.feeds false (ahF (-(s.size : Int)) (s.data.toList.take (i + 1))) m).2 v2 fv) W w1) := by rw [HE.out]; exact hgv
        clear hgv
        go_wp2_with fail
        exact ⟨⟨i + 1, v2, by go_num, by omega, HZ.out⟩, by simp [intOf]; omega⟩
    · have hlt' : decide ((i : Int) < (s.size : Int)) = false := decide_eq_false (by omega)
      have HZ : Hid (∃ v', Rd B r x xs d (Mc.feeds false (ahC s.data.toList) m).2 v' tn p u wt fv fs wr ∧ Fr (Own r x xs d m v fv) (Own r x xs d (Mc.feeds false (ahC s.data.toList) m).2 v' fv) W wr) := by
        rw [List.take_of_length_le (by rw [HSL.out]; omega)] at hr hf
        refine ⟨v', ?_, ?_⟩
        · unfold ahC; rw [HSL.out]; exact hr
        · unfold ahC; rw [HSL.out]; exact hf
      clear hr hf
      go_wp2_with fail
      exact bodyPost_end (results_none rfl _ _ _) rfl ⟨rfl, HZ.out⟩
end Go.Proofs.YtdiealijjhfhjaaGreatDoor
namespace Go.Proofs.YtdiealijjhfhjaaGreatDoor
open Go.RowKit
theorem rdA_nil (B r x xs d : Nat) (m : Mc) (v : Vs) (tn : Bool) (fv : Value) (W : World) : RdA B r x xs d m v tn [] fv W = Rd B r x xs d m v tn 0 [] G4.Ch0 fv [] W := rfl
def rdM (last : ByteArray) : Mc := if plainB last = true then (Mc.feeds false (ahC (60 :: last.data.toList ++ [62])) Mc.new).2 else Mc.new
theorem rdM_good (last : ByteArray) (h : last.size ≤ 5000) : ∃ n, n ≤ 6000 ∧ Good n (rdM last) := by
  unfold rdM
  split
  · refine ⟨_, ?_, feeds_good false good_new _⟩
    unfold ahC
    rw [ahF_len]
    simp only [List.length_cons, List.length_append, List.length_nil]
    have : last.data.toList.length = last.size := Array.length_toList
    omega
  · exact ⟨0, by omega, good_new⟩
set_option maxHeartbeats 2000000 in
set_option maxRecDepth 20000 in
theorem newR_any {W : World} (H : G6.Hi W) (last : ByteArray) (hl : last.size ≤ 5000) :
    Calls Tryz.prog 20 #[.string last] W fun e W' => ∃ r x xs d v, e = .returned (.pointer (some ⟨r, 0, none⟩)) ∧ RdA W.heap.size r x xs d (rdM last) v false [] (.slice none 0 0) W' ∧ Below W.heap.size W W' := by
  have hW1 := H.lt
  have HH : Hid (G6.Hi W) := H
  clear H
  go_enter Tryz.func20, Tryz.ntmps20
  go_wp2_with fail
  refine (G4.snew_any W).mono ?_
  rintro e W1 ⟨rfl, k1, k2, k3⟩
  have HS : Hid (G4.Strm (W.heap.size + 1) W.heap.size 0 [] G4.Ch0 W1 ∧ Below W.heap.size W W1 ∧ W1.heap.size = W.heap.size + 2) := ⟨k1, k2, k3⟩
  clear k1 k2 k3
  go_wp2_with fail
  refine (new_any (S := fun k => k < W1.heap.size) (HH.out.below HS.out.2.1 hW1) (fun _ h => h) (by show 1 < _; have := HS.out.2.2; omega)).mono ?_
  rintro e W2 ⟨rfl, q1, q2⟩
  obtain ⟨W3, hW3⟩ : ∃ W3, W2.alloc (.cells #[.pointer (some ⟨W.heap.size + 1, 0, none⟩), .pointer (some ⟨W1.heap.size, 0, none⟩), .bool false, .slice none 0 0] 52) = W3 := ⟨_, rfl⟩
  have b3 : Below W2.heap.size W2 W3 := by rw [← hW3]; exact (Below.refl _ _).alloc (Nat.le_refl _) _
  have n3 : W3.heap[W2.heap.size]? = some (.cells #[.pointer (some ⟨W.heap.size + 1, 0, none⟩), .pointer (some ⟨W1.heap.size, 0, none⟩), .bool false, .slice none 0 0] 52 (0, 0)) := by rw [← hW3]; exact heap_alloc_new _ _
  have H3 : Hid (Rd W.heap.size W2.heap.size W1.heap.size (W.heap.size + 1) W.heap.size Mc.new newV false 0 [] G4.Ch0 (.slice none 0 0) [] W3 ∧ Below W.heap.size W W3) := by
    have hs := HS.out.2.2
    have hz2 := q2.size
    have m3 := q1.below b3
    have hft : ∀ k, Foot W1.heap.size Mc.new newV [] k → k = W1.heap.size := fun k hf => by
      rcases hf with e | ⟨i, rw', hr, hg⟩ | hm
      · exact e
      · have := List.mem_of_getElem? hr
        simp only [Mc.rows, newV, Mc.new, List.mem_cons, List.not_mem_nil, or_false] at this
        rcases this with rfl | rfl | rfl | rfl | rfl | rfl | rfl | rfl | rfl <;> simp [Value.ownBlock] at hg
      · simp [newV] at hm
    refine ⟨⟨n3, (HS.out.1.below q2).below b3, ⟨rfl, .inl ⟨rfl, rfl⟩⟩, ⟨hW1, by omega, by omega, Nat.le_refl _⟩, m3.over (by show 1 < _; omega) (G := fun _ => False) (fun _ h => h.elim) (Keep.refl _ _), rfl, fun k hf => ?_, fun g hg => by simp [Value.ownBlock] at hg⟩, ?_⟩
    · rw [hft k hf]; omega
    · exact HS.out.2.1.trans ((q2.mono (by omega)).trans (b3.mono (by omega)))
  clear q1 q2 b3 n3
  have hr3 := H3.out.1.lt
  by_cases hp : plainB last = true
  · obtain ⟨tg, htg⟩ : ∃ tg : ByteArray, ⟨#[60]⟩ ++ last ++ ⟨#[62]⟩ = tg := ⟨_, rfl⟩
    have HTG : Hid (tg.data.toList = 60 :: last.data.toList ++ [62] ∧ tg.size ≤ 6000) := by
      refine ⟨by rw [← htg]; simp [ByteArray.data_append], ?_⟩
      rw [← htg, ByteArray.size_append, ByteArray.size_append]
      show 1 + last.size + 1 ≤ 6000
      omega
    go_wp2_with (go_at_call 32; refine (plainName_any last _ (by omega)).mono ?_; rintro e w' ⟨rfl, hw'⟩; obtain rfl := hw'.symm; rw [hp])
    refine (ahead_any H3.out.1 good_new tg HTG.out.2).mono ?_
    rintro e W4 ⟨rfl, v4, q1, q2⟩
    have H4 : Hid (RdA W.heap.size W2.heap.size W1.heap.size (W.heap.size + 1) W.heap.size (rdM last) v4 false [] (.slice none 0 0) W4 ∧ Below W.heap.size W W4) := by
      have em : (Mc.feeds false (ahC tg.data.toList) Mc.new).2 = rdM last := by unfold rdM; rw [if_pos hp, HTG.out.1]
      refine ⟨by rw [rdA_nil, ← em]; exact q1, ?_⟩
      refine ⟨q2.keep.os.trans H3.out.2.os, q2.keep.tape.trans H3.out.2.tape, q2.keep.output.trans H3.out.2.output, Nat.le_trans H3.out.2.size q2.keep.size, fun k hk => ?_⟩
      rw [q2.keep.block k (fun ho => by have := (H3.out.1.own_lt ho).2; omega) (Nat.lt_of_lt_of_le hk H3.out.2.size)]
      exact H3.out.2.block k hk
    clear q1 q2
    go_wp2_with fail
    go_ret
    exact ⟨W2.heap.size, W1.heap.size, W.heap.size + 1, W.heap.size, v4, rfl, H4.out⟩
  · have hp' : plainB last = false := by simpa using hp
    go_wp2_with (go_at_call 32; refine (plainName_any last _ (by omega)).mono ?_; rintro e w' ⟨rfl, hw'⟩; obtain rfl := hw'.symm; rw [hp'])
    go_ret
    refine ⟨W2.heap.size, W1.heap.size, W.heap.size + 1, W.heap.size, newV, rfl, ?_, H3.out.2⟩
    have em : rdM last = Mc.new := by unfold rdM; rw [if_neg hp]
    rw [rdA_nil, em]
    exact H3.out.1
end Go.Proofs.YtdiealijjhfhjaaGreatDoor
namespace Go.Proofs.YtdiealijjhfhjaaGreatDoor
open Go.RowKit
def M0 (text : Int) (last : ByteArray) : Mc := (rdM last).set text
def tkP (s : ByteArray) (text : Int) (last : ByteArray) : List Pt := (Mc.feeds false (chars s) (M0 text last)).1 ++ ((Mc.feeds false (chars s) (M0 text last)).2.ended s.size).1
def ftP (s : ByteArray) (text : Int) (last : ByteArray) : List (Int × Int) := G4.fcs 0 (G4.items s.data.toList) ++ ((Mc.feeds false (chars s) (M0 text last)).2.ended s.size).2.fs
def Tkd (L : List Pt) (F : List (Int × Int)) (w : World) (e : Ending) (w' : World) : Prop :=
  ∃ oo T oc fo L' fc, e = .returned (.tuple #[.slice oo T.length oc, .slice fo L'.length fc]) ∧ T.map ptOf = L ∧ T.length ≤ 100000000000 ∧ Toks w.heap.size (.slice oo T.length oc) T w' ∧ Stb F L' ∧ G4.FaultsC w.heap.size (.slice fo L'.length fc) L' w' ∧ Below w.heap.size w w'
theorem alls_tkd {B : Nat} {O : Nat → Prop} {L : List Pt} {F : List (Int × Int)} {w W W' : World} {e : Ending} (h : Alls B O L F W e W') (hB : B = w.heap.size) (hO : ∀ k, O k → B ≤ k) (hb : Below w.heap.size w W) : Tkd L F w e W' := by
  obtain ⟨ov, T, lv, L', rfl, h1, h2, h3, h4, h5, h6⟩ := h
  obtain ⟨oo, oc, eo, _, _⟩ := own_form h3.own
  simp only at eo
  subst eo
  obtain ⟨fo, fc, rfl, _, _⟩ := G4.own_form h5
  subst hB
  refine ⟨oo, T, oc, fo, L', fc, rfl, h1, h2, ⟨h3.own, fun g hg => Nat.le_trans hb.size (h3.high g hg), h3.toks⟩, h4, h5, ⟨h6.os.trans hb.os, h6.tape.trans hb.tape, h6.output.trans hb.output, Nat.le_trans hb.size h6.size, fun k hk => ?_⟩⟩
  rw [h6.block k (fun ho => by have := hO k ho; omega) (Nat.lt_of_lt_of_le hk hb.size)]
  exact hb.block k hk
set_option maxHeartbeats 2000000 in
set_option maxRecDepth 20000 in
theorem tokens_any {w : World} (H : G6.Hi w) (s : ByteArray) (text : Int) (last : ByteArray) (hs : s.size ≤ 5000) (hl : last.size ≤ 5000) :
    Calls Tryz.prog 9 #[.string s, .int .i64 text, .string last] w (Tkd (tkP s text last) (ftP s text last) w) := by
  have HH : Hid (G6.Hi w) := H
  clear H
  go_enter Tryz.func9, Tryz.ntmps9
  go_wp2_with fail
  refine (newR_any HH.out last hl).mono ?_
  rintro e W1 ⟨r, x, xs, d, v, rfl, k1, k2⟩
  have k1 := (rdA_nil _ _ _ _ _ _ _ _ _ _).mp k1
  have c1 : W1.cell? ⟨r, 1, none⟩ = some (.pointer (some ⟨x, 0, none⟩)) := by simp [World.cell?, k1.blk]
  have hr1 := k1.lt
  have HR : Hid (Rd w.heap.size r x xs d (rdM last) v false 0 [] G4.Ch0 (.slice none 0 0) [] W1 ∧ Below w.heap.size w W1) := ⟨k1, k2⟩
  clear k1 k2
  go_wp2_with fail
  refine (HR.out.1.did (fun U v hU => set_v hU text)).mono ?_
  rintro e W2 ⟨rfl, q1, q2⟩
  obtain ⟨n, hn, hg⟩ := rdM_good last hl
  have KA := alls_any takeC_no ((rdA_nil _ _ _ _ _ _ _ _ _ _).mpr q1) (set_good hg text) hn s hs
  have HB : Hid (Below w.heap.size w W2 ∧ ∀ k, Own r x xs d ((rdM last).set text) v (.slice none 0 0) k → w.heap.size ≤ k) := by
    refine ⟨⟨q2.keep.os.trans HR.out.2.os, q2.keep.tape.trans HR.out.2.tape, q2.keep.output.trans HR.out.2.output, Nat.le_trans HR.out.2.size q2.keep.size, fun k hk => ?_⟩, fun k ho => (q1.own_lt ho).2⟩
    rw [q2.keep.block k (fun ho => by have := (HR.out.1.own_lt ho).2; omega) (Nat.lt_of_lt_of_le hk HR.out.2.size)]
    exact HR.out.2.block k hk
  clear q1 q2 hg c1
  go_wp2_with fail
  refine KA.mono ?_
  intro e W3 ha
  obtain ⟨oo, T, oc, fo, L', fc, rfl, hz⟩ := alls_tkd ha rfl HB.out.2 HB.out.1
  have HZ : Hid _ := hz
  clear hz ha
  go_wp2_with fail
  go_ret2
  exact ⟨oo, T, oc, fo, L', fc, rfl, HZ.out⟩
end Go.Proofs.YtdiealijjhfhjaaGreatDoor
