/- bytes.Join of two pieces or more with no separator: their bytes in one new row. -/
import Derived.Test.YtfphmdkbcibcmaaPutz
import Derived.Lib.MakeNoZero
import Derived.Lib.SlBuf
namespace Go.Proofs.Ytfphmdkbcibcmaa
open Go.RowKit

/-- A new row of bytes at block h, filled from the front. -/
structure JBuf (w wr : World) (T : Nat) (acc : List UInt8) : Prop where
  below : Below w.heap.size w wr
  blk : ∃ cur, wr.heap[w.heap.size]? = some (.cells cur 5 (0, 0)) ∧ T ≤ cur.size ∧ ∀ (j : Nat) u, acc[j]? = some u → cur[j]? = some (.int .u8 u.toNat)
  fits : acc.length ≤ T

def pcVals (l : List UInt8) : List Value := l.map fun u => Value.int .u8 u.toNat

theorem hsz5 : (Try.prog.info? 5).map (·.size) = some 1 := by
  obtain ⟨i0, hi0, h0, h1, h2⟩ := info_parts info5
  rw [hi0]; simp [h1]

/-- 'copy(b[len(acc):], p)' for a piece p. -/
theorem jcopy {B : Nat} {w wr : World} {T : Nat} {acc : List UInt8} {p : Pc} (h : JBuf w wr T acc) (hp : PcOk B w p) (hf : acc.length + p.bs.length ≤ T) :
    ∃ wr', (∀ ty dc, (Builtin.copy_ #[59, 59] ty #[.slice (some ⟨w.heap.size, acc.length, none⟩) (T - acc.length) dc, .slice (some ⟨p.g, p.off, none⟩) p.bs.length p.cap]).run Try.prog wr = .ok (.int .i64 (p.bs.length : Int)) wr') ∧ JBuf w wr' T (acc ++ p.bs) := by
  obtain ⟨cur, hb, hT, hc⟩ := h.blk
  have hl : (pcVals p.bs).length = p.bs.length := by simp [pcVals]
  have hth : ∀ j, j < T → (wr.cell? ⟨w.heap.size, j, none⟩).isSome = true := fun j hj => by simp [World.cell?, hb]; omega
  have hr : ∀ ty dc, (Builtin.copy_ #[59, 59] ty #[.slice (some ⟨w.heap.size, acc.length, none⟩) (T - acc.length) dc, .slice (some ⟨p.g, p.off, none⟩) p.bs.length p.cap]).run Try.prog wr = .ok (goInt (pcVals p.bs).length) (wr.setCells w.heap.size acc.length (pcVals p.bs)) := fun ty dc =>
    run_copy_cells wr 59 59 ty 5 w.heap.size acc.length (T - acc.length) dc ⟨p.g, p.off, none⟩ p.bs.length p.cap (pcVals p.bs) Try.underlying59 hsz5 (by rw [hl]; simp only [Nat.min_def]; split <;> omega)
      (fun j v hj => by
        simp only [pcVals, List.getElem?_map, Option.map_eq_some_iff] at hj
        obtain ⟨u, hu, rfl⟩ := hj
        rw [Addr.add_lit, h.below.cell (by exact hp.lt)]
        exact hp.cell j u hu)
      (fun j hj => hth _ (by omega)) (fun j hj => by simp [World.frozen?, hb]) (fun v hv => by simp only [pcVals, List.mem_map] at hv; obtain ⟨_, _, rfl⟩ := hv; rfl)
  refine ⟨_, fun ty dc => by rw [hr ty dc, hl]; rfl, ?_, ?_, by simp; omega⟩
  · exact Lib.below_setCells w.heap.size (Nat.le_refl _) _ _ h.below
  · obtain ⟨c2, hb2, hs2⟩ := setCells_blk w.heap.size 5 (0, 0) (pcVals p.bs) acc.length wr cur hb
    refine ⟨c2, hb2, by omega, fun j u hu => ?_⟩
    have hcell : ∀ j, (wr.setCells w.heap.size acc.length (pcVals p.bs)).cell? ⟨w.heap.size, j, none⟩ = c2[j]? := fun j => by simp [World.cell?, hb2]
    have hcell0 : ∀ j, wr.cell? ⟨w.heap.size, j, none⟩ = cur[j]? := fun j => by simp [World.cell?, hb]
    rw [← hcell]
    by_cases hj : j < acc.length
    · rw [List.getElem?_append_left hj] at hu
      rw [World.cell?_setCells_out _ _ _ _ _ (fun _ _ => by left; exact hj), hcell0]
      exact hc j u hu
    · rw [List.getElem?_append_right (by omega)] at hu
      have hjl := (List.getElem?_eq_some_iff.1 hu).1
      have := World.cell?_setCells_in w.heap.size (pcVals p.bs) acc.length wr (fun t ht => hth _ (by omega)) (j - acc.length) (by omega)
      rw [show acc.length + (j - acc.length) = j by omega] at this
      rw [this]
      simp only [pcVals, List.getElem_map]
      rw [(List.getElem?_eq_some_iff.1 hu).2]

set_option maxHeartbeats 2000000 in
set_option maxRecDepth 100000 in
theorem join_any (B q n c T : Nat) (ps : List Pc) (w : World) (hn : ps.length = n) (h2 : 2 ≤ n) (hcap : n ≤ c) (hT : (text ps).length = T) (hT2 : T ≤ 1000000)
    (hcell : ∀ (j : Nat) p, ps[j]? = some p → w.cell? ⟨q, j, none⟩ = some p.val) (hok : ∀ p ∈ ps, PcOk B w p) (hc63 : c ≤ 9223372036854775807) :
    Calls Try.prog 30 #[.slice (some ⟨q, 0, none⟩) n c, .slice none 0 0] w fun e w' => e = .returned (.slice (some ⟨w.heap.size, 0, none⟩) T T) ∧ JBuf w w' T (text ps) := by
  have f0 : ((n : Int) == 0) = false := beq_eq_false_iff_ne.2 (by omega)
  have f1 : ((n : Int) == 1) = false := beq_eq_false_iff_ne.2 (by omega)
  have HC : Hid (∀ (j : Nat) p, ps[j]? = some p → w.cell? ⟨q, j, none⟩ = some p.val) := hcell
  have HO : Hid (∀ p ∈ ps, PcOk B w p) := hok
  have hqw : q < w.heap.size := block_lt_of_cell (hcell 0 ps[0] (List.getElem?_eq_getElem (by omega)))
  have HT : Hid ((text ps).length = T) := hT
  have HN : Hid (ps.length = n) := hn
  have hnT : n ≤ 1000000 := by have := full_le ps (fun p hp => (hok p hp).ne); omega
  clear hcell hok hT hn
  go_enter Try.func30, Try.ntmps30
  go_wp2_with fail
  go_loop [5, 44] (fun s5 s44 => ∃ i : Nat, i ≤ n ∧ s44 = .int .i64 i ∧ s5 = .int .i64 ((text (ps.take i)).length : Nat)) (fun _ s => n - (intOf s).toNat)
  case atStart => exact ⟨0, Nat.zero_le _, rfl, rfl⟩
  case round =>
    obtain ⟨i, hi, rfl, rfl⟩ := hrel
    have hL := text_take_le ps i
    rw [HT.out] at hL
    by_cases hlt : i < n
    · obtain ⟨p, hpk⟩ : ∃ p, ps[i]? = some p := ⟨_, List.getElem?_eq_getElem (by have := HN.out; omega)⟩
      have hgc : w.cell? ⟨q, i, none⟩ = some (.slice (some ⟨p.g, p.off, none⟩) p.bs.length p.cap) := HC.out i p hpk
      have hts := text_take_succ ps i p hpk
      have hL2 := text_take_le ps (i + 1)
      rw [hts, List.length_append, HT.out] at hL2
      have HTS : Hid (text (ps.take (i + 1)) = text (ps.take i) ++ p.bs) := hts
      clear hts
      obtain ⟨A, hA⟩ : ∃ A, A = (text (ps.take i)).length := ⟨_, rfl⟩
      rw [← hA] at hL hL2 ⊢
      have HA : Hid (A = (text (ps.take i)).length) := hA
      clear hA
      go_wp2_with fail
      refine ⟨⟨i + 1, by omega, by go_num, ?_⟩, by simp [intOf]; omega⟩
      rw [HTS.out, List.length_append, ← HA.out]; go_num
    · obtain rfl : n = i := by omega
      have hall : ps.take n = ps := by rw [← HN.out, List.take_length]
      rw [hall, HT.out]
      clear hall hL
      obtain ⟨cs, hrunM, hle, _⟩ := Lib.run_makeNoZero (P := Try.prog) w #[3] 59 5 Try.underlying59 T (by omega)
      have hcall : (callFunc 35 #[.int .i64 (T : Int)]).run Try.prog w = .ok (.value (.slice (some ⟨w.heap.size, 0, none⟩) T cs.size)) ((w.alloc (.cells cs 5)).drewN 2) := by
        rw [run_callFunc_extern Try.func35 (by kernel_rfl) (by kernel_rfl) (by kernel_rfl) (e := Extern.BytealgMakeNoZero.makeNoZero #[3] #[59]) (by kernel_rfl), hrunM]
        rfl
      clear hrunM
      have i1 : (T : Int) ≤ (cs.size : Int) := by omega
      have B0 : JBuf w ((w.alloc (.cells cs 5)).drewN 2) T [] := ⟨⟨rfl, rfl, rfl, by simp, fun k hk => heap_alloc_old w _ hk⟩, ⟨cs, heap_alloc_new w _, hle, fun j u hu => by simp at hu⟩, Nat.zero_le _⟩
      obtain ⟨p0, hp0⟩ : ∃ p, ps[0]? = some p := ⟨_, List.getElem?_eq_getElem (by have := HN.out; omega)⟩
      have hts := text_take_succ ps 0 p0 hp0
      have hL2 := text_take_le ps 1
      rw [hts, HT.out] at hL2
      simp only [List.take_zero, text_nil, List.nil_append] at hL2 hts
      have hok0 := HO.out p0 (List.mem_of_getElem? hp0)
      obtain ⟨w1, hr1, B1⟩ := jcopy B0 hok0 (by simpa using hL2)
      rw [List.length_nil, Nat.sub_zero] at hr1
      rw [List.nil_append] at B1
      have hc0 : ((w.alloc (.cells cs 5)).drewN 2).cell? ⟨q, 0, none⟩ = some (.slice (some ⟨p0.g, p0.off, none⟩) p0.bs.length p0.cap) := (B0.below.cell (p := ⟨q, 0, none⟩) hqw).trans (HC.out 0 p0 hp0)
      have HB1 : Hid (JBuf w w1 T p0.bs) := B1
      have HTS : Hid (text (ps.take 1) = p0.bs) := hts
      clear B1 B0 hts
      go_wp2_with (at_builtin; refine list_copy_eq _ rfl _ _ 59 59 rfl _ _ rfl rfl (hr1 _ _) ?_)
      clear hr1 hcall hc0
      go_loopw [9, 72] (fun s9 s72 wr => ∃ j : Nat, j ≤ n - 1 ∧ s72 = .int .i64 j ∧ s9 = .int .i64 ((text (ps.take (j + 1))).length : Nat) ∧ JBuf w wr T (text (ps.take (j + 1)))) (fun _ s _ => n - (intOf s).toNat)
      case atStart => exact ⟨0, Nat.zero_le _, rfl, by rw [HTS.out], by rw [HTS.out]; exact HB1.out⟩
      case round =>
        obtain ⟨j, hj, rfl, rfl, hjb⟩ := hrel
        by_cases hjn : j < n - 1
        · have hjz : (j : Int) < ((n - 1 : Nat) : Int) := by omega
          obtain ⟨p, hpk⟩ : ∃ p, ps[j + 1]? = some p := ⟨_, List.getElem?_eq_getElem (by have := HN.out; omega)⟩
          have hts2 := text_take_succ ps (j + 1) p hpk
          have hL3 := text_take_le ps (j + 1 + 1)
          rw [hts2, List.length_append, HT.out] at hL3
          have hokp := HO.out p (List.mem_of_getElem? hpk)
          have hpn := hokp.ne
          obtain ⟨w2, hr2, B2⟩ := jcopy hjb hokp hL3
          have hgc : wr.cell? ⟨q, 1 + j, none⟩ = some (.slice (some ⟨p.g, p.off, none⟩) p.bs.length p.cap) := by
            rw [Nat.add_comm]; exact (hjb.below.cell (p := ⟨q, j + 1, none⟩) hqw).trans (HC.out (j + 1) p hpk)
          have HTS2 : Hid (text (ps.take (j + 1 + 1)) = text (ps.take (j + 1)) ++ p.bs) := hts2
          rw [← hts2] at B2
          have HB2 : Hid (JBuf w w2 T (text (ps.take (j + 1 + 1)))) := B2
          clear B2 hts2 hokp hjb
          obtain ⟨A, hA⟩ : ∃ A, A = (text (ps.take (j + 1))).length := ⟨_, rfl⟩
          rw [← hA] at hL3 hr2 ⊢
          have HA : Hid (A = (text (ps.take (j + 1))).length) := hA
          clear hA
          have hnone : ∀ ty dc, (Builtin.copy_ #[59, 59] ty #[.slice (some ⟨w.heap.size, A, none⟩) (T - A) dc, .slice none 0 0]).run Try.prog wr = .ok (.int .i64 0) wr := fun ty dc => run_copy_none wr 59 59 ty 5 _ none _ _ 0 0 Try.underlying59 hsz5 (by simp)
          have hAT : A < T := by omega
          have hne : ¬ (T = A) := by omega
          go_wp2_with (at_builtin; first | refine list_copy_eq _ rfl _ _ 59 59 rfl _ _ rfl rfl (hnone _ _) ?_ | refine list_copy_eq _ rfl _ _ 59 59 rfl _ _ rfl rfl (hr2 _ _) ?_)
          refine ⟨⟨j + 1, by omega, by go_num, ?_, HB2.out⟩, by simp [intOf]; omega⟩
          rw [HTS2.out, List.length_append, ← HA.out]; go_num
        · have hjz : ¬ ((j : Int) < ((n - 1 : Nat) : Int)) := by omega
          have hall : ps.take (j + 1) = ps := List.take_of_length_le (by have := HN.out; omega)
          rw [hall] at hjb
          have HJ : Hid (JBuf w wr T (text ps)) := hjb
          clear hjb hall
          go_wp2_with fail
          go_ret
          exact ⟨rfl, HJ.out⟩
end Go.Proofs.Ytfphmdkbcibcmaa
