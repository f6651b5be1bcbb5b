/- Characters below 128 are their bytes. -/
import Derived.Test.YtdiealijjhfhjaaGreatDoorZf
import Derived.Test.YtdiealijjhfhjaaGreatDoorYr
import Derived.Test.YtdiealijjhfhjaaGreatDoorRows
import Derived.Test.YtdiealijjhfhjaaGreatDoorCards
import Derived.Test.YtdiealijjhfhjaaGreatDoorTie
import Derived.Lib.LaidTab
import Derived.LaidMore
import Derived.Stop.Joined
import Derived.SevenTiedAt
namespace Go.Proofs.YtdiealijjhfhjaaGreatDoor
open Go.RowKit
theorem val_one (r : Int) (b : UInt8) : G4.val r [b] = r * 64 + (b.toNat % 64 : Nat) := rfl
theorem val_two (r : Int) (b c : UInt8) : G4.val r [b, c] = (r * 64 + (b.toNat % 64 : Nat)) * 64 + (c.toNat % 64 : Nat) := rfl
theorem val_three (r : Int) (b c d : UInt8) : G4.val r [b, c, d] = ((r * 64 + (b.toNat % 64 : Nat)) * 64 + (c.toNat % 64 : Nat)) * 64 + (d.toNat % 64 : Nat) := rfl
theorem okc1 {a c : Nat} (h : G4.okc 1 a c = true) : G4.lo2 a ≤ c ∧ c ≤ 191 := by
  unfold G4.okc at h
  rw [if_pos rfl] at h
  have h2 := of_decide_eq_true h
  have : G4.hi2 a ≤ 191 := by unfold G4.hi2; repeat' split
                              all_goals omega
  omega
theorem one_low (a : UInt8) (t : List UInt8) : (G4.one (a :: t)).1 < 0 ∨ (G4.one (a :: t)).1 = a.toNat ∨ 128 ≤ (G4.one (a :: t)).1 := by
  rw [G4.one_cons]
  by_cases h0 : G4.need a.toNat = 0
  · rw [if_pos h0]
    left; simp
  · rw [if_neg h0]
    by_cases h1 : G4.ext (G4.need a.toNat) a.toNat 1 t < G4.need a.toNat
    · rw [if_pos h1]
      left; simp
    · rw [if_neg h1]
      simp only
      have hn : G4.need a.toNat = 1 ∨ G4.need a.toNat = 2 ∨ G4.need a.toNat = 3 ∨ G4.need a.toNat = 4 := by
        unfold G4.need at h0 ⊢
        repeat' split
        all_goals first | omega | simp_all
      rcases hn with e | e | e | e
      · rw [e]
        right; left
        simp [G4.val, G4.mask]
      · rw [e] at h1 ⊢
        right; right
        have ha : 194 ≤ a.toNat ∧ a.toNat ≤ 223 := by
          unfold G4.need at e
          repeat' split at e
          all_goals omega
        cases t with
        | nil => simp [G4.ext] at h1
        | cons b t =>
          show 128 ≤ G4.val (G4.mask 2 a.toNat) [b]
          rw [val_one]
          simp only [G4.mask, if_true]
          omega
      · rw [e] at h1 ⊢
        right; right
        have ha : 224 ≤ a.toNat ∧ a.toNat ≤ 239 := by
          unfold G4.need at e
          repeat' split at e
          all_goals omega
        cases t with
        | nil => simp [G4.ext] at h1
        | cons b t =>
          by_cases hb : G4.okc 1 a.toNat b.toNat = true
          · cases t with
            | nil => simp [G4.ext, hb] at h1
            | cons c t =>
              show 128 ≤ G4.val (G4.mask 3 a.toNat) [b, c]
              rw [val_two]
              have hb := okc1 hb
              unfold G4.lo2 at hb
              have hm : G4.mask 3 a.toNat = a.toNat % 16 := by simp [G4.mask]
              rw [hm]
              have hbl := b.toNat_lt
              by_cases h224 : a.toNat = 224
              · rw [if_pos h224] at hb
                omega
              · omega
          · have hb' : G4.okc 1 a.toNat b.toNat = false := by simpa using hb
            simp [G4.ext, hb'] at h1
      · rw [e] at h1 ⊢
        right; right
        have ha : 240 ≤ a.toNat ∧ a.toNat ≤ 244 := by
          unfold G4.need at e
          repeat' split at e
          all_goals omega
        cases t with
        | nil => simp [G4.ext] at h1
        | cons b t =>
          by_cases hb : G4.okc 1 a.toNat b.toNat = true
          · cases t with
            | nil => simp [G4.ext, hb] at h1
            | cons c t =>
              by_cases hc : G4.okc 2 a.toNat c.toNat = true
              · cases t with
                | nil => simp [G4.ext, hb, hc] at h1
                | cons d t =>
                  show 128 ≤ G4.val (G4.mask 4 a.toNat) [b, c, d]
                  rw [val_three]
                  have hb := okc1 hb
                  unfold G4.lo2 at hb
                  have hm : G4.mask 4 a.toNat = a.toNat % 8 := by simp [G4.mask]
                  rw [hm]
                  have hbl := b.toNat_lt
                  by_cases h240 : a.toNat = 240
                  · rw [if_neg (by omega), if_pos h240] at hb
                    omega
                  · omega
              · have hc' : G4.okc 2 a.toNat c.toNat = false := by simpa using hc
                simp [G4.ext, hb, hc'] at h1
          · have hb' : G4.okc 1 a.toNat b.toNat = false := by simpa using hb
            simp [G4.ext, hb'] at h1
theorem items_low : ∀ (k : Nat) (s : List UInt8) (x : Int × Nat), x ∈ G4.itemsF k s → x.1 < 0 ∨ (∃ b ∈ s, x.1 = b.toNat) ∨ 128 ≤ x.1
  | 0, s, x, h => by simp [G4.itemsF] at h
  | k + 1, [], x, h => by simp [G4.itemsF] at h
  | k + 1, a :: t, x, h => by
    simp only [G4.itemsF, List.mem_cons] at h
    rcases h with rfl | h
    · rcases one_low a t with e | e | e
      · exact .inl e
      · exact .inr (.inl ⟨a, by simp, e⟩)
      · exact .inr (.inr e)
    · rcases items_low k _ x h with e | ⟨b, hb, e⟩ | e
      · exact .inl e
      · exact .inr (.inl ⟨b, List.mem_of_mem_drop hb, e⟩)
      · exact .inr (.inr e)
end Go.Proofs.YtdiealijjhfhjaaGreatDoor
namespace Go.Proofs.YtdiealijjhfhjaaGreatDoor
open Go.RowKit
structure Tells (m : Mc) : Prop where
  st : m.st = 46
  en : m.en = 47
  ref : m.ref = []
  wait : m.wait = []
  out : m.out = []
theorem Tells.feed {m : Mc} (h : Tells m) {c : Ch} (h1 : c.r ≠ 38) (h2 : c.r ≠ 60) : m.feed c = ([chT false c], m) := by
  obtain ⟨st, en, text, cd, last, wait, ref, kind, frm, nm, tx, self, attrs, at_, an, av, cnt, out, fs⟩ := m
  obtain ⟨e1, e2, e3, e4, e5⟩ := h
  simp only at e1 e2 e3 e4 e5
  subst e1 e2 e3 e4 e5
  simp [Mc.feed, Mc.step, Mc.take, Mc.data, h1, h2, Mc.tellChar, Mc.tell]
theorem Tells.feeds {m : Mc} (h : Tells m) : ∀ (l : List Ch) (q : List Pt), (∀ c ∈ l, c.r ≠ 38 ∧ c.r ≠ 60) → l.foldl (fdStep false) (q, m) = (q ++ l.map (chT false), m)
  | [], q, _ => by simp
  | c :: l, q, hl => by
    have hc := hl c (by simp)
    rw [List.foldl_cons]
    have e : fdStep false (q, m) c = (q ++ [chT false c], m) := by
      unfold fdStep
      simp only [h.feed hc.1 hc.2]
      rfl
    rw [e, Tells.feeds h l _ fun d hd => hl d (by simp [hd])]
    simp
theorem Tells.ended {m : Mc} (h : Tells m) (at' : Int) : m.ended at' = ([⟨6, 0, ByteArray.empty, ByteArray.empty, [], false, at', at'⟩], { Mc.new with fs := m.fs }) := by
  obtain ⟨st, en, text, cd, last, wait, ref, kind, frm, nm, tx, self, attrs, at_, an, av, cnt, out, fs⟩ := m
  obtain ⟨e1, e2, e3, e4, e5⟩ := h
  simp only at e1 e2 e3 e4 e5
  subst e1 e2 e3 e4 e5
  simp [Mc.ended, Mc.endS, Mc.release]
def titleB : ByteArray := ⟨#[116, 105, 116, 108, 101]⟩
theorem title_is : (rdM titleB).st = 46 ∧ (rdM titleB).en = 47 ∧ (rdM titleB).ref.length = 0 ∧ (rdM titleB).wait.length = 0 ∧ (rdM titleB).out.length = 0 ∧ (rdM titleB).fs = [] := by decide +kernel
theorem title_tells (text : Int) : Tells (M0 text titleB) := by
  obtain ⟨h1, h2, h3, h4, h5, _⟩ := title_is
  exact ⟨h1, h2, List.eq_nil_of_length_eq_zero h3, List.eq_nil_of_length_eq_zero h4, List.eq_nil_of_length_eq_zero h5⟩
theorem title_fs (text : Int) : (M0 text titleB).fs = [] := title_is.2.2.2.2.2
theorem chs_mem : ∀ (l : List (Int × Nat)) (p : Int) (c : Ch), c ∈ G4.chs p l → c.r = 65533 ∨ ∃ x ∈ l, c.r = x.1
  | [], p, c, h => by simp [G4.chs] at h
  | (r, n) :: l, p, c, h => by
    simp only [G4.chs, List.mem_cons] at h
    rcases h with rfl | h
    · by_cases hr : r = -1
      · left; simp [hr]
      · right; exact ⟨(r, n), by simp, by simp [hr]⟩
    · rcases chs_mem l _ c h with e | ⟨x, hx, e⟩
      · exact .inl e
      · exact .inr ⟨x, by simp [hx], e⟩
theorem rfs_mem : ∀ (l : List Ch) (c : Ch), c ∈ G4.rfs l → c.r = 10 ∨ c.r = 65533 ∨ ∃ d ∈ l, c.r = d.r
  | [], c, h => by simp [G4.rfs] at h
  | [d], c, h => by
    simp only [G4.rfs, List.mem_singleton] at h
    subst h
    unfold G4.fix
    simp only
    split
    · exact .inr (.inl rfl)
    · split
      · exact .inl rfl
      · exact .inr (.inr ⟨d, by simp, rfl⟩)
  | d :: f :: l, c, h => by
    unfold G4.rfs at h
    split at h
    · rcases List.mem_cons.1 h with rfl | h
      · exact .inl rfl
      · rcases rfs_mem l c h with e | e | ⟨x, hx, e⟩
        · exact .inl e
        · exact .inr (.inl e)
        · exact .inr (.inr ⟨x, by simp [hx], e⟩)
    · rcases List.mem_cons.1 h with rfl | h
      · unfold G4.fix
        simp only
        split
        · exact .inr (.inl rfl)
        · split
          · exact .inl rfl
          · exact .inr (.inr ⟨d, by simp, rfl⟩)
      · rcases rfs_mem (f :: l) c h with e | e | ⟨x, hx, e⟩
        · exact .inl e
        · exact .inr (.inl e)
        · exact .inr (.inr ⟨x, List.mem_cons_of_mem _ hx, e⟩)
theorem outc_low (S : List UInt8) (k : Int) (hk : k = 38 ∨ k = 60) (hS : ∀ b ∈ S, (b.toNat : Int) ≠ k) : ∀ c ∈ G4.outc S, c.r ≠ k := by
  intro c hc e
  unfold G4.outc at hc
  rcases rfs_mem _ c hc with h | h | ⟨d, hd, h⟩
  · omega
  · omega
  · rcases chs_mem _ _ d hd with h' | ⟨x, hx, h'⟩
    · omega
    · rcases items_low _ _ x hx with q | ⟨b, hb, q⟩ | q
      · omega
      · exact hS b hb (by omega)
      · omega
theorem plain_tk (s : ByteArray) (text : Int) (h1 : ∀ b ∈ s.data.toList, b.toNat ≠ 60) (h2 : ∀ b ∈ s.data.toList, b.toNat ≠ 38) : tkP s text titleB = (chars s).map (chT false) ++ [⟨6, 0, ByteArray.empty, ByteArray.empty, [], false, s.size, s.size⟩] ∧ ftP s text titleB = G4.fcs 0 (G4.items s.data.toList) := by
  have e : Mc.feeds false (chars s) (M0 text titleB) = ([] ++ (chars s).map (chT false), M0 text titleB) := (title_tells text).feeds (chars s) [] fun c hc => ⟨outc_low _ 38 (.inl rfl) (fun b hb e => h2 b hb (by omega)) c hc, outc_low _ 60 (.inr rfl) (fun b hb e => h1 b hb (by omega)) c hc⟩
  unfold tkP ftP
  rw [e, (title_tells text).ended, title_fs]
  simp
theorem fcs_ge : ∀ (l : List (Int × Nat)) (p : Int) (x : Int × Int), x ∈ G4.fcs p l → p ≤ x.2
  | [], p, x, h => by simp [G4.fcs] at h
  | (r, n) :: l, p, x, h => by
    simp only [G4.fcs, List.mem_append] at h
    rcases h with h | h
    · split at h
      · simp at h
      · simp at h; subst h; exact Int.le_refl _
    · have := fcs_ge l _ x h; omega
theorem fcs_srt : ∀ (l : List (Int × Nat)) (p : Int), (G4.fcs p l).Pairwise fun a b => a.2 ≤ b.2
  | [], p => by simp [G4.fcs]
  | (r, n) :: l, p => by
    simp only [G4.fcs]
    split
    · simpa using fcs_srt l (p + n)
    · rw [List.singleton_append, List.pairwise_cons]
      exact ⟨fun b hb => by have := fcs_ge l _ b hb; simp only; omega, fcs_srt l _⟩
theorem stb_fcs {l : List (Int × Nat)} {L' : List (Int × Int)} (h : Stb (G4.fcs 0 l) L') : L' = G4.fcs 0 l := by
  refine stb_sorted h fun i j a b hij ha hb => ?_
  obtain ⟨hi, rfl⟩ := List.getElem?_eq_some_iff.1 ha
  obtain ⟨hj, rfl⟩ := List.getElem?_eq_some_iff.1 hb
  exact List.pairwise_iff_getElem.1 (fcs_srt l 0) i j hi hj hij
end Go.Proofs.YtdiealijjhfhjaaGreatDoor
namespace Go.Proofs.YtdiealijjhfhjaaGreatDoor
open Go.RowKit
theorem own : ownKnob Tryz.prog.godebug = none := by kernel_rfl
theorem laidOut : laidOutB Tryz.prog = true := by kernel_rfl
abbrev laidL : List (String × DataW Unit) := Rows.rawtextPlainRow.laid
def hname : String := Rows.rawtextPlainRow.named.headD ""
theorem gHigh : Tryz.prog.globalNamed hname = some 1 := by kernel_rfl
theorem tHigh : (Tryz.prog.globals[1]?).map (·.type) = some 201 := by kernel_rfl
theorem c21 : Tryz.prog.cellsOf 21 = 1 := by kernel_rfl
theorem c201 : Tryz.prog.cellsOf 201 = 32 := by kernel_rfl
theorem laid_tail {P : Program} {W : World} {x : String × DataW Unit} {rest : List (String × DataW Unit)} (h : laidMet P (x :: rest) W) : laidMet P rest W := by
  obtain ⟨ps, ⟨g, t, cs, fuel, p, q, h1, h2, h3, h4, h5, h6⟩, hn, hc⟩ := h
  subst h6
  exact ⟨q, h5, (List.nodup_append.1 hn).2.1, fun b off hm => hc b off (List.mem_append_right _ hm)⟩
theorem hi_of_laid {W : World} (h : laidMetH Tryz.prog laidL W) : G6.Hi W := by
  rw [MakeChecks.laidMetH_plain _ _ _ (by kernel_rfl)] at h
  have h2 := laid_tail h
  have hT : Lib.TabIs Tryz.prog W hname .i32 G6.tabL := Lib.tabIs_of_head gHigh tHigh Tryz.underlying201 Tryz.underlying21 c21 c201 (rest := []) h2
  exact fun i hi => hT.cell gHigh i hi
theorem door_met (os : Os) (args : Array Value) : laidMetH Tryz.prog laidL ((World.doorLaid Tryz.prog 30 os).forCall (fun _ _ => 0) ⟨#[], args, []⟩).memory :=
  laidMetH_of_parts3 (fuel := 8) (laidMet_of_run' 8 (by kernel_rfl) (by kernel_rfl)) (by kernel_rfl) (by kernel_rfl)
end Go.Proofs.YtdiealijjhfhjaaGreatDoor
