/- Spans rise: references, all characters, the end. -/
import Derived.Test.YtjjfalbngcbfaaaGreatDoorRb
namespace Go.Proofs.YtjjfalbngcbfaaaGreatDoor
open Go.RowKit

theorem Tot.up {lo p p' : Int} {m : Mc} (h : Tot lo m p) (k : p ≤ p') : Tot lo m p' := by
  obtain ⟨p0, h1, h2, h3⟩ := h
  exact ⟨p0, h1, h2.up k, h3⟩
theorem Pst.same {lo p : Int} {m m' : Mc} (h : Pst lo m p) (e0 : m'.st = m.st) (e1 : m'.out = m.out) (e2 : m'.kind = m.kind) (e3 : m'.wait = m.wait) (e4 : m'.frm = m.frm) (e5 : m'.en = m.en) : Pst lo m' p := by
  rcases h with ⟨h1, h2⟩ | ⟨h1, h2⟩
  · exact .inl ⟨by rw [e0]; exact h1, h2.same e1 e2 e3 (by rw [e5]; exact h2.en)⟩
  · exact .inr ⟨by rw [e0]; exact h1, h2.same e1 e2 e3 e4⟩
theorem fold_sp {lo : Int} : ∀ (q : List Ch) (M : Mc) (p0 p : Int), Inv M → M.ref = [] → Pst lo M p0 → CRise p0 q p → (∀ i c, i + 1 < q.length → q[i]? = some c → c.r ≠ 38) → Tot lo (q.foldl Mc.take M) p
  | [], M, p0, p, _, hr, h, hq, _ => tot_of (h.up hq) hr
  | [c], M, p0, p, hi, hr, h, hq, _ => (take_sp hi h hr c hq.1 hq.2.1).up hq.2.2
  | c :: d :: q, M, p0, p, hi, hr, h, hq, h38 => by
    have ht := take_sp hi h hr c hq.1 hq.2.1
    have hr2 : (M.take c).ref = [] := by
      rcases rf_take hi c with e | ⟨e, _⟩
      · exact e.trans hr
      · exact absurd e (h38 0 c (by simp) rfl)
    obtain ⟨p1, q1, q2, _⟩ := ht
    rw [hr2] at q2
    rw [List.foldl_cons]
    exact fold_sp (d :: q) (M.take c) c.z p (inv_take hi c) hr2 (q1.up q2) hq.2.2 fun i e hi he => h38 (i + 1) e (by simp at hi ⊢; omega) (by simpa using he)
theorem first_lt {p0 p : Int} : ∀ (A : List Ch) (d : Ch) (B : List Ch), CRise p0 (A ++ d :: B) p → p0 ≤ Mc.frAt (A ++ d :: B) ∧ Mc.frAt (A ++ d :: B) < d.z ∧ CRise d.z B p
  | [], d, B, h => ⟨h.1, h.2.1, h.2.2⟩
  | a :: A, d, B, h => by
    obtain ⟨mid, h1, h2⟩ := CRise.cut (L := A) (M := d :: B) h.2.2
    have := h1.le
    have e1 := h.2.1
    have e2 := h2.1
    have e3 := h2.2.1
    exact ⟨h.1, by show a.a < d.z; omega, h2.2.2⟩
theorem mid_sp {lo p0 p : Int} {m : Mc} (h : Pst lo m p0) (hq : CRise p0 m.ref p) (hw : m.wait = []) (hne : m.ref ≠ []) (hlen : m.oneR.2.1 ≤ m.ref.length) : ∃ p1, Pst lo m.mid p1 ∧ CRise p1 m.left p := by
  have key : ∀ (a : Mc) (c : Ch) (b : Bool), a.st = m.st → a.out = m.out → a.kind = m.kind → a.wait = m.wait → a.frm = m.frm → a.en = m.en → p0 ≤ c.a → c.a < c.z → Pst lo (a.put c b) c.z := fun a c b e0 e1 e2 e3 e4 e5 h1 h2 => by
    have ha : Pst lo a p0 := h.same e0 e1 e2 e3 e4 e5
    unfold Mc.put
    split
    · next hk =>
      rcases ha with ⟨_, q2⟩ | ⟨q1, q2⟩
      · exact absurd q2.kind hk
      · exact .inr ⟨q1, (q2.same (m' := a.addValue c.r) rfl rfl rfl rfl).up (by omega)⟩
    · next hk =>
      rcases ha with ⟨q1, q2⟩ | ⟨_, q2⟩
      · exact .inl ⟨q1, w_tell q2 (by rw [e3]; exact hw) c b h1 h2⟩
      · exact absurd q2.kind.1 (by simpa using hk)
  unfold Mc.mid Mc.left
  dsimp only
  by_cases hk : m.oneR.2.1 = 0
  · rw [if_pos hk, if_pos hk]
    cases e : m.ref with
    | nil => exact absurd e hne
    | cons c t =>
      rw [e] at hq
      exact ⟨c.z, key _ c false rfl rfl rfl rfl rfl rfl hq.1 hq.2.1, hq.2.2⟩
  · rw [if_neg hk, if_neg hk]
    obtain ⟨j, hj⟩ : ∃ j, m.oneR.2.1 = j + 1 := ⟨m.oneR.2.1 - 1, by omega⟩
    rw [hj] at hlen ⊢
    have hjl : j < m.ref.length := by omega
    have e : m.ref = m.ref.take j ++ m.ref[j] :: m.ref.drop (j + 1) := by
      rw [List.getElem_cons_drop hjl, List.take_append_drop]
    rw [e] at hq
    obtain ⟨q1, q2, q3⟩ := first_lt _ _ _ hq
    rw [← e] at q1 q2
    have ez : Mc.toAt m.ref (j + 1 - 1) = m.ref[j].z := by
      unfold Mc.toAt
      rw [Nat.add_sub_cancel, List.getElem?_eq_getElem hjl]
    refine ⟨m.ref[j].z, ?_, q3⟩
    rw [ez]
    exact key _ ⟨m.oneR.1, Mc.frAt m.ref, m.ref[j].z⟩ true rfl rfl rfl rfl rfl rfl q1 q2
theorem resolve_sp {lo p : Int} {m : Mc} (hi : Inv m) (h : Tot lo m p) (hr : RefW m.ref) : Tot lo m.resolve p := by
  obtain ⟨p0, h1, h2, h3⟩ := h
  obtain ⟨p1, q1, q2⟩ := mid_sp h1 h2 (h3 hr.ne) hr.ne (oneR_len hr)
  rw [resolve_eq]
  exact fold_sp m.left m.mid p1 p (mid_inv hi) (mid_ctl m).2.2.2.1 q1 q2 (left_38 hr)
theorem step_sp {lo p : Int} {n : Nat} {m : Mc} (hg : Good n m) (h : Tot lo m p) (c : Ch) (hp : p ≤ c.a) (hc : c.a < c.z) : Tot lo (m.step c) c.z := by
  obtain ⟨p0, h1, h2, h3⟩ := h
  unfold Mc.step
  split
  · next hr =>
    have hro := hg.ref.resolve_left hr
    have hk : Tot lo { m with ref := m.ref ++ [c] } c.z := ⟨p0, h1.same rfl rfl rfl rfl rfl rfl, h2.app ⟨hp, hc, Int.le_refl _⟩, fun _ => h3 hr⟩
    unfold Mc.refer
    dsimp only
    split
    · exact resolve_sp (inv_of hg.w.inv rfl rfl rfl) hk (.inr ⟨_, _, rfl, hro⟩)
    · exact hk
  · next hr =>
    have hr : m.ref = [] := by simpa using hr
    rw [hr] at h2
    have : p0 ≤ p := h2
    exact take_sp hg.w.inv h1 hr c (by omega) hc
theorem out_sp {lo p : Int} {m : Mc} (h : Tot lo m p) : ∃ mid, Rise lo m.out mid ∧ Tot mid { m with out := [] } p := by
  obtain ⟨p0, h1, h2, h3⟩ := h
  rcases h1 with ⟨z, w⟩ | ⟨z, k⟩
  · obtain ⟨mid, q1, q2⟩ := w.ex
    exact ⟨mid, q1, p0, .inl ⟨z, w.kind, w.en, mid, Int.le_refl _, q2⟩, h2, h3⟩
  · obtain ⟨mid, q1, q2, q3⟩ := k.ex
    exact ⟨mid, q1, p0, .inr ⟨z, k.kind, k.wait, mid, Int.le_refl _, q2, q3⟩, h2, h3⟩
theorem auto_sp {lo p : Int} {m : Mc} (b : Bool) (L : List Pt) (h : Tot lo m p) : Tot lo (Mc.auto b L m) p := by
  obtain ⟨p0, h1, h2, h3⟩ := h
  unfold Mc.auto
  split
  · split
    · exact ⟨p0, h1.same rfl rfl rfl rfl rfl rfl, h2, h3⟩
    · exact ⟨p0, h1, h2, h3⟩
  · exact ⟨p0, h1, h2, h3⟩
theorem feeds_sp (b : Bool) : ∀ (l : List Ch) (A : List Pt) (m : Mc) (n : Nat) (lo mid p q : Int), Good n m → Rise lo A mid → Tot mid m p → CRise p l q → ∃ mid', Rise lo (l.foldl (fdStep b) (A, m)).1 mid' ∧ Tot mid' (l.foldl (fdStep b) (A, m)).2 q
  | [], A, m, n, lo, mid, p, q, _, hA, hm, hl => ⟨mid, hA, hm.up hl⟩
  | c :: l, A, m, n, lo, mid, p, q, hg, hA, hm, hl => by
    have hs := step_sp hg hm c hl.1 hl.2.1
    obtain ⟨mid2, q1, q2⟩ := out_sp hs
    rw [List.foldl_cons]
    exact feeds_sp b l (A ++ (m.feed c).1) _ (n + 1) lo mid2 c.z q (auto_good b _ (feed_good hg c)) (hA.app q1) (auto_sp b _ q2) hl.2.2
theorem bogusF_K {lo p : Int} : ∀ (l : List Ch) (M : Mc), SpK lo M p → (∀ c ∈ l, c.r ≠ 62) → SpK lo (l.foldl Mc.inBogus M) p
  | [], M, h, _ => h
  | c :: l, M, h, h1 => by
    have e : M.inBogus c = M.addText c.r := by
      unfold Mc.inBogus
      rw [if_neg (h1 c (by simp))]
    rw [List.foldl_cons, e]
    exact bogusF_K l (M.addText c.r) (h.same rfl rfl rfl rfl) fun d hd => h1 d (by simp [hd])
theorem endS_sp {lo p : Int} {m : Mc} (hi : Inv m) (h : Pst lo m p) (z : Int) (hp : p ≤ z) : ∃ mid, Rise lo (m.endS z).out mid ∧ mid ≤ z := by
  have hout : ∃ mid, Rise lo m.out mid ∧ mid ≤ z := by
    rcases h with ⟨_, w⟩ | ⟨_, k⟩
    · obtain ⟨mid, q1, q2⟩ := w.ex
      exact ⟨mid, q1, by have := q2.le; omega⟩
    · obtain ⟨mid, q1, q2, q3⟩ := k.ex
      exact ⟨mid, q1, by omega⟩
  have hrel : ∃ mid, Rise lo m.release.out mid ∧ mid ≤ z := by
    rcases h with ⟨_, w⟩ | ⟨_, k⟩
    · obtain ⟨mid, q1, q2⟩ := (w_release w).ex
      exact ⟨mid, q1, by have := q2.le; omega⟩
    · obtain ⟨mid, q1, q2⟩ := hout
      refine ⟨mid, ?_, q2⟩
      show Rise lo (m.out ++ m.wait.map (chT false)) mid
      rw [k.wait]
      simpa using q1
  have hmade : (m.en = 146 ∨ m.en = 108 ∨ m.en = 111) → ∀ b : Mc, b.out = m.out → b.kind = m.kind → b.wait = m.wait → b.frm = m.frm → ∃ mid, Rise lo (b.tellMade z).out mid ∧ mid ≤ z := fun he b e1 e2 e3 e4 => by
    rcases h with ⟨_, w⟩ | ⟨_, k⟩
    · have := w.en
      rcases he with he | he | he
      · exact absurd he this.1
      · exact absurd he this.2.1
      · exact absurd he this.2.2
    · obtain ⟨mid, q1, q2⟩ := (k_made (k.same e1 e2 e3 e4) z hp).ex
      exact ⟨mid, q1, q2.le⟩
  unfold Mc.endS
  rcases hi.2 with ⟨e, hs⟩ | e | e | e | e | e | e | e
  · rw [e]
    have hw : m.wait ≠ [] ∧ ∀ c ∈ m.wait.tail, c.r ≠ 62 := by
      rcases hi.1 with h | h | h | h | h | h | h | h | ⟨h, _⟩
      · rw [hs] at h; exact absurd h.1 (by decide)
      · rw [hs] at h; exact absurd h.1 (by decide)
      · exact h.2
      · rw [hs] at h; exact absurd h.1 (by decide)
      · rw [hs] at h; exact absurd h.1 (by decide)
      · rw [hs] at h; exact absurd h.1 (by decide)
      · rw [hs] at h; exact absurd h.1 (by decide)
      · rw [hs] at h; exact absurd h.1 (by decide)
      · rw [hs] at h; simp at h
    have w : SpW lo m p := by
      rcases h with ⟨_, w⟩ | ⟨q, _⟩
      · exact w
      · rw [hs] at q; exact absurd (by unfold Zst; simp) q
    have hk := bogusF_K m.wait.tail _ ((w_beg (m := m.fault 14 (if m.wait.tail = [] then z else m.w1)) (w.same rfl rfl rfl w.en) hw.1 4 (by decide) 146).same (m' := { (m.fault 14 (if m.wait.tail = [] then z else m.w1)).beg 4 146 with st := 147 }) rfl rfl rfl rfl) hw.2
    obtain ⟨mid, q1, q2⟩ := (k_made hk z hp).ex
    exact ⟨mid, q1, q2.le⟩
  · rw [e]; exact hrel
  · rw [e]; exact hrel
  · rw [e]; exact hrel
  · rw [e]; exact hout
  · rw [e]; exact hmade (.inl e) m rfl rfl rfl rfl
  · rw [e]; exact hmade (.inr (.inl e)) (m.fault 16 z) rfl rfl rfl rfl
  · rw [e]; exact hmade (.inr (.inr e)) (m.wrongDoc z) rfl rfl rfl rfl
theorem ended_sp {lo p : Int} {n : Nat} {m : Mc} (hg : Good n m) (h : Tot lo m p) (z : Int) (hp : p ≤ z) : ∃ L mid, (m.ended z).1 = L ++ [⟨6, 0, ByteArray.empty, ByteArray.empty, [], false, z, z⟩] ∧ Rise lo L mid ∧ mid ≤ z := by
  have key : ∀ r : Mc, Inv r → Tot lo r p → ∃ mid, Rise lo (r.endS z).out mid ∧ mid ≤ z := fun r hi ⟨p0, h1, h2, _⟩ => endS_sp hi h1 z (by have := h2.le; omega)
  unfold Mc.ended
  dsimp only
  split
  · next hr =>
    have hro := hg.ref.resolve_left hr
    obtain ⟨mid, q1, q2⟩ := key _ (resolve_good hg.w (.inl hro)).w.inv (resolve_sp hg.w.inv h (.inl hro))
    exact ⟨_, mid, rfl, q1, q2⟩
  · obtain ⟨mid, q1, q2⟩ := key _ hg.w.inv h
    exact ⟨_, mid, rfl, q1, q2⟩

/- The characters of a text stand in order, within it. -/
theorem items_tot (s : List UInt8) : G4.tot (G4.items s) = s.length := by
  obtain ⟨_, r2, _, r4⟩ := G4.run_ok s [] trivial
  rw [List.nil_append] at r2
  rw [r2, G4.tot_append]
  have : G4.tot (G4.fin (G4.run [] s).1) = (G4.run [] s).1.length := by
    unfold G4.fin
    split
    · next h => rw [h]; rfl
    · simp [G4.tot]
  rw [this]
  simpa using r4
theorem chs_rise : ∀ (I : List (Int × Nat)) (p : Int), (∀ x ∈ I, 1 ≤ x.2) → CRise p (G4.chs p I) (p + (G4.tot I : Nat))
  | [], p, _ => by show p ≤ p + ((0 : Nat) : Int); omega
  | (r, n) :: I, p, h => by
    have h1 : 1 ≤ n := h (r, n) (by simp)
    have ih := chs_rise I (p + (n : Int)) fun x hx => h x (by simp [hx])
    refine ⟨Int.le_refl _, by show p < p + (n : Int); omega, ?_⟩
    rw [G4.tot_cons]
    have e : p + (n : Int) + (G4.tot I : Nat) = p + ((n + G4.tot I : Nat) : Int) := by omega
    rw [← e]
    exact ih
theorem rfs_rise : ∀ (l : List Ch) (lo hi : Int), CRise lo l hi → CRise lo (G4.rfs l) hi
  | [], lo, hi, h => h
  | [c], lo, hi, h => h
  | c :: d :: l, lo, hi, h => by
    unfold G4.rfs
    split
    · have h1 := h.2.1
      have h2 := h.2.2.1
      have h3 := h.2.2.2.1
      exact ⟨h.1, by show c.a < d.z; omega, rfs_rise l d.z hi h.2.2.2.2⟩
    · exact ⟨h.1, h.2.1, rfs_rise (d :: l) c.z hi h.2.2⟩
theorem chars_rise (s : ByteArray) : CRise 0 (chars s) s.size := by
  have h := rfs_rise _ _ _ (chs_rise (G4.items s.data.toList) 0 (G4.items_pos _))
  rw [items_tot, show s.data.toList.length = s.size from Array.length_toList, Int.zero_add] at h
  exact h
theorem begin_tot (text : Int) (foreign : Bool) : Tot 0 (Mc.begin0 text foreign) 0 := tot_of (.inl ⟨.inl rfl, rfl, by show (28 : Nat) ≠ 146 ∧ (28 : Nat) ≠ 108 ∧ (28 : Nat) ≠ 111; decide, 0, Int.le_refl _, Int.le_refl _⟩) rfl
/-- All tokens of a text: they rise within it, and the end is the last one. -/
theorem all_sp (s : ByteArray) (text : Int) (foreign auto : Bool) : ∃ L mid, (allP s text foreign auto).1 = L ++ [⟨6, 0, ByteArray.empty, ByteArray.empty, [], false, s.size, s.size⟩] ∧ Rise 0 L mid ∧ mid ≤ s.size := by
  obtain ⟨mid, h1, h2⟩ := feeds_sp auto (chars s) [] (Mc.begin0 text foreign) 0 0 0 0 s.size (begin_good text foreign) (Int.le_refl _) (begin_tot text foreign) (chars_rise s)
  have hg := feeds_good auto (begin_good text foreign) (chars s)
  obtain ⟨L, mid2, q1, q2, q3⟩ := ended_sp hg h2 (s.size : Int) (Int.le_refl _)
  refine ⟨(Mc.feeds auto (chars s) (Mc.begin0 text foreign)).1 ++ L, mid2, ?_, h1.app q2, q3⟩
  show (Mc.feeds auto (chars s) (Mc.begin0 text foreign)).1 ++ ((Mc.feeds auto (chars s) (Mc.begin0 text foreign)).2.ended s.size).1 = _
  rw [q1, List.append_assoc]
end Go.Proofs.YtjjfalbngcbfaaaGreatDoor
