/- Spans rise: what the machine tells, and what it holds back, stands in order. -/
import Derived.Test.YtjjfalbngcbfaaaGreatDoorYc
namespace Go.Proofs.YtjjfalbngcbfaaaGreatDoor
open Go.RowKit

/-- Tokens whose spans rise from lo to hi; none of them is the end. -/
def Rise : Int → List Pt → Int → Prop
  | lo, [], hi => lo ≤ hi
  | lo, t :: L, hi => lo ≤ t.f ∧ t.f < t.t ∧ t.k ≠ 6 ∧ Rise t.t L hi
/-- Characters whose spans rise from lo to hi. -/
def CRise : Int → List Ch → Int → Prop
  | lo, [], hi => lo ≤ hi
  | lo, c :: l, hi => lo ≤ c.a ∧ c.a < c.z ∧ CRise c.z l hi
theorem Rise.le : ∀ {L : List Pt} {lo hi : Int}, Rise lo L hi → lo ≤ hi
  | [], lo, hi, h => h
  | t :: L, lo, hi, h => by have := Rise.le h.2.2.2; have := h.1; have := h.2.1; omega
theorem CRise.le : ∀ {l : List Ch} {lo hi : Int}, CRise lo l hi → lo ≤ hi
  | [], lo, hi, h => h
  | c :: l, lo, hi, h => by have := CRise.le h.2.2; have := h.1; have := h.2.1; omega
theorem Rise.up : ∀ {L : List Pt} {lo hi hi' : Int}, Rise lo L hi → hi ≤ hi' → Rise lo L hi'
  | [], lo, hi, hi', h, k => by unfold Rise at h ⊢; omega
  | t :: L, lo, hi, hi', h, k => ⟨h.1, h.2.1, h.2.2.1, Rise.up h.2.2.2 k⟩
theorem CRise.up : ∀ {l : List Ch} {lo hi hi' : Int}, CRise lo l hi → hi ≤ hi' → CRise lo l hi'
  | [], lo, hi, hi', h, k => by unfold CRise at h ⊢; omega
  | c :: l, lo, hi, hi', h, k => ⟨h.1, h.2.1, CRise.up h.2.2 k⟩
theorem Rise.app : ∀ {L M : List Pt} {lo mid hi : Int}, Rise lo L mid → Rise mid M hi → Rise lo (L ++ M) hi
  | [], [], lo, mid, hi, h, k => (show lo ≤ hi from by have h1 : lo ≤ mid := h; have h2 : mid ≤ hi := k; omega)
  | [], t :: M, lo, mid, hi, h, k => ⟨by have := k.1; unfold Rise at h; omega, k.2.1, k.2.2.1, k.2.2.2⟩
  | t :: L, M, lo, mid, hi, h, k => ⟨h.1, h.2.1, h.2.2.1, Rise.app h.2.2.2 k⟩
theorem CRise.app : ∀ {L M : List Ch} {lo mid hi : Int}, CRise lo L mid → CRise mid M hi → CRise lo (L ++ M) hi
  | [], [], lo, mid, hi, h, k => (show lo ≤ hi from by have h1 : lo ≤ mid := h; have h2 : mid ≤ hi := k; omega)
  | [], t :: M, lo, mid, hi, h, k => ⟨by have := k.1; unfold CRise at h; omega, k.2.1, k.2.2⟩
  | t :: L, M, lo, mid, hi, h, k => ⟨h.1, h.2.1, CRise.app h.2.2 k⟩
theorem CRise.cut : ∀ {L M : List Ch} {lo hi : Int}, CRise lo (L ++ M) hi → ∃ mid, CRise lo L mid ∧ CRise mid M hi
  | [], M, lo, hi, h => ⟨lo, Int.le_refl _, h⟩
  | t :: L, M, lo, hi, h => by
    obtain ⟨mid, h1, h2⟩ := CRise.cut h.2.2
    exact ⟨mid, ⟨h.1, h.2.1, h1⟩, h2⟩
theorem CRise.low : ∀ {l : List Ch} {lo lo' hi : Int}, CRise lo l hi → lo' ≤ lo → CRise lo' l hi
  | [], lo, lo', hi, h, k => by unfold CRise at h ⊢; omega
  | c :: l, lo, lo', hi, h, k => ⟨by have := h.1; omega, h.2⟩
theorem CRise.toks (s : Bool) : ∀ {l : List Ch} {lo hi : Int}, CRise lo l hi → Rise lo (l.map (chT s)) hi
  | [], lo, hi, h => h
  | c :: l, lo, hi, h => ⟨h.1, h.2.1, by simp [chT], CRise.toks s h.2.2⟩
theorem rise_one {lo hi : Int} {t : Pt} (h1 : lo ≤ t.f) (h2 : t.f < t.t) (h3 : t.k ≠ 6) (h4 : t.t ≤ hi) : Rise lo [t] hi := ⟨h1, h2, h3, h4⟩

/-- States in which nothing is being made, and those in which something is. -/
def Zst (n : Nat) : Prop := n = 27 ∨ n = 49 ∨ n = 75 ∨ n = 73 ∨ n = 51 ∨ n = 84 ∨ n = 123 ∨ n = 113 ∨ n = 145 ∨ n = 169
/-- What is held back while nothing is being made. -/
structure SpW (lo : Int) (m : Mc) (p : Int) : Prop where
  kind : m.kind = 0
  en : m.en ≠ 146 ∧ m.en ≠ 108 ∧ m.en ≠ 111
  ex : ∃ mid, Rise lo m.out mid ∧ CRise mid m.wait p
/-- What is being made. -/
structure SpK (lo : Int) (m : Mc) (p : Int) : Prop where
  kind : m.kind ≠ 0 ∧ m.kind ≠ 6
  wait : m.wait = []
  ex : ∃ mid, Rise lo m.out mid ∧ mid ≤ m.frm ∧ m.frm < p
def Pst (lo : Int) (m : Mc) (p : Int) : Prop := (Zst m.st ∧ SpW lo m p) ∨ (¬ Zst m.st ∧ SpK lo m p)
/-- All that was read up to p: told, held back, being made, or in the open reference. -/
def Tot (lo : Int) (m : Mc) (p : Int) : Prop := ∃ p0, Pst lo m p0 ∧ CRise p0 m.ref p ∧ (m.ref ≠ [] → m.wait = [])
theorem SpK.up {lo p p' : Int} {m : Mc} (h : SpK lo m p) (k : p ≤ p') : SpK lo m p' := by
  obtain ⟨mid, h1, h2, h3⟩ := h.ex
  exact ⟨h.kind, h.wait, mid, h1, h2, by omega⟩
theorem SpW.up {lo p p' : Int} {m : Mc} (h : SpW lo m p) (k : p ≤ p') : SpW lo m p' := by
  obtain ⟨mid, h1, h2⟩ := h.ex
  exact ⟨h.kind, h.en, mid, h1, h2.up k⟩
theorem Pst.up {lo p p' : Int} {m : Mc} (h : Pst lo m p) (k : p ≤ p') : Pst lo m p' := by
  rcases h with ⟨h1, h2⟩ | ⟨h1, h2⟩
  · exact .inl ⟨h1, h2.up k⟩
  · exact .inr ⟨h1, h2.up k⟩
theorem SpK.same {lo p : Int} {m m' : Mc} (h : SpK lo m p) (e1 : m'.out = m.out) (e2 : m'.kind = m.kind) (e3 : m'.wait = m.wait) (e4 : m'.frm = m.frm) : SpK lo m' p := by
  obtain ⟨mid, h1, h2, h3⟩ := h.ex
  exact ⟨by rw [e2]; exact h.kind, by rw [e3]; exact h.wait, mid, by rw [e1]; exact h1, by rw [e4]; exact h2, by rw [e4]; exact h3⟩
theorem SpW.same {lo p : Int} {m m' : Mc} (h : SpW lo m p) (e1 : m'.out = m.out) (e2 : m'.kind = m.kind) (e3 : m'.wait = m.wait) (e4 : m'.en ≠ 146 ∧ m'.en ≠ 108 ∧ m'.en ≠ 111) : SpW lo m' p := by
  obtain ⟨mid, h1, h2⟩ := h.ex
  exact ⟨by rw [e2]; exact h.kind, e4, mid, by rw [e1]; exact h1, by rw [e3]; exact h2⟩
theorem tot_of {lo p : Int} {m : Mc} (h : Pst lo m p) (hr : m.ref = []) : Tot lo m p := ⟨p, h, by rw [hr]; exact Int.le_refl _, fun e => absurd hr e⟩

/- What each deed does. -/
theorem w_tell {lo p : Int} {m : Mc} (h : SpW lo m p) (hw : m.wait = []) (c : Ch) (s : Bool) (h1 : p ≤ c.a) (h2 : c.a < c.z) : SpW lo (m.tell (chT s c)) c.z := by
  obtain ⟨mid, q1, q2⟩ := h.ex
  rw [hw] at q2
  unfold CRise at q2
  refine ⟨h.kind, h.en, c.z, q1.app (rise_one (by simp [chT]; omega) h2 (by simp [chT]) (Int.le_refl _)), ?_⟩
  show CRise c.z m.wait c.z
  rw [hw]
  exact Int.le_refl _
theorem w_hold {lo p : Int} {m : Mc} (h : SpW lo m p) (c : Ch) (h1 : p ≤ c.a) (h2 : c.a < c.z) : SpW lo (m.hold c) c.z := by
  obtain ⟨mid, q1, q2⟩ := h.ex
  exact ⟨h.kind, h.en, mid, q1, q2.app ⟨h1, h2, Int.le_refl _⟩⟩
theorem w_release {lo p : Int} {m : Mc} (h : SpW lo m p) : SpW lo m.release p := by
  obtain ⟨mid, q1, q2⟩ := h.ex
  exact ⟨h.kind, h.en, p, q1.app (q2.toks false), Int.le_refl _⟩
theorem w_relData {lo p : Int} {m : Mc} (h : SpW lo m p) : SpW lo m.release.toData p := by
  obtain ⟨mid, q1, q2⟩ := (w_release h).ex
  exact ⟨rfl, by simp [Mc.toData], mid, q1, q2⟩
theorem w_toData {lo p : Int} {m : Mc} (h : SpW lo m p) : SpW lo m.toData p := by
  obtain ⟨mid, q1, q2⟩ := h.ex
  exact ⟨rfl, by simp [Mc.toData], mid, q1, q2.le⟩
theorem w_beg {lo p : Int} {m : Mc} (h : SpW lo m p) (hw : m.wait ≠ []) (k : Int) (hk : k ≠ 0 ∧ k ≠ 6) (en : Nat) : SpK lo (m.beg k en) p := by
  obtain ⟨mid, q1, q2⟩ := h.ex
  cases e : m.wait with
  | nil => exact absurd e hw
  | cons c l =>
    rw [e] at q2
    have := q2.2.2.le
    have h1 := q2.1
    have h2 := q2.2.1
    refine ⟨hk, rfl, mid, q1, ?_, ?_⟩
    · show mid ≤ m.w0
      unfold Mc.w0
      rw [e]
      exact h1
    · show m.w0 < p
      unfold Mc.w0
      rw [e]
      show c.a < p
      omega
theorem k_done {lo p : Int} {m b : Mc} (h : SpK lo m p) (t : Pt) (ho : b.out = m.out ++ [t]) (hf : t.f = m.frm) (hk : t.k = m.kind) (z : Int) (hz : t.t = z) (hp : p ≤ z) : SpW lo b.toData z := by
  obtain ⟨mid, q1, q2, q3⟩ := h.ex
  refine ⟨rfl, by simp [Mc.toData], z, ?_, Int.le_refl _⟩
  show Rise lo b.out z
  rw [ho]
  exact q1.app (rise_one (by rw [hf]; exact q2) (by rw [hf, hz]; omega) (by rw [hk]; exact h.kind.2) (by rw [hz]; exact Int.le_refl _))
theorem k_made {lo p : Int} {m : Mc} (h : SpK lo m p) (z : Int) (hp : p ≤ z) : SpW lo (m.tellMade z) z := k_done (b := m.tell (m.madePt z)) h (m.madePt z) rfl rfl rfl z rfl hp
theorem k_keep {lo p : Int} {m : Mc} (h : SpK lo m p) : SpK lo m.keep p := h.same rfl rfl rfl rfl
theorem k_tag {lo p : Int} {m : Mc} (h : SpK lo m p) (c : Ch) (hp : p ≤ c.z) : SpW lo (m.tellTag c) c.z := by
  have hk := k_keep h
  have key : ∀ b : Mc, b.out = m.keep.out → SpW lo ({ b.tell (m.keep.tagPt c.z) with text := 0 } : Mc).toData c.z := fun b hb =>
    k_done (b := { b.tell (m.keep.tagPt c.z) with text := 0 }) hk (m.keep.tagPt c.z) (by show b.out ++ _ = _; rw [hb]) rfl rfl c.z rfl hp
  unfold Mc.tellTag
  dsimp only
  refine key _ ?_
  split
  · rfl
  · split <;> rfl
theorem k_endName {lo p : Int} {m : Mc} (h : SpK lo m p) : SpK lo m.endName p := by
  unfold Mc.endName
  split <;> exact h.same rfl rfl rfl rfl
theorem tag_ref (m : Mc) (c : Ch) : (m.tellTag c).ref = m.ref := rf_tag m c
end Go.Proofs.YtjjfalbngcbfaaaGreatDoor
