/- Spans rise: every state's deed. -/
import Derived.Test.YtjjfalbngcbfaaaGreatDoorRa
namespace Go.Proofs.YtjjfalbngcbfaaaGreatDoor
open Go.RowKit

theorem tk {lo p z : Int} {m m' : Mc} (h : SpK lo m p) (hp : p ≤ z) (hs : ¬ Zst m'.st) (hr : m'.ref = []) (e1 : m'.out = m.out) (e2 : m'.kind = m.kind) (e3 : m'.wait = m.wait) (e4 : m'.frm = m.frm) : Tot lo m' z :=
  tot_of (.inr ⟨hs, (h.same e1 e2 e3 e4).up hp⟩) hr
theorem tw {lo z : Int} {m' : Mc} (h : SpW lo m' z) (hs : Zst m'.st) (hr : m'.ref = []) : Tot lo m' z := tot_of (.inl ⟨hs, h⟩) hr
theorem tt {lo p : Int} {m : Mc} (h : SpK lo m p) (hr : m.ref = []) (c : Ch) (hp : p ≤ c.z) : Tot lo (m.tellTag c) c.z := tw (k_tag h c hp) (.inl rfl) ((rf_tag m c).trans hr)
theorem tm {lo p : Int} {m : Mc} (h : SpK lo m p) (hr : m.ref = []) (z : Int) (hp : p ≤ z) : Tot lo (m.tellMade z) z := tw (k_made h z hp) (.inl rfl) hr
/-- The reference is opened. -/
theorem tr_k {lo p : Int} {m m' : Mc} (h : SpK lo m p) (c : Ch) (hp : p ≤ c.a) (hc : c.a < c.z) (hs : ¬ Zst m'.st) (hr : m'.ref = [c]) (e1 : m'.out = m.out) (e2 : m'.kind = m.kind) (e3 : m'.wait = m.wait) (e4 : m'.frm = m.frm) : Tot lo m' c.z :=
  ⟨p, .inr ⟨hs, h.same e1 e2 e3 e4⟩, by rw [hr]; exact ⟨hp, hc, Int.le_refl _⟩, fun _ => by rw [e3]; exact h.wait⟩
theorem s_tagName {lo p : Int} {m : Mc} (h : SpK lo m p) (hs : ¬ Zst m.st) (hr : m.ref = []) (c : Ch) (hp : p ≤ c.a) (hc : c.a < c.z) : Tot lo (m.tagName c) c.z := by
  have hz : p ≤ c.z := by omega
  unfold Mc.tagName
  split
  · exact tk h hz (by unfold Zst; simp) hr rfl rfl rfl rfl
  · split
    · exact tk h hz (by unfold Zst; simp) hr rfl rfl rfl rfl
    · split
      · exact tt h hr c hz
      · exact tk h hz hs hr rfl rfl rfl rfl
theorem s_afterEnd {lo p : Int} {m : Mc} (h : SpK lo m p) (hs : ¬ Zst m.st) (hr : m.ref = []) (c : Ch) (hp : p ≤ c.a) (hc : c.a < c.z) : Tot lo (m.afterEnd c) c.z := by
  have hz : p ≤ c.z := by omega
  unfold Mc.afterEnd
  split
  · exact tk h hz hs hr rfl rfl rfl rfl
  · split
    · exact tk h hz (by unfold Zst; simp) hr rfl rfl rfl rfl
    · split
      · exact tk h hz (by unfold Zst; simp) hr rfl rfl rfl rfl
      · split
        · exact tt h hr c hz
        · exact tk h hz hs hr rfl rfl rfl rfl
theorem s_name {lo p : Int} {m : Mc} (h : SpK lo m p) (hs : ¬ Zst m.st) (hr : m.ref = []) (c : Ch) (hp : p ≤ c.a) (hc : c.a < c.z) : Tot lo (m.name c) c.z := by
  have hz : p ≤ c.z := by omega
  have he := k_endName h
  have hre : m.endName.ref = [] := (rf_endName m).trans hr
  unfold Mc.name Mc.inName
  split
  · exact s_afterEnd (m := { m.endName with st := 148 }) (he.same rfl rfl rfl rfl) (by unfold Zst; simp) hre c hp hc
  · split
    · exact tk he hz (by unfold Zst; simp) hre rfl rfl rfl rfl
    · split
      · exact tk h hz hs hr rfl rfl rfl rfl
      · exact tk h hz hs hr rfl rfl rfl rfl
theorem s_afterName {lo p : Int} {m : Mc} (h : SpK lo m p) (hs : ¬ Zst m.st) (hr : m.ref = []) (c : Ch) (hp : p ≤ c.a) (hc : c.a < c.z) : Tot lo (m.afterName c) c.z := by
  have hz : p ≤ c.z := by omega
  unfold Mc.afterName
  split
  · exact tk h hz hs hr rfl rfl rfl rfl
  · split
    · exact tk h hz (by unfold Zst; simp) hr rfl rfl rfl rfl
    · split
      · exact tk h hz (by unfold Zst; simp) hr rfl rfl rfl rfl
      · split
        · exact tt h hr c hz
        · exact s_name (m := { m.begA c.a with st := 151 }) (h.same rfl rfl rfl rfl) (by unfold Zst; simp) hr c hp hc
theorem s_beforeName {lo p : Int} {m : Mc} (h : SpK lo m p) (hs : ¬ Zst m.st) (hr : m.ref = []) (c : Ch) (hp : p ≤ c.a) (hc : c.a < c.z) : Tot lo (m.beforeName c) c.z := by
  have hz : p ≤ c.z := by omega
  unfold Mc.beforeName
  split
  · exact tk h hz hs hr rfl rfl rfl rfl
  · split
    · exact s_afterName (m := { m with st := 148 }) (h.same rfl rfl rfl rfl) (by unfold Zst; simp) hr c hp hc
    · split
      · exact tk h hz (by unfold Zst; simp) hr rfl rfl rfl rfl
      · exact s_name (m := { m.begA c.a with st := 151 }) (h.same rfl rfl rfl rfl) (by unfold Zst; simp) hr c hp hc
theorem s_bare {lo p : Int} {m : Mc} (h : SpK lo m p) (hs : ¬ Zst m.st) (hr : m.ref = []) (c : Ch) (hp : p ≤ c.a) (hc : c.a < c.z) : Tot lo (m.bare c) c.z := by
  have hz : p ≤ c.z := by omega
  unfold Mc.bare
  split
  · exact tk h hz (by unfold Zst; simp) hr rfl rfl rfl rfl
  · split
    · exact tr_k h c hp hc hs rfl rfl rfl rfl rfl
    · split
      · exact tt h hr c hz
      · split
        · exact tk h hz hs hr rfl rfl rfl rfl
        · exact tk h hz hs hr rfl rfl rfl rfl
theorem s_beforeValue {lo p : Int} {m : Mc} (h : SpK lo m p) (hs : ¬ Zst m.st) (hr : m.ref = []) (c : Ch) (hp : p ≤ c.a) (hc : c.a < c.z) : Tot lo (m.beforeValue c) c.z := by
  have hz : p ≤ c.z := by omega
  unfold Mc.beforeValue
  split
  · exact tk h hz hs hr rfl rfl rfl rfl
  · split
    · exact tk h hz (by unfold Zst; simp) hr rfl rfl rfl rfl
    · split
      · exact tk h hz (by unfold Zst; simp) hr rfl rfl rfl rfl
      · split
        · exact tt (m := m.fault 10 c.a) (h.same rfl rfl rfl rfl) hr c hz
        · exact s_bare (m := { m with st := 183 }) (h.same rfl rfl rfl rfl) (by unfold Zst; simp) hr c hp hc
theorem s_quoted {lo p : Int} {m : Mc} (h : SpK lo m p) (hs : ¬ Zst m.st) (hr : m.ref = []) (c : Ch) (hp : p ≤ c.a) (hc : c.a < c.z) (s : Int) : Tot lo (m.quoted c s) c.z := by
  have hz : p ≤ c.z := by omega
  unfold Mc.quoted
  split
  · exact tk h hz (by unfold Zst; simp) hr rfl rfl rfl rfl
  · split
    · exact tr_k h c hp hc hs rfl rfl rfl rfl rfl
    · exact tk h hz hs hr rfl rfl rfl rfl
theorem s_afterValue {lo p : Int} {m : Mc} (h : SpK lo m p) (_hs : ¬ Zst m.st) (hr : m.ref = []) (c : Ch) (hp : p ≤ c.a) (hc : c.a < c.z) : Tot lo (m.afterValue c) c.z := by
  have hz : p ≤ c.z := by omega
  unfold Mc.afterValue
  split
  · exact tk h hz (by unfold Zst; simp) hr rfl rfl rfl rfl
  · split
    · exact tk h hz (by unfold Zst; simp) hr rfl rfl rfl rfl
    · split
      · exact tt h hr c hz
      · exact s_beforeName (m := { m.fault 11 c.a with st := 119 }) (h.same rfl rfl rfl rfl) (by unfold Zst; simp) hr c hp hc
theorem s_slash {lo p : Int} {m : Mc} (h : SpK lo m p) (_hs : ¬ Zst m.st) (hr : m.ref = []) (c : Ch) (hp : p ≤ c.a) (hc : c.a < c.z) : Tot lo (m.slash c) c.z := by
  have hz : p ≤ c.z := by omega
  unfold Mc.slash
  split
  · exact tt (m := { m with self := true }) (h.same rfl rfl rfl rfl) hr c hz
  · exact s_beforeName (m := { m.fault 12 c.a with st := 119 }) (h.same rfl rfl rfl rfl) (by unfold Zst; simp) hr c hp hc
theorem s_inBogus {lo p : Int} {m : Mc} (h : SpK lo m p) (hs : ¬ Zst m.st) (hr : m.ref = []) (c : Ch) (hp : p ≤ c.a) (hc : c.a < c.z) : Tot lo (m.inBogus c) c.z := by
  have hz : p ≤ c.z := by omega
  unfold Mc.inBogus
  split
  · exact tm h hr c.z hz
  · exact tk h hz hs hr rfl rfl rfl rfl
theorem s_comment {lo p : Int} {m : Mc} (h : SpK lo m p) (hs : ¬ Zst m.st) (hr : m.ref = []) (c : Ch) (hp : p ≤ c.a) (hc : c.a < c.z) : Tot lo (m.comment c) c.z := by
  have hz : p ≤ c.z := by omega
  unfold Mc.comment
  split
  · exact tk h hz (by unfold Zst; simp) hr rfl rfl rfl rfl
  · exact tk h hz hs hr rfl rfl rfl rfl
theorem s_abrupt {lo p : Int} {m : Mc} (h : SpK lo m p) (hr : m.ref = []) (c : Ch) (hz : p ≤ c.z) : Tot lo (m.abrupt c) c.z := tm (m := m.fault 15 c.a) (h.same rfl rfl rfl rfl) hr c.z hz
theorem s_cAgain {lo p : Int} {m : Mc} (h : SpK lo m p) (hr : m.ref = []) (l : List UInt8) (c : Ch) (hp : p ≤ c.a) (hc : c.a < c.z) : Tot lo (m.commentAgain l c) c.z :=
  s_comment (m := { m.addDashes l with st := 142 }) (h.same rfl rfl rfl rfl) (by unfold Zst; simp) hr c hp hc
theorem s_comStart {lo p : Int} {m : Mc} (h : SpK lo m p) (_hs : ¬ Zst m.st) (hr : m.ref = []) (c : Ch) (hp : p ≤ c.a) (hc : c.a < c.z) : Tot lo (m.comStart c) c.z := by
  have hz : p ≤ c.z := by omega
  unfold Mc.comStart
  split
  · exact tk h hz (by unfold Zst; simp) hr rfl rfl rfl rfl
  · split
    · exact s_abrupt h hr c hz
    · exact s_comment (m := { m with st := 142 }) (h.same rfl rfl rfl rfl) (by unfold Zst; simp) hr c hp hc
theorem s_comStartDash {lo p : Int} {m : Mc} (h : SpK lo m p) (_hs : ¬ Zst m.st) (hr : m.ref = []) (c : Ch) (hp : p ≤ c.a) (hc : c.a < c.z) : Tot lo (m.comStartDash c) c.z := by
  have hz : p ≤ c.z := by omega
  unfold Mc.comStartDash
  split
  · exact tk h hz (by unfold Zst; simp) hr rfl rfl rfl rfl
  · split
    · exact s_abrupt h hr c hz
    · exact s_cAgain h hr _ c hp hc
theorem s_comDash {lo p : Int} {m : Mc} (h : SpK lo m p) (_hs : ¬ Zst m.st) (hr : m.ref = []) (c : Ch) (hp : p ≤ c.a) (hc : c.a < c.z) : Tot lo (m.comDash c) c.z := by
  have hz : p ≤ c.z := by omega
  unfold Mc.comDash
  split
  · exact tk h hz (by unfold Zst; simp) hr rfl rfl rfl rfl
  · exact s_cAgain h hr _ c hp hc
theorem s_comEnd {lo p : Int} {m : Mc} (h : SpK lo m p) (hs : ¬ Zst m.st) (hr : m.ref = []) (c : Ch) (hp : p ≤ c.a) (hc : c.a < c.z) : Tot lo (m.comEnd c) c.z := by
  have hz : p ≤ c.z := by omega
  unfold Mc.comEnd
  split
  · exact tm h hr c.z hz
  · split
    · exact tk h hz (by unfold Zst; simp) hr rfl rfl rfl rfl
    · split
      · exact tk h hz hs hr rfl rfl rfl rfl
      · exact s_cAgain h hr _ c hp hc
theorem s_comBang {lo p : Int} {m : Mc} (h : SpK lo m p) (_hs : ¬ Zst m.st) (hr : m.ref = []) (c : Ch) (hp : p ≤ c.a) (hc : c.a < c.z) : Tot lo (m.comBang c) c.z := by
  have hz : p ≤ c.z := by omega
  unfold Mc.comBang
  split
  · exact tk h hz (by unfold Zst; simp) hr rfl rfl rfl rfl
  · split
    · exact s_abrupt h hr c hz
    · exact s_cAgain h hr _ c hp hc
theorem s_docName {lo p : Int} {m : Mc} (h : SpK lo m p) (hs : ¬ Zst m.st) (hr : m.ref = []) (c : Ch) (hp : p ≤ c.a) (hc : c.a < c.z) : Tot lo (m.docName c) c.z := by
  have hz : p ≤ c.z := by omega
  unfold Mc.docName
  split
  · exact tk h hz (by unfold Zst; simp) hr rfl rfl rfl rfl
  · split
    · exact tm h hr c.z hz
    · exact tk h hz hs hr rfl rfl rfl rfl
theorem s_beforeDoc {lo p : Int} {m : Mc} (h : SpK lo m p) (hs : ¬ Zst m.st) (hr : m.ref = []) (c : Ch) (hp : p ≤ c.a) (hc : c.a < c.z) : Tot lo (m.beforeDoc c) c.z := by
  have hz : p ≤ c.z := by omega
  unfold Mc.beforeDoc
  split
  · exact tk h hz hs hr rfl rfl rfl rfl
  · split
    · exact tm (m := m.wrongDoc c.a) (h.same rfl rfl rfl rfl) hr c.z hz
    · exact s_docName (m := { m with st := 144 }) (h.same rfl rfl rfl rfl) (by unfold Zst; simp) hr c hp hc
theorem s_afterDoc {lo p : Int} {m : Mc} (h : SpK lo m p) (hs : ¬ Zst m.st) (hr : m.ref = []) (c : Ch) (hp : p ≤ c.a) (hc : c.a < c.z) : Tot lo (m.afterDoc c) c.z := by
  have hz : p ≤ c.z := by omega
  unfold Mc.afterDoc
  split
  · exact tk h hz hs hr rfl rfl rfl rfl
  · split
    · exact tm h hr c.z hz
    · exact tk h hz (by unfold Zst; simp) hr rfl rfl rfl rfl
theorem s_bogusDoc {lo p : Int} {m : Mc} (h : SpK lo m p) (hs : ¬ Zst m.st) (hr : m.ref = []) (c : Ch) (hp : p ≤ c.a) (hc : c.a < c.z) : Tot lo (m.bogusDoc c) c.z := by
  have hz : p ≤ c.z := by omega
  unfold Mc.bogusDoc
  split
  · exact tm h hr c.z hz
  · exact tk h hz hs hr rfl rfl rfl rfl

/- Where nothing is being made. -/
theorem s_data {lo p : Int} {m : Mc} (h : SpW lo m p) (hw : m.wait = []) (hs : Zst m.st) (hr : m.ref = []) (c : Ch) (hp : p ≤ c.a) (hc : c.a < c.z) : Tot lo (m.data c) c.z := by
  unfold Mc.data
  split
  · exact ⟨p, .inl ⟨hs, h.same rfl rfl rfl h.en⟩, ⟨hp, hc, Int.le_refl _⟩, fun _ => hw⟩
  · split
    · exact tw ((w_hold h c hp hc).same rfl rfl rfl (by simp)) (by unfold Zst; simp) hr
    · split
      · exact tw ((w_hold h c hp hc).same rfl rfl rfl h.en) (by unfold Zst; simp) hr
      · exact tw (w_tell h hw c false hp hc) hs hr
theorem s_again {lo p : Int} {m : Mc} (h : SpW lo m p) (hr : m.ref = []) (c : Ch) (hp : p ≤ c.a) (hc : c.a < c.z) : Tot lo (m.dataAgain c) c.z :=
  s_data (w_relData h) rfl (.inl rfl) hr c hp hc
theorem s_bogusF {lo p zz : Int} : ∀ (l : List Ch) (M : Mc), SpK lo M p → ¬ Zst M.st → M.ref = [] → (∀ i c, i + 1 < l.length → l[i]? = some c → c.r ≠ 62) → (∀ c, l.getLast? = some c → c.z = zz) → p ≤ zz → Tot lo (l.foldl Mc.inBogus M) zz
  | [], M, h, hs, hr, _, _, hp => tot_of (.inr ⟨hs, h.up hp⟩) hr
  | [c], M, h, hs, hr, _, hz, hp => by
    have e := hz c rfl
    show Tot lo (M.inBogus c) zz
    unfold Mc.inBogus
    split
    · rw [e]; exact tm h hr zz hp
    · exact tk h hp hs hr rfl rfl rfl rfl
  | c :: d :: l, M, h, hs, hr, h1, hz, hp => by
    have e : M.inBogus c = M.addText c.r := by
      unfold Mc.inBogus
      rw [if_neg (h1 0 c (by simp) rfl)]
    rw [List.foldl_cons, e]
    exact s_bogusF (d :: l) (M.addText c.r) (h.same rfl rfl rfl rfl) hs hr (fun i c hi hc => h1 (i + 1) c (by simp at hi ⊢; omega) (by simpa using hc)) (fun c hc => hz c (by simpa using hc)) hp
theorem s_bogus {lo p zz : Int} {m : Mc} (h : SpW lo m p) (hw : m.wait ≠ []) (hr : m.ref = []) (l : List Ch) (h1 : ∀ i c, i + 1 < l.length → l[i]? = some c → c.r ≠ 62) (h2 : ∀ c, l.getLast? = some c → c.z = zz) (hp : p ≤ zz) : Tot lo (m.bogus l) zz :=
  s_bogusF l _ ((w_beg h hw 4 (by decide) 146).same rfl rfl rfl rfl) (by unfold Zst; simp) hr h1 h2 hp
theorem s_bogusAgain {lo p : Int} {m : Mc} (h : SpW lo m p) (hw : m.wait ≠ []) (hr : m.ref = []) (c : Ch) (hp : p ≤ c.z) : Tot lo (m.bogusAgain c) c.z :=
  s_bogus (m := m.fault 14 c.a) (h.same rfl rfl rfl h.en) hw hr [c] (fun i d hi _ => by simp at hi) (fun d hd => by simp at hd; rw [hd]) hp
theorem s_begTag {lo p : Int} {m b : Mc} (h : SpW lo m p) (hw : m.wait ≠ []) (k : Int) (hk : k ≠ 0 ∧ k ≠ 6) (e1 : b.out = (m.beg k 79).out) (e2 : b.kind = (m.beg k 79).kind) (e3 : b.wait = (m.beg k 79).wait) (e4 : b.frm = (m.beg k 79).frm) (hs : b.st = 81) (hr : b.ref = []) (c : Ch) (hp : p ≤ c.a) (hc : c.a < c.z) : Tot lo (b.tagName c) c.z :=
  s_tagName ((w_beg h hw k hk 79).same e1 e2 e3 e4) (by rw [hs]; unfold Zst; simp) hr c hp hc
theorem s_tagOpen {lo p : Int} {m : Mc} (h : SpW lo m p) (hw : m.wait ≠ []) (hr : m.ref = []) (c : Ch) (hp : p ≤ c.a) (hc : c.a < c.z) : Tot lo (m.tagOpen c) c.z := by
  have hz : p ≤ c.z := by omega
  unfold Mc.tagOpen
  split
  · exact tw ((h.up hz).same rfl rfl rfl (by simp)) (by unfold Zst; simp) hr
  · split
    · exact tw ((w_hold h c hp hc).same rfl rfl rfl (by simp)) (by unfold Zst; simp) hr
    · split
      · exact s_begTag (b := { m.beg 2 79 with st := 81 }) h hw 2 (by decide) rfl rfl rfl rfl rfl hr c hp hc
      · split
        · exact s_bogusAgain h hw hr c hz
        · exact s_again (m := m.fault 5 c.a) (h.same rfl rfl rfl h.en) hr c hp hc
theorem s_endOpen {lo p : Int} {m : Mc} (h : SpW lo m p) (hw : m.wait ≠ []) (hr : m.ref = []) (c : Ch) (hp : p ≤ c.a) (hc : c.a < c.z) : Tot lo (m.endOpen c) c.z := by
  have hz : p ≤ c.z := by omega
  unfold Mc.endOpen
  split
  · exact s_begTag (b := { m.beg 3 79 with st := 81 }) h hw 3 (by decide) rfl rfl rfl rfl rfl hr c hp hc
  · split
    · exact tw (w_toData (m := m.fault 6 c.a) ((h.up hz).same rfl rfl rfl h.en)) (.inl rfl) hr
    · exact s_bogusAgain h hw hr c hz
theorem s_markup {lo p : Int} {m : Mc} (h : SpW lo m p) (hw : m.wait ≠ []) (h62 : ∀ c ∈ m.wait.tail, c.r ≠ 62) (hs : m.st = 73) (hr : m.ref = []) (c : Ch) (hp : p ≤ c.a) (hc : c.a < c.z) : Tot lo (m.markup c) c.z := by
  have hh := w_hold h c hp hc
  have hwh : (m.hold c).wait ≠ [] := by simp [Mc.hold]
  have htl : (m.hold c).wait.tail = m.wait.tail ++ [c] := by
    cases e : m.wait with
    | nil => exact absurd e hw
    | cons a l => simp [Mc.hold, e]
  have hb : ∀ b : Mc, b.out = (m.hold c).out → b.kind = (m.hold c).kind → b.wait = (m.hold c).wait → (b.en ≠ 146 ∧ b.en ≠ 108 ∧ b.en ≠ 111) → b.ref = [] → Tot lo (b.bogus (m.hold c).wait.tail) c.z := fun b e1 e2 e3 e4 e5 =>
    s_bogus (hh.same e1 e2 e3 e4) (by rw [e3]; exact hwh) e5 _ (fun i d hi hd => by
      rw [htl] at hi hd
      simp only [List.length_append, List.length_cons, List.length_nil] at hi
      rw [List.getElem?_append_left (by omega)] at hd
      exact h62 d (List.mem_of_getElem? hd)) (fun d hd => by rw [htl] at hd; simp at hd; rw [hd]) (Int.le_refl _)
  unfold Mc.markup
  dsimp only
  split
  · exact tot_of (.inr ⟨by unfold Zst; simp, (w_beg hh hwh 4 (by decide) 108).same rfl rfl rfl rfl⟩) hr
  · split
    · exact tot_of (.inr ⟨by unfold Zst; simp, (w_beg hh hwh 5 (by decide) 111).same rfl rfl rfl rfl⟩) hr
    · split
      · obtain ⟨mid, q1, q2⟩ := hh.ex
        exact tw ⟨hh.kind, by simp, mid, q1, q2.le⟩ (by unfold Zst; simp) hr
      · split
        · exact hb ((m.hold c).fault 21 (m.hold c).w1) rfl rfl rfl h.en hr
        · split
          · exact hb ((m.hold c).fault 14 (m.hold c).w1) rfl rfl rfl h.en hr
          · exact tw hh (by show Zst m.st; rw [hs]; unfold Zst; simp) hr
theorem s_rawOpen {lo p : Int} {m : Mc} (h : SpW lo m p) (hr : m.ref = []) (c : Ch) (hp : p ≤ c.a) (hc : c.a < c.z) : Tot lo (m.rawOpen c) c.z := by
  unfold Mc.rawOpen
  split
  · exact tw ((w_hold h c hp hc).same rfl rfl rfl h.en) (by unfold Zst; simp) hr
  · exact s_again h hr c hp hc
theorem s_rawName {lo p : Int} {m : Mc} (h : SpW lo m p) (hw : m.wait ≠ []) (hs : Zst m.st) (hr : m.ref = []) (c : Ch) (hp : p ≤ c.a) (hc : c.a < c.z) : Tot lo (m.rawName c) c.z := by
  unfold Mc.rawName
  split
  · exact tw (w_hold h c hp hc) hs hr
  · split
    · exact s_begTag (b := { m.beg 3 79 with nm := m.last.data.toList, st := 81 }) h hw 3 (by decide) rfl rfl rfl rfl rfl hr c hp hc
    · exact s_again h hr c hp hc
theorem s_rawSlash {lo p : Int} {m : Mc} (h : SpW lo m p) (hw : m.wait ≠ []) (hr : m.ref = []) (c : Ch) (hp : p ≤ c.a) (hc : c.a < c.z) : Tot lo (m.rawSlash c) c.z := by
  unfold Mc.rawSlash
  split
  · exact s_rawName (m := { m with st := 123 }) (h.same rfl rfl rfl h.en) hw (by unfold Zst; simp) hr c hp hc
  · exact s_again h hr c hp hc
theorem s_cdata {lo p : Int} {m : Mc} (h : SpW lo m p) (hw : m.wait = []) (hs : Zst m.st) (hr : m.ref = []) (c : Ch) (hp : p ≤ c.a) (hc : c.a < c.z) : Tot lo (m.cdata c) c.z := by
  unfold Mc.cdata
  split
  · exact tw ((w_hold h c hp hc).same rfl rfl rfl h.en) (by unfold Zst; simp) hr
  · exact tw (w_tell h hw c false hp hc) hs hr
theorem s_relCdata {lo p : Int} {m : Mc} (h : SpW lo m p) (hr : m.ref = []) (c : Ch) (hp : p ≤ c.a) (hc : c.a < c.z) : Tot lo (({ m.release with st := 113 } : Mc).cdata c) c.z :=
  s_cdata (m := { m.release with st := 113 }) ((w_release h).same rfl rfl rfl h.en) rfl (by unfold Zst; simp) hr c hp hc
theorem s_cdataOne {lo p : Int} {m : Mc} (h : SpW lo m p) (hr : m.ref = []) (c : Ch) (hp : p ≤ c.a) (hc : c.a < c.z) : Tot lo (m.cdataOne c) c.z := by
  unfold Mc.cdataOne
  split
  · exact tw ((w_hold h c hp hc).same rfl rfl rfl h.en) (by unfold Zst; simp) hr
  · exact s_relCdata h hr c hp hc
theorem s_cdataTwo {lo p : Int} {m : Mc} (h : SpW lo m p) (hw : m.wait.length = 2) (hs : Zst m.st) (hr : m.ref = []) (c : Ch) (hp : p ≤ c.a) (hc : c.a < c.z) : Tot lo (m.cdataTwo c) c.z := by
  have hz : p ≤ c.z := by omega
  unfold Mc.cdataTwo
  split
  · split
    · next a b t e =>
      have ht : t = [] := by rw [e] at hw; simp at hw; exact hw
      subst ht
      obtain ⟨mid, q1, q2⟩ := h.ex
      rw [e] at q2
      obtain ⟨r1, r2, r3, r4, r5⟩ := q2
      have r6 : b.z ≤ p := r5
      exact tw ⟨h.kind, h.en, a.z, q1.app (rise_one r1 r2 (by simp [chT]) (Int.le_refl _)), ⟨r3, r4, by omega, hc, Int.le_refl _⟩⟩ hs hr
    · next e =>
      exfalso
      match hm : m.wait, hw with
      | [a, b], _ => exact e a b [] hm
  · split
    · exact tw (w_toData (h.up hz)) (.inl rfl) hr
    · exact s_relCdata h hr c hp hc

/-- A character in whatever state. -/
theorem take_sp {lo p : Int} {m : Mc} (hi : Inv m) (h : Pst lo m p) (hr : m.ref = []) (c : Ch) (hp : p ≤ c.a) (hc : c.a < c.z) : Tot lo (m.take c) c.z := by
  have z : ∀ n, Zst n → m.st = n → SpW lo m p := fun n hn e => by
    rcases h with ⟨_, h⟩ | ⟨h1, _⟩
    · exact h
    · rw [e] at h1; exact absurd hn h1
  have k : ∀ n, ¬ Zst n → m.st = n → SpK lo m p ∧ ¬ Zst m.st := fun n hn e => by
    rcases h with ⟨h1, _⟩ | ⟨h1, h⟩
    · rw [e] at h1; exact absurd h1 hn
    · exact ⟨h, h1⟩
  have ne : ∀ l : List Ch, 2 ≤ l.length → l ≠ [] := fun l hl e => by rw [e] at hl; simp at hl
  have ne1 : ∀ l : List Ch, l.length = 1 → l ≠ [] := fun l hl e => by rw [e] at hl; simp at hl
  unfold Mc.take
  rcases hi.1 with q | q | q | q | q | q | q | q | ⟨q, hw⟩
  · rw [q.1]; exact s_tagOpen (z 49 (by unfold Zst; simp) q.1) (ne1 _ q.2) hr c hp hc
  · rw [q.1]; exact s_endOpen (z 75 (by unfold Zst; simp) q.1) q.2 hr c hp hc
  · rw [q.1]; exact s_markup (z 73 (by unfold Zst; simp) q.1) q.2.1 q.2.2 q.1 hr c hp hc
  · rw [q.1]; exact s_rawSlash (z 84 (by unfold Zst; simp) q.1) (ne _ q.2) hr c hp hc
  · rw [q.1]; exact s_rawName (z 123 (by unfold Zst; simp) q.1) (ne _ q.2) (by rw [q.1]; unfold Zst; simp) hr c hp hc
  · rw [q.1]; exact s_cdataTwo (z 169 (by unfold Zst; simp) q.1) q.2 (by rw [q.1]; unfold Zst; simp) hr c hp hc
  · rw [q.1]; exact s_rawOpen (z 51 (by unfold Zst; simp) q.1) hr c hp hc
  · rw [q.1]; exact s_cdataOne (z 145 (by unfold Zst; simp) q.1) hr c hp hc
  · rcases q with q | q | q | q | q | q | q | q | q | q | q | q | q | q | q | q | q | q | q | q | q | q | q
    · rw [q]; exact s_data (z 27 (by unfold Zst; simp) q) hw (by rw [q]; unfold Zst; simp) hr c hp hc
    · rw [q]; exact s_tagName (k 81 (by unfold Zst; simp) q).1 (k 81 (by unfold Zst; simp) q).2 hr c hp hc
    · rw [q]; exact s_beforeName (k 119 (by unfold Zst; simp) q).1 (k 119 (by unfold Zst; simp) q).2 hr c hp hc
    · rw [q]; exact s_name (k 151 (by unfold Zst; simp) q).1 (k 151 (by unfold Zst; simp) q).2 hr c hp hc
    · rw [q]; exact s_afterName (k 148 (by unfold Zst; simp) q).1 (k 148 (by unfold Zst; simp) q).2 hr c hp hc
    · rw [q]; exact s_beforeValue (k 170 (by unfold Zst; simp) q).1 (k 170 (by unfold Zst; simp) q).2 hr c hp hc
    · rw [q]; exact s_quoted (k 181 (by unfold Zst; simp) q).1 (k 181 (by unfold Zst; simp) q).2 hr c hp hc 34
    · rw [q]; exact s_quoted (k 182 (by unfold Zst; simp) q).1 (k 182 (by unfold Zst; simp) q).2 hr c hp hc 39
    · rw [q]; exact s_bare (k 183 (by unfold Zst; simp) q).1 (k 183 (by unfold Zst; simp) q).2 hr c hp hc
    · rw [q]; exact s_afterValue (k 187 (by unfold Zst; simp) q).1 (k 187 (by unfold Zst; simp) q).2 hr c hp hc
    · rw [q]; exact s_slash (k 120 (by unfold Zst; simp) q).1 (k 120 (by unfold Zst; simp) q).2 hr c hp hc
    · rw [q]; exact s_inBogus (k 147 (by unfold Zst; simp) q).1 (k 147 (by unfold Zst; simp) q).2 hr c hp hc
    · rw [q]; exact s_comStart (k 109 (by unfold Zst; simp) q).1 (k 109 (by unfold Zst; simp) q).2 hr c hp hc
    · rw [q]; exact s_comStartDash (k 140 (by unfold Zst; simp) q).1 (k 140 (by unfold Zst; simp) q).2 hr c hp hc
    · rw [q]; exact s_comment (k 142 (by unfold Zst; simp) q).1 (k 142 (by unfold Zst; simp) q).2 hr c hp hc
    · rw [q]; exact s_comDash (k 166 (by unfold Zst; simp) q).1 (k 166 (by unfold Zst; simp) q).2 hr c hp hc
    · rw [q]; exact s_comEnd (k 164 (by unfold Zst; simp) q).1 (k 164 (by unfold Zst; simp) q).2 hr c hp hc
    · rw [q]; exact s_comBang (k 178 (by unfold Zst; simp) q).1 (k 178 (by unfold Zst; simp) q).2 hr c hp hc
    · rw [q]; exact s_beforeDoc (k 112 (by unfold Zst; simp) q).1 (k 112 (by unfold Zst; simp) q).2 hr c hp hc
    · rw [q]; exact s_docName (k 144 (by unfold Zst; simp) q).1 (k 144 (by unfold Zst; simp) q).2 hr c hp hc
    · rw [q]; exact s_afterDoc (k 168 (by unfold Zst; simp) q).1 (k 168 (by unfold Zst; simp) q).2 hr c hp hc
    · rw [q]; exact s_bogusDoc (k 180 (by unfold Zst; simp) q).1 (k 180 (by unfold Zst; simp) q).2 hr c hp hc
    · rw [q]; exact s_cdata (z 113 (by unfold Zst; simp) q) hw (by rw [q]; unfold Zst; simp) hr c hp hc
end Go.Proofs.YtjjfalbngcbfaaaGreatDoor
