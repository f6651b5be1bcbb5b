/- What stands in every state of the machine: which functions its state is, what waits in it. -/
import Derived.Test.YtdiealijjhfhjaaGreatDoorZq
namespace Go.Proofs.YtdiealijjhfhjaaGreatDoor
open Go.RowKit
def WOk (st : Nat) (l : List Ch) : Prop :=
  (st = 71 ∧ l.length = 1) ∨ (st = 102 ∧ l ≠ []) ∨ (st = 100 ∧ l ≠ [] ∧ ∀ c ∈ l.tail, c.r ≠ 62) ∨ (st = 111 ∧ 2 ≤ l.length) ∨ (st = 155 ∧ 2 ≤ l.length) ∨ (st = 208 ∧ l.length = 2) ∨ (st = 73 ∧ l.length = 1) ∨ (st = 178 ∧ l.length = 1) ∨
  ((st = 46 ∨ st = 108 ∨ st = 151 ∨ st = 184 ∨ st = 181 ∨ st = 209 ∨ st = 220 ∨ st = 221 ∨ st = 222 ∨ st = 226 ∨ st = 152 ∨ st = 180 ∨ st = 141 ∨ st = 173 ∨ st = 175 ∨ st = 205 ∨ st = 203 ∨ st = 217 ∨ st = 144 ∨ st = 177 ∨ st = 207 ∨ st = 219 ∨ st = 145) ∧ l = [])
def EOk (st en : Nat) : Prop := (en = 101 ∧ st = 100) ∨ en = 47 ∨ en = 72 ∨ en = 103 ∨ en = 106 ∨ en = 179 ∨ en = 140 ∨ en = 143
def Inv (m : Mc) : Prop := WOk m.st m.wait ∧ EOk m.st m.en
theorem inv_data (m : Mc) : Inv m.toData := ⟨.inr (.inr (.inr (.inr (.inr (.inr (.inr (.inr ⟨.inl rfl, rfl⟩))))))), .inr (.inl rfl)⟩
theorem inv_new : Inv Mc.new := ⟨.inr (.inr (.inr (.inr (.inr (.inr (.inr (.inr ⟨.inl rfl, rfl⟩))))))), .inr (.inl rfl)⟩
theorem inv_of {m m' : Mc} (h : Inv m) (h1 : m'.st = m.st) (h2 : m'.en = m.en) (h3 : m'.wait = m.wait) : Inv m' := by
  unfold Inv at h ⊢
  rw [h1, h2, h3]
  exact h
def Idle (n : Nat) : Prop := n = 46 ∨ n = 108 ∨ n = 151 ∨ n = 184 ∨ n = 181 ∨ n = 209 ∨ n = 220 ∨ n = 221 ∨ n = 222 ∨ n = 226 ∨ n = 152 ∨ n = 180 ∨ n = 141 ∨ n = 173 ∨ n = 175 ∨ n = 205 ∨ n = 203 ∨ n = 217 ∨ n = 144 ∨ n = 177 ∨ n = 207 ∨ n = 219 ∨ n = 145
theorem inv_idle {m : Mc} (h : m.wait = []) (hs : Idle m.st) (he : EOk m.st m.en) : Inv m := ⟨.inr (.inr (.inr (.inr (.inr (.inr (.inr (.inr ⟨hs, h⟩))))))), he⟩
theorem enc_62 : enc 62 = [62] := by decide +kernel
theorem mem_low {l : List UInt8} (h : (62 : UInt8) ∈ l) : (62 : UInt8) ∈ Mc.lowL l := by
  unfold Mc.lowL G7.lowP
  rw [bs_list]
  simp only [List.mem_map]
  exact ⟨62, h, by decide⟩
theorem mem_encs {l : List Ch} {c : Ch} (h : c ∈ l) (hc : c.r = 62) : (62 : UInt8) ∈ encs l := by
  unfold encs
  rw [List.mem_flatMap]
  exact ⟨c, h, by rw [hc, enc_62]; simp⟩
theorem begun_gt {l : List Ch} (h : Mc.begun (encs l) = true) : ∀ c ∈ l, c.r ≠ 62 := fun c hc e => by
  have hm := mem_encs hc e
  unfold Mc.begun at h
  simp only [Bool.or_eq_true, List.isPrefixOf_iff_prefix] at h
  rcases h with (h | h) | h
  · have := h.subset hm
    revert this
    decide
  · have := h.subset (mem_low hm)
    revert this
    decide
  · have := h.subset hm
    revert this
    decide
def Tame (m m' : Mc) : Prop := (m'.wait = m.wait ∧ m'.en = m.en ∧ (m'.st = m.st ∨ Idle m'.st)) ∨ ∃ k, m' = Mc.toData k
theorem Tame.of {m m1 m2 : Mc} (h : Tame m1 m2) (hw : m1.wait = m.wait) (he : m1.en = m.en) (hs : Idle m1.st) : Tame m m2 := by
  rcases h with ⟨h1, h2, h3⟩ | h
  · refine .inl ⟨h1.trans hw, h2.trans he, .inr ?_⟩
    rcases h3 with h3 | h3
    · rw [h3]; exact hs
    · exact h3
  · exact .inr h
theorem Tame.inv {m m' : Mc} (h : Tame m m') (hi : Inv m) (hs : Idle m.st) : Inv m' := by
  have hw : m.wait = [] := by
    rcases hi.1 with h | h | h | h | h | h | h | h | h
    all_goals first | exact h.2 | (have h1 := h.1; rw [h1] at hs; unfold Idle at hs; simp at hs)
  have h73 : m.st ≠ 100 := fun e => by rw [e] at hs; unfold Idle at hs; simp at hs
  have hen : ∀ n, EOk n m.en := fun n => by
    rcases hi.2 with ⟨_, h⟩ | h
    · exact absurd h h73
    · exact .inr h
  rcases h with ⟨h1, h2, h3⟩ | ⟨k, rfl⟩
  · refine inv_idle (h1.trans hw) ?_ (by rw [h2]; exact hen _)
    rcases h3 with h3 | h3
    · rw [h3]; exact hs
    · exact h3
  · exact inv_data k
theorem tame_st (m : Mc) {m' : Mc} (h1 : m'.wait = m.wait) (h2 : m'.en = m.en) (h3 : Idle m'.st) : Tame m m' := .inl ⟨h1, h2, .inr h3⟩
theorem tame_same (m : Mc) {m' : Mc} (h1 : m'.wait = m.wait) (h2 : m'.en = m.en) (h3 : m'.st = m.st) : Tame m m' := .inl ⟨h1, h2, .inl h3⟩
theorem tame_tag (m m0 : Mc) (c : Ch) : Tame m (m0.tellTag c) := .inr ⟨_, rfl⟩
theorem tame_made (m m0 : Mc) (z : Int) : Tame m (m0.tellMade z) := .inr ⟨_, rfl⟩
theorem endName_ctl (m : Mc) : m.endName.wait = m.wait ∧ m.endName.en = m.en ∧ m.endName.st = m.st := by
  unfold Mc.endName
  split <;> exact ⟨rfl, rfl, rfl⟩
theorem tame_tagName (m : Mc) (c : Ch) : Tame m (m.tagName c) := by
  unfold Mc.tagName
  repeat' split
  all_goals first | exact tame_tag _ _ _ | exact tame_same _ rfl rfl rfl | exact tame_st _ rfl rfl (by unfold Idle; simp)
theorem tame_afterEnd (m : Mc) (c : Ch) : Tame m (m.afterEnd c) := by
  unfold Mc.afterEnd
  repeat' split
  all_goals first | exact tame_tag _ _ _ | exact tame_same _ rfl rfl rfl | exact tame_st _ rfl rfl (by unfold Idle; simp)
theorem tame_name (m : Mc) (c : Ch) : Tame m (m.name c) := by
  have he := endName_ctl m
  unfold Mc.name Mc.inName
  repeat' split
  · exact (tame_afterEnd _ c).of he.1 he.2.1 (by unfold Idle; simp)
  · exact tame_st _ he.1 he.2.1 (by unfold Idle; simp)
  · exact tame_same _ rfl rfl rfl
  · exact tame_same _ rfl rfl rfl
theorem tame_afterName (m : Mc) (c : Ch) : Tame m (m.afterName c) := by
  unfold Mc.afterName
  repeat' split
  all_goals first | exact tame_tag _ _ _ | exact tame_same _ rfl rfl rfl | exact tame_st _ rfl rfl (by unfold Idle; simp) | exact (tame_name _ c).of rfl rfl (by unfold Idle; simp)
theorem tame_beforeName (m : Mc) (c : Ch) : Tame m (m.beforeName c) := by
  unfold Mc.beforeName
  repeat' split
  all_goals first | exact tame_same _ rfl rfl rfl | exact (tame_afterName _ c).of rfl rfl (by unfold Idle; simp) | exact (tame_name _ c).of rfl rfl (by unfold Idle; simp) | exact tame_st _ rfl rfl (by unfold Idle; simp)
theorem tame_bare (m : Mc) (c : Ch) : Tame m (m.bare c) := by
  unfold Mc.bare
  repeat' split
  all_goals first | exact tame_tag _ _ _ | exact tame_same _ rfl rfl rfl | exact tame_st _ rfl rfl (by unfold Idle; simp)
theorem tame_beforeValue (m : Mc) (c : Ch) : Tame m (m.beforeValue c) := by
  unfold Mc.beforeValue
  repeat' split
  all_goals first | exact tame_tag _ _ _ | exact tame_same _ rfl rfl rfl | exact (tame_bare _ c).of rfl rfl (by unfold Idle; simp) | exact tame_st _ rfl rfl (by unfold Idle; simp)
theorem tame_quoted (m : Mc) (c : Ch) (s : Int) : Tame m (m.quoted c s) := by
  unfold Mc.quoted
  repeat' split
  all_goals first | exact tame_same _ rfl rfl rfl | exact tame_st _ rfl rfl (by unfold Idle; simp)
theorem tame_afterValue (m : Mc) (c : Ch) : Tame m (m.afterValue c) := by
  unfold Mc.afterValue
  repeat' split
  all_goals first | exact tame_tag _ _ _ | exact (tame_beforeName _ c).of rfl rfl (by unfold Idle; simp) | exact tame_st _ rfl rfl (by unfold Idle; simp)
theorem tame_slash (m : Mc) (c : Ch) : Tame m (m.slash c) := by
  unfold Mc.slash
  repeat' split
  all_goals first | exact tame_tag _ _ _ | exact (tame_beforeName _ c).of rfl rfl (by unfold Idle; simp)
theorem tame_inBogus (m : Mc) (c : Ch) : Tame m (m.inBogus c) := by
  unfold Mc.inBogus
  repeat' split
  all_goals first | exact tame_made _ _ _ | exact tame_same _ rfl rfl rfl
theorem tame_comment (m : Mc) (c : Ch) : Tame m (m.comment c) := by
  unfold Mc.comment
  repeat' split
  all_goals first | exact tame_same _ rfl rfl rfl | exact tame_st _ rfl rfl (by unfold Idle; simp)
theorem tame_cAgain (m : Mc) (l : List UInt8) (c : Ch) : Tame m (m.commentAgain l c) := (tame_comment _ c).of rfl rfl (by unfold Idle; simp)
theorem tame_comStart (m : Mc) (c : Ch) : Tame m (m.comStart c) := by
  unfold Mc.comStart
  repeat' split
  all_goals first | exact tame_made _ _ _ | exact (tame_comment _ c).of rfl rfl (by unfold Idle; simp) | exact tame_st _ rfl rfl (by unfold Idle; simp)
theorem tame_comStartDash (m : Mc) (c : Ch) : Tame m (m.comStartDash c) := by
  unfold Mc.comStartDash
  repeat' split
  all_goals first | exact tame_made _ _ _ | exact tame_cAgain _ _ c | exact tame_st _ rfl rfl (by unfold Idle; simp)
theorem tame_comDash (m : Mc) (c : Ch) : Tame m (m.comDash c) := by
  unfold Mc.comDash
  repeat' split
  all_goals first | exact tame_cAgain _ _ c | exact tame_st _ rfl rfl (by unfold Idle; simp)
theorem tame_comEnd (m : Mc) (c : Ch) : Tame m (m.comEnd c) := by
  unfold Mc.comEnd
  repeat' split
  all_goals first | exact tame_made _ _ _ | exact tame_cAgain _ _ c | exact tame_same _ rfl rfl rfl | exact tame_st _ rfl rfl (by unfold Idle; simp)
theorem tame_comBang (m : Mc) (c : Ch) : Tame m (m.comBang c) := by
  unfold Mc.comBang
  repeat' split
  all_goals first | exact tame_made _ _ _ | exact tame_cAgain _ _ c | exact tame_st _ rfl rfl (by unfold Idle; simp)
theorem tame_docName (m : Mc) (c : Ch) : Tame m (m.docName c) := by
  unfold Mc.docName
  repeat' split
  all_goals first | exact tame_made _ _ _ | exact tame_same _ rfl rfl rfl | exact tame_st _ rfl rfl (by unfold Idle; simp)
theorem tame_beforeDoc (m : Mc) (c : Ch) : Tame m (m.beforeDoc c) := by
  unfold Mc.beforeDoc
  repeat' split
  all_goals first | exact tame_made _ _ _ | exact tame_same _ rfl rfl rfl | exact (tame_docName _ c).of rfl rfl (by unfold Idle; simp)
theorem tame_afterDoc (m : Mc) (c : Ch) : Tame m (m.afterDoc c) := by
  unfold Mc.afterDoc
  repeat' split
  all_goals first | exact tame_made _ _ _ | exact tame_same _ rfl rfl rfl | exact tame_st _ rfl rfl (by unfold Idle; simp)
theorem tame_bogusDoc (m : Mc) (c : Ch) : Tame m (m.bogusDoc c) := by
  unfold Mc.bogusDoc
  repeat' split
  all_goals first | exact tame_made _ _ _ | exact tame_same _ rfl rfl rfl
theorem inv_dataAt (m : Mc) (c : Ch) : Inv (m.toData.data c) := by
  unfold Mc.data
  repeat' split
  · exact inv_of (inv_data m) rfl rfl rfl
  · exact ⟨.inl ⟨rfl, rfl⟩, .inr (.inr (.inl rfl))⟩
  · exact ⟨.inr (.inr (.inr (.inr (.inr (.inr (.inl ⟨rfl, rfl⟩)))))), .inr (.inl rfl)⟩
  · exact inv_of (inv_data m) rfl rfl rfl
theorem inv_dataAgain (m : Mc) (c : Ch) : Inv (m.dataAgain c) := inv_dataAt m.release c
theorem inv_bogus (m : Mc) (l : List Ch) : Inv (m.bogus l) := by
  unfold Mc.bogus
  have h0 : Inv ({ m.beg 4 179 with st := 180 } : Mc) := inv_idle rfl (by unfold Idle; simp) (show EOk 180 179 by unfold EOk; simp)
  have key : ∀ (l : List Ch) (k : Mc), Inv k → Idle k.st → Inv (l.foldl Mc.inBogus k) := by
    intro l
    induction l with
    | nil => exact fun k h _ => h
    | cons c l ih =>
      intro k h hs
      rw [List.foldl_cons]
      refine ih _ ((tame_inBogus k c).inv h hs) ?_
      rcases tame_inBogus k c with ⟨_, _, h3⟩ | ⟨k', h3⟩
      · rcases h3 with h3 | h3
        · rw [h3]; exact hs
        · exact h3
      · rw [h3]; exact .inl rfl
  exact key l _ h0 (by unfold Idle; simp)
theorem eok_all {m : Mc} (h : Inv m) (hs : m.st ≠ 100) (n : Nat) : EOk n m.en := by
  rcases h.2 with ⟨_, h⟩ | h
  · exact absurd h hs
  · exact .inr h
theorem inv_dataW {m : Mc} (hi : Inv m) (hs : m.st ≠ 100) (hw : m.wait = []) (c : Ch) : Inv (m.data c) := by
  unfold Mc.data
  repeat' split
  · exact inv_of hi rfl rfl rfl
  · exact ⟨.inl ⟨rfl, by simp [Mc.hold, hw]⟩, .inr (.inr (.inl rfl))⟩
  · exact ⟨.inr (.inr (.inr (.inr (.inr (.inr (.inl ⟨rfl, by simp [Mc.hold, hw]⟩)))))), eok_all hi hs _⟩
  · exact inv_of hi rfl rfl rfl
theorem inv_begTag (m : Mc) (k : Int) (l : List UInt8) (c : Ch) : Inv (({ m.beg k 106 with nm := l, st := 108 } : Mc).tagName c) := by
  refine (tame_tagName _ c).inv (inv_idle rfl (by unfold Idle; simp) ?_) (by unfold Idle; simp)
  exact .inr (.inr (.inr (.inr (.inl rfl))))
theorem inv_begTag0 (m : Mc) (k : Int) (c : Ch) : Inv (({ m.beg k 106 with st := 108 } : Mc).tagName c) := by
  refine (tame_tagName _ c).inv (inv_idle rfl (by unfold Idle; simp) ?_) (by unfold Idle; simp)
  exact .inr (.inr (.inr (.inr (.inl rfl))))
theorem inv_tagOpen {m : Mc} (hw : m.wait.length = 1) (c : Ch) : Inv (m.tagOpen c) := by
  unfold Mc.tagOpen
  repeat' split
  · refine ⟨.inr (.inr (.inl ⟨rfl, ?_, ?_⟩)), .inl ⟨rfl, rfl⟩⟩
    · exact fun e => by rw [show m.wait = [] from e] at hw; cases hw
    · intro d hd
      match h : m.wait with
      | [a] => rw [show ({ m with st := 100, en := 101 } : Mc).wait.tail = m.wait.tail from rfl, h] at hd; cases hd
      | [] => rw [h] at hw; cases hw
      | _ :: _ :: _ => rw [h] at hw; simp at hw
  · exact ⟨.inr (.inl ⟨rfl, by simp [Mc.hold]⟩), .inr (.inr (.inr (.inl rfl)))⟩
  · exact inv_begTag0 m 2 c
  · exact inv_bogus _ _
  · exact inv_dataAgain _ c
theorem inv_endOpen (m : Mc) (c : Ch) : Inv (m.endOpen c) := by
  unfold Mc.endOpen
  repeat' split
  · exact inv_begTag0 m 3 c
  · exact inv_data _
  · exact inv_bogus _ _
theorem inv_markup {m : Mc} (hi : Inv m) (hs : m.st = 100) (c : Ch) : Inv (m.markup c) := by
  unfold Mc.markup
  dsimp only
  repeat' split
  · exact inv_idle rfl (by unfold Idle; simp) (.inr (.inr (.inr (.inr (.inr (.inr (.inl rfl)))))))
  · exact inv_idle rfl (by unfold Idle; simp) (.inr (.inr (.inr (.inr (.inr (.inr (.inr rfl)))))))
  · exact inv_idle rfl (by unfold Idle; simp) (.inr (.inl rfl))
  · exact inv_bogus _ _
  · exact inv_bogus _ _
  · rename_i hb
    refine ⟨.inr (.inr (.inl ⟨hs, by simp [Mc.hold], begun_gt ?_⟩)), hi.2⟩
    simpa using hb
theorem inv_rawOpen {m : Mc} (hi : Inv m) (hs : m.st = 73) (hw : m.wait.length = 1) (c : Ch) : Inv (m.rawOpen c) := by
  unfold Mc.rawOpen
  split
  · exact ⟨.inr (.inr (.inr (.inl ⟨rfl, by simp [Mc.hold, hw]⟩))), eok_all hi (by rw [hs]; decide) _⟩
  · exact inv_dataAgain _ c
theorem inv_rawName {m : Mc} (hi : Inv m) (hs : m.st = 155) (hw : 2 ≤ m.wait.length) (c : Ch) : Inv (m.rawName c) := by
  unfold Mc.rawName
  repeat' split
  · refine ⟨.inr (.inr (.inr (.inr (.inl ⟨hs, ?_⟩)))), hi.2⟩
    simp only [Mc.hold, List.length_append]
    omega
  · exact inv_begTag m 3 _ c
  · exact inv_dataAgain _ c
theorem inv_rawSlash {m : Mc} (hi : Inv m) (hs : m.st = 111) (hw : 2 ≤ m.wait.length) (c : Ch) : Inv (m.rawSlash c) := by
  unfold Mc.rawSlash
  split
  · exact inv_rawName (m := { m with st := 155 }) ⟨.inr (.inr (.inr (.inr (.inl ⟨rfl, hw⟩)))), eok_all hi (by rw [hs]; decide) _⟩ rfl hw c
  · exact inv_dataAgain _ c
theorem inv_cdata {m : Mc} (hi : Inv m) (hs : m.st ≠ 100) (hw : m.wait = []) (c : Ch) : Inv (m.cdata c) := by
  unfold Mc.cdata
  split
  · exact ⟨.inr (.inr (.inr (.inr (.inr (.inr (.inr (.inl ⟨rfl, by simp [Mc.hold, hw]⟩))))))), eok_all hi hs _⟩
  · exact inv_of hi rfl rfl rfl
theorem inv_relCdata {m : Mc} (hi : Inv m) (hs : m.st ≠ 100) (c : Ch) : Inv (({ m.release with st := 145 } : Mc).cdata c) :=
  inv_cdata (m := { m.release with st := 145 }) (inv_idle rfl (by unfold Idle; simp) (eok_all hi hs _)) (show (145 : Nat) ≠ 100 by decide) rfl c
theorem inv_cdataOne {m : Mc} (hi : Inv m) (hs : m.st = 178) (hw : m.wait.length = 1) (c : Ch) : Inv (m.cdataOne c) := by
  have hne : m.st ≠ 100 := by rw [hs]; decide
  unfold Mc.cdataOne
  split
  · exact ⟨.inr (.inr (.inr (.inr (.inr (.inl ⟨rfl, by simp [Mc.hold, hw]⟩))))), eok_all hi hne _⟩
  · exact inv_relCdata hi hne c
theorem inv_cdataTwo {m : Mc} (hi : Inv m) (hs : m.st = 208) (hw : m.wait.length = 2) (c : Ch) : Inv (m.cdataTwo c) := by
  have hne : m.st ≠ 100 := by rw [hs]; decide
  unfold Mc.cdataTwo
  split
  · split
    · rename_i a b t hl
      refine ⟨.inr (.inr (.inr (.inr (.inr (.inl ⟨hs, ?_⟩))))), hi.2⟩
      rw [hl] at hw
      simpa using hw
    · exact hi
  · split
    · exact inv_data _
    · exact inv_relCdata hi hne c
theorem inv_take {m : Mc} (hi : Inv m) (c : Ch) : Inv (m.take c) := by
  unfold Mc.take
  rcases hi.1 with h | h | h | h | h | h | h | h | ⟨h, hw⟩
  · rw [h.1]; exact inv_tagOpen h.2 c
  · rw [h.1]; exact inv_endOpen m c
  · rw [h.1]; exact inv_markup hi h.1 c
  · rw [h.1]; exact inv_rawSlash hi h.1 h.2 c
  · rw [h.1]; exact inv_rawName hi h.1 h.2 c
  · rw [h.1]; exact inv_cdataTwo hi h.1 h.2 c
  · rw [h.1]; exact inv_rawOpen hi h.1 h.2 c
  · rw [h.1]; exact inv_cdataOne hi h.1 h.2 c
  · have hid : Idle m.st := h
    have hne : m.st ≠ 100 := fun e => by rw [e] at hid; unfold Idle at hid; simp at hid
    rcases h with h | h | h | h | h | h | h | h | h | h | h | h | h | h | h | h | h | h | h | h | h | h | h
    · rw [h]; exact inv_dataW hi hne hw c
    · rw [h]; exact (tame_tagName m c).inv hi hid
    · rw [h]; exact (tame_beforeName m c).inv hi hid
    · rw [h]; exact (tame_name m c).inv hi hid
    · rw [h]; exact (tame_afterName m c).inv hi hid
    · rw [h]; exact (tame_beforeValue m c).inv hi hid
    · rw [h]; exact (tame_quoted m c 34).inv hi hid
    · rw [h]; exact (tame_quoted m c 39).inv hi hid
    · rw [h]; exact (tame_bare m c).inv hi hid
    · rw [h]; exact (tame_afterValue m c).inv hi hid
    · rw [h]; exact (tame_slash m c).inv hi hid
    · rw [h]; exact (tame_inBogus m c).inv hi hid
    · rw [h]; exact (tame_comStart m c).inv hi hid
    · rw [h]; exact (tame_comStartDash m c).inv hi hid
    · rw [h]; exact (tame_comment m c).inv hi hid
    · rw [h]; exact (tame_comDash m c).inv hi hid
    · rw [h]; exact (tame_comEnd m c).inv hi hid
    · rw [h]; exact (tame_comBang m c).inv hi hid
    · rw [h]; exact (tame_beforeDoc m c).inv hi hid
    · rw [h]; exact (tame_docName m c).inv hi hid
    · rw [h]; exact (tame_afterDoc m c).inv hi hid
    · rw [h]; exact (tame_bogusDoc m c).inv hi hid
    · rw [h]; exact inv_cdata hi hne hw c
end Go.Proofs.YtdiealijjhfhjaaGreatDoor
namespace Go.Proofs.YtdiealijjhfhjaaGreatDoor
open Go.RowKit
def Mc.mu (m : Mc) : Nat := 6 * m.wait.length + 12 * m.ref.length + m.nm.length + m.tx.length + m.attrs.length + m.an.length + m.av.length + m.out.length + m.fs.length
theorem tot_mu (m : Mc) : m.tot ≤ m.mu := by unfold Mc.tot Mc.mu; omega
def Gr (a b : Nat) (m m' : Mc) : Prop :=
  m'.wait.length + m'.ref.length ≤ m.wait.length + m.ref.length + a ∧ m'.mu ≤ m.mu + b ∧ m'.last.size ≤ max m.last.size (m.mu + b)
theorem Gr.trans {a b a' b' : Nat} {m m1 m2 : Mc} (h : Gr a b m m1) (k : Gr a' b' m1 m2) : Gr (a + a') (b + b') m m2 := by
  obtain ⟨h1, h2, h3⟩ := h
  obtain ⟨k1, k2, k3⟩ := k
  exact ⟨by omega, by omega, by omega⟩
theorem Gr.mono {a b a' b' : Nat} {m m' : Mc} (h : Gr a b m m') (ha : a ≤ a') (hb : b ≤ b') : Gr a' b' m m' := by
  obtain ⟨h1, h2, h3⟩ := h
  exact ⟨by omega, by omega, by omega⟩
theorem gr_refl (m : Mc) : Gr 0 0 m m := ⟨by omega, by omega, by omega⟩
theorem gr_eq {m m' : Mc} (a b : Nat) (h1 : m'.wait.length + m'.ref.length ≤ m.wait.length + m.ref.length + a) (h2 : m'.mu ≤ m.mu + b) (h3 : m'.last = m.last) : Gr a b m m' := ⟨h1, h2, by rw [h3]; omega⟩
theorem gr_st (m : Mc) (n : Nat) : Gr 0 0 m { m with st := n } := gr_refl m
theorem gr_se (m : Mc) (n k : Nat) : Gr 0 0 m { m with st := n, en := k } := gr_refl m
theorem gr_fault (m : Mc) (k a : Int) : Gr 0 1 m (m.fault k a) := gr_eq 0 1 (Nat.le_refl _) (by simp [Mc.mu, Mc.fault]; omega) rfl
theorem gr_tell (m : Mc) (t : Pt) : Gr 0 1 m (m.tell t) := gr_eq 0 1 (Nat.le_refl _) (by simp [Mc.mu, Mc.tell]; omega) rfl
theorem gr_hold (m : Mc) (c : Ch) : Gr 1 6 m (m.hold c) := gr_eq 1 6 (by simp [Mc.hold]; omega) (by simp [Mc.mu, Mc.hold]; omega) rfl
theorem gr_release (m : Mc) : Gr 0 0 m m.release := gr_eq 0 0 (by simp [Mc.release]) (by simp [Mc.mu, Mc.release]; omega) rfl
theorem gr_toData (m : Mc) : Gr 0 0 m m.toData := gr_eq 0 0 (by simp [Mc.toData, Mc.noMade]) (by simp [Mc.mu, Mc.toData, Mc.noMade]; omega) rfl
theorem gr_beg (m : Mc) (k : Int) (n : Nat) : Gr 0 0 m (m.beg k n) := gr_eq 0 0 (by simp [Mc.beg, Mc.noMade]) (by simp [Mc.mu, Mc.beg, Mc.noMade]; omega) rfl
theorem gr_addName (m : Mc) (r : Int) : Gr 0 4 m (m.addName r) := gr_eq 0 4 (Nat.le_refl _) (by have := enc_len (lowr r); simp [Mc.mu, Mc.addName]; omega) rfl
theorem gr_addText (m : Mc) (r : Int) : Gr 0 4 m (m.addText r) := gr_eq 0 4 (Nat.le_refl _) (by have := enc_len r; simp [Mc.mu, Mc.addText]; omega) rfl
theorem gr_addAttr (m : Mc) (r : Int) : Gr 0 4 m (m.addAttr r) := gr_eq 0 4 (Nat.le_refl _) (by have := enc_len (lowr r); simp [Mc.mu, Mc.addAttr]; omega) rfl
theorem gr_addValue (m : Mc) (r : Int) : Gr 0 4 m (m.addValue r) := gr_eq 0 4 (Nat.le_refl _) (by have := enc_len r; simp [Mc.mu, Mc.addValue]; omega) rfl
theorem gr_dashes (m : Mc) (l : List UInt8) (h : l.length ≤ 3) : Gr 0 3 m (m.addDashes l) := gr_eq 0 3 (Nat.le_refl _) (by simp [Mc.mu, Mc.addDashes]; omega) rfl
theorem gr_keep (m : Mc) : Gr 0 1 m m.keep := gr_eq 0 1 (Nat.le_refl _) (by
  cases h : m.cnt <;> simp [Mc.mu, Mc.keep, h] <;> omega) rfl
theorem gr_begA (m : Mc) (a : Int) : Gr 0 1 m (m.begA a) := gr_keep m
theorem gr_endName (m : Mc) : Gr 0 1 m m.endName := by
  unfold Mc.endName
  split
  · exact gr_fault _ _ _
  · exact (show Gr 0 0 m { m with cnt := true } from gr_refl m).mono (by omega) (by omega)
theorem gr_made (m : Mc) (z : Int) : Gr 0 1 m (m.tellMade z) := (gr_tell m _).trans (gr_toData _)
theorem gr_tag (m : Mc) (c : Ch) : Gr 0 3 m (m.tellTag c) := by
  unfold Mc.tellTag
  dsimp only
  have hk := gr_keep m
  have key : ∀ b : Mc, Gr 0 1 m.keep b → Gr 0 3 m ({ b.tell (m.keep.tagPt c.z) with text := 0 } : Mc).toData := fun b hb =>
    (hk.trans hb).trans ((show Gr 0 1 b { b.tell (m.keep.tagPt c.z) with text := 0 } from gr_tell b _).trans (gr_toData _))
  refine key _ ?_
  split
  · refine ⟨Nat.le_refl _, Nat.le_succ _, ?_⟩
    show (bs m.keep.nm).size ≤ _
    rw [bs_size]
    have : m.keep.nm.length ≤ m.keep.mu := by unfold Mc.mu; omega
    omega
  · split
    · exact gr_fault _ _ _
    · exact (gr_refl _).mono (by omega) (by omega)
theorem gr_ref (m : Mc) (c : Ch) : Gr 1 12 m { m with ref := [c] } := gr_eq 1 12 (by simp) (by simp [Mc.mu]; omega) rfl
theorem gr_data (m : Mc) (c : Ch) : Gr 1 12 m (m.data c) := by
  unfold Mc.data
  repeat' split
  · exact gr_ref m c
  · exact (gr_hold m c).mono (by omega) (by omega)
  · exact (gr_hold m c).mono (by omega) (by omega)
  · exact (gr_tell m _).mono (by omega) (by omega)
theorem gr_again (m : Mc) (c : Ch) : Gr 1 12 m (m.dataAgain c) := by
  unfold Mc.dataAgain
  exact (((gr_release m).trans (gr_toData m.release)).trans (gr_data m.release.toData c)).mono (by omega) (by omega)
theorem gr_tagName (m : Mc) (c : Ch) : Gr 0 4 m (m.tagName c) := by
  unfold Mc.tagName
  repeat' split
  · exact (gr_st m 151).mono (by omega) (by omega)
  · exact (gr_st m 152).mono (by omega) (by omega)
  · exact (gr_tag m c).mono (by omega) (by omega)
  · exact gr_addName m _
theorem gr_inBogus (m : Mc) (c : Ch) : Gr 0 4 m (m.inBogus c) := by
  unfold Mc.inBogus
  split
  · exact (gr_made m _).mono (by omega) (by omega)
  · exact gr_addText m _
theorem gr_bogusF (l : List Ch) : ∀ m : Mc, Gr 0 (4 * l.length) m (l.foldl Mc.inBogus m) := by
  induction l with
  | nil => exact fun m => gr_refl m
  | cons c l ih => exact fun m => ((gr_inBogus m c).trans (ih _)).mono (by omega) (by simp only [List.length_cons]; omega)
theorem gr_bogus (m : Mc) (l : List Ch) (h : l.length ≤ m.wait.length) : Gr 0 0 m (m.bogus l) := by
  obtain ⟨h1, h2, h3⟩ := gr_bogusF l { m.beg 4 179 with st := 180 }
  have hb : ({ m.beg 4 179 with st := 180 } : Mc).mu + 6 * m.wait.length ≤ m.mu := by simp [Mc.mu, Mc.beg, Mc.noMade]; omega
  have hw : ({ m.beg 4 179 with st := 180 } : Mc).wait.length = 0 := rfl
  have hr : ({ m.beg 4 179 with st := 180 } : Mc).ref = m.ref := rfl
  have hl : ({ m.beg 4 179 with st := 180 } : Mc).last = m.last := rfl
  rw [hl] at h3
  rw [hw, hr] at h1
  exact ⟨by unfold Mc.bogus; omega, by unfold Mc.bogus; omega, by unfold Mc.bogus; omega⟩
theorem gr_bogusAgain (m : Mc) (c : Ch) (h : m.wait ≠ []) : Gr 0 1 m (m.bogusAgain c) :=
  (gr_fault m 14 c.a).trans (gr_bogus (m.fault 14 c.a) [c] (by
    have : 0 < m.wait.length := List.length_pos_iff.mpr h
    exact this))
theorem gr_tagOpen (m : Mc) (c : Ch) (h : m.wait ≠ []) : Gr 1 12 m (m.tagOpen c) := by
  unfold Mc.tagOpen
  repeat' split
  · exact (gr_se m 100 101).mono (by omega) (by omega)
  · exact (gr_hold m c).mono (by omega) (by omega)
  · exact ((gr_beg m 2 106).trans (gr_tagName { m.beg 2 106 with st := 108 } c)).mono (by omega) (by omega)
  · exact (gr_bogusAgain m c h).mono (by omega) (by omega)
  · have hp : 0 < m.wait.length := List.length_pos_iff.mpr h
    obtain ⟨h1, h2, h3⟩ := gr_data (m.fault 5 c.a).release.toData c
    have hb : (m.fault 5 c.a).release.toData.mu + 5 * m.wait.length ≤ m.mu + 1 := by simp [Mc.mu, Mc.fault, Mc.release, Mc.toData, Mc.noMade]; omega
    have hw : (m.fault 5 c.a).release.toData.wait.length = 0 := rfl
    have hr : (m.fault 5 c.a).release.toData.ref = m.ref := rfl
    have hl : (m.fault 5 c.a).release.toData.last = m.last := rfl
    rw [hl] at h3
    rw [hw, hr] at h1
    exact ⟨by unfold Mc.dataAgain; omega, by unfold Mc.dataAgain; omega, by unfold Mc.dataAgain; omega⟩
theorem gr_endOpen (m : Mc) (c : Ch) (h : m.wait ≠ []) : Gr 1 12 m (m.endOpen c) := by
  unfold Mc.endOpen
  repeat' split
  · exact ((gr_beg m 3 106).trans (gr_tagName { m.beg 3 106 with st := 108 } c)).mono (by omega) (by omega)
  · exact ((gr_fault m 6 c.a).trans (gr_toData _)).mono (by omega) (by omega)
  · exact (gr_bogusAgain m c h).mono (by omega) (by omega)
theorem gr_afterEnd (m : Mc) (c : Ch) : Gr 0 3 m (m.afterEnd c) := by
  unfold Mc.afterEnd
  repeat' split
  · exact (gr_refl m).mono (by omega) (by omega)
  · exact (gr_st m 152).mono (by omega) (by omega)
  · exact (gr_st m 209).mono (by omega) (by omega)
  · exact gr_tag m c
  · exact (gr_refl m).mono (by omega) (by omega)
theorem gr_name (m : Mc) (c : Ch) : Gr 0 5 m (m.name c) := by
  unfold Mc.name Mc.inName
  repeat' split
  · exact ((gr_endName m).trans (gr_afterEnd { m.endName with st := 181 } c)).mono (by omega) (by omega)
  · exact (gr_endName m).mono (by omega) (by omega)
  · exact ((gr_fault m 8 c.a).trans (gr_addAttr _ c.r)).mono (by omega) (by omega)
  · exact (gr_addAttr m c.r).mono (by omega) (by omega)
theorem gr_afterName (m : Mc) (c : Ch) : Gr 0 6 m (m.afterName c) := by
  unfold Mc.afterName
  repeat' split
  · exact (gr_refl m).mono (by omega) (by omega)
  · exact (gr_st m 152).mono (by omega) (by omega)
  · exact (gr_st m 209).mono (by omega) (by omega)
  · exact (gr_tag m c).mono (by omega) (by omega)
  · exact ((gr_begA m c.a).trans (gr_name { m.begA c.a with st := 184 } c)).mono (by omega) (by omega)
theorem gr_beforeName (m : Mc) (c : Ch) : Gr 0 6 m (m.beforeName c) := by
  unfold Mc.beforeName
  repeat' split
  · exact (gr_refl m).mono (by omega) (by omega)
  · exact gr_afterName { m with st := 181 } c
  · exact (((gr_fault m 8 c.a).trans (gr_begA _ c.a)).trans (gr_addAttr _ c.r)).mono (by omega) (by omega)
  · exact ((gr_begA m c.a).trans (gr_name { m.begA c.a with st := 184 } c)).mono (by omega) (by omega)
theorem gr_bare (m : Mc) (c : Ch) : Gr 1 12 m (m.bare c) := by
  unfold Mc.bare
  repeat' split
  · exact (gr_st m 151).mono (by omega) (by omega)
  · exact gr_ref m c
  · exact (gr_tag m c).mono (by omega) (by omega)
  · exact ((gr_fault m 8 c.a).trans (gr_addValue _ c.r)).mono (by omega) (by omega)
  · exact (gr_addValue m c.r).mono (by omega) (by omega)
theorem gr_beforeValue (m : Mc) (c : Ch) : Gr 1 12 m (m.beforeValue c) := by
  unfold Mc.beforeValue
  repeat' split
  · exact (gr_refl m).mono (by omega) (by omega)
  · exact (gr_st m 220).mono (by omega) (by omega)
  · exact (gr_st m 221).mono (by omega) (by omega)
  · exact ((gr_fault m 10 c.a).trans (gr_tag _ c)).mono (by omega) (by omega)
  · exact gr_bare { m with st := 222 } c
theorem gr_quoted (m : Mc) (c : Ch) (s : Int) : Gr 1 12 m (m.quoted c s) := by
  unfold Mc.quoted
  repeat' split
  · exact (gr_st m 226).mono (by omega) (by omega)
  · exact gr_ref m c
  · exact (gr_addValue m c.r).mono (by omega) (by omega)
theorem gr_afterValue (m : Mc) (c : Ch) : Gr 0 7 m (m.afterValue c) := by
  unfold Mc.afterValue
  repeat' split
  · exact (gr_st m 151).mono (by omega) (by omega)
  · exact (gr_st m 152).mono (by omega) (by omega)
  · exact (gr_tag m c).mono (by omega) (by omega)
  · exact ((gr_fault m 11 c.a).trans (gr_beforeName { m.fault 11 c.a with st := 151 } c)).mono (by omega) (by omega)
theorem gr_slash (m : Mc) (c : Ch) : Gr 0 7 m (m.slash c) := by
  unfold Mc.slash
  split
  · exact (gr_tag { m with self := true } c).mono (by omega) (by omega)
  · exact ((gr_fault m 12 c.a).trans (gr_beforeName { m.fault 12 c.a with st := 151 } c)).mono (by omega) (by omega)
end Go.Proofs.YtdiealijjhfhjaaGreatDoor
namespace Go.Proofs.YtdiealijjhfhjaaGreatDoor
open Go.RowKit
theorem gr_comment (m : Mc) (c : Ch) : Gr 0 4 m (m.comment c) := by
  unfold Mc.comment
  split
  · exact (gr_st m 205).mono (by omega) (by omega)
  · exact gr_addText m c.r
theorem gr_abrupt (m : Mc) (c : Ch) : Gr 0 2 m (m.abrupt c) := by
  unfold Mc.abrupt
  exact (gr_fault m 15 c.a).trans (gr_made _ _)
theorem gr_cAgain (m : Mc) (l : List UInt8) (h : l.length ≤ 3) (c : Ch) : Gr 0 7 m (m.commentAgain l c) := by
  unfold Mc.commentAgain
  exact (gr_dashes m l h).trans (gr_comment { m.addDashes l with st := 175 } c)
theorem gr_comStart (m : Mc) (c : Ch) : Gr 0 7 m (m.comStart c) := by
  unfold Mc.comStart
  repeat' split
  · exact (gr_st m 173).mono (by omega) (by omega)
  · exact (gr_abrupt m c).mono (by omega) (by omega)
  · exact (gr_comment { m with st := 175 } c).mono (by omega) (by omega)
theorem gr_comStartDash (m : Mc) (c : Ch) : Gr 0 7 m (m.comStartDash c) := by
  unfold Mc.comStartDash
  repeat' split
  · exact (gr_st m 203).mono (by omega) (by omega)
  · exact (gr_abrupt m c).mono (by omega) (by omega)
  · exact gr_cAgain m [45] (by decide) c
theorem gr_comDash (m : Mc) (c : Ch) : Gr 0 7 m (m.comDash c) := by
  unfold Mc.comDash
  repeat' split
  · exact (gr_st m 203).mono (by omega) (by omega)
  · exact gr_cAgain m [45] (by decide) c
theorem gr_comEnd (m : Mc) (c : Ch) : Gr 0 7 m (m.comEnd c) := by
  unfold Mc.comEnd
  repeat' split
  · exact (gr_made m c.z).mono (by omega) (by omega)
  · exact (gr_st m 217).mono (by omega) (by omega)
  · exact (gr_dashes m [45] (by decide)).mono (by omega) (by omega)
  · exact gr_cAgain m [45, 45] (by decide) c
theorem gr_comBang (m : Mc) (c : Ch) : Gr 0 7 m (m.comBang c) := by
  unfold Mc.comBang
  repeat' split
  · exact (gr_dashes m [45, 45, 33] (by decide)).mono (by omega) (by omega)
  · exact (gr_abrupt m c).mono (by omega) (by omega)
  · exact gr_cAgain m [45, 45, 33] (by decide) c
theorem gr_wrong (m : Mc) (a : Int) : Gr 0 1 m (m.wrongDoc a) := gr_fault m 17 a
theorem gr_docName (m : Mc) (c : Ch) : Gr 0 4 m (m.docName c) := by
  unfold Mc.docName
  repeat' split
  · exact (gr_st m 207).mono (by omega) (by omega)
  · exact (gr_made m c.z).mono (by omega) (by omega)
  · exact gr_addName m c.r
theorem gr_beforeDoc (m : Mc) (c : Ch) : Gr 0 4 m (m.beforeDoc c) := by
  unfold Mc.beforeDoc
  repeat' split
  · exact (gr_refl m).mono (by omega) (by omega)
  · exact ((gr_wrong m c.a).trans (gr_made _ c.z)).mono (by omega) (by omega)
  · exact gr_docName { m with st := 177 } c
theorem gr_afterDoc (m : Mc) (c : Ch) : Gr 0 4 m (m.afterDoc c) := by
  unfold Mc.afterDoc
  repeat' split
  · exact (gr_refl m).mono (by omega) (by omega)
  · exact (gr_made m c.z).mono (by omega) (by omega)
  · exact (gr_wrong m c.a).mono (by omega) (by omega)
theorem gr_bogusDoc (m : Mc) (c : Ch) : Gr 0 4 m (m.bogusDoc c) := by
  unfold Mc.bogusDoc
  repeat' split
  · exact (gr_made m c.z).mono (by omega) (by omega)
  · exact (gr_refl m).mono (by omega) (by omega)
theorem gr_markup (m : Mc) (c : Ch) : Gr 1 12 m (m.markup c) := by
  have hh := gr_hold m c
  have ht : ∀ k a, (m.hold c).wait.tail.length ≤ ((m.hold c).fault k a).wait.length := fun k a => by
    show (m.hold c).wait.tail.length ≤ (m.hold c).wait.length
    rw [List.length_tail]
    omega
  unfold Mc.markup
  dsimp only
  repeat' split
  · exact (hh.trans (gr_beg (m.hold c) 4 140)).mono (by omega) (by omega)
  · exact (hh.trans (gr_beg (m.hold c) 5 143)).mono (by omega) (by omega)
  · refine (hh.trans (gr_eq (m' := { m.hold c with wait := [], st := 145, en := 47 }) 0 0 ?_ ?_ rfl)).mono (by omega) (by omega)
    · simp
    · simp only [Mc.mu, List.length_nil]; omega
  · exact (hh.trans ((gr_fault (m.hold c) 21 _).trans (gr_bogus _ _ (ht _ _)))).mono (by omega) (by omega)
  · exact (hh.trans ((gr_fault (m.hold c) 14 _).trans (gr_bogus _ _ (ht _ _)))).mono (by omega) (by omega)
  · exact hh.mono (by omega) (by omega)
theorem gr_rawOpen (m : Mc) (c : Ch) : Gr 1 12 m (m.rawOpen c) := by
  unfold Mc.rawOpen
  split
  · exact (gr_hold m c).mono (by omega) (by omega)
  · exact gr_again m c
theorem low_len (l : List UInt8) : (Mc.lowL l).length = l.length := by
  unfold Mc.lowL G7.lowP
  rw [bs_list]
  simp
theorem encs_le (l : List Ch) : (encs l).length ≤ 4 * l.length := by
  induction l with
  | nil => simp [encs]
  | cons c l ih =>
    have := enc_len c.r
    simp only [encs, List.flatMap_cons, List.length_append, List.length_cons] at ih ⊢
    omega
theorem gr_rawName (m : Mc) (c : Ch) : Gr 1 12 m (m.rawName c) := by
  unfold Mc.rawName
  repeat' split
  · exact (gr_hold m c).mono (by omega) (by omega)
  · rename_i _ hl
    have hl2 : m.last.data.toList.length ≤ 4 * m.wait.length := by
      rw [← hl.2, low_len]
      have := encs_le (m.wait.drop 2)
      rw [List.length_drop] at this
      omega
    refine ((show Gr 0 0 m { m.beg 3 106 with nm := m.last.data.toList, st := 108 } from gr_eq 0 0 ?_ ?_ rfl).trans (gr_tagName _ c)).mono (by omega) (by omega)
    · simp [Mc.beg, Mc.noMade]
    · simp only [Mc.mu, Mc.beg, Mc.noMade, List.length_nil]; omega
  · exact gr_again m c
theorem gr_rawSlash (m : Mc) (c : Ch) : Gr 1 12 m (m.rawSlash c) := by
  unfold Mc.rawSlash
  split
  · exact gr_rawName { m with st := 155 } c
  · exact gr_again m c
theorem gr_cdata (m : Mc) (c : Ch) : Gr 1 12 m (m.cdata c) := by
  unfold Mc.cdata
  split
  · exact (gr_hold m c).mono (by omega) (by omega)
  · exact (gr_tell m _).mono (by omega) (by omega)
theorem gr_relCdata (m : Mc) (c : Ch) : Gr 1 12 m (({ m.release with st := 145 } : Mc).cdata c) :=
  ((gr_release m).trans (gr_cdata { m.release with st := 145 } c)).mono (by omega) (by omega)
theorem gr_cdataOne (m : Mc) (c : Ch) : Gr 1 12 m (m.cdataOne c) := by
  unfold Mc.cdataOne
  split
  · exact (gr_hold m c).mono (by omega) (by omega)
  · exact gr_relCdata m c
theorem gr_cdataTwo (m : Mc) (c : Ch) : Gr 1 12 m (m.cdataTwo c) := by
  unfold Mc.cdataTwo
  split
  · split
    · rename_i a b t hl
      refine gr_eq 1 12 ?_ ?_ rfl
      · show (b :: c :: t).length + m.ref.length ≤ _
        rw [hl]
        simp only [List.length_cons]
        omega
      · simp only [Mc.mu, Mc.tellChar, Mc.tell, hl, List.length_cons, List.length_append, List.length_nil]
        omega
    · exact (gr_refl m).mono (by omega) (by omega)
  · split
    · exact (gr_toData m).mono (by omega) (by omega)
    · exact gr_relCdata m c
theorem gr_take {m : Mc} (hi : Inv m) (c : Ch) : Gr 1 12 m (m.take c) := by
  unfold Mc.take
  rcases hi.1 with k | k | k | k | k | k | k | k | ⟨k, hw⟩
  · rw [k.1]; exact gr_tagOpen m c (fun e => by have := k.2; rw [e] at this; cases this)
  · rw [k.1]; exact gr_endOpen m c k.2
  · rw [k.1]; exact gr_markup m c
  · rw [k.1]; exact gr_rawSlash m c
  · rw [k.1]; exact gr_rawName m c
  · rw [k.1]; exact gr_cdataTwo m c
  · rw [k.1]; exact gr_rawOpen m c
  · rw [k.1]; exact gr_cdataOne m c
  · rcases k with k | k | k | k | k | k | k | k | k | k | k | k | k | k | k | k | k | k | k | k | k | k | k
    · rw [k]; exact (gr_data m c).mono (by omega) (by omega)
    · rw [k]; exact (gr_tagName m c).mono (by omega) (by omega)
    · rw [k]; exact (gr_beforeName m c).mono (by omega) (by omega)
    · rw [k]; exact (gr_name m c).mono (by omega) (by omega)
    · rw [k]; exact (gr_afterName m c).mono (by omega) (by omega)
    · rw [k]; exact (gr_beforeValue m c).mono (by omega) (by omega)
    · rw [k]; exact (gr_quoted m c 34).mono (by omega) (by omega)
    · rw [k]; exact (gr_quoted m c 39).mono (by omega) (by omega)
    · rw [k]; exact (gr_bare m c).mono (by omega) (by omega)
    · rw [k]; exact (gr_afterValue m c).mono (by omega) (by omega)
    · rw [k]; exact (gr_slash m c).mono (by omega) (by omega)
    · rw [k]; exact (gr_inBogus m c).mono (by omega) (by omega)
    · rw [k]; exact (gr_comStart m c).mono (by omega) (by omega)
    · rw [k]; exact (gr_comStartDash m c).mono (by omega) (by omega)
    · rw [k]; exact (gr_comment m c).mono (by omega) (by omega)
    · rw [k]; exact (gr_comDash m c).mono (by omega) (by omega)
    · rw [k]; exact (gr_comEnd m c).mono (by omega) (by omega)
    · rw [k]; exact (gr_comBang m c).mono (by omega) (by omega)
    · rw [k]; exact (gr_beforeDoc m c).mono (by omega) (by omega)
    · rw [k]; exact (gr_docName m c).mono (by omega) (by omega)
    · rw [k]; exact (gr_afterDoc m c).mono (by omega) (by omega)
    · rw [k]; exact (gr_bogusDoc m c).mono (by omega) (by omega)
    · rw [k]; exact (gr_cdata m c).mono (by omega) (by omega)
end Go.Proofs.YtdiealijjhfhjaaGreatDoor
namespace Go.Proofs.YtdiealijjhfhjaaGreatDoor
open Go.RowKit
def Rf (c : Ch) (m m' : Mc) : Prop := m'.ref = m.ref ∨ (c.r = 38 ∧ m'.ref = [c])
theorem rf_tag (m : Mc) (c : Ch) : (m.tellTag c).ref = m.ref := by
  unfold Mc.tellTag
  dsimp only
  repeat' split
  all_goals rfl
theorem rf_endName (m : Mc) : m.endName.ref = m.ref := by
  unfold Mc.endName
  split <;> rfl
theorem rf_data (m : Mc) (c : Ch) : Rf c m (m.data c) := by
  unfold Mc.data
  split
  · rename_i h; exact .inr ⟨h.1, rfl⟩
  · repeat' split
    all_goals exact .inl rfl
theorem rf_again (m : Mc) (c : Ch) : Rf c m (m.dataAgain c) := rf_data m.release.toData c
theorem rf_tagName (m : Mc) (c : Ch) : (m.tagName c).ref = m.ref := by
  unfold Mc.tagName
  repeat' split
  · rfl
  · rfl
  · exact rf_tag m c
  · rfl
theorem rf_inBogus (m : Mc) (c : Ch) : (m.inBogus c).ref = m.ref := by
  unfold Mc.inBogus
  split <;> rfl
theorem rf_bogusF (l : List Ch) : ∀ m : Mc, (l.foldl Mc.inBogus m).ref = m.ref := by
  induction l with
  | nil => exact fun m => rfl
  | cons c l ih => exact fun m => (ih _).trans (rf_inBogus m c)
theorem rf_bogus (m : Mc) (l : List Ch) : (m.bogus l).ref = m.ref := rf_bogusF l _
theorem rf_tagOpen (m : Mc) (c : Ch) : Rf c m (m.tagOpen c) := by
  unfold Mc.tagOpen
  repeat' split
  · exact .inl rfl
  · exact .inl rfl
  · exact .inl (rf_tagName _ c)
  · exact .inl (rf_bogus _ _)
  · exact rf_again (m.fault 5 c.a) c
theorem rf_endOpen (m : Mc) (c : Ch) : (m.endOpen c).ref = m.ref := by
  unfold Mc.endOpen
  repeat' split
  · exact rf_tagName _ c
  · rfl
  · exact rf_bogus _ _
theorem rf_afterEnd (m : Mc) (c : Ch) : (m.afterEnd c).ref = m.ref := by
  unfold Mc.afterEnd
  repeat' split
  · rfl
  · rfl
  · rfl
  · exact rf_tag m c
  · rfl
theorem rf_name (m : Mc) (c : Ch) : (m.name c).ref = m.ref := by
  unfold Mc.name Mc.inName
  repeat' split
  · exact (rf_afterEnd _ c).trans (rf_endName m)
  · exact rf_endName m
  · rfl
  · rfl
theorem rf_afterName (m : Mc) (c : Ch) : (m.afterName c).ref = m.ref := by
  unfold Mc.afterName
  repeat' split
  · rfl
  · rfl
  · rfl
  · exact rf_tag m c
  · exact rf_name _ c
theorem rf_beforeName (m : Mc) (c : Ch) : (m.beforeName c).ref = m.ref := by
  unfold Mc.beforeName
  repeat' split
  · rfl
  · exact rf_afterName _ c
  · rfl
  · exact rf_name _ c
theorem rf_bare (m : Mc) (c : Ch) : Rf c m (m.bare c) := by
  unfold Mc.bare
  repeat' split
  · exact .inl rfl
  · rename_i h; exact .inr ⟨h, rfl⟩
  · exact .inl (rf_tag m c)
  · exact .inl rfl
  · exact .inl rfl
theorem rf_beforeValue (m : Mc) (c : Ch) : Rf c m (m.beforeValue c) := by
  unfold Mc.beforeValue
  repeat' split
  · exact .inl rfl
  · exact .inl rfl
  · exact .inl rfl
  · exact .inl (rf_tag _ c)
  · exact rf_bare { m with st := 222 } c
theorem rf_quoted (m : Mc) (c : Ch) (s : Int) : Rf c m (m.quoted c s) := by
  unfold Mc.quoted
  repeat' split
  · exact .inl rfl
  · rename_i h; exact .inr ⟨h, rfl⟩
  · exact .inl rfl
theorem rf_afterValue (m : Mc) (c : Ch) : (m.afterValue c).ref = m.ref := by
  unfold Mc.afterValue
  repeat' split
  · rfl
  · rfl
  · exact rf_tag m c
  · exact rf_beforeName _ c
theorem rf_slash (m : Mc) (c : Ch) : (m.slash c).ref = m.ref := by
  unfold Mc.slash
  split
  · exact rf_tag _ c
  · exact rf_beforeName _ c
theorem rf_comment (m : Mc) (c : Ch) : (m.comment c).ref = m.ref := by
  unfold Mc.comment
  repeat' split
  all_goals rfl
theorem rf_comStart (m : Mc) (c : Ch) : (m.comStart c).ref = m.ref := by
  unfold Mc.comStart Mc.comment
  repeat' split
  all_goals rfl
theorem rf_comStartDash (m : Mc) (c : Ch) : (m.comStartDash c).ref = m.ref := by
  unfold Mc.comStartDash Mc.commentAgain Mc.comment
  repeat' split
  all_goals rfl
theorem rf_comDash (m : Mc) (c : Ch) : (m.comDash c).ref = m.ref := by
  unfold Mc.comDash Mc.commentAgain Mc.comment
  repeat' split
  all_goals rfl
theorem rf_comEnd (m : Mc) (c : Ch) : (m.comEnd c).ref = m.ref := by
  unfold Mc.comEnd Mc.commentAgain Mc.comment
  repeat' split
  all_goals rfl
theorem rf_comBang (m : Mc) (c : Ch) : (m.comBang c).ref = m.ref := by
  unfold Mc.comBang Mc.commentAgain Mc.comment
  repeat' split
  all_goals rfl
theorem rf_docName (m : Mc) (c : Ch) : (m.docName c).ref = m.ref := by
  unfold Mc.docName
  repeat' split
  all_goals rfl
theorem rf_beforeDoc (m : Mc) (c : Ch) : (m.beforeDoc c).ref = m.ref := by
  unfold Mc.beforeDoc Mc.docName
  repeat' split
  all_goals rfl
theorem rf_afterDoc (m : Mc) (c : Ch) : (m.afterDoc c).ref = m.ref := by
  unfold Mc.afterDoc
  repeat' split
  all_goals rfl
theorem rf_bogusDoc (m : Mc) (c : Ch) : (m.bogusDoc c).ref = m.ref := by
  unfold Mc.bogusDoc
  repeat' split
  all_goals rfl
theorem rf_markup (m : Mc) (c : Ch) : (m.markup c).ref = m.ref := by
  unfold Mc.markup
  dsimp only
  repeat' split
  · rfl
  · rfl
  · rfl
  · exact rf_bogus _ _
  · exact rf_bogus _ _
  · rfl
theorem rf_rawOpen (m : Mc) (c : Ch) : Rf c m (m.rawOpen c) := by
  unfold Mc.rawOpen
  split
  · exact .inl rfl
  · exact rf_again m c
theorem rf_rawName (m : Mc) (c : Ch) : Rf c m (m.rawName c) := by
  unfold Mc.rawName
  repeat' split
  · exact .inl rfl
  · exact .inl (rf_tagName _ c)
  · exact rf_again m c
theorem rf_rawSlash (m : Mc) (c : Ch) : Rf c m (m.rawSlash c) := by
  unfold Mc.rawSlash
  split
  · exact rf_rawName { m with st := 155 } c
  · exact rf_again m c
theorem rf_cdata (m : Mc) (c : Ch) : (m.cdata c).ref = m.ref := by
  unfold Mc.cdata
  split <;> rfl
theorem rf_cdataOne (m : Mc) (c : Ch) : (m.cdataOne c).ref = m.ref := by
  unfold Mc.cdataOne
  split
  · rfl
  · exact rf_cdata _ c
theorem rf_cdataTwo (m : Mc) (c : Ch) : (m.cdataTwo c).ref = m.ref := by
  unfold Mc.cdataTwo
  split
  · split <;> rfl
  · split
    · rfl
    · exact rf_cdata _ c
theorem rf_take {m : Mc} (hi : Inv m) (c : Ch) : Rf c m (m.take c) := by
  unfold Mc.take
  rcases hi.1 with k | k | k | k | k | k | k | k | ⟨k, hw⟩
  · rw [k.1]; exact rf_tagOpen m c
  · rw [k.1]; exact .inl (rf_endOpen m c)
  · rw [k.1]; exact .inl (rf_markup m c)
  · rw [k.1]; exact rf_rawSlash m c
  · rw [k.1]; exact rf_rawName m c
  · rw [k.1]; exact .inl (rf_cdataTwo m c)
  · rw [k.1]; exact rf_rawOpen m c
  · rw [k.1]; exact .inl (rf_cdataOne m c)
  · rcases k with k | k | k | k | k | k | k | k | k | k | k | k | k | k | k | k | k | k | k | k | k | k | k
    · rw [k]; exact rf_data m c
    · rw [k]; exact .inl (rf_tagName m c)
    · rw [k]; exact .inl (rf_beforeName m c)
    · rw [k]; exact .inl (rf_name m c)
    · rw [k]; exact .inl (rf_afterName m c)
    · rw [k]; exact rf_beforeValue m c
    · rw [k]; exact rf_quoted m c 34
    · rw [k]; exact rf_quoted m c 39
    · rw [k]; exact rf_bare m c
    · rw [k]; exact .inl (rf_afterValue m c)
    · rw [k]; exact .inl (rf_slash m c)
    · rw [k]; exact .inl (rf_inBogus m c)
    · rw [k]; exact .inl (rf_comStart m c)
    · rw [k]; exact .inl (rf_comStartDash m c)
    · rw [k]; exact .inl (rf_comment m c)
    · rw [k]; exact .inl (rf_comDash m c)
    · rw [k]; exact .inl (rf_comEnd m c)
    · rw [k]; exact .inl (rf_comBang m c)
    · rw [k]; exact .inl (rf_beforeDoc m c)
    · rw [k]; exact .inl (rf_docName m c)
    · rw [k]; exact .inl (rf_afterDoc m c)
    · rw [k]; exact .inl (rf_bogusDoc m c)
    · rw [k]; exact .inl (rf_cdata m c)
end Go.Proofs.YtdiealijjhfhjaaGreatDoor
