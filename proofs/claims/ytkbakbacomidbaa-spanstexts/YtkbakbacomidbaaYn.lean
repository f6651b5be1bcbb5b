/- The scanner reads a tag. -/
import Derived.Test.YtkbakbacomidbaaProg
import Derived.Below
import Derived.BigCall
import Derived.BigQuiet
import Derived.BigRegion
import Derived.Deep.DeepCutAuto
import Derived.Deep.LoopGhost
import Derived.Deep.QuietTactic
import Derived.Deep.RegionHeld3
import Derived.Deep.RegionLaw
import Derived.Deep.RegionWith
import Derived.Deep.Upon
import Derived.Laws.AppendOwn
import Derived.Laws.BytesArg
import Derived.Laws.EntriesVeiled
import Derived.Laws.IdiomStrings
import Derived.Laws.StructEq
import Derived.Lib.AppendStr
import Derived.Lib.RuneBytes
import Derived.Maps.AppendAt
import Derived.Maps.OwnSet
import Derived.OwnWalk
import Derived.ScopeJumps
import Derived.Shelf.Abstract
import Derived.Shelf.Small.Strs
import Derived.Shelf.Strings.Builder1
import Derived.Shelf.Strings.BuilderF
import Derived.Shelf.Strings.BuilderK
import Derived.Shelf.Strings.BuilderRune
import Derived.Shelf.Strings.Prefix
import Derived.StillTailTactics
import Derived.StringKeys
import Derived.WalkArith
import Derived.WalkKit
import Derived.WalkLawsBesides
import Derived.WalkMore
import Derived.WalkSpells
import Derived.Test.YtkbakbacomidbaaYg
import Derived.Test.YtkbakbacomidbaaYk
import Derived.Test.YtkbakbacomidbaaYl
import Derived.Test.YtkbakbacomidbaaYm
namespace Go.Proofs.Ytkbakbacomidbaa
open Go.RowKit
/-- The scanner, a token in the making in block y, its attributes' row. -/
structure TG (S : Nat → Prop) (x : Nat) (E : Env) (r : List Ch) (sc : Sc) (dn : Bool) (w : World) (y : Nat) (kind : Int) (nm : ByteArray) (av : Value) (A : List At) (sf : Bool) (W : World) : Prop where
  ty : TY S x E r sc dn w y (tkA kind nm av sf 0 0) 39 W
  own : Rw.own W (rwA av A)
  out : ∀ g, av.ownBlock = some g → ¬ S g ∧ w.heap.size ≤ g
theorem TG.lift {S : Nat → Prop} {x : Nat} {E : Env} {r : List Ch} {sc : Sc} {dn : Bool} {w : World} {y : Nat} {kind : Int} {nm : ByteArray} {av : Value} {A : List At} {sf : Bool} {W : World} {r' : List Ch} {sc' : Sc} {dn' : Bool} (h : TG S x E r sc dn w y kind nm av A sf W) {F : Nat} {args : Array Value} {Q : Ending → Prop}
    (hc : ∀ S', (∀ k, S k → S' k) → (∀ g, av.ownBlock = some g → S' g) → Tm S' x E r sc dn W → Calls Try.prog F args W fun e w' => Q e ∧ TW S' x E r' sc' dn' W w') : Calls Try.prog F args W fun e w' => Q e ∧ TG S x E r' sc' dn' w y kind nm av A sf w' := by
  refine (h.ty.tw.lift (fun k => k = y ∨ av.ownBlock = some k) (fun k hk => ?_) (fun S' h1 h2 => hc S' h1 (fun g hg => h2 g (.inr hg)))).mono ?_
  · rcases hk with rfl | hk
    · exact ⟨_, 39, (0, 0), h.ty.blk, by decide, by decide⟩
    · obtain ⟨_, cur, z, hb⟩ := own_blk h.own hk
      exact ⟨cur, 96, z, hb, by decide, by decide⟩
  · rintro e w' ⟨hq, k', hb⟩
    exact ⟨hq, ⟨k', (hb y (.inl rfl)).trans h.ty.blk, h.ty.ns, h.ty.ty1, h.ty.ty2⟩, own_mv h.own fun g hg => hb g (.inr hg), h.out⟩
theorem TG.hop {S : Nat → Prop} {x : Nat} {E : Env} {r : List Ch} {sc : Sc} {dn : Bool} {w : World} {y : Nat} {kind : Int} {nm : ByteArray} {av : Value} {A : List At} {sf : Bool} {W : World} {r' : List Ch} {sc' : Sc} {dn' : Bool} (h : TG S x E r sc dn w y kind nm av A sf W) {i : Nat} {u : Value} (k : TW S x E r' sc' dn' w (W.setCell ⟨x, i, none⟩ u)) : TG S x E r' sc' dn' w y kind nm av A sf (W.setCell ⟨x, i, none⟩ u) := by
  refine ⟨h.ty.hop k, own_mv h.own fun g hg => Below.heap_setCell _ _ _ _ fun e => ?_, h.out⟩
  have e : g = x := e
  subst e
  obtain ⟨fv, h1⟩ := h.ty.tw.tm
  obtain ⟨_, cur, z, hg2⟩ := own_blk h.own hg
  rw [h1.blk] at hg2
  simp at hg2
theorem TG.adv {S : Nat → Prop} {x : Nat} {E : Env} {c : Ch} {t : List Ch} {sc : Sc} {dn : Bool} {w : World} {y : Nat} {kind : Int} {nm : ByteArray} {av : Value} {A : List At} {sf : Bool} {W : World} (h : TG S x E (c :: t) sc dn w y kind nm av A sf W) : TG S x E t sc dn w y kind nm av A sf (W.setCell ⟨x, 1, none⟩ (.int .i64 (pos E (c :: t) + 1))) := h.hop h.ty.tw.adv
theorem TG.self {S : Nat → Prop} {x : Nat} {E : Env} {r : List Ch} {sc : Sc} {dn : Bool} {w : World} {y : Nat} {kind : Int} {nm : ByteArray} {av : Value} {A : List At} {sf : Bool} {W : World} (h : TG S x E r sc dn w y kind nm av A sf W) : TG S x E r sc dn w y kind nm av A true (W.setCell ⟨y, 5, none⟩ (.bool true)) := by
  refine ⟨h.ty.put 5 (.bool true) rfl, own_mv h.own fun g hg => Below.heap_setCell _ _ _ _ fun e => ?_, h.out⟩
  have e : g = y := e
  subst e
  obtain ⟨_, cur, z, hg2⟩ := own_blk h.own hg
  rw [h.ty.blk] at hg2
  simp at hg2
theorem TG.below {S : Nat → Prop} {x : Nat} {E : Env} {r : List Ch} {sc : Sc} {dn : Bool} {w : World} {y : Nat} {kind : Int} {nm : ByteArray} {av : Value} {A : List At} {sf : Bool} {W : World} {W' : World} (h : TG S x E r sc dn w y kind nm av A sf W) (b : Below W.heap.size W W') : TG S x E r sc dn w y kind nm av A sf W' := ⟨h.ty.below b, own_mv h.own fun g hg => b.block g (own_blk h.own hg).1, h.out⟩
theorem TG.c {S : Nat → Prop} {x : Nat} {E : Env} {r : List Ch} {sc : Sc} {dn : Bool} {w : World} {y : Nat} {kind : Int} {nm : ByteArray} {av : Value} {A : List At} {sf : Bool} {W : World} (h : TG S x E r sc dn w y kind nm av A sf W) : Calls Try.prog 32 #[mp x] W fun e w' => e = .returned (.int .i64 (hd r)) ∧ TG S x E r sc dn w y kind nm av A sf w' := h.lift fun _ _ _ k => (TW.start k).c
theorem TG.cc {S : Nat → Prop} {x : Nat} {E : Env} {cr ca cz : Int} {t : List Ch} {sc : Sc} {dn : Bool} {w : World} {y : Nat} {kind : Int} {nm : ByteArray} {av : Value} {A : List At} {sf : Bool} {W : World} (h : TG S x E (⟨cr, ca, cz⟩ :: t) sc dn w y kind nm av A sf W) : Calls Try.prog 32 #[mp x] W fun e w' => e = .returned (.int .i64 cr) ∧ TG S x E (⟨cr, ca, cz⟩ :: t) sc dn w y kind nm av A sf w' := h.c
theorem TG.c0 {S : Nat → Prop} {x : Nat} {E : Env} {sc : Sc} {dn : Bool} {w : World} {y : Nat} {kind : Int} {nm : ByteArray} {av : Value} {A : List At} {sf : Bool} {W : World} (h : TG S x E [] sc dn w y kind nm av A sf W) : Calls Try.prog 32 #[mp x] W fun e w' => e = .returned (.int .i64 (-1)) ∧ TG S x E [] sc dn w y kind nm av A sf w' := h.c
theorem TG.ba {S : Nat → Prop} {x : Nat} {E : Env} {cr ca cz : Int} {t : List Ch} {sc : Sc} {dn : Bool} {w : World} {y : Nat} {kind : Int} {nm : ByteArray} {av : Value} {A : List At} {sf : Bool} {W : World} (h : TG S x E (⟨cr, ca, cz⟩ :: t) sc dn w y kind nm av A sf W) : Calls Try.prog 34 #[mp x] W fun e w' => e = .returned (.int .i64 ca) ∧ TG S x E (⟨cr, ca, cz⟩ :: t) sc dn w y kind nm av A sf w' := h.lift fun _ _ _ k => (TW.start k).ba
theorem TG.tfl {S : Nat → Prop} {x : Nat} {E : Env} {r : List Ch} {sc : Sc} {dn : Bool} {w : World} {y : Nat} {kind : Int} {nm : ByteArray} {av : Value} {A : List At} {sf : Bool} {W : World} (h : TG S x E r sc dn w y kind nm av A sf W) (code at' : Int) (hn : sc.fs.length ≤ 1000000000) : Calls Try.prog 44 #[mp x, .int .i64 code, .int .i64 at'] W fun e w' => e = .returned (.tuple #[]) ∧ TG S x E r (sc.fsd (sc.fs ++ [(code, at')])) dn w y kind nm av A sf w' := h.lift fun _ _ _ k => (TW.start k).tfl code at' hn
theorem own_stays {S : Nat → Prop} {w : World} {ao : Option Addr} {n cap : Nat} {A : List At} (h : Rw.own w (rwA (.slice ao n cap) A)) (hg : ∀ g, (Value.slice ao n cap).ownBlock = some g → S g) : (Stays S w fun w => G9.AtRow w ao A) := fun w' k => by
  have h2 : OwnQ w' false 96 2 (.slice ao n cap) A.length (A.flatMap G9.At.cells) := own_mv h fun g e => k.block g (hg g e) (own_blk h e).1
  obtain ⟨ao', cap', e, hr, _⟩ := G9.row_at h2.row
  simp only [Value.slice.injEq] at e
  obtain ⟨rfl, _, _⟩ := e
  exact hr
theorem TG.form {S : Nat → Prop} {x : Nat} {E : Env} {r : List Ch} {sc : Sc} {dn : Bool} {w : World} {y : Nat} {kind : Int} {nm : ByteArray} {av : Value} {A : List At} {sf : Bool} {W : World} (h : TG S x E r sc dn w y kind nm av A sf W) : ∃ ao cap, av = .slice ao A.length cap ∧ A.length ≤ cap := by
  obtain ⟨ao, c, e, h1, _⟩ := own_form h.own
  exact ⟨ao, c, e, h1⟩
theorem TG.attr {S : Nat → Prop} {x : Nat} {E : Env} {cr ca cz : Int} {t : List Ch} {sc : Sc} {dn : Bool} {w : World} {y : Nat} {kind : Int} {nm : ByteArray} {ao : Option Addr} {n cap : Nat} {A : List At} {sf : Bool} {W : World} (h : TG S x E (⟨cr, ca, cz⟩ :: t) sc dn w y kind nm (.slice ao n cap) A sf W) (hpos : ∀ d ∈ (⟨cr, ca, cz⟩ : Ch) :: t, 0 ≤ d.r) (hB : sc.fs.length + 8 * (t.length + 1) + 8 ≤ 1000000000) (hn : A.length = n) (hn2 : n ≤ 100000) (hnc : n ≤ cap) (hO : Once A) :
    Calls Try.prog 64 #[mp x, .slice ao n cap] W fun e w' => e = .returned (.tuple #[.agg #[.string (bs (attrR E.N A sc.fs (⟨cr, ca, cz⟩ :: t)).1.1), .string (bs (attrR E.N A sc.fs (⟨cr, ca, cz⟩ :: t)).1.2)], .bool (attrR E.N A sc.fs (⟨cr, ca, cz⟩ :: t)).2.1]) ∧ TG S x E (attrR E.N A sc.fs (⟨cr, ca, cz⟩ :: t)).2.2.2 (sc.fsd (attrR E.N A sc.fs (⟨cr, ca, cz⟩ :: t)).2.2.1) dn w y kind nm (.slice ao n cap) A sf w' := h.lift fun _ _ hg k => attr_any k hpos hB (own_stays h.own hg) hn hn2 hnc hO
theorem TG.done {S : Nat → Prop} {x : Nat} {E : Env} {r : List Ch} {sc : Sc} {dn : Bool} {w : World} {y : Nat} {kind : Int} {nm : List UInt8} {ao : Option Addr} {n cap : Nat} {A : List At} {sf : Bool} {W : World} (h : TG S x E r sc dn w y kind (bs nm) (.slice ao n cap) A sf W) {c0 : Ch} {F : List Ch} (hF : c0 :: F <:+ E.L) (hl : r.length ≤ F.length) (hk : kind = 2 ∨ kind = 3) (hn : A.length = n) (hn2 : n ≤ 100000) (hf : sc.fs.length ≤ 1000000000) :
    Calls Try.prog 63 #[mp x, .int .i64 (pos E (c0 :: F)), .agg (tkA kind (bs nm) (.slice ao n cap) sf 0 0)] W (Tokd S x E (doneR (c0 :: F) kind nm sc A sf sc.fs r) dn w) := by
  have hm := h.ty.tw.more (fun k => (Value.slice ao n cap).ownBlock = some k) (fun k hk => (own_blk h.own hk).1) (fun k hk => by obtain ⟨_, cur, z, hb⟩ := own_blk h.own hk; exact ⟨cur, 96, z, hb, by decide, by decide⟩)
  refine (done_any hm.tm hF hl hk nm sf (own_stays h.own fun g hg => .inr hg) hn hn2 h.ty.tw.keep.size (fun hA => ?_) hf).mono ?_
  · rcases h.own.2 with ⟨_, h0⟩ | ⟨g, cap', cur, z, e, hg, _⟩
    · exact absurd (List.eq_nil_of_length_eq_zero h0) hA
    · simp only [Value.slice.injEq] at e
      exact ⟨g, cur, z, e.1, (h.out g (by rw [e.1]; rfl)).2, .inr (by rw [e.1]; rfl), hg⟩
  · rintro e w' ⟨ao', T, cap', h1, h2, h3, h4, h5⟩
    exact ⟨ao', T, cap', h1, h2, h3, h4, h.ty.tw.less h5 fun _ => .inl⟩
/-- One attribute more. -/
theorem TG.grow {S : Nat → Prop} {x : Nat} {E : Env} {r : List Ch} {sc : Sc} {dn : Bool} {w : World} {y : Nat} {kind : Int} {nm : ByteArray} {ao : Option Addr} {n cap : Nat} {A : List At} {sf : Bool} {W : World} (h : TG S x E r sc dn w y kind nm (.slice ao n cap) A sf W) (hn : A.length = n) (hn2 : n ≤ 100000) (an avl : ByteArray) (W0 : World) (hW0 : W.alloc (.cells #[.string an, .string avl] 96) = W0) :
    ∃ ao' c' W', (Builtin.append_ #[37, 37] 37 #[.slice ao n cap, .slice (some ⟨W.heap.size, 0, none⟩) 1 1]).run Try.prog W0 = .ok (.slice ao' (n + 1) c') W' ∧ TG S x E r sc dn w y kind nm (.slice ao' (n + 1) c') (A ++ [⟨an, avl⟩]) sf (W'.setCell ⟨y, 4, none⟩ (.slice ao' (n + 1) c')) ∧ W'.cell? ⟨y, 4, none⟩ = some (.slice ao n cap) ∧ W'.frozen? ⟨y, 4, none⟩ = false ∧ y < W'.heap.size ∧ x < W'.heap.size := by
  have b0 : Below W.heap.size W W0 := by rw [← hW0]; exact (Below.refl _ _).alloc (Nat.le_refl _) _
  have hnew : W0.heap[W.heap.size]? = some (.cells #[.string an, .string avl] 96 (0, 0)) := by rw [← hW0]; exact heap_alloc_new _ _
  have h0 := h.below b0
  have ho : OwnQ W0 false 96 2 (.slice ao n cap) n (A.flatMap G9.At.cells) := by have := h0.own; rw [← hn]; rw [← hn] at this; exact this
  obtain ⟨v', W', hrun, ho', hg', hat⟩ := row_app Try.underlying37 info49 rfl (by decide) (by decide) ho W.heap.size 0 1 1 [.string an, .string avl] rfl (fun j u hj => by rw [Nat.zero_add]; simp [World.cell?, hnew]; exact hj) (by simp [Value.oneCell']) (by omega)
  obtain ⟨ao', c', rfl, _, _⟩ := own_form ho'
  have hgy : ∀ g, (Value.slice ao n cap).ownBlock = some g → g ≠ y := fun g hg e => by
    subst e
    obtain ⟨_, cur, z, hg2⟩ := own_blk h.own hg
    rw [h.ty.blk] at hg2
    simp at hg2
  have tw' : TW S x E r sc dn w W' := h0.ty.tw.grown hg' fun g hg => by
    obtain ⟨_, cur, z, hb⟩ := own_blk h0.own hg
    exact ⟨(h.out g hg).1, cur, 96, z, hb, by decide, by decide⟩
  have hy' : W'.heap[y]? = some (.cells (tkA kind nm (.slice ao n cap) sf 0 0) 39 (0, 0)) := (hg'.block y h0.ty.lt (fun e => hgy y e.symm rfl)).trans h0.ty.blk
  have ty' : TY S x E r sc dn w y (tkA kind nm (.slice ao n cap) sf 0 0) 39 W' := ⟨tw', hy', h.ty.ns, h.ty.ty1, h.ty.ty2⟩
  have hfr : ∀ g, (Value.slice ao' (n + 1) c').ownBlock = some g → (Value.slice ao n cap).ownBlock = some g ∨ W0.heap.size ≤ g := fun g hg => fresh_of hat g hg
  refine ⟨ao', c', W', hrun, ⟨ty'.put 4 (.slice ao' (n + 1) c') rfl, ?_, fun g hg => ?_⟩, (ty'.cell 4 rfl).1, (ty'.cell 4 rfl).2, ty'.lt, tw'.lt⟩
  · have e1 : (A ++ [(⟨an, avl⟩ : At)]).length = n + 1 := by rw [List.length_append, hn]; rfl
    have e2 : (A ++ [(⟨an, avl⟩ : At)]).flatMap G9.At.cells = A.flatMap G9.At.cells ++ [.string an, .string avl] := by simp [G9.At.cells]
    show OwnQ _ false 96 2 _ (A ++ [(⟨an, avl⟩ : At)]).length ((A ++ [(⟨an, avl⟩ : At)]).flatMap G9.At.cells)
    rw [e1, e2]
    refine own_mv ho' fun g hg => Below.heap_setCell _ _ _ _ fun e => ?_
    have e : g = y := e
    subst e
    rcases hfr g hg with e | e
    · exact hgy g e rfl
    · have := h0.ty.lt
      omega
  · rcases hfr g hg with e | e
    · exact h.out g e
    · refine ⟨fun hS => ?_, ?_⟩
      · have := h0.ty.tw.facts.2.2 g hS
        omega
      · have := h0.ty.tw.keep.size
        omega
theorem tagL_nil {N : Int} {n : Nat} {A : List At} {sf : Bool} {fs : Fs} {r : List Ch} (h : skipB r = []) : tagL N (n + 1) A sf fs r = (none, fs ++ [(7, N)], []) := by
  conv => lhs; unfold tagL
  rw [h]
theorem tagL_gt {N : Int} {n : Nat} {A : List At} {sf : Bool} {fs : Fs} {r : List Ch} {c : Ch} {t : List Ch} (h : skipB r = c :: t) (hc : c.r = 62) : tagL N (n + 1) A sf fs r = (some (A, sf), fs, t) := by
  conv => lhs; unfold tagL
  rw [h]
  simp only
  rw [if_pos hc]
theorem tagL_sl {N : Int} {n : Nat} {A : List At} {sf : Bool} {fs : Fs} {r : List Ch} {c : Ch} {t : List Ch} (h : skipB r = c :: t) (hc : c.r = 47) : tagL N (n + 1) A sf fs r = if hd t = 62 then tagL N n A true fs t else if t ≠ [] then tagL N n A sf (fs ++ [(12, frN N t)]) t else tagL N n A sf fs t := by
  conv => lhs; unfold tagL
  rw [h]
  simp only
  rw [if_neg (by rw [hc]; decide), if_pos hc]
theorem tagL_at {N : Int} {n : Nat} {A : List At} {sf : Bool} {fs : Fs} {r : List Ch} {c : Ch} {t : List Ch} (h : skipB r = c :: t) (h1 : c.r ≠ 62) (h2 : c.r ≠ 47) : tagL N (n + 1) A sf fs r = tagL N n (addA A (attrR N A fs (c :: t))) sf (attrR N A fs (c :: t)).2.2.1 (attrR N A fs (c :: t)).2.2.2 := by
  conv => lhs; unfold tagL
  rw [h]
  simp only
  rw [if_neg h1, if_neg h2]
set_option maxHeartbeats 4000000 in
set_option maxRecDepth 20000 in
theorem tag_any : TagAny := by
  intro S x E r sc dn w h c0 F hF hr hpos hB kind hk
  have k00 := TW.start h
  obtain ⟨hfew, hsuf, hlow⟩ := k00.facts
  have hr5 : r.length ≤ 100000 := by have := hsuf.length_le; omega
  obtain ⟨T, hT⟩ : ∃ T, tagR E.N (c0 :: F) kind sc r = T := ⟨_, rfl⟩
  rw [hT]
  obtain ⟨Q, hQ⟩ : ∃ Q, lows (r.takeWhile nmC) = Q := ⟨_, rfl⟩
  obtain ⟨R, hR⟩ : ∃ R, r.dropWhile nmC = R := ⟨_, rfl⟩
  have HT : Hid (tagE (c0 :: F) kind Q sc (tagL E.N (R.length + 1) [] false sc.fs R) = T ∧ R <:+ r) := by
    refine ⟨?_, by rw [← hR]; exact List.dropWhile_suffix _⟩
    rw [← hT]
    unfold tagR
    rw [hQ, hR]
  have HQ : Hid (([] : List UInt8) ++ lows (r.takeWhile nmC) = Q ∧ r.dropWhile nmC = R) := ⟨hQ, hR⟩
  have HFr : Hid (c0 :: F <:+ E.L ∧ r <:+ F ∧ (∀ d ∈ r, 0 ≤ d.r) ∧ r.length ≤ 100000 ∧ sc.fs.length + 8 * r.length + 16 ≤ 1000000000 ∧ (kind = 2 ∨ kind = 3)) := ⟨hF, hr, hpos, hr5, hB, hk⟩
  obtain ⟨pF, hpF⟩ : ∃ pF, pos E (c0 :: F) = pF := ⟨_, rfl⟩
  have HPF : Hid (pos E (c0 :: F) = pF) := hpF
  rw [hpF]
  obtain ⟨W0, hW0⟩ : ∃ W0, w.alloc (.cells (tkA kind ⟨#[]⟩ (.slice none 0 0) false 0 0) 39) = W0 := ⟨_, rfl⟩
  have HW0 : Hid (w.alloc (.cells (tkA kind ⟨#[]⟩ (.slice none 0 0) false 0 0) 39) = W0) := hW0
  have k0 : TY S x E r sc dn w w.heap.size (tkA kind ⟨#[]⟩ (.slice none 0 0) false 0 0) 39 W0 := by
    rw [← hW0]
    exact TY.new k00 _ 39 (by decide) (by decide)
  have K0 : Hid (TY S x E r sc dn w w.heap.size (tkA kind ⟨#[]⟩ (.slice none 0 0) false 0 0) 39 W0) := k0
  have hx0 := k0.tw.lt
  have hy0 := k0.lt
  have hne : w.heap.size ≠ x := k0.ne
  clear h hF hr hpos hB hk k00 hfew hsuf hlow hr5 hT hQ hR hpF hW0 k0
  go_enter Try.func48, Try.ntmps48
  go_wp2_with fail
  rw [HW0.out]
  clear HW0
  go_loopg [31] r.length (fun g _ wr => ∃ (q : List UInt8) (r1 : List Ch), r1.length ≤ g ∧ q ++ lows (r1.takeWhile nmC) = Q ∧ r1.dropWhile nmC = R ∧ r1 <:+ r ∧ q.length + 4 * r1.length ≤ 4 * r.length ∧ TY S x E r1 sc dn w w.heap.size (tkA kind (bs q) (.slice none 0 0) false 0 0) 39 wr)
  case atStart => exact ⟨[], r, Nat.le_refl _, HQ.out.1, HQ.out.2, List.suffix_refl _, by simp, K0.out⟩
  case round =>
    obtain ⟨q, r1, hgl, hq1, hq2, hq3, hq4, hk⟩ := hrel
    have HNM : Hid (q ++ lows (r1.takeWhile nmC) = Q ∧ r1.dropWhile nmC = R ∧ r1 <:+ r ∧ q.length + 4 * r1.length ≤ 4 * r.length ∧ r1.length ≤ gk) := ⟨hq1, hq2, hq3, hq4, hgl⟩
    have HPR : Hid (∀ d ∈ r1, 0 ≤ d.r) := suf_pos hq3 HFr.out.2.2.1
    clear K0
    have K0 : Hid (TY S x E r1 sc dn w w.heap.size (tkA kind (bs q) (.slice none 0 0) false 0 0) 39 wr) := hk
    have hxr := hk.tw.lt
    have hyr := hk.lt
    clear hgl hq1 hq2 hq3 hq4 hk
    go_upto_region 2 with fail
    go_cut [31] (fun s wc => s = .bool (tst nmC r1) ∧ TY S x E r1 sc dn w w.heap.size (tkA kind (bs q) (.slice none 0 0) false 0 0) 39 wc)
    case first =>
      cases r1 with
      | nil =>
        have HTS : Hid (tst nmC [] = false) := rfl
        go_wp2_with fail
        refine K0.out.c0.mono ?_
        rintro e W1 ⟨rfl, k'⟩
        have K1 : Hid (TY S x E [] sc dn w w.heap.size (tkA kind (bs q) (.slice none 0 0) false 0 0) 39 W1) := k'
        have hx1 := k'.tw.lt
        have hy1 := k'.lt
        clear k'
        go_wp2_with fail
        go_meet
        case rel => exact ⟨by rw [HTS.out], K1.out⟩
      | cons d t1 =>
        obtain ⟨dr, da, dz⟩ := d
        have hd0 : 0 ≤ dr := HPR.out ⟨dr, da, dz⟩ (by simp)
        have gd0 : decide (dr ≥ 0) = true := decide_eq_true (by omega)
        clear hd0
        by_cases hbk : blk dr = true
        · have HTS : Hid (tst nmC (⟨dr, da, dz⟩ :: t1) = false) := by
            show nmC _ = _
            unfold nmC
            simp [hbk]
          go_wp2_with fail
          refine K0.out.cc.mono ?_
          rintro e W1 ⟨rfl, k'⟩
          have K1 : Hid (TY S x E (⟨dr, da, dz⟩ :: t1) sc dn w w.heap.size (tkA kind (bs q) (.slice none 0 0) false 0 0) 39 W1) := k'
          have hx1 := k'.tw.lt
          have hy1 := k'.lt
          clear k'
          go_wp2_with fail
          refine K1.out.cc.mono ?_
          rintro e W2 ⟨rfl, k'⟩
          have K2 : Hid (TY S x E (⟨dr, da, dz⟩ :: t1) sc dn w w.heap.size (tkA kind (bs q) (.slice none 0 0) false 0 0) 39 W2) := k'
          have hx2 := k'.tw.lt
          have hy2 := k'.lt
          clear k'
          go_wp2_with fail
          refine (G7.rblank_any dr _).mono ?_
          rintro e w0 ⟨rfl, hw0⟩
          rw [hw0]
          clear hw0
          go_wp2_with fail
          go_meet
          case rel => exact ⟨by rw [HTS.out], K2.out⟩
        · have hbk' : blk dr = false := by simpa using hbk
          by_cases h47 : dr = 47
          · have g47 : (dr != 47) = false := by simp [h47]
            have HTS : Hid (tst nmC (⟨dr, da, dz⟩ :: t1) = false) := by
              show nmC _ = _
              unfold nmC
              simp [h47]
            clear h47
            go_wp2_with fail
            refine K0.out.cc.mono ?_
            rintro e W1 ⟨rfl, k'⟩
            have K1 : Hid (TY S x E (⟨dr, da, dz⟩ :: t1) sc dn w w.heap.size (tkA kind (bs q) (.slice none 0 0) false 0 0) 39 W1) := k'
            have hx1 := k'.tw.lt
            have hy1 := k'.lt
            clear k'
            go_wp2_with fail
            refine K1.out.cc.mono ?_
            rintro e W2 ⟨rfl, k'⟩
            have K2 : Hid (TY S x E (⟨dr, da, dz⟩ :: t1) sc dn w w.heap.size (tkA kind (bs q) (.slice none 0 0) false 0 0) 39 W2) := k'
            have hx2 := k'.tw.lt
            have hy2 := k'.lt
            clear k'
            go_wp2_with fail
            refine (G7.rblank_any dr _).mono ?_
            rintro e w0 ⟨rfl, hw0⟩
            rw [hw0]
            clear hw0
            go_wp2_with fail
            refine K2.out.cc.mono ?_
            rintro e W3 ⟨rfl, k'⟩
            have K3 : Hid (TY S x E (⟨dr, da, dz⟩ :: t1) sc dn w w.heap.size (tkA kind (bs q) (.slice none 0 0) false 0 0) 39 W3) := k'
            have hx3 := k'.tw.lt
            have hy3 := k'.lt
            clear k'
            go_wp2_with fail
            go_meet
            case rel => exact ⟨by rw [HTS.out], K3.out⟩
          · have g47 : (dr != 47) = true := by simp [h47]
            by_cases h62 : dr = 62
            · have g62 : (dr != 62) = false := by simp [h62]
              have HTS : Hid (tst nmC (⟨dr, da, dz⟩ :: t1) = false) := by
                show nmC _ = _
                unfold nmC
                simp [h62]
              clear h62
              go_wp2_with fail
              refine K0.out.cc.mono ?_
              rintro e W1 ⟨rfl, k'⟩
              have K1 : Hid (TY S x E (⟨dr, da, dz⟩ :: t1) sc dn w w.heap.size (tkA kind (bs q) (.slice none 0 0) false 0 0) 39 W1) := k'
              have hx1 := k'.tw.lt
              have hy1 := k'.lt
              clear k'
              go_wp2_with fail
              refine K1.out.cc.mono ?_
              rintro e W2 ⟨rfl, k'⟩
              have K2 : Hid (TY S x E (⟨dr, da, dz⟩ :: t1) sc dn w w.heap.size (tkA kind (bs q) (.slice none 0 0) false 0 0) 39 W2) := k'
              have hx2 := k'.tw.lt
              have hy2 := k'.lt
              clear k'
              go_wp2_with fail
              refine (G7.rblank_any dr _).mono ?_
              rintro e w0 ⟨rfl, hw0⟩
              rw [hw0]
              clear hw0
              go_wp2_with fail
              refine K2.out.cc.mono ?_
              rintro e W3 ⟨rfl, k'⟩
              have K3 : Hid (TY S x E (⟨dr, da, dz⟩ :: t1) sc dn w w.heap.size (tkA kind (bs q) (.slice none 0 0) false 0 0) 39 W3) := k'
              have hx3 := k'.tw.lt
              have hy3 := k'.lt
              clear k'
              go_wp2_with fail
              refine K3.out.cc.mono ?_
              rintro e W4 ⟨rfl, k'⟩
              have K4 : Hid (TY S x E (⟨dr, da, dz⟩ :: t1) sc dn w w.heap.size (tkA kind (bs q) (.slice none 0 0) false 0 0) 39 W4) := k'
              have hx4 := k'.tw.lt
              have hy4 := k'.lt
              clear k'
              go_wp2_with fail
              go_meet
              case rel => exact ⟨by rw [HTS.out], K4.out⟩
            · have g62 : (dr != 62) = true := by simp [h62]
              have HTS : Hid (tst nmC (⟨dr, da, dz⟩ :: t1) = true) := by
                show nmC _ = _
                unfold nmC
                simp [hbk', h47, h62]
              go_wp2_with fail
              refine K0.out.cc.mono ?_
              rintro e W1 ⟨rfl, k'⟩
              have K1 : Hid (TY S x E (⟨dr, da, dz⟩ :: t1) sc dn w w.heap.size (tkA kind (bs q) (.slice none 0 0) false 0 0) 39 W1) := k'
              have hx1 := k'.tw.lt
              have hy1 := k'.lt
              clear k'
              go_wp2_with fail
              refine K1.out.cc.mono ?_
              rintro e W2 ⟨rfl, k'⟩
              have K2 : Hid (TY S x E (⟨dr, da, dz⟩ :: t1) sc dn w w.heap.size (tkA kind (bs q) (.slice none 0 0) false 0 0) 39 W2) := k'
              have hx2 := k'.tw.lt
              have hy2 := k'.lt
              clear k'
              go_wp2_with fail
              refine (G7.rblank_any dr _).mono ?_
              rintro e w0 ⟨rfl, hw0⟩
              rw [hw0]
              clear hw0
              go_wp2_with fail
              refine K2.out.cc.mono ?_
              rintro e W3 ⟨rfl, k'⟩
              have K3 : Hid (TY S x E (⟨dr, da, dz⟩ :: t1) sc dn w w.heap.size (tkA kind (bs q) (.slice none 0 0) false 0 0) 39 W3) := k'
              have hx3 := k'.tw.lt
              have hy3 := k'.lt
              clear k'
              go_wp2_with fail
              refine K3.out.cc.mono ?_
              rintro e W4 ⟨rfl, k'⟩
              have K4 : Hid (TY S x E (⟨dr, da, dz⟩ :: t1) sc dn w w.heap.size (tkA kind (bs q) (.slice none 0 0) false 0 0) 39 W4) := k'
              have hx4 := k'.tw.lt
              have hy4 := k'.lt
              clear k'
              go_wp2_with fail
              go_meet
              case rel => exact ⟨by rw [HTS.out], K4.out⟩
    case rest =>
      obtain ⟨hu, k0⟩ := hcut
      clear K0
      have K0 : Hid (TY S x E r1 sc dn w w.heap.size (tkA kind (bs q) (.slice none 0 0) false 0 0) 39 wc) := k0
      have hxc := k0.tw.lt
      have hyc := k0.lt
      clear k0
      obtain ⟨nv, hnv⟩ : ∃ nv, bs q = nv := ⟨_, rfl⟩
      have hnz : nv.size ≤ 400005 := by
        have h1 := HNM.out.2.2.2.1
        have h2 := HFr.out.2.2.2.1
        rw [← hnv, bs_size]
        omega
      have HNV : Hid (bs q = nv) := hnv
      rw [hnv] at K0
      clear hnv
      cases ht : tst nmC r1 with
      | true =>
        rw [ht] at hu
        subst hu
        obtain ⟨⟨dr, da, dz⟩, t1, rfl, hdc, e1, e2⟩ := tst_yes ht
        have HST : Hid ((q ++ enc (lowr dr)) ++ lows (t1.takeWhile nmC) = Q ∧ t1.length + 1 ≤ gk ∧ t1.dropWhile nmC = R ∧ t1 <:+ r ∧ (q ++ enc (lowr dr)).length + 4 * t1.length ≤ 4 * r.length) := by
          obtain ⟨h1, h2, h3, h4, h5⟩ := HNM.out
          rw [e1] at h1
          rw [e2] at h2
          refine ⟨?_, h5, h2, (List.suffix_cons _ _).trans h3, ?_⟩
          · rw [← h1]
            simp [lows]
          · have := enc_len (lowr dr)
            simp only [List.length_append, List.length_cons] at h4 ⊢
            omega
        clear ht hdc e1 e2
        obtain ⟨b0, f0⟩ := K0.out.cell 2 rfl
        go_upto_region 3 with fail
        go_cut [] (fun wc => TY S x E (⟨dr, da, dz⟩ :: t1) sc dn w w.heap.size (tkA kind (bs (q ++ enc (lowr dr))) (.slice none 0 0) false 0 0) 39 wc)
        case first =>
          have hev : (bs (enc (lowr dr))).size ≤ 4 := by rw [bs_size]; exact enc_len _
          obtain ⟨ev, hev2⟩ : ∃ ev, bs (enc (lowr dr)) = ev := ⟨_, rfl⟩
          have HEV : Hid (bs (enc (lowr dr)) = ev) := hev2
          rw [hev2] at hev
          clear hev2
          go_region_with (first
            | (go_at_call 32; refine ((K0.out.below ((Below.refl _ _).drew)).cc).mono ?_; rintro e wa ⟨rfl, ka⟩; have KA : Hid (TY S x E (⟨dr, da, dz⟩ :: t1) sc dn w w.heap.size (tkA kind nv (.slice none 0 0) false 0 0) 39 wa) := ka; obtain ⟨ba, fa⟩ := ka.cell 2 rfl; have hxa := ka.tw.lt; have hya := ka.lt; clear ka)
            | (go_at_call 50; refine (KA.out.lower dr).mono ?_; rintro e wb ⟨rfl, kb⟩; rw [HEV.out]; have KB : Hid (TY S x E (⟨dr, da, dz⟩ :: t1) sc dn w w.heap.size (tkA kind nv (.slice none 0 0) false 0 0) 39 wb) := kb; obtain ⟨bb, fb⟩ := kb.cell 2 rfl; have hxb := kb.tw.lt; have hyb := kb.lt; clear kb))
          all_goals
            go_wp2_with fail
            go_meet
            case rel =>
              rw [show bs (q ++ enc (lowr dr)) = nv ++ ev by rw [← bs_app, HNV.out, HEV.out]]
              exact KB.out.put 2 (.string (nv ++ ev)) rfl
        case rest =>
          have KC : Hid (TY S x E (⟨dr, da, dz⟩ :: t1) sc dn w w.heap.size (tkA kind (bs (q ++ enc (lowr dr))) (.slice none 0 0) false 0 0) 39 wc) := hcut
          have hxd := hcut.tw.lt
          have hyd := hcut.lt
          obtain ⟨a1, a2, a3, a4, _⟩ := hcut.tw.at
          obtain ⟨pq, hpq⟩ : ∃ p, pos E (⟨dr, da, dz⟩ :: t1) = p := ⟨_, rfl⟩
          have KN : Hid (TY S x E t1 sc dn w w.heap.size (tkA kind (bs (q ++ enc (lowr dr))) (.slice none 0 0) false 0 0) 39 (wc.setCell ⟨x, 1, none⟩ (.int .i64 (pq + 1)))) := by
            show TY _ _ _ _ _ _ _ _ _ _ _
            rw [← hpq]
            exact hcut.adv
          rw [hpq] at a1 a3 a4
          clear hcut hpq
          go_wp2_with fail
          go_roundg (gk - 1)
          case measure => have := HST.out.2.1; omega
          case rel => exact ⟨q ++ enc (lowr dr), t1, by have := HST.out.2.1; omega, HST.out.1, HST.out.2.2.1, HST.out.2.2.2.1, HST.out.2.2.2.2, KN.out⟩
      | false =>
        rw [ht] at hu
        subst hu
        have HNS : Hid (q = Q ∧ r1 = R) := by
          obtain ⟨h1, h2, _⟩ := HNM.out
          obtain ⟨e1, e2⟩ := tst_no ht
          rw [e1] at h1
          rw [e2] at h2
          simp [lows] at h1
          exact ⟨h1, h2⟩
        clear ht HNM
        obtain ⟨rfl, rfl⟩ := HNS.out
        clear HNS HQ
        obtain ⟨V, hV⟩ : ∃ V, tagL E.N (r1.length + 1) [] false sc.fs r1 = V := ⟨_, rfl⟩
        have HV0 : Hid (tagL E.N (r1.length + 1) [] false sc.fs r1 = V) := hV
        have HTV : Hid (tagE (c0 :: F) kind q sc V = T ∧ r1 <:+ r) := by
          have h0 := HT.out
          rw [hV] at h0
          exact h0
        clear hV HT
        have KG0 : Hid (TG S x E r1 sc dn w w.heap.size kind nv (.slice none 0 0) [] false wc) := ⟨K0.out, ⟨rfl, .inl ⟨rfl, rfl⟩⟩, fun g hg => by simp [Value.ownBlock] at hg⟩
        clear K0
        go_wp2_with fail
        go_loopg [8, 9, 10] (r1.length + 1) (fun g _ _ _ wr => ∃ (A : List At) (sf : Bool) (fs : Fs) (r2 : List Ch) (av : Value), tagL E.N g A sf fs r2 = V ∧ r2.length < g ∧ r2 <:+ r1 ∧ Once A ∧ A.length + r2.length ≤ r1.length ∧ fs.length + 8 * r2.length ≤ sc.fs.length + 8 * r1.length ∧ TG S x E r2 (sc.fsd fs) dn w w.heap.size kind nv av A sf wr)
        case atStart => exact ⟨[], false, sc.fs, r1, _, HV0.out, Nat.lt_succ_self _, List.suffix_refl _, Once.nil, by simp, Nat.le_refl _, KG0.out⟩
        case round =>
          obtain ⟨A, sf, fs, r2, av, hv, hgl, hs2, hO, hAl, hfl, hk⟩ := hrel
          obtain ⟨g0, rfl⟩ : ∃ g0, gk = g0 + 1 := ⟨gk - 1, by omega⟩
          obtain ⟨ao, cap, rfl, hcp⟩ := hk.form
          obtain ⟨n, hn⟩ : ∃ n, A.length = n := ⟨_, rfl⟩
          rw [hn] at hcp hk
          obtain ⟨R2, hR2⟩ : ∃ R2, skipB r2 = R2 := ⟨_, rfl⟩
          have hRl : R2 <:+ r2 := by rw [← hR2]; exact skip_suf _
          have H2 : Hid (tagL E.N (g0 + 1) A sf fs r2 = V ∧ r2.length ≤ g0 ∧ r2 <:+ r1 ∧ Once A ∧ n + r2.length ≤ r1.length ∧ fs.length + 8 * r2.length ≤ sc.fs.length + 8 * r1.length ∧ A.length = n ∧ skipB r2 = R2 ∧ R2 <:+ r2) := ⟨hv, by omega, hs2, hO, by omega, hfl, hn, hR2, hRl⟩
          have H3 : Hid (n ≤ 100000 ∧ n ≤ cap ∧ R2 <:+ F ∧ (∀ d ∈ R2, 0 ≤ d.r) ∧ fs.length + 8 * R2.length + 16 ≤ 1000000000) := by
            obtain ⟨f1, f2, f3, f4, f5, f6⟩ := HFr.out
            have l1 := hs2.length_le
            have l2 := hRl.length_le
            have l3 := HTV.out.2.length_le
            refine ⟨by omega, hcp, hRl.trans (hs2.trans (HTV.out.2.trans f2)), suf_pos (hRl.trans (hs2.trans HTV.out.2)) f3, by omega⟩
          have hn5 : n ≤ 100000 := H3.out.1
          clear KG0
          have KG0 : Hid (TG S x E r2 (sc.fsd fs) dn w w.heap.size kind nv (.slice ao n cap) A sf wr) := hk
          have hxr := hk.ty.tw.lt
          have hyr := hk.ty.lt
          clear hv hgl hs2 hO hAl hfl hk hcp hn hR2 hRl
          go_wp2_with fail
          go_loopg [48] r2.length (fun g _ wr => ∃ r3 : List Ch, r3.length ≤ g ∧ skipB r3 = R2 ∧ TG S x E r3 (sc.fsd fs) dn w w.heap.size kind nv (.slice ao n cap) A sf wr)
          case atStart => exact ⟨r2, Nat.le_refl _, H2.out.2.2.2.2.2.2.2.1, KG0.out⟩
          case round =>
            obtain ⟨r3, hgl, hr3, hk⟩ := hrel
            clear KG0
            have K0 : Hid (TG S x E r3 (sc.fsd fs) dn w w.heap.size kind nv (.slice ao n cap) A sf wr) := hk
            have hxr := hk.ty.tw.lt
            have hyr := hk.ty.lt
            by_cases hb : ∃ c t, r3 = c :: t ∧ blk c.r = true
            · obtain ⟨⟨er, ea, ez⟩, t2, rfl, hb⟩ := hb
              have HNX : Hid (skipB t2 = R2 ∧ t2.length + 1 ≤ gk) := by
                rw [skipB_cons, if_pos hb] at hr3
                exact ⟨hr3, hgl⟩
              have hb' : blk er = true := hb
              clear hk hr3 hb hgl
              go_wp2_with fail
              refine K0.out.cc.mono ?_
              rintro e W1 ⟨rfl, k'⟩
              have K1 : Hid (TG S x E (⟨er, ea, ez⟩ :: t2) (sc.fsd fs) dn w w.heap.size kind nv (.slice ao n cap) A sf W1) := k'
              have hx1 := k'.ty.tw.lt
              have hy1 := k'.ty.lt
              clear k'
              go_wp2_with fail
              refine (G7.rblank_any er _).mono ?_
              rintro e w0 ⟨rfl, hw0⟩
              rw [hw0]
              clear hw0
              obtain ⟨c1, c2, c3, c4, _⟩ := K1.out.ty.tw.at
              obtain ⟨pq, hpq⟩ : ∃ p, pos E (⟨er, ea, ez⟩ :: t2) = p := ⟨_, rfl⟩
              have KN : Hid (TG S x E t2 (sc.fsd fs) dn w w.heap.size kind nv (.slice ao n cap) A sf (W1.setCell ⟨x, 1, none⟩ (.int .i64 (pq + 1)))) := by
                show TG _ _ _ _ _ _ _ _ _ _ _ _ _ _
                rw [← hpq]
                exact K1.out.adv
              rw [hpq] at c1 c3 c4
              clear hpq
              go_wp2_with fail
              go_roundg (gk - 1)
              case measure => have := HNX.out.2; omega
              case rel => exact ⟨t2, by have := HNX.out.2; omega, HNX.out.1, KN.out⟩
            · have HRR : Hid (r3 = R2) := by
                show r3 = R2
                cases r3 with
                | nil => exact hr3
                | cons c t =>
                  rw [skipB_cons, if_neg fun h => hb ⟨c, t, rfl, h⟩] at hr3
                  exact hr3
              have hbv : blk (hd r3) = false := by
                cases r3 with
                | nil => decide
                | cons c t =>
                  cases hbb : blk c.r with
                  | false => exact hbb
                  | true => exact absurd ⟨c, t, rfl, hbb⟩ hb
              clear hb hk hr3 hgl
              obtain rfl := HRR.out
              clear HRR
              cases r3 with
              | nil =>
                have HVV : Hid (T = ([], { sc with fs := fs ++ [(7, E.N)] }, [])) := by
                  show T = _
                  have h0 := HTV.out.1
                  rw [← H2.out.1, tagL_nil H2.out.2.2.2.2.2.2.2.1] at h0
                  exact h0.symm
                go_wp2_with fail
                refine K0.out.c0.mono ?_
                rintro e W1 ⟨rfl, k'⟩
                have K1 : Hid (TG S x E [] (sc.fsd fs) dn w w.heap.size kind nv (.slice ao n cap) A sf W1) := k'
                have hx1 := k'.ty.tw.lt
                have hy1 := k'.ty.lt
                clear k'
                go_wp2_with fail
                refine (G7.rblank_any (-1) _).mono ?_
                rintro e w0 ⟨rfl, hw0⟩
                rw [hw0]
                clear hw0
                go_wp2_with fail
                refine K1.out.c0.mono ?_
                rintro e W2 ⟨rfl, k'⟩
                have K2 : Hid (TG S x E [] (sc.fsd fs) dn w w.heap.size kind nv (.slice ao n cap) A sf W2) := k'
                have hx2 := k'.ty.tw.lt
                have hy2 := k'.ty.lt
                clear k'
                obtain ⟨_, _, _, _, d2⟩ := K2.out.ty.tw.c3
                obtain ⟨N, hN⟩ : ∃ N, E.N = N := ⟨_, rfl⟩
                rw [hN] at d2
                rw [hN] at HVV
                clear hN
                go_wp2_with fail
                refine (K2.out.tfl 7 N (by have := H3.out.2.2.2.2; show fs.length ≤ _; omega)).mono ?_
                rintro e W3 ⟨rfl, k'⟩
                have K3 : Hid (TW S x E [] { sc with fs := fs ++ [(7, N)] } dn w W3) := k'.ty.tw
                have hx3 := k'.ty.tw.lt
                clear k'
                go_wp2_with fail
                go_ret
                rw [HVV.out]
                exact ⟨none, [], 0, rfl, rfl, Nat.le_refl _, TokR.nil _ _ _, K3.out⟩
              | cons d0 t2 =>
                obtain ⟨er, ea, ez⟩ := d0
                have hbe : blk er = false := hbv
                have he0 : 0 ≤ er := H3.out.2.2.2.1 ⟨er, ea, ez⟩ (by simp)
                have ge0 : decide (er < 0) = false := decide_eq_false (by omega)
                clear hbv he0
                by_cases h62 : er = 62
                · have g62 : (er == 62) = true := by simp [h62]
                  have HVV : Hid (T = doneR (c0 :: F) kind q (sc.fsd fs) A sf fs t2) := by
                    show T = _
                    have h0 := HTV.out.1
                    rw [← H2.out.1, tagL_gt H2.out.2.2.2.2.2.2.2.1 h62] at h0
                    exact h0.symm
                  clear h62
                  go_wp2_with fail
                  refine K0.out.cc.mono ?_
                  rintro e W1 ⟨rfl, k'⟩
                  have K1 : Hid (TG S x E (⟨er, ea, ez⟩ :: t2) (sc.fsd fs) dn w w.heap.size kind nv (.slice ao n cap) A sf W1) := k'
                  have hx1 := k'.ty.tw.lt
                  have hy1 := k'.ty.lt
                  clear k'
                  go_wp2_with fail
                  refine (G7.rblank_any er _).mono ?_
                  rintro e w0 ⟨rfl, hw0⟩
                  rw [hw0]
                  clear hw0
                  go_wp2_with fail
                  refine K1.out.cc.mono ?_
                  rintro e W2 ⟨rfl, k'⟩
                  have K2 : Hid (TG S x E (⟨er, ea, ez⟩ :: t2) (sc.fsd fs) dn w w.heap.size kind nv (.slice ao n cap) A sf W2) := k'
                  have hx2 := k'.ty.tw.lt
                  have hy2 := k'.ty.lt
                  clear k'
                  obtain ⟨c1, c2, c3, c4, _⟩ := K2.out.ty.tw.at
                  obtain ⟨pq, hpq⟩ : ∃ p, pos E (⟨er, ea, ez⟩ :: t2) = p := ⟨_, rfl⟩
                  have KN : Hid (TG S x E t2 (sc.fsd fs) dn w w.heap.size kind nv (.slice ao n cap) A sf (W2.setCell ⟨x, 1, none⟩ (.int .i64 (pq + 1)))) := by
                    show TG _ _ _ _ _ _ _ _ _ _ _ _ _ _
                    rw [← hpq]
                    exact K2.out.adv
                  rw [hpq] at c1 c3 c4
                  clear hpq
                  obtain ⟨W3, hW3⟩ : ∃ W3, W2.setCell ⟨x, 1, none⟩ (.int .i64 (pq + 1)) = W3 := ⟨_, rfl⟩
                  have HW3 : Hid (W2.setCell ⟨x, 1, none⟩ (.int .i64 (pq + 1)) = W3) := hW3
                  rw [hW3] at KN
                  have kcm := (show TG S x E t2 (sc.fsd fs) dn w w.heap.size kind (bs q) (.slice ao n cap) A sf W3 by rw [HNV.out]; exact KN.out).done HFr.out.1 (by have h1 := H3.out.2.2.1.length_le; simp only [List.length_cons] at h1; omega) HFr.out.2.2.2.2.2 H2.out.2.2.2.2.2.2.1 H3.out.1 (by have := H3.out.2.2.2.2; show fs.length ≤ _; omega)
                  rw [HPF.out, HNV.out] at kcm
                  obtain ⟨e0, _⟩ := KN.out.ty.cell 0 rfl
                  obtain ⟨e1, _⟩ := KN.out.ty.cell 1 rfl
                  obtain ⟨e2, _⟩ := KN.out.ty.cell 2 rfl
                  obtain ⟨e3, _⟩ := KN.out.ty.cell 3 rfl
                  obtain ⟨e4, _⟩ := KN.out.ty.cell 4 rfl
                  obtain ⟨e5, _⟩ := KN.out.ty.cell 5 rfl
                  obtain ⟨e6, _⟩ := KN.out.ty.cell 6 rfl
                  obtain ⟨e7, _⟩ := KN.out.ty.cell 7 rfl
                  have hx3 := KN.out.ty.tw.lt
                  have hy3 := KN.out.ty.lt
                  clear hW3
                  go_upto_region 16 with fail
                  rw [HW3.out]
                  clear c1 c2 c3 c4
                  go_wp2_with fail
                  refine kcm.mono ?_
                  rintro e w9 h9
                  have H9 : Hid (Tokd S x E T dn w e w9) := by
                    show Tokd _ _ _ _ _ _ _ _
                    rw [HVV.out]
                    exact h9
                  obtain ⟨ao9, T9, cap9, rfl, _⟩ := h9
                  clear kcm
                  go_wp2_with fail
                  go_ret
                  exact H9.out
                · have g62 : (er == 62) = false := by simp [h62]
                  by_cases h47 : er = 47
                  · have g47 : (er == 47) = true := by simp [h47]
                    have HVS : Hid ((if hd t2 = 62 then tagL E.N g0 A true fs t2 else if t2 ≠ [] then tagL E.N g0 A sf (fs ++ [(12, frN E.N t2)]) t2 else tagL E.N g0 A sf fs t2) = V) := by
                      have h0 := H2.out.1
                      rw [tagL_sl H2.out.2.2.2.2.2.2.2.1 h47] at h0
                      exact h0
                    have HNR : Hid (t2.length < g0 ∧ t2 <:+ r1 ∧ Once A ∧ A.length + t2.length ≤ r1.length ∧ fs.length + 1 + 8 * t2.length ≤ sc.fs.length + 8 * r1.length) := by
                      obtain ⟨h1, h2, h3, h4, h5, h6, h7, h8, h9⟩ := H2.out
                      have l1 := h9.length_le
                      simp only [List.length_cons] at l1
                      refine ⟨by omega, (List.suffix_cons _ _).trans (h9.trans h3), h4, by omega, by omega⟩
                    clear h62 h47
                    go_wp2_with fail
                    refine K0.out.cc.mono ?_
                    rintro e W1 ⟨rfl, k'⟩
                    have K1 : Hid (TG S x E (⟨er, ea, ez⟩ :: t2) (sc.fsd fs) dn w w.heap.size kind nv (.slice ao n cap) A sf W1) := k'
                    have hx1 := k'.ty.tw.lt
                    have hy1 := k'.ty.lt
                    clear k'
                    go_wp2_with fail
                    refine (G7.rblank_any er _).mono ?_
                    rintro e w0 ⟨rfl, hw0⟩
                    rw [hw0]
                    clear hw0
                    go_wp2_with fail
                    refine K1.out.cc.mono ?_
                    rintro e W2 ⟨rfl, k'⟩
                    have K2 : Hid (TG S x E (⟨er, ea, ez⟩ :: t2) (sc.fsd fs) dn w w.heap.size kind nv (.slice ao n cap) A sf W2) := k'
                    have hx2 := k'.ty.tw.lt
                    have hy2 := k'.ty.lt
                    clear k'
                    obtain ⟨c1, c2, c3, c4, _⟩ := K2.out.ty.tw.at
                    obtain ⟨pq, hpq⟩ : ∃ p, pos E (⟨er, ea, ez⟩ :: t2) = p := ⟨_, rfl⟩
                    have KN : Hid (TG S x E t2 (sc.fsd fs) dn w w.heap.size kind nv (.slice ao n cap) A sf (W2.setCell ⟨x, 1, none⟩ (.int .i64 (pq + 1)))) := by
                      show TG _ _ _ _ _ _ _ _ _ _ _ _ _ _
                      rw [← hpq]
                      exact K2.out.adv
                    rw [hpq] at c1 c3 c4
                    clear hpq
                    obtain ⟨W3, hW3⟩ : ∃ W3, W2.setCell ⟨x, 1, none⟩ (.int .i64 (pq + 1)) = W3 := ⟨_, rfl⟩
                    have HW3 : Hid (W2.setCell ⟨x, 1, none⟩ (.int .i64 (pq + 1)) = W3) := hW3
                    rw [hW3] at KN
                    have K3 : Hid (TG S x E t2 (sc.fsd fs) dn w w.heap.size kind nv (.slice ao n cap) A sf W3) := KN
                    have hx3 := K3.out.ty.tw.lt
                    have hy3 := K3.out.ty.lt
                    clear KN hW3
                    go_upto_region 19 with fail
                    rw [HW3.out]
                    clear c1 c2 c3 c4 HW3
                    cases t2 with
                    | nil =>
                      have HVV : Hid (tagL E.N g0 A sf fs [] = V) := by
                        have h0 := HVS.out
                        rw [if_neg (by decide), if_neg (by simp)] at h0
                        exact h0
                      go_wp2_with fail
                      refine K3.out.c0.mono ?_
                      rintro e W4 ⟨rfl, k'⟩
                      have K4 : Hid (TG S x E [] (sc.fsd fs) dn w w.heap.size kind nv (.slice ao n cap) A sf W4) := k'
                      have hx4 := k'.ty.tw.lt
                      have hy4 := k'.ty.lt
                      clear k'
                      go_wp2_with fail
                      refine K4.out.c0.mono ?_
                      rintro e W5 ⟨rfl, k'⟩
                      have K5 : Hid (TG S x E [] (sc.fsd fs) dn w w.heap.size kind nv (.slice ao n cap) A sf W5) := k'
                      have hx5 := k'.ty.tw.lt
                      have hy5 := k'.ty.lt
                      clear k'
                      go_wp2_with fail
                      go_roundg g0
                      case measure => exact Nat.lt_succ_self _
                      case rel => exact ⟨A, sf, fs, [], _, HVV.out, HNR.out.1, HNR.out.2.1, HNR.out.2.2.1, HNR.out.2.2.2.1, by have := HNR.out.2.2.2.2; omega, K5.out⟩
                    | cons u0 t3 =>
                      obtain ⟨ur, ua, uz⟩ := u0
                      have hu0 : 0 ≤ ur := H3.out.2.2.2.1 ⟨ur, ua, uz⟩ (by simp)
                      have gu0 : decide (ur ≥ 0) = true := decide_eq_true (by omega)
                      clear hu0
                      by_cases hu62 : ur = 62
                      · have gu62 : (ur == 62) = true := by simp [hu62]
                        have HVV : Hid (tagL E.N g0 A true fs (⟨ur, ua, uz⟩ :: t3) = V) := by
                          have h0 := HVS.out
                          rw [if_pos (show hd (⟨ur, ua, uz⟩ :: t3) = 62 from hu62)] at h0
                          exact h0
                        clear hu62
                        go_wp2_with fail
                        refine K3.out.cc.mono ?_
                        rintro e W4 ⟨rfl, k'⟩
                        have K4 : Hid (TG S x E (⟨ur, ua, uz⟩ :: t3) (sc.fsd fs) dn w w.heap.size kind nv (.slice ao n cap) A sf W4) := k'
                        have hx4 := k'.ty.tw.lt
                        have hy4 := k'.ty.lt
                        clear k'
                        obtain ⟨s5, s6⟩ := K4.out.ty.cell 5 rfl
                        have K5 : Hid (TG S x E (⟨ur, ua, uz⟩ :: t3) (sc.fsd fs) dn w w.heap.size kind nv (.slice ao n cap) A true (W4.setCell ⟨w.heap.size, 5, none⟩ (.bool true))) := K4.out.self
                        go_wp2_with fail
                        go_roundg g0
                        case measure => exact Nat.lt_succ_self _
                        case rel => exact ⟨A, true, fs, _, _, HVV.out, HNR.out.1, HNR.out.2.1, HNR.out.2.2.1, HNR.out.2.2.2.1, by have := HNR.out.2.2.2.2; omega, K5.out⟩
                      · have gu62 : (ur == 62) = false := by simp [hu62]
                        have HVV : Hid (tagL E.N g0 A sf (fs ++ [(12, ua)]) (⟨ur, ua, uz⟩ :: t3) = V) := by
                          have h0 := HVS.out
                          rw [if_neg (show ¬ hd (⟨ur, ua, uz⟩ :: t3) = 62 from hu62), if_pos (by simp)] at h0
                          exact h0
                        clear hu62
                        go_wp2_with fail
                        refine K3.out.cc.mono ?_
                        rintro e W4 ⟨rfl, k'⟩
                        have K4 : Hid (TG S x E (⟨ur, ua, uz⟩ :: t3) (sc.fsd fs) dn w w.heap.size kind nv (.slice ao n cap) A sf W4) := k'
                        have hx4 := k'.ty.tw.lt
                        have hy4 := k'.ty.lt
                        clear k'
                        go_wp2_with fail
                        refine K4.out.cc.mono ?_
                        rintro e W5 ⟨rfl, k'⟩
                        have K5 : Hid (TG S x E (⟨ur, ua, uz⟩ :: t3) (sc.fsd fs) dn w w.heap.size kind nv (.slice ao n cap) A sf W5) := k'
                        have hx5 := k'.ty.tw.lt
                        have hy5 := k'.ty.lt
                        clear k'
                        go_wp2_with fail
                        refine K5.out.ba.mono ?_
                        rintro e W6 ⟨rfl, k'⟩
                        have K6 : Hid (TG S x E (⟨ur, ua, uz⟩ :: t3) (sc.fsd fs) dn w w.heap.size kind nv (.slice ao n cap) A sf W6) := k'
                        have hx6 := k'.ty.tw.lt
                        have hy6 := k'.ty.lt
                        clear k'
                        go_wp2_with fail
                        refine (K6.out.tfl 12 ua (by have := H3.out.2.2.2.2; show fs.length ≤ _; omega)).mono ?_
                        rintro e W7 ⟨rfl, k'⟩
                        have K7 : Hid (TG S x E (⟨ur, ua, uz⟩ :: t3) (sc.fsd (fs ++ [(12, ua)])) dn w w.heap.size kind nv (.slice ao n cap) A sf W7) := k'
                        have hx7 := k'.ty.tw.lt
                        have hy7 := k'.ty.lt
                        clear k'
                        go_wp2_with fail
                        go_roundg g0
                        case measure => exact Nat.lt_succ_self _
                        case rel => exact ⟨A, sf, (fs ++ [(12, ua)]), _, _, HVV.out, HNR.out.1, HNR.out.2.1, HNR.out.2.2.1, HNR.out.2.2.2.1, by have := HNR.out.2.2.2.2; rw [List.length_append]; exact this, K7.out⟩
                  · have g47 : (er == 47) = false := by simp [h47]
                    obtain ⟨P, hP⟩ : ∃ P, attrR E.N A fs (⟨er, ea, ez⟩ :: t2) = P := ⟨_, rfl⟩
                    have HVA : Hid (tagL E.N g0 (addA A P) sf P.2.2.1 P.2.2.2 = V) := by
                      have h0 := H2.out.1
                      rw [tagL_at H2.out.2.2.2.2.2.2.2.1 h62 h47, hP] at h0
                      exact h0
                    have HNR : Hid (P.2.2.2.length < g0 ∧ P.2.2.2 <:+ r1 ∧ Once (addA A P) ∧ (addA A P).length + P.2.2.2.length ≤ r1.length ∧ P.2.2.1.length + 8 * P.2.2.2.length ≤ sc.fs.length + 8 * r1.length) := by
                      obtain ⟨h1, h2, h3, h4, h5, h6, h7, h8, h9⟩ := H2.out
                      have l1 := h9.length_le
                      have s1 : P.2.2.2 <:+ t2 := by
                        rw [← hP]
                        exact attr_suf hbe h47 h62 fun d hd => H3.out.2.2.2.1 d (List.mem_cons_of_mem _ hd)
                      have l2 := s1.length_le
                      have l3 := addA_len A P
                      have l4 : P.2.2.1.length + 8 * P.2.2.2.length ≤ fs.length + 8 * ((⟨er, ea, ez⟩ : Ch) :: t2).length := by
                        rw [← hP]
                        exact attrR_few h4 hbe h47 h62
                      simp only [List.length_cons] at l1 l4
                      refine ⟨by omega, s1.trans ((List.suffix_cons _ _).trans (h9.trans h3)), ?_, by omega, by omega⟩
                      rw [← hP]
                      exact once_addA h4 E.N fs _
                    have HPP : Hid (attrR E.N A fs (⟨er, ea, ez⟩ :: t2) = P) := hP
                    clear h62 h47 hP
                    go_wp2_with fail
                    refine K0.out.cc.mono ?_
                    rintro e W1 ⟨rfl, k'⟩
                    have K1 : Hid (TG S x E (⟨er, ea, ez⟩ :: t2) (sc.fsd fs) dn w w.heap.size kind nv (.slice ao n cap) A sf W1) := k'
                    have hx1 := k'.ty.tw.lt
                    have hy1 := k'.ty.lt
                    clear k'
                    go_wp2_with fail
                    refine (G7.rblank_any er _).mono ?_
                    rintro e w0 ⟨rfl, hw0⟩
                    rw [hw0]
                    clear hw0
                    go_wp2_with fail
                    refine K1.out.cc.mono ?_
                    rintro e W2 ⟨rfl, k'⟩
                    have K2 : Hid (TG S x E (⟨er, ea, ez⟩ :: t2) (sc.fsd fs) dn w w.heap.size kind nv (.slice ao n cap) A sf W2) := k'
                    have hx2 := k'.ty.tw.lt
                    have hy2 := k'.ty.lt
                    clear k'
                    obtain ⟨e4, _⟩ := K2.out.ty.cell 4 rfl
                    have kat := K2.out.attr H3.out.2.2.2.1 (by have := H3.out.2.2.2.2; simp only [List.length_cons] at this; show fs.length + _ + _ ≤ _; omega) H2.out.2.2.2.2.2.2.1 H3.out.1 H3.out.2.1 H2.out.2.2.2.1
                    rw [show (sc.fsd fs).fs = fs from rfl, HPP.out] at kat
                    obtain ⟨⟨an, avl⟩, kp, fs2, r5⟩ := P
                    simp only at kat HVA HNR
                    go_wp2_with fail
                    refine kat.mono ?_
                    rintro e W3 ⟨rfl, k'⟩
                    have K3 : Hid (TG S x E r5 (sc.fsd fs2) dn w w.heap.size kind nv (.slice ao n cap) A sf W3) := k'
                    have hx3 := k'.ty.tw.lt
                    have hy3 := k'.ty.lt
                    clear k' kat e4
                    obtain ⟨nb, hnb⟩ : ∃ nb, bs an = nb := ⟨_, rfl⟩
                    obtain ⟨vb, hvb⟩ : ∃ vb, bs avl = vb := ⟨_, rfl⟩
                    have HNB : Hid (bs an = nb ∧ bs avl = vb) := ⟨hnb, hvb⟩
                    rw [hnb, hvb]
                    clear hnb hvb
                    have bA : Below W3.heap.size W3 (W3.alloc (.cells #[.string nb, .string vb] 96)) := (Below.refl _ _).alloc (Nat.le_refl _) _
                    obtain ⟨W4, hW4⟩ : ∃ W4, W3.alloc (.cells #[.string nb, .string vb] 96) = W4 := ⟨_, rfl⟩
                    have HW4 : Hid (W3.alloc (.cells #[.string nb, .string vb] 96) = W4) := hW4
                    rw [hW4] at bA
                    have hna : W4.heap[W3.heap.size]? = some (.cells #[.string nb, .string vb] 96 (0, 0)) := by rw [← hW4]; exact heap_alloc_new _ _
                    have K4 : Hid (TG S x E r5 (sc.fsd fs2) dn w w.heap.size kind nv (.slice ao n cap) A sf W4) := K3.out.below bA
                    have hx4 := K4.out.ty.tw.lt
                    have hy4 := K4.out.ty.lt
                    have la : W4.cell? ⟨W3.heap.size, 0, none⟩ = some (.string nb) := by simp [World.cell?, hna]
                    have lb : W4.cell? ⟨W3.heap.size, 1, none⟩ = some (.string vb) := by simp [World.cell?, hna]
                    have hl4 : W3.heap.size < W4.heap.size := (Array.getElem?_eq_some_iff.1 hna).1
                    clear hna hW4 bA
                    cases kp with
                    | false =>
                      have HVV : Hid (tagL E.N g0 A sf fs2 r5 = V) := HVA.out
                      have HNR2 : Hid (Once A ∧ A.length + r5.length ≤ r1.length) := HNR.out.2.2.imp id And.left
                      go_upto_region 9 with fail
                      rw [HW4.out]
                      go_wp2_with fail
                      go_roundg g0
                      case measure => exact Nat.lt_succ_self _
                      case rel => exact ⟨A, sf, fs2, r5, _, HVV.out, HNR.out.1, HNR.out.2.1, HNR2.out.1, HNR2.out.2, HNR.out.2.2.2.2, K4.out⟩
                    | true =>
                      have HVV : Hid (tagL E.N g0 (A ++ [⟨nb, vb⟩]) sf fs2 r5 = V) := by
                        have h0 := HVA.out
                        unfold addA at h0
                        rw [if_pos rfl] at h0
                        simp only at h0
                        rw [HNB.out.1, HNB.out.2] at h0
                        exact h0
                      have HNR2 : Hid (Once (A ++ [⟨nb, vb⟩]) ∧ (A ++ [(⟨nb, vb⟩ : At)]).length + r5.length ≤ r1.length) := by
                        have h0 := HNR.out.2.2
                        unfold addA at h0
                        rw [if_pos rfl] at h0
                        simp only at h0
                        rw [HNB.out.1, HNB.out.2] at h0
                        exact ⟨h0.1, h0.2.1⟩
                      obtain ⟨e4, _⟩ := K4.out.ty.cell 4 rfl
                      obtain ⟨W5, hW5⟩ : ∃ W5, W4.alloc (.cells #[.string nb, .string vb] 96) = W5 := ⟨_, rfl⟩
                      obtain ⟨ao', c', W6, hrun, k6, y4, y5, y6, y7⟩ := K4.out.grow H2.out.2.2.2.2.2.2.1 H3.out.1 nb vb W5 hW5
                      rw [← hW5] at hrun
                      have K6 : Hid (TG S x E r5 (sc.fsd fs2) dn w w.heap.size kind nv (.slice ao' (n + 1) c') (A ++ [⟨nb, vb⟩]) sf (W6.setCell ⟨w.heap.size, 4, none⟩ (.slice ao' (n + 1) c'))) := k6
                      clear k6 hW5
                      go_upto_region 9 with fail
                      rw [HW4.out]
                      go_wp2_with (at_builtin; refine list_append_eq rfl _ _ 37 37 rfl _ _ rfl rfl hrun ?_)
                      go_roundg g0
                      case measure => exact Nat.lt_succ_self _
                      case rel => exact ⟨_, sf, fs2, r5, _, HVV.out, HNR.out.1, HNR.out.2.1, HNR2.out.1, HNR2.out.2, HNR.out.2.2.2.2, K6.out⟩
end Go.Proofs.Ytkbakbacomidbaa
