/- The document's scanner, pure: what it tells of characters, by looking ahead. -/
import Derived.Test.YtkbakbacomidbaaProg
import Derived.Below
import Derived.BigQuiet
import Derived.BigRegion
import Derived.Deep.DeepCutAuto
import Derived.Deep.LoopGhost
import Derived.Deep.QuietTactic
import Derived.Deep.RegionHeld3
import Derived.Deep.RegionLaw
import Derived.Deep.RegionWith
import Derived.Deep.Upon
import Derived.Laws.AppendOwn
import Derived.Laws.BytesArg
import Derived.Laws.EntriesVeiled
import Derived.Laws.IdiomStrings
import Derived.Laws.StructEq
import Derived.Lib.RuneBytes
import Derived.Maps.AppendAt
import Derived.Maps.OwnSet
import Derived.OwnWalk
import Derived.ScopeJumps
import Derived.Shelf.Small.Strs
import Derived.Shelf.Strings.Builder1
import Derived.Shelf.Strings.BuilderF
import Derived.Shelf.Strings.BuilderK
import Derived.Shelf.Strings.BuilderRune
import Derived.Shelf.Strings.Prefix
import Derived.WalkArith
import Derived.WalkKit
import Derived.WalkLawsBesides
import Derived.WalkMore
import Derived.WalkSpells
import Derived.Test.YtkbakbacomidbaaZj
namespace Go.Proofs.Ytkbakbacomidbaa
open Go.RowKit
def Mc.set (m : Mc) (text : Int) : Mc := { m with text := if text < 0 ∨ text > 3 then 0 else text }
abbrev Fs := List (Int × Int)
/-- What the scanner has besides its place. -/
structure Sc where
  text : Int
  last : ByteArray
  cd : Bool
  fs : Fs
/-- The character at hand, where it begins; where what was read ends; what was read, as characters. -/
def hd (r : List Ch) : Int := match r with | [] => -1 | c :: _ => c.r
def frN (N : Int) (r : List Ch) : Int := match r with | [] => N | c :: _ => c.a
def endZ (F r : List Ch) : Int := Mc.toAt F (F.length - r.length - 1)
def toldR (F r : List Ch) : List Pt := (F.take (F.length - r.length)).map (chT false)
def lows (l : List Ch) : List UInt8 := l.flatMap fun c => enc (lowr c.r)
def byt (r : Int) : UInt8 := r.toNat.toUInt8
/-- A letter or a digit, or the sign of numbers. -/
def wrd (r : Int) : Bool := G6.wordyP r.toNat || r == 35
def ahT : List Ch → List UInt8
  | [] => []
  | c :: t => if 128 ≤ c.r then [128] else if wrd c.r = false then [byt c.r] else byt c.r :: ahT t
def ahead (r : List Ch) : List UInt8 := match r with
  | [] => []
  | c :: t => if 128 ≤ c.r then [128] else byt c.r :: ahT t
def refR (attr : Bool) (r : List Ch) : Int × Nat × List Int := G6.refP G6.refs attr (ahead r)
def pieceR (r : List Ch) (fs : Fs) : List UInt8 × Fs × List Ch :=
  match r with
  | [] => ([], fs, [])
  | c :: t =>
    if c.r = 38 then
      (if (refR true r).2.1 = 0 then (enc c.r, fs ++ Mc.refFaults r (refR true r).2.1 (refR true r).2.2, t)
       else (enc (refR true r).1, fs ++ Mc.refFaults r (refR true r).2.1 (refR true r).2.2, r.drop (refR true r).2.1))
    else (enc c.r, fs, t)
def quoR (q : Int) : Nat → List UInt8 → Fs → List Ch → List UInt8 × Fs × List Ch
  | 0, s, fs, r => (s, fs, r)
  | n + 1, s, fs, r => if r = [] ∨ hd r = q then (s, fs, r) else quoR q n (s ++ (pieceR r fs).1) (pieceR r fs).2.1 (pieceR r fs).2.2
def odd (r : Int) : Bool := r == 34 || r == 39 || r == 60
def odd5 (r : Int) : Bool := r == 34 || r == 39 || r == 60 || r == 61 || r == 96
def oddF (r : List Ch) (fs : Fs) : Fs := match r with | [] => fs | c :: _ => if odd5 c.r = true then fs ++ [(8, c.a)] else fs
def bareR : Nat → List UInt8 → Fs → List Ch → List UInt8 × Fs × List Ch
  | 0, s, fs, r => (s, fs, r)
  | n + 1, s, fs, r => if r = [] ∨ blk (hd r) = true ∨ hd r = 62 then (s, fs, r) else bareR n (s ++ (pieceR r (oddF r fs)).1) (pieceR r (oddF r fs)).2.1 (pieceR r (oddF r fs)).2.2
def isB (c : Ch) : Bool := blk c.r
def skipB (r : List Ch) : List Ch := r.dropWhile isB
/-- Behind a quoted value: what may not stand there at once is told. -/
def between (fs : Fs) (r : List Ch) : Fs := match r with
  | [] => fs
  | c :: _ => if blk c.r = true ∨ c.r = 47 ∨ c.r = 62 then fs else fs ++ [(11, c.a)]
def valueR (N : Int) (fs : Fs) (r : List Ch) : List UInt8 × Fs × List Ch :=
  if hd (skipB r) = 34 ∨ hd (skipB r) = 39 then
    (let p := quoR (hd (skipB r)) (skipB r).length [] fs (skipB r).tail
     if p.2.2 = [] then p else (p.1, between p.2.1 p.2.2.tail, p.2.2.tail))
  else if hd (skipB r) = 62 then ([], fs ++ [(10, frN N (skipB r))], skipB r)
  else bareR (skipB r).length [] fs (skipB r)
def nmC (c : Ch) : Bool := !(blk c.r || c.r == 47 || c.r == 62)
def anC (c : Ch) : Bool := !(blk c.r || c.r == 47 || c.r == 62 || c.r == 61)
def odds (l : List Ch) : Fs := (l.filter fun c => odd c.r).map fun c => (8, c.a)
/-- An attribute's name, what it may have ahead of it, and what stands behind it. -/
def anameR (fs : Fs) (r : List Ch) : List UInt8 × Fs × List Ch := match r with
  | [] => ([], fs, [])
  | c :: t => if c.r = 61 then ([61] ++ lows (t.takeWhile anC), fs ++ [(8, c.a)] ++ odds (t.takeWhile anC), t.dropWhile anC)
    else (lows (r.takeWhile anC), fs ++ odds (r.takeWhile anC), r.dropWhile anC)
def dups (A : List At) (nm : List UInt8) (at' : Int) : Fs := (A.filter fun a => decide (a.nm = nm)).map fun _ => (9, at')
def dup (A : List At) (nm : List UInt8) : Bool := A.any fun a => decide (a.nm = nm)
/-- An attribute: its name and value, whether it counts, the faults, the rest. -/
def attrR (N : Int) (A : List At) (fs : Fs) (r : List Ch) : (List UInt8 × List UInt8) × Bool × Fs × List Ch :=
  let p := anameR fs r
  if p.2.2 = [] then ((p.1, []), false, p.2.1, []) else
  if hd (skipB p.2.2) = 61 then
    (let v := valueR N (p.2.1 ++ dups A p.1 (frN N r)) (skipB p.2.2).tail
     ((p.1, v.1), !dup A p.1, v.2.1, v.2.2))
  else ((p.1, []), !dup A p.1, p.2.1 ++ dups A p.1 (frN N r), p.2.2)
def addA (A : List At) (p : (List UInt8 × List UInt8) × Bool × Fs × List Ch) : List At := if p.2.1 = true then A ++ [⟨bs p.1.1, bs p.1.2⟩] else A
def tagL (N : Int) : Nat → List At → Bool → Fs → List Ch → Option (List At × Bool) × Fs × List Ch
  | 0, _, _, fs, r => (none, fs, r)
  | n + 1, A, sf, fs, r => match skipB r with
    | [] => (none, fs ++ [(7, N)], [])
    | c :: t =>
      if c.r = 62 then (some (A, sf), fs, t)
      else if c.r = 47 then
        (if hd t = 62 then tagL N n A true fs t
         else if t ≠ [] then tagL N n A sf (fs ++ [(12, frN N t)]) t else tagL N n A sf fs t)
      else tagL N n (addA A (attrR N A fs (c :: t))) sf (attrR N A fs (c :: t)).2.2.1 (attrR N A fs (c :: t)).2.2.2
def doneR (F : List Ch) (kind : Int) (nm : List UInt8) (sc : Sc) (A : List At) (sf : Bool) (fs : Fs) (t : List Ch) : List Pt × Sc × List Ch :=
  if kind = 2 then ([⟨2, 0, bs nm, ByteArray.empty, A, sf, Mc.frAt F, endZ F t⟩], { sc with text := 0, last := bs nm, fs := fs }, t)
  else ([⟨kind, 0, bs nm, ByteArray.empty, [], false, Mc.frAt F, endZ F t⟩], { sc with text := 0, fs := if A ≠ [] ∨ sf = true then fs ++ [(13, Mc.frAt F)] else fs }, t)
def tagE (F : List Ch) (kind : Int) (nm : List UInt8) (sc : Sc) (p : Option (List At × Bool) × Fs × List Ch) : List Pt × Sc × List Ch := match p with
  | (none, fs, r) => ([], { sc with fs := fs }, r)
  | (some (A, sf), fs, r) => doneR F kind nm sc A sf fs r
def tagR (N : Int) (F : List Ch) (kind : Int) (sc : Sc) (r : List Ch) : List Pt × Sc × List Ch :=
  tagE F kind (lows (r.takeWhile nmC)) sc (tagL N ((r.dropWhile nmC).length + 1) [] false sc.fs (r.dropWhile nmC))
def comT (F : List Ch) (s : List UInt8) (r : List Ch) : List Pt := [⟨4, 0, ByteArray.empty, bs s, [], false, Mc.frAt F, endZ F r⟩]
def isG (c : Ch) : Bool := c.r != 62
def bogusR (F : List Ch) (sc : Sc) (r : List Ch) : List Pt × Sc × List Ch :=
  (comT F (encs (r.takeWhile isG)) (r.dropWhile isG).tail, sc, (r.dropWhile isG).tail)
/-- Whether the characters at hand say a word. -/
def isW (fold : Bool) : List UInt8 → List Ch → Bool
  | [], _ => true
  | _ :: _, [] => false
  | b :: s, c :: t => decide ((if fold = true then Mc.lowL (enc c.r) else enc c.r) = [b]) && isW fold s t
def cutR (s : List UInt8) : List UInt8 :=
  if [45, 45, 33].isSuffixOf s = true then s.take (s.length - 3) else if [45, 45].isSuffixOf s = true then s.take (s.length - 2) else if [45].isSuffixOf s = true then s.take (s.length - 1) else s
def nthA (r : List Ch) (k : Nat) : Int := match r[k]? with | some c => c.a | none => 0
def comR (N : Int) (F : List Ch) (sc : Sc) : List UInt8 → List Ch → List Pt × Sc × List Ch
  | s, [] => (comT F (cutR s) [], { sc with fs := sc.fs ++ [(16, N)] }, [])
  | s, c :: t =>
    if isW false [45, 45, 62] (c :: t) = true then (comT F s ((c :: t).drop 3), sc, (c :: t).drop 3)
    else if isW false [45, 45, 33, 62] (c :: t) = true then (comT F s ((c :: t).drop 4), { sc with fs := sc.fs ++ [(15, nthA (c :: t) 3)] }, (c :: t).drop 4)
    else comR N F sc (s ++ enc c.r) t
def textR (N : Int) (F : List Ch) (sc : Sc) (r : List Ch) : List Pt × Sc × List Ch :=
  if isW false [62] r = true then (comT F [] r.tail, { sc with fs := sc.fs ++ [(15, frN N r)] }, r.tail)
  else if isW false [45, 62] r = true then (comT F [] (r.drop 2), { sc with fs := sc.fs ++ [(15, nthA r 1)] }, r.drop 2)
  else comR N F sc [] r
def docT (F : List Ch) (nm : List UInt8) (sf : Bool) (r : List Ch) : List Pt := [⟨5, 0, bs nm, ByteArray.empty, [], sf, Mc.frAt F, endZ F r⟩]
def dnC (c : Ch) : Bool := !(blk c.r || c.r == 62)
def docR (N : Int) (F : List Ch) (sc : Sc) (r : List Ch) : List Pt × Sc × List Ch :=
  let r1 := skipB r
  let f1 : Bool × Fs := if hd r1 = 62 then (true, sc.fs ++ [(17, frN N r1)]) else (false, sc.fs)
  let nm := lows (r1.takeWhile dnC)
  let r2 := skipB (r1.dropWhile dnC)
  let f2 : Bool × Fs := if r2 ≠ [] ∧ hd r2 ≠ 62 then (true, f1.2 ++ [(17, frN N r2)]) else f1
  let r3 := r2.dropWhile isG
  let f3 : Bool × Fs := if r3 = [] then (true, f2.2 ++ [(17, N)]) else f2
  (docT F nm f3.1 r3.tail, { sc with fs := f3.2 }, r3.tail)
def markupR (N : Int) (fo : Bool) (F : List Ch) (sc : Sc) (r : List Ch) : List Pt × Sc × List Ch :=
  if isW false Mc.dashW r = true then textR N F sc (r.drop 2)
  else if isW true Mc.docW r = true then docR N F sc (r.drop 7)
  else if isW false Mc.cdW r = true then (if fo = true then ([], { sc with cd := true }, r.drop 7) else bogusR F { sc with fs := sc.fs ++ [(21, frN N r)] } r)
  else bogusR F { sc with fs := sc.fs ++ [(14, frN N r)] } r
def endOpenR (N : Int) (F : List Ch) (sc : Sc) (r : List Ch) : List Pt × Sc × List Ch :=
  if ltr (hd r) = true then tagR N F 3 sc r
  else if hd r = 62 then ([], { sc with fs := sc.fs ++ [(6, frN N r)] }, r.tail)
  else if r = [] then (toldR F r, { sc with fs := sc.fs ++ [(6, N)] }, r)
  else bogusR F { sc with fs := sc.fs ++ [(14, frN N r)] } r
def openR (N : Int) (fo : Bool) (F : List Ch) (sc : Sc) (r : List Ch) : List Pt × Sc × List Ch :=
  if hd r = 33 then markupR N fo F sc r.tail
  else if hd r = 47 then endOpenR N F sc r.tail
  else if ltr (hd r) = true then tagR N F 2 sc r
  else if hd r = 63 then bogusR F { sc with fs := sc.fs ++ [(14, frN N r)] } r
  else (toldR F r, { sc with fs := sc.fs ++ [(5, frN N r)] }, r)
def isL (c : Ch) : Bool := ltr c.r
def rawR (N : Int) (F : List Ch) (sc : Sc) (r : List Ch) : List Pt × Sc × List Ch :=
  if hd r = 47 then
    (let q := r.tail.takeWhile isL
     let r2 := r.tail.dropWhile isL
     if q ≠ [] ∧ lows q = sc.last.data.toList ∧ (blk (hd r2) = true ∨ hd r2 = 47 ∨ hd r2 = 62) then tagR N F 3 sc r.tail
     else (toldR F r2, sc, r2))
  else (toldR F r, sc, r)
def cdR (sc : Sc) (r : List Ch) : List Pt × Sc × List Ch :=
  if isW false [93, 93, 62] r = true then ([], { sc with cd := false }, r.drop 3)
  else (toldR r r.tail, sc, r.tail)
/-- What comes next of characters that are not none. -/
def nextR (N : Int) (fo : Bool) (sc : Sc) (r : List Ch) : List Pt × Sc × List Ch :=
  if sc.cd = true then cdR sc r
  else if hd r = 38 ∧ (sc.text = 0 ∨ sc.text = 1) then
    (if (refR false r).2.1 = 0 then (toldR r r.tail, { sc with fs := sc.fs ++ Mc.refFaults r (refR false r).2.1 (refR false r).2.2 }, r.tail)
     else ([chT true ⟨(refR false r).1, Mc.frAt r, Mc.toAt r ((refR false r).2.1 - 1)⟩], { sc with fs := sc.fs ++ Mc.refFaults r (refR false r).2.1 (refR false r).2.2 }, r.drop (refR false r).2.1))
  else if hd r = 60 ∧ sc.text = 0 then openR N fo r sc r.tail
  else if hd r = 60 ∧ sc.text ≠ 3 then rawR N r sc r.tail
  else (toldR r r.tail, sc, r.tail)
/-- The name of the start tag that is the last token. -/
def lastSt (L : List Pt) : Option ByteArray := match L.getLast? with
  | some t => if t.k = 2 then some t.nm else none
  | none => none
def autoSc (auto : Bool) (L : List Pt) (sc : Sc) : Sc := if auto = true then (match lastSt L with | some nm => { sc with text := G7.textK nm } | none => sc) else sc
def eofP6 (N : Int) : Pt := ⟨6, 0, ByteArray.empty, ByteArray.empty, [], false, N, N⟩
/-- All that is told, to the end. -/
def refT (auto fo : Bool) (N : Int) : Nat → Sc → List Ch → List Pt × Fs
  | 0, sc, _ => ([], sc.fs)
  | n + 1, sc, r => if r = [] then ([eofP6 N], sc.fs) else
    ((nextR N fo sc r).1 ++ (refT auto fo N n (autoSc auto (nextR N fo sc r).1 (nextR N fo sc r).2.1) (nextR N fo sc r).2.2).1,
     (refT auto fo N n (autoSc auto (nextR N fo sc r).1 (nextR N fo sc r).2.1) (nextR N fo sc r).2.2).2)
/-- Behind a start tag the text is its element's. -/
def Mc.aut (b : Bool) (L : List Pt) (m : Mc) : Mc := if b = true then (match lastSt L with | some nm => m.set (G7.textK nm) | none => m) else m
/-- All that a machine tells of characters, to the end. -/
def tot (auto : Bool) (N : Int) : List Ch → Mc → List Pt × Fs
  | [], m => ((m.ended N).1, (m.ended N).2.fs)
  | c :: l, m => ((m.feed c).1 ++ (tot auto N l (Mc.aut auto (m.feed c).1 (m.feed c).2)).1, (tot auto N l (Mc.aut auto (m.feed c).1 (m.feed c).2)).2)
def pre (X : List Pt) (p : List Pt × Fs) : List Pt × Fs := (X ++ p.1, p.2)
theorem pre_pre (X Y : List Pt) (p : List Pt × Fs) : pre X (pre Y p) = pre (X ++ Y) p := by simp [pre]
theorem lastSt_none {X : List Pt} (h : ∀ t ∈ X, t.k ≠ 2) : lastSt X = none := by
  unfold lastSt
  split
  · next t ht => rw [if_neg (h t (List.mem_of_getLast? ht))]
  · rfl
theorem lastSt_app {X O : List Pt} (h : ∀ t ∈ X, t.k ≠ 2) : lastSt (X ++ O) = lastSt O := by
  cases O with
  | nil => rw [List.append_nil, lastSt_none h]; rfl
  | cons a O =>
    unfold lastSt
    rw [List.getLast?_append]
    cases h2 : (a :: O).getLast? with
    | none => simp at h2
    | some b => rfl
theorem aut_none {X : List Pt} (b : Bool) (h : ∀ t ∈ X, t.k ≠ 2) (m : Mc) : Mc.aut b X m = m := by
  unfold Mc.aut
  rw [lastSt_none h]
  simp
theorem feed_take {m : Mc} {c : Ch} (hr : m.ref = []) : m.feed c = ((m.take c).out, { m.take c with out := [] }) := by
  unfold Mc.feed Mc.step
  rw [if_neg (by simpa using hr)]
/-- A character that makes no token. -/
theorem tot_go {auto : Bool} {N : Int} {m m' : Mc} {c : Ch} {l : List Ch} (hr : m.ref = []) (h : m.take c = m') (ho : m'.out = []) : tot auto N (c :: l) m = tot auto N l m' := by
  conv => lhs; unfold tot
  rw [feed_take hr, h, ho, aut_none auto (by simp)]
  obtain ⟨⟩ := m'
  simp only at ho
  subst ho
  rfl
/-- A character that makes tokens that are no start tags. -/
theorem tot_say {auto : Bool} {N : Int} {m m' : Mc} {c : Ch} {l : List Ch} (hr : m.ref = []) (h : m.take c = m') (ho : ∀ t ∈ m'.out, t.k ≠ 2) : tot auto N (c :: l) m = pre m'.out (tot auto N l { m' with out := [] }) := by
  conv => lhs; unfold tot
  rw [feed_take hr, h, aut_none auto ho]
  rfl
/-- The same character does the same. -/
theorem tot_same {auto : Bool} {N : Int} {m k : Mc} {c : Ch} {l : List Ch} (hr : m.ref = []) (hk : k.ref = []) (h : m.take c = k.take c) : tot auto N (c :: l) m = tot auto N (c :: l) k := by
  unfold tot
  rw [feed_take hr, feed_take hk, h]
theorem tot_end {auto : Bool} {N : Int} {m : Mc} (hr : m.ref = []) : tot auto N [] m = ((m.endS N).out ++ [eofP6 N], (m.endS N).fs) := by
  unfold tot Mc.ended
  simp only [hr, ne_eq, not_true_eq_false, if_false]
  rfl
end Go.Proofs.Ytkbakbacomidbaa
