/- The machine, pure: its fields, and what each of its states does with a character and with the end. -/
import Derived.Test.YtkbakbacomidbaaProg
import Derived.Below
import Derived.BigQuiet
import Derived.BigRegion
import Derived.Deep.DeepCutAuto
import Derived.Deep.LoopGhost
import Derived.Deep.QuietTactic
import Derived.Deep.RegionHeld3
import Derived.Deep.RegionLaw
import Derived.Deep.RegionWith
import Derived.Deep.Upon
import Derived.Laws.AppendOwn
import Derived.Laws.BytesArg
import Derived.Laws.EntriesVeiled
import Derived.Laws.IdiomStrings
import Derived.Laws.StructEq
import Derived.Lib.RuneBytes
import Derived.Maps.AppendAt
import Derived.Maps.OwnSet
import Derived.OwnWalk
import Derived.ScopeJumps
import Derived.Shelf.Small.Strs
import Derived.Shelf.Strings.Builder1
import Derived.Shelf.Strings.BuilderF
import Derived.Shelf.Strings.BuilderK
import Derived.Shelf.Strings.BuilderRune
import Derived.Shelf.Strings.Prefix
import Derived.WalkArith
import Derived.WalkKit
import Derived.WalkLawsBesides
import Derived.WalkMore
import Derived.WalkSpells
import Derived.Test.YtkbakbacomidbaaZa
import Derived.Test.YtkbakbacomidbaaZb
import Derived.Test.YtkbakbacomidbaaZd
import Derived.Test.YtkbakbacomidbaaZg
import Derived.Test.YtkbakbacomidbaaZh
import Derived.StringKeys
import Derived.Shelf.Abstract
import Derived.Lib.AppendStr
import Derived.StillTailTactics
import Derived.BigCall
namespace Go.Proofs.Ytkbakbacomidbaa
open Go.RowKit
abbrev Ch := G4.Ch
abbrev At := G9.At
abbrev Tk := G9.Tk
abbrev TL := G9.TL
/-- A text of bytes. -/
def bs (l : List UInt8) : ByteArray := ⟨l.toArray⟩
theorem bs_list (l : List UInt8) : (bs l).data.toList = l := by simp [bs]
theorem bs_size (l : List UInt8) : (bs l).size = l.length := by simp [bs, ByteArray.size]
/-- A token: its fields, its attributes. -/
structure Pt where
  k : Int
  r : Int
  nm : ByteArray
  tx : ByteArray
  ats : List At
  s : Bool
  f : Int
  t : Int
def ptOf (x : TL) : Pt := ⟨x.1.k, x.1.r, x.1.nm, x.1.tx, x.2, x.1.s, x.1.f, x.1.t⟩
/-- The machine's fields; a function by its number. -/
structure Mc where
  st : Nat
  en : Nat
  text : Int
  cd : Bool
  last : ByteArray
  wait : List Ch
  ref : List Ch
  kind : Int
  frm : Int
  nm : List UInt8
  tx : List UInt8
  self : Bool
  attrs : List At
  at_ : Int
  an : List UInt8
  av : List UInt8
  cnt : Bool
  out : List Pt
  fs : List (Int × Int)
/-- The bytes of a character. -/
def enc (r : Int) : List UInt8 := Lib.encodeRune (G9.chr r)
def lowr (r : Int) : Int := if 65 ≤ r ∧ r ≤ 90 then r + 32 else r
def encs (l : List Ch) : List UInt8 := l.flatMap fun c => enc c.r
def ltr (r : Int) : Bool := decide ((97 ≤ r ∧ r ≤ 122) ∨ (65 ≤ r ∧ r ≤ 90))
abbrev blk (r : Int) : Bool := G7.blk r
def chT (s : Bool) (c : Ch) : Pt := ⟨1, c.r, ByteArray.empty, ByteArray.empty, [], s, c.a, c.z⟩
namespace Mc
def new : Mc := ⟨46, 47, 0, false, ByteArray.empty, [], [], 0, 0, [], [], false, [], 0, [], [], false, [], []⟩
def tell (m : Mc) (t : Pt) : Mc := { m with out := m.out ++ [t] }
def tellChar (m : Mc) (c : Ch) : Mc := m.tell (chT false c)
def fault (m : Mc) (code at' : Int) : Mc := { m with fs := m.fs ++ [(code, at')] }
def hold (m : Mc) (c : Ch) : Mc := { m with wait := m.wait ++ [c] }
def release (m : Mc) : Mc := { m with out := m.out ++ m.wait.map (chT false), wait := [] }
def noMade (m : Mc) : Mc := { m with kind := 0, frm := 0, nm := [], tx := [], self := false, attrs := [], at_ := 0, an := [], av := [], cnt := false }
def toData (m : Mc) : Mc := { m.noMade with wait := [], st := 46, en := 47 }
def addName (m : Mc) (r : Int) : Mc := { m with nm := m.nm ++ enc (lowr r) }
def addText (m : Mc) (r : Int) : Mc := { m with tx := m.tx ++ enc r }
def addAttr (m : Mc) (r : Int) : Mc := { m with an := m.an ++ enc (lowr r) }
def addValue (m : Mc) (r : Int) : Mc := { m with av := m.av ++ enc r }
def addDashes (m : Mc) (l : List UInt8) : Mc := { m with tx := m.tx ++ l }
def keep (m : Mc) : Mc := { m with attrs := m.attrs ++ (if m.cnt then [⟨bs m.an, bs m.av⟩] else []), at_ := 0, an := [], av := [], cnt := false }
def begA (m : Mc) (at' : Int) : Mc := { m.keep with at_ := at' }
def has (m : Mc) : Bool := m.attrs.any fun a => decide (a.nm = m.an)
def endName (m : Mc) : Mc := if m.has then m.fault 9 m.at_ else { m with cnt := true }
def w0 (m : Mc) : Int := match m.wait with | [] => 0 | c :: _ => c.a
def w1 (m : Mc) : Int := match m.wait with | _ :: c :: _ => c.a | _ => 0
def beg (m : Mc) (kind : Int) (en : Nat) : Mc := { m.noMade with kind := kind, frm := m.w0, wait := [], en := en }
def tagPt (m : Mc) (z' : Int) : Pt := ⟨m.kind, 0, bs m.nm, ByteArray.empty, if m.kind = 2 then m.attrs else [], if m.kind = 2 then m.self else false, m.frm, z'⟩
def tellTag (m : Mc) (c : Ch) : Mc :=
  let k := m.keep
  let b := if k.kind = 2 then { k with last := bs k.nm } else if k.attrs ≠ [] ∨ k.self = true then k.fault 13 k.frm else k
  ({ b.tell (k.tagPt c.z) with text := 0 }).toData
def madePt (m : Mc) (z' : Int) : Pt := ⟨m.kind, 0, bs m.nm, bs m.tx, [], m.self, m.frm, z'⟩
def tellMade (m : Mc) (z' : Int) : Mc := (m.tell (m.madePt z')).toData
def data (m : Mc) (c : Ch) : Mc :=
  if c.r = 38 ∧ (m.text = 0 ∨ m.text = 1) then { m with ref := [c] }
  else if c.r = 60 ∧ m.text = 0 then { m.hold c with st := 71, en := 72 }
  else if c.r = 60 ∧ m.text ≠ 3 then { m.hold c with st := 73 }
  else m.tellChar c
def dataAgain (m : Mc) (c : Ch) : Mc := m.release.toData.data c
def tagName (m : Mc) (c : Ch) : Mc :=
  if blk c.r = true then { m with st := 151 } else if c.r = 47 then { m with st := 152 } else if c.r = 62 then m.tellTag c else m.addName c.r
def inBogus (m : Mc) (c : Ch) : Mc := if c.r = 62 then m.tellMade c.z else m.addText c.r
/-- A comment is begun, and characters are taken in it. -/
def bogus (m : Mc) (l : List Ch) : Mc := l.foldl inBogus { m.beg 4 179 with st := 180 }
def bogusAgain (m : Mc) (c : Ch) : Mc := (m.fault 14 c.a).bogus [c]
def tagOpen (m : Mc) (c : Ch) : Mc :=
  if c.r = 33 then { m with st := 100, en := 101 }
  else if c.r = 47 then { m.hold c with st := 102, en := 103 }
  else if ltr c.r = true then ({ m.beg 2 106 with st := 108 }).tagName c
  else if c.r = 63 then m.bogusAgain c
  else (m.fault 5 c.a).dataAgain c
def endOpen (m : Mc) (c : Ch) : Mc :=
  if ltr c.r = true then ({ m.beg 3 106 with st := 108 }).tagName c
  else if c.r = 62 then (m.fault 6 c.a).toData
  else m.bogusAgain c
def inName (m : Mc) (c : Ch) (after : Mc → Ch → Mc) : Mc :=
  if blk c.r = true ∨ c.r = 47 ∨ c.r = 62 then after { m.endName with st := 181 } c
  else if c.r = 61 then { m.endName with st := 209 }
  else if c.r = 34 ∨ c.r = 39 ∨ c.r = 60 then (m.fault 8 c.a).addAttr c.r
  else m.addAttr c.r
/-- Behind a name, where what is no more of it was met: no name is begun anew there. -/
def afterEnd (m : Mc) (c : Ch) : Mc :=
  if blk c.r = true then m else if c.r = 47 then { m with st := 152 } else if c.r = 61 then { m with st := 209 } else if c.r = 62 then m.tellTag c else m
def name (m : Mc) (c : Ch) : Mc := m.inName c afterEnd
def afterName (m : Mc) (c : Ch) : Mc :=
  if blk c.r = true then m else if c.r = 47 then { m with st := 152 } else if c.r = 61 then { m with st := 209 } else if c.r = 62 then m.tellTag c
  else ({ m.begA c.a with st := 184 }).name c
def beforeName (m : Mc) (c : Ch) : Mc :=
  if blk c.r = true then m else if c.r = 47 ∨ c.r = 62 then ({ m with st := 181 }).afterName c
  else if c.r = 61 then { (((m.fault 8 c.a).begA c.a).addAttr c.r) with st := 184 }
  else ({ m.begA c.a with st := 184 }).name c
def bare (m : Mc) (c : Ch) : Mc :=
  if blk c.r = true then { m with st := 151 } else if c.r = 38 then { m with ref := [c] } else if c.r = 62 then m.tellTag c
  else if c.r = 34 ∨ c.r = 39 ∨ c.r = 60 ∨ c.r = 61 ∨ c.r = 96 then (m.fault 8 c.a).addValue c.r else m.addValue c.r
def beforeValue (m : Mc) (c : Ch) : Mc :=
  if blk c.r = true then m else if c.r = 34 then { m with st := 220 } else if c.r = 39 then { m with st := 221 }
  else if c.r = 62 then (m.fault 10 c.a).tellTag c else ({ m with st := 222 }).bare c
def quoted (m : Mc) (c : Ch) (sign : Int) : Mc := if c.r = sign then { m with st := 226 } else if c.r = 38 then { m with ref := [c] } else m.addValue c.r
def afterValue (m : Mc) (c : Ch) : Mc :=
  if blk c.r = true then { m with st := 151 } else if c.r = 47 then { m with st := 152 } else if c.r = 62 then m.tellTag c
  else ({ m.fault 11 c.a with st := 151 }).beforeName c
def slash (m : Mc) (c : Ch) : Mc := if c.r = 62 then ({ m with self := true }).tellTag c else ({ m.fault 12 c.a with st := 151 }).beforeName c
def comment (m : Mc) (c : Ch) : Mc := if c.r = 45 then { m with st := 205 } else m.addText c.r
def abrupt (m : Mc) (c : Ch) : Mc := (m.fault 15 c.a).tellMade c.z
def commentAgain (m : Mc) (l : List UInt8) (c : Ch) : Mc := ({ m.addDashes l with st := 175 }).comment c
def comStart (m : Mc) (c : Ch) : Mc := if c.r = 45 then { m with st := 173 } else if c.r = 62 then m.abrupt c else ({ m with st := 175 }).comment c
def comStartDash (m : Mc) (c : Ch) : Mc := if c.r = 45 then { m with st := 203 } else if c.r = 62 then m.abrupt c else m.commentAgain [45] c
def comDash (m : Mc) (c : Ch) : Mc := if c.r = 45 then { m with st := 203 } else m.commentAgain [45] c
def comEnd (m : Mc) (c : Ch) : Mc := if c.r = 62 then m.tellMade c.z else if c.r = 33 then { m with st := 217 } else if c.r = 45 then m.addDashes [45] else m.commentAgain [45, 45] c
def comBang (m : Mc) (c : Ch) : Mc := if c.r = 45 then { m.addDashes [45, 45, 33] with st := 205 } else if c.r = 62 then m.abrupt c else m.commentAgain [45, 45, 33] c
def wrongDoc (m : Mc) (at' : Int) : Mc := { m.fault 17 at' with self := true }
def docName (m : Mc) (c : Ch) : Mc := if blk c.r = true then { m with st := 207 } else if c.r = 62 then m.tellMade c.z else m.addName c.r
def beforeDoc (m : Mc) (c : Ch) : Mc := if blk c.r = true then m else if c.r = 62 then (m.wrongDoc c.a).tellMade c.z else ({ m with st := 177 }).docName c
def afterDoc (m : Mc) (c : Ch) : Mc := if blk c.r = true then m else if c.r = 62 then m.tellMade c.z else { m.wrongDoc c.a with st := 219 }
def bogusDoc (m : Mc) (c : Ch) : Mc := if c.r = 62 then m.tellMade c.z else m
def dashW : List UInt8 := [45, 45]
def docW : List UInt8 := [100, 111, 99, 116, 121, 112, 101]
def cdW : List UInt8 := [91, 67, 68, 65, 84, 65, 91]
def lowL (l : List UInt8) : List UInt8 := (G7.lowP (bs l)).data.toList
def begun (l : List UInt8) : Bool := l.isPrefixOf dashW || (lowL l).isPrefixOf docW || l.isPrefixOf cdW
def markup (m : Mc) (c : Ch) : Mc :=
  let h := m.hold c
  let l := encs h.wait.tail
  if l = dashW then { h.beg 4 140 with st := 141 }
  else if lowL l = docW then { h.beg 5 143 with st := 144 }
  else if l = cdW ∧ h.cd = true then { h with wait := [], st := 145, en := 47 }
  else if l = cdW then (h.fault 21 h.w1).bogus h.wait.tail
  else if begun l = false then (h.fault 14 h.w1).bogus h.wait.tail
  else h
def rawOpen (m : Mc) (c : Ch) : Mc := if c.r = 47 then { m.hold c with st := 111 } else m.dataAgain c
def rawName (m : Mc) (c : Ch) : Mc :=
  if ltr c.r = true then m.hold c
  else if (blk c.r = true ∨ c.r = 47 ∨ c.r = 62) ∧ lowL (encs (m.wait.drop 2)) = m.last.data.toList then ({ m.beg 3 106 with nm := m.last.data.toList, st := 108 }).tagName c
  else m.dataAgain c
def rawSlash (m : Mc) (c : Ch) : Mc := if ltr c.r = true then ({ m with st := 155 }).rawName c else m.dataAgain c
def cdata (m : Mc) (c : Ch) : Mc := if c.r = 93 then { m.hold c with st := 178 } else m.tellChar c
def cdataOne (m : Mc) (c : Ch) : Mc := if c.r = 93 then { m.hold c with st := 208 } else ({ m.release with st := 145 }).cdata c
def cdataTwo (m : Mc) (c : Ch) : Mc :=
  if c.r = 93 then (match m.wait with
    | a :: b :: t => { m.tellChar a with wait := b :: c :: t }
    | _ => m)
  else if c.r = 62 then m.toData
  else ({ m.release with st := 145 }).cdata c
/-- What a character does in the state. -/
def take (m : Mc) (c : Ch) : Mc :=
  match m.st with
  | 46 => m.data c
  | 71 => m.tagOpen c
  | 102 => m.endOpen c
  | 108 => m.tagName c
  | 151 => m.beforeName c
  | 184 => m.name c
  | 181 => m.afterName c
  | 209 => m.beforeValue c
  | 220 => m.quoted c 34
  | 221 => m.quoted c 39
  | 222 => m.bare c
  | 226 => m.afterValue c
  | 152 => m.slash c
  | 180 => m.inBogus c
  | 100 => m.markup c
  | 141 => m.comStart c
  | 173 => m.comStartDash c
  | 175 => m.comment c
  | 205 => m.comDash c
  | 203 => m.comEnd c
  | 217 => m.comBang c
  | 144 => m.beforeDoc c
  | 177 => m.docName c
  | 207 => m.afterDoc c
  | 219 => m.bogusDoc c
  | 73 => m.rawOpen c
  | 111 => m.rawSlash c
  | 155 => m.rawName c
  | 145 => m.cdata c
  | 178 => m.cdataOne c
  | 208 => m.cdataTwo c
  | _ => m
def endMarkup (m : Mc) (at' : Int) : Mc := ((m.fault 14 (if m.wait.tail = [] then at' else m.w1)).bogus m.wait.tail).tellMade at'
/-- What the end does in the state. -/
def endS (m : Mc) (at' : Int) : Mc :=
  match m.en with
  | 47 => m.release
  | 72 => (m.fault 5 at').release
  | 103 => (m.fault 6 at').release
  | 106 => m.fault 7 at'
  | 179 => m.tellMade at'
  | 101 => m.endMarkup at'
  | 140 => (m.fault 16 at').tellMade at'
  | 143 => (m.wrongDoc at').tellMade at'
  | _ => m
/-- A character that a reference gave, or its & as it is. -/
def put (m : Mc) (c : Ch) (made : Bool) : Mc := if m.kind ≠ 0 then m.addValue c.r else m.tell (chT made c)
def toAt (l : List Ch) (k : Nat) : Int := match l[k]? with | some c => c.z | none => 0
def frAt (l : List Ch) : Int := match l with | [] => 0 | c :: _ => c.a
def refFaults (l : List Ch) (size : Nat) (codes : List Int) : List (Int × Int) := codes.map fun k => (k, if k = 18 then toAt l (size - 1) else frAt l)
def oneR (m : Mc) : Int × Nat × List Int := G6.refP G6.refs (decide (m.kind ≠ 0)) (encs m.ref)
/-- What is made of an open reference, as if no more came. -/
def resolve (m : Mc) : Mc :=
  let l := m.ref
  let o := m.oneR
  let a := { m with ref := [], fs := m.fs ++ refFaults l o.2.1 o.2.2 }
  let b := if o.2.1 = 0 then (match l with | [] => a | c :: _ => a.put c false) else a.put ⟨o.1, frAt l, toAt l (o.2.1 - 1)⟩ true
  (l.drop (if o.2.1 = 0 then 1 else o.2.1)).foldl take b
def lastR (l : List Ch) : Int := match l.getLast? with | some c => c.r | none => 0
def sureNum (l : List Ch) : Bool :=
  match l with
  | [] => false
  | f :: _ =>
    let r : Int := lastR l
    if 48 ≤ r ∧ r ≤ 57 then false
    else if ¬ (f.r = 120 ∨ f.r = 88) then true
    else decide (1 < l.length) && !decide ((97 ≤ r ∧ r ≤ 102) ∨ (65 ≤ r ∧ r ≤ 70))
/-- Whether what comes can change nothing of the reference. -/
def sure (l : List Ch) : Bool :=
  match l with
  | _ :: b :: t =>
    if b.r = 35 then sureNum t
    else if lastR l = 59 then true
    else !G6.goes G6.refs (encs (b :: t))
  | _ => false
def refer (m : Mc) (c : Ch) : Mc := let k := { m with ref := m.ref ++ [c] }; if sure k.ref = true then k.resolve else k
def step (m : Mc) (c : Ch) : Mc := if m.ref ≠ [] then m.refer c else m.take c
def feed (m : Mc) (c : Ch) : List Pt × Mc := ((m.step c).out, { m.step c with out := [] })
def ended (m : Mc) (at' : Int) : List Pt × Mc :=
  let r := if m.ref ≠ [] then m.resolve else m
  let e := r.endS at'
  (e.out ++ [⟨6, 0, ByteArray.empty, ByteArray.empty, [], false, at', at'⟩], { new with fs := e.fs })
end Mc
end Go.Proofs.Ytkbakbacomidbaa
namespace Go.Proofs.Ytkbakbacomidbaa
open Go.RowKit Go.Maps
/-- What lies in S is as it was. -/
structure Keep (S : Nat → Prop) (w w' : World) : Prop where
  os : w'.os = w.os
  tape : w'.tape = w.tape
  output : w'.output = w.output
  size : w.heap.size ≤ w'.heap.size
  block : ∀ k, S k → k < w.heap.size → w'.heap[k]? = w.heap[k]?
theorem Keep.refl (S : Nat → Prop) (w : World) : Keep S w w := ⟨rfl, rfl, rfl, Nat.le_refl _, fun _ _ _ => rfl⟩
theorem Keep.trans {S : Nat → Prop} {a b c : World} (h : Keep S a b) (k : Keep S b c) : Keep S a c :=
  ⟨k.os.trans h.os, k.tape.trans h.tape, k.output.trans h.output, Nat.le_trans h.size k.size, fun i h1 h2 => (k.block i h1 (Nat.lt_of_lt_of_le h2 h.size)).trans (h.block i h1 h2)⟩
theorem Keep.old {S : Nat → Prop} {w w' : World} (h : Below w.heap.size w w') : Keep S w w' := ⟨h.os, h.tape, h.output, h.size, fun k _ hk => h.block k hk⟩
theorem Keep.sub {S U : Nat → Prop} {w w' : World} (h : Keep S w w') (k : ∀ i, U i → S i) : Keep U w w' := ⟨h.os, h.tape, h.output, h.size, fun i h1 h2 => h.block i (k i h1) h2⟩
theorem Keep.setCell {S : Nat → Prop} {w w' : World} (h : Keep S w w') {p : Addr} (hp : ¬ S p.block) (u : Value) : Keep S w (w'.setCell p u) :=
  h.trans ⟨rfl, rfl, rfl, by simp [World.setCell], fun k hS _ => Below.heap_setCell _ _ _ _ (fun e => hp (e ▸ hS))⟩
theorem Keep.grown {S : Nat → Prop} {w w' : World} {o : Option Nat} (h : w.grownBy w' o) (ho : ∀ g, o = some g → ¬ S g) : Keep S w w' :=
  ⟨h.os, h.tape, h.output, h.size, fun k hS hk => h.block k hk (fun e => ho k e.symm hS)⟩
theorem Keep.below {S : Nat → Prop} {w w' : World} {B : Nat} (h : Keep S w w') (hS : ∀ k, k < B → S k) (hB : B ≤ w.heap.size) : Below B w w' :=
  ⟨h.os, h.tape, h.output, h.size, fun k hk => h.block k (hS k hk) (by omega)⟩
/-- P stands, and stands as long as S does. -/
def Stays (S : Nat → Prop) (w : World) (P : World → Prop) : Prop := ∀ w', Keep S w w' → P w'
theorem Stays.now {S : Nat → Prop} {w : World} {P : World → Prop} (h : Stays S w P) : P w := h w (Keep.refl _ _)
theorem Stays.keep {S : Nat → Prop} {w w' : World} {P : World → Prop} (h : Stays S w P) (k : Keep S w w') : Stays S w' P := fun w2 h2 => h w2 (k.trans h2)
theorem Stays.mono {S U : Nat → Prop} {w : World} {P : World → Prop} (h : Stays S w P) (k : ∀ i, S i → U i) : Stays U w P := fun w2 h2 => h w2 (h2.sub k)
theorem Stays.imp {S : Nat → Prop} {w : World} {P Q : World → Prop} (h : Stays S w P) (k : ∀ w', P w' → Q w') : Stays S w Q := fun w2 h2 => k w2 (h w2 h2)
/-- A row of one's own; where q says so its block may bear the mark of bytes that were a text's. -/
def OwnQ (w : World) (q : Bool) (e s : Nat) (v : Value) (n : Nat) (xs : List Value) : Prop :=
  xs.length = n * s ∧ ((v = .slice none 0 0 ∧ n = 0) ∨ ∃ (g cap : Nat) (cur : Array Value) (z : Nat × Nat), v = .slice (some ⟨g, 0, none⟩) n cap ∧ w.heap[g]? = some (.cells cur e z) ∧ (z = (0, 0) ∨ (q = true ∧ cur.size ≤ z.1)) ∧ n ≤ cap ∧ cap ≤ maxLen ∧ cur.size = cap * s ∧ cur.toList.take (n * s) = xs)
theorem OwnQ.of {w : World} {B e s n : Nat} {v : Value} {xs : List Value} {q : Bool} (h : w.ownsRow B e s v n xs) : OwnQ w q e s v n xs := by
  refine ⟨h.1, ?_⟩
  rcases h.2 with hn | ⟨g, cap, cur, rfl, _, hg, rest⟩
  · exact .inl hn
  · exact .inr ⟨g, cap, cur, _, rfl, hg, .inl rfl, rest⟩
theorem OwnQ.row {w : World} {e s n : Nat} {v : Value} {xs : List Value} (h : OwnQ w false e s v n xs) : w.ownsRow 0 e s v n xs := by
  refine ⟨h.1, ?_⟩
  rcases h.2 with hn | ⟨g, cap, cur, z, rfl, hg, hz, rest⟩
  · exact .inl hn
  · rcases hz with rfl | ⟨hz, _⟩
    · exact .inr ⟨g, cap, cur, rfl, Nat.zero_le _, hg, rest⟩
    · cases hz
theorem own_mv {w w' : World} {q : Bool} {e s n : Nat} {v : Value} {xs : List Value} (h : OwnQ w q e s v n xs) (k : ∀ g, v.ownBlock = some g → w'.heap[g]? = w.heap[g]?) : OwnQ w' q e s v n xs := by
  refine ⟨h.1, ?_⟩
  rcases h.2 with hn | ⟨g, cap, cur, z, rfl, hg, rest⟩
  · exact .inl hn
  · exact .inr ⟨g, cap, cur, z, rfl, (k g rfl).trans hg, rest⟩
theorem own_blk {w : World} {q : Bool} {e s n : Nat} {v : Value} {xs : List Value} (h : OwnQ w q e s v n xs) {g : Nat} (hg : v.ownBlock = some g) : g < w.heap.size ∧ ∃ cur z, w.heap[g]? = some (.cells cur e z) := by
  rcases h.2 with ⟨rfl, _⟩ | ⟨g', cap, cur, z, rfl, hgb, _⟩
  · simp [Value.ownBlock] at hg
  · simp [Value.ownBlock] at hg; subst hg
    exact ⟨(Array.getElem?_eq_some_iff.1 hgb).1, cur, z, hgb⟩
theorem own_form {w : World} {q : Bool} {e s n : Nat} {v : Value} {xs : List Value} (h : OwnQ w q e s v n xs) : ∃ ao c, v = .slice ao n c ∧ n ≤ c ∧ c ≤ maxLen := by
  rcases h.2 with ⟨rfl, rfl⟩ | ⟨g, cap, cur, z, rfl, hgb, _, h1, h2, _⟩
  · exact ⟨none, 0, rfl, Nat.le_refl _, Nat.zero_le _⟩
  · exact ⟨_, _, rfl, h1, h2⟩
/-- A row: its slice, its elements' type and cells, how many they are, what they hold. -/
structure Rw where
  v : Value
  e : Nat
  s : Nat
  n : Nat
  xs : List Value
  q : Bool
abbrev Rw.own (w : World) (r : Rw) : Prop := OwnQ w r.q r.e r.s r.v r.n r.xs
/-- What the machine's slices, its map and its trie are. -/
structure Vs where
  w : Value
  r : Value
  p : Value
  n : Value
  t : Value
  a : Value
  m : Value
  an : Value
  av : Value
  o : Value
  f : Value
def fn (n : Nat) : Value := .func (.func n) #[] #[]
def Mc.cells (m : Mc) (v : Vs) : Array Value :=
  #[fn m.st, fn m.en, .int .i64 m.text, .bool m.cd, .string m.last, v.w, v.r, v.p, .int .i64 m.kind, .int .i64 m.frm, v.n, v.t, .bool m.self, v.a, v.m, .int .i64 m.at_, v.an, v.av, .bool m.cnt, v.o, v.f]
def gcells (f : Int × Int) : List Value := G4.gcells f
def tkCells (x : TL) : List Value := x.1.arr.toList
abbrev rwC (v : Value) (l : List Ch) : Rw := ⟨v, 62, 3, l.length, l.flatMap G4.Ch.cells, false⟩
abbrev rwA (v : Value) (l : List At) : Rw := ⟨v, 96, 2, l.length, l.flatMap G9.At.cells, false⟩
abbrev rwT (v : Value) (l : List TL) : Rw := ⟨v, 39, 8, l.length, l.flatMap tkCells, false⟩
abbrev rwF (v : Value) (l : List (Int × Int)) : Rw := ⟨v, 64, 2, l.length, l.flatMap gcells, false⟩
/-- No blocks of others. -/
abbrev NoZ : Nat → Prop := fun _ => False
/-- A token's attributes lie there, in a block of attributes that is none of Z's. -/
def TkS (Z : Nat → Prop) (w : World) (T : Tk) (L : List At) : Prop := G9.TkOk w T L ∧ (L ≠ [] → ∃ b cur z, T.ao = some ⟨b, 0, none⟩ ∧ w.heap[b]? = some (.cells cur 96 z) ∧ ¬ Z b)
/-- How much there is. -/
def Mc.tot (m : Mc) : Nat := m.wait.length + m.ref.length + m.nm.length + m.tx.length + m.attrs.length + m.an.length + m.av.length + m.out.length + m.fs.length
end Go.Proofs.Ytkbakbacomidbaa
namespace Go.Proofs.Ytkbakbacomidbaa
open Go.RowKit
/-- 'append' where its run is known by an equation, as one step of a region that draws. -/
theorem step_append_eq {P : Program} {ops : Array Oper} {o : Oper} {a : Act} {w : World} {K : Act → World → Prop} {Q : Exit → Act → World → Prop} {E : Prop}
    (hg : o.guard = none) (d x : Operand) (dT sT : TypeId) (hop : o.op = Op.call { callee := Callee.builtin Builtin.append, args := #[d, x], argTypes := #[dT, sT] })
    (v u : Value) (hd : a.eval d = v) (hx : a.eval x = u) {v' : Value} {w' : World} (hr : (Builtin.append_ #[dT, sT] o.type #[v, u]).run P w = .ok v' w') (hK : K (a.put o.dst v') w') :
    if Region.wanted o (yielded ops a.tmps) = true then Oper.wp P o a w K Q else E := by
  have hw : Region.wanted o (yielded ops a.tmps) = true := by simp [Region.wanted, hg]
  rw [if_pos hw]
  unfold Oper.wp
  simp [execOp, hop, resolve, invoke, builtin, hd, hx, hr, Result.andThen]
  exact hK
/-- 'append' where its run is known by an equation, in a region that draws no order. -/
theorem list_append_eq {P : Program} {ops : Array Oper} {rest : List Oper} {o : Oper} {a : Act} {w : World} {Q : Exit → Act → World → Prop}
    (hg : o.guard = none) (d x : Operand) (dT sT : TypeId) (hop : o.op = Op.call { callee := Callee.builtin Builtin.append, args := #[d, x], argTypes := #[dT, sT] })
    (v u : Value) (hd : a.eval d = v) (hx : a.eval x = u) {v' : Value} {w' : World} (hr : (Builtin.append_ #[dT, sT] o.type #[v, u]).run P w = .ok v' w') (hK : wpList P ops Q rest (a.put o.dst v') w') :
    wpList P ops Q (o :: rest) a w :=
  wpList_plain hg fun K hK2 => by
    unfold Oper.wp
    simp [execOp, hop, resolve, invoke, builtin, hd, hx, hr, Result.andThen]
    exact hK2 _ _ hK
theorem info58 : (Try.prog.info? 64).map (fun i => (i.zero, i.size, i.bytes)) = some (some (.agg #[.int .i64 0, .int .i64 0]), 2, 16) := by kernel_rfl
theorem info45 : (Try.prog.info? 39).map (fun i => (i.zero, i.size, i.bytes)) = some (some (.agg #[.int .i64 0, .int .i64 0, .string ByteArray.empty, .string ByteArray.empty, .slice none 0 0, .bool false, .int .i64 0, .int .i64 0]), 8, 96) := by kernel_rfl
theorem info49 : (Try.prog.info? 96).map (fun i => (i.zero, i.size, i.bytes)) = some (some (.agg #[.string ByteArray.empty, .string ByteArray.empty]), 2, 32) := by kernel_rfl
theorem info5 : (Try.prog.info? 5).map (fun i => (i.zero, i.size, i.bytes)) = some (some (.int .u8 0), 1, 1) := by kernel_rfl
/-- Cells of a block of which nothing that there is may not be written, one after the other. -/
theorem run_store_tag (P : Program) (g o : Nat) (t : TypeId) (z : Nat × Nat) : ∀ (vs : List Value) (i : Nat) (cur : Array Value) (w : World), w.heap[g]? = some (.cells cur t z) → cur.size ≤ z.1 → o + i + vs.length ≤ cur.size → (∀ v ∈ vs, v.oneCell' = true) →
    (storeCells ⟨g, o, none⟩ vs i).run P w = .ok () (w.setRow g (cur.toList.take (o + i) ++ vs ++ cur.toList.drop (o + i + vs.length)).toArray)
  | [], i, cur, w, hg, _, _, _ => by
    simp only [storeCells, List.append_nil, List.length_nil, Nat.add_zero, List.take_append_drop, Array.toArray_toList]
    rw [setRow_self w g cur t z hg]
    rfl
  | v :: rest, i, cur, w, hg, hz, hl, h1 => by
    have hi : o + i < cur.size := by simp at hl; omega
    have hadd : (⟨g, o, none⟩ : Addr).add i = ⟨g, o + i, none⟩ := by unfold Addr.add; split <;> simp_all
    have hcell : w.cell? ⟨g, o + i, none⟩ = some cur[o + i] := by simp [World.cell?, hg, hi]
    have hfro : w.frozen? ⟨g, o + i, none⟩ = false := by
      simp only [World.frozen?, hg, Bool.and_eq_false_iff, decide_eq_false_iff_not]
      left
      omega
    have hst : (store ((⟨g, o, none⟩ : Addr).add i) v).run P w = .ok () (w.setRow g (cur.setIfInBounds (o + i) v)) := by
      rw [hadd, run_store P w _ v _ (h1 v (by simp)), hcell]
      simp [hfro, setCell_eq_setRow w g (o + i) cur t z v hg]
    have ih := run_store_tag P g o t z rest (i + 1) (cur.setIfInBounds (o + i) v) (w.setRow g (cur.setIfInBounds (o + i) v)) (setRow_heap w g cur _ t _ hg) (by simpa using hz) (by simp at hl ⊢; omega) (fun x hx => h1 x (by simp [hx]))
    simp only [storeCells, Sem.run_bind, hst, Result.andThen_ok, ih, setRow_setRow]
    congr 3
    have e := list_seg_step cur.toList (o + i) v rest (by simp at hl ⊢; omega)
    simpa [Array.toList_setIfInBounds, Nat.add_assoc] using e
theorem run_room_tag {P : Program} (w : World) (t ty e : TypeId) (i : TypeInfo) (ht : P.underlying t = some (.slice e)) (hi : P.info? e = some i) (g sLen sCap : Nat) (cur : Array Value) (z : Nat × Nat) (hg : w.heap[g]? = some (.cells cur e z)) (hz : cur.size ≤ z.1)
    (a : Addr) (m c : Nat) (news : List Value) (hl : news.length = m * i.size) (hnews : ∀ j u, news[j]? = some u → w.cell? (a.add j) = some u) (h1 : ∀ u ∈ news, u.oneCell' = true) (hroom : sLen + m ≤ sCap) (hfit : sLen * i.size + news.length ≤ cur.size) :
    (Builtin.append_ #[t, t] ty #[.slice (some ⟨g, 0, none⟩) sLen sCap, .slice (some a) m c]).run P w = .ok (.slice (some ⟨g, 0, none⟩) (sLen + m) sCap) (w.setRow g (cur.toList.take (sLen * i.size) ++ news ++ cur.toList.drop (sLen * i.size + news.length)).toArray) ∧
    (w.setRow g (cur.toList.take (sLen * i.size) ++ news ++ cur.toList.drop (sLen * i.size + news.length)).toArray).heap[g]? = some (.cells (cur.toList.take (sLen * i.size) ++ news ++ cur.toList.drop (sLen * i.size + news.length)).toArray e z) := by
  have hf := run_firstCells_some (P := P) w i.size m a m c news hl hnews
  have hst := run_store_tag P g (sLen * i.size) e z news 0 cur w hg hz (by simpa using hfit) h1
  simp only [Nat.add_zero] at hst
  exact ⟨by simp [Builtin.append_, run_underlying ht, sizeOf, typeInfo, hi, Builtin.lenOf, hroom, hf, Addr.add_lit, hst], setRow_heap w g cur _ e _ hg⟩
/-- Elements that lie somewhere, behind a row of one's own. -/
theorem row_app {t e size bytes : Nat} {z0 : Value} (ht : Try.prog.underlying t = some (.slice e)) (hinfo : (Try.prog.info? e).map (fun i => (i.zero, i.size, i.bytes)) = some (some z0, size, bytes)) (hzs : z0.cells.size = size) (hsz : 0 < size) (hb : bytes ≤ 96)
    {W : World} {v : Value} {n : Nat} {xs : List Value} {q : Bool} (hown : OwnQ W q e size v n xs) (b off k c : Nat) (news : List Value) (hl : news.length = k * size) (hc : ∀ j u, news[j]? = some u → W.cell? ⟨b, off + j, none⟩ = some u) (h1 : ∀ u ∈ news, u.oneCell' = true) (hn : n + k ≤ 1400000000000) :
    ∃ v' W', (Builtin.append_ #[t, t] t #[v, .slice (some ⟨b, off, none⟩) k c]).run Try.prog W = .ok v' W' ∧ OwnQ W' q e size v' (n + k) (xs ++ news) ∧ W.grownBy W' v.ownBlock ∧ (v'.ownBlock = v.ownBlock ∨ v'.ownBlock = some W.heap.size) := by
  by_cases hq : W.ownsRow 0 e size v n xs
  · obtain ⟨i0, hi0, hz0, hzs0, hzb⟩ := info_parts hinfo
    obtain ⟨v', W', hrun, ho, hg, _, hat⟩ := run_append_own_at (P := Try.prog) W 0 t t e i0 _ size bytes ht hi0 hz0 hzs0 hzb hzs hsz v n xs hq ⟨b, off, none⟩ k c news hl (fun j u hj => by rw [Addr.add_lit]; exact hc j u hj) h1 (by unfold maxLen; omega) (by have := Nat.mul_le_mul hn hb; omega) (Nat.zero_le _)
    exact ⟨v', W', hrun, .of ho, hg, hat⟩
  · obtain ⟨i0, hi0, hz0, hzs0, hzb⟩ := info_parts hinfo
    rcases hown.2 with ⟨rfl, hn0⟩ | ⟨g, cap, cur, z, rfl, hg, hz, hnc, hcm, hcs, htake⟩
    · exact absurd ⟨hown.1, .inl ⟨rfl, hn0⟩⟩ hq
    rcases hz with rfl | ⟨hqt, hz⟩
    · exact absurd ⟨hown.1, .inr ⟨g, cap, cur, rfl, Nat.zero_le _, hg, hnc, hcm, hcs, htake⟩⟩ hq
    by_cases hroom : n + k ≤ cap
    · have hfit : n * size + news.length ≤ cur.size := by rw [hl, hcs, ← Nat.add_mul]; exact Nat.mul_le_mul_right _ hroom
      obtain ⟨hr, hW⟩ := run_room_tag (P := Try.prog) W t t e i0 ht hi0 g n cap cur z hg hz ⟨b, off, none⟩ k c news (by rw [hzs0]; exact hl) (fun j u hj => by rw [Addr.add_lit]; exact hc j u hj) h1 hroom (by rw [hzs0]; exact hfit)
      rw [hzs0] at hr hW
      refine ⟨_, _, hr, ⟨by rw [List.length_append, hown.1, hl, Nat.add_mul], .inr ⟨g, cap, _, z, rfl, hW, .inr ⟨hqt, ?_⟩, hroom, hcm, ?_, ?_⟩⟩, ⟨rfl, rfl, rfl, by simp, fun d _ hd => setRow_other W g d _ (fun e => hd (by simp [Value.ownBlock, e]))⟩, .inl rfl⟩
      · simp only [List.size_toArray, List.length_append, List.length_take, List.length_drop, Array.length_toList]
        omega
      · simp only [List.size_toArray, List.length_append, List.length_take, List.length_drop, Array.length_toList]
        omega
      · rw [htake, show (n + k) * size = (xs ++ news).length by rw [List.length_append, hown.1, hl, Nat.add_mul]]
        exact List.take_left
    · have holds : ∀ j u, xs[j]? = some u → W.cell? ((⟨g, 0, none⟩ : Addr).add j) = some u := fun j u hj => by
        rw [Addr.add_lit, Nat.zero_add]
        have hjl := (List.getElem?_eq_some_iff.1 hj).1
        rw [← htake, List.getElem?_take_of_lt (by rw [← hown.1]; exact hjl), Array.getElem?_toList] at hj
        simp [World.cell?, hg, hj]
      have hr := run_append_grow (P := Try.prog) W t t e i0 z0 ht hi0 hz0 ⟨g, 0, none⟩ n cap xs (by rw [hzs0]; exact hown.1) holds ⟨b, off, none⟩ k c news (by rw [hzs0]; exact hl) (fun j u hj => by rw [Addr.add_lit]; exact hc j u hj) (by omega) (by omega) (growslice_fits (by omega) (by rw [hzb]; have := Nat.mul_le_mul hn hb; omega))
      have hge := grownCap_ge W (n + k) cap e
      refine ⟨_, _, hr, .of (B := 0) ⟨by rw [List.length_append, hown.1, hl, Nat.add_mul], .inr ⟨W.heap.size, _, _, rfl, Nat.zero_le _, heap_alloc_new W.drew _, hge, grownCap_le_maxLen W (n + k) cap e (by unfold maxLen; omega), ?_, ?_⟩⟩, ⟨rfl, rfl, rfl, by simp, fun d hd _ => Below.heap_alloc W.drew _ d hd⟩, .inr rfl⟩
      · simp only [Array.size_append, List.size_toArray, size_zeroCells, hzs, hown.1, hl, ← Nat.add_mul]
        rw [show n + k + (grownCap W (n + k) cap e - (n + k)) = grownCap W (n + k) cap e by omega]
      · simp only [Array.toList_append, List.append_assoc]
        rw [← List.append_assoc, show (n + k) * size = (xs ++ news).length by rw [List.length_append, hown.1, hl, Nat.add_mul]]
        exact List.take_left
theorem fresh_of {a b : Option Nat} {n : Nat} (h : a = b ∨ a = some n) (g : Nat) (hg : a = some g) : b = some g ∨ n ≤ g := by
  rcases h with h | h
  · exact .inl (h ▸ hg)
  · rw [h] at hg; cases hg; exact .inr (Nat.le_refl _)
abbrev cv (c : Ch) : Value := .agg #[.int .i64 c.r, .int .i64 c.a, .int .i64 c.z]
abbrev mp (x : Nat) : Value := .pointer (some ⟨x, 0, none⟩)
theorem tk_len (x : TL) : (tkCells x).length = 8 := rfl
theorem tk_one (x : TL) : ∀ u ∈ tkCells x, u.oneCell' = true := fun u hu => by
  simp only [tkCells, List.mem_cons, List.not_mem_nil, or_false] at hu
  rcases hu with rfl | rfl | rfl | rfl | rfl | rfl | rfl | rfl <;> rfl
end Go.Proofs.Ytkbakbacomidbaa
namespace Go.Proofs.Ytkbakbacomidbaa.G9
open Go.RowKit
set_option maxRecDepth 20000 in
theorem load49 {w : World} {R : Nat} {a b : ByteArray} (h1 : w.cell? ⟨R, 0, none⟩ = some (.string a)) (h2 : w.cell? ⟨R, 1, none⟩ = some (.string b)) : (loadVar 96 ⟨R, 0, none⟩).run Try.prog w = .ok (.agg #[.string a, .string b]) w := by
  have a24 := Try.isAgg96
  have z24 := Try.sizeOf96
  go_simp
set_option maxRecDepth 20000 in
theorem two_set {wr : World} {R : Nat} {x y : Value} (a b : Value) (h0 : wr.cell? ⟨R, 0, none⟩ = some x) (h1 : wr.cell? ⟨R, 1, none⟩ = some y) :
    ((wr.setCell ⟨R, 0, none⟩ a).setCell ⟨R, 1, none⟩ b).cell? ⟨R, 0, none⟩ = some a ∧ ((wr.setCell ⟨R, 0, none⟩ a).setCell ⟨R, 1, none⟩ b).cell? ⟨R, 1, none⟩ = some b := by
  constructor
  · rw [World.cell?_setCell_other _ _ _ _ (by simp)]
    exact World.cell?_setCell_same _ _ _ h0
  · exact World.cell?_setCell_same _ _ _ ((World.cell?_setCell_other _ _ _ _ (by simp)).trans h1)
end Go.Proofs.Ytkbakbacomidbaa.G9
namespace Go.Proofs.Ytkbakbacomidbaa
open Go.RowKit Go.Maps
theorem conv_own {W : World} {v : Value} {l : List UInt8} {q : Bool} (h : OwnQ W q 5 1 v l.length (Lib.byteCells l)) : (convert 92 9 v).run Try.prog W = .ok (.string (bs l)) W := by
  rcases h.2 with ⟨rfl, h0⟩ | ⟨g, cap, cur, z, rfl, hg, _, h1, h2, h3, h4⟩
  · have : l = [] := List.eq_nil_of_length_eq_zero h0
    subst this
    exact run_convert_bytes_nil _ 92 5 Try.underlying92 Try.underlying5 0 0 9 Try.underlying9
  · refine run_convert_bytes_back W 92 9 5 ⟨g, 0, none⟩ cap l Try.underlying92 Try.underlying5 Try.underlying9 (fun j hj => ?_)
    rw [Addr.add_lit, Nat.zero_add]
    have e : (Lib.byteCells l)[j]? = some (.int .u8 (l[j].toNat : Nat)) := by simp [Lib.byteCells, List.getElem?_eq_getElem hj]
    rw [← h4, List.getElem?_take_of_lt (by omega), Array.getElem?_toList] at e
    simp [World.cell?, hg, e]
end Go.Proofs.Ytkbakbacomidbaa
namespace Go.Proofs.Ytkbakbacomidbaa
open Go.RowKit Go.Maps
theorem enc_len (r : Int) : (enc r).length ≤ 4 := by
  unfold enc
  rw [← Lib.runeCells_length]
  exact (Lib.runeCells_le _).2
end Go.Proofs.Ytkbakbacomidbaa
namespace Go.Proofs.Ytkbakbacomidbaa
open Go.RowKit Go.Maps
/-- A row of characters that lies in memory. -/
def ChRow (ao : Option Addr) (l : List Ch) (w : World) : Prop :=
  ∀ i c, l[i]? = some c → ∃ b off, ao = some ⟨b, off, none⟩ ∧ b < w.heap.size ∧ w.cell? ⟨b, off + i * 3, none⟩ = some (.int .i64 c.r) ∧ w.cell? ⟨b, off + i * 3 + 1, none⟩ = some (.int .i64 c.a) ∧ w.cell? ⟨b, off + i * 3 + 2, none⟩ = some (.int .i64 c.z)
theorem ChRow.below {ao : Option Addr} {l : List Ch} {w w' : World} (h : ChRow ao l w) (b : Below w.heap.size w w') : ChRow ao l w' := fun i c hc => by
  obtain ⟨k, off, h1, h2, h3, h4, h5⟩ := h i c hc
  exact ⟨k, off, h1, Nat.lt_of_lt_of_le h2 b.size, (b.cell (p := ⟨k, off + i * 3, none⟩) h2).trans h3, (b.cell (p := ⟨k, off + i * 3 + 1, none⟩) h2).trans h4, (b.cell (p := ⟨k, off + i * 3 + 2, none⟩) h2).trans h5⟩
theorem ChRow.low {ao : Option Addr} {l : List Ch} {n : Nat} {w w' : World} (h : ChRow ao l w) (b : Below n w w') (hn : w.heap.size ≤ n) : ChRow ao l w' := h.below (b.mono hn)
/-- A row of one's own, as it lies there. -/
theorem rowC {w : World} {v : Value} {l : List Ch} (h : Rw.own w (rwC v l)) : ∃ ao cap, v = .slice ao l.length cap ∧ l.length ≤ cap ∧ ChRow ao l w ∧ (∀ b off, ao = some ⟨b, off, none⟩ → off = 0 ∧ v.ownBlock = some b) ∧ cap ≤ maxLen := by
  rcases h.2 with ⟨e, h0⟩ | ⟨g, cap, cur, z, e, hg, _, h1, h2, h3, h4⟩
  · simp only at e h0
    have : l = [] := List.eq_nil_of_length_eq_zero h0
    subst this
    exact ⟨none, 0, e, Nat.le_refl _, fun i c hc => (by simp at hc), fun b off hb => (by cases hb), Nat.zero_le _⟩
  · simp only at e h1 h3 h4
    refine ⟨some ⟨g, 0, none⟩, cap, e, h1, fun i c hc => ?_, fun b off hb => ?_, h2⟩
    · have hl := (List.getElem?_eq_some_iff.1 hc).1
      obtain ⟨q0, q1, q2⟩ := G4.ch_at l i c hc
      rw [← h4] at q0 q1 q2
      rw [List.getElem?_take_of_lt (by omega), Array.getElem?_toList] at q0 q1 q2
      refine ⟨g, 0, rfl, (Array.getElem?_eq_some_iff.1 hg).1, ?_, ?_, ?_⟩
      · simp [World.cell?, hg, q0]
      · simp [World.cell?, hg, q1]
      · simp [World.cell?, hg, q2]
    · simp only [Option.some.injEq, Addr.mk.injEq, and_true] at hb
      obtain ⟨rfl, rfl⟩ := hb
      simp [e, Value.ownBlock]
theorem ChRow.drop {ao : Option Addr} {l : List Ch} {w : World} (h : ChRow ao l w) (k cap : Nat) (hc : l.length ≤ cap) : ChRow (if cap = k then ao else ao.map (·.add (k * 3))) (l.drop k) w := fun i x hx => by
  have hil := (List.getElem?_eq_some_iff.1 hx).1
  rw [List.length_drop] at hil
  rw [List.getElem?_drop] at hx
  obtain ⟨b, off, rfl, h1, h2, h3, h4⟩ := h _ x hx
  rw [if_neg (by omega)]
  refine ⟨b, off + k * 3, by simp [Addr.add_lit], h1, ?_, ?_, ?_⟩
  · rw [show off + k * 3 + i * 3 = off + (k + i) * 3 by omega]; exact h2
  · rw [show off + k * 3 + i * 3 = off + (k + i) * 3 by omega]; exact h3
  · rw [show off + k * 3 + i * 3 = off + (k + i) * 3 by omega]; exact h4
end Go.Proofs.Ytkbakbacomidbaa
