/- The machine, pure: its fields, and what each of its states does with a character and with the end. -/
import Derived.Test.YtdiealijjhfhjaaGreatDoorZh
import Derived.Test.YtdiealijjhfhjaaGreatDoorZi
import Derived.Test.YtdiealijjhfhjaaGreatDoorZf
import Derived.Test.YtdiealijjhfhjaaGreatDoorZe
import Derived.Test.YtdiealijjhfhjaaGreatDoorZb
import Derived.StringKeys
namespace Go.Proofs.YtdiealijjhfhjaaGreatDoor
open Go.RowKit
abbrev Ch := G4.Ch
abbrev At := G9.At
abbrev Tk := G9.Tk
abbrev TL := G9.TL
def bs (l : List UInt8) : ByteArray := ⟨l.toArray⟩
theorem bs_list (l : List UInt8) : (bs l).data.toList = l := by simp [bs]
theorem bs_size (l : List UInt8) : (bs l).size = l.length := by simp [bs, ByteArray.size]
structure Pt where
  k : Int
  r : Int
  nm : ByteArray
  tx : ByteArray
  ats : List At
  s : Bool
  f : Int
  t : Int
def ptOf (x : TL) : Pt := ⟨x.1.k, x.1.r, x.1.nm, x.1.tx, x.2, x.1.s, x.1.f, x.1.t⟩
structure Mc where
  st : Nat
  en : Nat
  text : Int
  cd : Bool
  last : ByteArray
  wait : List Ch
  ref : List Ch
  kind : Int
  frm : Int
  nm : List UInt8
  tx : List UInt8
  self : Bool
  attrs : List At
  at_ : Int
  an : List UInt8
  av : List UInt8
  cnt : Bool
  out : List Pt
  fs : List (Int × Int)
def enc (r : Int) : List UInt8 := Lib.encodeRune (G9.chr r)
def lowr (r : Int) : Int := if 65 ≤ r ∧ r ≤ 90 then r + 32 else r
def encs (l : List Ch) : List UInt8 := l.flatMap fun c => enc c.r
def ltr (r : Int) : Bool := decide ((97 ≤ r ∧ r ≤ 122) ∨ (65 ≤ r ∧ r ≤ 90))
abbrev blk (r : Int) : Bool := G7.blk r
def chT (s : Bool) (c : Ch) : Pt := ⟨1, c.r, ByteArray.empty, ByteArray.empty, [], s, c.a, c.z⟩
namespace Mc
def new : Mc := ⟨46, 47, 0, false, ByteArray.empty, [], [], 0, 0, [], [], false, [], 0, [], [], false, [], []⟩
def tell (m : Mc) (t : Pt) : Mc := { m with out := m.out ++ [t] }
def tellChar (m : Mc) (c : Ch) : Mc := m.tell (chT false c)
def fault (m : Mc) (code at' : Int) : Mc := { m with fs := m.fs ++ [(code, at')] }
def hold (m : Mc) (c : Ch) : Mc := { m with wait := m.wait ++ [c] }
def release (m : Mc) : Mc := { m with out := m.out ++ m.wait.map (chT false), wait := [] }
def noMade (m : Mc) : Mc := { m with kind := 0, frm := 0, nm := [], tx := [], self := false, attrs := [], at_ := 0, an := [], av := [], cnt := false }
def toData (m : Mc) : Mc := { m.noMade with wait := [], st := 46, en := 47 }
def addName (m : Mc) (r : Int) : Mc := { m with nm := m.nm ++ enc (lowr r) }
def addText (m : Mc) (r : Int) : Mc := { m with tx := m.tx ++ enc r }
def addAttr (m : Mc) (r : Int) : Mc := { m with an := m.an ++ enc (lowr r) }
def addValue (m : Mc) (r : Int) : Mc := { m with av := m.av ++ enc r }
def addDashes (m : Mc) (l : List UInt8) : Mc := { m with tx := m.tx ++ l }
def keep (m : Mc) : Mc := { m with attrs := m.attrs ++ (if m.cnt then [⟨bs m.an, bs m.av⟩] else []), at_ := 0, an := [], av := [], cnt := false }
def begA (m : Mc) (at' : Int) : Mc := { m.keep with at_ := at' }
def has (m : Mc) : Bool := m.attrs.any fun a => decide (a.nm = m.an)
def endName (m : Mc) : Mc := if m.has then m.fault 9 m.at_ else { m with cnt := true }
def w0 (m : Mc) : Int := match m.wait with | [] => 0 | c :: _ => c.a
def w1 (m : Mc) : Int := match m.wait with | _ :: c :: _ => c.a | _ => 0
def beg (m : Mc) (kind : Int) (en : Nat) : Mc := { m.noMade with kind := kind, frm := m.w0, wait := [], en := en }
def tagPt (m : Mc) (z' : Int) : Pt := ⟨m.kind, 0, bs m.nm, ByteArray.empty, if m.kind = 2 then m.attrs else [], if m.kind = 2 then m.self else false, m.frm, z'⟩
def tellTag (m : Mc) (c : Ch) : Mc :=
  let k := m.keep
  let b := if k.kind = 2 then { k with last := bs k.nm } else if k.attrs ≠ [] ∨ k.self = true then k.fault 13 k.frm else k
  ({ b.tell (k.tagPt c.z) with text := 0 }).toData
def madePt (m : Mc) (z' : Int) : Pt := ⟨m.kind, 0, bs m.nm, bs m.tx, [], m.self, m.frm, z'⟩
def tellMade (m : Mc) (z' : Int) : Mc := (m.tell (m.madePt z')).toData
def data (m : Mc) (c : Ch) : Mc :=
  if c.r = 38 ∧ (m.text = 0 ∨ m.text = 1) then { m with ref := [c] }
  else if c.r = 60 ∧ m.text = 0 then { m.hold c with st := 71, en := 72 }
  else if c.r = 60 ∧ m.text ≠ 3 then { m.hold c with st := 73 }
  else m.tellChar c
def dataAgain (m : Mc) (c : Ch) : Mc := m.release.toData.data c
def tagName (m : Mc) (c : Ch) : Mc :=
  if blk c.r = true then { m with st := 151 } else if c.r = 47 then { m with st := 152 } else if c.r = 62 then m.tellTag c else m.addName c.r
def inBogus (m : Mc) (c : Ch) : Mc := if c.r = 62 then m.tellMade c.z else m.addText c.r
def bogus (m : Mc) (l : List Ch) : Mc := l.foldl inBogus { m.beg 4 179 with st := 180 }
def bogusAgain (m : Mc) (c : Ch) : Mc := (m.fault 14 c.a).bogus [c]
def tagOpen (m : Mc) (c : Ch) : Mc :=
  if c.r = 33 then { m with st := 100, en := 101 }
  else if c.r = 47 then { m.hold c with st := 102, en := 103 }
  else if ltr c.r = true then ({ m.beg 2 106 with st := 108 }).tagName c
  else if c.r = 63 then m.bogusAgain c
  else (m.fault 5 c.a).dataAgain c
def endOpen (m : Mc) (c : Ch) : Mc :=
  if ltr c.r = true then ({ m.beg 3 106 with st := 108 }).tagName c
  else if c.r = 62 then (m.fault 6 c.a).toData
  else m.bogusAgain c
def inName (m : Mc) (c : Ch) (after : Mc → Ch → Mc) : Mc :=
  if blk c.r = true ∨ c.r = 47 ∨ c.r = 62 then after { m.endName with st := 181 } c
  else if c.r = 61 then { m.endName with st := 209 }
  else if c.r = 34 ∨ c.r = 39 ∨ c.r = 60 then (m.fault 8 c.a).addAttr c.r
  else m.addAttr c.r
def afterEnd (m : Mc) (c : Ch) : Mc :=
  if blk c.r = true then m else if c.r = 47 then { m with st := 152 } else if c.r = 61 then { m with st := 209 } else if c.r = 62 then m.tellTag c else m
def name (m : Mc) (c : Ch) : Mc := m.inName c afterEnd
def afterName (m : Mc) (c : Ch) : Mc :=
  if blk c.r = true then m else if c.r = 47 then { m with st := 152 } else if c.r = 61 then { m with st := 209 } else if c.r = 62 then m.tellTag c
  else ({ m.begA c.a with st := 184 }).name c
def beforeName (m : Mc) (c : Ch) : Mc :=
  if blk c.r = true then m else if c.r = 47 ∨ c.r = 62 then ({ m with st := 181 }).afterName c
  else if c.r = 61 then { (((m.fault 8 c.a).begA c.a).addAttr c.r) with st := 184 }
  else ({ m.begA c.a with st := 184 }).name c
def bare (m : Mc) (c : Ch) : Mc :=
  if blk c.r = true then { m with st := 151 } else if c.r = 38 then { m with ref := [c] } else if c.r = 62 then m.tellTag c
  else if c.r = 34 ∨ c.r = 39 ∨ c.r = 60 ∨ c.r = 61 ∨ c.r = 96 then (m.fault 8 c.a).addValue c.r else m.addValue c.r
def beforeValue (m : Mc) (c : Ch) : Mc :=
  if blk c.r = true then m else if c.r = 34 then { m with st := 220 } else if c.r = 39 then { m with st := 221 }
  else if c.r = 62 then (m.fault 10 c.a).tellTag c else ({ m with st := 222 }).bare c
def quoted (m : Mc) (c : Ch) (sign : Int) : Mc := if c.r = sign then { m with st := 226 } else if c.r = 38 then { m with ref := [c] } else m.addValue c.r
def afterValue (m : Mc) (c : Ch) : Mc :=
  if blk c.r = true then { m with st := 151 } else if c.r = 47 then { m with st := 152 } else if c.r = 62 then m.tellTag c
  else ({ m.fault 11 c.a with st := 151 }).beforeName c
def slash (m : Mc) (c : Ch) : Mc := if c.r = 62 then ({ m with self := true }).tellTag c else ({ m.fault 12 c.a with st := 151 }).beforeName c
def comment (m : Mc) (c : Ch) : Mc := if c.r = 45 then { m with st := 205 } else m.addText c.r
def abrupt (m : Mc) (c : Ch) : Mc := (m.fault 15 c.a).tellMade c.z
def commentAgain (m : Mc) (l : List UInt8) (c : Ch) : Mc := ({ m.addDashes l with st := 175 }).comment c
def comStart (m : Mc) (c : Ch) : Mc := if c.r = 45 then { m with st := 173 } else if c.r = 62 then m.abrupt c else ({ m with st := 175 }).comment c
def comStartDash (m : Mc) (c : Ch) : Mc := if c.r = 45 then { m with st := 203 } else if c.r = 62 then m.abrupt c else m.commentAgain [45] c
def comDash (m : Mc) (c : Ch) : Mc := if c.r = 45 then { m with st := 203 } else m.commentAgain [45] c
def comEnd (m : Mc) (c : Ch) : Mc := if c.r = 62 then m.tellMade c.z else if c.r = 33 then { m with st := 217 } else if c.r = 45 then m.addDashes [45] else m.commentAgain [45, 45] c
def comBang (m : Mc) (c : Ch) : Mc := if c.r = 45 then { m.addDashes [45, 45, 33] with st := 205 } else if c.r = 62 then m.abrupt c else m.commentAgain [45, 45, 33] c
def wrongDoc (m : Mc) (at' : Int) : Mc := { m.fault 17 at' with self := true }
def docName (m : Mc) (c : Ch) : Mc := if blk c.r = true then { m with st := 207 } else if c.r = 62 then m.tellMade c.z else m.addName c.r
def beforeDoc (m : Mc) (c : Ch) : Mc := if blk c.r = true then m else if c.r = 62 then (m.wrongDoc c.a).tellMade c.z else ({ m with st := 177 }).docName c
def afterDoc (m : Mc) (c : Ch) : Mc := if blk c.r = true then m else if c.r = 62 then m.tellMade c.z else { m.wrongDoc c.a with st := 219 }
def bogusDoc (m : Mc) (c : Ch) : Mc := if c.r = 62 then m.tellMade c.z else m
def dashW : List UInt8 := [45, 45]
def docW : List UInt8 := [100, 111, 99, 116, 121, 112, 101]
def cdW : List UInt8 := [91, 67, 68, 65, 84, 65, 91]
def lowL (l : List UInt8) : List UInt8 := (G7.lowP (bs l)).data.toList
def begun (l : List UInt8) : Bool := l.isPrefixOf dashW || (lowL l).isPrefixOf docW || l.isPrefixOf cdW
def markup (m : Mc) (c : Ch) : Mc :=
  let h := m.hold c
  let l := encs h.wait.tail
  if l = dashW then { h.beg 4 140 with st := 141 }
  else if lowL l = docW then { h.beg 5 143 with st := 144 }
  else if l = cdW ∧ h.cd = true then { h with wait := [], st := 145, en := 47 }
  else if l = cdW then (h.fault 21 h.w1).bogus h.wait.tail
  else if begun l = false then (h.fault 14 h.w1).bogus h.wait.tail
  else h
def rawOpen (m : Mc) (c : Ch) : Mc := if c.r = 47 then { m.hold c with st := 111 } else m.dataAgain c
def rawName (m : Mc) (c : Ch) : Mc :=
  if ltr c.r = true then m.hold c
  else if (blk c.r = true ∨ c.r = 47 ∨ c.r = 62) ∧ lowL (encs (m.wait.drop 2)) = m.last.data.toList then ({ m.beg 3 106 with nm := m.last.data.toList, st := 108 }).tagName c
  else m.dataAgain c
def rawSlash (m : Mc) (c : Ch) : Mc := if ltr c.r = true then ({ m with st := 155 }).rawName c else m.dataAgain c
def cdata (m : Mc) (c : Ch) : Mc := if c.r = 93 then { m.hold c with st := 178 } else m.tellChar c
def cdataOne (m : Mc) (c : Ch) : Mc := if c.r = 93 then { m.hold c with st := 208 } else ({ m.release with st := 145 }).cdata c
def cdataTwo (m : Mc) (c : Ch) : Mc :=
  if c.r = 93 then (match m.wait with
    | a :: b :: t => { m.tellChar a with wait := b :: c :: t }
    | _ => m)
  else if c.r = 62 then m.toData
  else ({ m.release with st := 145 }).cdata c
def take (m : Mc) (c : Ch) : Mc :=
  match m.st with
  | 46 => m.data c
  | 71 => m.tagOpen c
  | 102 => m.endOpen c
  | 108 => m.tagName c
  | 151 => m.beforeName c
  | 184 => m.name c
  | 181 => m.afterName c
  | 209 => m.beforeValue c
  | 220 => m.quoted c 34
  | 221 => m.quoted c 39
  | 222 => m.bare c
  | 226 => m.afterValue c
  | 152 => m.slash c
  | 180 => m.inBogus c
  | 100 => m.markup c
  | 141 => m.comStart c
  | 173 => m.comStartDash c
  | 175 => m.comment c
  | 205 => m.comDash c
  | 203 => m.comEnd c
  | 217 => m.comBang c
  | 144 => m.beforeDoc c
  | 177 => m.docName c
  | 207 => m.afterDoc c
  | 219 => m.bogusDoc c
  | 73 => m.rawOpen c
  | 111 => m.rawSlash c
  | 155 => m.rawName c
  | 145 => m.cdata c
  | 178 => m.cdataOne c
  | 208 => m.cdataTwo c
  | _ => m
def endMarkup (m : Mc) (at' : Int) : Mc := ((m.fault 14 (if m.wait.tail = [] then at' else m.w1)).bogus m.wait.tail).tellMade at'
def endS (m : Mc) (at' : Int) : Mc :=
  match m.en with
  | 47 => m.release
  | 72 => (m.fault 5 at').release
  | 103 => (m.fault 6 at').release
  | 106 => m.fault 7 at'
  | 179 => m.tellMade at'
  | 101 => m.endMarkup at'
  | 140 => (m.fault 16 at').tellMade at'
  | 143 => (m.wrongDoc at').tellMade at'
  | _ => m
def put (m : Mc) (c : Ch) (made : Bool) : Mc := if m.kind ≠ 0 then m.addValue c.r else m.tell (chT made c)
def toAt (l : List Ch) (k : Nat) : Int := match l[k]? with | some c => c.z | none => 0
def frAt (l : List Ch) : Int := match l with | [] => 0 | c :: _ => c.a
def refFaults (l : List Ch) (size : Nat) (codes : List Int) : List (Int × Int) := codes.map fun k => (k, if k = 18 then toAt l (size - 1) else frAt l)
def oneR (m : Mc) : Int × Nat × List Int := G6.refP G6.refs (decide (m.kind ≠ 0)) (encs m.ref)
def resolve (m : Mc) : Mc :=
  let l := m.ref
  let o := m.oneR
  let a := { m with ref := [], fs := m.fs ++ refFaults l o.2.1 o.2.2 }
  let b := if o.2.1 = 0 then (match l with | [] => a | c :: _ => a.put c false) else a.put ⟨o.1, frAt l, toAt l (o.2.1 - 1)⟩ true
  (l.drop (if o.2.1 = 0 then 1 else o.2.1)).foldl take b
def lastR (l : List Ch) : Int := match l.getLast? with | some c => c.r | none => 0
def sureNum (l : List Ch) : Bool :=
  match l with
  | [] => false
  | f :: _ =>
    let r : Int := lastR l
    if 48 ≤ r ∧ r ≤ 57 then false
    else if ¬ (f.r = 120 ∨ f.r = 88) then true
    else decide (1 < l.length) && !decide ((97 ≤ r ∧ r ≤ 102) ∨ (65 ≤ r ∧ r ≤ 70))
def sure (l : List Ch) : Bool :=
  match l with
  | _ :: b :: t =>
    if b.r = 35 then sureNum t
    else if lastR l = 59 then true
    else !G6.goes G6.refs (encs (b :: t))
  | _ => false
def refer (m : Mc) (c : Ch) : Mc := let k := { m with ref := m.ref ++ [c] }; if sure k.ref = true then k.resolve else k
def step (m : Mc) (c : Ch) : Mc := if m.ref ≠ [] then m.refer c else m.take c
def feed (m : Mc) (c : Ch) : List Pt × Mc := ((m.step c).out, { m.step c with out := [] })
def ended (m : Mc) (at' : Int) : List Pt × Mc :=
  let r := if m.ref ≠ [] then m.resolve else m
  let e := r.endS at'
  (e.out ++ [⟨6, 0, ByteArray.empty, ByteArray.empty, [], false, at', at'⟩], { new with fs := e.fs })
def set (m : Mc) (text : Int) : Mc := { m with text := if text < 0 ∨ text > 3 then 0 else text }
def foreign (m : Mc) (b : Bool) : Mc := { m with cd := b }
end Mc
end Go.Proofs.YtdiealijjhfhjaaGreatDoor
namespace Go.Proofs.YtdiealijjhfhjaaGreatDoor
open Go.RowKit Go.Maps
structure Keep (S : Nat → Prop) (w w' : World) : Prop where
  os : w'.os = w.os
  tape : w'.tape = w.tape
  output : w'.output = w.output
  size : w.heap.size ≤ w'.heap.size
  block : ∀ k, S k → k < w.heap.size → w'.heap[k]? = w.heap[k]?
theorem Keep.refl (S : Nat → Prop) (w : World) : Keep S w w := ⟨rfl, rfl, rfl, Nat.le_refl _, fun _ _ _ => rfl⟩
theorem Keep.trans {S : Nat → Prop} {a b c : World} (h : Keep S a b) (k : Keep S b c) : Keep S a c :=
  ⟨k.os.trans h.os, k.tape.trans h.tape, k.output.trans h.output, Nat.le_trans h.size k.size, fun i h1 h2 => (k.block i h1 (Nat.lt_of_lt_of_le h2 h.size)).trans (h.block i h1 h2)⟩
theorem Keep.old {S : Nat → Prop} {w w' : World} (h : Below w.heap.size w w') : Keep S w w' := ⟨h.os, h.tape, h.output, h.size, fun k _ hk => h.block k hk⟩
theorem Keep.sub {S U : Nat → Prop} {w w' : World} (h : Keep S w w') (k : ∀ i, U i → S i) : Keep U w w' := ⟨h.os, h.tape, h.output, h.size, fun i h1 h2 => h.block i (k i h1) h2⟩
theorem Keep.setCell {S : Nat → Prop} {w w' : World} (h : Keep S w w') {p : Addr} (hp : ¬ S p.block) (u : Value) : Keep S w (w'.setCell p u) :=
  h.trans ⟨rfl, rfl, rfl, by simp [World.setCell], fun k hS _ => Below.heap_setCell _ _ _ _ (fun e => hp (e ▸ hS))⟩
theorem Keep.grown {S : Nat → Prop} {w w' : World} {o : Option Nat} (h : w.grownBy w' o) (ho : ∀ g, o = some g → ¬ S g) : Keep S w w' :=
  ⟨h.os, h.tape, h.output, h.size, fun k hS hk => h.block k hk (fun e => ho k e.symm hS)⟩
def Stays (S : Nat → Prop) (w : World) (P : World → Prop) : Prop := ∀ w', Keep S w w' → P w'
theorem Stays.now {S : Nat → Prop} {w : World} {P : World → Prop} (h : Stays S w P) : P w := h w (Keep.refl _ _)
theorem Stays.keep {S : Nat → Prop} {w w' : World} {P : World → Prop} (h : Stays S w P) (k : Keep S w w') : Stays S w' P := fun w2 h2 => h w2 (k.trans h2)
theorem Stays.mono {S U : Nat → Prop} {w : World} {P : World → Prop} (h : Stays S w P) (k : ∀ i, S i → U i) : Stays U w P := fun w2 h2 => h w2 (h2.sub k)
theorem Stays.imp {S : Nat → Prop} {w : World} {P Q : World → Prop} (h : Stays S w P) (k : ∀ w', P w' → Q w') : Stays S w Q := fun w2 h2 => k w2 (h w2 h2)
def OwnQ (w : World) (q : Bool) (e s : Nat) (v : Value) (n : Nat) (xs : List Value) : Prop :=
  xs.length = n * s ∧ ((v = .slice none 0 0 ∧ n = 0) ∨ ∃ (g cap : Nat) (cur : Array Value) (z : Nat × Nat), v = .slice (some ⟨g, 0, none⟩) n cap ∧ w.heap[g]? = some (.cells cur e z) ∧ (z = (0, 0) ∨ (q = true ∧ cur.size ≤ z.1)) ∧ n ≤ cap ∧ cap ≤ maxLen ∧ cur.size = cap * s ∧ cur.toList.take (n * s) = xs)
theorem OwnQ.of {w : World} {B e s n : Nat} {v : Value} {xs : List Value} {q : Bool} (h : w.ownsRow B e s v n xs) : OwnQ w q e s v n xs := by
  refine ⟨h.1, ?_⟩
  rcases h.2 with hn | ⟨g, cap, cur, rfl, _, hg, rest⟩
  · exact .inl hn
  · exact .inr ⟨g, cap, cur, _, rfl, hg, .inl rfl, rest⟩
theorem OwnQ.row {w : World} {e s n : Nat} {v : Value} {xs : List Value} (h : OwnQ w false e s v n xs) : w.ownsRow 0 e s v n xs := by
  refine ⟨h.1, ?_⟩
  rcases h.2 with hn | ⟨g, cap, cur, z, rfl, hg, hz, rest⟩
  · exact .inl hn
  · rcases hz with rfl | ⟨hz, _⟩
    · exact .inr ⟨g, cap, cur, rfl, Nat.zero_le _, hg, rest⟩
    · cases hz
theorem own_mv {w w' : World} {q : Bool} {e s n : Nat} {v : Value} {xs : List Value} (h : OwnQ w q e s v n xs) (k : ∀ g, v.ownBlock = some g → w'.heap[g]? = w.heap[g]?) : OwnQ w' q e s v n xs := by
  refine ⟨h.1, ?_⟩
  rcases h.2 with hn | ⟨g, cap, cur, z, rfl, hg, rest⟩
  · exact .inl hn
  · exact .inr ⟨g, cap, cur, z, rfl, (k g rfl).trans hg, rest⟩
theorem own_blk {w : World} {q : Bool} {e s n : Nat} {v : Value} {xs : List Value} (h : OwnQ w q e s v n xs) {g : Nat} (hg : v.ownBlock = some g) : g < w.heap.size ∧ ∃ cur z, w.heap[g]? = some (.cells cur e z) := by
  rcases h.2 with ⟨rfl, _⟩ | ⟨g', cap, cur, z, rfl, hgb, _⟩
  · simp [Value.ownBlock] at hg
  · simp [Value.ownBlock] at hg; subst hg
    exact ⟨(Array.getElem?_eq_some_iff.1 hgb).1, cur, z, hgb⟩
theorem own_form {w : World} {q : Bool} {e s n : Nat} {v : Value} {xs : List Value} (h : OwnQ w q e s v n xs) : ∃ ao c, v = .slice ao n c ∧ n ≤ c ∧ c ≤ maxLen := by
  rcases h.2 with ⟨rfl, rfl⟩ | ⟨g, cap, cur, z, rfl, hgb, _, h1, h2, _⟩
  · exact ⟨none, 0, rfl, Nat.le_refl _, Nat.zero_le _⟩
  · exact ⟨_, _, rfl, h1, h2⟩
structure Rw where
  v : Value
  e : Nat
  s : Nat
  n : Nat
  xs : List Value
  q : Bool
abbrev Rw.own (w : World) (r : Rw) : Prop := OwnQ w r.q r.e r.s r.v r.n r.xs
structure Bag (S : Nat → Prop) (w : World) (l : List Rw) : Prop where
  own : ∀ (i : Nat) (r : Rw), l[i]? = some r → r.own w
  out : ∀ (i : Nat) (r : Rw), l[i]? = some r → ∀ g, r.v.ownBlock = some g → ¬ S g
  apart : ∀ (i j : Nat) (a b : Rw), i ≠ j → l[i]? = some a → l[j]? = some b → ∀ g, a.v.ownBlock = some g → b.v.ownBlock ≠ some g
theorem Bag.mv {S : Nat → Prop} {w w' : World} {l : List Rw} (h : Bag S w l) (k : ∀ (g : Nat) (cur : Array Value) (e : TypeId) (z : Nat × Nat), e ≠ 75 → w.heap[g]? = some (.cells cur e z) → ¬ S g → w'.heap[g]? = w.heap[g]?) (he : ∀ r ∈ l, r.e ≠ 75) : Bag S w' l :=
  ⟨fun i r hr => own_mv (h.own i r hr) fun g hg => by
    obtain ⟨_, cur, z, hc⟩ := own_blk (h.own i r hr) hg
    exact k g cur r.e z (he r (List.mem_of_getElem? hr)) hc (h.out i r hr g hg), h.out, h.apart⟩
theorem Bag.below {S : Nat → Prop} {w w' : World} {l : List Rw} (h : Bag S w l) (b : Below w.heap.size w w') : Bag S w' l :=
  ⟨fun i r hr => own_mv (h.own i r hr) fun g hg => b.block g (own_blk (h.own i r hr) hg).1, h.out, h.apart⟩
theorem Bag.more {S U : Nat → Prop} {w : World} {l : List Rw} (h : Bag S w l) (k : ∀ (i : Nat) (r : Rw), l[i]? = some r → ∀ g, r.v.ownBlock = some g → U g → S g) : Bag U w l :=
  ⟨h.own, fun i r hr g hg hU => h.out i r hr g hg (k i r hr g hg hU), h.apart⟩
theorem Bag.put {S : Nat → Prop} {w w' : World} {l : List Rw} (h : Bag S w l) (low : ∀ k, S k → k < w.heap.size) (i : Nat) (r r' : Rw) (hi : l[i]? = some r) (ho : r'.own w') (hb : ∀ g, r'.v.ownBlock = some g → r.v.ownBlock = some g ∨ w.heap.size ≤ g)
    (hk : ∀ d, d < w.heap.size → r.v.ownBlock ≠ some d → w'.heap[d]? = w.heap[d]?) : Bag S w' (l.set i r') := by
  have hil := (List.getElem?_eq_some_iff.1 hi).1
  have hat : ∀ j a, (l.set i r')[j]? = some a → (j = i ∧ a = r') ∨ (j ≠ i ∧ l[j]? = some a) := fun j a ha => by
    by_cases e : i = j
    · subst e
      rw [List.getElem?_set_self hil] at ha
      exact .inl ⟨rfl, (Option.some.inj ha).symm⟩
    · rw [List.getElem?_set_ne e] at ha
      exact .inr ⟨fun h => e h.symm, ha⟩
  refine ⟨fun j a ha => ?_, fun j a ha g hg hS => ?_, fun j1 j2 a b hne h1 h2 g hg => ?_⟩
  · rcases hat j a ha with ⟨_, rfl⟩ | ⟨hne, ha⟩
    · exact ho
    · exact own_mv (h.own j a ha) fun g hg => hk g (own_blk (h.own j a ha) hg).1 (fun e => h.apart j i a r hne ha hi g hg e)
  · rcases hat j a ha with ⟨_, rfl⟩ | ⟨_, ha⟩
    · rcases hb g hg with e | e
      · exact h.out i r hi g e hS
      · have := low g hS; omega
    · exact h.out j a ha g hg hS
  · rcases hat j1 a h1 with ⟨e1, rfl⟩ | ⟨e1, h1'⟩
    · rcases hat j2 b h2 with ⟨e2, rfl⟩ | ⟨e2, h2⟩
      · omega
      · intro hb2
        rcases hb g hg with e | e
        · exact h.apart i j2 r b (by omega) hi h2 g e hb2
        · have := (own_blk (h.own j2 b h2) hb2).1; omega
    · rcases hat j2 b h2 with ⟨e2, rfl⟩ | ⟨e2, h2⟩
      · intro hb2
        rcases hb g hb2 with e | e
        · exact h.apart j1 i a r (by omega) h1' hi g hg e
        · have := (own_blk (h.own j1 a h1') hg).1; omega
      · exact h.apart j1 j2 a b hne h1' h2 g hg
theorem Bag.drop {S : Nat → Prop} {w : World} {l : List Rw} (h : Bag S w l) (low : ∀ k, S k → k < w.heap.size) (i : Nat) (r : Rw) (hi : l[i]? = some r) (e s : Nat) (q : Bool := false) : Bag S w (l.set i ⟨.slice none 0 0, e, s, 0, [], q⟩) :=
  h.put low i r _ hi ⟨by simp, .inl ⟨rfl, rfl⟩⟩ (fun g hg => by simp [Value.ownBlock] at hg) (fun _ _ _ => rfl)
structure Vs where
  w : Value
  r : Value
  p : Value
  n : Value
  t : Value
  a : Value
  m : Value
  an : Value
  av : Value
  o : Value
  f : Value
def fn (n : Nat) : Value := .func (.func n) #[] #[]
def Mc.cells (m : Mc) (v : Vs) : Array Value :=
  #[fn m.st, fn m.en, .int .i64 m.text, .bool m.cd, .string m.last, v.w, v.r, v.p, .int .i64 m.kind, .int .i64 m.frm, v.n, v.t, .bool m.self, v.a, v.m, .int .i64 m.at_, v.an, v.av, .bool m.cnt, v.o, v.f]
def gcells (f : Int × Int) : List Value := G4.gcells f
def tkCells (x : TL) : List Value := x.1.arr.toList
abbrev rwC (v : Value) (l : List Ch) : Rw := ⟨v, 44, 3, l.length, l.flatMap G4.Ch.cells, false⟩
abbrev rwB (v : Value) (l : List UInt8) : Rw := ⟨v, 5, 1, l.length, Lib.byteCells l, false⟩
abbrev rwN (v : Value) (l : List UInt8) : Rw := ⟨v, 5, 1, l.length, Lib.byteCells l, true⟩
abbrev rwA (v : Value) (l : List At) : Rw := ⟨v, 108, 2, l.length, l.flatMap G9.At.cells, false⟩
abbrev rwT (v : Value) (l : List TL) : Rw := ⟨v, 42, 8, l.length, l.flatMap tkCells, false⟩
abbrev rwF (v : Value) (l : List (Int × Int)) : Rw := ⟨v, 57, 2, l.length, l.flatMap gcells, false⟩
def Mc.rows (m : Mc) (v : Vs) (T : List TL) : List Rw :=
  [rwC v.w m.wait, rwC v.r m.ref, rwN v.n m.nm, rwB v.t m.tx, rwA v.a m.attrs, rwB v.an m.an, rwB v.av m.av, rwT v.o T, rwF v.f m.fs]
theorem rows_ne (m : Mc) (v : Vs) (T : List TL) : ∀ r ∈ m.rows v T, r.e ≠ 75 := fun r hr => by
  simp only [Mc.rows, List.mem_cons, List.not_mem_nil, or_false] at hr
  rcases hr with rfl | rfl | rfl | rfl | rfl | rfl | rfl | rfl | rfl <;> simp
theorem law9 : Keyed Tryz.prog 9 := string_keyed Tryz.underlying9
def SetIs (K : TypeId) (w : World) (m k : Nat) (f : Value → Prop) : Prop :=
  ∃ D : DataW Unit, w.ownsMap Tryz.prog K unitElem m k D ∧ ∀ v l, keyOf Tryz.prog K v = some l → (Maps.has D l = true ↔ f v)
theorem SetIs.lt {K : TypeId} {w : World} {m k : Nat} {f : Value → Prop} (h : SetIs K w m k f) : m < w.heap.size := by
  obtain ⟨D, h1, _⟩ := h
  exact h1.lt
theorem SetIs.same {K : TypeId} {w w' : World} {m k : Nat} {f : Value → Prop} (h : SetIs K w m k f) (e : w'.heap[m]? = w.heap[m]?) : SetIs K w' m k f := by
  obtain ⟨D, ⟨es, clock, hb, rest⟩, h2⟩ := h
  exact ⟨D, ⟨es, clock, e.trans hb, rest⟩, h2⟩
theorem SetIs.iff {K : TypeId} {w : World} {m k : Nat} {f g : Value → Prop} (h : SetIs K w m k f) (e : ∀ v, f v ↔ g v) : SetIs K w m k g := by
  obtain ⟨D, h1, h2⟩ := h
  exact ⟨D, h1, fun v l hv => (h2 v l hv).trans (e v)⟩
theorem SetIs.obj {K : TypeId} {w : World} {m k : Nat} {f : Value → Prop} (h : SetIs K w m k f) (cur : Array Value) (e : TypeId) (z : Nat × Nat) : w.heap[m]? ≠ some (.cells cur e z) := fun h2 => by
  obtain ⟨D, ⟨es, clock, hb, _⟩, _⟩ := h
  rw [h2] at hb
  cases hb
def Names (S : Nat → Prop) (w : World) (L : List At) (v : Value) : Prop :=
  (∀ a ∈ L, a.n.size ≤ 1000000000) ∧ ((L.length ≤ 8 ∧ v = .map none) ∨ (8 < L.length ∧ ∃ b, v = .map (some b) ∧ ¬ S b ∧ SetIs 9 w b L.length (fun u => ∃ a ∈ L, u = .string a.n)))
theorem Names.none (S : Nat → Prop) (w : World) : Names S w [] (.map Option.none) := by
  refine ⟨fun a h => ?_, Or.inl ⟨by simp, rfl⟩⟩
  cases h
theorem Names.mv {S U : Nat → Prop} {w w' : World} {L : List At} {v : Value} (h : Names S w L v) (hU : ∀ b, v = .map (some b) → ¬ S b → ¬ U b) (k : ∀ b, v = .map (some b) → ¬ S b → w'.heap[b]? = w.heap[b]?) : Names U w' L v := by
  refine ⟨h.1, ?_⟩
  rcases h.2 with h | ⟨h1, b, h2, h3, h4⟩
  · exact .inl h
  · exact .inr ⟨h1, b, h2, hU b h2 h3, h4.same (k b h2 h3)⟩
theorem Names.obj {S : Nat → Prop} {w : World} {L : List At} {b : Nat} (h : Names S w L (.map (some b))) : ∀ (cur : Array Value) (e : TypeId) (z : Nat × Nat), w.heap[b]? ≠ some (.cells cur e z) := by
  rcases h.2 with ⟨_, h⟩ | ⟨_, b', h2, _, h4⟩
  · cases h
  · cases h2
    exact h4.obj
theorem Names.lt {S : Nat → Prop} {w : World} {L : List At} {b : Nat} (h : Names S w L (.map (some b))) : b < w.heap.size := by
  rcases h.2 with ⟨_, h⟩ | ⟨_, b', h2, _, h4⟩
  · cases h
  · cases h2
    exact h4.lt
def TrS (S : Nat → Prop) (w : World) (v : Value) : Prop := v = .pointer none ∨ ∃ t, v = .pointer (some ⟨t, 0, none⟩) ∧ Stays S w fun w => G6.TrieIs w 0 t G6.refs
theorem TrS.keep {S : Nat → Prop} {w w' : World} {v : Value} (h : TrS S w v) (k : Keep S w w') : TrS S w' v := by
  rcases h with h | ⟨t, h, h2⟩
  · exact .inl h
  · exact .inr ⟨t, h, h2.keep k⟩
theorem TrS.mono {S U : Nat → Prop} {w : World} {v : Value} (h : TrS S w v) (k : ∀ i, S i → U i) : TrS U w v := by
  rcases h with h | ⟨t, h, h2⟩
  · exact .inl h
  · exact .inr ⟨t, h, h2.mono k⟩
abbrev NoZ : Nat → Prop := fun _ => False
def TkS (Z : Nat → Prop) (w : World) (T : Tk) (L : List At) : Prop := G9.TkOk w T L ∧ (L ≠ [] → ∃ b cur z, T.ao = some ⟨b, 0, none⟩ ∧ w.heap[b]? = some (.cells cur 108 z) ∧ ¬ Z b)
structure MachV (Z : Nat → Prop) (S : Nat → Prop) (x : Nat) (m : Mc) (v : Vs) (T : List TL) (w : World) : Prop where
  low : ∀ k, S k → k < w.heap.size
  hz : ¬ S x ∧ ∀ k, Z k → S k
  hi : Stays S w G6.Hi
  blk : w.heap[x]? = some (.cells (m.cells v) 75 (0, 0))
  bag : Bag S w (m.rows v T)
  names : Names S w m.attrs v.m
  trie : TrS S w v.p
  told : T.map ptOf = m.out
  toks : ∀ t ∈ T, Stays S w fun w => TkS Z w t.1 t.2
theorem MachV.hx {Z S : Nat → Prop} {x : Nat} {m : Mc} {v : Vs} {T : List TL} {w : World} (h : MachV Z S x m v T w) : ¬ S x := h.hz.1
def Mach (Z : Nat → Prop) (S : Nat → Prop) (x : Nat) (m : Mc) (w : World) : Prop := ∃ v T, MachV Z S x m v T w
theorem MachV.lt {Z : Nat → Prop} {S : Nat → Prop} {x : Nat} {m : Mc} {v : Vs} {T : List TL} {w : World} (h : MachV Z S x m v T w) : x < w.heap.size := (Array.getElem?_eq_some_iff.1 h.blk).1
theorem MachV.below {Z : Nat → Prop} {S : Nat → Prop} {x : Nat} {m : Mc} {v : Vs} {T : List TL} {w w' : World} (h : MachV Z S x m v T w) (b : Below w.heap.size w w') : MachV Z S x m v T w' :=
  ⟨fun k hk => Nat.lt_of_lt_of_le (h.low k hk) b.size, h.hz, h.hi.keep (Keep.old b), (b.block x h.lt).trans h.blk, h.bag.below b, h.names.mv (fun _ _ h => h) (fun k e _ => b.block k (by have := h.names; rw [e] at this; exact this.lt)), h.trie.keep (Keep.old b), h.told, fun t ht => (h.toks t ht).keep (Keep.old b)⟩
theorem Mach.below {Z : Nat → Prop} {S : Nat → Prop} {x : Nat} {m : Mc} {w w' : World} (h : Mach Z S x m w) (b : Below w.heap.size w w') : Mach Z S x m w' := by
  obtain ⟨v, T, h⟩ := h
  exact ⟨v, T, h.below b⟩
structure MachW (Z : Nat → Prop) (S : Nat → Prop) (x : Nat) (m : Mc) (v : Vs) (T : List TL) (w : World) : Prop where
  low : ∀ k, S k → k < w.heap.size
  hz : ¬ S x ∧ ∀ k, Z k → S k
  hi : Stays S w G6.Hi
  blk : w.heap[x]? = some (.cells (m.cells v) 75 (0, 0))
  bag : Bag S w (m.rows v T)
  trie : TrS S w v.p
  told : T.map ptOf = m.out
  toks : ∀ t ∈ T, Stays S w fun w => TkS Z w t.1 t.2
theorem MachW.hx {Z S : Nat → Prop} {x : Nat} {m : Mc} {v : Vs} {T : List TL} {w : World} (h : MachW Z S x m v T w) : ¬ S x := h.hz.1
theorem MachV.toW {Z : Nat → Prop} {S : Nat → Prop} {x : Nat} {m : Mc} {v : Vs} {T : List TL} {w : World} (h : MachV Z S x m v T w) : MachW Z S x m v T w := ⟨h.low, h.hz, h.hi, h.blk, h.bag, h.trie, h.told, h.toks⟩
theorem MachW.toV {Z : Nat → Prop} {S : Nat → Prop} {x : Nat} {m : Mc} {v : Vs} {T : List TL} {w : World} (h : MachW Z S x m v T w) (hn : Names S w m.attrs v.m) : MachV Z S x m v T w := ⟨h.low, h.hz, h.hi, h.blk, h.bag, hn, h.trie, h.told, h.toks⟩
theorem MachW.lt {Z : Nat → Prop} {S : Nat → Prop} {x : Nat} {m : Mc} {v : Vs} {T : List TL} {w : World} (h : MachW Z S x m v T w) : x < w.heap.size := (Array.getElem?_eq_some_iff.1 h.blk).1
theorem MachW.below {Z : Nat → Prop} {S : Nat → Prop} {x : Nat} {m : Mc} {v : Vs} {T : List TL} {w w' : World} (h : MachW Z S x m v T w) (b : Below w.heap.size w w') : MachW Z S x m v T w' :=
  ⟨fun k hk => Nat.lt_of_lt_of_le (h.low k hk) b.size, h.hz, h.hi.keep (Keep.old b), (b.block x h.lt).trans h.blk, h.bag.below b, h.trie.keep (Keep.old b), h.told, fun t ht => (h.toks t ht).keep (Keep.old b)⟩
theorem MachW.cells {Z : Nat → Prop} {S : Nat → Prop} {x : Nat} {m : Mc} {v : Vs} {T : List TL} {w : World} (h : MachW Z S x m v T w) (i : Nat) (u : Value) (hu : (m.cells v)[i]? = some u) : w.cell? ⟨x, i, none⟩ = some u := by
  simp only [World.cell?, h.blk]
  exact hu
theorem MachW.free {Z : Nat → Prop} {S : Nat → Prop} {x : Nat} {m : Mc} {v : Vs} {T : List TL} {w : World} (h : MachW Z S x m v T w) (i : Nat) : w.frozen? ⟨x, i, none⟩ = false := by
  simp [World.frozen?, h.blk]
theorem MachW.apart {Z : Nat → Prop} {S : Nat → Prop} {x : Nat} {m : Mc} {v : Vs} {T : List TL} {w : World} (h : MachW Z S x m v T w) (j : Nat) (r : Rw) (hj : (m.rows v T)[j]? = some r) (g : Nat) (hg : r.v.ownBlock = some g) : g ≠ x := fun e => by
  subst e
  obtain ⟨_, cur, zz, hc⟩ := own_blk (h.bag.own j r hj) hg
  rw [h.blk] at hc
  simp at hc
  exact rows_ne m v T r (List.mem_of_getElem? hj) hc.2.1.symm
theorem MachW.put {Z : Nat → Prop} {S : Nat → Prop} {x : Nat} {m m' : Mc} {v v' : Vs} {T T' : List TL} {w W : World} (h : MachW Z S x m v T w) (j i : Nat) (r r' : Rw) (hj : (m.rows v T)[j]? = some r) (ho : r'.own W) (hb : ∀ g, r'.v.ownBlock = some g → r.v.ownBlock = some g ∨ w.heap.size ≤ g) (hg : w.grownBy W r.v.ownBlock)
    (hr : m'.rows v' T' = (m.rows v T).set j r') (hc : (m.cells v).set! i r'.v = m'.cells v') (hp : v'.p = v.p) (hT : T'.map ptOf = m'.out) (htk : ∀ t ∈ T', Stays S w fun w => TkS Z w t.1 t.2) :
    MachW Z S x m' v' T' (W.setCell ⟨x, i, none⟩ r'.v) ∧ Keep S w (W.setCell ⟨x, i, none⟩ r'.v) ∧ W.cell? ⟨x, i, none⟩ = (m.cells v)[i]? ∧ W.frozen? ⟨x, i, none⟩ = false := by
  have hrx := h.apart j r hj
  have hWx : W.heap[x]? = some (.cells (m.cells v) 75 (0, 0)) := (hg.block x h.lt (fun e => hrx x e.symm rfl)).trans h.blk
  have hk0 : Keep S w W := Keep.grown hg (h.bag.out j r hj)
  have hk : Keep S w (W.setCell ⟨x, i, none⟩ r'.v) := hk0.setCell (p := ⟨x, i, none⟩) h.hx _
  have hne : ∀ g, g ≠ x → (W.setCell ⟨x, i, none⟩ r'.v).heap[g]? = W.heap[g]? := fun g hg => Below.heap_setCell _ _ _ _ hg
  have hbx : (W.setCell ⟨x, i, none⟩ r'.v).heap[x]? = some (.cells (m'.cells v') 75 (0, 0)) := by
    rw [← hc]
    simp [World.setCell, Array.getElem?_modify, hWx]
  have hbag : Bag S W (m'.rows v' T') := by
    rw [hr]
    exact h.bag.put h.low j r r' hj ho hb (fun d hd hne2 => hg.block d hd (fun e => hne2 e.symm))
  refine ⟨⟨fun k hS => Nat.lt_of_lt_of_le (h.low k hS) hk.size, h.hz, h.hi.keep hk, hbx, ?_, by rw [hp]; exact h.trie.keep hk, hT, fun t ht => (htk t ht).keep hk⟩, hk, ?_, ?_⟩
  · exact hbag.mv (fun g cur e zz he hg _ => hne g (fun e2 => by subst e2; rw [hWx] at hg; simp at hg; exact he hg.2.1.symm)) (rows_ne _ _ _)
  · simp [World.cell?, hWx]
  · simp [World.frozen?, hWx]
theorem MachW.names {Z : Nat → Prop} {S : Nat → Prop} {x : Nat} {m : Mc} {v : Vs} {T : List TL} {w W : World} (h : MachW Z S x m v T w) {L : List At} {u : Value} (hn : Names S w L u) (j : Nat) (r : Rw) (hj : (m.rows v T)[j]? = some r) (hg : w.grownBy W r.v.ownBlock) (i : Nat) (u' : Value) : Names S (W.setCell ⟨x, i, none⟩ u') L u := by
  refine hn.mv (fun _ _ h => h) (fun b e _ => ?_)
  rw [e] at hn
  rw [Below.heap_setCell _ _ _ _ (fun e2 => hn.obj (m.cells v) 75 (0, 0) (by rw [e2]; exact h.blk))]
  refine hg.block b hn.lt (fun e2 => ?_)
  obtain ⟨_, cur, zz, hc⟩ := own_blk (h.bag.own j r hj) e2.symm
  exact hn.obj _ _ _ hc
theorem MachV.put {Z : Nat → Prop} {S : Nat → Prop} {x : Nat} {m m' : Mc} {v v' : Vs} {T T' : List TL} {w W : World} (h : MachV Z S x m v T w) (j i : Nat) (r r' : Rw) (hj : (m.rows v T)[j]? = some r) (ho : r'.own W) (hb : ∀ g, r'.v.ownBlock = some g → r.v.ownBlock = some g ∨ w.heap.size ≤ g) (hg : w.grownBy W r.v.ownBlock)
    (hr : m'.rows v' T' = (m.rows v T).set j r') (hc : (m.cells v).set! i r'.v = m'.cells v') (ha : m'.attrs = m.attrs) (hm : v'.m = v.m) (hp : v'.p = v.p) (hT : T'.map ptOf = m'.out) (htk : ∀ t ∈ T', Stays S w fun w => TkS Z w t.1 t.2) :
    MachV Z S x m' v' T' (W.setCell ⟨x, i, none⟩ r'.v) ∧ Keep S w (W.setCell ⟨x, i, none⟩ r'.v) ∧ W.cell? ⟨x, i, none⟩ = (m.cells v)[i]? ∧ W.frozen? ⟨x, i, none⟩ = false := by
  obtain ⟨q1, q2⟩ := h.toW.put j i r r' hj ho hb hg hr hc hp hT htk
  refine ⟨q1.toV ?_, q2⟩
  rw [ha, hm]
  exact h.toW.names h.names j r hj hg i _
def setAll (w : World) (x : Nat) (l : List (Nat × Value)) : World := l.foldl (fun w p => w.setCell ⟨x, p.1, none⟩ p.2) w
theorem setAll_ne (x : Nat) : ∀ (l : List (Nat × Value)) (w : World) (g : Nat), g ≠ x → (setAll w x l).heap[g]? = w.heap[g]?
  | [], _, _, _ => rfl
  | _ :: l, _, g, h => (setAll_ne x l _ g h).trans (Below.heap_setCell _ _ _ _ h)
theorem setAll_size (x : Nat) : ∀ (l : List (Nat × Value)) (w : World), (setAll w x l).heap.size = w.heap.size
  | [], _ => rfl
  | _ :: l, _ => (setAll_size x l _).trans (by simp [World.setCell])
theorem setAll_rest (x : Nat) : ∀ (l : List (Nat × Value)) (w : World), (setAll w x l).os = w.os ∧ (setAll w x l).tape = w.tape ∧ (setAll w x l).output = w.output
  | [], _ => ⟨rfl, rfl, rfl⟩
  | _ :: l, _ => setAll_rest x l _
theorem setAll_blk (x : Nat) : ∀ (l : List (Nat × Value)) (w : World) (cs : Array Value) (e : TypeId) (z : Nat × Nat), w.heap[x]? = some (.cells cs e z) → (setAll w x l).heap[x]? = some (.cells (l.foldl (fun a p => a.set! p.1 p.2) cs) e z)
  | [], _, _, _, _, h => h
  | p :: l, w, cs, e, z, h => by
    refine setAll_blk x l (w.setCell ⟨x, p.1, none⟩ p.2) (cs.set! p.1 p.2) e z ?_
    simp [World.setCell, Array.getElem?_modify, h]
theorem setAll_keep {S : Nat → Prop} {x : Nat} (hx : ¬ S x) (l : List (Nat × Value)) (w : World) : Keep S w (setAll w x l) :=
  ⟨(setAll_rest x l w).1, (setAll_rest x l w).2.1, (setAll_rest x l w).2.2, Nat.le_of_eq (setAll_size x l w).symm, fun k hS _ => setAll_ne x l w k (fun e => hx (e ▸ hS))⟩
theorem MachV.turn {Z : Nat → Prop} {S : Nat → Prop} {x : Nat} {m m' : Mc} {v v' : Vs} {T T' : List TL} {w W : World} (h : MachV Z S x m v T w) (l : List (Nat × Value)) (hW : W = setAll w x l) (hc : l.foldl (fun a p => a.set! p.1 p.2) (m.cells v) = m'.cells v') (hr : Bag S w (m'.rows v' T')) (hn : Names S w m'.attrs v'.m) (hp : v'.p = v.p) (hT : T'.map ptOf = m'.out) (htk : ∀ t ∈ T', Stays S w fun w => TkS Z w t.1 t.2) :
    MachV Z S x m' v' T' W ∧ Keep S w W := by
  subst hW
  have hk := setAll_keep h.hx l w
  have hne := setAll_ne x l w
  refine ⟨⟨fun k hS => Nat.lt_of_lt_of_le (h.low k hS) hk.size, h.hz, h.hi.keep hk, by rw [← hc]; exact setAll_blk x l w _ _ _ h.blk, ?_, ?_, by rw [hp]; exact h.trie.keep hk, hT, fun t ht => (htk t ht).keep hk⟩, hk⟩
  · exact hr.mv (fun g cur e zz he hg _ => hne g (fun e2 => by subst e2; rw [h.blk] at hg; simp at hg; exact he hg.2.1.symm)) (rows_ne _ _ _)
  · refine hn.mv (fun _ _ h => h) (fun b e _ => hne b (fun e2 => ?_))
    subst e2
    rw [e] at hn
    exact hn.obj _ _ _ h.blk
theorem MachV.cells {Z : Nat → Prop} {S : Nat → Prop} {x : Nat} {m : Mc} {v : Vs} {T : List TL} {w : World} (h : MachV Z S x m v T w) (i : Nat) (u : Value) (hu : (m.cells v)[i]? = some u) : w.cell? ⟨x, i, none⟩ = some u := by
  simp only [World.cell?, h.blk]
  exact hu
theorem MachV.free {Z : Nat → Prop} {S : Nat → Prop} {x : Nat} {m : Mc} {v : Vs} {T : List TL} {w : World} (h : MachV Z S x m v T w) (i : Nat) : w.frozen? ⟨x, i, none⟩ = false := by
  simp [World.frozen?, h.blk]
def Post (Z : Nat → Prop) (S : Nat → Prop) (x : Nat) (m : Mc) (w w' : World) : Prop := ∃ U, (∀ k, S k → U k) ∧ Mach Z U x m w' ∧ Keep S w w'
theorem Post.refl {Z : Nat → Prop} {S : Nat → Prop} {x : Nat} {m : Mc} {w : World} (h : Mach Z S x m w) : Post Z S x m w w := ⟨S, fun _ h => h, h, Keep.refl _ _⟩
theorem Post.of {Z : Nat → Prop} {S : Nat → Prop} {x : Nat} {m : Mc} {w w' : World} (h : Mach Z S x m w') (k : Keep S w w') : Post Z S x m w w' := ⟨S, fun _ h => h, h, k⟩
theorem Post.go {Z : Nat → Prop} {S U : Nat → Prop} {x : Nat} {m : Mc} {w w1 w' : World} (hU : ∀ k, S k → U k) (k : Keep S w w1) (h : Post Z U x m w1 w') : Post Z S x m w w' := by
  obtain ⟨V, h1, h2, h3⟩ := h
  exact ⟨V, fun i hi => h1 i (hU i hi), h2, k.trans (h3.sub hU)⟩
theorem Post.below {Z : Nat → Prop} {S : Nat → Prop} {x : Nat} {m : Mc} {w w1 w' : World} (b : Below w.heap.size w w1) (h : Post Z S x m w1 w') : Post Z S x m w w' := Post.go (fun _ h => h) (Keep.old b) h
theorem Post.drew {Z : Nat → Prop} {S : Nat → Prop} {x : Nat} {m : Mc} {w w1 : World} (h : Post Z S x m w w1) (n : Nat) : Post Z S x m w (w1.drewN n) := by
  obtain ⟨V, h1, h2, h3⟩ := h
  have b : Below w1.heap.size w1 (w1.drewN n) := G9.below_drewN (Below.refl _ _) n
  exact ⟨V, h1, h2.below b, h3.trans (Keep.old b)⟩
theorem MachV.turn1 {Z : Nat → Prop} {S : Nat → Prop} {x : Nat} {m m' : Mc} {v : Vs} {T : List TL} {w W : World} (h : MachV Z S x m v T w) (l : List (Nat × Value)) (hW : W = setAll w x l) (hc : l.foldl (fun a p => a.set! p.1 p.2) (m.cells v) = m'.cells v) (hr : m'.rows v T = m.rows v T) (ha : m'.attrs = m.attrs) (ho : m'.out = m.out) : Post Z S x m' w W := by
  obtain ⟨q1, q2⟩ := h.turn l hW hc (by rw [hr]; exact h.bag) (by rw [ha]; exact h.names) rfl (by rw [ho]; exact h.told) h.toks
  exact Post.of ⟨_, _, q1⟩ q2
def Mc.tot (m : Mc) : Nat := m.wait.length + m.ref.length + m.nm.length + m.tx.length + m.attrs.length + m.an.length + m.av.length + m.out.length + m.fs.length
end Go.Proofs.YtdiealijjhfhjaaGreatDoor
