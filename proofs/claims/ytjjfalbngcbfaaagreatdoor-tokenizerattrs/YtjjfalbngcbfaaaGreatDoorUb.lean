/- A start tag of plain attributes, pure: the machine reads it as it is. -/
import Derived.Test.YtjjfalbngcbfaaaGreatDoorUa
namespace Go.Proofs.YtjjfalbngcbfaaaGreatDoor
open Go.RowKit

/-- Bytes as characters, from p on. -/
def asc : Int → List UInt8 → List Ch
  | _, [] => []
  | p, b :: l => ⟨(b.toNat : Int), p, p + 1⟩ :: asc (p + 1) l
theorem asc_app : ∀ (A B : List UInt8) (p : Int), asc p (A ++ B) = asc p A ++ asc (p + A.length) B
  | [], B, p => by simp [asc]
  | a :: A, B, p => by
    simp only [List.cons_append, asc, asc_app A B, List.length_cons]
    congr 2
    congr 1
    omega
theorem one_ascii {a : UInt8} (h : a.toNat < 128) (t : List UInt8) : G4.one (a :: t) = ((a.toNat : Int), 1, false) := by
  have hn : G4.need a.toNat = 1 := by unfold G4.need; rw [if_pos h]
  have he : G4.ext 1 a.toNat 1 t = 1 := Nat.le_antisymm (G4.ext_top 1 a.toNat t 1 (Nat.le_refl _)) (G4.ext_ge 1 a.toNat t 1)
  rw [G4.one_cons, hn, if_neg (by decide), he, if_neg (by decide)]
  simp [G4.val, G4.mask]
theorem items_ascii : ∀ (B : List UInt8) (p : Int), (∀ b ∈ B, b.toNat < 128) → G4.chs p (G4.items B) = asc p B
  | [], p, _ => rfl
  | a :: B, p, h => by
    have ha := h a (by simp)
    rw [G4.items_cons _ (by simp), one_ascii ha]
    show G4.chs p (((a.toNat : Int), 1) :: G4.items B) = _
    unfold G4.chs asc
    rw [items_ascii B _ fun b hb => h b (by simp [hb]), if_neg (by omega)]
    rfl
theorem rfs_same : ∀ (l : List Ch), (∀ c ∈ l, c.r ≠ 0 ∧ c.r ≠ 13) → G4.rfs l = l
  | [], _ => rfl
  | [c], h => by
    have := h c (by simp)
    simp [G4.rfs, G4.fix, this]
  | c :: d :: l, h => by
    have hc := h c (by simp)
    unfold G4.rfs
    rw [if_neg (fun e => hc.2 e.1), rfs_same (d :: l) fun e he => h e (by simp at he ⊢; exact .inr he)]
    simp [G4.fix, hc]
theorem asc_r : ∀ (B : List UInt8) (p : Int) (c : Ch), c ∈ asc p B → ∃ b ∈ B, c.r = (b.toNat : Int)
  | [], p, c, h => by simp [asc] at h
  | a :: B, p, c, h => by
    simp only [asc, List.mem_cons] at h
    rcases h with rfl | h
    · exact ⟨a, by simp, rfl⟩
    · obtain ⟨b, h1, h2⟩ := asc_r B _ c h
      exact ⟨b, by simp [h1], h2⟩
theorem chars_ascii (s : ByteArray) (B : List UInt8) (e : s.data.toList = B) (h : ∀ b ∈ B, 32 ≤ b.toNat ∧ b.toNat ≤ 126) : chars s = asc 0 B := by
  show G4.rfs (G4.chs 0 (G4.items s.data.toList)) = _
  rw [e, items_ascii B 0 fun b hb => by have := h b hb; omega]
  refine rfs_same _ fun c hc => ?_
  obtain ⟨b, h1, h2⟩ := asc_r B 0 c hc
  have := h b h1
  omega

/-- Characters that make no token. -/
def Run (m : Mc) (L : List Ch) (m' : Mc) : Prop := L.foldl (fdStep false) ([], m) = ([], m')
theorem Run.app {m m1 m2 : Mc} {L M : List Ch} (h : Run m L m1) (k : Run m1 M m2) : Run m (L ++ M) m2 := by
  unfold Run at h k ⊢
  rw [List.foldl_append, h, k]
theorem run_nil (m : Mc) : Run m [] m := rfl
theorem run_one {m m' : Mc} {c : Ch} (hr : m.ref = []) (h : m.take c = m') (ho : m'.out = []) : Run m [c] m' := by
  have hs : m.step c = m' := by unfold Mc.step; rw [if_neg (by simpa using hr)]; exact h
  show fdStep false ([], m) c = ([], m')
  unfold fdStep Mc.feed
  rw [hs, ho]
  obtain ⟨⟩ := m'
  simp at ho
  subst ho
  rfl
theorem run_cons {m m1 m2 : Mc} {c : Ch} {L : List Ch} (h : Run m [c] m1) (k : Run m1 L m2) : Run m (c :: L) m2 := Run.app (L := [c]) h k

/-- A start tag that is being read. -/
def tg (st : Nat) (nm : List UInt8) (ats : List At) (a : Int) (an av : List UInt8) (cnt : Bool) : Mc := ⟨st, 79, 0, false, ByteArray.empty, [], [], 2, 0, nm, [], false, ats, a, an, av, cnt, [], []⟩
theorem name_facts {b : UInt8} (h : nameB b = true) : (b.toNat : Int) ≠ 33 ∧ (b.toNat : Int) ≠ 47 ∧ (b.toNat : Int) ≠ 62 ∧ (b.toNat : Int) ≠ 61 ∧ (b.toNat : Int) ≠ 34 ∧ (b.toNat : Int) ≠ 39 ∧ (b.toNat : Int) ≠ 60 ∧ blk (b.toNat : Int) = false ∧ enc (lowr (b.toNat : Int)) = [b] ∧ enc (b.toNat : Int) = [b] := by
  unfold nameB at h
  have h := of_decide_eq_true h
  have hl : lowr (b.toNat : Int) = (b.toNat : Int) := by unfold lowr; rw [if_neg (by omega)]
  have he : enc (b.toNat : Int) = [b] := by
    rw [enc_low (by omega) (by omega)]
    simp
  refine ⟨by omega, by omega, by omega, by omega, by omega, by omega, by omega, ?_, by rw [hl]; exact he, he⟩
  unfold blk G7.blk
  simp
  omega
theorem r_name {nm : List UInt8} {ats : List At} {a : Int} {an av : List UInt8} {cnt : Bool} {b : UInt8} (h : nameB b = true) (p q : Int) : Run (tg 81 nm ats a an av cnt) [⟨b.toNat, p, q⟩] (tg 81 (nm ++ [b]) ats a an av cnt) := by
  obtain ⟨h1, h2, h3, h4, h5, h6, h7, h8, h9, _⟩ := name_facts h
  refine run_one rfl ?_ rfl
  show Mc.tagName _ _ = _
  unfold Mc.tagName
  rw [if_neg (by simpa using h8), if_neg h2, if_neg h3]
  show ({ tg 81 nm ats a an av cnt with nm := nm ++ enc (lowr (b.toNat : Int)) } : Mc) = _
  rw [h9]
  rfl
theorem r_names : ∀ (l : List UInt8) (nm : List UInt8) (p : Int), l.all nameB = true → Run (tg 81 nm [] 0 [] [] false) (asc p l) (tg 81 (nm ++ l) [] 0 [] [] false)
  | [], nm, p, _ => by rw [List.append_nil]; exact run_nil _
  | b :: l, nm, p, h => by
    simp at h
    have h2 : l.all nameB = true := by simpa using h.2
    have := r_names l (nm ++ [b]) (p + 1) h2
    rw [List.append_assoc] at this
    exact run_cons (r_name h.1 p (p + 1)) this
theorem r_space {st : Nat} (hs : st = 81 ∨ st = 187) {nm : List UInt8} {ats : List At} {a : Int} {an av : List UInt8} {cnt : Bool} (p q : Int) : Run (tg st nm ats a an av cnt) [⟨32, p, q⟩] (tg 119 nm ats a an av cnt) := by
  refine run_one rfl ?_ rfl
  rcases hs with rfl | rfl <;> rfl
theorem r_first {nm : List UInt8} {ats : List At} {a : Int} {an av : List UInt8} {cnt : Bool} {b : UInt8} (h : nameB b = true) (p q : Int) : Run (tg 119 nm ats a an av cnt) [⟨b.toNat, p, q⟩] (tg 151 nm (ats ++ if cnt then [⟨bs an, bs av⟩] else []) p [b] [] false) := by
  obtain ⟨h1, h2, h3, h4, h5, h6, h7, h8, h9, _⟩ := name_facts h
  refine run_one rfl ?_ rfl
  show Mc.beforeName _ _ = _
  unfold Mc.beforeName
  rw [if_neg (by simpa using h8), if_neg (by simp only; omega), if_neg h4]
  unfold Mc.name Mc.inName
  rw [if_neg (by simp only; simp [h8, h2, h3]), if_neg h4, if_neg (by simp only; omega)]
  show ({ ({ (tg 119 nm ats a an av cnt).begA p with st := 151 } : Mc) with an := [] ++ enc (lowr (b.toNat : Int)) } : Mc) = _
  rw [h9]
  rfl
theorem r_more {nm : List UInt8} {ats : List At} {a : Int} {an av : List UInt8} {cnt : Bool} {b : UInt8} (h : nameB b = true) (p q : Int) : Run (tg 151 nm ats a an av cnt) [⟨b.toNat, p, q⟩] (tg 151 nm ats a (an ++ [b]) av cnt) := by
  obtain ⟨h1, h2, h3, h4, h5, h6, h7, h8, h9, _⟩ := name_facts h
  refine run_one rfl ?_ rfl
  show Mc.name _ _ = _
  unfold Mc.name Mc.inName
  rw [if_neg (by simp only; simp [h8, h2, h3]), if_neg h4, if_neg (by simp only; omega)]
  show ({ tg 151 nm ats a an av cnt with an := an ++ enc (lowr (b.toNat : Int)) } : Mc) = _
  rw [h9]
  rfl
theorem r_mores : ∀ (l : List UInt8) {nm : List UInt8} {ats : List At} {a : Int} {an av : List UInt8} {cnt : Bool} (p : Int), l.all nameB = true → Run (tg 151 nm ats a an av cnt) (asc p l) (tg 151 nm ats a (an ++ l) av cnt)
  | [], nm, ats, a, an, av, cnt, p, _ => by rw [List.append_nil]; exact run_nil _
  | b :: l, nm, ats, a, an, av, cnt, p, h => by
    simp at h
    have h2 : l.all nameB = true := by simpa using h.2
    have := r_mores l (nm := nm) (ats := ats) (a := a) (an := an ++ [b]) (av := av) (cnt := cnt) (p + 1) h2
    rw [List.append_assoc] at this
    exact run_cons (r_more h.1 p (p + 1)) this
theorem r_eq {nm : List UInt8} {ats : List At} {a : Int} {an av : List UInt8} (h : ∀ x ∈ ats, x.nm ≠ an) (p q : Int) : Run (tg 151 nm ats a an av false) [⟨61, p, q⟩] (tg 170 nm ats a an av true) := by
  refine run_one rfl ?_ rfl
  have hh : (tg 151 nm ats a an av false).has = false := by
    show (ats.any fun x => decide (x.nm = an)) = false
    rw [List.any_eq_false]
    intro x hx
    simpa using h x hx
  show Mc.name _ _ = _
  unfold Mc.name Mc.inName
  rw [if_neg (show ¬ (blk 61 = true ∨ (61 : Int) = 47 ∨ (61 : Int) = 62) by decide), if_pos rfl]
  unfold Mc.endName
  rw [if_neg (by rw [hh]; decide)]
  rfl
theorem r_open {nm : List UInt8} {ats : List At} {a : Int} {an av : List UInt8} {cnt : Bool} (p q : Int) : Run (tg 170 nm ats a an av cnt) [⟨34, p, q⟩] (tg 181 nm ats a an av cnt) := run_one rfl rfl rfl
theorem r_close {nm : List UInt8} {ats : List At} {a : Int} {an av : List UInt8} {cnt : Bool} (p q : Int) : Run (tg 181 nm ats a an av cnt) [⟨34, p, q⟩] (tg 187 nm ats a an av cnt) := run_one rfl rfl rfl
/-- A byte of a plain value. -/
def valB (b : UInt8) : Bool := decide (32 ≤ b.toNat ∧ b.toNat ≤ 126 ∧ b.toNat ≠ 34 ∧ b.toNat ≠ 38)
theorem r_val {nm : List UInt8} {ats : List At} {a : Int} {an av : List UInt8} {cnt : Bool} {b : UInt8} (h : valB b = true) (p q : Int) : Run (tg 181 nm ats a an av cnt) [⟨b.toNat, p, q⟩] (tg 181 nm ats a an (av ++ [b]) cnt) := by
  unfold valB at h
  have h := of_decide_eq_true h
  have he : enc (b.toNat : Int) = [b] := by
    rw [enc_low (by omega) (by omega)]
    simp
  refine run_one rfl ?_ rfl
  show Mc.quoted _ _ 34 = _
  unfold Mc.quoted
  rw [if_neg (by simp only; omega), if_neg (by simp only; omega)]
  show ({ tg 181 nm ats a an av cnt with av := av ++ enc (b.toNat : Int) } : Mc) = _
  rw [he]
  rfl
theorem r_vals : ∀ (l : List UInt8) {nm : List UInt8} {ats : List At} {a : Int} {an av : List UInt8} {cnt : Bool} (p : Int), l.all valB = true → Run (tg 181 nm ats a an av cnt) (asc p l) (tg 181 nm ats a an (av ++ l) cnt)
  | [], nm, ats, a, an, av, cnt, p, _ => by rw [List.append_nil]; exact run_nil _
  | b :: l, nm, ats, a, an, av, cnt, p, h => by
    simp at h
    have h2 : l.all valB = true := by simpa using h.2
    have := r_vals l (nm := nm) (ats := ats) (a := a) (an := an) (av := av ++ [b]) (cnt := cnt) (p + 1) h2
    rw [List.append_assoc] at this
    exact run_cons (r_val h.1 p (p + 1)) this
/-- An attribute, as it is told. -/
def chunk (x : At) : List UInt8 := [32] ++ x.nm ++ [61, 34] ++ x.vl ++ [34]
/-- The tag with these attributes read. -/
def Att (nm : List UInt8) (L : List At) (m : Mc) : Prop := ∃ st ats a an av cnt, (st = 81 ∨ st = 187) ∧ m = tg st nm ats a an av cnt ∧ (ats ++ if cnt then [⟨bs an, bs av⟩] else []) = L
theorem bs_self (s : ByteArray) : bs s.data.toList = s := by simp [bs]
theorem r_chunk {nm : List UInt8} {L : List At} {m : Mc} (h : Att nm L m) (x : At) (hn : x.nm.all nameB = true) (h0 : x.nm ≠ []) (hv : x.vl.all valB = true) (hd : ∀ y ∈ L, y.nm ≠ x.nm) (p : Int) : ∃ m', Run m (asc p (chunk x)) m' ∧ Att nm (L ++ [x]) m' := by
  obtain ⟨st, ats, a, an, av, cnt, hs, rfl, hL⟩ := h
  obtain ⟨b, l, hbl⟩ : ∃ b l, x.nm = b :: l := by
    cases e : x.nm with
    | nil => exact absurd e h0
    | cons b l => exact ⟨b, l, rfl⟩
  have hb : nameB b = true ∧ l.all nameB = true := by
    rw [hbl] at hn
    simpa using hn
  refine ⟨tg 187 nm L (p + 1) x.nm x.vl true, ?_, 187, L, p + 1, x.nm, x.vl, true, .inr rfl, rfl, ?_⟩
  · unfold chunk
    rw [asc_app, asc_app, asc_app, asc_app]
    have s1 : Run (tg st nm ats a an av cnt) (asc p [32]) (tg 119 nm ats a an av cnt) := r_space hs p (p + 1)
    have s2 : Run (tg 119 nm ats a an av cnt) (asc (p + ([32] : List UInt8).length) x.nm) (tg 151 nm L (p + 1) x.nm [] false) := by
      rw [hbl]
      have q1 := r_first (nm := nm) (ats := ats) (a := a) (an := an) (av := av) (cnt := cnt) hb.1 (p + 1) (p + 1 + 1)
      rw [hL] at q1
      exact run_cons q1 (r_mores l (nm := nm) (ats := L) (a := p + 1) (an := [b]) (av := []) (cnt := false) (p + 1 + 1) hb.2)
    have s3 : Run (tg 151 nm L (p + 1) x.nm [] false) (asc (p + ([32] ++ x.nm).length) [61, 34]) (tg 181 nm L (p + 1) x.nm [] true) := run_cons (r_eq hd _ _) (r_open _ _)
    have s4 : Run (tg 181 nm L (p + 1) x.nm [] true) (asc (p + ([32] ++ x.nm ++ [61, 34]).length) x.vl) (tg 181 nm L (p + 1) x.nm x.vl true) := r_vals x.vl _ hv
    have s5 : Run (tg 181 nm L (p + 1) x.nm x.vl true) (asc (p + ([32] ++ x.nm ++ [61, 34] ++ x.vl).length) [34]) (tg 187 nm L (p + 1) x.nm x.vl true) := r_close _ _
    exact (((s1.app s2).app s3).app s4).app s5
  · simp only [if_pos]
    rw [bs_self, bs_self]
theorem r_chunks {nm : List UInt8} : ∀ (l L : List At) (m : Mc) (p : Int), Att nm L m → (∀ x ∈ l, x.nm.all nameB = true ∧ x.nm ≠ [] ∧ x.vl.all valB = true) → (L ++ l).Pairwise (fun x y => x.nm ≠ y.nm) → ∃ m', Run m (asc p (l.flatMap chunk)) m' ∧ Att nm (L ++ l) m'
  | [], L, m, p, h, _, _ => ⟨m, run_nil _, by rw [List.append_nil]; exact h⟩
  | x :: l, L, m, p, h, h1, h2 => by
    have hx := h1 x (by simp)
    have hd : ∀ y ∈ L, y.nm ≠ x.nm := fun y hy => (List.pairwise_append.1 h2).2.2 y hy x (by simp)
    obtain ⟨m1, r1, a1⟩ := r_chunk h x hx.1 hx.2.1 hx.2.2 hd p
    have e : L ++ x :: l = (L ++ [x]) ++ l := by simp
    rw [e] at h2 ⊢
    obtain ⟨m2, r2, a2⟩ := r_chunks l (L ++ [x]) m1 (p + (chunk x).length) a1 (fun y hy => h1 y (by simp [hy])) h2
    rw [List.flatMap_cons, asc_app]
    exact ⟨m2, r1.app r2, a2⟩
/-- The text of a start tag. -/
def tagB (name : List UInt8) (l : List At) : List UInt8 := [60] ++ name ++ l.flatMap chunk ++ [62]
theorem tag_all (s name : ByteArray) (l : List At) (e : s.data.toList = tagB name.data.toList l) (hn : name.data.toList.all nameB = true) (b0 : UInt8) (n1 : List UInt8) (h0 : name.data.toList = b0 :: n1) (hb : 97 ≤ b0.toNat ∧ b0.toNat ≤ 122)
    (hl : ∀ x ∈ l, x.nm.all nameB = true ∧ x.nm ≠ [] ∧ x.vl.all valB = true) (hd : l.Pairwise (fun x y => x.nm ≠ y.nm)) :
    allP s 0 false false = ([⟨2, 0, name, ByteArray.empty, l, false, 0, s.size⟩, ⟨6, 0, ByteArray.empty, ByteArray.empty, [], false, s.size, s.size⟩], []) := by
  have low : ∀ b ∈ tagB name.data.toList l, 32 ≤ b.toNat ∧ b.toNat ≤ 126 := by
    have n1 : ∀ b, nameB b = true → 32 ≤ b.toNat ∧ b.toNat ≤ 126 := fun b hb => by
      unfold nameB at hb
      have := of_decide_eq_true hb
      omega
    have v1 : ∀ b, valB b = true → 32 ≤ b.toNat ∧ b.toNat ≤ 126 := fun b hb => by
      unfold valB at hb
      have := of_decide_eq_true hb
      omega
    intro b hb
    unfold tagB at hb
    simp only [List.mem_append, List.mem_flatMap, List.mem_singleton] at hb
    rcases hb with ((rfl | hb) | ⟨x, hx, hb⟩) | rfl
    · decide
    · exact n1 b (List.all_eq_true.1 hn b hb)
    · have := hl x hx
      unfold chunk at hb
      simp only [List.mem_append, List.mem_cons, List.not_mem_nil, or_false] at hb
      rcases hb with (((rfl | hb) | (rfl | rfl)) | hb) | rfl
      · decide
      · exact n1 b (List.all_eq_true.1 this.1 b hb)
      · decide
      · decide
      · exact v1 b (List.all_eq_true.1 this.2.2 b hb)
      · decide
    · decide
  have hlen : s.size = (tagB name.data.toList l).length := by rw [← e]; exact Array.length_toList.symm
  have hc := chars_ascii s _ e low
  have hn1 : n1.all nameB = true := by
    rw [h0] at hn
    simp at hn
    simpa using hn.2
  -- the < and the name
  have r0 : Run (Mc.begin0 0 false) [⟨60, 0, 1⟩] ⟨49, 50, 0, false, ByteArray.empty, [⟨60, 0, 1⟩], [], 0, 0, [], [], false, [], 0, [], [], false, [], []⟩ := run_one rfl rfl rfl
  have r1 : Run ⟨49, 50, 0, false, ByteArray.empty, [⟨60, 0, 1⟩], [], 0, 0, [], [], false, [], 0, [], [], false, [], []⟩ [⟨b0.toNat, 1, 1 + 1⟩] (tg 81 [b0] [] 0 [] [] false) := by
    have hB : nameB b0 = true := by unfold nameB; simp; omega
    obtain ⟨q1, q2, q3, q4, q5, q6, q7, q8, q9, _⟩ := name_facts hB
    refine run_one rfl ?_ rfl
    show Mc.tagOpen _ _ = _
    unfold Mc.tagOpen
    rw [if_neg q1, if_neg q2, if_pos (by unfold ltr; simp; omega)]
    unfold Mc.tagName
    rw [if_neg (by simpa using q8), if_neg q2, if_neg q3]
    show ({ (({ (⟨49, 50, 0, false, ByteArray.empty, [⟨60, 0, 1⟩], [], 0, 0, [], [], false, [], 0, [], [], false, [], []⟩ : Mc).beg 2 79 with st := 81 }) : Mc) with nm := [] ++ enc (lowr (b0.toNat : Int)) } : Mc) = _
    rw [q9]
    rfl
  have r2 := r_names n1 [b0] (1 + 1) hn1
  have rN : Run (Mc.begin0 0 false) (asc 0 ([60] ++ name.data.toList)) (tg 81 name.data.toList [] 0 [] [] false) := by
    rw [h0, asc_app]
    exact r0.app (run_cons r1 r2)
  obtain ⟨m2, rA, aA⟩ := r_chunks l [] (tg 81 name.data.toList [] 0 [] [] false) (0 + ([60] ++ name.data.toList).length) ⟨81, [], 0, [], [], false, .inl rfl, rfl, rfl⟩ hl (by simpa using hd)
  rw [List.nil_append] at aA
  have rAll := rN.app rA
  rw [← asc_app] at rAll
  -- the >
  obtain ⟨st, ats, a, an, av, cnt, hs, rfl, hL⟩ := aA
  have hpos : (0 : Int) + (([60] ++ name.data.toList) ++ l.flatMap chunk).length + 1 = s.size := by
    rw [hlen]
    unfold tagB
    simp only [List.length_append, List.length_cons, List.length_nil]
    omega
  have hfeed : Mc.feeds false (chars s) (Mc.begin0 0 false) = ([⟨2, 0, name, ByteArray.empty, l, false, 0, s.size⟩], { Mc.new with last := name }) := by
    unfold Mc.feeds
    rw [hc]
    unfold tagB
    rw [asc_app, List.foldl_append]
    unfold Run at rAll
    rw [rAll]
    show fdStep false ([], tg st name.data.toList ats a an av cnt) ⟨62, _, _⟩ = _
    have ht : (tg st name.data.toList ats a an av cnt).take ⟨62, 0 + (([60] ++ name.data.toList) ++ l.flatMap chunk).length, 0 + (([60] ++ name.data.toList) ++ l.flatMap chunk).length + 1⟩ = (tg st name.data.toList ats a an av cnt).tellTag ⟨62, 0 + (([60] ++ name.data.toList) ++ l.flatMap chunk).length, 0 + (([60] ++ name.data.toList) ++ l.flatMap chunk).length + 1⟩ := by
      rcases hs with rfl | rfl <;> rfl
    have hstep : (tg st name.data.toList ats a an av cnt).step ⟨62, 0 + (([60] ++ name.data.toList) ++ l.flatMap chunk).length, 0 + (([60] ++ name.data.toList) ++ l.flatMap chunk).length + 1⟩ = { Mc.new with last := name, out := [⟨2, 0, name, ByteArray.empty, l, false, 0, s.size⟩] } := by
      unfold Mc.step
      rw [if_neg (by simp [tg]), ht, ← hpos, ← hL]
      unfold Mc.tellTag
      simp [Mc.keep, tg, Mc.tell, Mc.tagPt, Mc.toData, Mc.noMade, Mc.new, bs_self]
      cases cnt <;> rfl
    unfold fdStep Mc.feed
    rw [hstep]
    rfl
  unfold allP
  rw [hfeed]
  rfl
end Go.Proofs.YtjjfalbngcbfaaaGreatDoor
