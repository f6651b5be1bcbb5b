/- The law ArenaCopies holds for any deeds: a copy has all that there was, and neither changes the other. No condition. -/
import Derived.Test.YtcdaghlbfclpkaaGb
import Derived.Test.YtcdaghlbfclpkaaUj
import Derived.Test.YtcdaghlbfclpkaaJa
import Derived.Test.YtcdaghlbfclpkaaDl
import Derived.Deep.RegionHeld3
import Derived.Deep.DeepCutAuto
import Derived.Deep.CutBlock
import Derived.Test.YtcdaghlbfclpkaaBf
namespace Go.Proofs.Ytcdaghlbfclpkaa
open Go.RowKit

/-- What Equal says of two trees of the document. -/
def Eqs (D : Nat → Nd) (K : Nat → List Nat) : Prop := ∀ (Q U : Nat → Prop) (w : World) (av kv av' kv' : Value), TV Q w D K 0 av kv → TV U w D K 0 av' kv' → Calls Try.prog 19 #[.agg #[iv (D 0).id, iv (D 0).kind, iv (D 0).space, .string (D 0).name, .string (D 0).text, av, iv (D 0).sf, iv (D 0).st, iv (D 0).ef, iv (D 0).et, kv], .agg #[iv (D 0).id, iv (D 0).kind, iv (D 0).space, .string (D 0).name, .string (D 0).text, av', iv (D 0).sf, iv (D 0).st, iv (D 0).ef, iv (D 0).et, kv']] w fun e w' => e = .returned (.bool true) ∧ Below w.heap.size w w'
/-- All arenas that are like one have one tree. -/
theorem Rel.trees {N : List Nd} {P : List Sp} {E : List En} {L : List RN} (h : Rel N P E L) (hn : L.length ≤ 1000000000) : ∃ D K, Eqs D K ∧ (∀ N', Rel N' P E L → ∀ S w x, Ar S w x N' P E → Calls Try.prog 20 #[ptr x, iv 0] w (TreeV D K 0 w)) ∧ ∀ S w y, Ra S w y L → Calls Try.prog 21 #[ptr y, iv 0] w (RTreed D K 0 w) := by
  obtain ⟨sz0, hF0, _⟩ := h.fam
  obtain ⟨D, hDr, hDa⟩ : ∃ D : Nat → Nd, (∀ (i : Nat) (r : RN), L[i]? = some r → D i = { r.d with id := (i : Int) }) ∧ ∀ i, (D i).al.length ≤ 1000000000 := by
    refine ⟨fun i => ((L[i]?.map fun r => ({ r.d with id := (i : Int) } : Nd)).getD (doc0 (iv 0))), fun i r hr => by simp [hr], fun i => ?_⟩
    cases hr : L[i]? with
    | none => simp [hr, doc0]
    | some r => simpa [hr] using h.al r (List.mem_of_getElem? hr)
  refine ⟨D, ksOf L, fun Q U w av kv av' kv' h1 h2 => equal_any (fun i k hk => hF0.lt i k hk) (fun i => ?_) hDa _ 0 w av kv av' kv' (Nat.lt_succ_self _) h1 h2, fun N' hR S w x ha => ?_, fun S w y hr => ?_⟩
  · have := hF0.ln i
    omega
  · obtain ⟨sz, hF, hsz⟩ := hR.fam
    obtain ⟨g, n', cn, hh, cs, k, ce, o⟩ := ha.open (by rw [hR.nl]; exact hR.n0)
    obtain rfl : n' = L.length := by rw [← o.nn, hR.nl]
    have hD : Same1 N' D := fun i d hd => by
      obtain ⟨_, _, _, r, q1, _, _, hr⟩ := hR.atL (by rw [← hR.nl]; exact lt_of hd)
      rw [hd] at q1
      simp at q1
      obtain ⟨a1, a2⟩ := hR.nd i d r hd hr
      have a3 := hR.al r (List.mem_of_getElem? hr)
      rw [hDr i r hr]
      refine ⟨fun av kv => ?_, a2.al, by rw [a2.al]; exact a3⟩
      simp only [Nd.cs, a1, a2.kind, a2.space, a2.name, a2.text, a2.sf, a2.st, a2.ef, a2.et]
    obtain ⟨d0, _, _, r0, hd0, _, _, hr0⟩ := hR.atL hR.n0
    exact (tree_any o hF (i := 0) hd0 (by have := hsz 0 hR.n0; omega)).mono fun e w'' h => treed_v hD hd0 h
  · obtain ⟨gr, nr, cr, o2⟩ := hr.open h.n0
    refine rtree_any o2 hDr (fun i r hr => ksOf_of hr) h.al (fun r hr => ?_) (fun i k hk => hF0.lt i k hk) (fun i r k hr hk => ?_) _ 0 w (Below.refl _ _) h.n0 (Nat.lt_succ_self _)
    · obtain ⟨i, hi⟩ := List.getElem?_of_mem hr
      have := hF0.ln i
      rw [ksOf_of hi] at this
      omega
    · obtain ⟨_, r', q, _⟩ := h.pk hr hk
      exact lt_of q
/-- Other places for the attributes. -/
theorem Rel.av {N M : List Nd} {P : List Sp} {E : List En} {L : List RN} (h : Rel N P E L) (hl : M.length = N.length) (hM : ∀ (j : Nat) d, N[j]? = some d → ∃ av, M[j]? = some { d with av := av }) : Rel M P E L := by
  refine ⟨h.n0, by rw [hl]; exact h.nl, h.pl, h.el, fun i d r hd hr => ?_, h.up, h.kd, h.ap, h.kp, h.dp, h.al⟩
  obtain ⟨d0, _, _, _, q, _⟩ := h.atL (lt_of hr)
  obtain ⟨av, q2⟩ := hM i d0 q
  rw [hd] at q2
  simp at q2
  subst q2
  obtain ⟨a1, a2⟩ := h.nd i d0 r q hr
  exact ⟨a1, a2.kind, a2.space, a2.name, a2.text, a2.al, a2.sf, a2.st, a2.ef, a2.et⟩
/-- Both arenas alike, behind some deeds. -/
def DZ (Z : Nat → Prop) (w : World) (x y m : Nat) (w' : World) : Prop := Keep Z w w' ∧ ∃ N P E L, Rel N P E L ∧ L.length ≤ m ∧ Two Z w' x y N P E L
/-- Two arenas that need not be alike, behind some deeds. -/
def DU (Z : Nat → Prop) (w : World) (x y m : Nat) (w' : World) : Prop := Keep Z w w' ∧ ∃ N P E L, RelU m N P E L ∧ Two Z w' x y N P E L
theorem DZ.next {Z : Nat → Prop} {w w' : World} {x y m : Nat} (h : DZ Z w x y m w') (hm : m ≤ 700000000) {T : Dd} (hT : ∀ w', Keep Z w w' → AtRow w' T.ao T.d.al) (hf : T.d.al.length ≤ 1000000000) :
    Calls Try.prog 12 #[ptr x, ptr y, .agg T.arr] w' (fun e w'' => (∃ r, e = .returned (iv r)) ∧ DZ Z w x y (m + 1) w'') := by
  obtain ⟨b, N, P, E, L, h1, h2, h3⟩ := h
  refine (do_any h3 h1 rfl (by omega) T (fun w'' k => hT w'' (b.trans k)) hf).mono ?_
  rintro e w'' ⟨rfl, k, N', P', E', L', r1, r2, r3⟩
  exact ⟨⟨_, rfl⟩, b.trans k, N', P', E', L', r1, by omega, r3⟩
theorem DU.next {Z : Nat → Prop} {w w' : World} {x y m : Nat} (h : DU Z w x y m w') (hm : m ≤ 700000000) {T : Dd} (hT : ∀ w', Keep Z w w' → AtRow w' T.ao T.d.al) (hf : T.d.al.length ≤ 1000000000) :
    Calls Try.prog 12 #[ptr x, ptr y, .agg T.arr] w' (fun e w'' => (∃ r, e = .returned (iv r)) ∧ DU Z w x y (m + 1) w'') := by
  obtain ⟨b, N, P, E, L, h1, h3⟩ := h
  refine (du_any h3 h1 (by omega) T (fun w'' k => hT w'' (b.trans k)) hf).mono ?_
  rintro e w'' ⟨he, k, N', P', E', L', r1, r3⟩
  exact ⟨he, b.trans k, N', P', E', L', r1, r3⟩
theorem Deeds.dz {w w' : World} {x y i : Nat} (h : Deeds w x y i w') : DZ (fun k => k < w.heap.size) w x y (i + 1) w' := h
end Go.Proofs.Ytcdaghlbfclpkaa
namespace Go.Proofs.Ytcdaghlbfclpkaa
open Go.RowKit

theorem DZ.old {Z : Nat → Prop} {w w' w2 : World} {x y m : Nat} (h : DZ Z w x y m w') (b : Below w'.heap.size w' w2) : DZ Z w x y m w2 := by
  obtain ⟨k, N, P, E, L, h1, h2, h3⟩ := h
  exact ⟨k.trans (Keep.old b), N, P, E, L, h1, h2, h3.old b⟩
theorem DZ.le {Z : Nat → Prop} {w w' : World} {x y m n : Nat} (h : DZ Z w x y m w') (hm : m ≤ n) : DZ Z w x y n w' := by
  obtain ⟨k, N, P, E, L, h1, h2, h3⟩ := h
  exact ⟨k, N, P, E, L, h1, Nat.le_trans h2 hm, h3⟩
theorem DU.le {Z : Nat → Prop} {w w' : World} {x y m n : Nat} (h : DU Z w x y m w') (hm : m ≤ n) : DU Z w x y n w' := by
  obtain ⟨k, N, P, E, L, ⟨L1, N2, P2, E2, q1, q2, q3, q4⟩, h3⟩ := h
  exact ⟨k, N, P, E, L, ⟨L1, N2, P2, E2, q1, by omega, q3, by omega⟩, h3⟩
theorem AtRow.same {w w' : World} {lo : Option Addr} {l : List At} (h : AtRow w lo l) (hs : w.heap.size ≤ w'.heap.size) (b : ∀ k, k < w.heap.size → w'.heap[k]? = w.heap[k]?) : AtRow w' lo l := fun i x hx => by
  obtain ⟨k, off, h1, h2, h3, h4⟩ := h i x hx
  exact ⟨k, off, h1, Nat.lt_of_lt_of_le h2 hs, by rw [← h3]; exact cell_same (b k h2) _, by rw [← h4]; exact cell_same (b k h2) _⟩
/-- A copy and a new arena, apart from all else. -/
theorem two_cy {w1 w2 w4 w5 : World} {c y : Nat} {M : List Nd} {P : List Sp} {E : List En} {R : List RN} (hc : Ar (fun k => k < w1.heap.size) w2 c M P E) (hs : w1.heap.size ≤ w2.heap.size) (b24 : Below w2.heap.size w2 w4) (hy : Ra (fun k => k < w4.heap.size) w5 y R) (b45 : Below w4.heap.size w4 w5) :
    Two (fun k => k < w1.heap.size ∨ (w2.heap.size ≤ k ∧ k < w4.heap.size)) w5 c y M P E R := by
  have h1 := b24.size
  have h2 := b45.size
  refine ⟨fun k => w1.heap.size ≤ k ∧ k < w2.heap.size, fun k hk => ⟨by omega, fun q => by rcases q with q | q <;> omega⟩, fun k hk => by rcases hk with q | q <;> omega, (hc.wide (b24.trans (b45.mono h1))).sub fun k hk => ?_, hy.mv (fun k hk => ?_) (fun k hl hn hU => hn ?_) (fun _ _ _ => rfl)⟩
  · obtain ⟨q1, q2⟩ := hk
    by_cases q : k < w1.heap.size
    · exact .inl q
    · exact .inr ⟨Nat.le_of_not_lt fun z => q2 ⟨Nat.le_of_not_lt q, z⟩, q1⟩
  · rcases hk with q | q | q <;> omega
  · rcases hU with q | q | q
    · show k < w4.heap.size
      omega
    · show k < w4.heap.size
      omega
    · exact q.2
theorem box11s {w w' : World} {tw : Nat} {u0 u1 u2 u3 u4 u5 u6 u7 u8 u9 u10 : Value} (b : w'.heap[tw]? = w.heap[tw]?) (h : w.cell? ⟨tw, 0, none⟩ = some u0 ∧ w.cell? ⟨tw, 1, none⟩ = some u1 ∧ w.cell? ⟨tw, 2, none⟩ = some u2 ∧ w.cell? ⟨tw, 3, none⟩ = some u3 ∧ w.cell? ⟨tw, 4, none⟩ = some u4 ∧ w.cell? ⟨tw, 5, none⟩ = some u5 ∧ w.cell? ⟨tw, 6, none⟩ = some u6 ∧ w.cell? ⟨tw, 7, none⟩ = some u7 ∧ w.cell? ⟨tw, 8, none⟩ = some u8 ∧ w.cell? ⟨tw, 9, none⟩ = some u9 ∧ w.cell? ⟨tw, 10, none⟩ = some u10) : w'.cell? ⟨tw, 0, none⟩ = some u0 ∧ w'.cell? ⟨tw, 1, none⟩ = some u1 ∧ w'.cell? ⟨tw, 2, none⟩ = some u2 ∧ w'.cell? ⟨tw, 3, none⟩ = some u3 ∧ w'.cell? ⟨tw, 4, none⟩ = some u4 ∧ w'.cell? ⟨tw, 5, none⟩ = some u5 ∧ w'.cell? ⟨tw, 6, none⟩ = some u6 ∧ w'.cell? ⟨tw, 7, none⟩ = some u7 ∧ w'.cell? ⟨tw, 8, none⟩ = some u8 ∧ w'.cell? ⟨tw, 9, none⟩ = some u9 ∧ w'.cell? ⟨tw, 10, none⟩ = some u10 := by
  obtain ⟨h0, h1, h2, h3, h4, h5, h6, h7, h8, h9, h10⟩ := h
  exact ⟨(cell_same b _).trans h0, (cell_same b _).trans h1, (cell_same b _).trans h2, (cell_same b _).trans h3, (cell_same b _).trans h4, (cell_same b _).trans h5, (cell_same b _).trans h6, (cell_same b _).trans h7, (cell_same b _).trans h8, (cell_same b _).trans h9, (cell_same b _).trans h10⟩
theorem box11 {w w' : World} {tw : Nat} {u0 u1 u2 u3 u4 u5 u6 u7 u8 u9 u10 : Value} (b : Below w.heap.size w w') (h : w.cell? ⟨tw, 0, none⟩ = some u0 ∧ w.cell? ⟨tw, 1, none⟩ = some u1 ∧ w.cell? ⟨tw, 2, none⟩ = some u2 ∧ w.cell? ⟨tw, 3, none⟩ = some u3 ∧ w.cell? ⟨tw, 4, none⟩ = some u4 ∧ w.cell? ⟨tw, 5, none⟩ = some u5 ∧ w.cell? ⟨tw, 6, none⟩ = some u6 ∧ w.cell? ⟨tw, 7, none⟩ = some u7 ∧ w.cell? ⟨tw, 8, none⟩ = some u8 ∧ w.cell? ⟨tw, 9, none⟩ = some u9 ∧ w.cell? ⟨tw, 10, none⟩ = some u10) : w'.cell? ⟨tw, 0, none⟩ = some u0 ∧ w'.cell? ⟨tw, 1, none⟩ = some u1 ∧ w'.cell? ⟨tw, 2, none⟩ = some u2 ∧ w'.cell? ⟨tw, 3, none⟩ = some u3 ∧ w'.cell? ⟨tw, 4, none⟩ = some u4 ∧ w'.cell? ⟨tw, 5, none⟩ = some u5 ∧ w'.cell? ⟨tw, 6, none⟩ = some u6 ∧ w'.cell? ⟨tw, 7, none⟩ = some u7 ∧ w'.cell? ⟨tw, 8, none⟩ = some u8 ∧ w'.cell? ⟨tw, 9, none⟩ = some u9 ∧ w'.cell? ⟨tw, 10, none⟩ = some u10 :=
  box11s (b.block tw (World.block_lt_of_cell? w _ h.1)) h
theorem Hid.intro' {p : Prop} (h : p) : Hid p := h
theorem copy_two {Z : Nat → Prop} {w : World} {x y : Nat} {N : List Nd} {P : List Sp} {E : List En} {L : List RN} (t : Two Z w x y N P E L) (h : Rel N P E L) : Calls Try.prog 22 #[ptr x] w (fun e w' => ∃ c M, e = .returned (ptr c) ∧ Below w.heap.size w w' ∧ Ar (fun k => k < w.heap.size) w' c M P E ∧ Rel M P E L) := by
  obtain ⟨F, hF⟩ := t
  obtain ⟨g, n', cn, hh, cs, k, ce, o⟩ := hF.a.open (by rw [h.nl]; exact h.n0)
  refine (copy_any o (fun d hd => ?_) (by rw [← o.nn, h.nl]; exact h.n0)).mono ?_
  · obtain ⟨i, hi⟩ := List.getElem?_of_mem hd
    obtain ⟨_, _, _, r, _, _, _, hr⟩ := h.atL (by rw [← h.nl]; exact lt_of hi)
    rw [(h.nd i d r hi hr).2.al]
    exact h.al r (List.mem_of_getElem? hr)
  · rintro e w' ⟨c, M, rfl, b, ha, hl, hM⟩
    exact ⟨c, M, rfl, b, ha, h.av hl hM⟩
theorem copies_none {w : World} (w3 : World) (HB : Below w.heap.size w w3) : Calls Try.prog 11 #[] w3 fun e w' => e = .returned (.bool true) ∧ Below w.heap.size w w' :=
  (awake_any w3).mono fun _ _ ⟨h1, h2⟩ => ⟨h1, HB.trans (h2.mono HB.size)⟩
set_option maxHeartbeats 8000000 in
set_option maxRecDepth 20000 in
theorem copies_any {w : World} {lo : Option Addr} {len cap : Nat} {l : List Dd} {lo2 : Option Addr} {len2 cap2 : Nat} {m : List Dd} (hl : Dds w lo len cap l) (hm : len ≤ 9223372036854775807) (hs : (∀ (i : Nat) (T : Dd), l[i]? = some T → T.d.name.size ≤ 2000000000000000000 ∧ T.d.text.size ≤ 2000000000000000000 ∧ T.d.al.length ≤ 2000000000000000000)) (hl2 : Dds w lo2 len2 cap2 m) (hm2 : len2 ≤ 9223372036854775807) (hs2 : (∀ (i : Nat) (T : Dd), m[i]? = some T → T.d.name.size ≤ 2000000000000000000 ∧ T.d.text.size ≤ 2000000000000000000 ∧ T.d.al.length ≤ 2000000000000000000)) :
    Calls Try.prog 4 #[.slice lo len cap, .slice lo2 len2 cap2] w fun e w' => e = .returned (.bool true) ∧ Below w.heap.size w w' := by
  have HL : Hid (Dds w lo len cap l ∧ l.length = len ∧ (∀ (i : Nat) (T : Dd), l[i]? = some T → T.d.name.size ≤ 2000000000000000000 ∧ T.d.text.size ≤ 2000000000000000000 ∧ T.d.al.length ≤ 2000000000000000000)) := ⟨hl, hl.hlen, hs⟩
  have HM : Hid (Dds w lo2 len2 cap2 m ∧ m.length = len2 ∧ (∀ (i : Nat) (T : Dd), m[i]? = some T → T.d.name.size ≤ 2000000000000000000 ∧ T.d.text.size ≤ 2000000000000000000 ∧ T.d.al.length ≤ 2000000000000000000)) := ⟨hl2, hl2.hlen, hs2⟩
  clear hl hs hl2 hs2
  go_enter Try.func4, Try.ntmps4
  go_wp2_with fail
  refine (new_any w).mono ?_
  rintro e w1 ⟨x, av, rfl, h1, b1⟩
  go_wp2_with fail
  refine (rnew_any w1).mono ?_
  rintro e w2 ⟨y, rfl, h2, b2⟩
  have HF : Hid (Fresh w x y w2) := fresh_prog b1 h1 b2 h2
  clear b1 h1 b2 h2
  have ks := size_any (HL.out.1.keep (Keep.old HF.out.1)) hm HL.out.2.2
  go_wp2_with fail
  refine ks.mono ?_
  clear ks
  rintro e w3 ⟨r, rfl, b3, hr⟩
  have HR : Hid (r = true → ∀ (i : Nat) (T : Dd), l[i]? = some T → T.d.al.length < 5000) := hr
  have HD3 : Hid (DZ (fun k => k < w.heap.size) w x y 1 w3) := by
    obtain ⟨b, N, P, E, L, h1, h2, h3⟩ := HF.out.deeds
    exact ⟨b.trans (Keep.old b3), N, P, E, L, h1, h2, h3.old b3⟩
  have HB : Hid (Below w.heap.size w w3) := HF.out.1.trans (b3.mono HF.out.1.size)
  clear hr b3 HF
  cases r with
  | false =>
    go_wp2_with fail
    refine (copies_none w3 HB.out).mono ?_
    rintro e w4 ⟨rfl, b4⟩
    go_wp2_with fail
    go_ret
    exact ⟨rfl, b4⟩
  | true =>
    have HSL : Hid (∀ (i : Nat) (T : Dd), l[i]? = some T → T.d.al.length < 5000) := HR.out rfl
    clear HR
    have ks := size_any (HM.out.1.keep (Keep.old HB.out)) hm2 HM.out.2.2
    go_wp2_with fail
    refine ks.mono ?_
    clear ks
    rintro e w4 ⟨r, rfl, b4, hr⟩
    have HR : Hid (r = true → ∀ (i : Nat) (T : Dd), m[i]? = some T → T.d.al.length < 5000) := hr
    have HD : Hid (DZ (fun k => k < w.heap.size) w x y (0 + 1) w4) := HD3.out.old b4
    have HB4 : Hid (Below w.heap.size w w4) := HB.out.trans (b4.mono HB.out.size)
    clear hr b4 HD3 HB
    cases r with
    | false =>
      go_wp2_with fail
      refine (copies_none w4 HB4.out).mono ?_
      rintro e w5 ⟨rfl, b5⟩
      go_wp2_with fail
      go_ret
      exact ⟨rfl, b5⟩
    | true =>
      have HSM : Hid (∀ (i : Nat) (T : Dd), m[i]? = some T → T.d.al.length < 5000) := HR.out rfl
      clear HR HB4
      go_upto_block 0 with fail
      go_cut [] (fun wc => Hid (DZ (fun k => k < w.heap.size) w x y 61 wc))
      case first =>
        go_wp2_with fail
        go_loopg [7] len (fun g2 iv wr => ∃ (i : Nat), iv = .int .i64 i ∧ i + g2 = len ∧ i ≤ 60 ∧ Hid (DZ (fun k => k < w.heap.size) w x y (i + 1) wr))
        case atStart => exact ⟨0, rfl, by omega, by omega, HD⟩
        case round =>
          clear HD
          obtain ⟨i, rfl, hig, hi6, HI⟩ := hrel
          by_cases hin : i < len
          · have g1 : decide ((i : Int) < (len : Int)) = true := decide_eq_true (by omega)
            by_cases h60 : i < 60
            · have g2 : decide ((i : Int) < 60) = true := decide_eq_true (by omega)
              obtain ⟨k, rfl⟩ : ∃ k, gk = k + 1 := ⟨gk - 1, by omega⟩
              obtain ⟨T, hT⟩ : ∃ T, l[i]? = some T := ⟨_, List.getElem?_eq_getElem (by rw [HL.out.2.1]; exact hin)⟩
              have hTin := (HL.out.1.row i T hT).elim fun b q => q.elim fun o z => z.2.2.2
              have kd := HI.out.next (T := T) (by omega) (fun w' kk => hTin.at_.keep kk) (by have := HSL.out i T hT; omega)
              obtain ⟨b, off, hlo, hb, hc, _⟩ := HL.out.1.row i T hT
              subst hlo
              have hkb : wr.heap[b]? = w.heap[b]? := HI.out.1.block b hb hb
              have c0 : wr.cell? ⟨b, off + i * 15, none⟩ = some (iv T.k) := (cell_same hkb _).trans (hc 0 _ rfl)
              have c1 : wr.cell? ⟨b, off + i * 15 + 1, none⟩ = some (iv T.a) := (cell_same hkb _).trans (hc 1 _ rfl)
              have c2 : wr.cell? ⟨b, off + i * 15 + 2, none⟩ = some (iv T.b) := (cell_same hkb _).trans (hc 2 _ rfl)
              have c3 : wr.cell? ⟨b, off + i * 15 + 3, none⟩ = some (iv T.c) := (cell_same hkb _).trans (hc 3 _ rfl)
              have c4 : wr.cell? ⟨b, off + i * 15 + 4, none⟩ = some (iv T.d.id) := (cell_same hkb _).trans (hc 4 _ rfl)
              have c5 : wr.cell? ⟨b, off + i * 15 + 5, none⟩ = some (iv T.d.kind) := (cell_same hkb _).trans (hc 5 _ rfl)
              have c6 : wr.cell? ⟨b, off + i * 15 + 6, none⟩ = some (iv T.d.space) := (cell_same hkb _).trans (hc 6 _ rfl)
              have c7 : wr.cell? ⟨b, off + i * 15 + 7, none⟩ = some (.string T.d.name) := (cell_same hkb _).trans (hc 7 _ rfl)
              have c8 : wr.cell? ⟨b, off + i * 15 + 8, none⟩ = some (.string T.d.text) := (cell_same hkb _).trans (hc 8 _ rfl)
              have c9 : wr.cell? ⟨b, off + i * 15 + 9, none⟩ = some (.slice T.ao T.d.al.length T.ac) := (cell_same hkb _).trans (hc 9 _ rfl)
              have c10 : wr.cell? ⟨b, off + i * 15 + 10, none⟩ = some (iv T.d.sf) := (cell_same hkb _).trans (hc 10 _ rfl)
              have c11 : wr.cell? ⟨b, off + i * 15 + 11, none⟩ = some (iv T.d.st) := (cell_same hkb _).trans (hc 11 _ rfl)
              have c12 : wr.cell? ⟨b, off + i * 15 + 12, none⟩ = some (iv T.d.ef) := (cell_same hkb _).trans (hc 12 _ rfl)
              have c13 : wr.cell? ⟨b, off + i * 15 + 13, none⟩ = some (iv T.d.et) := (cell_same hkb _).trans (hc 13 _ rfl)
              have c14 : wr.cell? ⟨b, off + i * 15 + 14, none⟩ = some (.slice T.ko T.kn T.kc) := (cell_same hkb _).trans (hc 14 _ rfl)
              clear hc hT hTin hkb
              go_wp2_with fail
              refine kd.mono ?_
              rintro e w5 ⟨⟨r, rfl⟩, HJ⟩
              go_wp2_with fail
              go_roundg k
              case measure => omega
              case rel => exact ⟨i + 1, by go_num, by omega, by omega, HJ.le (by omega)⟩
            · have g2 : decide ((i : Int) < 60) = false := decide_eq_false (by omega)
              go_wp2_with fail
              go_meet
              exact HI.out.le (by omega)
          · have g1 : decide ((i : Int) < (len : Int)) = false := decide_eq_false (by omega)
            go_wp2_with fail
            go_meet
            exact HI.out.le (by omega)
      case rest =>
        obtain ⟨W1, hW1⟩ : ∃ W1, W1 = wc := ⟨_, rfl⟩
        subst hW1
        obtain ⟨kz, N, P, E, L, hR, hLn, hT⟩ := hcut.out
        clear HD HSL hcut
        obtain ⟨D, K, hEq, hTa, hTr⟩ := hR.trees (by omega)
        have H1 : Hid (Below w.heap.size w W1 ∧ Rel N P E L ∧ L.length ≤ 61 ∧ Two (fun k => k < w.heap.size) W1 x y N P E L ∧ Eqs D K ∧ (∀ N', Rel N' P E L → ∀ S w x, Ar S w x N' P E → Calls Try.prog 20 #[ptr x, iv 0] w (TreeV D K 0 w)) ∧ (∀ S w y, Ra S w y L → Calls Try.prog 21 #[ptr y, iv 0] w (RTreed D K 0 w))) := ⟨⟨kz.os, kz.tape, kz.output, kz.size, fun k hk => kz.block k hk hk⟩, hR, hLn, hT, hEq, hTa, hTr⟩
        clear kz hR hLn hT hEq hTa hTr
        go_wp2_with fail
        refine (copy_two H1.out.2.2.2.1 H1.out.2.1).mono ?_
        rintro e W2 ⟨c, M, rfl, b12, hc, hM⟩
        have H2 : Hid (Below W1.heap.size W1 W2 ∧ Ar (fun k => k < W1.heap.size) W2 c M P E ∧ Rel M P E L) := ⟨b12, hc, hM⟩
        have k21 : Calls Try.prog 21 #[ptr y, iv 0] W2 (RTreed D K 0 W2) := by
          obtain ⟨F, hF⟩ := H1.out.2.2.2.1.old b12
          exact H1.out.2.2.2.2.2.2 _ W2 y hF.r
        clear b12 hc hM
        go_wp2_with fail
        refine k21.mono ?_
        clear k21
        rintro e W3 ⟨ao, ac, kp, kc, rfl, b23, t3⟩
        obtain ⟨tw, htw⟩ : ∃ tw, tw = W3.heap.size := ⟨_, rfl⟩
        have b34 : Below W3.heap.size W3 (W3.alloc (.cells #[iv (D 0).id, iv (D 0).kind, iv (D 0).space, .string (D 0).name, .string (D 0).text, .slice ao (D 0).al.length ac, iv (D 0).sf, iv (D 0).st, iv (D 0).ef, iv (D 0).et, .slice kp (K 0).length kc] 35)) := (Below.refl _ _).alloc (Nat.le_refl _) _
        have n4 := heap_alloc_new W3 (.cells #[iv (D 0).id, iv (D 0).kind, iv (D 0).space, .string (D 0).name, .string (D 0).text, .slice ao (D 0).al.length ac, iv (D 0).sf, iv (D 0).st, iv (D 0).ef, iv (D 0).et, .slice kp (K 0).length kc] 35)
        have s4 : W3.heap.size < (W3.alloc (.cells #[iv (D 0).id, iv (D 0).kind, iv (D 0).space, .string (D 0).name, .string (D 0).text, .slice ao (D 0).al.length ac, iv (D 0).sf, iv (D 0).st, iv (D 0).ef, iv (D 0).et, .slice kp (K 0).length kc] 35)).heap.size := by simp
        go_upto_region 12 with fail
        generalize hW4 : W3.alloc (.cells #[iv (D 0).id, iv (D 0).kind, iv (D 0).space, .string (D 0).name, .string (D 0).text, .slice ao (D 0).al.length ac, iv (D 0).sf, iv (D 0).st, iv (D 0).ef, iv (D 0).et, .slice kp (K 0).length kc] 35) = W4 at *
        rw [← htw] at n4 ⊢
        have H4 : Hid (Below W2.heap.size W2 W3 ∧ TV (fun k => W2.heap.size ≤ k ∧ k < W3.heap.size) W3 D K 0 (.slice ao (D 0).al.length ac) (.slice kp (K 0).length kc) ∧ Below W3.heap.size W3 W4 ∧ W4.heap[tw]? = some (.cells #[iv (D 0).id, iv (D 0).kind, iv (D 0).space, .string (D 0).name, .string (D 0).text, .slice ao (D 0).al.length ac, iv (D 0).sf, iv (D 0).st, iv (D 0).ef, iv (D 0).et, .slice kp (K 0).length kc] 35 (0, 0)) ∧ tw = W3.heap.size ∧ tw < W4.heap.size) := ⟨b23, t3, b34, n4, htw, by rw [htw]; exact s4⟩
        clear hW4 b23 t3 b34 n4 htw s4
        go_wp2_with fail
        refine (rnew_any W4).mono ?_
        rintro e W5 ⟨y2, rfl, h5, b45⟩
        have b24 : Below W2.heap.size W2 W4 := H4.out.1.trans (H4.out.2.2.1.mono H4.out.1.size)
        have HD : Hid (DU (fun k => k < W1.heap.size ∨ (W2.heap.size ≤ k ∧ k < W4.heap.size)) W5 c y2 (0 + 61) W5) := ⟨Keep.refl _ _, M, P, E, [rdoc], ⟨L, _, _, _, H2.out.2.2, by have := H1.out.2.2.1; omega, rel_new (iv 0), by decide⟩, two_cy H2.out.2.1 H2.out.1.size b24 h5 b45⟩
        have H5 : Hid (Below W1.heap.size W1 W5 ∧ Below w.heap.size w W5 ∧ Below W4.heap.size W4 W5 ∧ Below W2.heap.size W2 W4) := by
          have q1 := H2.out.1
          have q2 : Below W1.heap.size W1 W5 := (q1.trans (b24.mono q1.size)).trans (b45.mono (Nat.le_trans q1.size b24.size))
          exact ⟨q2, H1.out.1.trans (q2.mono H1.out.1.size), b45, b24⟩
        clear h5 b45 b24
        go_upto_block 2 with fail
        go_cut [] (fun wc => Hid (DU (fun k => k < W1.heap.size ∨ (W2.heap.size ≤ k ∧ k < W4.heap.size)) W5 c y2 121 wc))
        case first =>
          go_wp2_with fail
          go_loopg [11] len2 (fun g2 iv wr => ∃ (i : Nat), iv = .int .i64 i ∧ i + g2 = len2 ∧ i ≤ 60 ∧ Hid (DU (fun k => k < W1.heap.size ∨ (W2.heap.size ≤ k ∧ k < W4.heap.size)) W5 c y2 (i + 61) wr))
          case atStart => exact ⟨0, rfl, by omega, by omega, HD⟩
          case round =>
            clear HD
            obtain ⟨i, rfl, hig, hi6, HI⟩ := hrel
            by_cases hin : i < len2
            · have g1 : decide ((i : Int) < (len2 : Int)) = true := decide_eq_true (by omega)
              by_cases h60 : i < 60
              · have g2 : decide ((i : Int) < 60) = true := decide_eq_true (by omega)
                obtain ⟨k, rfl⟩ : ∃ k, gk = k + 1 := ⟨gk - 1, by omega⟩
                obtain ⟨T, hT⟩ : ∃ T, m[i]? = some T := ⟨_, List.getElem?_eq_getElem (by rw [HM.out.2.1]; exact hin)⟩
                have hTin := (HM.out.1.row i T hT).elim fun b q => q.elim fun o z => z.2.2.2
                have kd := HI.out.next (T := T) (by omega) (fun w' kk => hTin.at_.same (Nat.le_trans H5.out.2.1.size kk.size) (fun k hk => (kk.block k (.inl (Nat.lt_of_lt_of_le hk H1.out.1.size)) (Nat.lt_of_lt_of_le hk H5.out.2.1.size)).trans (H5.out.2.1.block k hk))) (by have := HSM.out i T hT; omega)
                obtain ⟨b, off, hlo, hb, hc, _⟩ := HM.out.1.row i T hT
                subst hlo
                have hkb : wr.heap[b]? = w.heap[b]? := (HI.out.1.block b (.inl (Nat.lt_of_lt_of_le hb H1.out.1.size)) (Nat.lt_of_lt_of_le hb H5.out.2.1.size)).trans (H5.out.2.1.block b hb)
                have c0 : wr.cell? ⟨b, off + i * 15, none⟩ = some (iv T.k) := (cell_same hkb _).trans (hc 0 _ rfl)
                have c1 : wr.cell? ⟨b, off + i * 15 + 1, none⟩ = some (iv T.a) := (cell_same hkb _).trans (hc 1 _ rfl)
                have c2 : wr.cell? ⟨b, off + i * 15 + 2, none⟩ = some (iv T.b) := (cell_same hkb _).trans (hc 2 _ rfl)
                have c3 : wr.cell? ⟨b, off + i * 15 + 3, none⟩ = some (iv T.c) := (cell_same hkb _).trans (hc 3 _ rfl)
                have c4 : wr.cell? ⟨b, off + i * 15 + 4, none⟩ = some (iv T.d.id) := (cell_same hkb _).trans (hc 4 _ rfl)
                have c5 : wr.cell? ⟨b, off + i * 15 + 5, none⟩ = some (iv T.d.kind) := (cell_same hkb _).trans (hc 5 _ rfl)
                have c6 : wr.cell? ⟨b, off + i * 15 + 6, none⟩ = some (iv T.d.space) := (cell_same hkb _).trans (hc 6 _ rfl)
                have c7 : wr.cell? ⟨b, off + i * 15 + 7, none⟩ = some (.string T.d.name) := (cell_same hkb _).trans (hc 7 _ rfl)
                have c8 : wr.cell? ⟨b, off + i * 15 + 8, none⟩ = some (.string T.d.text) := (cell_same hkb _).trans (hc 8 _ rfl)
                have c9 : wr.cell? ⟨b, off + i * 15 + 9, none⟩ = some (.slice T.ao T.d.al.length T.ac) := (cell_same hkb _).trans (hc 9 _ rfl)
                have c10 : wr.cell? ⟨b, off + i * 15 + 10, none⟩ = some (iv T.d.sf) := (cell_same hkb _).trans (hc 10 _ rfl)
                have c11 : wr.cell? ⟨b, off + i * 15 + 11, none⟩ = some (iv T.d.st) := (cell_same hkb _).trans (hc 11 _ rfl)
                have c12 : wr.cell? ⟨b, off + i * 15 + 12, none⟩ = some (iv T.d.ef) := (cell_same hkb _).trans (hc 12 _ rfl)
                have c13 : wr.cell? ⟨b, off + i * 15 + 13, none⟩ = some (iv T.d.et) := (cell_same hkb _).trans (hc 13 _ rfl)
                have c14 : wr.cell? ⟨b, off + i * 15 + 14, none⟩ = some (.slice T.ko T.kn T.kc) := (cell_same hkb _).trans (hc 14 _ rfl)
                clear hc hT hTin hkb
                go_wp2_with fail
                refine kd.mono ?_
                rintro e w5 ⟨⟨r, rfl⟩, HJ⟩
                go_wp2_with fail
                go_roundg k
                case measure => omega
                case rel => exact ⟨i + 1, by go_num, by omega, by omega, HJ.le (by omega)⟩
              · have g2 : decide ((i : Int) < 60) = false := decide_eq_false (by omega)
                go_wp2_with fail
                go_meet
                exact HI.out.le (by omega)
            · have g1 : decide ((i : Int) < (len2 : Int)) = false := decide_eq_false (by omega)
              go_wp2_with fail
              go_meet
              exact HI.out.le (by omega)
        case rest =>
          obtain ⟨W6, hW6⟩ : ∃ W6, W6 = wc := ⟨_, rfl⟩
          subst hW6
          obtain ⟨k56, _⟩ := hcut.out
          clear HD hcut
          have b16 : Below W1.heap.size W1 W6 := H5.out.1.trans ⟨k56.os, k56.tape, k56.output, k56.size, fun k hk => k56.block k (.inl hk) (Nat.lt_of_lt_of_le hk H5.out.1.size)⟩
          have hz : ∀ k, W2.heap.size ≤ k → k < W4.heap.size → W6.heap[k]? = W4.heap[k]? := fun k q1 q2 => (k56.block k (.inr ⟨q1, q2⟩) (Nat.lt_of_lt_of_le q2 H5.out.2.2.1.size)).trans (H5.out.2.2.1.block k q2)
          have n6 : W6.heap[tw]? = some (.cells #[iv (D 0).id, iv (D 0).kind, iv (D 0).space, .string (D 0).name, .string (D 0).text, .slice ao (D 0).al.length ac, iv (D 0).sf, iv (D 0).st, iv (D 0).ef, iv (D 0).et, .slice kp (K 0).length kc] 35 (0, 0)) := (hz tw (by rw [H4.out.2.2.2.2.1]; exact H4.out.1.size) H4.out.2.2.2.2.2).trans H4.out.2.2.2.1
          have t6 : TV (fun k => W2.heap.size ≤ k ∧ k < W3.heap.size) W6 D K 0 (.slice ao (D 0).al.length ac) (.slice kp (K 0).length kc) := H4.out.2.1.mv (Nat.le_trans H4.out.2.2.1.size (Nat.le_trans H5.out.2.2.1.size k56.size)) fun k q1 q2 => (hz k q1.1 (Nat.lt_of_lt_of_le q1.2 H4.out.2.2.1.size)).trans (H4.out.2.2.1.block k q2)
          have hS6 : W6.cell? ⟨tw, 0, none⟩ = some (iv (D 0).id) ∧ W6.cell? ⟨tw, 1, none⟩ = some (iv (D 0).kind) ∧ W6.cell? ⟨tw, 2, none⟩ = some (iv (D 0).space) ∧ W6.cell? ⟨tw, 3, none⟩ = some (.string (D 0).name) ∧ W6.cell? ⟨tw, 4, none⟩ = some (.string (D 0).text) ∧ W6.cell? ⟨tw, 5, none⟩ = some (.slice ao (D 0).al.length ac) ∧ W6.cell? ⟨tw, 6, none⟩ = some (iv (D 0).sf) ∧ W6.cell? ⟨tw, 7, none⟩ = some (iv (D 0).st) ∧ W6.cell? ⟨tw, 8, none⟩ = some (iv (D 0).ef) ∧ W6.cell? ⟨tw, 9, none⟩ = some (iv (D 0).et) ∧ W6.cell? ⟨tw, 10, none⟩ = some (.slice kp (K 0).length kc) := by
            refine ⟨?_, ?_, ?_, ?_, ?_, ?_, ?_, ?_, ?_, ?_, ?_⟩ <;> simp [World.cell?, n6]
          have H6 : Hid (Below W1.heap.size W1 W6 ∧ TV (fun k => W2.heap.size ≤ k ∧ k < W3.heap.size) W6 D K 0 (.slice ao (D 0).al.length ac) (.slice kp (K 0).length kc) ∧ (W6.cell? ⟨tw, 0, none⟩ = some (iv (D 0).id) ∧ W6.cell? ⟨tw, 1, none⟩ = some (iv (D 0).kind) ∧ W6.cell? ⟨tw, 2, none⟩ = some (iv (D 0).space) ∧ W6.cell? ⟨tw, 3, none⟩ = some (.string (D 0).name) ∧ W6.cell? ⟨tw, 4, none⟩ = some (.string (D 0).text) ∧ W6.cell? ⟨tw, 5, none⟩ = some (.slice ao (D 0).al.length ac) ∧ W6.cell? ⟨tw, 6, none⟩ = some (iv (D 0).sf) ∧ W6.cell? ⟨tw, 7, none⟩ = some (iv (D 0).st) ∧ W6.cell? ⟨tw, 8, none⟩ = some (iv (D 0).ef) ∧ W6.cell? ⟨tw, 9, none⟩ = some (iv (D 0).et) ∧ W6.cell? ⟨tw, 10, none⟩ = some (.slice kp (K 0).length kc))) := ⟨b16, t6, hS6⟩
          have C20 : Hid (Calls Try.prog 20 #[ptr x, iv 0] W6.drew (fun e W7 => ∃ ao' ac' kp' kc', e = .returned (.agg #[iv (D 0).id, iv (D 0).kind, iv (D 0).space, .string (D 0).name, .string (D 0).text, .slice ao' (D 0).al.length ac', iv (D 0).sf, iv (D 0).st, iv (D 0).ef, iv (D 0).et, .slice kp' (K 0).length kc']) ∧ (W7.cell? ⟨tw, 0, none⟩ = some (iv (D 0).id) ∧ W7.cell? ⟨tw, 1, none⟩ = some (iv (D 0).kind) ∧ W7.cell? ⟨tw, 2, none⟩ = some (iv (D 0).space) ∧ W7.cell? ⟨tw, 3, none⟩ = some (.string (D 0).name) ∧ W7.cell? ⟨tw, 4, none⟩ = some (.string (D 0).text) ∧ W7.cell? ⟨tw, 5, none⟩ = some (.slice ao (D 0).al.length ac) ∧ W7.cell? ⟨tw, 6, none⟩ = some (iv (D 0).sf) ∧ W7.cell? ⟨tw, 7, none⟩ = some (iv (D 0).st) ∧ W7.cell? ⟨tw, 8, none⟩ = some (iv (D 0).ef) ∧ W7.cell? ⟨tw, 9, none⟩ = some (iv (D 0).et) ∧ W7.cell? ⟨tw, 10, none⟩ = some (.slice kp (K 0).length kc)) ∧ Hid (Below W6.heap.size W6 W7 ∧ Calls Try.prog 19 #[.agg #[iv (D 0).id, iv (D 0).kind, iv (D 0).space, .string (D 0).name, .string (D 0).text, .slice ao' (D 0).al.length ac', iv (D 0).sf, iv (D 0).st, iv (D 0).ef, iv (D 0).et, .slice kp' (K 0).length kc'], .agg #[iv (D 0).id, iv (D 0).kind, iv (D 0).space, .string (D 0).name, .string (D 0).text, .slice ao (D 0).al.length ac, iv (D 0).sf, iv (D 0).st, iv (D 0).ef, iv (D 0).et, .slice kp (K 0).length kc]] W7 fun e w' => e = .returned (.bool true) ∧ Below W7.heap.size W7 w'))) := by
            obtain ⟨F, hF⟩ := (H1.out.2.2.2.1.old b16).old ((Below.refl W6.heap.size W6).drew)
            refine (H1.out.2.2.2.2.2.1 N H1.out.2.1 _ _ _ hF.a).mono ?_
            rintro e W7 ⟨ao', ac', kp', kc', rfl, b7, t7⟩
            have b67 : Below W6.heap.size W6 W7 := ((Below.refl W6.heap.size W6).drew).trans b7
            exact ⟨ao', ac', kp', kc', rfl, box11 b67 hS6, b67, H1.out.2.2.2.2.1 _ _ _ _ _ _ _ t7 (t6.old b67)⟩
          clear k56 b16 hz n6 t6
          go_wp2_with fail
          go_region_held3 (fun w' => w'.cell? ⟨tw, 0, none⟩ = some (iv (D 0).id) ∧ w'.cell? ⟨tw, 1, none⟩ = some (iv (D 0).kind) ∧ w'.cell? ⟨tw, 2, none⟩ = some (iv (D 0).space) ∧ w'.cell? ⟨tw, 3, none⟩ = some (.string (D 0).name) ∧ w'.cell? ⟨tw, 4, none⟩ = some (.string (D 0).text) ∧ w'.cell? ⟨tw, 5, none⟩ = some (.slice ao (D 0).al.length ac) ∧ w'.cell? ⟨tw, 6, none⟩ = some (iv (D 0).sf) ∧ w'.cell? ⟨tw, 7, none⟩ = some (iv (D 0).st) ∧ w'.cell? ⟨tw, 8, none⟩ = some (iv (D 0).ef) ∧ w'.cell? ⟨tw, 9, none⟩ = some (iv (D 0).et) ∧ w'.cell? ⟨tw, 10, none⟩ = some (.slice kp (K 0).length kc)) (first | assumption) (first
            | (go_at_call 19; refine Calls.mono HC7.out.2 ?_; rintro e W8 ⟨rfl, b78⟩; have HB8 : Hid (Below W6.heap.size W6 W8) := HC7.out.1.trans (b78.mono HC7.out.1.size); have hS8 := box11 HB8.out H6.out.2.2)
            | (go_at_call 20; refine Calls.mono C20.out ?_; rintro e W7 ⟨ao', ac', kp', kc', rfl, hS7, HC7⟩))
          have H8 : Hid (Below W1.heap.size W1 W8 ∧ TV (fun k => W2.heap.size ≤ k ∧ k < W3.heap.size) W8 D K 0 (.slice ao (D 0).al.length ac) (.slice kp (K 0).length kc) ∧ (W8.cell? ⟨tw, 0, none⟩ = some (iv (D 0).id) ∧ W8.cell? ⟨tw, 1, none⟩ = some (iv (D 0).kind) ∧ W8.cell? ⟨tw, 2, none⟩ = some (iv (D 0).space) ∧ W8.cell? ⟨tw, 3, none⟩ = some (.string (D 0).name) ∧ W8.cell? ⟨tw, 4, none⟩ = some (.string (D 0).text) ∧ W8.cell? ⟨tw, 5, none⟩ = some (.slice ao (D 0).al.length ac) ∧ W8.cell? ⟨tw, 6, none⟩ = some (iv (D 0).sf) ∧ W8.cell? ⟨tw, 7, none⟩ = some (iv (D 0).st) ∧ W8.cell? ⟨tw, 8, none⟩ = some (iv (D 0).ef) ∧ W8.cell? ⟨tw, 9, none⟩ = some (iv (D 0).et) ∧ W8.cell? ⟨tw, 10, none⟩ = some (.slice kp (K 0).length kc))) := ⟨H6.out.1.trans (HB8.out.mono H6.out.1.size), H6.out.2.1.old HB8.out, hS8⟩
          clear hS6 hS7 hS8 C20
          go_wp2_with fail
          refine (copy_two (H1.out.2.2.2.1.old H8.out.1) H1.out.2.1).mono ?_
          rintro e W9 ⟨dd, M2, rfl, b89, hdd, hM2⟩
          have H9 : Hid (Below W8.heap.size W8 W9 ∧ Ar (fun k => k < W8.heap.size) W9 dd M2 P E ∧ Rel M2 P E L ∧ Below W1.heap.size W1 W9 ∧ Below w.heap.size w W9) := by
            have q := H8.out.1.trans (b89.mono H8.out.1.size)
            exact ⟨b89, hdd, hM2, q, H1.out.1.trans (q.mono H1.out.1.size)⟩
          clear b89 hdd hM2
          have HD : Hid (DZ (Wide (fun k => k < w.heap.size) W1 W9) W9 x y (0 + 61) W9) := ⟨Keep.refl _ _, N, P, E, L, H1.out.2.1, by have := H1.out.2.2.1; omega, H1.out.2.2.2.1.wide H9.out.2.2.2.1⟩
          go_upto_block 4 with fail
          go_cut [] (fun wc => Hid (DZ (Wide (fun k => k < w.heap.size) W1 W9) W9 x y 121 wc))
          case first =>
            go_wp2_with fail
            go_loopg [13] len2 (fun g2 iv wr => ∃ (i : Nat), iv = .int .i64 i ∧ i + g2 = len2 ∧ i ≤ 60 ∧ Hid (DZ (Wide (fun k => k < w.heap.size) W1 W9) W9 x y (i + 61) wr))
            case atStart => exact ⟨0, rfl, by omega, by omega, HD⟩
            case round =>
              clear HD
              obtain ⟨i, rfl, hig, hi6, HI⟩ := hrel
              by_cases hin : i < len2
              · have g1 : decide ((i : Int) < (len2 : Int)) = true := decide_eq_true (by omega)
                by_cases h60 : i < 60
                · have g2 : decide ((i : Int) < 60) = true := decide_eq_true (by omega)
                  obtain ⟨k, rfl⟩ : ∃ k, gk = k + 1 := ⟨gk - 1, by omega⟩
                  obtain ⟨T, hT⟩ : ∃ T, m[i]? = some T := ⟨_, List.getElem?_eq_getElem (by rw [HM.out.2.1]; exact hin)⟩
                  have hTin := (HM.out.1.row i T hT).elim fun b q => q.elim fun o z => z.2.2.2
                  have kd := HI.out.next (T := T) (by omega) (fun w' kk => hTin.at_.same (Nat.le_trans H9.out.2.2.2.2.size kk.size) (fun k hk => (kk.block k (.inl hk) (Nat.lt_of_lt_of_le hk H9.out.2.2.2.2.size)).trans (H9.out.2.2.2.2.block k hk))) (by have := HSM.out i T hT; omega)
                  obtain ⟨b, off, hlo, hb, hc, _⟩ := HM.out.1.row i T hT
                  subst hlo
                  have hkb : wr.heap[b]? = w.heap[b]? := (HI.out.1.block b (.inl hb) (Nat.lt_of_lt_of_le hb H9.out.2.2.2.2.size)).trans (H9.out.2.2.2.2.block b hb)
                  have c0 : wr.cell? ⟨b, off + i * 15, none⟩ = some (iv T.k) := (cell_same hkb _).trans (hc 0 _ rfl)
                  have c1 : wr.cell? ⟨b, off + i * 15 + 1, none⟩ = some (iv T.a) := (cell_same hkb _).trans (hc 1 _ rfl)
                  have c2 : wr.cell? ⟨b, off + i * 15 + 2, none⟩ = some (iv T.b) := (cell_same hkb _).trans (hc 2 _ rfl)
                  have c3 : wr.cell? ⟨b, off + i * 15 + 3, none⟩ = some (iv T.c) := (cell_same hkb _).trans (hc 3 _ rfl)
                  have c4 : wr.cell? ⟨b, off + i * 15 + 4, none⟩ = some (iv T.d.id) := (cell_same hkb _).trans (hc 4 _ rfl)
                  have c5 : wr.cell? ⟨b, off + i * 15 + 5, none⟩ = some (iv T.d.kind) := (cell_same hkb _).trans (hc 5 _ rfl)
                  have c6 : wr.cell? ⟨b, off + i * 15 + 6, none⟩ = some (iv T.d.space) := (cell_same hkb _).trans (hc 6 _ rfl)
                  have c7 : wr.cell? ⟨b, off + i * 15 + 7, none⟩ = some (.string T.d.name) := (cell_same hkb _).trans (hc 7 _ rfl)
                  have c8 : wr.cell? ⟨b, off + i * 15 + 8, none⟩ = some (.string T.d.text) := (cell_same hkb _).trans (hc 8 _ rfl)
                  have c9 : wr.cell? ⟨b, off + i * 15 + 9, none⟩ = some (.slice T.ao T.d.al.length T.ac) := (cell_same hkb _).trans (hc 9 _ rfl)
                  have c10 : wr.cell? ⟨b, off + i * 15 + 10, none⟩ = some (iv T.d.sf) := (cell_same hkb _).trans (hc 10 _ rfl)
                  have c11 : wr.cell? ⟨b, off + i * 15 + 11, none⟩ = some (iv T.d.st) := (cell_same hkb _).trans (hc 11 _ rfl)
                  have c12 : wr.cell? ⟨b, off + i * 15 + 12, none⟩ = some (iv T.d.ef) := (cell_same hkb _).trans (hc 12 _ rfl)
                  have c13 : wr.cell? ⟨b, off + i * 15 + 13, none⟩ = some (iv T.d.et) := (cell_same hkb _).trans (hc 13 _ rfl)
                  have c14 : wr.cell? ⟨b, off + i * 15 + 14, none⟩ = some (.slice T.ko T.kn T.kc) := (cell_same hkb _).trans (hc 14 _ rfl)
                  clear hc hT hTin hkb
                  go_wp2_with fail
                  refine kd.mono ?_
                  rintro e w5 ⟨⟨r, rfl⟩, HJ⟩
                  go_wp2_with fail
                  go_roundg k
                  case measure => omega
                  case rel => exact ⟨i + 1, by go_num, by omega, by omega, HJ.le (by omega)⟩
                · have g2 : decide ((i : Int) < 60) = false := decide_eq_false (by omega)
                  go_wp2_with fail
                  go_meet
                  exact HI.out.le (by omega)
              · have g1 : decide ((i : Int) < (len2 : Int)) = false := decide_eq_false (by omega)
                go_wp2_with fail
                go_meet
                exact HI.out.le (by omega)
          case rest =>
            obtain ⟨W10, hW10⟩ : ∃ W10, W10 = wc := ⟨_, rfl⟩
            subst hW10
            obtain ⟨k910, N', P', E', L', hR', hL', hT'⟩ := hcut.out
            clear HD hcut
            obtain ⟨D', K', hEq', hTa', hTr'⟩ := hR'.trees (by omega)
            have hz : ∀ k, W1.heap.size ≤ k → k < W9.heap.size → W10.heap[k]? = W9.heap[k]? := fun k q1 q2 => k910.block k (.inr ⟨q1, q2⟩) q2
            have hdd : Ar (fun k => k < W8.heap.size) W10 dd M2 P E := H9.out.2.1.others k910.size fun k q1 q2 => hz k (by have := H8.out.1.size; have q1' : ¬ k < W8.heap.size := q1; omega) q2
            have hQ : ∀ k, W2.heap.size ≤ k → k < W8.heap.size → W10.heap[k]? = W8.heap[k]? := fun k q1 q2 => (hz k (Nat.le_trans H2.out.1.size q1) (Nat.lt_of_lt_of_le q2 H9.out.1.size)).trans (H9.out.1.block k q2)
            have t10 : TV (fun k => W2.heap.size ≤ k ∧ k < W3.heap.size) W10 D K 0 (.slice ao (D 0).al.length ac) (.slice kp (K 0).length kc) := H8.out.2.1.mv (Nat.le_trans H9.out.1.size k910.size) fun k q1 q2 => hQ k q1.1 q2
            have htw : W10.heap[tw]? = W8.heap[tw]? := hQ tw (by rw [H4.out.2.2.2.2.1]; exact H4.out.1.size) (World.block_lt_of_cell? W8 _ H8.out.2.2.1)
            have hS10 : W10.cell? ⟨tw, 0, none⟩ = some (iv (D 0).id) ∧ W10.cell? ⟨tw, 1, none⟩ = some (iv (D 0).kind) ∧ W10.cell? ⟨tw, 2, none⟩ = some (iv (D 0).space) ∧ W10.cell? ⟨tw, 3, none⟩ = some (.string (D 0).name) ∧ W10.cell? ⟨tw, 4, none⟩ = some (.string (D 0).text) ∧ W10.cell? ⟨tw, 5, none⟩ = some (.slice ao (D 0).al.length ac) ∧ W10.cell? ⟨tw, 6, none⟩ = some (iv (D 0).sf) ∧ W10.cell? ⟨tw, 7, none⟩ = some (iv (D 0).st) ∧ W10.cell? ⟨tw, 8, none⟩ = some (iv (D 0).ef) ∧ W10.cell? ⟨tw, 9, none⟩ = some (iv (D 0).et) ∧ W10.cell? ⟨tw, 10, none⟩ = some (.slice kp (K 0).length kc) := box11s htw H8.out.2.2
            have b10 : Below w.heap.size w W10 := H9.out.2.2.2.2.trans ⟨k910.os, k910.tape, k910.output, k910.size, fun k hk => k910.block k (.inl hk) (Nat.lt_of_lt_of_le hk H9.out.2.2.2.2.size)⟩
            have HX : Hid (Rel N' P' E' L' ∧ Two (Wide (fun k => k < w.heap.size) W1 W9) W10 x y N' P' E' L' ∧ Eqs D' K' ∧ (∀ N0, Rel N0 P' E' L' → ∀ S w x, Ar S w x N0 P' E' → Calls Try.prog 20 #[ptr x, iv 0] w (TreeV D' K' 0 w)) ∧ (∀ S w y, Ra S w y L' → Calls Try.prog 21 #[ptr y, iv 0] w (RTreed D' K' 0 w)) ∧ Below w.heap.size w W10 ∧ (W10.cell? ⟨tw, 0, none⟩ = some (iv (D 0).id) ∧ W10.cell? ⟨tw, 1, none⟩ = some (iv (D 0).kind) ∧ W10.cell? ⟨tw, 2, none⟩ = some (iv (D 0).space) ∧ W10.cell? ⟨tw, 3, none⟩ = some (.string (D 0).name) ∧ W10.cell? ⟨tw, 4, none⟩ = some (.string (D 0).text) ∧ W10.cell? ⟨tw, 5, none⟩ = some (.slice ao (D 0).al.length ac) ∧ W10.cell? ⟨tw, 6, none⟩ = some (iv (D 0).sf) ∧ W10.cell? ⟨tw, 7, none⟩ = some (iv (D 0).st) ∧ W10.cell? ⟨tw, 8, none⟩ = some (iv (D 0).ef) ∧ W10.cell? ⟨tw, 9, none⟩ = some (iv (D 0).et) ∧ W10.cell? ⟨tw, 10, none⟩ = some (.slice kp (K 0).length kc))) := ⟨hR', hT', hEq', hTa', hTr', b10, hS10⟩
            have CD : Hid (Calls Try.prog 20 #[ptr dd, iv 0] W10.drew (fun e W11 => ∃ ao' ac' kp' kc', e = .returned (.agg #[iv (D 0).id, iv (D 0).kind, iv (D 0).space, .string (D 0).name, .string (D 0).text, .slice ao' (D 0).al.length ac', iv (D 0).sf, iv (D 0).st, iv (D 0).ef, iv (D 0).et, .slice kp' (K 0).length kc']) ∧ (W11.cell? ⟨tw, 0, none⟩ = some (iv (D 0).id) ∧ W11.cell? ⟨tw, 1, none⟩ = some (iv (D 0).kind) ∧ W11.cell? ⟨tw, 2, none⟩ = some (iv (D 0).space) ∧ W11.cell? ⟨tw, 3, none⟩ = some (.string (D 0).name) ∧ W11.cell? ⟨tw, 4, none⟩ = some (.string (D 0).text) ∧ W11.cell? ⟨tw, 5, none⟩ = some (.slice ao (D 0).al.length ac) ∧ W11.cell? ⟨tw, 6, none⟩ = some (iv (D 0).sf) ∧ W11.cell? ⟨tw, 7, none⟩ = some (iv (D 0).st) ∧ W11.cell? ⟨tw, 8, none⟩ = some (iv (D 0).ef) ∧ W11.cell? ⟨tw, 9, none⟩ = some (iv (D 0).et) ∧ W11.cell? ⟨tw, 10, none⟩ = some (.slice kp (K 0).length kc)) ∧ Hid (Below W10.heap.size W10 W11 ∧ Calls Try.prog 19 #[.agg #[iv (D 0).id, iv (D 0).kind, iv (D 0).space, .string (D 0).name, .string (D 0).text, .slice ao' (D 0).al.length ac', iv (D 0).sf, iv (D 0).st, iv (D 0).ef, iv (D 0).et, .slice kp' (K 0).length kc'], .agg #[iv (D 0).id, iv (D 0).kind, iv (D 0).space, .string (D 0).name, .string (D 0).text, .slice ao (D 0).al.length ac, iv (D 0).sf, iv (D 0).st, iv (D 0).ef, iv (D 0).et, .slice kp (K 0).length kc]] W11 fun e w' => e = .returned (.bool true) ∧ Below W11.heap.size W11 w'))) := by
              have bd : Below W10.heap.size W10 W10.drew := (Below.refl W10.heap.size W10).drew
              refine (H1.out.2.2.2.2.2.1 M2 H9.out.2.2.1 _ _ _ (hdd.old bd)).mono ?_
              rintro e W11 ⟨ao', ac', kp', kc', rfl, b11, t11⟩
              have b67 : Below W10.heap.size W10 W11 := bd.trans b11
              exact ⟨ao', ac', kp', kc', rfl, box11 b67 hS10, b67, H1.out.2.2.2.2.1 _ _ _ _ _ _ _ t11 (t10.old b67)⟩
            have CA : Hid (∀ W12, Below W10.heap.size W10 W12 → Calls Try.prog 20 #[ptr x, iv 0] W12 (fun e W13 => ∃ ao' ac' kp' kc', e = .returned (.agg #[iv (D' 0).id, iv (D' 0).kind, iv (D' 0).space, .string (D' 0).name, .string (D' 0).text, .slice ao' (D' 0).al.length ac', iv (D' 0).sf, iv (D' 0).st, iv (D' 0).ef, iv (D' 0).et, .slice kp' (K' 0).length kc']) ∧ (W13.cell? ⟨tw, 0, none⟩ = some (iv (D 0).id) ∧ W13.cell? ⟨tw, 1, none⟩ = some (iv (D 0).kind) ∧ W13.cell? ⟨tw, 2, none⟩ = some (iv (D 0).space) ∧ W13.cell? ⟨tw, 3, none⟩ = some (.string (D 0).name) ∧ W13.cell? ⟨tw, 4, none⟩ = some (.string (D 0).text) ∧ W13.cell? ⟨tw, 5, none⟩ = some (.slice ao (D 0).al.length ac) ∧ W13.cell? ⟨tw, 6, none⟩ = some (iv (D 0).sf) ∧ W13.cell? ⟨tw, 7, none⟩ = some (iv (D 0).st) ∧ W13.cell? ⟨tw, 8, none⟩ = some (iv (D 0).ef) ∧ W13.cell? ⟨tw, 9, none⟩ = some (iv (D 0).et) ∧ W13.cell? ⟨tw, 10, none⟩ = some (.slice kp (K 0).length kc)) ∧ Hid (Below W10.heap.size W10 W13 ∧ TV (fun k => W12.heap.size ≤ k) W13 D' K' 0 (.slice ao' (D' 0).al.length ac') (.slice kp' (K' 0).length kc')))) := fun W12 b12 => by
              obtain ⟨F, hF⟩ := hT'.old b12
              refine (hTa' N' hR' _ _ _ hF.a).mono ?_
              rintro e W13 ⟨ao', ac', kp', kc', rfl, b13, t13⟩
              have b67 : Below W10.heap.size W10 W13 := b12.trans (b13.mono b12.size)
              exact ⟨ao', ac', kp', kc', rfl, box11 b67 hS10, b67, t13⟩
            have CR : Hid (∀ W13, Below W10.heap.size W10 W13 → Calls Try.prog 21 #[ptr y, iv 0] W13 (fun e W14 => ∃ ao2 ac2 kp2 kc2, e = .returned (.agg #[iv (D' 0).id, iv (D' 0).kind, iv (D' 0).space, .string (D' 0).name, .string (D' 0).text, .slice ao2 (D' 0).al.length ac2, iv (D' 0).sf, iv (D' 0).st, iv (D' 0).ef, iv (D' 0).et, .slice kp2 (K' 0).length kc2]) ∧ (W14.cell? ⟨tw, 0, none⟩ = some (iv (D 0).id) ∧ W14.cell? ⟨tw, 1, none⟩ = some (iv (D 0).kind) ∧ W14.cell? ⟨tw, 2, none⟩ = some (iv (D 0).space) ∧ W14.cell? ⟨tw, 3, none⟩ = some (.string (D 0).name) ∧ W14.cell? ⟨tw, 4, none⟩ = some (.string (D 0).text) ∧ W14.cell? ⟨tw, 5, none⟩ = some (.slice ao (D 0).al.length ac) ∧ W14.cell? ⟨tw, 6, none⟩ = some (iv (D 0).sf) ∧ W14.cell? ⟨tw, 7, none⟩ = some (iv (D 0).st) ∧ W14.cell? ⟨tw, 8, none⟩ = some (iv (D 0).ef) ∧ W14.cell? ⟨tw, 9, none⟩ = some (iv (D 0).et) ∧ W14.cell? ⟨tw, 10, none⟩ = some (.slice kp (K 0).length kc)) ∧ Hid (Below W10.heap.size W10 W14 ∧ Below W13.heap.size W13 W14 ∧ TV (fun k => W13.heap.size ≤ k ∧ k < W14.heap.size) W14 D' K' 0 (.slice ao2 (D' 0).al.length ac2) (.slice kp2 (K' 0).length kc2)))) := fun W13 b13 => by
              obtain ⟨F, hF⟩ := hT'.old b13
              refine (hTr' _ _ _ hF.r).mono ?_
              rintro e W14 ⟨ao2, ac2, kp2, kc2, rfl, b14, t14⟩
              have b67 : Below W10.heap.size W10 W14 := b13.trans (b14.mono b13.size)
              exact ⟨ao2, ac2, kp2, kc2, rfl, box11 b67 hS10, b67, b14, t14⟩
            clear k910 hR' hL' hT' hEq' hTa' hTr' hz hdd hQ t10 htw b10
            go_wp2_with fail
            go_region_held3 (fun w' => w'.cell? ⟨tw, 0, none⟩ = some (iv (D 0).id) ∧ w'.cell? ⟨tw, 1, none⟩ = some (iv (D 0).kind) ∧ w'.cell? ⟨tw, 2, none⟩ = some (iv (D 0).space) ∧ w'.cell? ⟨tw, 3, none⟩ = some (.string (D 0).name) ∧ w'.cell? ⟨tw, 4, none⟩ = some (.string (D 0).text) ∧ w'.cell? ⟨tw, 5, none⟩ = some (.slice ao (D 0).al.length ac) ∧ w'.cell? ⟨tw, 6, none⟩ = some (iv (D 0).sf) ∧ w'.cell? ⟨tw, 7, none⟩ = some (iv (D 0).st) ∧ w'.cell? ⟨tw, 8, none⟩ = some (iv (D 0).ef) ∧ w'.cell? ⟨tw, 9, none⟩ = some (iv (D 0).et) ∧ w'.cell? ⟨tw, 10, none⟩ = some (.slice kp (K 0).length kc)) (first | assumption) (first
              | (go_at_call 11; refine Calls.mono (awake_any _) ?_; rintro e W16 ⟨rfl, b16⟩; have HB16 : Hid (Below W10.heap.size W10 W16) := HB15.out.trans (b16.mono HB15.out.size); have hS16 := box11 HB16.out HX.out.2.2.2.2.2.2)
              | (go_at_call 19; have hq := HE14; clear hq; refine Calls.mono HE14.out ?_; rintro e W15 ⟨rfl, b15⟩; have HB15 : Hid (Below W10.heap.size W10 W15) := HC14.out.1.trans (b15.mono HC14.out.1.size); have hS15 := box11 HB15.out HX.out.2.2.2.2.2.2)
              | (go_at_call 19; refine Calls.mono HC11.out.2 ?_; rintro e W12 ⟨rfl, b12⟩; have HB12 : Hid (Below W10.heap.size W10 W12) := HC11.out.1.trans (b12.mono HC11.out.1.size); have hS12 := box11 HB12.out HX.out.2.2.2.2.2.2)
              | (go_at_call 21; refine Calls.mono (CR.out _ HC13.out.1) ?_; rintro e W14 ⟨ao2, ac2, kp2, kc2, rfl, hS14, HC14⟩; have HE14 := Hid.intro' (HX.out.2.2.1 _ _ _ _ _ _ _ (HC13.out.2.old HC14.out.2.1) HC14.out.2.2))
              | (go_at_call 20; have hq := HB12; clear hq; refine Calls.mono (CA.out _ HB12.out) ?_; rintro e W13 ⟨ao1, ac1, kp1, kc1, rfl, hS13, HC13⟩)
              | (go_at_call 20; refine Calls.mono CD.out ?_; rintro e W11 ⟨ao', ac', kp', kc', rfl, hS11, HC11⟩))
            go_wp2_with fail
            go_ret
            exact ⟨rfl, HX.out.2.2.2.2.2.1.trans (HB16.out.mono HX.out.2.2.2.2.2.1.size)⟩
end Go.Proofs.Ytcdaghlbfclpkaa
namespace Go.Proofs.Ytcdaghlbfclpkaa
open Go.ChangeShapes Go.WideShapes Go.ChangeAt Go.RowKit Go.Joins

theorem weights_mem_all {H : Type} {P : Program} {e : TypeId} : ∀ {ds : List (DataW H)} {d : DataW H}, d ∈ ds → ∀ n ∈ d.weights P e, n ∈ DataW.weightsAll P e ds
  | [], _, h, _, _ => by simp at h
  | x :: ds, d, h, n, hn => by
    rw [DataW.weightsAll, List.mem_append]
    rcases List.mem_cons.1 h with rfl | h
    · exact .inl hn
    · exact .inr (weights_mem_all h n hn)
theorem deed_cells2 {H : Type} {enc : TypeId × Value → H} {W : World} {n : Nat} {cs : List Value} {x : DataW H × List MemPlace} (h : DataW.trod enc Try.prog W 0 (fun _ => true) true n 37 cs = some x) :
    ∃ T : Dd, cs = T.arr.toList ∧ DdIn W T ∧ T.d.name.data.toList.length ∈ x.1.weights Try.prog 37 ∧ T.d.text.data.toList.length ∈ x.1.weights Try.prog 37 ∧ (T.d.al = [] ∨ ∃ q, (T.d.al.length + q) * Try.prog.bytesOf 53 ∈ x.1.weights Try.prog 37) := by
  obtain ⟨y0, y1, y2, y3, y4, m, hx, hl, h0, h1, h2, h3, h4⟩ := trod_struct5 Try.underlying37 h
  rw [cells37] at hl
  obtain ⟨c0, c1, c2, c3, c4, c5, c6, c7, c8, c9, c10, c11, c12, c13, c14, rfl⟩ : ∃ c0 c1 c2 c3 c4 c5 c6 c7 c8 c9 c10 c11 c12 c13 c14, cs = [c0, c1, c2, c3, c4, c5, c6, c7, c8, c9, c10, c11, c12, c13, c14] := by
    match cs, hl with
    | [c0, c1, c2, c3, c4, c5, c6, c7, c8, c9, c10, c11, c12, c13, c14], _ => exact ⟨c0, c1, c2, c3, c4, c5, c6, c7, c8, c9, c10, c11, c12, c13, c14, rfl⟩
  simp only [cells3, cells35] at h0 h1 h2 h3 h4
  simp only [List.drop_zero, List.drop_succ_cons, List.take_succ_cons, List.take_zero] at h0 h1 h2 h3 h4
  obtain ⟨k, e0, g0, w0⟩ := DataW.trod_int Try.underlying3 h0
  obtain ⟨a, e1, g1, w1⟩ := DataW.trod_int Try.underlying3 h1
  obtain ⟨b, e2, g2, w2⟩ := DataW.trod_int Try.underlying3 h2
  obtain ⟨c, e3, g3, w3⟩ := DataW.trod_int Try.underlying3 h3
  obtain ⟨z0, z1, z2, z3, z4, z5, z6, z7, z8, m2, hz, hl2, q0, q1, q2, q3, q4, q5, q6, q7, q8⟩ := trod_struct9 Try.underlying35 h4
  simp only [cells3, cells9, cells30, cells32, cells33] at q0 q1 q2 q3 q4 q5 q6 q7 q8
  simp only [List.drop_zero, List.drop_succ_cons, List.take_succ_cons, List.take_zero] at q0 q1 q2 q3 q4 q5 q6 q7 q8
  obtain ⟨id, e4, g4, w4⟩ := DataW.trod_int Try.underlying3 q0
  obtain ⟨kd, e5, g5, w5⟩ := DataW.trod_int Try.underlying3 q1
  obtain ⟨sp, e6, g6, w6⟩ := DataW.trod_int Try.underlying3 q2
  obtain ⟨nm, e7, g7, w7⟩ := DataW.trod_string Try.underlying9 q3
  obtain ⟨tx, e8, g8, w8⟩ := DataW.trod_string Try.underlying9 q4
  obtain ⟨ao, n', ac, e9, L, len, row, hc1, hc2, hAD⟩ := open_attrs q5
  obtain ⟨_, _, m3, _, _, s0, s1⟩ := trod_struct2 Try.underlying32 q6
  obtain ⟨_, _, m4, _, _, t0, t1⟩ := trod_struct2 Try.underlying32 q7
  simp only [cells3] at s0 s1 t0 t1
  simp only [List.drop_zero, List.drop_succ_cons, List.take_succ_cons, List.take_zero] at s0 s1 t0 t1
  obtain ⟨sf, e10, _, w10⟩ := DataW.trod_int Try.underlying3 s0
  obtain ⟨st, e11, _, w11⟩ := DataW.trod_int Try.underlying3 s1
  obtain ⟨ef, e12, _, w12⟩ := DataW.trod_int Try.underlying3 t0
  obtain ⟨et, e13, _, w13⟩ := DataW.trod_int Try.underlying3 t1
  obtain ⟨ko, kn, kc, e14⟩ := slice_cells q8
  simp only [List.cons.injEq, and_true] at e0 e1 e2 e3 e4 e5 e6 e7 e8 e10 e11 e12 e13
  subst len
  subst e0 e1 e2 e3 e4 e5 e6 e7 e8 e9 e10 e11 e12 e13 e14
  refine ⟨⟨k, a, b, c, ⟨id, kd, sp, nm, tx, .slice none 0 0, L, sf, st, ef, et⟩, ao, ac, ko, kn, kc⟩, rfl, ⟨row, hc1, hc2, bounds_i64 w0, bounds_i64 w1, bounds_i64 w2, bounds_i64 w3, bounds_i64 w5⟩, ?_, ?_, ?_⟩
  · rw [hx, hz, g7]
    simp [DataW.weights, DataW.weightsEach, Try.underlying37, Try.underlying35]
  · rw [hx, hz, g8]
    simp [DataW.weights, DataW.weightsEach, Try.underlying37, Try.underlying35]
  · rcases hAD with ⟨hL, _⟩ | ⟨sp, hs⟩
    · exact .inl hL
    · refine .inr ⟨sp.length, ?_⟩
      rw [hx, hz, hs]
      simp [DataW.weights, DataW.weightsEach, Try.underlying37, Try.underlying35, Try.underlying30]
theorem open_deeds2 {H : Type} {enc : TypeId × Value → H} {W : World} {n : Nat} {lo : Option Addr} {len cap : Nat} {x : DataW H × List MemPlace} (h : DataW.trod enc Try.prog W 0 (fun _ => true) true n 22 [.slice lo len cap] = some x) :
    ∃ l : List Dd, Dds W lo len cap l ∧ ∀ T ∈ l, T.d.name.data.toList.length ∈ x.1.weights Try.prog 22 ∧ T.d.text.data.toList.length ∈ x.1.weights Try.prog 22 ∧ (T.d.al = [] ∨ ∃ q, (T.d.al.length + q) * Try.prog.bytesOf 53 ∈ x.1.weights Try.prog 22) := by
  rcases Go.Deep.open_slice Try.underlying22 h with ⟨h0, _⟩ | ⟨a, len', cap', m, k, D, Pl, hcs, _, hl, hm, hmm, hxe, hx⟩
  · simp only [List.cons.injEq, Value.slice.injEq, and_true] at h0
    obtain ⟨_, rfl, rfl⟩ := h0
    exact ⟨[], ⟨rfl, fun i x hx => by simp at hx, Nat.le_refl _, Nat.zero_le _⟩, fun T hT => by simp at hT⟩
  · simp only [List.cons.injEq, Value.slice.injEq, and_true] at hcs
    obtain ⟨rfl, rfl, rfl⟩ := hcs
    rw [if_pos rfl] at hmm
    have each : ∀ i, i < len → ∃ r : Dd, (∀ j u, r.arr[j]? = some u → W.cell? (a.add (i * 15 + j)) = some u) ∧ DdIn W r ∧ r.d.name.data.toList.length ∈ (D i).weights Try.prog 37 ∧ r.d.text.data.toList.length ∈ (D i).weights Try.prog 37 ∧ (r.d.al = [] ∨ ∃ q, (r.d.al.length + q) * Try.prog.bytesOf 53 ∈ (D i).weights Try.prog 37) := by
      intro i hi
      obtain ⟨cs', h1, h2⟩ := hx i (by omega)
      rw [cells37] at h1
      obtain ⟨_, hlen, hcell⟩ := World.cells?_some h1
      obtain ⟨T, rfl, z1⟩ := deed_cells2 h2
      refine ⟨T, fun j u hj => ?_, z1⟩
      have hj8 : j < 15 := by have := (Array.getElem?_eq_some_iff.1 hj).1; simpa using this
      have := hcell j hj8
      rw [Go.Deep.add_add] at this
      rw [this]
      rw [← Array.getElem?_toList] at hj
      exact hj
    obtain ⟨f, hf⟩ : ∃ f : Nat → Dd, ∀ i, i < len → (∀ j u, (f i).arr[j]? = some u → W.cell? (a.add (i * 15 + j)) = some u) ∧ DdIn W (f i) ∧ (f i).d.name.data.toList.length ∈ (D i).weights Try.prog 37 ∧ (f i).d.text.data.toList.length ∈ (D i).weights Try.prog 37 ∧ ((f i).d.al = [] ∨ ∃ q, ((f i).d.al.length + q) * Try.prog.bytesOf 53 ∈ (D i).weights Try.prog 37) := by
      haveI : Inhabited Dd := ⟨⟨0, 0, 0, 0, dpp, none, 0, none, 0, 0⟩⟩
      exact Go.Deep.choose_lt each
    refine ⟨(List.range len).map f, ⟨by simp, fun i x hx => ?_, hl, hm⟩, fun T hT => ?_⟩
    rotate_left 1
    · obtain ⟨i, hi, rfl⟩ := List.mem_map.1 hT
      have hi' : i < len := by simpa using hi
      have m : ∀ n ∈ (D i).weights Try.prog 37, n ∈ x.1.weights Try.prog 22 := fun n hn => by
        have q : ∀ A B : List (DataW H), DataW.weights Try.prog 22 (DataW.slice A B) = (A.length + B.length) * Try.prog.bytesOf 37 :: (DataW.weightsAll Try.prog 37 A ++ DataW.weightsAll Try.prog 37 B) := fun A B => by
          simp [DataW.weights, Try.underlying22]
        rw [hxe]
        simp only
        rw [q]
        exact List.mem_cons_of_mem _ (List.mem_append_left _ (weights_mem_all (List.mem_map.2 ⟨i, hi, rfl⟩) n hn))
      exact ⟨m _ (hf i hi').2.2.1, m _ (hf i hi').2.2.2.1, (hf i hi').2.2.2.2.imp id fun ⟨q, hq⟩ => ⟨q, m _ hq⟩⟩
    have hi : i < len := by have := (List.getElem?_eq_some_iff.1 hx).1; simpa using this
    have hfi : f i = x := by
      rw [List.getElem?_map, List.getElem?_range hi] at hx
      simpa using hx
    obtain ⟨g0, ok, _⟩ := hf i hi
    have g00 := (hf 0 (by omega)).1 0 _ rfl
    obtain ⟨b, off, spot⟩ := a
    have hspot : spot = none := by
      have := World.cell?_spot g00
      simpa [Addr.add] using this
    subst hspot
    rw [hfi] at g0 ok
    refine ⟨b, off, rfl, ?_, fun j u hj => ?_, ok⟩
    · have := g0 0 _ rfl
      rw [Addr.add_lit] at this
      exact World.block_lt_of_cell? W _ this
    · have := g0 j u hj
      rw [Addr.add_lit, ← Nat.add_assoc] at this
      exact this
theorem deeds_str {H : Type} {enc : TypeId × Value → H} {W : World} {n : Nat} {lo : Option Addr} {len cap : Nat} {x : DataW H × List MemPlace} {ts : List TypeId} {ds : List (DataW H)} (hz : (DataW.weightsEach Try.prog ts ds).all (· ≤ reachBytes) = true) {j : Nat} (ht : ts[j]? = some 22) (hd : ds[j]? = some x.1) (h : DataW.trod enc Try.prog W 0 (fun _ => true) true n 22 [.slice lo len cap] = some x) :
    ∃ l : List Dd, Dds W lo len cap l ∧ len ≤ 9223372036854775807 ∧ ∀ (i : Nat) (T : Dd), l[i]? = some T → T.d.name.size ≤ 2000000000000000000 ∧ T.d.text.size ≤ 2000000000000000000 ∧ T.d.al.length ≤ 2000000000000000000 := by
  obtain ⟨l, hl, hw⟩ := open_deeds2 h
  refine ⟨l, hl, by have := hl.hcap; have := hl.hmax; unfold maxLen at this; omega, fun i T hT => ?_⟩
  have h5 : reachBytes = 140737488351232 := by decide
  have e1 : T.d.name.data.toList.length = T.d.name.size := Array.length_toList
  have e2 : T.d.text.data.toList.length = T.d.text.size := Array.length_toList
  have m : ∀ n ∈ x.1.weights Try.prog 22, n ≤ reachBytes := fun n hn => of_decide_eq_true (List.all_eq_true.1 hz _ (DataW.weights_mem_each ht hd _ hn))
  have a1 := m _ (hw T (List.mem_of_getElem? hT)).1
  obtain ⟨_, w2, w3⟩ := hw T (List.mem_of_getElem? hT)
  have a2 := m _ w2
  have a3 : T.d.al.length ≤ 140737488351232 := by
    rcases w3 with q | ⟨q, hq⟩
    · rw [q]; simp
    · have := m _ hq
      rw [bytes53] at this
      omega
  exact ⟨by omega, by omega, by omega⟩
end Go.Proofs.Ytcdaghlbfclpkaa
namespace Go.Proofs.Ytcdaghlbfclpkaa
open Go.ChangeShapes Go.WideShapes Go.ChangeAt Go.RowKit Go.Joins

theorem copies_walk (w : World) (lo : Option Addr) (len cap : Nat) (l : List Dd) (hl : Dds w lo len cap l) (hm : len ≤ 9223372036854775807) (hs : (∀ (i : Nat) (T : Dd), l[i]? = some T → T.d.name.size ≤ 2000000000000000000 ∧ T.d.text.size ≤ 2000000000000000000 ∧ T.d.al.length ≤ 2000000000000000000)) (lo2 : Option Addr) (len2 cap2 : Nat) (m : List Dd) (hl2 : Dds w lo2 len2 cap2 m) (hm2 : len2 ≤ 9223372036854775807) (hs2 : (∀ (i : Nat) (T : Dd), m[i]? = some T → T.d.name.size ≤ 2000000000000000000 ∧ T.d.text.size ≤ 2000000000000000000 ∧ T.d.al.length ≤ 2000000000000000000)) :
    Calls Try.prog 4 #[.slice lo len cap, .slice lo2 len2 cap2] w fun e w' => e = .returned (.bool true) ∧ Below w.heap.size w w' := copies_any hl hm hs hl2 hm2 hs2

set_option maxRecDepth 100000 in
theorem copies_lifted (os : Os) (started : os.Started) (H : Type) (enc : TypeId × Value → H) :
    ReturnsInHanded {} Try.checked os 4 .any (Rows.arenaCopiesSpec.pre6 enc Try.prog Try.f4 Rows.arenaCopiesRow.domain false) (Rows.arenaCopiesSpec.post enc Try.prog Try.f4 false true false false) := by
  refine returnsInHanded_of_change_sized (C := Try.checked) own started (by kernel_rfl) Try.func4
    (ChangeSpec.witness6 (enc := enc) (C := Try.checked) false ⟨#[], #[.slice none 0 0, .slice none 0 0], []⟩ 8 (by kernel_rfl) (by kernel_rfl) (by kernel_rfl) (by kernel_rfl)) ?_
  intro W base args ds gs before hval0 hW hcnd hz0 _
  have hval : ∀ (j : Nat) t v, Try.f4.params[j]? = some t → args[j]? = some v → Value.okWide Try.prog W .any base t v := hval0
  have hz : (DataW.weightsEach Try.prog (Try.f4.params.toList ++ Rows.arenaCopiesSpec.plain.varTypes Try.prog) (ds ++ gs)).all (· ≤ reachBytes) = true := hz0
  have hW' := hW
  obtain ⟨p, q, hA0, hV, rfl, hfz, hnd⟩ := hW
  have hA : DataW.TrodAll enc Try.prog W 0 (fun _ => true) true Try.f4.params.toList args.toList ds p := hA0
  rw [Try.params4] at hA hval hz
  obtain ⟨v0, vs0, d0, ds0, p0, q0, hargs, rfl, rfl, h0, r0⟩ := trodAll_cons hA
  obtain ⟨v1, vs1, d1, ds1, p1, q1, rfl, rfl, rfl, h1, r1⟩ := trodAll_cons r0
  obtain ⟨rfl, rfl, rfl⟩ := trodAll_nil r1
  obtain rfl : args = #[v0, v1] := by cases args; simp_all
  obtain ⟨rfl, rfl⟩ := trodVars_none hV
  have k0 := h0
  have lt0 : ∀ x ∈ p0, x.block < W.heap.size := by obtain ⟨m, hm⟩ := k0; exact DataW.trod_lt m _ _ _ hm
  have k1 := h1
  have lt1 : ∀ x ∈ p1, x.block < W.heap.size := by obtain ⟨m, hm⟩ := k1; exact DataW.trod_lt m _ _ _ hm
  obtain ⟨lo0, len0, cap0, hv0⟩ := okWide_slice Try.underlying22 (hval 0 22 v0 rfl rfl)
  subst hv0
  obtain ⟨fuel0, hf0⟩ := h0
  obtain ⟨L0, hL0, hm0, hs0⟩ := deeds_str (j := 0) (n := fuel0) hz rfl rfl (by simpa [Value.cells] using hf0)
  obtain ⟨lo1, len1, cap1, hv1⟩ := okWide_slice Try.underlying22 (hval 1 22 v1 rfl rfl)
  subst hv1
  obtain ⟨fuel1, hf1⟩ := h1
  obtain ⟨L1, hL1, hm1, hs1⟩ := deeds_str (j := 1) (n := fuel1) hz rfl rfl (by simpa [Value.cells] using hf1)
  clear hA0 hval0 hz0
  refine (copies_walk W lo0 len0 cap0 L0 hL0 hm0 hs0 lo1 len1 cap1 L1 hL1 hm1 hs1).mono fun e W' ⟨he, bel⟩ => ?_
  subst he
  exact ⟨_, rfl, _, _, _, [], _, [], hW', trodAll_mk1 (shut_bool Try.underlying4 _), (trodAll_cons_mk (Below.trod laidOut (by kernel_rfl) (of_decide_eq_true (by kernel_rfl)) k0 bel lt0) (trodAll_cons_mk (Below.trod laidOut (by kernel_rfl) (of_decide_eq_true (by kernel_rfl)) k1 bel lt1) trodAll_mk0)), rfl, bel.frame _, fun h => by cases h⟩

theorem copies_holds : Rows.ArenaCopiesSaid :=
  OpenClaim.holds_of_wide 4 Try.f4 rfl rfl rfl rfl rfl rfl rfl ⟨rfl, rfl, rfl, rfl, rfl⟩ rfl rfl rfl rfl rfl (by kernel_rfl) Try.func4 (by kernel_rfl)
    (of_decide_eq_true (by kernel_rfl)) (by unfold Func.isWrapper; first | (rw [if_pos (by decide +kernel)]; kernel_rfl) | (rw [if_neg (by decide +kernel)]; exact ⟨rfl, rfl⟩))
    (fun os started H enc _ => copies_lifted os started H enc)
#print axioms copies_holds
end Go.Proofs.Ytcdaghlbfclpkaa
