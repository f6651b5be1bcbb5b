/- A stack of some names; chapter 16's examples. -/
import Derived.Test.YtkmghkfdegdikaaDoorAj
namespace Go.Proofs.YtkmghkfdegdikaaDoor
open Go.RowKit

/-- Space and name. -/
abbrev Sn := Int × ByteArray
abbrev El.sn (d : El) : Sn := (d.sp, d.nm)
def hasN (names : List ByteArray) (scope : Int) : List Sn → Bool
  | [] => false
  | d :: L => if isP d.1 d.2 0 names then true else if endsP scope d.1 d.2 then false else hasN names scope L
theorem hasS_map (names : List ByteArray) (scope : Int) : ∀ M : List El, hasS names scope M = hasN names scope (M.map El.sn)
  | [] => rfl
  | d :: M => by rw [hasS, List.map_cons, hasN, hasS_map names scope M]
def leftIN (but : ByteArray) (M : List Sn) : Nat → Nat
  | 0 => 0
  | k + 1 => match M[k]? with
    | some d => if impP but d.1 d.2 then leftIN but M k else k + 1
    | none => k + 1
theorem leftI_map (but : ByteArray) (M : List El) : ∀ k, leftI but M k = leftIN but (M.map El.sn) k
  | 0 => rfl
  | k + 1 => by
    rw [leftI, leftIN, List.getElem?_map, leftI_map but M k]
    cases M[k]? <;> rfl
def leftUN (l : List ByteArray) (M : List Sn) : Nat → Nat
  | 0 => 0
  | k + 1 => match M[k + 1]? with
    | some d => if isP d.1 d.2 0 l then k + 1 else leftUN l M k
    | none => k + 1
theorem leftU_map (l : List ByteArray) (M : List El) : ∀ k, leftU l M k = leftUN l (M.map El.sn) k
  | 0 => rfl
  | k + 1 => by
    rw [leftU, leftUN, List.getElem?_map, leftU_map l M k]
    cases M[k + 1]? <;> rfl

/-- What 'of' answers. -/
abbrev OfIs (l : List ByteArray) (w : World) (e : Ending) (w' : World) : Prop := ∃ x rv M, e = .returned (ptr x) ∧ Stk (fun k => k < w.heap.size) w' x rv M ∧ M.map El.sn = l.map (fun n => ((0 : Int), n)) ∧ Below w.heap.size w w'
set_option maxHeartbeats 1000000 in
set_option maxRecDepth 20000 in
theorem of_any {w : World} {lo : Option Addr} {l : List ByteArray} (h : StrRow w lo l) (n c : Nat) (hn : l.length = n) (hn2 : n ≤ 1000) : Calls Tryd.prog 27 #[.slice lo n c] w (OfIs l w) := by
  have kn := new_any w
  have HH : Hid (StrRow w lo l ∧ l.length = n ∧ n ≤ 1000) := ⟨h, hn, hn2⟩
  clear h hn
  go_enter Tryd.func27, Tryd.ntmps27
  go_wp2_with fail
  refine kn.mono ?_
  rintro e w1 ⟨rfl, b1, s1⟩
  have HB : Hid (Below w.heap.size w w1 ∧ Stk (fun k => k < w.heap.size) w1 w.heap.size (.slice none 0 0) []) := ⟨b1, s1⟩
  clear kn b1 s1
  go_wp2_with fail
  go_loopg [4] n (fun g2 iv' wr => ∃ (i : Nat) (M : List El) (rv : Value), iv' = iv (i : Int) ∧ i + g2 = n ∧ Hid (Below w.heap.size w wr ∧ Stk (fun k => k < w.heap.size) wr w.heap.size rv M ∧ M.map El.sn = (l.take i).map (fun n => ((0 : Int), n)) ∧ M.length = i))
  case atStart => exact ⟨0, [], _, rfl, by omega, HB.out.1, HB.out.2, by simp, rfl⟩
  case round =>
    obtain ⟨i, M, rv, rfl, hig, HI⟩ := hrel
    cases gk with
    | zero =>
      obtain rfl : i = n := by omega
      have hg0 : decide ((i : Int) < (i : Int)) = false := decide_eq_false (by omega)
      have HF : Hid (OfIs l w (.returned (ptr w.heap.size)) wr) := ⟨_, rv, M, rfl, HI.out.2.1, by
        have := HI.out.2.2.1
        rwa [List.take_of_length_le (by rw [HH.out.2.1]; omega)] at this, HI.out.1⟩
      go_wp2_with fail
      go_ret
      exact HF.out
    | succ k =>
      have hin : i < n := by omega
      obtain ⟨x, hx⟩ : ∃ x, l[i]? = some x := ⟨_, List.getElem?_eq_getElem (by rw [HH.out.2.1]; exact hin)⟩
      obtain ⟨b, off, rfl, hb, c1⟩ := HH.out.1 i x hx
      have c2 : wr.cell? ⟨b, off + i, none⟩ = some (.string x) := (HI.out.1.cell (p := ⟨b, off + i, none⟩) hb).trans c1
      have kp := push_any HI.out.2.1 (by rw [HI.out.2.2.2]; omega) ⟨(i : Int), 0, x, .slice none 0 0, []⟩ ⟨⟨none, 0, rfl, fun j y hj => by simp at hj⟩, Nat.zero_le _⟩
      have HX : Hid (l[i]? = some x) := hx
      clear hx c1
      go_wp2_with fail
      refine kp.mono ?_
      rintro e w3 ⟨rfl, rv3, v3, s3, k3⟩
      have HJ : Hid (Below w.heap.size w w3 ∧ Stk (fun k => k < w.heap.size) w3 w.heap.size rv3 (M ++ [⟨(i : Int), 0, x, v3, []⟩]) ∧ (M ++ [(⟨(i : Int), 0, x, v3, []⟩ : El)]).map El.sn = (l.take (i + 1)).map (fun n => ((0 : Int), n)) ∧ (M ++ [(⟨(i : Int), 0, x, v3, []⟩ : El)]).length = i + 1) := ⟨HI.out.1.trans (k3.below (fun _ h => h) HI.out.1.size), s3, by
        rw [List.map_append, HI.out.2.2.1, List.take_add_one, HX.out]
        simp, by rw [List.length_append, HI.out.2.2.2]; rfl⟩
      clear kp s3 k3 c2
      go_wp2_with fail
      go_roundg k
      case measure => omega
      case rel => exact ⟨i + 1, _, _, by go_num, by omega, HJ⟩

/-- 'of' with names that are written out, as the walk meets it. -/
theorem of_lit {w : World} (l : List ByteArray) (n : Nat) (hn : l.length = n) (hn2 : n ≤ 1000) (r : Array Value) (hr : r.toList = l.map Value.string) :
    Calls Tryd.prog 27 #[.slice (some ⟨w.heap.size, 0, none⟩) n n] (w.alloc (.cells r 9)) (OfIs l w) := by
  have b1 : Below w.heap.size w (w.alloc (.cells r 9)) := (Below.refl _ _).alloc (Nat.le_refl _) _
  refine (of_any (StrRow.box (heap_alloc_new w _) hr) n n hn hn2).mono ?_
  rintro e w' ⟨x, rv, M, rfl, h1, h2, h3⟩
  refine ⟨x, rv, M, rfl, ⟨fun k hk => Nat.lt_of_lt_of_le hk (Nat.le_trans b1.size h3.size), h1.blk, fun hk => h1.out (Nat.lt_of_lt_of_le hk b1.size), h1.row.sub (fun k hk => Nat.lt_of_lt_of_le hk b1.size), h1.own⟩, h2, b1.trans (h3.mono b1.size)⟩
/-- Has with one name that is written out. -/
theorem has_lit {S : Nat → Prop} {w : World} {x : Nat} {rv : Value} {M : List El} (h : Stk S w x rv M) (hM : M.length ≤ 1000000000) (scope : Int) (nm : ByteArray) (r : Bool) (hr : hasN [nm] scope (M.map El.sn).reverse = r) :
    Calls Tryd.prog 19 #[ptr x, iv scope, .slice (some ⟨w.heap.size, 0, none⟩) 1 1] (w.alloc (.cells #[.string nm] 9)) fun e w' => e = .returned (.bool r) ∧ Below w.heap.size w w' := by
  have b1 : Below w.heap.size w (w.alloc (.cells #[.string nm] 9)) := (Below.refl _ _).alloc (Nat.le_refl _) _
  refine (has_any (h.old b1) hM scope (StrRow.box (l := [nm]) (heap_alloc_new w _) rfl) 1 1 rfl (by decide)).mono ?_
  rintro e w' ⟨rfl, b2⟩
  rw [hasS_map, List.map_reverse, hr]
  exact ⟨rfl, b1.trans (b2.mono b1.size)⟩
def tHtml : ByteArray := ⟨#[104, 116, 109, 108]⟩
def tBody : ByteArray := ⟨#[98, 111, 100, 121]⟩
def tP : ByteArray := ⟨#[112]⟩
def tB : ByteArray := ⟨#[98]⟩
def tButton : ByteArray := ⟨#[98, 117, 116, 116, 111, 110]⟩
def tLi : ByteArray := ⟨#[108, 105]⟩
def rowA : List Sn := [(0, tHtml), (0, tBody), (0, tP), (0, tB)]
def rowB : List Sn := [(0, tHtml), (0, tBody), (0, tP), (0, tButton)]
def rowC : List Sn := [(0, tHtml), (0, tBody), (0, tP), (0, tLi)]
set_option maxHeartbeats 4000000 in
set_option maxRecDepth 20000 in
theorem awake_any {w : World} (T : Tb w) : Calls Tryd.prog 10 #[] w fun e w' => e = .returned (.bool true) ∧ Below w.heap.size w w' := by
  have HT : Hid (Tb w) := T
  clear T
  have k1 := of_lit (w := w) [tHtml, tBody, tP, tB] 4 rfl (by decide) #[.string ⟨#[104, 116, 109, 108]⟩, .string ⟨#[98, 111, 100, 121]⟩, .string ⟨#[112]⟩, .string ⟨#[98]⟩] rfl
  go_enter Tryd.func10, Tryd.ntmps10
  go_wp2_with fail
  refine k1.mono ?_
  rintro e w1 ⟨xa, rva, Ma, rfl, sa, ma, b1⟩
  have HA : Hid (Stk (fun k => k < w.heap.size) w1 xa rva Ma ∧ Ma.map El.sn = rowA ∧ Below w.heap.size w w1) := ⟨sa, ma, b1⟩
  clear k1 sa ma b1
  have k2 := of_lit (w := w1) [tHtml, tBody, tP, tButton] 4 rfl (by decide) #[.string ⟨#[104, 116, 109, 108]⟩, .string ⟨#[98, 111, 100, 121]⟩, .string ⟨#[112]⟩, .string ⟨#[98, 117, 116, 116, 111, 110]⟩] rfl
  go_wp2_with fail
  refine k2.mono ?_
  rintro e w2 ⟨xb, rvb, Mb, rfl, sb, mb, b2⟩
  have HB : Hid (Stk (fun k => k < w1.heap.size) w2 xb rvb Mb ∧ Mb.map El.sn = rowB ∧ Below w.heap.size w w2 ∧ Stk (fun k => k < w.heap.size) w2 xa rva Ma) := ⟨sb, mb, HA.out.2.2.trans (b2.mono HA.out.2.2.size), HA.out.1.old b2⟩
  clear k2 sb mb b2
  have k3 := of_lit (w := w2) [tHtml, tBody, tP, tLi] 4 rfl (by decide) #[.string ⟨#[104, 116, 109, 108]⟩, .string ⟨#[98, 111, 100, 121]⟩, .string ⟨#[112]⟩, .string ⟨#[108, 105]⟩] rfl
  go_wp2_with fail
  refine k3.mono ?_
  rintro e w3 ⟨xc, rvc, Mc, rfl, sc, mc, b3⟩
  have HC : Hid (Stk (fun k => k < w2.heap.size) w3 xc rvc Mc ∧ Mc.map El.sn = rowC ∧ Below w2.heap.size w2 w3) := ⟨sc, mc, b3⟩
  have lc : Mc.length = 4 := by have := congrArg List.length mc; simpa using this
  have ki := implied_pop (HT.out.below (HB.out.2.2.1.trans (b3.mono HB.out.2.2.1.size))) sc (by omega) ⟨#[112]⟩
  have hl : leftI ⟨#[112]⟩ Mc Mc.length = 3 := by
    rw [leftI_map, mc, lc]
    decide +kernel
  rw [hl] at ki
  clear k3 sc mc b3 hl
  go_wp2_with fail
  refine ki.mono ?_
  rintro e w4 ⟨v, rvc4, rfl, sc4, kc4, rw4, _⟩
  rw [lc] at rw4
  obtain ⟨g, cp, cur, rfl, hgS, _, hgb, hc1, hc2, _⟩ := rw4.form (by decide)
  have hd3 : ∃ d3, Mc[3]? = some d3 ∧ d3.nm = tLi := by
    obtain ⟨d3, h3⟩ : ∃ d3, Mc[3]? = some d3 := ⟨_, List.getElem?_eq_getElem (by omega)⟩
    have := congrArg (·[3]?) HC.out.2.1
    simp only [List.getElem?_map, h3] at this
    exact ⟨d3, h3, by injection this with e; exact congrArg Prod.snd e⟩
  have hd2 : ∃ d2, (Mc.take 3)[2]? = some d2 ∧ d2.nm = tP := by
    obtain ⟨d2, h2⟩ : ∃ d2, Mc[2]? = some d2 := ⟨_, List.getElem?_eq_getElem (by omega)⟩
    have := congrArg (·[2]?) HC.out.2.1
    simp only [List.getElem?_map, h2] at this
    exact ⟨d2, by rw [List.getElem?_take_of_lt (by decide)]; exact h2, by injection this with e; exact congrArg Prod.snd e⟩
  obtain ⟨d3, h3, n3⟩ := hd3
  obtain ⟨d2, h2, n2⟩ := hd2
  have hdr : (Mc.drop 3).reverse = [d3] := by
    rw [List.drop_eq_getElem_cons (by omega), List.drop_of_length_le (by omega)]
    have := List.getElem?_eq_getElem (show 3 < Mc.length by omega)
    rw [h3] at this
    injection this with e
    rw [← e]
    rfl
  rw [hdr] at rw4
  have cg : w4.cell? ⟨g, 2, none⟩ = some (.string ⟨#[108, 105]⟩) := (rw4.cell (j := 2) rfl).trans (by rw [n3]; rfl)
  have bw4 : Below w2.heap.size w2 w4 := HC.out.2.2.trans (kc4.below (fun _ h => h) HC.out.2.2.size)
  have HD : Hid (Stk (fun k => k < w2.heap.size) w4 xc rvc4 (Mc.take 3) ∧ Below w2.heap.size w2 w4 ∧ w4.cell? ⟨g, 2, none⟩ = some (.string ⟨#[108, 105]⟩) ∧ g < w4.heap.size) := ⟨sc4, bw4, cg, (Array.getElem?_eq_some_iff.1 hgb).1⟩
  have kt := top_any sc4 (m := 2) (d := d2) (by rw [List.length_take, lc]; rfl) h2 (by decide)
  rw [n2, show tP = ⟨#[112]⟩ from rfl] at kt
  clear ki sc4 kc4 rw4 hgS hgb cg bw4 hdr h2 h3 n2 n3 lc HC
  go_wp2_with fail
  refine kt.mono ?_
  rintro e w5 ⟨v5, rfl, ho5, b5⟩
  obtain ⟨ao5, ac5, hv5, _⟩ := ho5.1.slice
  subst hv5
  clear kt ho5
  obtain ⟨W6, hW6⟩ : ∃ W6, w5.alloc (.cells #[Value.int IntKind.i64 d2.id, Value.int IntKind.i64 d2.sp, Value.string ⟨#[112]⟩, Value.slice ao5 d2.al.length ac5] 34) = W6 := ⟨_, rfl⟩
  have HW6 : Hid (w5.alloc (.cells #[Value.int IntKind.i64 d2.id, Value.int IntKind.i64 d2.sp, Value.string ⟨#[112]⟩, Value.slice ao5 d2.al.length ac5] 34) = W6) := hW6
  have x6 : Bx W6 w5.heap.size 34 #[iv d2.id, iv d2.sp, .string ⟨#[112]⟩, .slice ao5 d2.al.length ac5] := by rw [← hW6]; exact heap_alloc_new w5 _
  have b6 : Below w5.heap.size w5 W6 := by rw [← hW6]; exact (Below.refl _ _).alloc (Nat.le_refl _) _
  have b46 : Below w4.heap.size w4 W6 := b5.trans (b6.mono b5.size)
  have b26 : Below w2.heap.size w2 W6 := HD.out.2.1.trans (b46.mono HD.out.2.1.size)
  have HE : Hid (Below w.heap.size w W6 ∧ Stk (fun k => k < w.heap.size) W6 xa rva Ma ∧ Stk (fun k => k < w1.heap.size) W6 xb rvb Mb ∧ Ma.length = 4 ∧ Mb.length = 4 ∧ Ma.map El.sn = rowA ∧ Mb.map El.sn = rowB ∧ ∀ V, Below W6.heap.size W6 V → V.cell? ⟨w5.heap.size, 2, none⟩ = some (.string ⟨#[112]⟩) ∧ V.cell? ⟨g, 2, none⟩ = some (.string ⟨#[108, 105]⟩)) := by
    refine ⟨HB.out.2.2.1.trans (b26.mono HB.out.2.2.1.size), HB.out.2.2.2.old b26, HB.out.1.old b26, by simpa [rowA] using congrArg List.length HA.out.2.1, by simpa [rowB] using congrArg List.length HB.out.2.1, HA.out.2.1, HB.out.2.1, fun V bV => ⟨(x6.old bV).cell 2, ?_⟩⟩
    exact (bV.cell (p := ⟨g, 2, none⟩) (Nat.lt_of_lt_of_le HD.out.2.2.2 b46.size)).trans ((b46.cell (p := ⟨g, 2, none⟩) HD.out.2.2.2).trans HD.out.2.2.1)
  have k4 := has_lit HE.out.2.1 (by rw [HE.out.2.2.2.1]; decide) 2 ⟨#[112]⟩ true (by rw [HE.out.2.2.2.2.2.1]; decide +kernel)
  clear hW6 x6 b6 b46 b26 b5 HA HB HD
  go_upto_region 7 with fail
  rw [HW6.out]
  go_wp2_with fail
  refine k4.mono ?_
  rintro e w7 ⟨rfl, b7⟩
  clear k4
  have k5 := has_lit (HE.out.2.2.1.old b7) (by rw [HE.out.2.2.2.2.1]; decide) 2 ⟨#[112]⟩ false (by rw [HE.out.2.2.2.2.2.2.1]; decide +kernel)
  have HF : Hid (Below W6.heap.size W6 w7) := b7
  clear b7
  go_wp2_with fail
  refine k5.mono ?_
  rintro e w8 ⟨rfl, b8⟩
  clear k5
  have HG : Hid (Below W6.heap.size W6 w8) := HF.out.trans (b8.mono HF.out.size)
  clear b8 HF
  have k6 := has_lit (HE.out.2.2.1.old HG.out) (by rw [HE.out.2.2.2.2.1]; decide) 0 ⟨#[112]⟩ true (by rw [HE.out.2.2.2.2.2.2.1]; decide +kernel)
  go_wp2_with fail
  refine k6.mono ?_
  rintro e w9 ⟨rfl, b9⟩
  clear k6
  have HH : Hid (Below W6.heap.size W6 w9) := HG.out.trans (b9.mono HG.out.size)
  clear b9 HG
  obtain ⟨c5, cg⟩ := HE.out.2.2.2.2.2.2.2 w9 HH.out
  have bn : Below w9.heap.size w9 (w9.alloc (.cells #[.string ⟨#[98, 111, 100, 121]⟩] 9)) := (Below.refl _ _).alloc (Nat.le_refl _) _
  have ku := until_any (l := [⟨#[98, 111, 100, 121]⟩]) ((HE.out.2.1.old HH.out).old bn) (by rw [HE.out.2.2.2.1]; decide) (StrRow.box (heap_alloc_new w9 _) rfl) 1 1 rfl (by decide)
  have hu : leftU [⟨#[98, 111, 100, 121]⟩] Ma (Ma.length - 1) = 1 := by
    rw [leftU_map, HE.out.2.2.2.2.2.1, HE.out.2.2.2.1]
    decide +kernel
  rw [hu] at ku
  have HI : Hid (Below W6.heap.size W6 (w9.alloc (.cells #[.string ⟨#[98, 111, 100, 121]⟩] 9))) := HH.out.trans (bn.mono HH.out.size)
  clear bn hu
  go_wp2_with fail
  refine ku.mono ?_
  rintro e w10 ⟨v10, _, rfl, _, kp, r10, _⟩
  rw [HE.out.2.2.2.1] at r10
  obtain ⟨ao10, ac10, rfl, _⟩ := r10.slice
  have HJ : Hid (Below w.heap.size w w10) := by
    have b1 := HE.out.1.trans (HI.out.mono HE.out.1.size)
    exact b1.trans (kp.below (fun _ h => h) b1.size)
  clear ku kp r10 c5 cg
  go_wp2_with fail
  go_ret
  exact ⟨rfl, HJ.out⟩
end Go.Proofs.YtkmghkfdegdikaaDoor
