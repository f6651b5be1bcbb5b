import Derived.Test.YtjjfalbngcbfaaaGreatDoorZ0
import Derived.Test.YtjjfalbngcbfaaaGreatDoorZj
import Derived.Laws.EntriesVeiled
set_option maxHeartbeats 2000000
set_option maxRecDepth 20000
namespace Go.Proofs.YtjjfalbngcbfaaaGreatDoor
open Go.RowKit
variable {P : Program} {ops : Array Oper} {o : Oper} {a : Act} {w W w2 : World} {Q : Exit -> Act -> World -> Prop} {t x B : Nat} {Z S : Nat -> Prop} {m m' : Mc} {v : Vs} {T T' : List TL} {c : Ch} {r p q : Int}
theorem step_append_eq {K : Act -> World -> Prop} {E : Prop}
 (hg : o.guard = none) (d x : Operand) (dT sT : TypeId) (hop : o.op = Op.call { callee := Callee.builtin Builtin.append,args := #[d,x],argTypes := #[dT,sT] })
 (v u : Value) (hd : a.eval d = v) (hx : a.eval x = u) {v' : Value} {w' : World} (hr : (Builtin.append_ #[dT,sT] o.type #[v,u]).run P w = .ok v' w') (hK : K (a.put o.dst v') w') :
 if Region.wanted o (yielded ops a.tmps) = true then Oper.wp P o a w K Q else E := by
 have hw : Region.wanted o (yielded ops a.tmps) = true := by simp [Region.wanted,hg]
 rw [jp hw]
 unfold Oper.wp
 simp [execOp,hop,resolve,invoke,builtin,hd,hx,hr,Result.andThen]
 exact hK
theorem list_append_eq {rest : List Oper}
 (hg : o.guard = none) (d x : Operand) (dT sT : TypeId) (hop : o.op = Op.call { callee := Callee.builtin Builtin.append,args := #[d,x],argTypes := #[dT,sT] })
 (v u : Value) (hd : a.eval d = v) (hx : a.eval x = u) {v' : Value} {w' : World} (hr : (Builtin.append_ #[dT,sT] o.type #[v,u]).run P w = .ok v' w') (hK : wpList P ops Q rest (a.put o.dst v') w') :
 wpList P ops Q (o :: rest) a w :=
 wpList_plain hg fun K hK2 => by
  unfold Oper.wp;simp [execOp,hop,resolve,invoke,builtin,hd,hx,hr,Result.andThen];exact hK2 _ _ hK
theorem info37 : (Tryz.prog.info? 37).map (fun i => (i.zero,i.size,i.bytes)) = some (some (.agg #[ji 0,ji 0,ji 0]),3,24) := by kernel_rfl
theorem info58 : (Tryz.prog.info? 58).map (fun i => (i.zero,i.size,i.bytes)) = some (some (.agg #[ji 0,ji 0]),2,16) := by kernel_rfl
theorem info45 : (Tryz.prog.info? 45).map (fun i => (i.zero,i.size,i.bytes)) = some (some (.agg #[ji 0,ji 0,.string ByteArray.empty,.string ByteArray.empty,jn,.bool false,ji 0,ji 0]),8,96) := by kernel_rfl
theorem info49 : (Tryz.prog.info? 49).map (fun i => (i.zero,i.size,i.bytes)) = some (some (.agg #[.string ByteArray.empty,.string ByteArray.empty]),2,32) := by kernel_rfl
theorem info5 : (Tryz.prog.info? 5).map (fun i => (i.zero,i.size,i.bytes)) = some (some (.int .u8 0),1,1) := by kernel_rfl
theorem run_store_tag (P : Program) (g o : Nat) (t : TypeId) (z : Nat × Nat) : ∀ (vs : List Value) (i : Nat) (cur : Array Value) (w : World),w.heap[g]? = some (.cells cur t z) -> cur.size <= z.1 -> o + i + vs.length <= cur.size -> (∀ v ∈ vs,v.oneCell' = true) ->
 (storeCells (jd g o) vs i).run P w = .ok () (w.setRow g (cur.toList.take (o + i) ++ vs ++ cur.toList.drop (o + i + vs.length)).toArray)
 | [],i,cur,w,hg,_,_,_ => by
  simp only [storeCells,zu,zj,Nat.add_zero,List.take_append_drop,Array.toArray_toList];rw [setRow_self w g cur t z hg];rfl
 | v :: rest,i,cur,w,hg,hz,hl,h1 => by
  have hi : o + i < cur.size := by simp at hl;omega
  have hadd : ((jd g o) : Addr).add i = (jd g (o + i)) := by unfold Addr.add;split <;> simp_all
  have hcell : w.cell? (jd g (o + i)) = some cur[o + i] := by simp [World.cell?,hg,hi]
  have hfro : w.frozen? (jd g (o + i)) = false := by
   simp only [World.frozen?,hg,Bool.and_eq_false_iff,decide_eq_false_iff_not];left;omega
  have hst : (store (((jd g o) : Addr).add i) v).run P w = .ok () (w.setRow g (cur.setIfInBounds (o + i) v)) := by
   rw [hadd,run_store P w _ v _ (h1 v (by simp)),hcell];simp [hfro,setCell_eq_setRow w g (o + i) cur t z v hg]
  have ih := run_store_tag P g o t z rest (i + 1) (cur.setIfInBounds (o + i) v) (w.setRow g (cur.setIfInBounds (o + i) v)) (setRow_heap w g cur _ t _ hg) (by simpa using hz) (by simp at hl |-;omega) (fun x hx => h1 x (by simp [hx]));simp only [storeCells,Sem.run_bind,hst,Result.andThen_ok,ih,setRow_setRow];congr 3;have e := list_seg_step cur.toList (o + i) v rest (by simp at hl |-;omega);simpa [Array.toList_setIfInBounds,Nat.add_assoc] using e
theorem run_room_tag (w : World) (t ty e : TypeId) (i : TypeInfo) (ht : P.underlying t = some (.slice e)) (hi : P.info? e = some i) (g sLen sCap : Nat) (cur : Array Value) (z : Nat × Nat) (hg : w.heap[g]? = some (.cells cur e z)) (hz : cur.size <= z.1)
 (a : Addr) (m c : Nat) (news : List Value) (hl : news.length = m * i.size) (hnews : ∀ j u,news[j]? = some u -> w.cell? (a.add j) = some u) (h1 : ∀ u ∈ news,u.oneCell' = true) (hroom : sLen + m <= sCap) (hfit : sLen * i.size + news.length <= cur.size) :
 (Builtin.append_ #[t,t] ty #[.slice (some (jd g 0)) sLen sCap,.slice (some a) m c]).run P w = .ok (.slice (some (jd g 0)) (sLen + m) sCap) (w.setRow g (cur.toList.take (sLen * i.size) ++ news ++ cur.toList.drop (sLen * i.size + news.length)).toArray) /\
 (w.setRow g (cur.toList.take (sLen * i.size) ++ news ++ cur.toList.drop (sLen * i.size + news.length)).toArray).heap[g]? = some (.cells (cur.toList.take (sLen * i.size) ++ news ++ cur.toList.drop (sLen * i.size + news.length)).toArray e z) := by
 have hf := run_firstCells_some (P := P) w i.size m a m c news hl hnews
 have hst := run_store_tag P g (sLen * i.size) e z news 0 cur w hg hz (by simpa using hfit) h1
 simp only [Nat.add_zero] at hst
 exact ⟨by simp [Builtin.append_,run_underlying ht,sizeOf,typeInfo,hi,Builtin.lenOf,hroom,hf,Addr.add_lit,hst],setRow_heap w g cur _ e _ hg⟩
theorem row_app {e size bytes : Nat} {z0 : Value} (ht : Tryz.prog.underlying t = some (.slice e)) (hinfo : (Tryz.prog.info? e).map (fun i => (i.zero,i.size,i.bytes)) = some (some z0,size,bytes)) (hzs : z0.cells.size = size) (hsz : 0 < size) (hb : bytes <= 96)
 {W : World} {v : Value} {n : Nat} {xs : List Value} {q : Bool} (hown : OwnQ W q e size v n xs) (b off k c : Nat) (news : List Value) (hl : news.length = k * size) (hc : ∀ j u,news[j]? = some u -> W.cell? (jd b (off + j)) = some u) (h1 : ∀ u ∈ news,u.oneCell' = true) (hn : n + k <= 1400000000000) :
 ∃ v' W',(Builtin.append_ #[t,t] t #[v,.slice (some (jd b off)) k c]).run Tryz.prog W = .ok v' W' /\ OwnQ W' q e size v' (n + k) (xs ++ news) /\ W.grownBy W' v.ownBlock /\ (v'.ownBlock = v.ownBlock \/ v'.ownBlock = some W.heap.size) := by
 by_cases hq : W.ownsRow 0 e size v n xs
 · obtain ⟨i0,hi0,hz0,hzs0,hzb⟩ := info_parts hinfo
   obtain ⟨v',W',hrun,ho,hg,_,hat⟩ := run_append_own_at (P := Tryz.prog) W 0 t t e i0 _ size bytes ht hi0 hz0 hzs0 hzb hzs hsz v n xs hq (jd b off) k c news hl (fun j u hj => by rw [Addr.add_lit];exact hc j u hj) h1 (by unfold maxLen;omega) (by have := Nat.mul_le_mul hn hb;omega) (Nat.zero_le _);exact ⟨v',W',hrun,.of ho,hg,hat⟩
 obtain ⟨i0,hi0,hz0,hzs0,hzb⟩ := info_parts hinfo
 rcases hown.2 with ⟨rfl,hn0⟩ | ⟨g,cap,cur,z,rfl,hg,hz,hnc,hcm,hcs,htake⟩
 · exact absurd ⟨hown.1,.inl ⟨rfl,hn0⟩⟩ hq
 rcases hz with rfl | ⟨hqt,hz⟩
 · exact absurd ⟨hown.1,.inr ⟨g,cap,cur,rfl,Nat.zero_le _,hg,hnc,hcm,hcs,htake⟩⟩ hq
 by_cases hroom : n + k <= cap
 · have hfit : n * size + news.length <= cur.size := by rw [hl,hcs,<- Nat.add_mul];exact Nat.mul_le_mul_right _ hroom
   obtain ⟨hr,hW⟩ := run_room_tag (P := Tryz.prog) W t t e i0 ht hi0 g n cap cur z hg hz (jd b off) k c news (by rw [hzs0];exact hl) (fun j u hj => by rw [Addr.add_lit];exact hc j u hj) h1 hroom (by rw [hzs0];exact hfit);rw [hzs0] at hr hW;refine ⟨_,_,hr,⟨by rw [zh,hown.1,hl,Nat.add_mul],.inr ⟨g,cap,_,z,rfl,hW,.inr ⟨hqt,?_⟩,hroom,hcm,?_,?_⟩⟩,⟨rfl,rfl,rfl,by simp,fun d _ hd => setRow_other W g d _ (fun e => hd (by simp [Value.ownBlock,e]))⟩,.inl rfl⟩
   · simp only [List.size_toArray,zh,List.length_take,zk,zw]
     omega
   · simp only [List.size_toArray,zh,List.length_take,zk,zw]
     omega
   rw [htake,show (n + k) * size = (xs ++ news).length by rw [zh,hown.1,hl,Nat.add_mul]];exact List.take_left
 have holds : ∀ j u,xs[j]? = some u -> W.cell? (((jd g 0) : Addr).add j) = some u := fun j u hj => by
  rw [Addr.add_lit,Nat.zero_add];have hjl := (zg hj);rw [<- htake,List.getElem?_take_of_lt (by rw [<- hown.1];exact hjl),Array.getElem?_toList] at hj;simp [World.cell?,hg,hj]
 have hr := run_append_grow (P := Tryz.prog) W t t e i0 z0 ht hi0 hz0 (jd g 0) n cap xs (by rw [hzs0];exact hown.1) holds (jd b off) k c news (by rw [hzs0];exact hl) (fun j u hj => by rw [Addr.add_lit];exact hc j u hj) (by omega) (by omega) (growslice_fits (by omega) (by rw [hzb];have := Nat.mul_le_mul hn hb;omega))
 have hge := grownCap_ge W (n + k) cap e
 refine ⟨_,_,hr,.of (B := 0) ⟨by rw [zh,hown.1,hl,Nat.add_mul],.inr ⟨W.heap.size,_,_,rfl,Nat.zero_le _,zx W.drew _,hge,grownCap_le_maxLen W (n + k) cap e (by unfold maxLen;omega),?_,?_⟩⟩,⟨rfl,rfl,rfl,by simp,fun d hd _ => Below.heap_alloc W.drew _ d hd⟩,.inr rfl⟩
 · simp only [Array.size_append,List.size_toArray,size_zeroCells,hzs,hown.1,hl,<- Nat.add_mul]
   rw [show n + k + (grownCap W (n + k) cap e - (n + k)) = grownCap W (n + k) cap e by omega]
 simp only [Array.toList_append,List.append_assoc]
 rw [<- List.append_assoc,show (n + k) * size = (xs ++ news).length by rw [zh,hown.1,hl,Nat.add_mul]]
 exact List.take_left
theorem fresh_of {a b : Option Nat} {n : Nat} (h : a = b \/ a = some n) (g : Nat) (hg : a = some g) : b = some g \/ n <= g := by
 rcases h with h | h
 · exact .inl (h ▸ hg)
 rw [h] at hg;cases hg;exact .inr (zb _)
theorem MachV.appW {W1 : World} (h : MachV Z S x m v T W) (b0 : Below W.heap.size W W1) (B : Nat) {t e size bytes : Nat} {z : Value} (ht : Tryz.prog.underlying t = some (.slice e)) (hinfo : (Tryz.prog.info? e).map (fun i => (i.zero,i.size,i.bytes)) = some (some z,size,bytes)) (hzs : z.cells.size = size) (hsz : 0 < size) (hb : bytes <= 96)
 (j i : Nat) (u : Value) (n k : Nat) (xs news : List Value) (hnew : W1.heap[B]? = some (.cells news.toArray e (0,0))) (hj : (m.rows v T)[j]? = some ⟨u,e,size,n,xs,false⟩) (hl : news.length = k * size) (h1 : ∀ u ∈ news,u.oneCell' = true) (hn : n + k <= 1400000000000) (mk : Value -> Vs)
 (hr : ∀ v',m'.rows (mk v') T' = (m.rows v T).set j ⟨v',e,size,n + k,xs ++ news,false⟩) (hc : ∀ v',(m.cells v).set! i v' = m'.cells (mk v')) (ha : m'.attrs = m.attrs) (hm : ∀ v',(mk v').m = v.m) (hp : ∀ v',(mk v').p = v.p) (hT : T'.map ptOf = m'.out) (htk : ∀ t ∈ T',Stays S W fun w => TkS Z w t.1 t.2) :
 ∃ ao' c' W',(Builtin.append_ #[t,t] t #[u,.slice (some (jd B 0)) k k]).run Tryz.prog W1 = .ok (.slice ao' (n + k) c') W' /\ MachV Z S x m' (mk (.slice ao' (n + k) c')) T' (W'.setCell (jd x i) (.slice ao' (n + k) c')) /\ Keep S W (W'.setCell (jd x i) (.slice ao' (n + k) c')) /\
  W'.cell? (jd x i) = (m.cells v)[i]? /\ W'.frozen? (jd x i) = false := by
 have h2 := h.below b0
 obtain ⟨v',W',hrun,ho,hg,hat⟩ := row_app ht hinfo hzs hsz hb (h2.bag.own j _ hj) B 0 k k news hl (fun j u hj => by rw [Nat.zero_add];simp [World.cell?,hnew];exact hj) h1 hn
 obtain ⟨ao',c',rfl,_,_⟩ := own_form ho
 obtain ⟨q1,q2,q3,q4⟩ := h2.put j i _ ⟨.slice ao' (n + k) c',e,size,n + k,xs ++ news,false⟩ hj ho (fun g hg2 => fresh_of hat g hg2) hg (hr _) (hc _) ha (hm _) (hp _) hT (fun t ht => (htk t ht).keep (Keep.old b0))
 exact ⟨ao',c',W',hrun,q1,(Keep.old b0).trans q2,q3,q4⟩
theorem MachV.app (h : MachV Z S x m v T W) {t e size bytes : Nat} {z : Value} (ht : Tryz.prog.underlying t = some (.slice e)) (hinfo : (Tryz.prog.info? e).map (fun i => (i.zero,i.size,i.bytes)) = some (some z,size,bytes)) (hzs : z.cells.size = size) (hsz : 0 < size) (hb : bytes <= 96)
 (j i : Nat) (u : Value) (n k : Nat) (xs news : List Value) (hj : (m.rows v T)[j]? = some ⟨u,e,size,n,xs,false⟩) (hl : news.length = k * size) (h1 : ∀ u ∈ news,u.oneCell' = true) (hn : n + k <= 1400000000000) (mk : Value -> Vs)
 (hr : ∀ v',m'.rows (mk v') T' = (m.rows v T).set j ⟨v',e,size,n + k,xs ++ news,false⟩) (hc : ∀ v',(m.cells v).set! i v' = m'.cells (mk v')) (ha : m'.attrs = m.attrs) (hm : ∀ v',(mk v').m = v.m) (hp : ∀ v',(mk v').p = v.p) (hT : T'.map ptOf = m'.out) (htk : ∀ t ∈ T',Stays S W fun w => TkS Z w t.1 t.2) :
 ∃ ao' c' W',(Builtin.append_ #[t,t] t #[u,.slice (some (jd W.heap.size 0)) k k]).run Tryz.prog (W.alloc (.cells news.toArray e)).drew = .ok (.slice ao' (n + k) c') W' /\ MachV Z S x m' (mk (.slice ao' (n + k) c')) T' (W'.setCell (jd x i) (.slice ao' (n + k) c')) /\ Keep S W (W'.setCell (jd x i) (.slice ao' (n + k) c')) /\
  W'.cell? (jd x i) = (m.cells v)[i]? /\ W'.frozen? (jd x i) = false :=
 h.appW ((ze _ _).drew) W.heap.size ht hinfo hzs hsz hb j i u n k xs news (zx W (.cells news.toArray e)) hj hl h1 hn mk hr hc ha hm hp hT htk
theorem MachV.appp (h : MachV Z S x m v T W) {t e size bytes : Nat} {z : Value} (ht : Tryz.prog.underlying t = some (.slice e)) (hinfo : (Tryz.prog.info? e).map (fun i => (i.zero,i.size,i.bytes)) = some (some z,size,bytes)) (hzs : z.cells.size = size) (hsz : 0 < size) (hb : bytes <= 96)
 (j i : Nat) (u : Value) (n k : Nat) (xs news : List Value) (hj : (m.rows v T)[j]? = some ⟨u,e,size,n,xs,false⟩) (hl : news.length = k * size) (h1 : ∀ u ∈ news,u.oneCell' = true) (hn : n + k <= 1400000000000) (mk : Value -> Vs)
 (hr : ∀ v',m'.rows (mk v') T' = (m.rows v T).set j ⟨v',e,size,n + k,xs ++ news,false⟩) (hc : ∀ v',(m.cells v).set! i v' = m'.cells (mk v')) (ha : m'.attrs = m.attrs) (hm : ∀ v',(mk v').m = v.m) (hp : ∀ v',(mk v').p = v.p) (hT : T'.map ptOf = m'.out) (htk : ∀ t ∈ T',Stays S W fun w => TkS Z w t.1 t.2) :
 ∃ ao' c' W',(Builtin.append_ #[t,t] t #[u,.slice (some (jd W.heap.size 0)) k k]).run Tryz.prog (W.alloc (.cells news.toArray e)) = .ok (.slice ao' (n + k) c') W' /\ MachV Z S x m' (mk (.slice ao' (n + k) c')) T' (W'.setCell (jd x i) (.slice ao' (n + k) c')) /\ Keep S W (W'.setCell (jd x i) (.slice ao' (n + k) c')) /\
  W'.cell? (jd x i) = (m.cells v)[i]? /\ W'.frozen? (jd x i) = false :=
 h.appW (ze _ _) W.heap.size ht hinfo hzs hsz hb j i u n k xs news (zx W (.cells news.toArray e)) hj hl h1 hn mk hr hc ha hm hp hT htk
abbrev cv (c : Ch) : Value := .agg #[ji c.r,ji c.a,ji c.z]
abbrev mp (x : Nat) : Value := .pointer (some (jd x 0))
abbrev Did (Z : Nat -> Prop) (S : Nat -> Prop) (x : Nat) (m : Mc) (w : World) (e : Ending) (w' : World) : Prop := e = jr (.tuple #[]) /\ Post Z S x m w w'
theorem hold_any (h : Mach Z S x m w) (c : Ch) (hn : m.tot <= 1000000000) : Calls Tryz.prog 48 #[mp x,cv c] w (Did Z S x (m.hold c) w) := by
 obtain ⟨r,p,q⟩ := c
 obtain ⟨v,T,h⟩ := h
 have b0 : Below w.heap.size w (w.alloc (.cells #[ji r,ji p,ji q] 37)) := ze _ _
 have h0 := h.below b0
 have hxw := h.lt
 have hx0 := h0.lt
 obtain ⟨k,hk⟩ := ex (m.wait.length)
 obtain ⟨ao',c',W',hrun,q1,q2,q3,q4⟩ := h0.app (m' := m.hold ⟨r,p,q⟩) (T' := T) Tryz.underlying33 info37 rfl (by decide) (by decide) 0 5 v.w m.wait.length 1 (m.wait.flatMap G4.Ch.cells) (G4.Ch.cells ⟨r,p,q⟩) rfl rfl (by simp [G4.Ch.cells,Value.oneCell']) (by unfold Mc.tot at hn;omega) (fun u => { v with w := u }) (fun u => by simp [Mc.rows,Mc.hold]) (fun u => by simp [Mc.cells,Mc.hold]) rfl (fun _ => rfl) (fun _ => rfl) h0.told h0.toks
 have c5 := h0.cells 5 v.w rfl
 obtain ⟨ao,ca,e5,_,_⟩ := own_form (h0.bag.own 0 _ rfl)
 simp only at e5
 have q3' : W'.cell? (jd x 5) = some v.w := q3
 rw [e5,hk] at c5 q3' hrun
 rw [hk] at q1 q2
 have HP : Hid (Post Z S x (m.hold ⟨r,p,q⟩) w (W'.setCell (jd x 5) (.slice ao' (k + 1) c'))) := Post.of ⟨_,_,q1⟩ ((Keep.old b0).trans q2)
 have d0 : (w.alloc (.cells #[ji r,ji p,ji q] 37)).cell? (jd w.heap.size 0) = some (ji r) := by rw [World.cell?_alloc_at _ _ _ _ rfl];rfl
 have d1 : (w.alloc (.cells #[ji r,ji p,ji q] 37)).cell? (jd w.heap.size 1) = some (ji p) := by rw [World.cell?_alloc_at _ _ _ _ rfl];rfl
 have d2 : (w.alloc (.cells #[ji r,ji p,ji q] 37)).cell? (jd w.heap.size 2) = some (ji q) := by rw [World.cell?_alloc_at _ _ _ _ rfl];rfl
 have hz : w.heap.size < (w.alloc (.cells #[ji r,ji p,ji q] 37)).heap.size := by simp
 clear h h0 q1 q2 q3 e5 b0 hk
 go_enter Tryz.func48,Tryz.ntmps48
 go_wp2_with fail
 generalize hW : w.alloc (.cells #[ji r,ji p,ji q] 37) = W0 at *
 clear hW
 go_region_law (refine step_append_eq rfl _ _ 33 33 rfl _ _ (by simp [Act.eval]) (by simp [Act.eval]) hrun ?_)
 all_goals
  go_wp2_with fail;refine bodyPost_end (zq rfl) rfl ?_;exact ⟨rfl,HP.out⟩
theorem fault_any (h : Mach Z S x m w) (code at' : Int) (hn : m.tot <= 1000000000) : Calls Tryz.prog 60 #[mp x,ji code,ji at'] w (Did Z S x (m.fault code at') w) := by
 obtain ⟨v,T,h⟩ := h
 have hxw := h.lt
 obtain ⟨k,hk⟩ := ex (m.fs.length)
 obtain ⟨ao',c',W',hrun,q1,q2,q3,q4⟩ := h.appp (m' := m.fault code at') (T' := T) Tryz.underlying25 info58 rfl (by decide) (by decide) 8 20 v.f m.fs.length 1 (m.fs.flatMap gcells) (gcells (code,at')) rfl rfl (by simp [gcells,G4.gcells,Value.oneCell']) (by unfold Mc.tot at hn;omega) (fun u => { v with f := u }) (fun u => by simp [Mc.rows,Mc.fault]) (fun u => by simp [Mc.cells,Mc.fault]) rfl (fun _ => rfl) (fun _ => rfl) h.told h.toks
 have c5 := h.cells 20 v.f rfl
 obtain ⟨ao,ca,e5,_,_⟩ := own_form (h.bag.own 8 _ rfl)
 simp only at e5
 have q3' : W'.cell? (jd x 20) = some v.f := q3
 rw [e5,hk] at c5 q3' hrun
 rw [hk] at q1 q2
 have HP : Hid (Post Z S x (m.fault code at') w (W'.setCell (jd x 20) (.slice ao' (k + 1) c'))) := Post.of ⟨_,_,q1⟩ q2
 clear h q1 q2 q3 e5 hk
 go_enter Tryz.func60,Tryz.ntmps60
 go_wp2_with (at_builtin;refine list_append_eq rfl _ _ 25 25 rfl _ _ rfl rfl hrun ?_)
 refine bodyPost_end (zq rfl) rfl ?_
 exact ⟨rfl,HP.out⟩
theorem tk_len (x : TL) : (tkCells x).length = 8 := rfl
theorem tk_one (x : TL) : ∀ u ∈ tkCells x,u.oneCell' = true := fun u hu => by
 simp only [tkCells,List.mem_cons,List.not_mem_nil,or_false] at hu
 rcases hu with rfl | rfl | rfl | rfl | rfl | rfl | rfl | rfl <;> rfl
def Told (Z : Nat -> Prop) (S : Nat -> Prop) (x : Nat) (m : Mc) (v : Vs) (T : List TL) (t : TL) (w : World) (e : Ending) (w' : World) : Prop := e = jr (.tuple #[]) /\ ∃ o,MachV Z S x (m.tell (ptOf t)) { v with o := o } (T ++ [t]) w' /\ Keep S w w'
theorem tell_v (h : MachV Z S x m v T w) (t : TL) (hn : m.tot <= 1000000000) (ht : Stays S w fun w => TkS Z w t.1 t.2) : Calls Tryz.prog 36 #[mp x,t.1.val] w (Told Z S x m v T t w) := by
 obtain ⟨⟨tk,tr,tnm,ttx,tao,tn,tcap,ts,tf,tt⟩,A⟩ := t
 have b0 : Below w.heap.size w (w.alloc (.cells #[ji tk,ji tr,.string tnm,.string ttx,.slice tao tn tcap,.bool ts,ji tf,ji tt] 45)) := ze _ _
 have h0 := h.below b0
 have hxw := h.lt
 have hx0 := h0.lt
 obtain ⟨k,hk⟩ := ex (T.length)
 have hTk : T.length <= 1000000000 := by
  have := congrArg List.length h.told;rw [List.length_map] at this;unfold Mc.tot at hn;omega
 obtain ⟨ao',c',W',hrun,q1,q2,q3,q4⟩ := h0.app (m' := m.tell (ptOf (⟨tk,tr,tnm,ttx,tao,tn,tcap,ts,tf,tt⟩,A))) (T' := T ++ [(⟨tk,tr,tnm,ttx,tao,tn,tcap,ts,tf,tt⟩,A)]) Tryz.underlying24 info45 rfl (by decide) (by decide) 7 19 v.o T.length 1 (T.flatMap tkCells) (tkCells (⟨tk,tr,tnm,ttx,tao,tn,tcap,ts,tf,tt⟩,A)) rfl rfl (tk_one _) (by omega) (fun u => { v with o := u }) (fun u => by simp [Mc.rows,Mc.tell]) (fun u => by simp [Mc.cells,Mc.tell]) rfl (fun _ => rfl) (fun _ => rfl) (by simp [Mc.tell,h0.told])
  (fun t ht2 => by
   rcases List.mem_append.1 ht2 with ht2 | ht2
   · exact h0.toks t ht2
   rw [List.mem_singleton] at ht2;subst ht2;exact ht.keep (Keep.old b0))
 have c5 := h0.cells 19 v.o rfl
 obtain ⟨ao,ca,e5,_,_⟩ := own_form (h0.bag.own 7 _ rfl)
 simp only at e5
 have q3' : W'.cell? (jd x 19) = some v.o := q3
 rw [e5,hk] at c5 q3' hrun
 rw [hk] at q1 q2
 have HP : Hid (Told Z S x m v T (⟨tk,tr,tnm,ttx,tao,tn,tcap,ts,tf,tt⟩,A) w (jr (.tuple #[])) (W'.setCell (jd x 19) (.slice ao' (k + 1) c'))) := ⟨rfl,_,q1,(Keep.old b0).trans q2⟩
 have hnew := zx w (.cells #[ji tk,ji tr,.string tnm,.string ttx,.slice tao tn tcap,.bool ts,ji tf,ji tt] 45)
 have hz : w.heap.size < (w.alloc (.cells #[ji tk,ji tr,.string tnm,.string ttx,.slice tao tn tcap,.bool ts,ji tf,ji tt] 45)).heap.size := by simp
 clear h h0 q1 q2 q3 e5 b0 hk hTk ht
 simp only [G9.Tk.val,G9.Tk.arr]
 go_enter Tryz.func36,Tryz.ntmps36
 go_wp2_with fail
 generalize hW : w.alloc (.cells #[ji tk,ji tr,.string tnm,.string ttx,.slice tao tn tcap,.bool ts,ji tf,ji tt] 45) = W0 at *
 clear hW
 have d0 : W0.cell? (jd w.heap.size 0) = some (ji tk) := by simp [World.cell?,hnew]
 have d1 : W0.cell? (jd w.heap.size 1) = some (ji tr) := by simp [World.cell?,hnew]
 have d2 : W0.cell? (jd w.heap.size 2) = some (.string tnm) := by simp [World.cell?,hnew]
 have d3 : W0.cell? (jd w.heap.size 3) = some (.string ttx) := by simp [World.cell?,hnew]
 have d4 : W0.cell? (jd w.heap.size 4) = some (.slice tao tn tcap) := by simp [World.cell?,hnew]
 have d5 : W0.cell? (jd w.heap.size 5) = some (.bool ts) := by simp [World.cell?,hnew]
 have d6 : W0.cell? (jd w.heap.size 6) = some (ji tf) := by simp [World.cell?,hnew]
 have d7 : W0.cell? (jd w.heap.size 7) = some (ji tt) := by simp [World.cell?,hnew]
 clear hnew
 go_region_law (refine step_append_eq rfl _ _ 24 24 rfl _ _ (by simp [Act.eval]) (by simp [Act.eval]) hrun ?_)
 all_goals
  go_wp2_with fail;refine bodyPost_end (zq rfl) rfl ?_;exact HP.out
theorem tell_any (h : Mach Z S x m w) (t : TL) (hn : m.tot <= 1000000000) (ht : Stays S w fun w => TkS Z w t.1 t.2) : Calls Tryz.prog 36 #[mp x,t.1.val] w (Did Z S x (m.tell (ptOf t)) w) := by
 obtain ⟨v,T,h⟩ := h
 refine (tell_v h t hn ht).mono ?_
 rintro e w' ⟨rfl,o,q1,q2⟩
 exact ⟨rfl,Post.of ⟨_,_,q1⟩ q2⟩
theorem ok_none (k r : Int) (nm tx : ByteArray) (s : Bool) (f t : Int) : Stays S w fun w => TkS Z w ⟨k,r,nm,tx,none,0,0,s,f,t⟩ [] := fun w' _ => ⟨⟨rfl,G9.AtRow.nil _ _,by simp⟩,fun h => absurd rfl h⟩
theorem tellChar_v (h : MachV Z S x m v T w) (c : Ch) (hn : m.tot <= 1000000000) : Calls Tryz.prog 52 #[mp x,cv c] w (Told Z S x m v T (⟨1,c.r,ByteArray.empty,ByteArray.empty,none,0,0,false,c.a,c.z⟩,[]) w) := by
 obtain ⟨r,p,q⟩ := c
 have b0 : Below w.heap.size w (w.alloc (.cells #[ji r,ji p,ji q] 37)) := ze _ _
 have HM := yc (h.below b0) b0
 clear h b0
 go_enter Tryz.func52,Tryz.ntmps52
 go_wp2_with fail
 refine (tell_v HM.out.1 (⟨1,r,ByteArray.empty,ByteArray.empty,none,0,0,false,p,q⟩,[]) hn (ok_none _ _ _ _ _ _ _)).mono ?_
 rintro e w1 ⟨rfl,o,q1,q2⟩
 have P1 : Hid (Told Z S x m v T (⟨1,r,ByteArray.empty,ByteArray.empty,none,0,0,false,p,q⟩,[]) w (jr (.tuple #[])) w1) := ⟨rfl,o,q1,(Keep.old HM.out.2).trans q2⟩
 clear q1 q2
 go_wp2_with fail
 refine bodyPost_end (zq rfl) rfl ?_
 exact P1.out
theorem tellChar_any (h : Mach Z S x m w) (c : Ch) (hn : m.tot <= 1000000000) : Calls Tryz.prog 52 #[mp x,cv c] w (Did Z S x (m.tellChar c) w) := by
 obtain ⟨v,T,h⟩ := h
 refine (tellChar_v h c hn).mono ?_
 rintro e w' ⟨rfl,o,q1,q2⟩
 exact ⟨rfl,Post.of ⟨_,_,q1⟩ q2⟩
theorem MachV.noMade (h : MachV Z S x m v T w) : Bag S w ((m.noMade).rows { v with n := jn,t := jn,a := jn,m := .map none,an := jn,av := jn } T) :=
 ((((h.bag.drop h.low 2 _ rfl 5 1 true).drop h.low 3 _ rfl 5 1).drop h.low 4 _ rfl 49 2).drop h.low 5 _ rfl 5 1).drop h.low 6 _ rfl 5 1
theorem toData_any (h : Mach Z S x m w) : Calls Tryz.prog 117 #[mp x] w (Did Z S x m.toData w) := by
 obtain ⟨v,T,h⟩ := h
 have hxw := h.lt
 have HP : Hid (Post Z S x m.toData w (setAll w x [(5,jn),(8,ji 0),(9,ji 0),(10,jn),(11,jn),(12,.bool false),(13,jn),(14,.map none),(15,ji 0),(16,jn),(17,jn),(18,.bool false),(0,fn 27),(1,fn 28)])) := by
  obtain ⟨q1,q2⟩ := h.turn (m' := m.toData) (v' := { v with w := jn,n := jn,t := jn,a := jn,m := .map none,an := jn,av := jn }) (T' := T) [(5,jn),(8,ji 0),(9,ji 0),(10,jn),(11,jn),(12,.bool false),(13,jn),(14,.map none),(15,ji 0),(16,jn),(17,jn),(18,.bool false),(0,fn 27),(1,fn 28)] rfl (by simp [Mc.cells,Mc.toData,Mc.noMade]) (h.noMade.drop h.low 0 _ rfl 37 3) (Names.none _ _) rfl h.told h.toks;exact Post.of ⟨_,_,q1⟩ q2
 have c0 := h.cells 0 _ rfl
 have f0 := h.free 0
 have c1 := h.cells 1 _ rfl
 have f1 := h.free 1
 have c5 := h.cells 5 _ rfl
 have f5 := h.free 5
 have c8 := h.cells 8 _ rfl
 have f8 := h.free 8
 have c9 := h.cells 9 _ rfl
 have f9 := h.free 9
 have c10 := h.cells 10 _ rfl
 have f10 := h.free 10
 have c11 := h.cells 11 _ rfl
 have f11 := h.free 11
 have c12 := h.cells 12 _ rfl
 have f12 := h.free 12
 have c13 := h.cells 13 _ rfl
 have f13 := h.free 13
 have c14 := h.cells 14 _ rfl
 have f14 := h.free 14
 have c15 := h.cells 15 _ rfl
 have f15 := h.free 15
 have c16 := h.cells 16 _ rfl
 have f16 := h.free 16
 have c17 := h.cells 17 _ rfl
 have f17 := h.free 17
 have c18 := h.cells 18 _ rfl
 have f18 := h.free 18
 clear h
 go_enter Tryz.func117,Tryz.ntmps117
 go_wp2_with fail
 refine bodyPost_end (zq rfl) rfl ?_
 exact ⟨rfl,HP.out⟩
theorem Mach.low (h : Mach Z S x m w) : x < w.heap.size := by
 obtain ⟨v,T,h⟩ := h
 exact h.lt
theorem MachV.one (h : MachV Z S x m v T w) (b : Below w.heap.size w W) (hs : w.heap.size < W.heap.size) : MachV Z (fun k => S k \/ k = w.heap.size) x m v T W := by
 have h2 := h.below b
 have hlt := h.lt
 refine ⟨fun k hk => ?_,⟨fun hx => ?_,fun k hk => .inl (h.hz.2 k hk)⟩,h2.hi.mono (fun _ h => .inl h),h2.blk,?_,?_,h2.trie.mono (fun _ h => .inl h),h2.told,fun t ht => (h2.toks t ht).mono (fun _ h => .inl h)⟩
 · rcases hk with hk | hk
   · exact h2.low k hk
   omega
 · rcases hx with hx | hx
   · exact h.hx hx
   omega
 · refine h2.bag.more fun i r hr g hg hU => ?_
   rcases hU with hU | hU
   · exact hU
   have := (own_blk (h.bag.own i r hr) hg).1;omega
 refine h2.names.mv (fun b e hb hU => ?_) (fun _ _ _ => rfl)
 rcases hU with hU | hU
 · exact hb hU
 have := h.names
 rw [e] at this
 have := this.lt
 omega
theorem Mach.one (h : Mach Z S x m w) (b : Below w.heap.size w W) (hs : w.heap.size < W.heap.size) : Mach Z (fun k => S k \/ k = w.heap.size) x m W := by
 obtain ⟨v,T,h⟩ := h
 exact ⟨v,T,h.one b hs⟩
def Box (B : Nat) (c : Ch) (w : World) : Prop := w.heap[B]? = some (.cells #[ji c.r,ji c.a,ji c.z] 37 (0,0))
structure Walk (Z : Nat -> Prop) (S : Nat -> Prop) (x : Nat) (m : Mc) (B : Nat) (c : Ch) (w W : World) : Prop where
 ex : ∃ U,(∀ k,S k -> U k) /\ Mach Z U x m W /\ Stays U W (Box B c)
 keep : Keep S w W
theorem Walk.post (h : Walk Z S x m B c w W) : Post Z S x m w W := by
 obtain ⟨U,h1,h2,_⟩ := h.ex
 exact ⟨U,h1,h2,h.keep⟩
theorem Walk.start (h : Mach Z S x m w) (c : Ch) : ∃ W,w.alloc (.cells #[ji c.r,ji c.a,ji c.z] 37) = W /\ Walk Z S x m w.heap.size c w W := by
 have b0 : Below w.heap.size w (w.alloc (.cells #[ji c.r,ji c.a,ji c.z] 37)) := ze _ _
 have hn := zx w (.cells #[ji c.r,ji c.a,ji c.z] 37)
 refine ⟨_,rfl,⟨_,fun k hk => .inl hk,h.one b0 (by simp),fun w' k => (k.block _ (.inr rfl) (by simp)).trans hn⟩,Keep.old b0⟩
theorem Walk.call (h : Walk Z S x m B c w W) {f : Nat} {args : Array Value} (H : ∀ U,Mach Z U x m W -> Calls Tryz.prog f args W (Did Z U x m' W)) : Calls Tryz.prog f args W fun e W' => e = jr (.tuple #[]) /\ Walk Z S x m' B c w W' := by
 obtain ⟨U,h1,h2,h3⟩ := h.ex
 refine (H U h2).mono ?_
 rintro e W' ⟨rfl,V,p1,p2,p3⟩
 exact ⟨rfl,⟨V,fun k hk => p1 k (h1 k hk),p2,(h3.keep p3).mono p1⟩,h.keep.trans (p3.sub h1)⟩
theorem Walk.below {W' : World} (h : Walk Z S x m B c w W) (b : Below W.heap.size W W') : Walk Z S x m B c w W' := by
 obtain ⟨U,h1,h2,h3⟩ := h.ex
 exact ⟨⟨U,h1,h2.below b,h3.keep (Keep.old b)⟩,h.keep.trans (Keep.old b)⟩
theorem Walk.drew (h : Walk Z S x m B c w W) : Walk Z S x m B c w W.drew := h.below (Below.refl _ _).drew
theorem Walk.drewN (h : Walk Z S x m B c w W) (n : Nat) : Walk Z S x m B c w (W.drewN n) := h.below (G9.below_drewN (Below.refl _ _) n)
theorem Walk.box (h : Walk Z S x m B ⟨r,p,q⟩ w W) : B < W.heap.size /\ W.cell? (jd B 0) = some (ji r) /\ W.cell? (jd B 1) = some (ji p) /\ W.cell? (jd B 2) = some (ji q) := by
 obtain ⟨U,_,_,h3⟩ := h.ex
 have := h3.now
 unfold Box at this
 refine ⟨(zf this),?_,?_,?_⟩
 all_goals simp [World.cell?,this]
theorem Walk.lt (h : Walk Z S x m B c w W) : x < W.heap.size := by
 obtain ⟨U,_,h2,_⟩ := h.ex
 exact h2.low
theorem Walk.mach (h : Walk Z S x m B c w W) : ∃ v : Vs,(∀ i u,(m.cells v)[i]? = some u -> W.cell? (jd x i) = some u) /\ (∀ i,W.frozen? (jd x i) = false) := by
 obtain ⟨U,_,⟨v,T,h2⟩,_⟩ := h.ex
 exact ⟨v,h2.cells,h2.free⟩
theorem Walk.turn (h : Walk Z S x m B c w W) (l : List (Nat × Value)) (hc : ∀ v,l.foldl (fun a p => a.set! p.1 p.2) (m.cells v) = m'.cells v) (hr : ∀ v T,m'.rows v T = m.rows v T) (ha : m'.attrs = m.attrs) (ho : m'.out = m.out) : Walk Z S x m' B c w (setAll W x l) := by
 obtain ⟨U,h1,⟨v,T,h2⟩,h3⟩ := h.ex
 obtain ⟨q1,q2⟩ := h2.turn (m' := m') l rfl (hc v) (by rw [hr];exact h2.bag) (by rw [ha];exact h2.names) rfl (by rw [ho];exact h2.told) h2.toks
 exact ⟨⟨U,h1,⟨_,_,q1⟩,h3.keep q2⟩,h.keep.trans (q2.sub h1)⟩
theorem Walk.st (h : Walk Z S x m B c w W) (n : Nat) : Walk Z S x { m with st := n } B c w (W.setCell (jd x 0) (.func (.func n) #[] #[])) :=
 h.turn [(0,fn n)] (fun v => by simp [Mc.cells]) (fun _ _ => rfl) rfl rfl
theorem Walk.en (h : Walk Z S x m B c w W) (n : Nat) : Walk Z S x { m with en := n } B c w (W.setCell (jd x 1) (.func (.func n) #[] #[])) :=
 h.turn [(1,fn n)] (fun v => by simp [Mc.cells]) (fun _ _ => rfl) rfl rfl
theorem Walk.self (h : Walk Z S x m B c w W) (b : Bool) : Walk Z S x { m with self := b } B c w (W.setCell (jd x 12) (.bool b)) :=
 h.turn [(12,.bool b)] (fun v => by simp [Mc.cells]) (fun _ _ => rfl) rfl rfl
theorem Walk.st0 (h : Walk Z S x m B c w W) : W.cell? (jd x 0) = some (.func (.func m.st) #[] #[]) /\ W.frozen? (jd x 0) = false /\ W.cell? (jd x 1) = some (.func (.func m.en) #[] #[]) /\ W.frozen? (jd x 1) = false := by
 obtain ⟨v,h1,h2⟩ := h.mach
 exact ⟨h1 0 _ rfl,h2 0,h1 1 _ rfl,h2 1⟩
def Enters (n : Nat) : Prop := ∀ args w,(callFunc n args).run Tryz.prog w = .ok (.enter n args) w
theorem again_any (n : Nat) (en : Enters n) (h : Mach Z S x m w) (c : Ch) (H : ∀ U W,Mach Z U x { m with st := n } W -> Calls Tryz.prog n #[mp x,cv c] W (Did Z U x m' W)) : Calls Tryz.prog 80 #[mp x,fn n,cv c] w (Did Z S x m' w) := by
 obtain ⟨r,p,q⟩ := c
 obtain ⟨W0,hW0,k0⟩ := Walk.start h ⟨r,p,q⟩
 have hxw := h.low
 obtain ⟨hb,d0,d1,d2⟩ := k0.box
 obtain ⟨c0,f0,_⟩ := k0.st0
 have hx0 := k0.lt
 have hne : w.heap.size ≠ x := by omega
 have en' : ∀ args w,(callFunc n args).run Tryz.prog w = .ok (.enter n args) w := en
 have K1 := hid (k0.st n)
 have HH := hid H
 clear h H en k0
 unfold fn
 go_enter Tryz.func80,Tryz.ntmps80
 go_wp2_with fail
 refine (K1.out.call (fun U => HH.out U _)).mono ?_
 rintro e w1 ⟨rfl,k1⟩
 have K2 := hid k1
 clear k1
 go_wp2_with fail
 refine bodyPost_end (zq rfl) rfl ?_
 exact ⟨rfl,K2.out.post⟩
theorem wait_cells (h : MachV Z S x m v T w) (i : Nat) (c : Ch) (hc : m.wait[i]? = some c) : ∃ g cap,v.w = .slice (some (jd g 0)) m.wait.length cap /\ m.wait.length <= cap /\ cap <= maxLen /\ g < w.heap.size /\ w.cell? (jd g (i * 3)) = some (ji c.r) /\ w.cell? (jd g (i * 3 + 1)) = some (ji c.a) /\ w.cell? (jd g (i * 3 + 2)) = some (ji c.z) := by
 have ho := (h.bag.own 0 _ rfl).row
 have hl := (zg hc)
 rcases ho.2 with ⟨_,h0⟩ | ⟨g,cap,cur,e1,_,hg,h1,h2,h3,h4⟩
 · simp only at h0;omega
 obtain ⟨q0,q1,q2⟩ := G4.ch_at m.wait i c hc
 simp only at h4 h1 e1
 rw [<- h4] at q0 q1 q2
 rw [List.getElem?_take_of_lt (by omega),Array.getElem?_toList] at q0 q1 q2
 refine ⟨g,cap,e1,h1,h2,(zf hg),?_,?_,?_⟩
 · simp [World.cell?,hg,q0]
 · simp [World.cell?,hg,q1]
 simp [World.cell?,hg,q2]
theorem release_any (h : Mach Z S x m w) (hn : m.tot <= 500000000) : Calls Tryz.prog 53 #[mp x] w (Did Z S x m.release w) := by
 obtain ⟨v,T,h⟩ := h
 have hxw := h.lt
 obtain ⟨ao,ca,ew,hca,hcm⟩ := own_form (h.bag.own 0 _ rfl)
 simp only at ew hca
 have c5 := h.cells 5 v.w rfl
 have hnn : m.wait.length <= 500000000 /\ m.out.length <= 500000000 := by unfold Mc.tot at hn;omega
 have htot : ∀ l : List Pt,l.length <= m.wait.length -> ({ m with out := m.out ++ l } : Mc).tot <= 1000000000 := fun l hl => by
  unfold Mc.tot at hn |-;simp only [zh];omega
 have HM := hid h
 have HT := hid htot
 clear h hn htot
 rw [ew] at c5
 obtain ⟨n,hwn⟩ := ex (m.wait.length)
 rw [hwn] at c5 hca hnn ew
 have HN := hid hwn
 have HV := hid ew
 clear hwn ew
 go_enter Tryz.func53,Tryz.ntmps53
 go_wp2_with fail
 go_loopw [9] (fun iv wr => ∃ (i : Nat) (o : Value) (T' : List TL),iv = ji i /\ i <= n /\ MachV Z S x { m with out := m.out ++ (m.wait.take i).map (chT false) } { v with o := o } T' wr /\ Keep S w wr) (fun iv _ => n - (intOf iv).toNat)
 case atStart => exact ⟨0,v.o,T,rfl,Nat.zero_le _,by simpa using HM.out,Keep.refl _ _⟩
 obtain ⟨i,o,T',rfl,hin,hmv,hk⟩ := hrel
 have HR := yc hmv hk
 have hxr := hmv.lt
 by_cases hlt : i < n
 · obtain ⟨c,hc⟩ : ∃ c,m.wait[i]? = some c := ⟨_,zy (by rw [HN.out];exact hlt)⟩
   obtain ⟨g,cap,eg,_,_,hg,g0,g1,g2⟩ := wait_cells hmv i c hc;simp only at eg;rw [HV.out,HN.out] at eg;simp only [Value.slice.injEq,true_and] at eg;obtain ⟨rfl,rfl⟩ := eg;have HC : Hid (m.wait.take (i + 1) = m.wait.take i ++ [c]) := by
    obtain ⟨h1,rfl⟩ := List.getElem?_eq_some_iff.1 hc;exact (List.take_append_getElem h1).symm
   clear hc hmv hk;obtain ⟨r,p,q⟩ := c;simp only at g0 g1 g2;have hlt' : decide ((i : Int) < (n : Int)) = true := zm (by omega);obtain ⟨W0,hW0⟩ := ex (wr.alloc (.cells #[ji r,ji p,ji q] 37));have B0 : Hid (Below wr.heap.size wr W0) := by rw [<- hW0];exact ze _ _
   have hnew : W0.heap[wr.heap.size]? = some (.cells #[ji r,ji p,ji q] 37 (0,0)) := by rw [<- hW0];exact zx _ _
   have d0 : W0.cell? (jd wr.heap.size 0) = some (ji r) := by simp [World.cell?,hnew]
   have d1 : W0.cell? (jd wr.heap.size 1) = some (ji p) := by simp [World.cell?,hnew]
   have d2 : W0.cell? (jd wr.heap.size 2) = some (ji q) := by simp [World.cell?,hnew]
   clear hnew;go_wp2_with fail;refine (tellChar_v (HR.out.1.below B0.out) ⟨r,p,q⟩ (HT.out _ (by simp [HN.out];omega))).mono ?_;rintro e w1 ⟨rfl,o1,q1,q2⟩;have HR1 : Hid (MachV Z S x { m with out := m.out ++ (m.wait.take (i + 1)).map (chT false) } { v with o := o1 } (T' ++ [(⟨1,r,ByteArray.empty,ByteArray.empty,none,0,0,false,p,q⟩,[])]) w1 /\ Keep S w w1) := by
    refine ⟨?_,HR.out.2.trans ((Keep.old B0.out).trans q2)⟩;rw [HC.out,List.map_append,<- List.append_assoc];exact q1
   clear q1 q2 hW0 d0 d1 d2 g0 g1 g2;go_wp2_with fail;go_roundw
   case rel => exact ⟨i + 1,o1,_,by go_num,by omega,HR1.out.1,HR1.out.2⟩
   case measure => simp [intOf];omega
 obtain rfl : i = n := by omega
 have hlt' : decide ((i : Int) < (i : Int)) = false := zn (by omega)
 have c5' := hmv.cells 5 _ rfl
 have f5' := hmv.free 5
 have HP : Hid (Post Z S x m.release w (setAll wr x [(5,jn)])) := by
  have e1 : m.wait.take i = m.wait := List.take_of_length_le (by rw [HN.out];exact zb _);rw [e1] at hmv;obtain ⟨q1,q2⟩ := hmv.turn (m' := m.release) (v' := { v with o := o,w := jn }) (T' := T') [(5,jn)] rfl (by simp [Mc.cells,Mc.release]) (hmv.bag.drop hmv.low 0 _ rfl 37 3) hmv.names rfl hmv.told hmv.toks;exact Post.of ⟨_,_,q1⟩ (hk.trans q2)
 clear hmv hk HR
 go_wp2_with fail
 refine bodyPost_end (zq rfl) rfl ?_
 exact ⟨rfl,HP.out⟩
abbrev Dz (Z S : Nat -> Prop) (x : Nat) (w : World) (f : Nat) (c : Ch) (m : Mc) : Prop := Calls Tryz.prog f #[mp x,cv c] w (Did Z S x m w)
theorem Walk.on (h : Mach Z S x m w) (r p q : Int) : ∃ W,w.alloc (.cells #[ji r,ji p,ji q] 37) = W /\ x < w.heap.size /\ w.heap.size < W.heap.size /\ W.cell? (jd w.heap.size 0) = some (ji r) /\ W.cell? (jd w.heap.size 1) = some (ji p) /\ W.cell? (jd w.heap.size 2) = some (ji q) /\ x < W.heap.size /\ w.heap.size ≠ x /\ W.cell? (jd x 0) = some (.func (.func m.st) #[] #[]) /\ W.frozen? (jd x 0) = false /\ W.cell? (jd x 1) = some (.func (.func m.en) #[] #[]) /\ W.frozen? (jd x 1) = false /\ Hid (Walk Z S x m w.heap.size ⟨r,p,q⟩ w W) := by
 obtain ⟨W,hW,k⟩ := Walk.start h ⟨r,p,q⟩
 obtain ⟨b,d0,d1,d2⟩ := k.box
 obtain ⟨s0,s1,s2,s3⟩ := k.st0
 have hx := h.low
 exact ⟨W,hW,hx,b,d0,d1,d2,k.lt,by omega,s0,s1,s2,s3,k⟩
theorem wkx {f : FuncId} {a : Array Value} {v : Ending} {Q : Ending -> World -> Prop} (c : Calls Tryz.prog f a W fun e W' => e = v /\ Walk Z S x m B ⟨r,p,q⟩ w W') (h : ∀ W',Hid (Walk Z S x m B ⟨r,p,q⟩ w W') -> B < W'.heap.size -> W'.cell? (jd B 0) = some (ji r) -> W'.cell? (jd B 1) = some (ji p) -> W'.cell? (jd B 2) = some (ji q) -> x < W'.heap.size -> W'.cell? (jd x 0) = some (.func (.func m.st) #[] #[]) -> W'.frozen? (jd x 0) = false -> W'.cell? (jd x 1) = some (.func (.func m.en) #[] #[]) -> W'.frozen? (jd x 1) = false -> Q v W') : Calls Tryz.prog f a W Q := c.mono fun _ W' k => by
 obtain ⟨b,d0,d1,d2⟩ := k.2.box
 obtain ⟨s0,s1,s2,s3⟩ := k.2.st0
 rw [k.1]
 exact h W' k.2 b d0 d1 d2 k.2.lt s0 s1 s2 s3
theorem won (h : Mach Z S x m w) (r p q : Int) {G : Prop} (k : ∀ W,Hid (Walk Z S x m w.heap.size ⟨r,p,q⟩ w W) -> w.alloc (.cells #[ji r,ji p,ji q] 37) = W -> x < w.heap.size -> w.heap.size < W.heap.size -> W.cell? (jd w.heap.size 0) = some (ji r) -> W.cell? (jd w.heap.size 1) = some (ji p) -> W.cell? (jd w.heap.size 2) = some (ji q) -> x < W.heap.size -> w.heap.size ≠ x -> W.cell? (jd x 0) = some (.func (.func m.st) #[] #[]) -> W.frozen? (jd x 0) = false -> W.cell? (jd x 1) = some (.func (.func m.en) #[] #[]) -> W.frozen? (jd x 1) = false -> G) : G := by
 obtain ⟨W,a,b,c,d,e,f,g,i,j,l,n,o,q⟩ := Walk.on h r p q
 exact k W q a b c d e f g i j l n o
theorem wky (k : Hid (Walk Z S x m B ⟨r,p,q⟩ w W)) {f : Nat} {a : Array Value} {Q : Ending -> World -> Prop} (H : ∀ U,Mach Z U x m W -> Calls Tryz.prog f a W (Did Z U x m' W)) (h : ∀ W',Hid (Walk Z S x m' B ⟨r,p,q⟩ w W') -> B < W'.heap.size -> W'.cell? (jd B 0) = some (ji r) -> W'.cell? (jd B 1) = some (ji p) -> W'.cell? (jd B 2) = some (ji q) -> x < W'.heap.size -> W'.cell? (jd x 0) = some (.func (.func m'.st) #[] #[]) -> W'.frozen? (jd x 0) = false -> W'.cell? (jd x 1) = some (.func (.func m'.en) #[] #[]) -> W'.frozen? (jd x 1) = false -> Q (jr (.tuple #[])) W') : Calls Tryz.prog f a W Q := wkx (k.out.call H) h
theorem wke (e : Hid (m' = m)) (k : Hid (Walk Z S x m B c w W)) : Post Z S x m' w W := by
 rw [e.out]
 exact k.out.post
theorem trie_stays {U : Nat -> Prop} {l : List G6.Rf} (T : G6.TrieIs w B t l) (hU : ∀ b,B <= b -> b < w.heap.size -> U b) : Stays U w fun w => G6.TrieIs w 0 t l := fun w' k => by
 obtain ⟨N,M,kk,h1,h2⟩ := T
 have h3 := h1.same (w' := w') fun b hb hs => k.block b (hU b hb hs) hs
 exact ⟨N,M,kk,{ h3 with hB := fun _ _ _ => Nat.zero_le _,hM := fun _ _ _ => Nat.zero_le _ },h2⟩
def Since (S : Nat -> Prop) (w w2 : World) (k : Nat) : Prop := S k \/ (w.heap.size <= k /\ k < w2.heap.size)
theorem MachV.since (h : MachV Z S x m v T w) (b : Below w.heap.size w w2) : MachV Z (Since S w w2) x m v T w2 := by
 have h2 := h.below b
 have hb : Bag (Since S w w2) w2 (m.rows v T) := h2.bag.more fun i r hr g hg hU => by
  rcases hU with hU | hU
  · exact hU
  have := (own_blk (h.bag.own i r hr) hg).1;omega
 refine ⟨fun k hk => ?_,⟨fun hx => ?_,fun k hk => .inl (h.hz.2 k hk)⟩,h2.hi.mono fun _ => .inl,h2.blk,hb,?_,h2.trie.mono fun _ => .inl,h2.told,fun t ht => (h2.toks t ht).mono fun _ => .inl⟩
 · rcases hk with hk | hk
   · exact h2.low k hk
   exact hk.2
 · have := h.lt
   rcases hx with hx | hx
   · exact h.hx hx
   omega
 refine h2.names.mv (fun k e hS hU => ?_) (fun _ _ _ => rfl)
 rcases hU with hU | hU
 · exact hS hU
 have hn := h.names
 rw [e] at hn
 have := hn.lt
 omega
theorem MachV.made (h : MachV Z S x m v T w) (b : Below w.heap.size w w2) {t : Nat} (ht : G6.TrieIs w2 w.heap.size t G6.refs) :
 MachV Z (Since S w w2) x m { v with p := .pointer (some (jd t 0)) } T (w2.setCell (jd x 7) (.pointer (some (jd t 0)))) /\ Keep S w (w2.setCell (jd x 7) (.pointer (some (jd t 0)))) := by
 have h1 := h.since b
 have hk := (Keep.refl (Since S w w2) w2).setCell (p := (jd x 7)) h1.hx (.pointer (some (jd t 0)))
 have hne : ∀ g,g ≠ x -> (w2.setCell (jd x 7) (.pointer (some (jd t 0)))).heap[g]? = w2.heap[g]? := fun g hg => Below.heap_setCell _ _ _ _ hg
 refine ⟨⟨fun k hS => zo (h1.low k hS) hk.size,h1.hz,h1.hi.keep hk,?_,?_,?_,?_,h1.told,fun t ht => (h1.toks t ht).keep hk⟩,(Keep.old b).trans (hk.sub fun _ => .inl)⟩
 · have : (m.cells v).set! 7 (.pointer (some (jd t 0))) = m.cells { v with p := .pointer (some (jd t 0)) } := rfl
   rw [<- this];simp [World.setCell,Array.getElem?_modify,h1.blk]
 · exact h1.bag.mv (fun g cur e zz he hg _ => hne g (fun e2 => by subst e2;rw [h1.blk] at hg;simp at hg;exact he hg.2.1.symm)) (rows_ne _ _ _)
 · refine h1.names.mv (fun _ _ h => h) (fun b e _ => hne b (fun e2 => ?_))
   subst e2;have hn := h1.names;rw [e] at hn;exact hn.obj _ _ _ h1.blk
 exact .inr ⟨t,rfl,(trie_stays ht fun b h1 h2 => .inr ⟨h1,h2⟩).keep hk⟩
theorem refs_any (w : World) : Calls Tryz.prog 97 #[] w fun e w' => e = jr (.slice (some (jd w.heap.size 0)) 78 78) /\ G6.RefRow w' (some (jd w.heap.size 0)) G6.refs /\ Below w.heap.size w w' /\ w'.heap.size = w.heap.size + 1 := by
 refine (G6.refs_walk w).mono ?_
 rintro e w' ⟨rfl,rfl⟩
 obtain ⟨L,hL⟩ : ∃ L,L = G6.refs := ⟨_,rfl⟩
 rw [<- hL]
 clear hL
 refine ⟨rfl,fun i x hx => ?_,ze _ _,by simp⟩
 have e := zx w (.cells (L.flatMap G6.Rf.cells).toArray 136)
 obtain ⟨W,hW⟩ : ∃ W,W = w.alloc (.cells (L.flatMap G6.Rf.cells).toArray 136) := ⟨_,rfl⟩
 rw [<- hW] at e |-
 obtain ⟨h1,h2⟩ := G6.rf_at L i x hx
 refine ⟨w.heap.size,0,rfl,by rw [hW];simp,?_,?_⟩
 · simp [World.cell?,e,h1]
 simp [World.cell?,e,h2]
theorem api_refs : G6.Api G6.refs where
 refs := refs_any
 len := G6.refs_len
 fine := by unfold G6.Fine;decide +kernel
theorem tk_cell : ∀ (T : List TL) (i j : Nat) (t : TL),T[i]? = some t -> j < 8 -> (T.flatMap tkCells)[i * 8 + j]? = t.1.arr[j]?
 | [],i,j,t,h,_ => by simp at h
 | y :: T,0,j,t,h,hj => by
  simp at h;subst h;rw [List.flatMap_cons,List.getElem?_append_left (by rw [tk_len];omega)];simp [tkCells]
 | y :: T,i + 1,j,t,h,hj => by
  rw [List.flatMap_cons,List.getElem?_append_right (by rw [tk_len];omega),tk_len,show (i + 1) * 8 + j - 8 = i * 8 + j by omega];exact tk_cell T i j t (by simpa using h) hj
def TkRowS (Z : Nat -> Prop) (w : World) (ao : Option Addr) (T : List TL) : Prop := G9.TkRow w ao T /\ ∀ t ∈ T,TkS Z w t.1 t.2
theorem TkRowS.nil (w : World) (ao : Option Addr) : TkRowS Z w ao [] := ⟨G9.TkRow.nil _ _,fun t h => by cases h⟩
theorem own_row {g : Nat} {cur : Array Value} {z : Nat × Nat} (hg : w.heap[g]? = some (.cells cur 45 z)) (h4 : cur.toList.take (T.length * 8) = T.flatMap tkCells) (hk : ∀ t ∈ T,TkS Z w t.1 t.2) : TkRowS Z w (some (jd g 0)) T := by
 refine ⟨fun i t ht => ⟨⟨g,0,rfl,(zf hg),fun j u hj => ?_⟩,(hk t (List.mem_of_getElem? ht)).1⟩,hk⟩
 have hi := (zg ht)
 have hj8 : j < 8 := by
  have := (zf hj);simpa using this
 have q := tk_cell T i j t ht hj8
 rw [hj,<- h4,List.getElem?_take_of_lt (by omega),Array.getElem?_toList] at q
 simp [World.cell?,hg,q]
end Go.Proofs.YtjjfalbngcbfaaaGreatDoor
