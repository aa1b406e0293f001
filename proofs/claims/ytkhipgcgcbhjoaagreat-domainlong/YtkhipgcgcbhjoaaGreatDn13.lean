import Derived.Test.YtkhipgcgcbhjoaaGreatDn12
import Derived.Deep.AppendLies
import Derived.BigQuiet
import Derived.Deep.QuietTactic
set_option maxRecDepth 100000
set_option maxHeartbeats 4000000
namespace Go.Proofs.YtkhipgcgcbhjoaaGreat.Uc
open Go.RowKit
theorem NumW.start {w W0 w1 : World} {p : Nat} {f : Nat -> Value} {other : Tr} {l : List (SRow Tr)} {e : Ending} (hp : p < w.heap.size) (hf0 : f 0 = .slice none 0 0) (hb0 : Below w.heap.size w W0) (hk : Kept W0 w.heap.size p f [] other e w1) :
 ∃ (n : Nat) (vv : Value),e = .returned (.int .u16 n) ∧ NumW w p f other l 0 1 [other] [] vv (.slice none 0 0) w1:=by
 obtain ⟨n,v',l',rfl,hn,hl',hv',hc,hb⟩:=hk
 have hl2 : l' = [other]:=by
  rcases hl' with ⟨_,h⟩ | ⟨h,_⟩
  ·simp at h
  ·simpa using h
 subst hl2;have hnone : (f 0).ownBlock = none:=by rw [hf0]; rfl
 refine ⟨n,v',rfl,hv',World.ownsRow_nil _ _ _ _,.inr ?_,⟨by simp,fun j x y hx=>by simp at hx,by simp,rfl⟩,(Chg.of_below hb0).trans (hc.mono (fun k _ e=>?_)),hp,by simp⟩
 ·rcases hb with e | ⟨g,e,_⟩
  ·have:=hv'.own.2
   simp only [if_true] at this
   rcases this with ⟨_,h⟩ | ⟨g,cap,cur,h,_⟩
   ·simp at h
   ·rw [h]; simp [Value.ownBlock]
  ·rw [e]; simp [Value.ownBlock]
 ·rcases e with e | e
  ·exact e
  ·rw [hnone] at e; simp at e
theorem local7 {wr : World} (x : SRow Tr) {t : TypeId} {W : World} (h : W.heap[wr.heap.size]? = some (.cells #[.int .i32 x.f,.int .i32 x.t,.int .i64 x.v.a,.int .i64 x.v.b,.int .i64 x.v.c,.int .i64 x.v.d,.int .i64 x.v.e] t)) : W.cell? ⟨wr.heap.size,0,none⟩ = some (.int .i32 x.f) ∧ W.cell? ⟨wr.heap.size,1,none⟩ = some (.int .i32 x.t) ∧ At5 W wr.heap.size 2 x.v:=by
 unfold At5;rw [cell_of_row _ _ _ _ _ _ h,cell_of_row _ _ _ _ _ _ h,cell_of_row _ _ _ _ _ _ h,cell_of_row _ _ _ _ _ _ h,cell_of_row _ _ _ _ _ _ h,cell_of_row _ _ _ _ _ _ h,cell_of_row _ _ _ _ _ _ h]
 exact ⟨rfl,rfl,rfl,rfl,rfl,rfl,rfl⟩
theorem step_row_append {ops : Array Oper} {o : Oper} {a : Act} {K : Act -> World -> Prop} {Q : Exit -> Act -> World -> Prop} {E : Prop} (hgd : o.guard = none) (s x : Operand)
 (ho : o.op = .call { callee:=.builtin .append,args:=#[s,x],argTypes:=#[156,156] }) (W : World) (B n : Nat) (v : Value) (xs : List Value) (r : SRow Nat) (hs : a.eval s = v) (hx : a.eval x = .slice (some ⟨W.heap.size,0,none⟩) 1 1)
 (hown : W.ownsRow B 209 3 v n xs) (hn : n <= 5000) (hB : B <= W.heap.size)
 (h : ∀ g cap w',w'.ownsRow B 209 3 (.slice (some ⟨g,0,none⟩) (n + 1) cap) (n + 1) (xs ++ rowCells r) -> (W.alloc (.cells #[.int .i32 r.f,.int .i32 r.t,.int .u16 (r.v : Int)] 209)).grownBy w' v.ownBlock -> (v.ownBlock = some g ∨ g = W.heap.size + 1) -> K (a.put o.dst (.slice (some ⟨g,0,none⟩) (n + 1) cap)) w') :
 if Region.wanted o (yielded ops a.tmps) = true then Oper.wp Tryz.prog o a (W.alloc (.cells #[.int .i32 r.f,.int .i32 r.t,.int .u16 (r.v : Int)] 209)) K Q else E:=by
 obtain ⟨i0,hi,hz0,hz1,hz2⟩:=info_parts Tryz.info_row
 refine step_append_lies (P:=Tryz.prog) _ hgd s x 156 ho B 209 i0 (.agg #[.int .i32 0,.int .i32 0,.int .u16 0]) 3 12 Tryz.underlying156 hi hz0 hz1 hz2 rfl (by decide) v n xs hs (hown.alloc _) ⟨W.heap.size,0,none⟩ 1 1 (rowCells r) hx rfl
  (World.news_of_block (heap_alloc_new W _)) (fun u hu=>by simp [rowCells] at hu; rcases hu with rfl | rfl | rfl <;> rfl) (by omega) (by unfold maxLen; omega) (by omega) (by simp; omega) (W.heap.size + 1) (by simp) (fun g cap w' h1 h2 h3 _=>h g cap w' h1 h2 h3)
def Loc (lb : Nat) (x : SRow Tr) (w : World) : Prop:=w.cell? ⟨lb,0,none⟩ = some (.int .i32 x.f) ∧ w.cell? ⟨lb,1,none⟩ = some (.int .i32 x.t) ∧ At5 w lb 2 x.v
theorem Loc.of_block {lb : Nat} {x : SRow Tr} {w w' : World} (h : Loc lb x w) (e : w'.heap[lb]? = w.heap[lb]?) : Loc lb x w':=by unfold Loc;rw [World.cell?_of_block (a:=⟨lb,0,none⟩) e,World.cell?_of_block (a:=⟨lb,1,none⟩) e]; exact ⟨h.1,h.2.1,h.2.2.of_block e⟩
theorem Loc.alloc {lb : Nat} {x : SRow Tr} {w : World} (h : Loc lb x w) (o : Obj) : Loc lb x (w.alloc o) :=
 h.of_block (Below.heap_alloc _ _ _ (World.block_lt_of_cell? w _ h.1))
theorem number_any {w : World} {p : Nat} {f : Nat -> Value} (hrow : w.rowIs p 154 4354 f) (hf0 : f 0 = .slice none 0 0) {v : Value} {l : List (SRow Tr)} (h : VIn w v l) (hv : v.ownBlock ≠ some p) (hl : l.length <= 4096) (other : Tr) :
 Calls Tryz.prog 97 #[.pointer (some ⟨p,0,none⟩),v,trv other] w fun e w'=>∃ vals nr vv ov,e = .returned ov ∧ NumW w p f other l l.length (l.length + 1) vals nr vv ov w':=by
 have hb0 : Below w.heap.size w (w.alloc (boxT other)):=(Below.refl _ _).alloc (Nat.le_refl _) _
 have HK:=hid (keep_any (B:=w.heap.size) (l:=[]) ⟨hrow.alloc (boxT other),by rw [hf0]; exact World.ownsRow_nil _ _ _ _,by rw [hf0]; simp [Value.ownBlock]⟩ (by simp) hb0.size other)
 have HP:=hid (And.intro hrow.lt hf0);have HB0:=hid hb0
 have HN5 : Hid (At5 (w.alloc (boxT other)) w.heap.size 0 other):=At5.new w other _
 obtain ⟨ao,cap,rfl,_,hc⟩:=h
 have HC:=hid hc
 clear hc hrow hf0 hb0;have hv':=hid hv
 clear hv;unfold trv at HK ⊢
 go_enter Tryz.func97,Tryz.ntmps97
 go_wp2_with fail;refine HK.out.mono ?_;intro e w1 hk1
 obtain ⟨n,vv,rfl,hN⟩:=NumW.start (l:=l) HP.out.1 HP.out.2 HB0.out hk1
 clear hk1 HK;have HS:=hid hN
 clear hN;go_wp2_with fail;go_loopg [15,7] l.length (fun g i ov wr=>∃ k vals nr vv,k <= l.length ∧ g = l.length - k ∧ i = .int .i64 (k : Nat) ∧ NumW w p f other l k (k + 1) vals nr vv ov wr)
 case atStart=>exact ⟨0,[other],[],vv,by omega,by omega,rfl,HS.out⟩
 case round =>
  clear HS;obtain ⟨k,vals,nr,vv,hk,hg,rfl,hN⟩:=hrel
  have HG:=hid hg
  clear hg;by_cases hlt : k < l.length
  ·obtain ⟨gb,off,rfl,hgb,e0,e1,e2⟩:=HC.out k hlt
   have hgp : gb ≠ p:=fun e=>hv'.out (by rw [e]; rfl)
   have hblk:=hN.chg.block gb hgb hgp
   have d0:=(World.cell?_of_block (a:=⟨gb,off + k * 7,none⟩) hblk).trans e0
   have d1:=(World.cell?_of_block (a:=⟨gb,off + k * 7 + 1,none⟩) hblk).trans e1
   obtain ⟨d2,g3,g4,g5,g6⟩:=e2.of_block hblk
   have d3 : wr.cell? ⟨gb,off + k * 7 + 3,none⟩ = some _:=g3
   have d4 : wr.cell? ⟨gb,off + k * 7 + 4,none⟩ = some _:=g4
   have d5 : wr.cell? ⟨gb,off + k * 7 + 5,none⟩ = some _:=g5
   have d6 : wr.cell? ⟨gb,off + k * 7 + 6,none⟩ = some _:=g6
   clear g3 g4 g5 g6;clear e0 e1 e2 hblk;have hkx : Hid (l[k]? = some l[k]):=List.getElem?_eq_getElem hlt
   generalize l[k] = x at *;have hNa:=hid (hN.step (w':=wr.alloc (.cells #[.int .i32 x.f,.int .i32 x.t,.int .i64 x.v.a,.int .i64 x.v.b,.int .i64 x.v.c,.int .i64 x.v.d,.int .i64 x.v.e] 142)) ((Below.refl _ _).alloc (Nat.le_refl _) _))
   obtain ⟨ao2,cap2,rfl⟩:=own_slice hN.own
   have hov0:=fun g hg=>(hN.own.lt g hg).2
   have hlb:=hid (And.intro hN.tab.row.lt (fun g hg=>(hN.tab.own.lt g hg).2))
   clear hN;have hL : Loc wr.heap.size x (wr.alloc (.cells #[.int .i32 x.f,.int .i32 x.t,.int .i64 x.v.a,.int .i64 x.v.b,.int .i64 x.v.c,.int .i64 x.v.d,.int .i64 x.v.e] 142)):=by exact local7 x (heap_alloc_new wr _)
   have hov : Hid (∀ g,(Value.slice ao2 nr.length cap2).ownBlock = some g -> g < wr.heap.size):=fun g hg=>hov0 g hg
   go_wp2_with fail;have hlb2:=hlb.out
   generalize wr.alloc (.cells #[.int .i32 x.f,.int .i32 x.t,.int .i64 x.v.a,.int .i64 x.v.b,.int .i64 x.v.c,.int .i64 x.v.d,.int .i64 x.v.e] 142) = W2 at *
   generalize wr.heap.size = lb at *;have hNd:=hid (hNa.out.step (w':=W2.drew) (Below.refl _ _).drew)
   have hsz : w.heap.size <= W2.heap.size:=hNa.out.chg.size
   have HKE:=hid (keep_any hNd.out.tab (by have:=hNd.out.most; omega) hsz x.v)
   have HLt : Hid (lb < W2.heap.size):=World.block_lt_of_cell? W2 _ hL.1
   have HLP : Hid (lb ≠ p ∧ vv.ownBlock ≠ some lb):=⟨by have:=hlb.out.1; omega,fun e=>by have:=hlb.out.2 lb e; omega⟩
   have HL2 : Hid (∀ w2 : World,w2.heap[lb]? = W2.heap[lb]? -> Loc lb x w2):=fun w2 e=>hL.of_block e
   have hnl : nr.length <= 4096:=by have:=hNa.out.numd.len; rw [this,List.length_take]; omega
   have HX:=hid hkx.out
   clear hNa d0 d1 d2 d3 d4 d5 d6 hkx hsz HC;obtain ⟨s0,s1,s2,s3,s4,s5,s6⟩:=hL
   simp only [Nat.reduceAdd] at s3 s4 s5 s6
   unfold trv at HKE;go_region_held3 (fun w'=>w'.cell? ⟨lb,0,none⟩ = some (.int .i32 x.f) ∧ w'.cell? ⟨lb,1,none⟩ = some (.int .i32 x.t) ∧ w'.cell? ⟨lb,2,none⟩ = some (.int .i64 x.v.a) ∧ w'.cell? ⟨lb,3,none⟩ = some (.int .i64 x.v.b) ∧ w'.cell? ⟨lb,4,none⟩ = some (.int .i64 x.v.c) ∧ w'.cell? ⟨lb,5,none⟩ = some (.int .i64 x.v.d) ∧ w'.cell? ⟨lb,6,none⟩ = some (.int .i64 x.v.e))
    (first | exact ⟨s0,s1,s2,s3,s4,s5,s6⟩ | exact HLa.out | exact HLb.out _ | exact HLc.out)
    (first
     | (go_at_call 152; refine HKE.out.mono ?_; intro e w2 hk2; obtain ⟨n1,vv',vals',rfl,hn1,hN1,hkp,hks⟩:=hNd.out.kept hk2; have HLa:=hid (HL2.out w2 (hkp lb HLt.out HLP.out.1 HLP.out.2)); have HLb:=hid (fun o=>HLa.out.alloc o); have HN1:=hid hN1; have HN1n:=hid hn1; have HSZ:=hid (Nat.lt_of_lt_of_le HLt.out (show W2.heap.size <= w2.heap.size from hks)); clear hk2 hkp hN1 hn1 hks)
     | (refine step_row_append rfl (.tmp 19) (.tmp 29) rfl w2 w.heap.size nr.length (.slice ao2 nr.length cap2) (nr.flatMap rowCells) ⟨x.f,x.t,n1⟩ rfl rfl HN1.out.own (by omega) HN1.out.chg.size ?_; intro g2 cap3 w3 ho3 hg3 hl3; have HN3:=hid (HN1.out.next hlt HX.out HN1n.out ho3 hg3 (hl3.elim (fun e=>.inl e.symm) (fun e=>.inr (by rw [e]; rfl)))); have HLc:=hid ((HLb.out _).of_block (hg3.block lb (by simp; have:=HSZ.out; omega) (fun e=>by have:=hov.out lb e.symm; omega))); clear ho3 hg3 hl3))
   go_wp2_with fail;go_roundg (l.length - (k + 1))
   case measure=>rw [HG.out]; omega
   case rel=>exact ⟨k + 1,vals',_,vv',by omega,rfl,by go_num,HN3.out⟩
  ·have e : k = l.length:=by omega
   subst e;have HN:=hid hN
   obtain ⟨ao2,cap2,rfl⟩:=own_slice hN.own
   clear hN HC;go_wp2_with fail;go_ret;exact ⟨vals,nr,vv,_,rfl,HN.out⟩
def zF (j : Nat) : Value:=if j = 0 then .slice none 0 0 else if j = 1 then .slice none 0 0 else .int .u16 0
def AllZ (l : List Value) (n : Nat) : Prop:=l = List.replicate n (.int .u16 0)
def PreZ (l : List Value) (n : Nat) : Prop:=l = .slice none 0 0 :: .slice none 0 0 :: List.replicate n (.int .u16 0)
theorem AllZ.append {l m : List Value} {n k : Nat} (h : AllZ l n) (h' : AllZ m k) : AllZ (l.append m) (n + k):=by
 show l ++ m = _
 rw [h,h',List.replicate_append_replicate]
theorem PreZ.append {l m : List Value} {n k : Nat} (h : PreZ l n) (h' : AllZ m k) : PreZ (l.append m) (n + k):=by
 show l ++ m = _
 rw [h,h',List.cons_append,List.cons_append,List.replicate_append_replicate]
theorem zT_zero : ∃ (L : List Value),Tryz.t154.zero = some (.agg L.toArray) ∧ ∃ n,PreZ L n ∧ n = 4352:=by
 refine ⟨_,rfl,?_⟩
 apply Exists.intro
 apply And.intro
 ·repeat (first | apply PreZ.append | apply AllZ.append | exact (show PreZ _ 32 from rfl) | exact (show AllZ _ 34 from rfl) | exact (show AllZ _ 35 from rfl) | exact (show PreZ _ 33 from rfl))
 ·rfl
theorem zT_info : Tryz.prog.info? 154 = some Tryz.t154:=by kernel_rfl
theorem zT_places : ((Tryz.prog.underlying 154).bind fun d=>match d with | .struct fs=>fs.toList.mapM (fun f=>(Tryz.prog.info? f.type).map fun i=>(f.offset,i.size)) | _=>none).isSome = true:=by kernel_rfl
theorem zT_new : ∃ zT : Array Value,zT.size = 4354 ∧ (∀ i,i < zT.size -> zT[i]? = some (zF i)) ∧ Tryz.prog.built 154 [] = some zT:=by
 obtain ⟨L,h1,n,h2,h3⟩:=zT_zero
 have hs : L.toArray.size = 4354:=by rw [h2,List.size_toArray,List.length_cons,List.length_cons,List.length_replicate,h3]
 refine ⟨L.toArray,hs,fun i hi=>?_,?_⟩
 ·rw [hs] at hi;rw [List.getElem?_toArray,h2];unfold zF;match i with
  | 0=>rfl
  | 1=>rfl
  | j + 2 =>
   have hj : j < n:=by omega
   rw [List.getElem?_cons_succ,List.getElem?_cons_succ,List.getElem?_replicate,if_pos hj,if_neg (by omega),if_neg (by omega)]
 ·have hp:=zT_places
  unfold Program.built;rw [zT_info];rw [Tryz.underlying154] at hp ⊢
  simp only [Option.bind_some] at hp ⊢
  obtain ⟨pl,hpl⟩:=Option.isSome_iff_exists.1 hp
  rw [h1,hpl];rfl
structure TabP (w : World) (p : Nat) (l : List (SRow Tr)) (other : Tr) (f : Nat -> Value) (vals : List Tr) (nr : List (SRow Nat)) (bl : List (List Nat)) (pl : List Nat) : Prop where
 row : w.rowIs p 154 4354 f
 own : ∃ B,Own1 w B (f 0) vals
 blk : ∃ B,w.ownsRow B 211 256 (f 1) bl.length (bl.flatMap u16s)
 plc : ∀ i,i < 4352 -> f (2 + i) = .int .u16 (pl.getD i 0 : Nat)
 numd : Numd other l vals nr
 laid : LaidTo (at' 0 nr) 4352 bl pl
 few : vals.length <= 5000
def Tab (w : World) (p : Nat) (l : List (SRow Tr)) (other : Tr) : Prop:=∃ f vals nr bl pl,TabP w p l other f vals nr bl pl
theorem TabP.step {w w' : World} {p : Nat} {l : List (SRow Tr)} {other : Tr} {f : Nat -> Value} {vals : List Tr} {nr : List (SRow Nat)} {bl : List (List Nat)} {pl : List Nat} (h : TabP w p l other f vals nr bl pl) (hb : Below w.heap.size w w') : TabP w' p l other f vals nr bl pl:=by
 obtain ⟨B,ho⟩:=h.own
 obtain ⟨B2,ho2⟩:=h.blk
 exact ⟨h.row.of_block (hb.block p h.row.lt),⟨B,ho.step (fun k hk=>hb.block k (ho.lt k hk).2)⟩,⟨B2,ho2.kept (row:=none) ⟨hb.os,hb.tape,hb.output,hb.size,fun k hk _=>hb.block k hk⟩ (by cases (f 1).ownBlock <;> simp)⟩,h.plc,h.numd,h.laid,h.few⟩
theorem Tab.step {w w' : World} {p : Nat} {l : List (SRow Tr)} {other : Tr} (h : Tab w p l other) (hb : Below w.heap.size w w') : Tab w' p l other:=by
 obtain ⟨f,vals,nr,bl,pl,h⟩:=h
 exact ⟨f,vals,nr,bl,pl,h.step hb⟩
theorem rising_num : ∀ (l : List (SRow Tr)) (nr : List (SRow Nat)) (a : Int),nr.length = l.length -> (∀ (j : Nat) (x : SRow Tr) (y : SRow Nat),l[j]? = some x -> nr[j]? = some y -> y.f = x.f ∧ y.t = x.t) -> Rising a l -> Rising a nr
 | [],[],_,_,_,_=>trivial
 | [],_ :: _,_,h,_,_=>by simp at h
 | _ :: _,[],_,h,_,_=>by simp at h
 | x :: l,y :: nr,a,h,hs,hr=>by
  obtain ⟨e1,e2⟩:=hs 0 x y rfl rfl
  obtain ⟨r1,r2,r3,r4⟩:=hr
  refine ⟨by omega,by omega,by omega,rising_num l nr y.t (by simpa using h) (fun j x' y' hx hy=>hs (j + 1) x' y' (by simpa using hx) (by simpa using hy)) ?_⟩
  rw [e2]; exact r4
theorem fine_num {l : List (SRow Tr)} {nr : List (SRow Nat)} {vals : List Tr} {other : Tr} {a : Int} (h : Numd other l vals nr) (hv : vals.length <= 65536) (ha : -1 <= a) (hr : Rising a nr) : Fine nr:=by
 intro y hy
 obtain ⟨j,hj⟩:=List.mem_iff_getElem?.1 hy
 have hlt:=(List.getElem?_eq_some_iff.1 hj).1
 have hx : l[j]? = some (l[j]'(by rw [<- h.len]; exact hlt)):=List.getElem?_eq_getElem _
 obtain ⟨e1,e2,e3⟩:=h.same j _ y hx hj
 have h4:=(List.getElem?_eq_some_iff.1 e3).1
 have h5:=(rising_after nr a hr j y hj).1
 have : ∀ (l : List (SRow Nat)) (a : Int),Rising a l -> ∀ y ∈ l,y.f <= y.t ∧ y.t <= 1114111:=by
  intro l
  induction l with
  | nil=>intro a _ y hy; simp at hy
  | cons x l ih =>
   intro a hr y hy
   obtain ⟨r1,r2,r3,r4⟩:=hr
   rcases List.mem_cons.1 hy with rfl | hy
   ·exact ⟨r2,r3⟩
   ·exact ih _ r4 y hy
 have h6:=this nr a hr y hy
 exact ⟨by omega,h6.1,h6.2,by omega⟩
theorem at_num (vals : List Tr) : ∀ (l : List (SRow Tr)) (nr : List (SRow Nat)) (z : Tr) (n : Nat) (r : Int),nr.length = l.length -> (∀ (j : Nat) (x : SRow Tr) (y : SRow Nat),l[j]? = some x -> nr[j]? = some y -> y.f = x.f ∧ y.t = x.t ∧ vals[y.v]? = some x.v) -> vals[n]? = some z -> vals[at' n nr r]? = some (at' z l r)
 | [],[],_,_,_,_,_,h=>h
 | [],_ :: _,_,_,_,h,_,_=>by simp at h
 | _ :: _,[],_,_,_,h,_,_=>by simp at h
 | x :: l,y :: nr,z,n,r,h,hs,hz=>by
  obtain ⟨e1,e2,e3⟩:=hs 0 x y rfl rfl
  simp only [at',List.foldl_cons]
  rw [e1,e2];have ih:=fun z n hz=>at_num vals l nr z n r (by simpa using h) (fun j x' y' hx hy=>hs (j + 1) x' y' (by simpa using hx) (by simpa using hy)) hz
  simp only [at'] at ih
  split
  ·exact ih _ _ e3
  ·exact ih _ _ hz
theorem tab_of {W2 w3 w4 : World} {p : Nat} {l : List (SRow Tr)} {other : Tr} {vals : List Tr} {nr : List (SRow Nat)} {vv ov bv : Value} {bl : List (List Nat)} {pl : List Nat} (hn : NumW W2 p zF other l l.length (l.length + 1) vals nr vv ov w3) (hl : l.length <= 4096)
 (hy : LayW w3 p (fun j=>if j = 0 then vv else zF j) 4352 bl pl bv w4) (hd : LaidTo (at' 0 nr) 4352 bl pl) : Tab w4 p l other:=by
 have h1:=hn.numd
 rw [List.take_length] at h1;have hap:=hn.tab.apart
 have hown:=hn.tab.own
 simp only [if_true] at hap hown
 refine ⟨_,vals,nr,bl,pl,hy.row,⟨W2.heap.size,?_⟩,⟨_,hy.own⟩,fun i hi=>?_,h1,hd,by have:=hn.most; omega⟩
 ·simp only [if_true]
  exact hown.step (fun k hk=>hy.chg.block k (hown.lt k hk).2 (fun e=>hap (by rw [hk,e])))
 ·have e0 : ¬ 2 + i = 0:=by omega
  have e1 : ¬ 2 + i = 1:=by omega
  have e2 : 2 + i - 2 = i:=by omega
  simp only [e0,e1,e2,hi,if_false,if_true]
theorem build_any {w : World} {v : Value} {l : List (SRow Tr)} (h : VIn w v l) (hl : l.length <= maxLen) (other : Tr) :
 Calls Tryz.prog 46 #[v,trv other] w fun e w'=>Below w.heap.size w w' ∧ ((check l ≠ 0 ∧ e = .returned (.tuple #[.pointer none,.int .i64 (check l)])) ∨ (check l = 0 ∧ ∃ p,w.heap.size <= p ∧ e = .returned (.tuple #[.pointer (some ⟨p,0,none⟩),.int .i64 0]) ∧ Tab w' p l other)):=by
 have hb0 : Below w.heap.size w (w.alloc (boxT other)):=(Below.refl _ _).alloc (Nat.le_refl _) _
 have HC:=hid (check_any (h.step hb0) hl);have HV:=hid (h.step hb0);have HB0:=hid hb0
 have HN5 : Hid (At5 (w.alloc (boxT other)) w.heap.size 0 other):=At5.new w other _
 have hlt0 : Hid (w.heap.size < (w.alloc (boxT other)).heap.size):=by show _ < _; simp
 obtain ⟨ao,cap,rfl,hvw,_⟩:=h
 have HVW:=hid hvw
 clear hvw hb0;by_cases hc : check l = 0
 ·have hlen : Hid (l.length <= 4096):=by
   show _ <= _
   rcases Nat.lt_or_ge 4096 l.length with h1 | h1
   ·rw [check,if_pos h1] at hc; simp at hc
   ·exact h1
  have hris : Hid (Rising (-1) l):=by
   have h1:=hlen.out
   rw [check,if_neg (by omega)] at hc;exact rising_of_chk l (-1) (by omega) hc
  rw [hc] at HC;clear hl;obtain ⟨zT,zT_size,zT_at,zT_built⟩:=zT_new
  have HZ:=hid (And.intro zT_size (And.intro zT_at zT_built));clear zT_size zT_at zT_built;unfold trv boxT at *
  go_enter Tryz.func46,Tryz.ntmps46
  go_wp2_with fail;generalize w.alloc (.cells #[.int .i64 other.a,.int .i64 other.b,.int .i64 other.c,.int .i64 other.d,.int .i64 other.e] 89) = W0 at *;refine HC.out.mono ?_
  rintro e w1 ⟨rfl,hb1⟩;have h5 : At5 (w1.alloc (.cells zT 154)) w.heap.size 0 other:=(HN5.out.of_block (hb1.block _ hlt0.out)).of_block (Below.heap_alloc _ _ _ (Nat.lt_of_lt_of_le hlt0.out hb1.size))
  obtain ⟨s0,g1,g2,g3,g4⟩:=h5
  have s1 : (w1.alloc (.cells zT 154)).cell? ⟨w.heap.size,1,none⟩ = some _:=g1
  have s2 : (w1.alloc (.cells zT 154)).cell? ⟨w.heap.size,2,none⟩ = some _:=g2
  have s3 : (w1.alloc (.cells zT 154)).cell? ⟨w.heap.size,3,none⟩ = some _:=g3
  have s4 : (w1.alloc (.cells zT 154)).cell? ⟨w.heap.size,4,none⟩ = some _:=g4
  clear g1 g2 g3 g4;go_wp2_with (first | (refine wpList_build rfl 154 #[] rfl (by simp only [List.map_toArray,List.map_nil,HZ.out.2.2]; rfl) ?_; simp only [List.map_toArray,List.map_nil,HZ.out.2.2,Option.getD_some]))
  clear s0 s1 s2 s3 s4;have hrow : (w1.alloc (.cells zT 154)).rowIs w1.heap.size 154 4354 zF:=by
   have:=World.rowIs_alloc w1 zT 154 zF HZ.out.2.1
   rw [HZ.out.1] at this; exact this
  have hV2:=(HV.out.step hb1).step (w':=w1.alloc (.cells zT 154)) ((Below.refl _ _).alloc (Nat.le_refl _) _)
  have hvp : (Value.slice ao l.length cap).ownBlock ≠ some w1.heap.size:=fun e=>by
   have h1:=HVW.out _ e
   have h2:=hb1.size
   have h3:=hlt0.out
   omega
  have HB1:=hid hb1
  have hris2:=hris.out
  have hlen2:=hlen.out
  refine (number_any hrow rfl hV2 hvp hlen2 other).mono ?_;rintro e w3 ⟨vals,nr,vv,ov,rfl,hN⟩;have h1:=hN.numd
  rw [List.take_length] at h1;have hr3:=rising_num l nr (-1) h1.len (fun j x y hx hy=>⟨(h1.same j x y hx hy).1,(h1.same j x y hx hy).2.1⟩) hris2
  have hf3:=fine_num h1 (by have:=hN.most; omega) (by omega) hr3
  have hov : ov.ownBlock ≠ some w1.heap.size:=fun e=>by
   have h2:=(hN.own.lt _ e).1
   simp at h2
   omega
  have HY:=hid (lay_any hN.tab.row rfl (rows_of_own hN.own) hov (-1) hr3 hf3 (by rw [h1.len]; omega))
  have HN:=hid hN
  obtain ⟨ao3,cap3,rfl⟩:=own_slice hN.own
  clear hN h1 hr3 hf3 hov hrow hV2 hvp hb1 hris2 hlen2;go_wp2_with fail;refine HY.out.mono ?_;rintro e w4 ⟨rfl,bl,pl,⟨bv,hy⟩,hd⟩;have HT:=hid (tab_of HN.out hlen.out hy hd)
  have HW : Hid (Below w.heap.size w w4):=by
   have c1:=HN.out.chg
   have c2:=c1.trans hy.chg
   have b1:=c2.below w1.heap.size (by simp) (fun k e=>by omega)
   exact HB0.out.trans (((HB1.out.alloc (o:=.cells zT 154) (HB1.out.size)).trans (b1.mono HB1.out.size)).mono HB0.out.size)
  clear hy hd HY HN;go_wp2_with fail;go_ret2;exact ⟨HW.out,.inr ⟨hc,w1.heap.size,Nat.le_trans HB0.out.size HB1.out.size,rfl,HT.out⟩⟩
 ·have h1 : (check l == 0) = false:=by simpa using hc
  clear hl HV;unfold trv boxT at *
  go_enter Tryz.func46,Tryz.ntmps46
  go_wp2_with (go_at_call 95; refine HC.out.mono ?_; rintro e w1 ⟨rfl,hb1⟩)
  go_ret2;exact ⟨HB0.out.trans (hb1.mono HB0.out.size),.inl ⟨hc,rfl⟩⟩
theorem flat_at : ∀ (bl : List (List Nat)) (q j : Nat) (b : List Nat) (n : Nat),(∀ b ∈ bl,b.length = 256) -> bl[q]? = some b -> b[j]? = some n -> j < 256 -> (bl.flatMap u16s)[q * 256 + j]? = some (.int .u16 (n : Int))
 | [],_,_,_,_,_,h,_,_=>by simp at h
 | c :: bl,0,j,b,n,hl,h,hn,hj=>by
  simp at h; subst h
  have : c.length = 256:=hl c (by simp)
  rw [List.flatMap_cons,Nat.zero_mul,Nat.zero_add,List.getElem?_append_left (by rw [u16s_len]; omega)]
  simp [u16s,hn]
 | c :: bl,q + 1,j,b,n,hl,h,hn,hj=>by
  have hc : c.length = 256:=hl c (by simp)
  rw [List.flatMap_cons,List.getElem?_append_right (by rw [u16s_len]; omega),u16s_len]
  have e : (q + 1) * 256 + j - c.length = q * 256 + j:=by omega
  rw [e];exact flat_at bl q j b n (fun b hb=>hl b (by simp [hb])) (by simpa using h) hn hj
section
variable {w : World} {p : Nat} {l : List (SRow Tr)} {other : Tr} {f : Nat -> Value} {vals : List Tr} {nr : List (SRow Nat)} {bl : List (List Nat)} {pl : List Nat}
theorem TabP.read (h : TabP w p l other f vals nr bl pl) (i j : Nat) (hi : i < 4352) (hj : j < 256) : ∃ g cap q,w.cell? ⟨p,1,none⟩ = some (.slice (some ⟨g,0,none⟩) bl.length cap) ∧ w.cell? ⟨p,2 + i,none⟩ = some (.int .u16 (q : Nat)) ∧ q < bl.length ∧ bl.length <= 4352 ∧
 w.cell? ⟨g,q * 256 + j,none⟩ = some (.int .u16 (at' 0 nr (256 * (i : Int) + j) : Nat)):=by
 have hpl : i < pl.length:=by rw [h.laid.len]; exact hi
 have hq:=h.laid.at' i pl[i] (List.getElem?_eq_getElem hpl)
 have hlt:=(List.getElem?_eq_some_iff.1 hq).1
 obtain ⟨B,ho⟩:=h.blk
 have hlen : ∀ b ∈ bl,b.length = 256:=fun b hb=>by
  obtain ⟨k,_,rfl⟩:=h.laid.used b hb
  simp [blkN]
 rcases ho.2 with ⟨_,h2⟩ | ⟨g,cap,cur,e,h2,h3,h4,h5,h6,h7⟩
 ·omega
 ·refine ⟨g,cap,pl[i],?_,?_,hlt,h.laid.most,?_⟩
  ·rw [h.row.cell (by omega),e]
  ·rw [h.row.cell (by omega),h.plc i hi];simp [List.getD_eq_getElem?_getD,List.getElem?_eq_getElem hpl]
  ·rw [e] at ho;rw [ho.cellAt (pl[i] * 256 + j) (by omega)]
   exact flat_at bl pl[i] j _ _ hlen hq (by simp [blkN,hj]) hj
theorem TabP.num (h : TabP w p l other f vals nr bl pl) (r : Int) : vals[at' 0 nr r]? = some (at' other l r) :=
 at_num vals l nr other 0 r h.numd.len h.numd.same h.numd.head
theorem at_any (h : TabP w p l other f vals nr bl pl) (r : Int) (h0 : 0 <= r) (h1 : r <= 1114111) :
 Calls Tryz.prog 231 #[.pointer (some ⟨p,0,none⟩),.int .i32 r] w fun e w'=>e = .returned (.int .u16 (at' 0 nr r : Nat)) ∧ ∃ n,w' = w.drewN n:=by
 obtain ⟨i,j,hi,hj,rfl⟩ : ∃ i j : Nat,i < 4352 ∧ j < 256 ∧ r = 256 * (i : Int) + j:=⟨(r / 256).toNat,(r % 256).toNat,by omega,by omega,by omega⟩
 obtain ⟨g,cap,q,c1,c2,hq,hbl,c3⟩:=h.read i j hi hj
 clear h;generalize at' 0 nr (256 * (i : Int) + j) = n at *;have q1 : (256 * (i : Int) + j).tdiv 256 = (i : Int):=by rw [Int.tdiv_eq_ediv_of_nonneg h0]; omega
 have q2 : (256 * (i : Int) + j).tmod 256 = (j : Int):=by rw [Int.tmod_eq_emod_of_nonneg h0]; omega
 have q3 : wrap32 (i : Int) = (i : Int):=by unfold wrap32; omega
 have q4 : wrap32 (j : Int) = (j : Int):=by unfold wrap32; omega
 have q5 : IntKind.i32.wrap (i : Int) = (i : Int):=by rw [IntKind.wrap_i32]; omega
 have q6 : IntKind.i32.wrap (j : Int) = (j : Int):=by rw [IntKind.wrap_i32]; omega
 have b1 : (0 : Int) <= i ∧ (i : Int) < 4352:=by omega
 have b2 : (0 : Int) <= j ∧ (j : Int) < 256:=by omega
 have b3 : (0 : Int) <= q ∧ (q : Int) < (bl.length : Int):=by omega
 go_enter Tryz.func231,Tryz.ntmps231
 go_wp2
 go_quiet (fail)
 go_wp2
 go_ret;exact ⟨rfl,_,rfl⟩
end
def getV (other : Tr) (l : List (SRow Tr)) (r : Int) : Tr:=if r < 0 ∨ 1114111 < r then other else at' other l r
def box0 : Obj:=.cells #[.int .i64 0,.int .i64 0,.int .i64 0,.int .i64 0,.int .i64 0] 89
section
variable {w : World} {p : Nat} {l : List (SRow Tr)} {other : Tr} {f : Nat -> Value} {vals : List Tr} {nr : List (SRow Nat)} {bl : List (List Nat)} {pl : List Nat}
theorem TabP.value (h : TabP w p l other f vals nr bl pl) (n : Nat) (x : Tr) (hn : vals[n]? = some x) : ∃ g cap,w.cell? ⟨p,0,none⟩ = some (.slice (some ⟨g,0,none⟩) vals.length cap) ∧ n < vals.length ∧ g < w.heap.size ∧ At5 w g (n * 5) x:=by
 obtain ⟨hlt,hx⟩:=List.getElem?_eq_some_iff.1 hn
 obtain ⟨B,ho⟩:=h.own
 have hrow:=h.row.cell (i:=0) (by omega)
 obtain ⟨ao,cap,e,hc⟩:=ho.open
 obtain ⟨g,rfl,hg,h2⟩:=hc n hlt
 exact ⟨g,cap,by rw [hrow,e],hlt,hg,by rw [<- hx]; exact h2⟩
def put5 (W : World) (b : Nat) (x : Tr) : World:=((((W.setCell ⟨b,0,none⟩ (.int .i64 x.a)).setCell ⟨b,1,none⟩ (.int .i64 x.b)).setCell ⟨b,2,none⟩ (.int .i64 x.c)).setCell ⟨b,3,none⟩ (.int .i64 x.d)).setCell ⟨b,4,none⟩ (.int .i64 x.e)
theorem put5_block {W : World} {b : Nat} {x : Tr} (h : W.heap[b]? = some box0) : (put5 W b x).heap[b]? = some (boxT x):=by unfold put5 boxT;unfold box0 at h;simp [World.setCell,Array.getElem?_modify,h]
theorem put5_below {B : Nat} {u W : World} {b : Nat} {x : Tr} (h : Below B u W) (hb : B <= b) : Below B u (put5 W b x) :=
 ((((h.setCell (p:=⟨b,0,none⟩) hb _).setCell (p:=⟨b,1,none⟩) hb _).setCell (p:=⟨b,2,none⟩) hb _).setCell (p:=⟨b,3,none⟩) hb _).setCell (p:=⟨b,4,none⟩) hb _
theorem box0_cells {W : World} {b : Nat} (h : W.heap[b]? = some box0) : (W.cell? ⟨b,0,none⟩ = some (.int .i64 0) ∧ W.cell? ⟨b,1,none⟩ = some (.int .i64 0) ∧ W.cell? ⟨b,2,none⟩ = some (.int .i64 0) ∧ W.cell? ⟨b,3,none⟩ = some (.int .i64 0) ∧ W.cell? ⟨b,4,none⟩ = some (.int .i64 0)) ∧ (∀ o,W.frozen? ⟨b,o,none⟩ = false):=by unfold box0 at h;simp [World.cell?,World.frozen?,h]
theorem get_end {W : World} {b : Nat} {x : Tr} {fn : Func} {q : Tmp} {tmps : Array Value} (h : fn.results = #[.cell q 89]) (hp : tmps.getD q undef = .pointer (some ⟨b,0,none⟩)) (hb : W.heap[b]? = some box0) : (results fn tmps).run Tryz.prog (put5 W b x) = .ok (trv x) (put5 W b x) :=
 results_cell_row h tmps _ b 89 _ (0,0) _ hp (put5_block hb) Tryz.underlying89 rfl (by kernel_rfl)
def S5 (p g n cap k : Nat) (x : Tr) (w' : World) : Prop :=
 w'.cell? ⟨p,0,none⟩ = some (.slice (some ⟨g,0,none⟩) k cap) ∧ w'.cell? ⟨g,n * 5,none⟩ = some (.int .i64 x.a) ∧ w'.cell? ⟨g,n * 5 + 1,none⟩ = some (.int .i64 x.b) ∧ w'.cell? ⟨g,n * 5 + 2,none⟩ = some (.int .i64 x.c) ∧ w'.cell? ⟨g,n * 5 + 3,none⟩ = some (.int .i64 x.d) ∧ w'.cell? ⟨g,n * 5 + 4,none⟩ = some (.int .i64 x.e)
def After5 (p g n lb cap k : Nat) (x : Tr) (w w2 : World) : Prop :=
 S5 p g n cap k x w2 ∧ ((w2.cell? ⟨lb,0,none⟩ = some (.int .i64 0) ∧ w2.cell? ⟨lb,1,none⟩ = some (.int .i64 0) ∧ w2.cell? ⟨lb,2,none⟩ = some (.int .i64 0) ∧ w2.cell? ⟨lb,3,none⟩ = some (.int .i64 0) ∧ w2.cell? ⟨lb,4,none⟩ = some (.int .i64 0)) ∧ (∀ o,w2.frozen? ⟨lb,o,none⟩ = false)) ∧
  S5 p g n cap k x (put5 w2 lb x) ∧ w2.heap[lb]? = some box0 ∧ Below lb w w2
theorem get_p (h : TabP w p l other f vals nr bl pl) (r : Int) :
 Calls Tryz.prog 157 #[.pointer (some ⟨p,0,none⟩),.int .i32 r] w fun e w'=>e = .returned (trv (getV other l r)) ∧ Below w.heap.size w w':=by
 have hb0 : Below w.heap.size w (w.alloc box0):=(Below.refl _ _).alloc (Nat.le_refl _) _
 have hT:=h.step hb0
 have hnew : (w.alloc box0).heap[w.heap.size]? = some box0:=heap_alloc_new w _
 have hpw:=h.row.lt
 by_cases hr : r < 0 ∨ 1114111 < r
 ·have H : Hid (getV other l r = other):=if_pos hr
  obtain ⟨g,cap,c0,hlt,hg,d0,g1,g2,g3,g4⟩:=hT.value 0 other hT.numd.head
  have hlt' : (0 : Int) < (vals.length : Int):=by omega
  obtain ⟨⟨z0,z1,z2,z3,z4⟩,zf⟩:=box0_cells hnew
  have f0:=zf 0
  have f1:=zf 1
  have f2:=zf 2
  have f3:=zf 3
  have f4:=zf 4
  have HB0:=hid hb0
  have HN:=hid hnew
  clear h hT zf hnew hb0 hg;simp only [Nat.zero_mul,Nat.zero_add] at d0 g1 g2 g3 g4
  unfold box0 at *
  by_cases h0 : r < 0
  ·go_enter Tryz.func157,Tryz.ntmps157
   go_wp2
   exact bodyPost_ret (v:=trv other) (results_cell_row Tryz.results157 _ _ w.heap.size 89 _ (0,0) _ rfl (heap_alloc_new w _) Tryz.underlying89 rfl (by kernel_rfl)) rfl ⟨by rw [H.out],(Below.refl _ _).alloc (Nat.le_refl _) _⟩
  ·have h1 : (1114111 : Int) < r:=by omega
   clear hr;go_enter Tryz.func157,Tryz.ntmps157
   go_wp2
   exact bodyPost_ret (v:=trv other) (results_cell_row Tryz.results157 _ _ w.heap.size 89 _ (0,0) _ rfl (heap_alloc_new w _) Tryz.underlying89 rfl (by kernel_rfl)) rfl ⟨by rw [H.out],(Below.refl _ _).alloc (Nat.le_refl _) _⟩
 ·have H : Hid (getV other l r = at' other l r):=if_neg hr
  have h0 : ¬ r < 0:=by omega
  have h1 : ¬ (1114111 : Int) < r:=by omega
  obtain ⟨g,cap,c0',hlt,hg,ha5⟩:=h.value _ _ (h.num r)
  have c0:=(hb0.cell (p:=⟨p,0,none⟩) hpw).trans c0'
  obtain ⟨a0,g1,g2,g3,g4⟩:=ha5.of_block (hb0.block g hg)
  have a1 : (w.alloc box0).cell? ⟨g,at' 0 nr r * 5 + 1,none⟩ = some _:=g1
  have a2 : (w.alloc box0).cell? ⟨g,at' 0 nr r * 5 + 2,none⟩ = some _:=g2
  have a3 : (w.alloc box0).cell? ⟨g,at' 0 nr r * 5 + 3,none⟩ = some _:=g3
  have a4 : (w.alloc box0).cell? ⟨g,at' 0 nr r * 5 + 4,none⟩ = some _:=g4
  have HA:=hid (at_any (hT.step (w':=(w.alloc box0).drew) (Below.refl _ _).drew) r (by omega) (by omega))
  obtain ⟨⟨z0,z1,z2,z3,z4⟩,zf⟩:=box0_cells hnew
  have f0:=zf 0
  have f1:=zf 1
  have f2:=zf 2
  have f3:=zf 3
  have f4:=zf 4
  have HB0:=hid hb0
  have HN:=hid hnew
  have hgb : ¬ g = w.heap.size:=by omega
  have hpb : ¬ p = w.heap.size:=by omega
  clear h hT hr hnew hb0 ha5 hg c0' g1 g2 g3 g4 zf hpw;generalize at' 0 nr r = n at *;generalize at' other l r = x at *;have b1 : (0 : Int) <= n ∧ (n : Int) < (vals.length : Int):=by omega
  go_enter Tryz.func157,Tryz.ntmps157
  go_wp2_with fail;have eb : w.alloc (.cells #[.int .i64 0,.int .i64 0,.int .i64 0,.int .i64 0,.int .i64 0] 89) = w.alloc box0:=rfl
  rw [eb];clear eb;generalize w.alloc box0 = W1 at *;generalize hlbe : w.heap.size = lb at *;have HLE:=hid hlbe
  clear hlbe;have HAft : Hid (∀ (w2 : World) (m : Nat),w2 = W1.drew.drewN m -> After5 p g n lb cap vals.length x w w2):=fun w2 m hw=>by
   have hh : w2.heap = W1.heap:=by rw [hw]; rfl
   have hcl : ∀ a,w2.cell? a = W1.cell? a:=fun a=>World.cell?_of_block (by rw [hh])
   have hfz : ∀ a,w2.frozen? a = W1.frozen? a:=fun a=>World.frozen?_of_block (by rw [hh])
   have hbx : w2.heap[lb]? = some box0:=by rw [hh]; exact HN.out
   have hb2 : Below lb w w2:=by rw [hw]; exact below_drewN HB0.out.drew m
   refine ⟨⟨by rw [hcl]; exact c0,by rw [hcl]; exact a0,by rw [hcl]; exact a1,by rw [hcl]; exact a2,by rw [hcl]; exact a3,by rw [hcl]; exact a4⟩,box0_cells hbx,?_,hbx,hb2⟩
   have hk : ∀ (b o : Nat),¬ b = lb -> (put5 w2 lb x).cell? ⟨b,o,none⟩ = W1.cell? ⟨b,o,none⟩:=fun b o hb=>by unfold put5;rw [World.cell?_setCell_other _ _ _ _ (fun e=>hb (congrArg Addr.block e).symm),World.cell?_setCell_other _ _ _ _ (fun e=>hb (congrArg Addr.block e).symm),World.cell?_setCell_other _ _ _ _ (fun e=>hb (congrArg Addr.block e).symm),World.cell?_setCell_other _ _ _ _ (fun e=>hb (congrArg Addr.block e).symm),World.cell?_setCell_other _ _ _ _ (fun e=>hb (congrArg Addr.block e).symm),hcl]
   exact ⟨by rw [hk _ _ hpb]; exact c0,by rw [hk _ _ hgb]; exact a0,by rw [hk _ _ hgb]; exact a1,by rw [hk _ _ hgb]; exact a2,by rw [hk _ _ hgb]; exact a3,by rw [hk _ _ hgb]; exact a4⟩
  clear z0 z1 z2 z3 z4 f0 f1 f2 f3 f4 HN HB0;refine wp_region_held_drew (S:=S5 p g n cap vals.length x) (by kernel_rfl) ⟨c0,a0,a1,a2,a3,a4⟩ (fun hS=>?_)
  refine wpAnyH_take (i:=0) (v:=.pointer (some ⟨p,0,none⟩)) rfl (by kernel_rfl) (by kernel_rfl) (by kernel_rfl) (fun _ _ _ h=>h) (Or.inl ⟨by rfl,by (intro w _; go_simp)⟩) (by assumption) ?_
  refine wpAnyH_take (i:=1) (v:=.pointer (some ⟨p,0,none⟩)) rfl (by kernel_rfl) (by kernel_rfl) (by kernel_rfl) (fun _ _ _ h=>h) (Or.inl ⟨by rfl,by (intro w _; go_simp)⟩) (by assumption) ?_
  refine wpAnyH_take (i:=2) (v:=.pointer (some ⟨p,0,none⟩)) rfl (by kernel_rfl) (by kernel_rfl) (by kernel_rfl) (fun _ _ _ h=>h) (Or.inl ⟨by rfl,by (intro w _; go_simp)⟩) (by assumption) ?_
  refine wpAnyH_take (i:=3) (v:=.slice (some ⟨g,0,none⟩) vals.length cap) rfl (by kernel_rfl) (by kernel_rfl) (by kernel_rfl) (fun _ _ _ h=>h) (Or.inl ⟨by rfl,by (intro w hw; obtain ⟨q0,_⟩:=hw; go_simp)⟩) (by assumption) ?_
  refine wpAnyH_take (i:=4) (v:=.pointer (some ⟨p,0,none⟩)) rfl (by kernel_rfl) (by kernel_rfl) (by kernel_rfl) (fun _ _ _ h=>h) (Or.inl ⟨by rfl,by (intro w _; go_simp)⟩) (by assumption) ?_
  refine wpAnyH_take (i:=5) (v:=.int .i32 r) rfl (by kernel_rfl) (by kernel_rfl) (by kernel_rfl) (fun _ _ _ h=>h) (Or.inl ⟨by rfl,by (intro w _; go_simp)⟩) (by assumption) ?_
  refine wpAnyH_ready (rs:=[6]) (by kernel_rfl) (by simp) ?_
  refine AllReadyH.cons rfl (fun K hK=>?_) AllReadyH.nil
  clear hS;go_simp
  go_wp2_with fail;refine HA.out.mono ?_;rintro e w2 ⟨rfl,m,hw2⟩;obtain ⟨hS2,⟨⟨z0,z1,z2,z3,z4⟩,zf⟩,hsx,hbx,hb2⟩:=HAft.out w2 m hw2
  have f0:=zf 0
  have f1:=zf 1
  have f2:=zf 2
  have f3:=zf 3
  have f4:=zf 4
  have HSX:=hid hsx
  have HBX:=hid hbx
  have HB2:=hid hb2
  clear hw2 hsx hbx hb2 zf HA HAft c0 a0 a1 a2 a3 a4;refine hK.out _ _ hS2 (fun hS=>?_)
  clear hK K;refine wpAnyH_take (i:=7) (v:=.pointer (some ⟨g,n * 5,none⟩)) rfl (by kernel_rfl) (by kernel_rfl) (by kernel_rfl) (fun _ _ _ h=>h) (Or.inl ⟨by rfl,by (intro w _; go_simp)⟩) (by assumption) ?_
  refine wpAnyH_take (i:=8) (v:=.agg #[.int .i64 x.a,.int .i64 x.b,.int .i64 x.c,.int .i64 x.d,.int .i64 x.e]) rfl (by kernel_rfl) (by kernel_rfl) (by kernel_rfl) (fun _ _ _ h=>h) (Or.inl ⟨by rfl,by (intro w hw; obtain ⟨_,q0,q1,q2,q3,q4⟩:=hw; go_simp)⟩) (by assumption) ?_
  refine wpAnyH_ready (rs:=[9]) (by kernel_rfl) (by simp) ?_
  refine AllReadyH.cons rfl (fun K hK=>?_) AllReadyH.nil
  clear hS hS2;go_simp
  refine hK.out _ _ HSX.out (fun _=>?_)
  clear hK K;refine wpAnyH_done (by kernel_rfl) ?_ _
  go_wp2_with fail;exact bodyPost_ret (v:=trv x) (get_end Tryz.results157 rfl HBX.out) rfl ⟨by rw [H.out],put5_below (by rw [HLE.out]; exact HB2.out) (by rw [HLE.out]; exact Nat.le_refl _)⟩
end
end Go.Proofs.YtkhipgcgcbhjoaaGreat.Uc
