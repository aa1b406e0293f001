import Derived.Test.YtkhipgcgcbhjoaaGreatDn53
import Derived.Test.YtkhipgcgcbhjoaaGreatDn54
import Derived.Deep.CutRange
set_option maxRecDepth 100000
set_option maxHeartbeats 8000000
namespace Go.Proofs.YtkhipgcgcbhjoaaGreat
namespace Do
open Go.RowKit Od Pr Nf Ma La
theorem sl_ownF {w : World} {B : Nat} {v : Value} {l : List Int} (h : w.ownsRowF B 21 1 v l.length (ivs .i32 l)) : Sl .i32 w v l:=by
 rcases h.2 with ⟨rfl,h0⟩ | ⟨g,cap,cur,fz,rfl,_,hg,_,hc,_,hs,ht⟩
 ·exact ⟨none,0,by rw [h0],by omega,fun _=>⟨h0,rfl⟩,fun j hj=>by omega⟩
 ·refine ⟨some ⟨g,0,none⟩,cap,rfl,hc,fun e=>(by cases e),fun j hj=>⟨g,0,rfl,(Array.getElem?_eq_some_iff.1 hg).1,?_⟩⟩
  unfold World.cell?
  rw [hg];simp only [Nat.zero_add]
  have h1 : cur.toList[j]? = some (.int .i32 l[j]):=by
   have : (cur.toList.take (l.length * 1))[j]? = (ivs .i32 l)[j]?:=by rw [ht]
   rw [List.getElem?_take_of_lt (by omega)] at this;rw [this];simp [ivs,hj]
  simpa using h1
structure Lw (w : World) (Ls : List (List Int)) (N : Nat) (ao : Option Addr) (W : World) : Prop where
 at_ : ∀ j (h : j < Ls.length),∃ g u,ao = some ⟨g,0,none⟩ ∧ g < N ∧ W.cell? ⟨g,j,none⟩ = some u ∧ Sl .i32 W u Ls[j] ∧ ∀ b,u.ownBlock = some b -> b < N
 v0 : W.heap[w.heap.size]? = some (.cells #[.slice none 0 0,.bool false,.bool false] 120)
 lt : w.heap.size < N
 sz : N <= W.heap.size
 ok : Ok w.heap.size w W
theorem Lw.step {w : World} {Ls : List (List Int)} {N : Nat} {ao : Option Addr} {W W' : World} (h : Lw w Ls N ao W) (hb : Below N W W') : Lw w Ls N ao W' :=
 ⟨fun j hj=>by
  obtain ⟨g,u,e,hg,hc,hS,hu⟩:=h.at_ j hj
  exact ⟨g,u,e,hg,(hb.cell (p:=⟨g,j,none⟩) hg).trans hc,sl_keep hS (by have:=hb.size; omega) (fun _ b hb1 _=>hb.block b (hu b hb1)),hu⟩,
  (hb.block _ h.lt).trans h.v0,h.lt,Nat.le_trans h.sz hb.size,⟨h.ok.1.trans (hb.mono (Nat.le_of_lt h.lt)),Nat.le_trans h.ok.2 hb.size⟩⟩
theorem Lw.split {w W W' : World} {M : List Int} {v : Value} {us : List Value} (hlt : w.heap.size < W.heap.size) (hok : Ok w.heap.size w W') (hv : W'.heap[w.heap.size]? = some (.cells #[.slice none 0 0,.bool false,.bool false] 120))
 (hown : W'.ownsRow W.heap.size 22 1 v us.length us) (hP : Pts W.heap.size W' us (splP M)) (hs : W.heap.size <= W'.heap.size) : ∃ ao cap,v = .slice ao (splP M).length cap ∧ (splP M).length <= cap ∧ Lw w (splP M) W'.heap.size ao W':=by
 obtain ⟨ao,cap,rfl,hcap,hat⟩:=row_at hown
 refine ⟨ao,cap,by rw [hP.1],by rw [<- hP.1]; exact hcap,fun j hj=>?_,hv,by omega,Nat.le_refl _,hok⟩
 obtain ⟨g,e,hg,hc⟩:=hat j (by rw [hP.1]; exact hj)
 have hj' : j < us.length:=by rw [hP.1]; exact hj
 exact ⟨g,us[j],e,hg,hc,Od.own_sl (hP.2 j hj' hj),fun b hb=>(row_ge (hP.2 j hj' hj) hb).2⟩
structure Lz (w : World) (Ls : List (List Int)) (rt : Bool) (N : Nat) (v : Value) (W : World) : Prop where
 sl : ∃ ao cap,v = .slice ao Ls.length cap ∧ Lw w Ls N ao W
 nm : W.heap[N]? = some (.cells #[.slice none 0 0,.bool rt,.bool false] 120)
 sz : W.heap.size = N + 1
theorem Lw.front {w W : World} {Ls : List (List Int)} {N : Nat} {ao : Option Addr} (h : Lw w Ls N ao W) : Lw w Ls.dropLast N ao W :=
 ⟨fun j hj=>by
  have hj' : j < Ls.length:=by rw [List.length_dropLast] at hj; omega
  obtain ⟨g,u,e⟩:=h.at_ j hj'
  exact ⟨g,u,by rw [List.getElem_dropLast]; exact e⟩,h.v0,h.lt,h.sz,h.ok⟩
theorem lb_root {M : List Int} {n : Nat} (h : (splP M).length = n + 1) (hn : n < (splP M).length) : (lbL M).2 = (decide ((0 : Int) < (n : Int)) && decide ((splP M)[n].length = 0)) ∧ ((lbL M).2 = true -> (lbL M).1 = (splP M).dropLast ∧ (lbL M).1.length = n) ∧ ((lbL M).2 = false -> (lbL M).1 = splP M ∧ (lbL M).1.length = n + 1):=by
 have e1 : (splP M).getLastD [0] = (splP M)[n]:=by
  have hne : splP M ≠ []:=fun e=>by rw [e] at h; simp at h
  rw [List.getLastD_eq_getLast?,List.getLast?_eq_some_getLast hne,Option.getD_some,List.getLast_eq_getElem];congr 1
  omega
 unfold lbL;rw [e1,h];by_cases hc : 1 < n + 1 ∧ (splP M)[n] = []
 ·rw [if_pos hc];refine ⟨?_,fun _=>⟨rfl,by rw [List.length_dropLast,h]; rfl⟩,fun e=>(by cases e)⟩
  rw [decide_eq_true (by omega),decide_eq_true (by rw [hc.2]; rfl)]; rfl
 ·rw [if_neg hc];refine ⟨?_,fun e=>(by cases e),fun _=>⟨rfl,h⟩⟩
  by_cases h0 : 0 < n
  ·have : ¬ (splP M)[n].length = 0:=fun e=>hc ⟨by omega,List.eq_nil_of_length_eq_zero e⟩
   rw [decide_eq_false this,Bool.and_false]
  ·rw [decide_eq_false (by omega),Bool.false_and]
theorem lb_sub {M A : List Int} (h : A ∈ (lbL M).1) : A ∈ splP M:=by
 unfold lbL at h;split at h
 ·exact List.dropLast_subset _ h
 ·exact h
theorem pt_bd {A : List Int} (hA : ∀ y ∈ A,Ut.scB y = true) (hl : A.length <= 120) : (ptP A).length <= 120 ∧ ∀ z ∈ ptP A,0 <= z ∧ z <= 1114111:=by
 have h1 : ∀ z ∈ A,0 <= z ∧ z <= 1114111:=fun z hz=>by have:=(sc_iff z).1 (hA z hz); omega
 unfold ptP;by_cases hp : plB A = true
 ·rw [if_pos hp];by_cases hc : cdS (txS A) = true
  ·rw [if_pos hc];exact fr_small (k:=(frR (Oc.lowS (txS A)) false).1) rfl (by rw [Oc.low_size,tx_size hA hp]; exact hl)
  ·rw [if_neg hc]; exact ⟨hl,h1⟩
 ·rw [if_neg hp]; exact ⟨hl,h1⟩
def Nb (W : World) (B : Nat) : Prop:=∃ x y z T,W.heap[B]? = some (.cells #[x,y,z] T) ∧ ∀ v ∈ [x,y,z],(∀ k i,v ≠ .int k i) ∧ ∀ t u,v ≠ .iface t u
theorem Nb.ne {W : World} {B b o : Nat} {v : Value} (h : Nb W B) (hc : W.cell? ⟨b,o,none⟩ = some v) (hv : (∃ k i,v = .int k i) ∨ ∃ t u,v = .iface t u) : b ≠ B:=fun e=>by
 subst e;obtain ⟨x,y,z,T,hb,hn⟩:=h
 unfold World.cell? at hc
 rw [hb] at hc;have hm : v ∈ [x,y,z]:=by
  have h2 : (#[x,y,z] : Array Value)[o]? = some v:=hc
  have:=Array.mem_of_getElem? h2
  simpa using this
 rcases hv with ⟨k,i,rfl⟩ | ⟨t,u,rfl⟩
 ·exact (hn _ hm).1 _ _ rfl
 ·exact (hn _ hm).2 _ _ rfl
theorem sl_nb {W W' : World} {v : Value} {A : List Int} {B C : Nat} (h : Sl .i32 W v A) (h1 : Nb W B) (h2 : Nb W C) (hs : W.heap.size <= W'.heap.size) (hk : ∀ b,b < W.heap.size -> b ≠ B -> b ≠ C -> W'.heap[b]? = W.heap[b]?) : Sl .i32 W' v A:=by
 refine sl_keep h hs (fun h0 b hb hl=>?_)
 obtain ⟨ao,cap,rfl,hS⟩:=h
 obtain ⟨b',off,e,_,hc⟩:=hS.at_ 0 (List.length_pos_iff.2 h0)
 rw [e] at hb;injection hb with hb;subst hb;exact hk _ hl (h1.ne hc (.inl ⟨_,_,rfl⟩)) (h2.ne hc (.inl ⟨_,_,rfl⟩))
theorem Pa.keep {W W' : World} {ao : Option Addr} {Ls : List (List Int)} {B C : Nat} (h : Pa W ao Ls) (h1 : Nb W B) (h2 : Nb W C) (hs : W.heap.size <= W'.heap.size) (hk : ∀ b,b < W.heap.size -> b ≠ B -> b ≠ C -> W'.heap[b]? = W.heap[b]?) : Pa W' ao Ls:=fun j hj=>by
 obtain ⟨b,off,pv,e,hl,hc,hp⟩:=h j hj
 have hi : ∃ t u,pv = .iface t u:=by rcases hp with ⟨_,_,_,rfl⟩ | ⟨_,_,rfl⟩ | ⟨_,_,_,_,rfl⟩ <;> exact ⟨_,_,rfl⟩
 refine ⟨b,off,pv,e,Nat.lt_of_lt_of_le hl hs,?_,?_⟩
 ·have:=hk b hl (h1.ne hc (.inr hi)) (h2.ne hc (.inr hi))
  unfold World.cell? at hc ⊢
  rw [this]; exact hc
 ·rcases hp with ⟨v,h,hp,rfl⟩ | ⟨hp,hd,rfl⟩ | ⟨v,h,hp,hd,rfl⟩
  ·exact .native v (sl_nb h h1 h2 hs hk) hp
  ·exact .plain hp hd
  ·exact .coded v (sl_nb h h1 h2 hs hk) hp hd
theorem made_sl (n : Nat) : madeCells #[Value.slice none 0 0] n = (List.replicate n (Value.slice none 0 0)).toArray:=by
 apply Array.ext
 ·simp [madeCells]
 ·intro i h1 h2
  simp [madeCells,Nat.mod_one]
theorem any_zip (q : List Int -> Bool) : ∀ (us : List Value) (Ps : List (List Int)),us.length = Ps.length -> Bi.anyL q (us.zip Ps) = Ps.any q
 | [],[],_=>rfl
 | u :: us,P :: Ps,h=>by
  have ih:=any_zip q us Ps (by simpa using h)
  unfold Bi.anyL at ih ⊢
  rw [List.zip_cons_cons,List.any_cons,List.any_cons,ih]
 | [],P :: Ps,h=>by simp at h
 | u :: us,[],h=>by simp at h
theorem Rv.lab {N n : Nat} {root : Bool} {Ls : List (List Int)} {pv : Value} {vs us : List Value} {W : World} (h : Rv N n root Ls n n pv vs us W) (hL : Ls.length = n) (hA : ∀ A ∈ Ls,∀ y ∈ A,Ut.scB y = true) (hl : ∀ A ∈ Ls,A.length <= 120) :
 Bi.Lab W (some ⟨N + 1,0,none⟩) (us.zip (Ls.map ptP)) ∧ (us.zip (Ls.map ptP)).length = n ∧ (∀ z ∈ us.zip (Ls.map ptP),z.2.length <= 1000000) ∧ ∃ ao cap,pv = .slice ao n cap ∧ Pa W ao Ls:=by
 have hz:=h.sz
 have hul:=h.ul
 have hmem : ∀ z ∈ us.zip (Ls.map ptP),Sl .i32 W z.1 z.2 ∧ ∃ A ∈ Ls,z.2 = ptP A:=fun z hz=>by
  obtain ⟨j,hj,rfl⟩:=List.mem_iff_getElem.1 hz
  have h1 : j < us.length:=by rw [List.length_zip] at hj; omega
  have h3 : j < Ls.length:=by omega
  rw [List.getElem_zip];simp only [List.getElem_map]
  exact ⟨(h.held j (by omega) h1 (by rw [h.vl]; omega) h3).1,_,List.getElem_mem h3,rfl⟩
 refine ⟨⟨fun j hj=>⟨N + 1,0,rfl,by omega,?_⟩,fun z hz=>(hmem z hz).1,fun z hz=>?_⟩,by rw [List.length_zip,List.length_map]; omega,fun z hz=>?_,?_⟩
 ·have h1 : j < us.length:=by rw [List.length_zip] at hj; omega
  rw [List.getElem_zip];unfold World.cell?
  rw [h.pt,Nat.zero_add];simp [h1]
 ·obtain ⟨_,A,hA1,e⟩:=hmem z hz
  rw [e];intro y hy
  have:=(pt_bd (hA A hA1) (hl A hA1)).2 y hy
  omega
 ·obtain ⟨_,A,hA1,e⟩:=hmem z hz
  rw [e];have:=(pt_bd (hA A hA1) (hl A hA1)).1
  omega
 ·obtain ⟨ao,cap,e,_,hat⟩:=row_at h.row
  refine ⟨ao,cap,by rw [e,h.vl],fun j hj=>?_⟩
  have h2 : j < vs.length:=by rw [h.vl]; omega
  obtain ⟨g,e1,hg,hc⟩:=hat j h2
  obtain ⟨q1,q2,_⟩:=h.held j (by omega) (by omega) h2 hj
  exact ⟨g,0,vs[j],e1,hg,by rw [Nat.zero_add]; exact hc,q2.part q1⟩
theorem read_any {w : World} {nm b m f c g j k p d u s : Nat} (hN : Nm w nm b m f c g j k p d u s) (hB : Bk w b) (x : ByteArray) (hx : x.size <= 5000) (hf : Ut.faultL x.data.toList < 0)
 (hm : (mapP (Ut.runesL x.data.toList)).length <= 900) (hsc : ∀ y ∈ Ut.runesL x.data.toList,Ut.scB y = true) (hl : ∀ A ∈ (lbL (mapP (Ut.runesL x.data.toList))).1,A.length <= 120) :
 Calls Tryz.prog 74 #[.pointer (some ⟨nm,0,none⟩),.string x] w fun e w'=>∃ ao cap,e = .returned (.tuple #[.agg #[.slice ao (lbL (mapP (Ut.runesL x.data.toList))).1.length cap,.bool (lbL (mapP (Ut.runesL x.data.toList))).2,.bool (bdB (lbL (mapP (Ut.runesL x.data.toList))).1)],.bool true]) ∧ Pa w' ao (lbL (mapP (Ut.runesL x.data.toList))).1 ∧ Below w.heap.size w w':=by
 have HO:=La.hr ((Ok.start w).alloc (o:=.cells #[.slice none 0 0,.bool false,.bool false] 120))
 have HV0 : Hid ((w.alloc (.cells #[.slice none 0 0,.bool false,.bool false] 120)).heap[w.heap.size]? = some (.cells #[.slice none 0 0,.bool false,.bool false] 120)):=heap_new w _
 have HNm:=La.hr (fun (W : World) (h : Below w.heap.size w W)=>hN.step h)
 have HBk:=La.hr (fun (W : World) (h : Below w.heap.size w W)=>hB.step h)
 have HRu:=La.hr (Ut.runes_own x (w.alloc (.cells #[.slice none 0 0,.bool false,.bool false] 120)) (by omega));have hrl : (Ut.runesL x.data.toList).length <= 10000:=by have:=(Ut.runesL_back x.data.toList hf).2.2; rw [len_size] at this; omega
 generalize hR : Ut.runesL x.data.toList = R at *;have HMp:=La.hr (fun (W : World) (v : Value) (h : Below w.heap.size w W) (hS : Sl .i32 W v R)=>map_any (hN.step h).mp hS (fun y hy=>by have:=(sc_iff y).1 (hsc y hy); unfold Pr.I32; omega) hrl)
 have HMs:=La.hr (sc_map hsc);clear hN hB hR hsc;generalize mapP R = M at *;have HSp:=La.hr (fun (W : World) (v : Value) (hS : Sl .i32 W v M)=>split_any hS (by omega))
 have HLs:=La.hr (spl_mem M);have HNe:=La.hr (spl_ne M);have HFl:=La.hr hf
 clear hx hrl hf;go_enter Tryz.func74,Tryz.ntmps74
 go_wp2_with fail;refine HRu.out.mono ?_;rintro e w1 ⟨h | ⟨_,v1,B1,rfl,hv1⟩,hb⟩
 ·exact absurd h.1 (by have:=HFl.out; omega)
 replace HO:=La.hr (HO.out.step hb);replace HV0:=La.hr ((hb.block w.heap.size (Array.getElem?_eq_some_iff.1 HV0.out).1).trans HV0.out);have H1:=La.hr (sl_ownF hv1)
 obtain ⟨c0,c1,c2⟩:=(HNm.out _ HO.out.1).cells
 clear hv1 hb HRu HFl c0 c2;go_wp2_with fail;refine (HMp.out _ _ HO.out.1 H1.out).mono ?_;rintro e w2 ⟨v2,rfl,hv2,hb⟩;replace HO:=La.hr (HO.out.step hb);replace HV0:=La.hr ((hb.block w.heap.size (Array.getElem?_eq_some_iff.1 HV0.out).1).trans HV0.out)
 have H2:=La.hr hv2
 clear hv2 hb HMp H1 c1;go_wp2_with fail;refine (HSp.out _ _ H2.out).mono ?_;rintro e w3 ⟨v3,us,rfl,hown,hpts,hb⟩;have hlt0:=(Array.getElem?_eq_some_iff.1 HV0.out).1
 replace HO:=La.hr (HO.out.step hb);replace HV0:=La.hr ((hb.block w.heap.size hlt0).trans HV0.out);obtain ⟨ao,cap,rfl,hcap,hlw⟩:=Lw.split hlt0 HO.out HV0.out hown hpts hb.size
 have HL:=La.hr hlw
 have HCap:=La.hr hcap
 clear hown hpts hb hlw hcap HSp H2 hlt0;obtain ⟨n0,hn0⟩ : ∃ n0,(splP M).length = n0 + 1:=⟨(splP M).length - 1,by have:=List.length_pos_iff.2 HNe.out; omega⟩
 have HLen:=La.hr hn0
 have hn1 : n0 <= 900:=by have:=spl_len M; omega
 rw [hn0];rw [hn0] at HCap;have hcap2:=HCap.out
 clear hm HNe;obtain ⟨g,u1,rfl,hg,hcu,hSu,_⟩:=HL.out.at_ n0 (by omega)
 have hcu2 : (w3.alloc (.cells #[.slice none 0 0,.bool false,.bool false] 120)).cell? ⟨g,n0,none⟩ = some u1:=(((Below.refl _ _).alloc (Nat.le_refl _) _).cell (p:=⟨g,n0,none⟩) hg).trans hcu
 have HRt:=La.hr (lb_root hn0 (by omega));have HL2 : Hid (∀ o,Lw w (splP M) w3.heap.size (some ⟨g,0,none⟩) (w3.alloc o)):=fun o=>HL.out.step ((Below.refl _ _).alloc (Nat.le_refl _) _)
 have HMm : Hid (∀ A ∈ (lbL M).1,∀ y ∈ A,Ut.scB y = true):=fun A hA y hy=>HMs.out y ((HLs.out A (lb_sub hA)).2 y hy)
 obtain ⟨au,cu,rfl,-⟩:=hSu
 generalize hlu : (splP M)[n0].length = lu at *;have hn2 : (lbL M).1.length <= 901:=by have h1:=HRt.out.2; cases h : (lbL M).2 <;> simp [h] at h1 <;> omega
 generalize hLs : (lbL M).1 = Ls at *;generalize hRt : (lbL M).2 = rt at *;have HQ:=La.hr (And.intro hLs hRt);clear hlu hcu HL HMs HLs hLs hRt;simp only []
 go_upto_region 7 with fail
 go_cut [42] from 33 to 42 (fun v wx=>v = .bool rt ∧ wx = w3.alloc (.cells #[.slice none 0 0,.bool false,.bool false] 120))
 case first =>
  by_cases h0 : 0 < n0
  ·have z0 : (0 : Int) < (n0 : Int):=by omega
   have z1 : (n0 : Int) < (n0 : Int) + 1:=by omega
   go_wp2_with fail;go_meet
   case rel =>
    refine ⟨?_,rfl⟩
    rw [HRt.out.1,decide_eq_true (by omega),Bool.true_and];congr 1
    by_cases hl0 : lu = 0 <;> simp [hl0]
  ·have z0 : ¬ (0 : Int) < (n0 : Int):=by omega
   go_wp2_with fail;go_meet
   case rel =>
    refine ⟨?_,rfl⟩
    rw [HRt.out.1,decide_eq_false (by omega),Bool.false_and]
 case rest =>
 obtain ⟨rfl,rfl⟩:=hcut
 go_upto_if 42 with fail
 go_cut [8] from 43 to 46 (fun v8 wx=>Hid (Lz w Ls rt w3.heap.size v8 wx))
 case first =>
  cases rt with
  | false =>
   obtain ⟨e1,e2⟩:=HRt.out.2.2 rfl
   have HZ : Hid (Lz w Ls false w3.heap.size (.slice (some ⟨g,0,none⟩) (n0 + 1) cap) (w3.alloc (.cells #[.slice none 0 0,.bool false,.bool false] 120))):=⟨⟨some ⟨g,0,none⟩,cap,by rw [e2],by rw [e1]; exact HL2.out _⟩,heap_new w3 _,World.size_alloc _ _⟩
   clear e1 e2;go_wp2_with fail;go_meet
   case rel=>exact HZ
  | true =>
   obtain ⟨e1,e2⟩:=HRt.out.2.1 rfl
   have HZ : Hid (Lz w Ls true w3.heap.size (.slice (some ⟨g,0,none⟩) n0 cap) (w3.alloc (.cells #[.slice none 0 0,.bool true,.bool false] 120))):=⟨⟨some ⟨g,0,none⟩,cap,by rw [e2],by rw [e1]; exact (HL2.out _).front⟩,heap_new w3 _,World.size_alloc _ _⟩
   clear e1 e2;go_wp2_with fail;go_meet
   case rel=>exact HZ
 case rest =>
 obtain ⟨⟨ao,cap2,rfl,hlw⟩,hnm0,hsz0⟩:=hcut.out
 have HLw:=La.hr hlw
 have HLn:=La.hr (Eq.refl Ls.length);clear hcut hlw HL2 HRt hcu2;generalize w3.heap.size = N at *;have H0 : Hid (Rv N Ls.length rt Ls 0 0 (.slice none 0 0) [] (List.replicate Ls.length (Value.slice none 0 0)) (wc.alloc (.cells (madeCells #[Value.slice none 0 0] Ls.length) 22))):=by
  refine ⟨by rw [World.size_alloc]; omega,(Below.heap_alloc wc _ N (by omega)).trans hnm0,?_,List.length_replicate,World.ownsRow_nil _ _ _ _,rfl,fun j a=>by omega⟩
  rw [<- made_sl,<- hsz0];exact heap_new wc _
 have HLw1 : Hid (Lw w Ls N ao (wc.alloc (.cells (madeCells #[Value.slice none 0 0] Ls.length) 22))):=HLw.out.step ((Below.refl _ _).alloc HLw.out.sz _)
 have hmk : (Instr.makeSlice 183 (.int .i64 (Ls.length : Int)) (.int .i64 (Ls.length : Int))).run Tryz.prog wc = .ok (.slice (some ⟨N + 1,0,none⟩) Ls.length Ls.length) (wc.alloc (.cells (madeCells #[Value.slice none 0 0] Ls.length) 22)):=by rw [<- hsz0];exact run_make_row' 183 22 (.slice none 0 0) 24 Tryz.underlying183 Ma.info_sl rfl .i64 .i64 Ls.length (by omega) (by omega) wc
 generalize wc.alloc (.cells (madeCells #[Value.slice none 0 0] Ls.length) 22) = wd at *;clear hnm0 hsz0 HLw;obtain ⟨n,hn⟩ : ∃ n,Ls.length = n:=⟨_,rfl⟩
 have HN:=La.hr hn
 rw [hn] at H0 hmk hn2 ⊢
 have HLl:=La.hr hl
 clear hn HLn hl;go_wp2_with fail;go_loopg [52] n (fun gg vi wr=>∃ k : Nat,vi = .int .i64 k ∧ k <= n ∧ gg = n - k ∧ Hid (Lw w Ls N ao wr) ∧ ∃ pv vs us,Hid (Rv N n rt Ls k k pv vs us wr))
 case atStart=>exact ⟨0,rfl,Nat.zero_le _,rfl,HLw1,_,_,_,H0⟩
 case round =>
  obtain ⟨k,rfl,hk,hg2,HL,pv,vs,us2,HR⟩:=hrel
  have HG:=La.hr hg2
  clear hg2 H0 HLw1 hmk;by_cases hlt : k < n
  ·have hkL : k < Ls.length:=by rw [HN.out]; exact hlt
   obtain ⟨g1,u1,rfl,hg1,c1,hS1,hu1⟩:=HL.out.at_ k hkL
   have HMem:=La.hr (List.getElem_mem hkL);have HPa:=La.hr (part_new (HNm.out wr HL.out.ok.1) hS1 (HMm.out _ HMem.out) (HLl.out _ HMem.out));have HPt:=La.hr (fun (hp : plB Ls[k] = true) (W : World)=>pts_new (HMm.out _ HMem.out) hp (HLl.out _ HMem.out) W)
   have HS1:=La.hr hS1
   have HU1:=La.hr hu1
   have z1 : (k : Int) < (n : Int):=by omega
   obtain ⟨au1,cu1,rfl,-⟩:=hS1
   clear hu1;go_wp2_with fail;refine HPa.out.mono ?_;rintro e w4 ⟨p4,rfl,hp4,hb⟩;have HB4 : Hid (Below N wr w4):=hb.mono HL.out.sz
   have HRb:=La.hr (HR.out.step hb);obtain ⟨d0,_,_⟩:=cells3 HRb.out.nm
   have hvl : vs.length <= 1000000:=by rw [HR.out.vl]; omega
   have hsw:=HL.out.sz
   clear hb HPa c1;rcases hp4 with ⟨hp,rfl⟩ | ⟨hp,hc,rfl⟩ | ⟨x4,hp,hc,hx4,hf4,rfl⟩
   ·have hmd:=fun (W : World)=>md_n (.slice au1 Ls[k].length cu1) W
    have HX : Hid (PartX Ls[k] (.slice au1 Ls[k].length cu1) (Value.iface 251 (.slice au1 Ls[k].length cu1))):=.native hp
    have HE : Hid (ptP Ls[k] = Ls[k]):=pt_native hp
    clear hp HPt;go_wp2_with (at_builtin; refine appP rfl (.tmp 61) (.tmp 63) rfl w4 (N + 2) _ vs (Value.iface 251 (.slice au1 Ls[k].length cu1)) (by rfl) (by rfl) w4.heap.size rfl (by rfl) HRb.out.row hvl HRb.out.sz (fun v5 w5 h1 h2 h3=>?_); obtain ⟨k5,f5⟩:=HRb.out.ahead h2; have hp5:=HRb.out.push h1 h2 h3; obtain ⟨a5,c5,e5⟩:=Od.own_slice h1; subst e5; simp only [List.length_append,List.length_cons,List.length_nil,Nat.zero_add] at hp5; have HP5:=La.hr hp5; obtain ⟨⟨x5,q5⟩,g5⟩:=HP5.out.1.place hlt; clear h1 h2 h3 hp5)
    generalize w5.setCell ⟨N,0,none⟩ (.slice a5 (vs.length + 1) c5) = W5 at *;have hkv : k < (vs ++ [Value.iface 251 (.slice au1 Ls[k].length cu1)]).length:=by rw [List.length_append,HR.out.vl]; exact Nat.lt_succ_self _
    have hev : (vs ++ [Value.iface 251 (.slice au1 Ls[k].length cu1)])[k]'hkv = Value.iface 251 (.slice au1 Ls[k].length cu1):=by
     have e:=HR.out.vl
     rw [List.getElem_append_right (by omega)];simp [e]
    have HB5:=La.hr (HB4.out.trans HP5.out.2.1);refine (pts_native _ _).mono ?_;rintro e w6 ⟨rfl,rfl⟩;have HFin : Hid (Rv N n rt Ls (k + 1) (k + 1) (.slice a5 (vs.length + 1) c5) (vs ++ [Value.iface 251 (.slice au1 Ls[k].length cu1)]) (us2.set k (.slice au1 Ls[k].length cu1)) (w6.setCell ⟨N + 1,k,none⟩ (.slice au1 Ls[k].length cu1)) ∧ Lw w Ls N (some ⟨g1,0,none⟩) (w6.setCell ⟨N + 1,k,none⟩ (.slice au1 Ls[k].length cu1))):=by
     have h1:=HP5.out.1.put hlt hkL hkv (x:=.slice au1 Ls[k].length cu1) (by rw [HE.out]; exact sl_keep HS1.out (by have:=HB5.out.size; omega) (fun _ b hb _=>HB5.out.block b (HU1.out b hb))) (by rw [hev]; exact HX.out) (HP5.out.1.low _ HU1.out)
     exact ⟨h1.1,HL.out.step (HB5.out.trans h1.2)⟩
    go_wp2_with fail;go_roundg (n - (k + 1))
    case measure=>rw [HG.out]; omega
    case rel=>exact ⟨k + 1,by go_num,by omega,rfl,HFin.out.2,_,_,_,HFin.out.1⟩
   ·have hmd:=fun (W : World)=>md_p (.string (txS Ls[k])) W
    have HX : Hid (∀ x,PartX Ls[k] x (Value.iface 254 (.string (txS Ls[k])))):=fun x=>.plain hp hc
    have HE : Hid (ptP Ls[k] = Ls[k]):=pt_plain hp hc
    have HPt2:=La.hr (HPt.out hp);clear hp hc HPt;go_wp2_with (at_builtin; refine appP rfl (.tmp 61) (.tmp 63) rfl w4 (N + 2) _ vs (Value.iface 254 (.string (txS Ls[k]))) (by rfl) (by rfl) w4.heap.size rfl (by rfl) HRb.out.row hvl HRb.out.sz (fun v5 w5 h1 h2 h3=>?_); obtain ⟨k5,f5⟩:=HRb.out.ahead h2; have hp5:=HRb.out.push h1 h2 h3; obtain ⟨a5,c5,e5⟩:=Od.own_slice h1; subst e5; simp only [List.length_append,List.length_cons,List.length_nil,Nat.zero_add] at hp5; have HP5:=La.hr hp5; obtain ⟨⟨x5,q5⟩,g5⟩:=HP5.out.1.place hlt; clear h1 h2 h3 hp5)
    generalize w5.setCell ⟨N,0,none⟩ (.slice a5 (vs.length + 1) c5) = W5 at *;have hkv : k < (vs ++ [Value.iface 254 (.string (txS Ls[k]))]).length:=by rw [List.length_append,HR.out.vl]; exact Nat.lt_succ_self _
    have hev : (vs ++ [Value.iface 254 (.string (txS Ls[k]))])[k]'hkv = Value.iface 254 (.string (txS Ls[k])):=by
     have e:=HR.out.vl
     rw [List.getElem_append_right (by omega)];simp [e]
    have HB5:=La.hr (HB4.out.trans HP5.out.2.1);refine (HPt2.out _).mono ?_;rintro e w6 ⟨x6,rfl,⟨hx6,hf6⟩,hb6⟩;have HX6:=La.hr hx6
    have HF6 : Hid (∀ b,x6.ownBlock = some b -> W5.heap.size <= b):=hf6
    have HR6:=La.hr (HP5.out.1.step hb6);have HB6:=La.hr (HB5.out.trans (hb6.mono (by have:=HP5.out.1.sz; omega)))
    obtain ⟨a6,c6,rfl,-⟩:=hx6
    clear hb6 hf6 q5 g5;obtain ⟨⟨x7,q7⟩,g7⟩:=HR6.out.place hlt
    have HFin : Hid (Rv N n rt Ls (k + 1) (k + 1) (.slice a5 (vs.length + 1) c5) (vs ++ [Value.iface 254 (.string (txS Ls[k]))]) (us2.set k (.slice a6 Ls[k].length c6)) (w6.setCell ⟨N + 1,k,none⟩ (.slice a6 Ls[k].length c6)) ∧ Lw w Ls N (some ⟨g1,0,none⟩) (w6.setCell ⟨N + 1,k,none⟩ (.slice a6 Ls[k].length c6))):=by
     have h1:=HR6.out.put hlt hkL hkv (x:=.slice a6 Ls[k].length c6) (by rw [HE.out]; exact HX6.out) (by rw [hev]; exact HX.out _) (HP5.out.1.new _ HF6.out)
     exact ⟨h1.1,HL.out.step (HB6.out.trans h1.2)⟩
    go_wp2_with fail;go_roundg (n - (k + 1))
    case measure=>rw [HG.out]; omega
    case rel=>exact ⟨k + 1,by go_num,by omega,rfl,HFin.out.2,_,_,_,HFin.out.1⟩
   ·have HX4:=La.hr hx4
    obtain ⟨a4,c4,rfl,-⟩:=hx4
    have HX : Hid (PartX Ls[k] (.slice a4 (ptP Ls[k]).length c4) (Value.iface 253 (.agg #[.string (txS Ls[k]),.slice a4 (ptP Ls[k]).length c4]))):=.coded hp hc
    have hmd:=fun (W : World)=>md_c (.agg #[.string (txS Ls[k]),.slice a4 (ptP Ls[k]).length c4]) W
    have HF4 : Hid (Fre N pv (.slice a4 (ptP Ls[k]).length c4) (ptP Ls[k])):=HR.out.new _ hf4
    clear hp hc HPt hf4;go_wp2_with (at_builtin; refine appP rfl (.tmp 61) (.tmp 63) rfl w4 (N + 2) _ vs (Value.iface 253 (.agg #[.string (txS Ls[k]),.slice a4 (ptP Ls[k]).length c4])) (by rfl) (by rfl) w4.heap.size rfl (by rfl) HRb.out.row hvl HRb.out.sz (fun v5 w5 h1 h2 h3=>?_); obtain ⟨k5,f5⟩:=HRb.out.ahead h2; have hp5:=HRb.out.push h1 h2 h3; obtain ⟨a5,c5,e5⟩:=Od.own_slice h1; subst e5; simp only [List.length_append,List.length_cons,List.length_nil,Nat.zero_add] at hp5; have HP5:=La.hr hp5; obtain ⟨⟨x5,q5⟩,g5⟩:=HP5.out.1.place hlt; clear h1 h2 h3 hp5)
    generalize w5.setCell ⟨N,0,none⟩ (.slice a5 (vs.length + 1) c5) = W5 at *;have hkv : k < (vs ++ [Value.iface 253 (.agg #[.string (txS Ls[k]),.slice a4 (ptP Ls[k]).length c4])]).length:=by rw [List.length_append,HR.out.vl]; exact Nat.lt_succ_self _
    have hev : (vs ++ [Value.iface 253 (.agg #[.string (txS Ls[k]),.slice a4 (ptP Ls[k]).length c4])])[k]'hkv = Value.iface 253 (.agg #[.string (txS Ls[k]),.slice a4 (ptP Ls[k]).length c4]):=by
     have e:=HR.out.vl
     rw [List.getElem_append_right (by omega)];simp [e]
    have HB5:=La.hr (HB4.out.trans HP5.out.2.1);refine (pts_coded _ _ _).mono ?_;rintro e w6 ⟨rfl,hb6⟩;have HR6:=La.hr (HP5.out.1.step hb6);have HB6:=La.hr (HB5.out.trans (hb6.mono (by have:=HP5.out.1.sz; omega)))
    have HS6 : Hid (Sl .i32 w6 (.slice a4 (ptP Ls[k]).length c4) (ptP Ls[k]) ∧ Fre N (.slice a5 (vs.length + 1) c5) (.slice a4 (ptP Ls[k]).length c4) (ptP Ls[k])):=by
     have h1:=HP5.out.2.2 _ _ HX4.out HF4.out
     exact ⟨h1.1.step hb6,h1.2⟩
    clear hb6 q5 g5;obtain ⟨⟨x7,q7⟩,g7⟩:=HR6.out.place hlt
    have HFin : Hid (Rv N n rt Ls (k + 1) (k + 1) (.slice a5 (vs.length + 1) c5) (vs ++ [Value.iface 253 (.agg #[.string (txS Ls[k]),.slice a4 (ptP Ls[k]).length c4])]) (us2.set k (.slice a4 (ptP Ls[k]).length c4)) (w6.setCell ⟨N + 1,k,none⟩ (.slice a4 (ptP Ls[k]).length c4)) ∧ Lw w Ls N (some ⟨g1,0,none⟩) (w6.setCell ⟨N + 1,k,none⟩ (.slice a4 (ptP Ls[k]).length c4))):=by
     have h1:=HR6.out.put hlt hkL hkv (x:=.slice a4 (ptP Ls[k]).length c4) HS6.out.1 (by rw [hev]; exact HX.out) HS6.out.2
     exact ⟨h1.1,HL.out.step (HB6.out.trans h1.2)⟩
    go_wp2_with fail;go_roundg (n - (k + 1))
    case measure=>rw [HG.out]; omega
    case rel=>exact ⟨k + 1,by go_num,by omega,rfl,HFin.out.2,_,_,_,HFin.out.1⟩
  ·have e : k = n:=by omega
   subst e;have z1 : ¬ (k : Int) < (k : Int):=by omega
   obtain ⟨hlab,hzl,hzm,a7,c7,rfl,hpa⟩:=HR.out.lab HN.out HMm.out HLl.out
   have HBi:=La.hr (Bi.both_any (cap:=k) (HBk.out wr HL.out.ok.1) hzl hlab hzm (by omega))
   have HE : Hid (Bi.anyL Bi.rtP (us2.zip (Ls.map ptP)) = bdB Ls):=by
    show _ = _;rw [any_zip _ _ _ (by rw [HR.out.ul,List.length_map,HN.out])]
    unfold bdB;rw [List.any_map]; rfl
   rw [HE.out] at HBi;have HPa:=La.hr hpa
   obtain ⟨b0,_,_⟩:=(HNm.out wr HL.out.ok.1).cells
   clear hlab hzl hzm hpa HE;generalize hbd : bdB Ls = bd at *;have HBd:=La.hr hbd
   clear hbd;go_wp2_with fail;refine HBi.out.mono ?_;rintro e w8 ⟨rfl,hb⟩;have hN8:=HL.out.sz
   have hz8:=HR.out.sz
   have hV:=(hb.block N (by omega)).trans HR.out.nm
   have HV:=La.hr hV
   obtain ⟨k0,k1,k2⟩:=cells3 hV
   have hfz : w8.frozen? ⟨N,2,none⟩ = false:=by unfold World.frozen?; rw [hV]; rfl
   have hlt0:=HL.out.lt
   have hW : (w8.setCell ⟨N,2,none⟩ (.bool bd)).heap[w.heap.size]? = some (.cells #[.slice none 0 0,.bool false,.bool false] 120):=(Below.heap_setCell _ _ _ _ (by show w.heap.size ≠ N; omega)).trans ((hb.block _ (by omega)).trans HL.out.v0)
   obtain ⟨j0,j1,j2⟩:=cells3 hW
   have jz : ∀ i,(w8.setCell ⟨N,2,none⟩ (.bool bd)).frozen? ⟨w.heap.size,i,none⟩ = false:=fun i=>by unfold World.frozen?; rw [hW]; rfl
   have jz0:=jz 0
   have jz1:=jz 1
   have jz2:=jz 2
   have HB8:=La.hr hb
   have HPa8:=La.hr (HPa.out.step hb);have HNb : Hid (Nb w8 N ∧ Nb w8 w.heap.size):=⟨⟨_,_,_,_,hV,fun v hv=>(by simp at hv; rcases hv with rfl | rfl | rfl <;> simp),⟩,⟨_,_,_,_,(hb.block _ (by omega)).trans HL.out.v0,fun v hv=>(by simp at hv; rcases hv with rfl | rfl <;> simp)⟩⟩
   clear hb hV jz hW;go_wp2_with fail;have hok:=HL.out.ok.step HB8.out
   generalize hW9 : w8.setCell ⟨N,2,none⟩ (.bool bd) = W9 at *;have HW9:=La.hr hW9
   clear hW9;refine bodyPost_ret (v:=.tuple #[.agg #[.slice a7 k c7,.bool rt,.bool bd],.bool true]) (by simp [results,Tryz.results74,go_sem,j0,j1,j2]) rfl ?_
   refine ⟨a7,c7,by rw [HQ.out.1,HQ.out.2,HBd.out,HN.out],?_,?_⟩
   ·have e:=HW9.out
    subst e;rw [HQ.out.1];refine HPa8.out.keep HNb.out.1 HNb.out.2 ?_ (fun b hb h1 h2=>?_)
    ·simp [World.setCell]
    rw [Below.heap_setCell _ _ _ _ h2,Below.heap_setCell _ _ _ _ h2,Below.heap_setCell _ _ _ _ h2,Below.heap_setCell _ _ _ _ h1]
   ·have e:=HW9.out
    subst e;exact (((hok.1.setCell (p:=⟨N,2,none⟩) (by show w.heap.size <= N; omega) _).setCell (p:=⟨w.heap.size,0,none⟩) (Nat.le_refl _) _).setCell (p:=⟨w.heap.size,1,none⟩) (Nat.le_refl _) _).setCell (p:=⟨w.heap.size,2,none⟩) (Nat.le_refl _) _
theorem read_bad {w : World} (nm : Nat) (x : ByteArray) (hx : x.size <= 5000) (hf : ¬ Ut.faultL x.data.toList < 0) :
 Calls Tryz.prog 74 #[.pointer (some ⟨nm,0,none⟩),.string x] w fun e w'=>e = .returned (.tuple #[.agg #[.slice none 0 0,.bool false,.bool false],.bool false]) ∧ Below w.heap.size w w':=by
 have HO:=La.hr ((Ok.start w).alloc (o:=.cells #[.slice none 0 0,.bool false,.bool false] 120))
 have HV0 : Hid ((w.alloc (.cells #[.slice none 0 0,.bool false,.bool false] 120)).heap[w.heap.size]? = some (.cells #[.slice none 0 0,.bool false,.bool false] 120)):=heap_new w _
 have HRu:=La.hr (Ut.runes_own x (w.alloc (.cells #[.slice none 0 0,.bool false,.bool false] 120)) (by omega));have HF:=La.hr hf
 clear hf;go_enter Tryz.func74,Tryz.ntmps74
 go_wp2_with fail;refine HRu.out.mono ?_;rintro e w1 ⟨⟨_,rfl⟩ | h,hb⟩
 ·replace HO:=La.hr (HO.out.step hb);have hW:=(hb.block w.heap.size (Array.getElem?_eq_some_iff.1 HV0.out).1).trans HV0.out
  obtain ⟨j0,j1,j2⟩:=cells3 hW
  have jz : ∀ i,w1.frozen? ⟨w.heap.size,i,none⟩ = false:=fun i=>by unfold World.frozen?; rw [hW]; rfl
  have jz0:=jz 0
  have jz1:=jz 1
  have jz2:=jz 2
  clear hb jz hW HRu;go_wp2_with fail;refine bodyPost_ret (v:=.tuple #[.agg #[.slice none 0 0,.bool false,.bool false],.bool false]) (by simp [results,Tryz.results74,go_sem,j0,j1,j2]) rfl ⟨rfl,?_⟩
  first
   | exact HO.out.1
   | exact ((HO.out.1.setCell (p:=⟨w.heap.size,0,none⟩) (Nat.le_refl _) _).setCell (p:=⟨w.heap.size,1,none⟩) (Nat.le_refl _) _).setCell (p:=⟨w.heap.size,2,none⟩) (Nat.le_refl _) _
 ·exact absurd h.1 (by have:=HF.out; omega)
def lxL (x : ByteArray) : List (List Int):=(lbL (mapP (Ut.runesL x.data.toList))).1
def rxB (x : ByteArray) : Bool:=(lbL (mapP (Ut.runesL x.data.toList))).2
def taE (x : ByteArray) : Int:=if Ut.faultL x.data.toList < 0 then seE (lxL x) (bdB (lxL x)) else 3
def taS (x : ByteArray) : ByteArray:=if Ut.faultL x.data.toList < 0 then seS (lxL x) (rxB x) (bdB (lxL x)) else ⟨#[]⟩
structure Rdy (x : ByteArray) : Prop where
 sz : x.size <= 5000
 ml : Ut.faultL x.data.toList < 0 -> (mapP (Ut.runesL x.data.toList)).length <= 900
 ll : Ut.faultL x.data.toList < 0 -> ∀ A ∈ lxL x,A.length <= 120
theorem sc_runes {x : ByteArray} (h : Ut.faultL x.data.toList < 0) : ∀ y ∈ Ut.runesL x.data.toList,Ut.scB y = true:=List.all_eq_true.1 (Ut.runesL_back _ h).2.1
theorem sc_lx {x : ByteArray} (h : Ut.faultL x.data.toList < 0) : ∀ A ∈ lxL x,∀ y ∈ A,Ut.scB y = true:=fun A hA y hy=>sc_map (sc_runes h) y ((spl_mem _ A (lb_sub hA)).2 y hy)
theorem len_lx {x : ByteArray} (h : Ut.faultL x.data.toList < 0) (hR : Rdy x) : (lxL x).length <= 1000:=by
 have h1:=hR.ml h
 have h2:=spl_len (mapP (Ut.runesL x.data.toList))
 unfold lxL lbL;split
 ·simp only [List.length_dropLast]; omega
 ·simp only []; omega
theorem read_rdy {w : World} {nm b m f c g j k p d u s : Nat} (hN : Nm w nm b m f c g j k p d u s) (hB : Bk w b) {x : ByteArray} (hR : Rdy x) :
 Calls Tryz.prog 74 #[.pointer (some ⟨nm,0,none⟩),.string x] w fun e w'=>((Ut.faultL x.data.toList < 0 ∧ ∃ ao cap,e = .returned (.tuple #[.agg #[.slice ao (lxL x).length cap,.bool (rxB x),.bool (bdB (lxL x))],.bool true]) ∧ Pa w' ao (lxL x)) ∨
  (¬ Ut.faultL x.data.toList < 0 ∧ e = .returned (.tuple #[.agg #[.slice none 0 0,.bool false,.bool false],.bool false]))) ∧ Below w.heap.size w w':=by
 by_cases hf : Ut.faultL x.data.toList < 0
 ·refine (read_any hN hB x hR.sz hf (hR.ml hf) (sc_runes hf) (hR.ll hf)).mono ?_;rintro e w' ⟨ao,cap,h1,h2,h3⟩;exact ⟨.inl ⟨hf,ao,cap,h1,h2⟩,h3⟩
 ·refine (read_bad nm x hR.sz hf).mono ?_;rintro e w' ⟨h1,h2⟩;exact ⟨.inr ⟨hf,h1⟩,h2⟩
theorem toascii_any {w : World} {nm b m f c g j k p d u s : Nat} (hN : Nm w nm b m f c g j k p d u s) (hB : Bk w b) {x : ByteArray} (hR : Rdy x) :
 Calls Tryz.prog 33 #[.pointer (some ⟨nm,0,none⟩),.string x] w fun e w'=>e = .returned (.tuple #[.string (taS x),.int .i64 (taE x)]) ∧ Below w.heap.size w w':=by
 have HO:=La.hr (Ok.start w);have HRd:=La.hr (read_rdy hN hB hR);have HSe:=La.hr (fun (W : World) (h : Below w.heap.size w W) (hf : Ut.faultL x.data.toList < 0) (ao : Option Addr) (cap : Nat) (hP : Pa W ao (lxL x))=>sent_any (cap:=cap) (hN.step h) (hB.step h) hP rfl (sc_lx hf) (hR.ll hf) (len_lx hf hR) (rxB x) (bdB (lxL x)))
 have HE : Hid (taE x = if Ut.faultL x.data.toList < 0 then seE (lxL x) (bdB (lxL x)) else 3):=rfl
 have HS : Hid (taS x = if Ut.faultL x.data.toList < 0 then seS (lxL x) (rxB x) (bdB (lxL x)) else ⟨#[]⟩):=rfl
 clear hN hB hR;generalize taE x = ee at *;generalize taS x = es at *;generalize seE (lxL x) (bdB (lxL x)) = e1 at *;generalize seS (lxL x) (rxB x) (bdB (lxL x)) = s1 at *
 generalize lxL x = Ls at *;generalize rxB x = rt at *;generalize bdB Ls = q at *;go_enter Tryz.func33,Tryz.ntmps33
 go_wp2_with fail;refine HRd.out.mono ?_;rintro e w1 ⟨⟨hf,ao,cap,rfl,hP⟩ | ⟨hf,rfl⟩,hb⟩
 ·have he:=HE.out
  rw [if_pos hf] at he;subst he;have hs:=HS.out
  rw [if_pos hf] at hs;subst hs;replace HO:=La.hr ((HO.out.step hb).alloc (o:=.cells #[.slice ao Ls.length cap,.bool rt,.bool q] 120))
  have HS1:=La.hr (HSe.out _ HO.out.1 hf ao cap (hP.step ((Below.refl _ _).alloc (Nat.le_refl _) _)));clear hb hP hf HSe HRd HE HS;go_wp2_with fail;refine HS1.out.mono ?_
  rintro e w2 ⟨rfl,hb⟩;replace HO:=La.hr (HO.out.step hb);clear hb;go_wp2_with fail;go_ret2;exact ⟨rfl,HO.out.1⟩
 ·have he:=HE.out
  rw [if_neg (by omega)] at he;subst he;have hs:=HS.out
  rw [if_neg (by omega)] at hs;subst hs;replace HO:=La.hr ((HO.out.step hb).alloc (o:=.cells #[.slice none 0 0,.bool false,.bool false] 120))
  clear hb hf HSe HRd HE HS;go_wp2_with fail;go_ret2;exact ⟨rfl,HO.out.1⟩
def wyP (x : ByteArray) : Int × Int:=if Ut.faultL x.data.toList < 0 then whF (bdB (lxL x)) 0 (lxL x) else (0,0)
theorem why_any {w : World} {nm b m f c g j k p d u s : Nat} (hN : Nm w nm b m f c g j k p d u s) (hB : Bk w b) {x : ByteArray} (hR : Rdy x) :
 Calls Tryz.prog 36 #[.pointer (some ⟨nm,0,none⟩),.string x] w fun e w'=>e = .returned (.tuple #[.int .i64 (wyP x).1,.int .i64 (wyP x).2]) ∧ Below w.heap.size w w':=by
 have HO:=La.hr (Ok.start w);have HRd:=La.hr (read_rdy hN hB hR);have HSe:=La.hr (fun (W : World) (h : Below w.heap.size w W) (hf : Ut.faultL x.data.toList < 0) (ao : Option Addr) (cap : Nat) (hP : Pa W ao (lxL x))=>labels_any (cap:=cap) (hN.step h) (hB.step h) hP rfl (sc_lx hf) (hR.ll hf) (len_lx hf hR) (rxB x) (bdB (lxL x)))
 have HE : Hid (wyP x = if Ut.faultL x.data.toList < 0 then whF (bdB (lxL x)) 0 (lxL x) else (0,0)):=rfl
 clear hN hB hR;generalize wyP x = ee at *;generalize lxL x = Ls at *;generalize rxB x = rt at *;generalize bdB Ls = q at *;generalize whF q 0 Ls = wh at *;go_enter Tryz.func36,Tryz.ntmps36
 go_wp2_with fail;refine HRd.out.mono ?_;rintro e w1 ⟨⟨hf,ao,cap,rfl,hP⟩ | ⟨hf,rfl⟩,hb⟩
 ·have he:=HE.out
  rw [if_pos hf] at he;subst he;replace HO:=La.hr ((HO.out.step hb).alloc (o:=.cells #[.slice ao Ls.length cap,.bool rt,.bool q] 120))
  have HS1:=La.hr (HSe.out _ HO.out.1 hf ao cap (hP.step ((Below.refl _ _).alloc (Nat.le_refl _) _)));clear hb hP hf HSe HRd HE;obtain ⟨i1,f1⟩:=ee
  go_wp2_with fail;refine HS1.out.mono ?_;rintro e w2 ⟨ao',n',cap',rfl,_,hb⟩;replace HO:=La.hr (HO.out.step hb);clear hb;go_wp2_with fail;go_ret2;exact ⟨rfl,HO.out.1⟩
 ·have he:=HE.out
  rw [if_neg (by omega)] at he;subst he;replace HO:=La.hr ((HO.out.step hb).alloc (o:=.cells #[.slice none 0 0,.bool false,.bool false] 120))
  clear hb hf HSe HRd HE;go_wp2_with fail;go_ret2;exact ⟨rfl,HO.out.1⟩
def shS (A : List Int) : ByteArray:=if (ptP A).all Ut.scB = true then txS (ptP A) else ⟨#[]⟩
def shL (Ls : List (List Int)) : List ByteArray:=Ls.map shS
def shV (Ls : List (List Int)) : List Value:=Ls.map (fun A=>.string (shS A))
theorem shV_next (Ls : List (List Int)) (k : Nat) (h : k < Ls.length) : shV (Ls.take (k + 1)) = shV (Ls.take k) ++ [.string (shS Ls[k])]:=by unfold shV;rw [List.take_succ_eq_append_getElem h,List.map_append]; rfl
theorem tv_sh (A : List Int) : Ut.textV (ptP A) = .string (shS A):=by unfold Ut.textV shS;split <;> rfl
theorem sh_size {A : List Int} (hA : ∀ y ∈ A,Ut.scB y = true) (hl : A.length <= 120) : (shS A).size <= 480:=by
 unfold shS;split
 ·have h1:=(pt_bd hA hl).1
  have h2:=Ut.textL_len (ptP A)
  have h3 : (txS (ptP A)).size = (Ut.textL (ptP A)).length:=by unfold txS; simp [ByteArray.size]
  omega
 ·simp [ByteArray.size]
theorem pts_any {W : World} {A : List Int} {pv : Value} (hA : ∀ y ∈ A,Ut.scB y = true) (hl : A.length <= 120) (h : PartV W A pv) :
 (∃ v,pv = .iface 251 v ∧ (∃ ao n cap,v = .slice ao n cap) ∧ Calls Tryz.prog 322 #[v] W fun e w'=>∃ x,e = .returned x ∧ Sl .i32 w' x (ptP A) ∧ Below W.heap.size W w') ∨
 (∃ t,pv = .iface 254 (.string t) ∧ Calls Tryz.prog 221 #[.string t] W fun e w'=>∃ x,e = .returned x ∧ Sl .i32 w' x (ptP A) ∧ Below W.heap.size W w') ∨
 (∃ t ao n cap,pv = .iface 253 (.agg #[.string t,.slice ao n cap]) ∧ Calls Tryz.prog 323 #[.agg #[.string t,.slice ao n cap]] W fun e w'=>∃ x,e = .returned x ∧ Sl .i32 w' x (ptP A) ∧ Below W.heap.size W w'):=by
 rcases h with ⟨v,h,hp,rfl⟩ | ⟨hp,hc,rfl⟩ | ⟨v,h,hp,hc,rfl⟩
 ·refine .inl ⟨v,rfl,?_,(pts_native v W).mono ?_⟩
  ·obtain ⟨ao,cap,rfl,_⟩:=h
   exact ⟨_,_,_,rfl⟩
  ·rintro e w' ⟨rfl,rfl⟩;exact ⟨v,rfl,by rw [pt_native hp]; exact h,Below.refl _ _⟩
 ·refine .inr (.inl ⟨_,rfl,(pts_plain hA hp hl W).mono ?_⟩)
  rintro e w' ⟨x,rfl,h1,h2⟩;exact ⟨x,rfl,by rw [pt_plain hp hc]; exact h1,h2⟩
 ·have h0:=h
  obtain ⟨ao,cap,rfl,_⟩:=h
  refine .inr (.inr ⟨_,_,_,_,rfl,(pts_coded _ _ W).mono ?_⟩)
  rintro e w' ⟨rfl,hb⟩;exact ⟨_,rfl,h0.step hb,hb⟩
end Do
end Go.Proofs.YtkhipgcgcbhjoaaGreat
