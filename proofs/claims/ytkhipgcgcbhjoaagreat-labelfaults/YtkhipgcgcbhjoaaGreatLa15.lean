import Derived.Test.YtkhipgcgcbhjoaaGreatLa14
set_option maxRecDepth 100000
set_option maxHeartbeats 4000000
namespace Go.Proofs.YtkhipgcgcbhjoaaGreat
namespace Od
open Go.RowKit
attribute [local go_sem] Oper.semAt_some
theorem sort_any {w : World} {b : Nat} {v : Value} {zs : List Int} (hB : Bk w b) (hS : Sl .i32 w v zs) (hn : zs.length <= 1000000) :
 Calls Tryz.prog 156 #[.pointer (some ⟨b,0,none⟩),v] w fun e w'=>∃ v',e = .returned v' ∧ Sl .i32 w' v' (srt clsP zs) ∧ Below w.heap.size w w':=by
 have HB:=hid hB
 have hb0 : Below w.heap.size w (w.alloc (.cells #[.pointer (some ⟨b,0,none⟩)] 29)):=(Below.refl w.heap.size w).alloc (Nat.le_refl _) _
 have HC:=hid (clone_any' v zs _ (hS.step hb0) hn);have HX0:=hid (Bx.new w (.pointer (some ⟨b,0,none⟩)) 29);have Hb0:=hid hb0
 obtain ⟨ao0,cap0,rfl,hS⟩:=hS
 clear hB hS hb0;refine (callsIn_wide (n:=6)).1 ?_
 refine callsIn_of_wp_marks Tryz.func156 rfl trivial ?_ rfl
 simp only [Tryz.ntmps156,List.size_toArray,List.length_cons,List.length_nil,Nat.reduceAdd,Nat.reduceSub,Array.replicate_succ,Array.replicate_zero,List.push_toArray,List.append_toArray,List.nil_append,List.cons_append]
 gi_wp2_with (first | (refine ⟨trivial,?_⟩; gi_at_call 227; refine (callsIn_wide.2 HC.out).mono ?_; rintro e w1 ⟨ao,cap,rfl,hb1,hcap,hnone,hrow⟩; have HI1:=hid (And.intro hb1 (And.intro hcap (And.intro hnone hrow))); clear hb1 hcap hnone hrow; have c2 : ∀ o,(w1.alloc o).cell? ⟨w.heap.size,0,none⟩ = some (.pointer (some ⟨b,0,none⟩)):=fun o=>((HX0.out.step HI1.out.1).alloc o).cell) | (refine ⟨trivial,?_⟩; gi_at_call 228; refine (callsIn_wide.2 (runs_any _ _ _ _ _)).mono ?_; rintro e w' ⟨rfl,rfl⟩))
 have HI2 : Hid (SoI w b zs ao cap w.heap.size w1.heap.size (w1.heap.size + 1 + 1) (w1.heap.size + 1) [] (((w1.alloc (.cells #[.slice ao zs.length cap] 22)).alloc (.cells #[.pointer (some ⟨b,0,none⟩)] 29)).alloc (.cells #[.slice ao zs.length cap] 22))):=by
  obtain ⟨hb1,hcap,hnone,hrow⟩:=HI1.out
  have ha1 : Below w1.heap.size w1 (((w1.alloc (.cells #[.slice ao zs.length cap] 22)).alloc (.cells #[.pointer (some ⟨b,0,none⟩)] 29)).alloc (.cells #[.slice ao zs.length cap] 22)):=(((Below.refl _ _).alloc (Nat.le_refl _) _).alloc (by simp) _).alloc (by simp; omega) _
  have s0:=Hb0.out.size
  have s1:=hb1.size
  have s2 : (w.alloc (.cells #[.pointer (some ⟨b,0,none⟩)] 29)).heap.size = w.heap.size + 1:=by simp
  refine ⟨(Hb0.out.trans (hb1.mono s0)).trans (ha1.mono (by omega)),(HX0.out.step hb1).step ha1,((Bx.new w1 _ _).alloc _).alloc _,?_,?_,?_⟩
  ·have:=Bx.new ((w1.alloc (.cells #[.slice ao zs.length cap] 22)).alloc (.cells #[.pointer (some ⟨b,0,none⟩)] 29)) (.slice ao zs.length cap) 22
   simpa using this
  ·have:=(Bx.new (w1.alloc (.cells #[.slice ao zs.length cap] 22)) (.pointer (some ⟨b,0,none⟩)) 29).alloc (.cells #[.slice ao zs.length cap] 22)
   simpa using this
  ·rcases hrow with h | ⟨g,T,h1,h2,h3⟩
   ·exact .inl h
   ·have:=h3.lt
    exact .inr ⟨g,T,zs,h1,by omega,by omega,by omega,by omega,by omega,h3.step ha1,Upto.start _ _⟩
 have hT:=runs1_tells 5 b ao cap (w1.heap.size + 1 + 1) (w1.heap.size + 1) (by omega) zs hn (((w1.alloc (.cells #[.slice ao zs.length cap] 22)).alloc (.cells #[.pointer (some ⟨b,0,none⟩)] 29)).alloc (.cells #[.slice ao zs.length cap] 22))
 have hz0 : w.heap.size <= (((w1.alloc (.cells #[.slice ao zs.length cap] 22)).alloc (.cells #[.pointer (some ⟨b,0,none⟩)] 29)).alloc (.cells #[.slice ao zs.length cap] 22)).heap.size:=HI2.out.bel.size
 clear c2 HX0 Hb0 HC;generalize (((w1.alloc (.cells #[.slice ao zs.length cap] 22)).alloc (.cells #[.pointer (some ⟨b,0,none⟩)] 29)).alloc (.cells #[.slice ao zs.length cap] 22)) = W0 at *
 have HN:=hid HI1.out.2
 clear HI1;generalize w1.heap.size = o5 at *;refine wpIn_told2 rfl (by omega) (gf:=276) (lb:=#[.pointer (some ⟨o5 + 1 + 1,0,none⟩),.pointer (some ⟨o5 + 1,0,none⟩)]) rfl trivial (enters_of Tryz.func276 (by kernel_rfl) rfl) hT (fun _=>rfl)
  (SoI w b zs ao cap w.heap.size o5 (o5 + 1 + 1) (o5 + 1)) (fun _ _=>False) (fun pre A B h hk=>h.keep hk hz0) (fun _ _ _ h _=>h) (fun pre A h=>h.ne HB.out) HI2.out
  (fun x=>{ tmps:=#[.pointer (some ⟨b,0,none⟩),.slice ao0 zs.length cap0,.pointer (some ⟨w.heap.size,0,none⟩),undef,.slice none 0 0,.pointer (some ⟨o5,0,none⟩),.int .i64 (x.1 : Int),.int .i64 (x.2 : Int),.slice ao0 zs.length cap0,.slice ao zs.length cap,.pointer (some ⟨b,0,none⟩),.slice ao zs.length cap,.func (.func 276) #[] #[.pointer (some ⟨o5 + 1 + 1,0,none⟩),.pointer (some ⟨o5 + 1,0,none⟩)],.int .i64 (x.1 : Int),.int .i64 (x.2 : Int),undef,undef,undef,undef,undef,undef,undef,undef],defers:=[] }) ?assign ?body ?done ?stop
 case assign =>
  intro l x W K hK
  have e : (#[13,14].zip (toldR x)).foldl (fun (t : Array Value) (p : Nat × Value)=>t.setIfInBounds p.1 p.2) #[.pointer (some ⟨b,0,none⟩),.slice ao0 zs.length cap0,.pointer (some ⟨w.heap.size,0,none⟩),undef,.slice none 0 0,.pointer (some ⟨o5,0,none⟩),undef,undef,.slice ao0 zs.length cap0,.slice ao zs.length cap,.pointer (some ⟨b,0,none⟩),.slice ao zs.length cap,.func (.func 276) #[] #[.pointer (some ⟨o5 + 1 + 1,0,none⟩),.pointer (some ⟨o5 + 1,0,none⟩)],undef,undef,undef,undef,undef,undef,undef,undef,undef,undef] = #[.pointer (some ⟨b,0,none⟩),.slice ao0 zs.length cap0,.pointer (some ⟨w.heap.size,0,none⟩),undef,.slice none 0 0,.pointer (some ⟨o5,0,none⟩),undef,undef,.slice ao0 zs.length cap0,.slice ao zs.length cap,.pointer (some ⟨b,0,none⟩),.slice ao zs.length cap,.func (.func 276) #[] #[.pointer (some ⟨o5 + 1 + 1,0,none⟩),.pointer (some ⟨o5 + 1,0,none⟩)],.int .i64 (x.1 : Int),.int .i64 (x.2 : Int),undef,undef,undef,undef,undef,undef,undef,undef]:=by simp [toldR]
  rw [e];gi_wp2
  exact hK
 case body =>
  rintro l pre ⟨f,t⟩ W hI hR;clear hT;have hID : SoI w b zs ao cap w.heap.size o5 (o5 + 1 + 1) (o5 + 1) pre W.drew:=hI.keep (Kc.of_below ((Below.refl _ _).drew)) (Nat.le_refl _)
  obtain ⟨g,rfl,hrun⟩:=hID.run HB.out hn hR
  have HRun : Hid (∀ cap',Calls Tryz.prog 229 #[.slice (some ⟨g,f,none⟩) (t - f) cap',.func (.func 278) #[] #[.pointer (some ⟨W.drew.heap.size,0,none⟩)]] (W.drew.alloc (.cells #[.pointer (some ⟨b,0,none⟩)] 29)) fun e w'=>e = .returned (.tuple #[]) ∧ Hid (goesR W0.heap.size (SoI w b zs (some ⟨g,0,none⟩) cap w.heap.size o5 (o5 + 1 + 1) (o5 + 1)) (fun _ _=>False) (pre ++ [(f,t)]) W .normal { tmps:=#[],defers:=[] } w')):=fun cap'=>by refine (hrun _ _ rfl rfl cap').mono ?_;rintro e w' ⟨he,h1,h2⟩;exact ⟨he,⟨h2.size,fun k o hk=>h2.same k o (by omega)⟩,h1⟩
  have c5:=hID.b5.cell
  have c2:=hID.b2.cell
  have c5a : ∀ o,(W.drew.alloc o).cell? ⟨o5,0,none⟩ = some (.slice (some ⟨g,0,none⟩) zs.length cap):=fun o=>(hID.b5.alloc o).cell
  have q1 : f < t:=hR.2.1
  have q2 : t <= zs.length:=hR.2.2.1
  have q3:=HN.out.1
  have hmx : Tryz.prog.follows .mixedOrders = true:=by kernel_rfl
  have c5b : ∀ o,(W.alloc o).drew.cell? ⟨o5,0,none⟩ = some (.slice (some ⟨g,0,none⟩) zs.length cap):=fun o=>c5a o
  clear hrun hID hI hR HI2 HN;gi_wp2_with fail
  refine region_round (F:=Fence.wide) l hmx (by kernel_rfl) ?_
  refine wpAnyIn_take (i:=1) (v:=.int .i64 (f : Int)) rfl rfl (by kernel_rfl) (by kernel_rfl) (by kernel_rfl) (fun _ _ _ h=>h) ⟨Or.inl ⟨by rfl,by (intro w; go_simp)⟩,fun _=>rfl⟩ ?_
  refine wpAnyIn_take (i:=2) (v:=.int .i64 (t : Int)) rfl rfl (by kernel_rfl) (by kernel_rfl) (by kernel_rfl) (fun _ _ _ h=>h) ⟨Or.inl ⟨by rfl,by (intro w; go_simp)⟩,fun _=>rfl⟩ ?_
  refine wpAnyIn_ready (rs:=[0,4]) (by kernel_rfl) (by simp) ?_
  refine AllReadyIn.cons rfl (fun K hK=>?_) ?_
  ·go_simp
   refine hK _ _ ?_
   clear hK K;refine wpAnyIn_take (i:=3) (v:=.slice (some ⟨g,f,none⟩) (t - f) (cap - f)) rfl rfl (by kernel_rfl) (by kernel_rfl) (by kernel_rfl) (fun _ _ _ h=>h) ⟨Or.inl ⟨by rfl,by (intro w; go_simp; rw [if_pos (by omega),if_pos (by omega),if_neg (by omega)])⟩,fun _=>rfl⟩ ?_
   refine wpAnyIn_ready (rs:=[4]) (by kernel_rfl) (by simp) ?_
   refine AllReadyIn.cons rfl (fun K hK=>?_) ?_
   ·go_simp
    refine hK _ _ ?_
    clear hK K;refine wpAnyIn_ready (rs:=[5]) (by kernel_rfl) (by simp) ?_
    refine AllReadyIn.cons rfl (fun K hK=>?_) ?_
    ·go_simp
     gi_wp2_with (first | (refine ⟨trivial,?_⟩; gi_at_call 230; refine (callsIn_wide.2 (byc_any _ _)).mono ?_; rintro e W3 ⟨rfl,rfl⟩))
     try (refine hK _ _ ?_; clear hK K)
     refine wpAnyIn_ready (rs:=[6]) (by kernel_rfl) (by simp) ?_
     refine AllReadyIn.cons rfl (fun K hK=>?_) AllReadyIn.nil
     go_simp
     gi_wp2_with (first | (refine ⟨trivial,?_⟩; gi_at_call 229; refine (callsIn_wide.2 (HRun.out _)).mono ?_; rintro e W4 ⟨rfl,hend⟩))
     try (refine hK _ _ ?_; clear hK K)
     refine wpAnyIn_done (by kernel_rfl) ?_ _
     exact hend.out
    exact AllReadyIn.nil
   exact AllReadyIn.nil
  refine AllReadyIn.cons rfl (fun K hK=>?_) ?_
  ·go_simp
   refine hK _ _ ?_
   clear hK K;refine wpAnyIn_ready (rs:=[0,5]) (by kernel_rfl) (by simp) ?_
   refine AllReadyIn.cons rfl (fun K hK=>?_) ?_
   ·go_simp
    refine hK _ _ ?_
    clear hK K;refine wpAnyIn_take (i:=3) (v:=.slice (some ⟨g,f,none⟩) (t - f) (cap - f)) rfl rfl (by kernel_rfl) (by kernel_rfl) (by kernel_rfl) (fun _ _ _ h=>h) ⟨Or.inl ⟨by rfl,by (intro w; go_simp; rw [if_pos (by omega),if_pos (by omega),if_neg (by omega)])⟩,fun _=>rfl⟩ ?_
    refine wpAnyIn_ready (rs:=[5]) (by kernel_rfl) (by simp) ?_
    refine AllReadyIn.cons rfl (fun K hK=>?_) ?_
    ·go_simp
     gi_wp2_with (first | (refine ⟨trivial,?_⟩; gi_at_call 230; refine (callsIn_wide.2 (byc_any _ _)).mono ?_; rintro e W3 ⟨rfl,rfl⟩))
     try (refine hK _ _ ?_; clear hK K)
     refine wpAnyIn_ready (rs:=[6]) (by kernel_rfl) (by simp) ?_
     refine AllReadyIn.cons rfl (fun K hK=>?_) AllReadyIn.nil
     go_simp
     gi_wp2_with (first | (refine ⟨trivial,?_⟩; gi_at_call 229; refine (callsIn_wide.2 (HRun.out _)).mono ?_; rintro e W4 ⟨rfl,hend⟩))
     try (refine hK _ _ ?_; clear hK K)
     refine wpAnyIn_done (by kernel_rfl) ?_ _
     exact hend.out
    exact AllReadyIn.nil
   refine AllReadyIn.cons rfl (fun K hK=>?_) ?_
   ·go_simp
    gi_wp2_with (first | (refine ⟨trivial,?_⟩; gi_at_call 230; refine (callsIn_wide.2 (byc_any _ _)).mono ?_; rintro e W3 ⟨rfl,rfl⟩))
    try (refine hK _ _ ?_; clear hK K)
    refine wpAnyIn_ready (rs:=[0]) (by kernel_rfl) (by simp) ?_
    refine AllReadyIn.cons rfl (fun K hK=>?_) ?_
    ·go_simp
     refine hK _ _ ?_
     clear hK K;refine wpAnyIn_take (i:=3) (v:=.slice (some ⟨g,f,none⟩) (t - f) (cap - f)) rfl rfl (by kernel_rfl) (by kernel_rfl) (by kernel_rfl) (fun _ _ _ h=>h) ⟨Or.inl ⟨by rfl,by (intro w; go_simp; rw [if_pos (by omega),if_pos (by omega),if_neg (by omega)])⟩,fun _=>rfl⟩ ?_
     refine wpAnyIn_ready (rs:=[6]) (by kernel_rfl) (by simp) ?_
     refine AllReadyIn.cons rfl (fun K hK=>?_) AllReadyIn.nil
     go_simp
     gi_wp2_with (first | (refine ⟨trivial,?_⟩; gi_at_call 229; refine (callsIn_wide.2 (HRun.out _)).mono ?_; rintro e W4 ⟨rfl,hend⟩))
     try (refine hK _ _ ?_; clear hK K)
     refine wpAnyIn_done (by kernel_rfl) ?_ _
     exact hend.out
    exact AllReadyIn.nil
   exact AllReadyIn.nil
  exact AllReadyIn.nil
 case done =>
  rintro D xs W hD hS hI hK;clear hT;have c5:=hI.b5.cell
  have HI:=hid hI
  clear hI;gi_wp2
  refine ⟨by simp,.inl ⟨_,_,rfl,run_takeDeferred hK,?_⟩⟩
  refine ⟨_,results_tmp rfl _ _ _,?_⟩
  have hI:=HI.out.keep (Kc.grown (N:=W0.heap.size) (grownBy_putObj' W D (.deferred none)) (fun r e=>by cases e; exact ⟨hD,_,hK,rfl⟩)) hz0
  refine ⟨.slice ao zs.length cap,rfl,?_,hI.bel⟩
  have hlen : (srt clsP zs).length = zs.length:=(sw_srt clsP zs).len
  refine ⟨ao,cap,by rw [hlen],by rw [hlen]; exact HN.out.1,fun e=>by rw [hlen]; exact HN.out.2.1 e,fun j hj=>?_⟩
  rcases hI.row with h | ⟨g,T,R,h1,h2,_,_,_,_,h7,h8⟩
  ·subst h; simp [srt] at hj
  ·have hR:=h8.fin hS
   subst hR;refine ⟨g,0,h1,h7.lt,?_⟩
   rw [Nat.zero_add];exact h7.cell _ _ (List.getElem?_eq_getElem hj)
 case stop=>intro D xs W _ h; exact h.elim
theorem run_index_agg {P : Program} (w : World) (t e : TypeId) (n : Nat) (ty : TypeInfo) (cs : Array Value) (k : IntKind) (i : Nat) (ht : P.underlying t = some (.array n e)) (hi : P.info? e = some ty) (h : i < n) :
 (Instr.index t (.agg cs) (.int k (i : Int))).run P w = (part e cs (i * ty.size)).run P w:=by
 simp [Instr.index,asIntOf,run_underlying ht,sizeOf,typeInfo,hi]
 intro hn
 omega
theorem cls_row (r : Int) : clsP r = (Uc.rrowP r).2.2.2.2.2.1:=by unfold clsP;rw [Uc.book_tells r];rfl
theorem rcls_any (r : Int) (w : World) : Calls Tryz.prog 245 #[.int .i64 r] w fun e w'=>e = .returned (.int .i64 (clsP r)) ∧ Below w.heap.size w w':=by
 have HR:=hid (Uc.rrow_any r w);have HE:=hid (cls_row r);generalize Uc.rrowP r = x at *;obtain ⟨x1,x2,x3,x4,x5,x6,x7⟩:=x
 simp only [Uc.rlv,Uc.rcells7] at HR HE
 obtain ⟨i0,hi,hz0,hz1,hz2⟩:=info_parts Tryz.info_i64
 have hidx : ∀ w,(Instr.index 169 (.agg #[.int .i64 x1,.int .i64 x2,.int .i64 x3,.int .i64 x4,.int .i64 x5,.int .i64 x6,.int .i64 x7]) (.int .i64 5)).run Tryz.prog w = .ok (.int .i64 x6) w:=fun w=>by
  have:=run_index_agg (P:=Tryz.prog) w 169 3 7 i0 #[.int .i64 x1,.int .i64 x2,.int .i64 x3,.int .i64 x4,.int .i64 x5,.int .i64 x6,.int .i64 x7] .i64 5 Tryz.underlying169 hi (by omega)
  refine this.trans ?_
  rw [hz1];simp [part,isAgg,run_underlying Tryz.underlying3]
 clear hi hz0 hz1 hz2;go_enter Tryz.func245,Tryz.ntmps245
 go_wp2_with (go_at_call 112; refine HR.out.mono ?_; rintro e w1 ⟨rfl,hb⟩)
 go_ret;exact ⟨ret_int HE.out.symm,hb⟩
def Blq (w : World) (b : Nat) (R : List Int) (T : List Value) : Prop:=w.heap[b]? = some (.cells (ivs .i64 R ++ T).toArray 3)
theorem Blq.lt {w : World} {b : Nat} {R : List Int} {T : List Value} (h : Blq w b R T) : b < w.heap.size:=(Array.getElem?_eq_some_iff.1 h).1
theorem Blq.cell {w : World} {b : Nat} {R : List Int} {T : List Value} (h : Blq w b R T) (k : Nat) (v : Int) (hk : R[k]? = some v) : w.cell? ⟨b,k,none⟩ = some (.int .i64 v):=by
 have h' : w.heap[b]? = _:=h
 have hlt : k < R.length:=(List.getElem?_eq_some_iff.1 hk).1
 simp only [World.cell?,h',List.getElem?_toArray]
 rw [List.getElem?_append_left (by rw [ivs_len]; exact hlt)]
 simp [ivs,hk]
theorem Blq.frozen {w : World} {b : Nat} {R : List Int} {T : List Value} (h : Blq w b R T) (k : Nat) : w.frozen? ⟨b,k,none⟩ = false:=by
 have h' : w.heap[b]? = _:=h
 simp [World.frozen?,h']
theorem Blq.set {w : World} {b : Nat} {R : List Int} {T : List Value} (h : Blq w b R T) (k : Nat) (v : Int) (hk : k < R.length) : Blq (w.setCell ⟨b,k,none⟩ (.int .i64 v)) b (R.set k v) T:=by
 have h' : w.heap[b]? = _:=h
 have e : (ivs .i64 R ++ T).set k (.int .i64 v) = ivs .i64 (R.set k v) ++ T:=by
  rw [List.set_append_left _ _ (by rw [ivs_len]; exact hk)]
  simp [ivs,List.map_set]
 simp [Blq,World.setCell,Array.getElem?_modify,h',e]
theorem Blq.other {w : World} {b g : Nat} {R : List Int} {T : List Value} (h : Blq w b R T) (k : Nat) (v : Value) (hg : b ≠ g) : Blq (w.setCell ⟨g,k,none⟩ v) b R T:=(Below.heap_setCell _ _ _ _ hg).trans h
theorem Blq.step {w w' : World} {b : Nat} {R : List Int} {T : List Value} (h : Blq w b R T) (hb : Below w.heap.size w w') : Blq w' b R T:=(hb.block b h.lt).trans h
theorem Blq.sl {w : World} {b : Nat} {R : List Int} {T : List Value} (h : Blq w b R T) (cap : Nat) (hc : R.length <= cap) : Sn .i64 w (.slice (some ⟨b,0,none⟩) R.length cap) R :=
 ⟨_,cap,rfl,hc,fun e=>(by cases e),fun j hj=>⟨b,0,rfl,h.lt,by rw [Nat.zero_add]; exact h.cell _ _ (List.getElem?_eq_getElem hj)⟩⟩
theorem own_blq {w : World} {B : Nat} {v : Value} {l : List Int} (h : w.ownsRow B 3 1 v l.length (ivs .i64 l)) (hs : isSome v) : ∃ g cap T,v = .slice (some ⟨g,0,none⟩) l.length cap ∧ l.length <= cap ∧ B <= g ∧ Blq w g l T:=by
 rcases h.2 with ⟨h1,h2⟩ | ⟨g,cap,cur,rfl,h2,h3,h4,h5,h6,h7⟩
 ·rw [h1] at hs; exact hs.elim
 ·refine ⟨g,cap,cur.toList.drop l.length,rfl,h4,h2,?_⟩
  show w.heap[g]? = _
  rw [h3];have e3 : (ivs .i64 l ++ cur.toList.drop l.length).toArray = cur:=by
   have h10 : cur.toList.take l.length = ivs .i64 l:=by simpa using h7
   rw [<- h10,List.take_append_drop]
  rw [e3]
structure RsW (w : World) (g gc : Nat) (T Tc : List Value) (cur : List Int) (W : World) : Prop where
 ne : g ≠ gc
 lo : w.heap.size <= g ∧ w.heap.size <= gc
 o : Blq W g cur T
 c : Blq W gc (cur.map clsP) Tc
 ok : Ok w.heap.size w W
theorem RsW.swap {w : World} {g gc : Nat} {T Tc : List Value} {A B : List Int} {x y : Int} {W : World} (h : RsW w g gc T Tc (A ++ x :: y :: B) W) (p q : Nat) (hp : p = A.length) (hq : q = A.length + 1) :
 RsW w g gc T Tc (A ++ y :: x :: B) ((((W.setCell ⟨g,q,none⟩ (.int .i64 x)).setCell ⟨gc,q,none⟩ (.int .i64 (clsP x))).setCell ⟨g,p,none⟩ (.int .i64 y)).setCell ⟨gc,p,none⟩ (.int .i64 (clsP y))):=by
 have e1 : ((A ++ x :: y :: B).set q x).set p y = A ++ y :: x :: B:=by
  have:=set_swap A [] B x y p q hp (by simpa using hq)
  rw [List.set_comm _ _ (by omega)];simpa using this
 have e2 : (((A ++ x :: y :: B).map clsP).set q (clsP x)).set p (clsP y) = (A ++ y :: x :: B).map clsP:=by rw [<- List.map_set,<- List.map_set,e1]
 refine ⟨h.ne,h.lo,?_,?_,?_⟩
 ·have:=((((h.o.set q x (by simp; omega)).other q (.int .i64 (clsP x)) h.ne).set p y (by simp; omega)).other p (.int .i64 (clsP y)) h.ne)
  rwa [e1] at this
 ·have:=((((h.c.other q (.int .i64 x) (Ne.symm h.ne)).set q (clsP x) (by simp; omega)).other p (.int .i64 y) (Ne.symm h.ne)).set p (clsP y) (by simp; omega))
  rwa [e2] at this
 ·have hb:=((((h.ok.1.setCell (p:=⟨g,q,none⟩) h.lo.1 (.int .i64 x)).setCell (p:=⟨gc,q,none⟩) h.lo.2 (.int .i64 (clsP x))).setCell (p:=⟨g,p,none⟩) h.lo.1 (.int .i64 y)).setCell (p:=⟨gc,p,none⟩) h.lo.2 (.int .i64 (clsP y)))
  exact ⟨hb,by simpa [World.setCell] using h.ok.2⟩
theorem RsW.drew {w : World} {g gc : Nat} {T Tc : List Value} {cur : List Int} {W : World} (h : RsW w g gc T Tc cur W) : RsW w g gc T Tc cur W.drew:=⟨h.ne,h.lo,h.o,h.c,h.ok.step ((Below.refl _ _).drew)⟩
theorem app_all {ops : Array Oper} {rest : List Oper} {o : Oper} {a : Act} {Q : Exit -> Act -> World -> Prop} (hgd : o.guard = none) (s x : Operand)
 (ho : o.op = .call { callee:=.builtin .append,args:=#[s,x],argTypes:=#[33,33] }) (W : World) (B : Nat) (v : Value) (ad : Addr) (cap : Nat) (xs zs : List Int) (hs : a.eval s = v) (hx : a.eval x = .slice (some ad) zs.length cap)
 (hown : W.ownsRow B 3 1 v xs.length (ivs .i64 xs)) (hsv : isSome v) (hz : SlP .i64 W (some ad) cap zs) (hn : xs.length + zs.length <= 1000000000) (hB : B <= W.heap.size)
 (h : ∀ v' w',w'.ownsRow B 3 1 v' (xs ++ zs).length (ivs .i64 (xs ++ zs)) -> isSome v' -> Below B W w' -> (∀ k,k < W.heap.size -> v.ownBlock ≠ some k -> w'.heap[k]? = W.heap[k]?) -> wpList Tryz.prog ops Q rest (a.put o.dst v') w') :
 wpList Tryz.prog ops Q (o :: rest) a W:=by
 obtain ⟨i0,hi,hz0,hz1,hz2⟩:=info_parts Tryz.info_i64
 refine wpList_append_own_at _ hgd s x 33 ho B 3 i0 (.int .i64 0) 1 8 Tryz.underlying33 hi hz0 hz1 hz2 rfl (by decide) v xs.length (ivs .i64 xs) hs hown ad zs.length cap (ivs .i64 zs) hx (by rw [ivs_len]; omega)
  (fun j u hj=>?_) (fun u hu=>by simp [ivs] at hu; obtain ⟨z,_,rfl⟩:=hu; rfl) (by unfold maxLen; omega) (by omega) hB (fun v' w' h1 h2 h3 _=>h v' w' ?_ ?_ (below_of_grown h2 B hB (fun k e=>(hown.lt k e).1)) (fun k hk hne=>h2.block k hk (fun e=>hne e.symm)))
 ·have hlt : j < zs.length:=by
   have:=(List.getElem?_eq_some_iff.1 hj).1
   rwa [ivs_len] at this
  obtain ⟨b,off,e,hb,hc⟩:=hz.at_ j hlt
  simp at e
  subst e;have e2 : (⟨b,off,none⟩ : Addr).add j = ⟨b,off + j,none⟩:=by unfold Addr.add; split <;> simp_all
  rw [e2,hc];simp [ivs,hlt] at hj
  rw [hj]
 ·have e : ivs .i64 xs ++ ivs .i64 zs = ivs .i64 (xs ++ zs):=by simp [ivs]
  rw [List.length_append,<- e]; exact h1
 ·rcases h1.2 with ⟨e1,_⟩ | ⟨g,cap',cur,rfl,_⟩
  ·rw [(h3.1 e1).1] at hsv; exact hsv.elim
  ·trivial
theorem rsort_any {w : World} {v : Value} {zs : List Int} (hS : Sn .i64 w v zs) (hn : zs.length <= 1000000) :
 Calls Tryz.prog 179 #[v] w fun e w'=>∃ v',e = .returned v' ∧ Sn .i64 w' v' (srt clsP zs) ∧ Below w.heap.size w w':=by
 obtain ⟨ad,cap,rfl,hS⟩:=hS
 have HS:=hid hS
 clear hS;have HO : Hid ((w.alloc (.cells #[] 3)).ownsRow w.heap.size 3 1 (.slice (some ⟨w.heap.size,0,none⟩) 0 0) 0 []):=World.ownsRow_made w #[] 0 (Nat.le_refl _) (by unfold maxLen; omega) rfl
 have hok:=hid ((Ok.start w).alloc (o:=.cells #[] 3))
 have HCl:=hid (fun r w=>rcls_any r w)
 go_enter Tryz.func179,Tryz.ntmps179
 go_wp2_with (at_builtin; refine app_all rfl (.tmp 11) (.tmp 12) rfl _ w.heap.size _ ad cap [] zs rfl rfl HO.out trivial (HS.out.step ((Below.refl _ _).alloc (Nat.le_refl _) _)) (by simp; omega) hok.out.2 (fun v' w1 h1 h2 h3 _=>?_); obtain ⟨g,capo,T,rfl,hcapo,hgo,hBo⟩:=own_blq h1 h2; have H1 : Hid (Blq w1 g zs T ∧ w.heap.size <= g ∧ Ok w.heap.size w w1 ∧ zs.length <= capo):=⟨hBo,hgo,ok_below h3 hok.out,hcapo⟩; clear h1 h2 h3 hcapo hgo hBo)
 clear HO hok HS;have HO : Hid ((w1.alloc (.cells #[] 3)).ownsRow w1.heap.size 3 1 (.slice (some ⟨w1.heap.size,0,none⟩) 0 0) 0 []):=World.ownsRow_made w1 #[] 0 (Nat.le_refl _) (by unfold maxLen; omega) rfl
 have hok:=hid ((Ok.start w1).alloc (o:=.cells #[] 3))
 go_loopg [4,5] zs.length (fun gg vo vi wr=>∃ k : Nat,vi = .int .i64 k ∧ k <= zs.length ∧ gg = zs.length - k ∧ Hid (wr.ownsRow w1.heap.size 3 1 vo k (ivs .i64 ((zs.take k).map clsP)) ∧ Ok w1.heap.size w1 wr ∧ isSome vo))
 case atStart=>exact ⟨0,rfl,Nat.zero_le _,rfl,HO.out,hok.out,trivial⟩
 case round =>
  obtain ⟨k,rfl,hk,hg,H⟩:=hrel
  have HG:=hid hg
  clear hg HO hok;by_cases hlt : k < zs.length
  ·have hc:=(H1.out.1.step (H.out.2.1.1)).cell k zs[k] (List.getElem?_eq_getElem hlt)
   have HT : Hid (ivs .i64 ((zs.take (k + 1)).map clsP) = ivs .i64 ((zs.take k).map clsP) ++ [.int .i64 (clsP zs[k])]):=by show _ = _; rw [List.take_succ_eq_append_getElem hlt,List.map_append,List.map_cons,List.map_nil,ivs_snoc]
   have HC1:=hid (fun W=>HCl.out zs[k] W)
   generalize clsP zs[k] = cz at *;generalize zs[k] = z at *;go_wp2_with (first | (go_at_call 245; refine (HC1.out _).mono ?_; rintro e w2 ⟨rfl,hb2⟩; have H2 : Hid (w2.ownsRow w1.heap.size 3 1 _ k _ ∧ Ok w1.heap.size w1 w2 ∧ isSome _):=⟨Uc.own_below H.out.1 hb2,H.out.2.1.step hb2,H.out.2.2⟩; clear hb2) | (at_builtin; refine app_i64 rfl (.tmp 21) (.tmp 27) rfl w2 w1.heap.size k _ _ cz rfl w2.heap.size rfl rfl H2.out.1 (by omega) H2.out.2.1.2 (fun v' w' h1 h2=>?_)))
   have H3 : Hid (w'.ownsRow w1.heap.size 3 1 v' (k + 1) (ivs .i64 ((zs.take (k + 1)).map clsP)) ∧ Ok w1.heap.size w1 w' ∧ isSome v'):=⟨by rw [HT.out]; exact h1,ok_below h2 H2.out.2.1,own_some h1 (Nat.succ_pos k)⟩
   clear h1 h2;go_roundg (zs.length - (k + 1))
   case measure=>rw [HG.out]; omega
   case rel=>exact ⟨k + 1,by go_num,by omega,rfl,H3.out⟩
  ·have e : k = zs.length:=by omega
   subst e;obtain ⟨gc,capc,Tc,hvo,hcapc,HR⟩ : ∃ gc capc Tc,u4 = .slice (some ⟨gc,0,none⟩) zs.length capc ∧ zs.length <= capc ∧ Hid (RsW w g gc T Tc zs wr):=by
    obtain ⟨h1,h2,h3⟩:=H.out
    rw [List.take_length] at h1;have h1' : wr.ownsRow w1.heap.size 3 1 u4 (zs.map clsP).length (ivs .i64 (zs.map clsP)):=by rw [List.length_map]; exact h1
    obtain ⟨gc,capc,Tc,e1,e2,e3,e4⟩:=own_blq h1' h3
    rw [List.length_map] at e1 e2
    have:=H1.out.1.lt
    have hs:=H1.out.2.2.1.1.size
    refine ⟨gc,capc,Tc,e1,e2,by omega,⟨H1.out.2.1,by omega⟩,H1.out.1.step h2.1,e4,H1.out.2.2.1.step h2.1⟩
   subst hvo;clear H HG;go_wp2_with fail;go_loopg [6,7,8,9] zs.length (fun gg vk _ _ _ wr=>∃ k : Nat,vk = .int .i64 k ∧ k <= zs.length ∧ gg = zs.length - k ∧ Hid (RsW w g gc T Tc (itp clsP k zs) wr))
   case atStart=>exact ⟨0,rfl,Nat.zero_le _,rfl,HR.out⟩
   case round =>
    clear HR;obtain ⟨k,rfl,hk,hg,H⟩:=hrel
    have HG:=hid hg
    clear hg;have HLn:=hid ((sw_itp clsP k zs).len);have HIt:=hid (itp_succ clsP k zs);by_cases hlt : k < zs.length
    ·generalize itp clsP k zs = cur at *;obtain ⟨x0,l0,rfl⟩ : ∃ x l,cur = x :: l:=by
      cases cur with
      | nil=>have:=HLn.out; simp at this; omega
      | cons x l=>exact ⟨x,l,rfl⟩
     go_wp2_with fail;go_loopg [7,8,9] zs.length (fun g2 vi _ _ wr=>∃ i : Nat,vi = .int .i64 i ∧ 1 <= i ∧ i <= zs.length ∧ g2 = zs.length - i + 1 ∧ Hid (∃ A x rest,A.length + 1 = i ∧ RsW w g gc T Tc (A ++ x :: rest) wr ∧ A ++ bub clsP x rest = bub clsP x0 l0 ∧ (A ++ x :: rest).length = zs.length))
     case atStart=>exact ⟨1,rfl,Nat.le_refl _,by omega,by omega,[],x0,l0,rfl,H.out,rfl,HLn.out⟩
     case round =>
      clear H;obtain ⟨i,rfl,hi1,hi2,hg2,H2⟩:=hrel
      have HG2:=hid hg2
      clear hg2;by_cases hlt2 : i < zs.length
      ·obtain ⟨ip,rfl⟩ : ∃ ip,i = ip + 1:=⟨i - 1,by omega⟩
       obtain ⟨A,x,y,rest,H3⟩ : ∃ A x y rest,Hid (A.length = ip ∧ RsW w g gc T Tc (A ++ x :: y :: rest) wr ∧ A ++ bub clsP x (y :: rest) = bub clsP x0 l0 ∧ (A ++ x :: y :: rest).length = zs.length):=by
        obtain ⟨A,x,rest,e1,e2,e3,e4⟩:=H2.out
        cases rest with
        | nil=>simp at e4; omega
        | cons y rest=>exact ⟨A,x,y,rest,by omega,e2,e3,e4⟩
       clear H2;have k1 : (A ++ x :: y :: rest)[ip]? = some x:=by rw [<- H3.out.1]; simp
       have k2 : (A ++ x :: y :: rest)[ip + 1]? = some y:=by rw [<- H3.out.1]; simp
       have c1:=H3.out.2.1.o.cell ip x k1
       have c2:=H3.out.2.1.o.cell (ip + 1) y k2
       have d1:=H3.out.2.1.c.cell ip (clsP x) (by rw [List.getElem?_map,k1]; rfl)
       have d2:=H3.out.2.1.c.cell (ip + 1) (clsP y) (by rw [List.getElem?_map,k2]; rfl)
       have c1d : wr.drew.cell? ⟨g,ip,none⟩ = some (.int .i64 x):=c1
       have c2d : wr.drew.cell? ⟨g,ip + 1,none⟩ = some (.int .i64 y):=c2
       have d1d : wr.drew.cell? ⟨gc,ip,none⟩ = some (.int .i64 (clsP x)):=d1
       have d2d : wr.drew.cell? ⟨gc,ip + 1,none⟩ = some (.int .i64 (clsP y)):=d2
       have HW:=hid H3.out.2.1
       clear k1 k2;have z1 : (ip : Int) + 1 < (zs.length : Int):=by omega
       have z2 : (ip : Int) < (zs.length : Int):=by omega
       have hwp : IntKind.i64.wrap (ip : Int) = (ip : Int):=by rw [IntKind.wrap_i64]; omega
       have p0 : (0 : Int) <= (ip : Int) + 1:=by omega
       have e0 : ((ip : Int) + 1).toNat = ip + 1:=by omega
       have hy0:=(cls_bd y).1
       have hne:=HW.out.ne
       have hne':=Ne.symm hne
       have fg:=fun k=>HW.out.o.frozen k
       have fc:=fun k=>HW.out.c.frozen k
       by_cases hc : 0 < clsP y ∧ clsP y < clsP x
       ·have HSW:=hid ((HW.out.swap ip (ip + 1) H3.out.1.symm (by rw [H3.out.1])).drew.drew);have HBub : Hid (A ++ [y] ++ bub clsP x rest = bub clsP x0 l0):=by
         show _ = _;rw [<- H3.out.2.2.1];simp only [bub]
         rw [if_pos hc];simp
        have hc1 : ¬ clsP y = 0:=by omega
        have hc2 : clsP y < clsP x:=hc.2
        have hc3 : (clsP y != 0) = true:=by simpa using hc1
        clear hc hy0;generalize clsP y = cy at *;generalize clsP x = cx at *;go_wp2_with fail;go_region
        go_wp2_with fail;go_region
        go_wp2_with fail;go_roundg (zs.length - (ip + 1 + 1) + 1)
        case measure=>rw [HG2.out]; omega
        case rel=>exact ⟨ip + 1 + 1,by go_num,by omega,by omega,rfl,A ++ [y],x,rest,by rw [List.length_append,H3.out.1]; rfl,by simpa using HSW.out,HBub.out,by have:=H3.out.2.2.2; simp at this ⊢; omega⟩
       ·have HSW:=hid HW.out.drew
        have HBub : Hid (A ++ [x] ++ bub clsP y rest = bub clsP x0 l0):=by
         show _ = _;rw [<- H3.out.2.2.1];simp only [bub]
         rw [if_neg hc];simp
        by_cases hc1 : clsP y = 0
        ·have hc3 : (clsP y != 0) = false:=by simpa using hc1
         clear hc hy0;rw [hc1] at d2 d2d
         clear hc3 hc1;generalize clsP x = cx at *;go_wp2_with fail;go_region
         go_wp2_with fail;go_roundg (zs.length - (ip + 1 + 1) + 1)
         case measure=>rw [HG2.out]; omega
         case rel=>exact ⟨ip + 1 + 1,by go_num,by omega,by omega,rfl,A ++ [x],y,rest,by rw [List.length_append,H3.out.1]; rfl,by simpa using HSW.out,HBub.out,by have:=H3.out.2.2.2; simp at this ⊢; omega⟩
        ·have hc3 : (clsP y != 0) = true:=by simpa using hc1
         have hc2 : ¬ clsP y < clsP x:=by omega
         have hc4 : decide (clsP y < clsP x) = false:=decide_eq_false hc2
         clear hc hy0;generalize clsP y = cy at *;generalize clsP x = cx at *;go_wp2_with fail;go_region
         go_wp2_with fail;go_roundg (zs.length - (ip + 1 + 1) + 1)
         case measure=>rw [HG2.out]; omega
         case rel=>exact ⟨ip + 1 + 1,by go_num,by omega,by omega,rfl,A ++ [x],y,rest,by rw [List.length_append,H3.out.1]; rfl,by simpa using HSW.out,HBub.out,by have:=H3.out.2.2.2; simp at this ⊢; omega⟩
      ·have H3 : Hid (RsW w g gc T Tc (itp clsP (k + 1) zs) wr):=by
        obtain ⟨A,x,rest,e1,e2,e3,e4⟩:=H2.out
        have : rest = []:=List.eq_nil_of_length_eq_zero (by simp at e4; omega)
        subst this;rw [HIt.out];show RsW w g gc T Tc (bub clsP x0 l0) wr
        rw [<- e3]; exact e2
       clear H2;go_wp2_with fail;go_roundg (zs.length - (k + 1))
       case measure=>rw [HG.out]; omega
       case rel=>exact ⟨k + 1,by go_num,by omega,rfl,H3.out⟩
    ·have e : k = zs.length:=by omega
     have HE : Hid (itp clsP k zs = srt clsP zs):=by show _ = _; rw [e]; exact itp_all clsP (fun x=>(cls_bd x).1) zs
     have HLe : Hid ((srt clsP zs).length = zs.length):=(sw_srt clsP zs).len
     go_wp2_with fail;go_ret;have h1:=H.out
     rw [HE.out] at h1;refine ⟨_,rfl,?_,h1.ok.1⟩
     have h2:=h1.o.sl capo (by rw [HLe.out]; exact H1.out.2.2.2)
     rw [HLe.out] at h2;exact h2
theorem row_sl {w : World} {a : Option Addr} {len cap : Nat} {zs : List Int} (h : (a = none ∧ len = 0 ∧ cap = 0 ∧ zs = []) ∨ ∃ x,a = some x ∧ len <= cap ∧ cap <= maxLen ∧ zs.length = cap ∧ (∀ i,i < zs.length -> w.cell? (x.add i) = some (.int .i32 (zs.getD i 0))) ∧ ∀ n ∈ zs,(Lit.int .i32 n).wf = true) : (zs.take len).length = len ∧ SlP .i32 w a cap (zs.take len) ∧ ∀ y ∈ zs.take len,-2147483648 <= y ∧ y <= 2147483647:=by
 rcases h with ⟨rfl,rfl,rfl,rfl⟩ | ⟨x,rfl,hl,hm,hz,hcell,hwz⟩
 ·exact ⟨rfl,⟨Nat.le_refl _,fun _=>⟨rfl,rfl⟩,fun k hk=>by simp at hk⟩,fun y hy=>by simp at hy⟩
 ·have hlen : (zs.take len).length = len:=by rw [List.length_take]; omega
  refine ⟨hlen,⟨by omega,fun e=>(by cases e),fun k hk=>?_⟩,fun y hy=>by have h:=hwz y (List.mem_of_mem_take hy); simp only [Lit.wf,Bool.and_eq_true,decide_eq_true_eq] at h; exact h⟩
  rw [hlen] at hk;obtain ⟨b,off,spot⟩:=x
  have hc:=hcell k (by omega)
  have hspot : spot = none:=by simpa [Addr.add] using World.cell?_spot (hcell 0 (by omega))
  subst hspot;have hadd : (⟨b,off,none⟩ : Addr).add k = ⟨b,off + k,none⟩:=by unfold Addr.add; split <;> simp_all
  rw [hadd] at hc;refine ⟨b,off,rfl,World.block_lt_of_cell? w _ hc,?_⟩
  rw [hc,List.getElem_take];simp [List.getD_eq_getElem?_getD,List.getElem?_eq_getElem (show k < zs.length by omega)]
end Od
end Go.Proofs.YtkhipgcgcbhjoaaGreat
