import Derived.Test.YtkhipgcgcbhjoaaGreatDn18
set_option maxRecDepth 100000
set_option maxHeartbeats 4000000
namespace Go.Proofs.YtkhipgcgcbhjoaaGreat
namespace Od
open Go.RowKit
theorem ord_app {c : Int -> Int} : ∀ {P Q : List Int},Ord c P -> Ord c Q -> (∀ p q,P.getLast? = some p -> Q.head? = some q -> ¬ (0 < c q ∧ c q < c p)) -> Ord c (P ++ Q)
 | [],_,_,hQ,_=>hQ
 | [p],[],_,_,_=>trivial
 | [p],q :: Q,_,hQ,h=>⟨h p q rfl rfl,hQ⟩
 | x :: y :: P,Q,hP,hQ,h=>⟨hP.1,ord_app (P:=y :: P) hP.2 hQ (fun p q h1 h2=>h p q (by simpa using h1) h2)⟩
theorem ord_zero {c : Int -> Int} : ∀ {Z : List Int},(∀ z ∈ Z,c z = 0) -> Ord c Z
 | [],_=>trivial
 | [_],_=>trivial
 | x :: y :: Z,h=>⟨by have:=h y (by simp); omega,ord_zero (fun z hz=>h z (by simp [hz]))⟩
theorem ord_glue {c : Int -> Int} (hc : ∀ x,0 <= c x) {P Z M : List Int} (hP : Ord c P) (hZ : ∀ z ∈ Z,c z = 0) (hM : Ord c M) (h : Z ≠ [] ∨ P = []) : Ord c (P ++ Z ++ M):=by
 rcases h with h | h
 ·refine ord_app (ord_app hP (ord_zero hZ) (fun p q h1 h2=>?_)) hM (fun p q h1 h2=>?_)
  ·have:=hZ q (List.mem_of_mem_head? h2); omega
  ·rw [List.getLast?_append] at h1;obtain ⟨z,hz⟩ : ∃ z,Z.getLast? = some z:=⟨Z.getLast h,List.getLast?_eq_some_getLast h⟩
   rw [hz] at h1;simp at h1
   have h3:=hZ p (by rw [<- h1]; exact List.mem_of_getLast? hz)
   have:=hc q
   omega
 ·subst h;refine ord_app (ord_zero (by simpa using hZ)) hM (fun p q h1 h2=>?_)
  have h3:=hZ p (by simpa using List.mem_of_getLast? h1)
  have:=hc q
  omega
def Upto (c : Int -> Int) (zs : List Int) (e : Nat) (R : List Int) : Prop:=Sw c zs R ∧ R.drop e = zs.drop e ∧ Ord c (R.take e)
theorem Upto.start (c : Int -> Int) (zs : List Int) : Upto c zs 0 zs:=⟨.refl _,rfl,trivial⟩
theorem mem_seg {l : List Int} {f t : Nat} {x : Int} (h : x ∈ (l.take t).drop f) : ∃ i,∃ hi : i < l.length,f <= i ∧ i < t ∧ l[i] = x:=by
 obtain ⟨i,hi,e⟩:=List.mem_iff_getElem.1 h
 rw [List.length_drop,List.length_take] at hi;refine ⟨f + i,by omega,by omega,by omega,?_⟩
 rw [<- e,List.getElem_drop,List.getElem_take]
theorem seg_eq {R zs : List Int} {e f t : Nat} (h : R.drop e = zs.drop e) (hef : e <= f) : (R.take t).drop f = (zs.take t).drop f:=by
 rw [List.drop_take,List.drop_take];congr 1
 have : (R.drop e).drop (f - e) = (zs.drop e).drop (f - e):=by rw [h]
 rwa [List.drop_drop,List.drop_drop,show e + (f - e) = f by omega] at this
theorem Upto.next {c : Int -> Int} (hc : ∀ x,0 <= c x) {zs R : List Int} {pre : List (Nat × Nat)} {f t : Nat} (h : Upto c zs (endOf pre) R) (hx : NextR c zs pre (f,t)) :
 R = R.take f ++ (R.take t).drop f ++ R.drop t ∧ (R.take f).length = f ∧ ((R.take t).drop f).length = t - f ∧ (∀ x ∈ (R.take t).drop f,0 < c x) ∧ Upto c zs (endOf (pre ++ [(f,t)])) (R.take f ++ srt c ((R.take t).drop f) ++ R.drop t):=by
 obtain ⟨h1,h2,h3⟩:=h
 obtain ⟨x1,x2,x3,x4,x5,x6⟩:=hx
 simp only at x1 x2 x3 x4 x5 x6
 have hlen:=h1.len
 have e0 : R = R.take f ++ (R.take t).drop f ++ R.drop t:=by
  have e1 : R.take t = R.take f ++ (R.take t).drop f:=by
   conv=>lhs; rw [<- List.take_append_drop f (R.take t)]
   rw [List.take_take,Nat.min_eq_left (by omega)]
  rw [<- e1,List.take_append_drop]
 have e2 : (R.take f).length = f:=by rw [List.length_take]; omega
 have e3 : ((R.take t).drop f).length = t - f:=by rw [List.length_drop,List.length_take]; omega
 have hs:=seg_eq (t:=t) h2 x1
 have hp : ∀ x ∈ (R.take t).drop f,0 < c x:=by
  intro x hx
  rw [hs] at hx;obtain ⟨i,hi,a1,a2,rfl⟩:=mem_seg hx
  have:=x5 i hi a1 a2
  have:=hc zs[i]
  omega
 have e4 : (srt c ((R.take t).drop f)).length = t - f:=by rw [(sw_srt c _).len,e3]
 refine ⟨e0,e2,e3,hp,?_,?_,?_⟩
 ·refine h1.trans ?_
  conv=>lhs; rw [e0]
  exact (sw_srt c _).ctx _ _
 ·rw [endOf_snoc];show List.drop t _ = List.drop t _
  rw [List.drop_append_of_le_length (by rw [List.length_append]; omega),List.drop_eq_nil_of_le (by rw [List.length_append]; omega),List.nil_append]
  have : (R.drop (endOf pre)).drop (t - endOf pre) = (zs.drop (endOf pre)).drop (t - endOf pre):=by rw [h2]
  rwa [List.drop_drop,List.drop_drop,show endOf pre + (t - endOf pre) = t by omega] at this
 ·rw [endOf_snoc];show Ord c (List.take t _)
  rw [List.take_append_of_le_length (by rw [List.length_append]; omega),List.take_of_length_le (by rw [List.length_append]; omega)]
  have e5 : R.take f = R.take (endOf pre) ++ (R.take f).drop (endOf pre):=by
   conv=>lhs; rw [<- List.take_append_drop (endOf pre) (R.take f)]
   rw [List.take_take,Nat.min_eq_left x1]
  rw [e5];refine ord_glue hc h3 (fun z hz=>?_) (ord_srt c _) ?_
  ·rw [seg_eq (t:=f) h2 (Nat.le_refl _)] at hz
   obtain ⟨i,hi,a1,a2,rfl⟩:=mem_seg hz
   exact x4 i hi a1 a2
  ·rcases x6 with h | h
   ·right; rw [h]; rfl
   ·left
    intro e
    have:=congrArg List.length e
    rw [List.length_drop,List.length_take] at this;simp at this; omega
theorem Upto.fin {c : Int -> Int} {zs R : List Int} {xs : List (Nat × Nat)} (h : Upto c zs (endOf xs) R) (hx : AllR c zs xs) : R = srt c zs:=by
 refine h.1.fin ?_
 have e : R = R.take (endOf xs) ++ R.drop (endOf xs):=(List.take_append_drop _ _).symm
 have hz : ∀ z ∈ R.drop (endOf xs),c z = 0:=by
  intro z hz
  rw [h.2.1] at hz;obtain ⟨i,hi,e⟩:=List.mem_iff_getElem.1 hz
  rw [List.length_drop] at hi;rw [<- e,List.getElem_drop];exact hx.2 _ (by omega) (by omega)
 rw [e];refine ord_app h.2.2 (ord_zero hz) (fun p q h1 h2=>?_)
 have:=hz q (List.mem_of_mem_head? h2)
 omega
theorem clone_any' (v : Value) (zs : List Int) (w : World) (h : Sl .i32 w v zs) (hn : zs.length <= 1000000) :
 Calls Tryz.prog 227 #[v] w fun e w'=>∃ ao cap,e = .returned (.slice ao zs.length cap) ∧ Below w.heap.size w w' ∧ zs.length <= cap ∧ (ao = none -> zs.length = 0 ∧ cap = 0) ∧ (zs = [] ∨ ∃ g T,ao = some ⟨g,0,none⟩ ∧ w.heap.size <= g ∧ Blk w' g zs T):=by
 refine (clone_any v zs w h hn).mono ?_;rintro e w' ⟨v',rfl,hb,⟨rfl,ao,cap,rfl,h⟩ | ⟨g,cap,T,rfl,hc,hg,hB⟩⟩
 ·exact ⟨ao,cap,rfl,hb,Nat.zero_le _,h.none_,.inl rfl⟩
 ·exact ⟨_,cap,rfl,hb,hc,fun e=>(by cases e),.inr ⟨g,T,rfl,hg,hB⟩⟩
structure SoI (w : World) (b : Nat) (zs : List Int) (ao : Option Addr) (cap o2 o5 pl pb : Nat) (pre : List (Nat × Nat)) (W : World) : Prop where
 bel : Below w.heap.size w W
 b2 : Bx W o2 (.pointer (some ⟨b,0,none⟩)) 29
 b5 : Bx W o5 (.slice ao zs.length cap) 22
 bl : Bx W pl (.slice ao zs.length cap) 22
 bb : Bx W pb (.pointer (some ⟨b,0,none⟩)) 29
 row : zs = [] ∨ ∃ g T R,ao = some ⟨g,0,none⟩ ∧ w.heap.size <= g ∧ g ≠ o2 ∧ g ≠ o5 ∧ g ≠ pl ∧ g ≠ pb ∧ Blk W g R T ∧ Upto clsP zs (endOf pre) R
theorem SoI.keep {w : World} {b : Nat} {zs : List Int} {ao : Option Addr} {cap o2 o5 pl pb N : Nat} {pre : List (Nat × Nat)} {A B : World} (h : SoI w b zs ao cap o2 o5 pl pb pre A) (hk : Kc N A B) (hN : w.heap.size <= N) : SoI w b zs ao cap o2 o5 pl pb pre B :=
 ⟨hk.below h.bel hN (Nat.le_refl _),hk.bx h.b2,hk.bx h.b5,hk.bx h.bl,hk.bx h.bb,by
  rcases h.row with h | ⟨g,T,R,h1,h2,h3,h4,h5,h6,h7,h8⟩
  ·exact .inl h
  ·exact .inr ⟨g,T,R,h1,h2,h3,h4,h5,h6,hk.blk h7,h8⟩⟩
theorem SoI.ne {w : World} {b : Nat} {zs : List Int} {ao : Option Addr} {cap o2 o5 pl pb : Nat} {pre : List (Nat × Nat)} {A : World} (hB : Bk w b) (h : SoI w b zs ao cap o2 o5 pl pb pre A) : NeR b ao cap pl pb zs pre A :=
 ⟨hB.step h.bel,h.bl,h.bb,fun i hi he=>by
  rcases h.row with h | ⟨g,T,R,h1,h2,_,_,_,_,h7,h8⟩
  ·subst h; simp at hi
  ·refine ⟨g,0,h1,?_⟩
   rw [Nat.zero_add];refine h7.cell _ _ ?_
   have:=congrArg (fun l=>l[i - endOf pre]?) h8.2.1
   simp only [List.getElem?_drop] at this
   rw [show endOf pre + (i - endOf pre) = i by omega] at this
   rw [this,List.getElem?_eq_getElem hi]⟩
theorem SoI.run {w : World} {b : Nat} {zs : List Int} {ao : Option Addr} {cap o2 o5 pl pb : Nat} {pre : List (Nat × Nat)} {A : World} (hB : Bk w b) (hn : zs.length <= 1000000) (h : SoI w b zs ao cap o2 o5 pl pb pre A) {f t : Nat} (hx : NextR clsP zs pre (f,t)) :
 ∃ g,ao = some ⟨g,0,none⟩ ∧ ∀ A' cb,A' = A.alloc (.cells #[.pointer (some ⟨b,0,none⟩)] 29) -> cb = A.heap.size -> ∀ cap',Calls Tryz.prog 229 #[.slice (some ⟨g,f,none⟩) (t - f) cap',.func (.func 278) #[] #[.pointer (some ⟨cb,0,none⟩)]] A' fun e w'=>e = .returned (.tuple #[]) ∧ SoI w b zs ao cap o2 o5 pl pb (pre ++ [(f,t)]) w' ∧ KeepsFrom w.heap.size A w':=by
 have hz : zs ≠ []:=by
  intro e
  have h1:=hx.2.1
  have h2:=hx.2.2.1
  rw [e] at h2; simp at h1 h2; omega
 rcases h.row with h0 | ⟨g,T,R,h1,h2,h3,h4,h5,h6,h7,h8⟩
 ·exact absurd h0 hz
 ·refine ⟨g,h1,fun A' cb e1 e2 cap'=>?_⟩
  subst e1 e2;obtain ⟨n1,n2,n3,n4,n5⟩:=h8.next (fun x=>(cls_bd x).1) hx
  have hlt : g < A.heap.size:=h7.lt
  have hbA : Below A.heap.size A (A.alloc (.cells #[.pointer (some ⟨b,0,none⟩)] 29)):=(Below.refl _ _).alloc (Nat.le_refl _) _
  have hC : Cmp clsP (fun W=>Below w.heap.size w W ∧ Bx W A.heap.size (.pointer (some ⟨b,0,none⟩)) 29) g #[.pointer (some ⟨A.heap.size,0,none⟩)]:=by refine ⟨fun W x y _ _ hW=>byc1_any (hB.step hW.1) hW.2 x y,fun W W' hW ha=>⟨hW.1.trans (ha.below hW.1.size h2),hW.2.alt ha (by omega)⟩⟩
  have hblk : Blk (A.alloc (.cells #[.pointer (some ⟨b,0,none⟩)] 29)) g (R.take f ++ (R.take t).drop f ++ R.drop t) T:=by rw [<- n1]; exact h7.step hbA
  refine (sstf_any _ g f cap' (t - f) hC _ _ _ T hblk ⟨h.bel.trans (hbA.mono h.bel.size),Bx.new _ _ _⟩ n2 n3 (by have:=hx.2.2.1; simp at this; omega) n4).mono ?_
  rintro e w' ⟨he,hb',ha'⟩;refine ⟨he,⟨?_,?_,?_,?_,?_,.inr ⟨g,T,_,h1,h2,h3,h4,h5,h6,hb',n5⟩⟩,?_⟩
  ·exact (h.bel.trans (hbA.mono h.bel.size)).trans (ha'.below (Nat.le_trans h.bel.size hbA.size) h2)
  ·exact (h.b2.step hbA).alt ha' (Ne.symm h3)
  ·exact (h.b5.step hbA).alt ha' (Ne.symm h4)
  ·exact (h.bl.step hbA).alt ha' (Ne.symm h5)
  ·exact (h.bb.step hbA).alt ha' (Ne.symm h6)
  ·refine ⟨Nat.le_trans hbA.size ha'.size,fun k o _ hk ho=>?_⟩
   have hkl : k < A.heap.size:=(Array.getElem?_eq_some_iff.1 hk).1
   have hkg : k ≠ g:=by
    intro e1
    rw [e1,show A.heap[g]? = _ from h7] at hk
    cases hk
    cases ho
   rw [ha'.block k (Nat.lt_of_lt_of_le hkl hbA.size) hkg,hbA.block k hkl,hk]
attribute [local go_sem] Oper.semAt_some
theorem sort_any {w : World} {b : Nat} {v : Value} {zs : List Int} (hB : Bk w b) (hS : Sl .i32 w v zs) (hn : zs.length <= 1000000) :
 Calls Tryz.prog 156 #[.pointer (some ⟨b,0,none⟩),v] w fun e w'=>∃ v',e = .returned v' ∧ Sl .i32 w' v' (srt clsP zs) ∧ Below w.heap.size w w':=by
 have HB:=hid hB
 have hb0 : Below w.heap.size w (w.alloc (.cells #[.pointer (some ⟨b,0,none⟩)] 29)):=(Below.refl w.heap.size w).alloc (Nat.le_refl _) _
 have HC:=hid (clone_any' v zs _ (hS.step hb0) hn);have HX0:=hid (Bx.new w (.pointer (some ⟨b,0,none⟩)) 29);have Hb0:=hid hb0
 obtain ⟨ao0,cap0,rfl,hS⟩:=hS
 clear hB hS hb0;refine (callsIn_wide (n:=6)).1 ?_
 refine callsIn_of_wp_marks Tryz.func156 rfl trivial ?_ rfl
 simp only [Tryz.ntmps156,List.size_toArray,List.length_cons,List.length_nil,Nat.reduceAdd,Nat.reduceSub,Array.replicate_succ,Array.replicate_zero,List.push_toArray,List.append_toArray,List.nil_append,List.cons_append]
 gi_wp2_with (first | (refine ⟨trivial,?_⟩; gi_at_call 227; refine (callsIn_wide.2 HC.out).mono ?_; rintro e w1 ⟨ao,cap,rfl,hb1,hcap,hnone,hrow⟩; have HI1:=hid (And.intro hb1 (And.intro hcap (And.intro hnone hrow))); clear hb1 hcap hnone hrow; have c2 : ∀ o,(w1.alloc o).cell? ⟨w.heap.size,0,none⟩ = some (.pointer (some ⟨b,0,none⟩)):=fun o=>((HX0.out.step HI1.out.1).alloc o).cell) | (refine ⟨trivial,?_⟩; gi_at_call 228; refine (callsIn_wide.2 (runs_any _ _ _ _ _)).mono ?_; rintro e w' ⟨rfl,rfl⟩))
 have HI2 : Hid (SoI w b zs ao cap w.heap.size w1.heap.size (w1.heap.size + 1 + 1) (w1.heap.size + 1) [] (((w1.alloc (.cells #[.slice ao zs.length cap] 22)).alloc (.cells #[.pointer (some ⟨b,0,none⟩)] 29)).alloc (.cells #[.slice ao zs.length cap] 22))):=by
  obtain ⟨hb1,hcap,hnone,hrow⟩:=HI1.out
  have ha1 : Below w1.heap.size w1 (((w1.alloc (.cells #[.slice ao zs.length cap] 22)).alloc (.cells #[.pointer (some ⟨b,0,none⟩)] 29)).alloc (.cells #[.slice ao zs.length cap] 22)):=(((Below.refl _ _).alloc (Nat.le_refl _) _).alloc (by simp) _).alloc (by simp; omega) _
  have s0:=Hb0.out.size
  have s1:=hb1.size
  have s2 : (w.alloc (.cells #[.pointer (some ⟨b,0,none⟩)] 29)).heap.size = w.heap.size + 1:=by simp
  refine ⟨(Hb0.out.trans (hb1.mono s0)).trans (ha1.mono (by omega)),(HX0.out.step hb1).step ha1,((Bx.new w1 _ _).alloc _).alloc _,?_,?_,?_⟩
  ·have:=Bx.new ((w1.alloc (.cells #[.slice ao zs.length cap] 22)).alloc (.cells #[.pointer (some ⟨b,0,none⟩)] 29)) (.slice ao zs.length cap) 22
   simpa using this
  ·have:=(Bx.new (w1.alloc (.cells #[.slice ao zs.length cap] 22)) (.pointer (some ⟨b,0,none⟩)) 29).alloc (.cells #[.slice ao zs.length cap] 22)
   simpa using this
  ·rcases hrow with h | ⟨g,T,h1,h2,h3⟩
   ·exact .inl h
   ·have:=h3.lt
    exact .inr ⟨g,T,zs,h1,by omega,by omega,by omega,by omega,by omega,h3.step ha1,Upto.start _ _⟩
 have hT:=runs1_tells 5 b ao cap (w1.heap.size + 1 + 1) (w1.heap.size + 1) (by omega) zs hn (((w1.alloc (.cells #[.slice ao zs.length cap] 22)).alloc (.cells #[.pointer (some ⟨b,0,none⟩)] 29)).alloc (.cells #[.slice ao zs.length cap] 22))
 have hz0 : w.heap.size <= (((w1.alloc (.cells #[.slice ao zs.length cap] 22)).alloc (.cells #[.pointer (some ⟨b,0,none⟩)] 29)).alloc (.cells #[.slice ao zs.length cap] 22)).heap.size:=HI2.out.bel.size
 clear c2 HX0 Hb0 HC;generalize (((w1.alloc (.cells #[.slice ao zs.length cap] 22)).alloc (.cells #[.pointer (some ⟨b,0,none⟩)] 29)).alloc (.cells #[.slice ao zs.length cap] 22)) = W0 at *
 have HN:=hid HI1.out.2
 clear HI1;generalize w1.heap.size = o5 at *;refine wpIn_told2 rfl (by omega) (gf:=276) (lb:=#[.pointer (some ⟨o5 + 1 + 1,0,none⟩),.pointer (some ⟨o5 + 1,0,none⟩)]) rfl trivial (enters_of Tryz.func276 (by kernel_rfl) rfl) hT (fun _=>rfl)
  (SoI w b zs ao cap w.heap.size o5 (o5 + 1 + 1) (o5 + 1)) (fun _ _=>False) (fun pre A B h hk=>h.keep hk hz0) (fun _ _ _ h _=>h) (fun pre A h=>h.ne HB.out) HI2.out
  (fun x=>{ tmps:=#[.pointer (some ⟨b,0,none⟩),.slice ao0 zs.length cap0,.pointer (some ⟨w.heap.size,0,none⟩),undef,.slice none 0 0,.pointer (some ⟨o5,0,none⟩),.int .i64 (x.1 : Int),.int .i64 (x.2 : Int),.slice ao0 zs.length cap0,.slice ao zs.length cap,.pointer (some ⟨b,0,none⟩),.slice ao zs.length cap,.func (.func 276) #[] #[.pointer (some ⟨o5 + 1 + 1,0,none⟩),.pointer (some ⟨o5 + 1,0,none⟩)],.int .i64 (x.1 : Int),.int .i64 (x.2 : Int),undef,undef,undef,undef,undef,undef,undef,undef],defers:=[] }) ?assign ?body ?done ?stop
 case assign =>
  intro l x W K hK
  have e : (#[13,14].zip (toldR x)).foldl (fun (t : Array Value) (p : Nat × Value)=>t.setIfInBounds p.1 p.2) #[.pointer (some ⟨b,0,none⟩),.slice ao0 zs.length cap0,.pointer (some ⟨w.heap.size,0,none⟩),undef,.slice none 0 0,.pointer (some ⟨o5,0,none⟩),undef,undef,.slice ao0 zs.length cap0,.slice ao zs.length cap,.pointer (some ⟨b,0,none⟩),.slice ao zs.length cap,.func (.func 276) #[] #[.pointer (some ⟨o5 + 1 + 1,0,none⟩),.pointer (some ⟨o5 + 1,0,none⟩)],undef,undef,undef,undef,undef,undef,undef,undef,undef,undef] = #[.pointer (some ⟨b,0,none⟩),.slice ao0 zs.length cap0,.pointer (some ⟨w.heap.size,0,none⟩),undef,.slice none 0 0,.pointer (some ⟨o5,0,none⟩),undef,undef,.slice ao0 zs.length cap0,.slice ao zs.length cap,.pointer (some ⟨b,0,none⟩),.slice ao zs.length cap,.func (.func 276) #[] #[.pointer (some ⟨o5 + 1 + 1,0,none⟩),.pointer (some ⟨o5 + 1,0,none⟩)],.int .i64 (x.1 : Int),.int .i64 (x.2 : Int),undef,undef,undef,undef,undef,undef,undef,undef]:=by simp [toldR]
  rw [e];gi_wp2
  exact hK
 case body =>
  rintro l pre ⟨f,t⟩ W hI hR;clear hT;have hID : SoI w b zs ao cap w.heap.size o5 (o5 + 1 + 1) (o5 + 1) pre W.drew:=hI.keep (Kc.of_below ((Below.refl _ _).drew)) (Nat.le_refl _)
  obtain ⟨g,rfl,hrun⟩:=hID.run HB.out hn hR
  have HRun : Hid (∀ cap',Calls Tryz.prog 229 #[.slice (some ⟨g,f,none⟩) (t - f) cap',.func (.func 278) #[] #[.pointer (some ⟨W.drew.heap.size,0,none⟩)]] (W.drew.alloc (.cells #[.pointer (some ⟨b,0,none⟩)] 29)) fun e w'=>e = .returned (.tuple #[]) ∧ Hid (goesR W0.heap.size (SoI w b zs (some ⟨g,0,none⟩) cap w.heap.size o5 (o5 + 1 + 1) (o5 + 1)) (fun _ _=>False) (pre ++ [(f,t)]) W .normal { tmps:=#[],defers:=[] } w')):=fun cap'=>by refine (hrun _ _ rfl rfl cap').mono ?_;rintro e w' ⟨he,h1,h2⟩;exact ⟨he,⟨h2.size,fun k o hk=>h2.same k o (by omega)⟩,h1⟩
  have c5:=hID.b5.cell
  have c2:=hID.b2.cell
  have c5a : ∀ o,(W.drew.alloc o).cell? ⟨o5,0,none⟩ = some (.slice (some ⟨g,0,none⟩) zs.length cap):=fun o=>(hID.b5.alloc o).cell
  have q1 : f < t:=hR.2.1
  have q2 : t <= zs.length:=hR.2.2.1
  have q3:=HN.out.1
  have hmx : Tryz.prog.follows .mixedOrders = true:=by kernel_rfl
  have c5b : ∀ o,(W.alloc o).drew.cell? ⟨o5,0,none⟩ = some (.slice (some ⟨g,0,none⟩) zs.length cap):=fun o=>c5a o
  clear hrun hID hI hR HI2 HN;gi_wp2_with fail
  refine region_round (F:=Fence.wide) l hmx (by kernel_rfl) ?_
  refine wpAnyIn_take (i:=1) (v:=.int .i64 (f : Int)) rfl rfl (by kernel_rfl) (by kernel_rfl) (by kernel_rfl) (fun _ _ _ h=>h) ⟨Or.inl ⟨by rfl,by (intro w; go_simp)⟩,fun _=>rfl⟩ ?_
  refine wpAnyIn_take (i:=2) (v:=.int .i64 (t : Int)) rfl rfl (by kernel_rfl) (by kernel_rfl) (by kernel_rfl) (fun _ _ _ h=>h) ⟨Or.inl ⟨by rfl,by (intro w; go_simp)⟩,fun _=>rfl⟩ ?_
  refine wpAnyIn_ready (rs:=[0,4]) (by kernel_rfl) (by simp) ?_
  refine AllReadyIn.cons rfl (fun K hK=>?_) ?_
  ·go_simp
   refine hK _ _ ?_
   clear hK K;refine wpAnyIn_take (i:=3) (v:=.slice (some ⟨g,f,none⟩) (t - f) (cap - f)) rfl rfl (by kernel_rfl) (by kernel_rfl) (by kernel_rfl) (fun _ _ _ h=>h) ⟨Or.inl ⟨by rfl,by (intro w; go_simp; rw [if_pos (by omega),if_pos (by omega),if_neg (by omega)])⟩,fun _=>rfl⟩ ?_
   refine wpAnyIn_ready (rs:=[4]) (by kernel_rfl) (by simp) ?_
   refine AllReadyIn.cons rfl (fun K hK=>?_) ?_
   ·go_simp
    refine hK _ _ ?_
    clear hK K;refine wpAnyIn_ready (rs:=[5]) (by kernel_rfl) (by simp) ?_
    refine AllReadyIn.cons rfl (fun K hK=>?_) ?_
    ·go_simp
     gi_wp2_with (first | (refine ⟨trivial,?_⟩; gi_at_call 230; refine (callsIn_wide.2 (byc_any _ _)).mono ?_; rintro e W3 ⟨rfl,rfl⟩))
     try (refine hK _ _ ?_; clear hK K)
     refine wpAnyIn_ready (rs:=[6]) (by kernel_rfl) (by simp) ?_
     refine AllReadyIn.cons rfl (fun K hK=>?_) AllReadyIn.nil
     go_simp
     gi_wp2_with (first | (refine ⟨trivial,?_⟩; gi_at_call 229; refine (callsIn_wide.2 (HRun.out _)).mono ?_; rintro e W4 ⟨rfl,hend⟩))
     try (refine hK _ _ ?_; clear hK K)
     refine wpAnyIn_done (by kernel_rfl) ?_ _
     exact hend.out
    exact AllReadyIn.nil
   exact AllReadyIn.nil
  refine AllReadyIn.cons rfl (fun K hK=>?_) ?_
  ·go_simp
   refine hK _ _ ?_
   clear hK K;refine wpAnyIn_ready (rs:=[0,5]) (by kernel_rfl) (by simp) ?_
   refine AllReadyIn.cons rfl (fun K hK=>?_) ?_
   ·go_simp
    refine hK _ _ ?_
    clear hK K;refine wpAnyIn_take (i:=3) (v:=.slice (some ⟨g,f,none⟩) (t - f) (cap - f)) rfl rfl (by kernel_rfl) (by kernel_rfl) (by kernel_rfl) (fun _ _ _ h=>h) ⟨Or.inl ⟨by rfl,by (intro w; go_simp; rw [if_pos (by omega),if_pos (by omega),if_neg (by omega)])⟩,fun _=>rfl⟩ ?_
    refine wpAnyIn_ready (rs:=[5]) (by kernel_rfl) (by simp) ?_
    refine AllReadyIn.cons rfl (fun K hK=>?_) ?_
    ·go_simp
     gi_wp2_with (first | (refine ⟨trivial,?_⟩; gi_at_call 230; refine (callsIn_wide.2 (byc_any _ _)).mono ?_; rintro e W3 ⟨rfl,rfl⟩))
     try (refine hK _ _ ?_; clear hK K)
     refine wpAnyIn_ready (rs:=[6]) (by kernel_rfl) (by simp) ?_
     refine AllReadyIn.cons rfl (fun K hK=>?_) AllReadyIn.nil
     go_simp
     gi_wp2_with (first | (refine ⟨trivial,?_⟩; gi_at_call 229; refine (callsIn_wide.2 (HRun.out _)).mono ?_; rintro e W4 ⟨rfl,hend⟩))
     try (refine hK _ _ ?_; clear hK K)
     refine wpAnyIn_done (by kernel_rfl) ?_ _
     exact hend.out
    exact AllReadyIn.nil
   refine AllReadyIn.cons rfl (fun K hK=>?_) ?_
   ·go_simp
    gi_wp2_with (first | (refine ⟨trivial,?_⟩; gi_at_call 230; refine (callsIn_wide.2 (byc_any _ _)).mono ?_; rintro e W3 ⟨rfl,rfl⟩))
    try (refine hK _ _ ?_; clear hK K)
    refine wpAnyIn_ready (rs:=[0]) (by kernel_rfl) (by simp) ?_
    refine AllReadyIn.cons rfl (fun K hK=>?_) ?_
    ·go_simp
     refine hK _ _ ?_
     clear hK K;refine wpAnyIn_take (i:=3) (v:=.slice (some ⟨g,f,none⟩) (t - f) (cap - f)) rfl rfl (by kernel_rfl) (by kernel_rfl) (by kernel_rfl) (fun _ _ _ h=>h) ⟨Or.inl ⟨by rfl,by (intro w; go_simp; rw [if_pos (by omega),if_pos (by omega),if_neg (by omega)])⟩,fun _=>rfl⟩ ?_
     refine wpAnyIn_ready (rs:=[6]) (by kernel_rfl) (by simp) ?_
     refine AllReadyIn.cons rfl (fun K hK=>?_) AllReadyIn.nil
     go_simp
     gi_wp2_with (first | (refine ⟨trivial,?_⟩; gi_at_call 229; refine (callsIn_wide.2 (HRun.out _)).mono ?_; rintro e W4 ⟨rfl,hend⟩))
     try (refine hK _ _ ?_; clear hK K)
     refine wpAnyIn_done (by kernel_rfl) ?_ _
     exact hend.out
    exact AllReadyIn.nil
   exact AllReadyIn.nil
  exact AllReadyIn.nil
 case done =>
  rintro D xs W hD hS hI hK;clear hT;have c5:=hI.b5.cell
  have HI:=hid hI
  clear hI;gi_wp2
  refine ⟨by simp,.inl ⟨_,_,rfl,run_takeDeferred hK,?_⟩⟩
  refine ⟨_,results_tmp rfl _ _ _,?_⟩
  have hI:=HI.out.keep (Kc.grown (N:=W0.heap.size) (grownBy_putObj' W D (.deferred none)) (fun r e=>by cases e; exact ⟨hD,_,hK,rfl⟩)) hz0
  refine ⟨.slice ao zs.length cap,rfl,?_,hI.bel⟩
  have hlen : (srt clsP zs).length = zs.length:=(sw_srt clsP zs).len
  refine ⟨ao,cap,by rw [hlen],by rw [hlen]; exact HN.out.1,fun e=>by rw [hlen]; exact HN.out.2.1 e,fun j hj=>?_⟩
  rcases hI.row with h | ⟨g,T,R,h1,h2,_,_,_,_,h7,h8⟩
  ·subst h; simp [srt] at hj
  ·have hR:=h8.fin hS
   subst hR;refine ⟨g,0,h1,h7.lt,?_⟩
   rw [Nat.zero_add];exact h7.cell _ _ (List.getElem?_eq_getElem hj)
 case stop=>intro D xs W _ h; exact h.elim
theorem run_index_agg {P : Program} (w : World) (t e : TypeId) (n : Nat) (ty : TypeInfo) (cs : Array Value) (k : IntKind) (i : Nat) (ht : P.underlying t = some (.array n e)) (hi : P.info? e = some ty) (h : i < n) :
 (Instr.index t (.agg cs) (.int k (i : Int))).run P w = (part e cs (i * ty.size)).run P w:=by
 simp [Instr.index,asIntOf,run_underlying ht,sizeOf,typeInfo,hi]
 intro hn
 omega
theorem cls_row (r : Int) : clsP r = (Uc.rrowP r).2.2.2.2.2.1:=by unfold clsP;rw [Uc.book_tells r];rfl
end Od
end Go.Proofs.YtkhipgcgcbhjoaaGreat
