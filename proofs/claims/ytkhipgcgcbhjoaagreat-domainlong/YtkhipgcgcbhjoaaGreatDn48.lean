import Derived.Test.YtkhipgcgcbhjoaaGreatDn47
import Derived.Shelf.Abstract
set_option maxRecDepth 100000
set_option maxHeartbeats 4000000
namespace Go.Proofs.YtkhipgcgcbhjoaaGreat
namespace Pu
open Go.RowKit
open Od hiding hid Blk Alt Alt.refl
open Odi
theorem wpIn_told3 {α : Type} {F : Fence} {n : Nat} {P : Program} {g : Operand} {ps : Array Tmp} {assign body : Code} {Q : Exit -> Act -> World -> Prop} {a : Act} {w : World}
 (hro : F.round = none) (h1 : 1 <= n) {gf : Nat} {lb : Array Value} (hg : a.eval g = .func (.func gf) #[] lb) (hFg : F.fn gf) (eg : ∀ args w,(callFunc gf args).run P w = .ok (.enter gf args) w)
 {encs : α -> Array Value} {Ne : List α -> World -> Prop} {R : List α -> α -> Prop} {S : List α -> Prop} (ht : Tells2 F (n - 1) P gf lb encs Ne R S w) (hps : ∀ x,(encs x).size = ps.size)
 (I Ix : List α -> World -> Prop) (hI : ∀ pre A B,I pre A -> Kc w.heap.size A B -> I pre B) (hIx : ∀ pre A B,Ix pre A -> Kc w.heap.size A B -> Ix pre B) (hN : ∀ pre A,I pre A -> Ne pre A) (h0 : I [] w) (AS : α -> Act -> World -> Prop) (hAS : ∀ x c A B,AS x c A -> Kc w.heap.size A B -> AS x c B)
 (hassign : ∀ (l : Nat) (x : α) (W : World) (K : Act -> World -> Prop),w.heap.size <= W.heap.size -> (∀ c W',Below W.heap.size W W' -> AS x c W' -> K c W') ->
  assign.wpIn (F.inRound l) (n - 1 - 1) P (Exit.then K (fun _ _ _=>False)) { tmps:=(ps.zip (encs x)).foldl (fun t (p,v)=>t.setIfInBounds p v) a.tmps,defers:=[] } W)
 (hbody : ∀ (l : Nat) (pre : List α) (x : α) (c : Act) (W : World),I pre W -> AS x c W -> R pre x -> body.wpIn (F.inRound l) (n - 1 - 1) P (goesR w.heap.size I Ix (pre ++ [x]) W) c W)
 (hdone : ∀ (D : Nat) (xs : List α) (W : World),w.heap.size <= D -> S xs -> I xs W -> W.heap[D]? = some (.deferred (some [])) -> Q .normal { a with defers:={ target:=.collected D,args:=#[] } :: a.defers } W)
 (hstop : ∀ (D : Nat) (xs : List α) (W : World),w.heap.size <= D -> Ix xs W -> W.heap[D]? = some (.deferred (some [])) -> Code.ret.wpIn F n P Q { a with defers:={ target:=.collected D,args:=#[] } :: a.defers } W) :
 (Code.rangeFunc g ps assign body).wpIn F n P Q a w:=by
 have oI : OwnFrom w.heap.size I:=fun s A B row hs hg hr=>hI s A B hs (Kc.grown hg hr)
 have oIx : OwnFrom w.heap.size Ix:=fun s A B row hs hg hr=>hIx s A B hs (Kc.grown hg hr)
 refine wpIn_rangeFunc fun fn hfn=>?_
 rw [hro];obtain ⟨rc,hrc⟩ : ∃ rc : LoopState -> Option Code -> Loop,rc = fun st pe=>{ state:=st,pending:=pe,fn,tmps:=a.tmps,params:=ps,assign,body,defers:=w.heap.size }:=⟨_,rfl⟩
 have hne : w.heap.size ≠ w.heap.size + 1:=by omega
 have hrun:=run_enterLoop_outer (P:=P) (w:=w) fn a.tmps ps assign body
 have hbel : Below w.heap.size w ((w.alloc (.deferred (some []))).alloc (.loop (rc .ready none))):=((Below.refl _ w).alloc (Nat.le_refl _) _).alloc (by simp) _
 have hst : I [] ((w.alloc (.deferred (some []))).alloc (.loop (rc .ready none))) ∧ ((w.alloc (.deferred (some []))).alloc (.loop (rc .ready none))).heap[w.heap.size + 1]? = some (.loop (rc .ready none)) ∧ ((w.alloc (.deferred (some []))).alloc (.loop (rc .ready none))).heap[w.heap.size]? = some (.deferred (some [])):=by
  refine ⟨oI.alloc _ (oI.alloc _ h0),?_,?_⟩
  ·have:=World.alloc_heap_new (w.alloc (.deferred (some []))) (.loop (rc .ready none))
   rwa [World.size_alloc] at this
  ·exact (Below.heap_alloc _ _ _ (by simp)).trans (World.alloc_heap_new w _)
 have hrun' : (Instr.enterLoop fn a.tmps ps assign body none).run P w = .ok (w.heap.size + 1,[{ target:=.collected w.heap.size,args:=#[] }]) ((w.alloc (.deferred (some []))).alloc (.loop (rc .ready none))):=by rw [hrc]; exact hrun
 generalize ((w.alloc (.deferred (some []))).alloc (.loop (rc .ready none))) = W1 at *;refine ⟨w.heap.size + 1,_,W1,{ target:=.fn (.func gf) lb,args:=#[.func (.yield (w.heap.size + 1)) #[] #[]] },W1,gf,#[.func (.yield (w.heap.size + 1)) #[] #[]] ++ lb,W1,hrun',?_,?_,?_,fun _=>h1,?_⟩
 ·simp only [resolve,hg]
  simp [go_sem]
 ·intro f' hf'
  simp [Target.leads] at hf'
  subst hf'; exact hFg
 ·simp [invoke,go_sem,eg]
 refine (ht (w.heap.size + 1) (fun pre W=>I pre W ∧ W.heap[w.heap.size + 1]? = some (.loop (rc .ready none)) ∧ W.heap[w.heap.size]? = some (.deferred (some [])))
  (fun pre W=>Ix pre W ∧ W.heap[w.heap.size + 1]? = some (.loop (rc .done (some .ret))) ∧ W.heap[w.heap.size]? = some (.deferred (some []))) W1 hbel ?_ (fun pre A h=>hN pre A h.1) ?_ hst).mono ?_
 ·rintro pre A B ⟨hi,hl,hk⟩ hb;exact ⟨hI _ _ _ hi (Kc.of_below hb),(hb.block _ (Array.getElem?_eq_some_iff.1 hl).1).trans hl,(hb.block _ (Array.getElem?_eq_some_iff.1 hk).1).trans hk⟩
 ·rintro pre x W0 ⟨hi0,hl0,hk0⟩ hR;have hlt0 : w.heap.size + 1 < W0.heap.size:=(Array.getElem?_eq_some_iff.1 hl0).1
  have hy:=run_yield (P:=P) (args:=encs x) hl0 (by rw [hrc]; exact hps x)
  rw [hrc] at hy;refine ⟨fn,_,assign,body,hy,roundIn_of_wpIn hfn (hassign _ x W0 _ (by omega) fun c W hbW hcW=>?_)⟩
  have hi:=hI _ _ _ hi0 (Kc.of_below hbW)
  have hl:=(hbW.block _ hlt0).trans hl0
  have hk:=(hbW.block _ (Array.getElem?_eq_some_iff.1 hk0).1).trans hk0
  have hlt : w.heap.size + 1 < W.heap.size:=(Array.getElem?_eq_some_iff.1 hl).1
  refine ⟨_,run_beginRound hl (by rw [hrc]),?_⟩
  have hbusy : (W.putObj (w.heap.size + 1) (.loop { rc .ready none with state:=.busy })).heap[w.heap.size + 1]? = some (.loop { rc .ready none with state:=.busy }):=World.putObj_heap_same hlt
  have hdef : (W.putObj (w.heap.size + 1) (.loop { rc .ready none with state:=.busy })).heap[w.heap.size]? = some (.deferred (some [])):=(World.putObj_heap_other hne).trans hk
  have oA : OwnFrom w.heap.size (fun (_ : Unit) W=>AS x c W):=fun _ A B row hs hg hr=>hAS x c A B hs (Kc.grown hg hr)
  refine wpIn_mono (hbody _ pre x c _ (oI.putObj _ hi (by omega) hl rfl) (oA.putObj (s:=()) _ hcW (by omega) hl rfl) hR) ?_
  have fin : ∀ (jump : Option Code) (W3 : World),KeepsFrom w.heap.size (W.putObj (w.heap.size + 1) (.loop { rc .ready none with state:=.busy })) W3 ->
   (Instr.endRound (w.heap.size + 1) jump).run P W3 = .ok (.bool jump.isNone) (W3.putObj (w.heap.size + 1) (.loop (rc (if jump.isNone then .ready else .done) jump))) ∧
   W3.heap[w.heap.size + 1]? = some (.loop { rc .ready none with state:=.busy }) ∧
   (W3.putObj (w.heap.size + 1) (.loop (rc (if jump.isNone then .ready else .done) jump))).heap[w.heap.size + 1]? = some (.loop (rc (if jump.isNone then .ready else .done) jump)) ∧
   (W3.putObj (w.heap.size + 1) (.loop (rc (if jump.isNone then .ready else .done) jump))).heap[w.heap.size]? = some (.deferred (some [])):=fun jump W3 hk3=>by
   have hl3:=hk3.same _ _ (by omega) hbusy rfl
   have:=run_endRound (P:=P) jump hl3
   rw [hrc] at this ⊢
   exact ⟨this,by rw [hrc] at hl3; exact hl3,World.putObj_heap_same (Array.getElem?_eq_some_iff.1 hl3).1,(World.putObj_heap_other hne).trans (hk3.same _ _ (Nat.le_refl _) hdef rfl)⟩
  rintro e a3 W3 hp;cases e with
  | normal =>
   obtain ⟨hk3,hi3⟩:=hp
   obtain ⟨hr,hl3,hl4,hk4⟩:=fin none W3 hk3
   exact ⟨_,_,hr,.inl ⟨rfl,oI.putObj _ hi3 (by omega) hl3 rfl,hl4,hk4⟩⟩
  | ret =>
   obtain ⟨hk3,hi3⟩:=hp
   obtain ⟨hr,hl3,hl4,hk4⟩:=fin (some .ret) W3 hk3
   exact ⟨_,_,hr,.inr ⟨rfl,oIx.putObj _ hi3 (by omega) hl3 rfl,hl4,hk4⟩⟩
  | exit id=>exact hp.elim
  | goto t=>exact hp.elim
  | panic ch=>exact hp.elim
  | outgrown=>exact hp.elim
 ·rintro e W2 ⟨⟨v,rfl⟩,(⟨xs,hS,hi,hl,hk⟩ | ⟨pre,hi,hl,hk⟩)⟩
  ·exact ⟨none,_,by have:=run_endLoop (P:=P) hl (by rw [hrc]; simp); rw [hrc] at this; exact this,hdone _ xs _ (Nat.le_refl _) hS (oI.putObj _ hi (by omega) hl rfl) ((World.putObj_heap_other hne).trans hk)⟩
  ·exact ⟨some .ret,_,by have:=run_endLoop (P:=P) hl (by rw [hrc]; simp); rw [hrc] at this; exact this,hstop _ pre _ (Nat.le_refl _) (oIx.putObj _ hi (by omega) hl rfl) ((World.putObj_heap_other hne).trans hk)⟩
theorem made_zero32 (n : Nat) : madeCells #[.int .i32 0] n = (ivs .i32 (List.replicate n 0)).toArray:=by
 apply Array.ext
 ·simp [madeCells,ivs]
 ·intro i h1 h2
  simp [madeCells,ivs,Nat.mod_one]
theorem cell_below {w W : World} (h : Below w.heap.size w W) {b o : Nat} {v : Value} (hc : w.cell? ⟨b,o,none⟩ = some v) : W.cell? ⟨b,o,none⟩ = some v:=by
 by_cases hlt : b < w.heap.size
 ·have e:=h.block b hlt
  simp only [World.cell?,e] at hc ⊢
  exact hc
 ·have e : w.heap[b]? = none:=Array.getElem?_eq_none (by omega)
  simp [World.cell?,e] at hc
theorem mg_get : ∀ (O M : List Int) (i : Nat) (h : i < O.length),(mg O M)[i]'(by rw [mg_len]; exact h) = if O[i] = 0 then M.getD (ps (fr O) i).toNat 0 else O[i]
 | [],_,_,h=>by simp at h
 | o :: O,M,0,h=>by
  rw [ps_0];unfold mg;by_cases ho : o = 0
  ·simp only [ho,if_true,List.getElem_cons_zero]
   cases M <;> rfl
  ·simp only [ho,if_false,List.getElem_cons_zero]
 | o :: O,M,i + 1,h=>by
  have h' : i < O.length:=by simpa using h
  have e : fr (o :: O) = (if o = 0 then 1 else 0) :: fr O:=rfl
  have hb:=(ps_bd (fr O) (fr_bd O) i).1
  rw [e,ps_cons];unfold mg;by_cases ho : o = 0
  ·simp only [ho,if_true,List.getElem_cons_succ]
   rw [mg_get O M.tail i h'];have e2 : (1 + ps (fr O) i).toNat = (ps (fr O) i).toNat + 1:=by omega
   rw [e2];cases M with
   | nil=>simp
   | cons m M=>simp
  ·simp only [ho,if_false,List.getElem_cons_succ]
   rw [mg_get O M i h'];simp
def two (A B : List Int) (i : Nat) : List Int:=A.take i ++ B.drop i
theorem two_step {A B : List Int} {i : Nat} (hl : A.length = B.length) (hi : i < B.length) : two A B (i + 1) = (two A B i).set i (A[i]'(by omega)):=by
 unfold two;have e1 : A.take (i + 1) = A.take i ++ [A[i]'(by omega)]:=by rw [List.take_add_one,List.getElem?_eq_getElem (by omega)]; rfl
 have e2 : B.drop i = B[i] :: B.drop (i + 1):=List.drop_eq_getElem_cons hi
 have e3 : (A.take i).length = i:=by rw [List.length_take]; omega
 rw [e1,e2,List.set_append_right _ _ (by omega),e3,Nat.sub_self,List.set_cons_zero,List.append_assoc];rfl
theorem two_get {A B : List Int} {i : Nat} (hl : A.length = B.length) (hi : i < B.length) : (two A B i)[i]? = some B[i]:=by
 unfold two;have e3 : (A.take i).length = i:=by rw [List.length_take]; omega
 rw [List.getElem?_append_right (by omega),e3,Nat.sub_self,List.getElem?_drop,Nat.add_zero,List.getElem?_eq_getElem hi]
theorem two_same {A B : List Int} {i : Nat} (hl : A.length = B.length) (hi : i < B.length) (he : A[i]'(by omega) = B[i]) : two A B (i + 1) = two A B i:=by
 rw [two_step hl hi,he];obtain ⟨h,e⟩:=List.getElem?_eq_some_iff.1 (two_get hl hi)
 rw [<- e,List.set_getElem_self]
theorem two_fin {A B : List Int} (hl : A.length = B.length) : two A B B.length = A:=by unfold two;rw [List.drop_length,List.append_nil,<- hl,List.take_length]
def IB (w : World) (low : List Int) (es : List Ent) (N g o5 b o6 : Nat) (ao : Option Addr) (cap pb : Nat) (pre : List (Nat × Ent)) (W : World) : Prop :=
 ∃ O,PW w N g o5 b o6 O (fr O) W ∧ PI low es (es.length - pre.length) O ∧ Bx W pb (.slice ao es.length cap) 241
theorem tb_len (es : List Ent) (k : Nat) : (tb es k).length = k:=by unfold tb; simp
attribute [local go_sem] Oper.semAt_some
theorem putin_any (low : ByteArray) (es : List Ent) (hl : low.size + es.length <= 120) (hE : EntOk low.size es) (ao : Option Addr) (cap : Nat) (w : World)
 (hrow : ∀ i (h : i < es.length),∃ g,ao = some ⟨g,0,none⟩ ∧ w.cell? ⟨g,i * 2,none⟩ = some (.int .i32 es[i].1) ∧ w.cell? ⟨g,i * 2 + 1,none⟩ = some (.int .i64 es[i].2)) :
 Calls Tryz.prog 203 #[.string low,.slice ao es.length cap] w fun e w'=>∃ g,e = .returned (.slice (some ⟨g,0,none⟩) (low.size + es.length) (low.size + es.length)) ∧ w.heap.size <= g ∧ Ro w' g (putL (bsI low) es) ∧ Below w.heap.size w w':=by
 have HE:=hid hE
 have HR:=hid hrow
 clear hE hrow;have hmk : ∀ w,(Instr.makeSlice 22 (.int .i64 ((low.size : Int) + (es.length : Int))) (.int .i64 ((low.size : Int) + (es.length : Int)))).run Tryz.prog w = .ok (.slice (some ⟨w.heap.size,0,none⟩) (low.size + es.length) (low.size + es.length)) (w.alloc (.cells (madeCells #[.int .i32 0] (low.size + es.length)) 21)):=fun w=>by
  have:=run_make_row' 22 21 (.int .i32 0) 4 Tryz.underlying22 Pu.Tryz.info_rn rfl .i64 .i64 (low.size + es.length) (by omega) (by omega) w
  simpa using this
 refine (callsIn_wide (n:=6)).1 ?_
 refine callsIn_of_wp_marks Tryz.func203 rfl trivial ?_ rfl
 simp only [Tryz.ntmps203,List.size_toArray,List.length_cons,List.length_nil,Nat.reduceAdd,Nat.reduceSub,Array.replicate_succ,Array.replicate_zero,List.push_toArray,List.append_toArray,List.nil_append,List.cons_append]
 have HNt : Hid (∀ w,Calls Tryz.prog 195 #[.int .i64 ((low.size : Int) + (es.length : Int))] w fun e w'=>e = .returned (.slice (some ⟨w.heap.size,0,none⟩) (low.size + es.length + 1) (low.size + es.length + 1)) ∧ Blk w' w.heap.size (List.replicate (low.size + es.length + 1) 0) [] ∧ Below w.heap.size w w'):=fun w=>by
  have:=newt_any (low.size + es.length) (by omega) w
  rw [Int.natCast_add] at this;exact this
 have X0:=heap_new w (.cells (madeCells #[.int .i32 0] (low.size + es.length)) 21)
 rw [made_zero32] at X0;have HX0 : Hid (Ro (w.alloc (.cells (madeCells #[.int .i32 0] (low.size + es.length)) 21)) w.heap.size (List.replicate (low.size + es.length) 0)):=by
  show Ro _ _ _
  unfold Ro;rw [made_zero32];exact X0
 clear X0;have HX5:=hid (Bx.new (w.alloc (.cells (madeCells #[.int .i32 0] (low.size + es.length)) 21)) (.slice (some ⟨w.heap.size,0,none⟩) (low.size + es.length) (low.size + es.length)) 22)
 gi_wp2_with (first | (refine ⟨trivial,?_⟩; gi_at_call 195; refine (callsIn_wide.2 (HNt.out _)).mono ?_; rintro e w1 ⟨rfl,hB1,hb1⟩; have HI1:=hid (And.intro hB1 hb1); clear hB1 hb1; have c5 : ∀ o,(w1.alloc o).cell? ⟨w.heap.size + 1,0,none⟩ = some (.slice (some ⟨w.heap.size,0,none⟩) (low.size + es.length) (low.size + es.length)):=fun o=>by have:=((HX5.out.step HI1.out.2).alloc o).cell; simpa using this))
 have HA : Hid (Ap w w.heap.size (w.heap.size + 1) (w.heap.size + 1 + 1) w1.heap.size):=by
  have h1:=HI1.out.1.lt
  have h2:=HI1.out.2.size
  simp at h1 h2
  exact ⟨by omega,by omega,by omega,by omega,by omega,by omega,by omega⟩
 have HP : Hid (PW w (low.size + es.length) w.heap.size (w.heap.size + 1) (w.heap.size + 1 + 1) w1.heap.size (List.replicate (low.size + es.length) 0) (onL (low.size + es.length) 0) (w1.alloc (.cells #[.slice (some ⟨w.heap.size + 1 + 1,0,none⟩) (low.size + es.length + 1) (low.size + es.length + 1)] 236))):=by
  obtain ⟨hB1,hb1⟩:=HI1.out
  have h2:=hb1.size
  simp at h2
  have hz : Below w.heap.size w ((w.alloc (.cells (madeCells #[.int .i32 0] (low.size + es.length)) 21)).alloc (.cells #[.slice (some ⟨w.heap.size,0,none⟩) (low.size + es.length) (low.size + es.length)] 22)):=((Below.refl _ _).alloc (Nat.le_refl _) _).alloc (by simp) _
  have e5:=HX5.out
  have e1 : (w.alloc (.cells (madeCells #[.int .i32 0] (low.size + es.length)) 21)).heap.size = w.heap.size + 1:=by simp
  have e2 : ((w.alloc (.cells (madeCells #[.int .i32 0] (low.size + es.length)) 21)).alloc (.cells #[.slice (some ⟨w.heap.size,0,none⟩) (low.size + es.length) (low.size + es.length)] 22)).heap.size = w.heap.size + 1 + 1:=by simp
  rw [e1] at e5;rw [e2] at hB1;have hal : Below w1.heap.size w1 (w1.alloc (.cells #[.slice (some ⟨w.heap.size + 1 + 1,0,none⟩) (low.size + es.length + 1) (low.size + es.length + 1)] 236)):=(Below.refl _ _).alloc (Nat.le_refl _) _
  refine ⟨(hz.trans (hb1.mono hz.size)).trans (hal.mono (by omega)),?_,(e5.step hb1).step hal,Bx.new w1 _ _,?_⟩
  ·exact ((HX0.out.step ((Below.refl _ _).alloc (Nat.le_refl _) _)).step hb1).step hal
  ·rw [onL_zero];exact ⟨_,hB1.step hal,tal_zero _ (by omega),by simp⟩
 clear HX0 HX5 HI1 c5 HNt hmk;have eN : (low.size : Int) + (es.length : Int) = ((low.size + es.length : Nat) : Int):=by omega
 rw [eN];have HNe:=hid (Eq.refl (low.size + es.length));have hb0 : es.length <= 120:=by omega
 clear eN;generalize w1.alloc (.cells #[.slice (some ⟨w.heap.size + 1 + 1,0,none⟩) (low.size + es.length + 1) (low.size + es.length + 1)] 236) = W0 at *;generalize w1.heap.size = o6 at *
 clear w1;generalize hN : low.size + es.length = N at *;replace HNe:=hid hN
 clear hN;gi_loopw [25] (fun i wr=>∃ k : Nat,k <= N ∧ i = .int .i64 k ∧ Hid (PW w N w.heap.size (w.heap.size + 1) (w.heap.size + 1 + 1) o6 (List.replicate N 0) (onL N k) wr)) (fun i _=>N - (intOf i).toNat)
 case atStart=>exact ⟨0,Nat.zero_le _,rfl,HP.out⟩
 case round =>
  obtain ⟨k,hk,rfl,H⟩:=hrel
  clear HP;by_cases hlt : k < N
  ·have c6:=H.out.b6.cell
   have HAd : Hid (Calls Tryz.prog 196 #[.slice (some ⟨w.heap.size + 1 + 1,0,none⟩) (N + 1) (N + 1),.int .i64 k,.int .i64 1] wr fun e w'=>e = .returned (.tuple #[]) ∧ Hid (PW w N w.heap.size (w.heap.size + 1) (w.heap.size + 1 + 1) o6 (List.replicate N 0) (onL N (k + 1)) w')):=by
    obtain ⟨R,hB,hT,hl⟩:=H.out.tl
    have hkl : k < (onL N k).length:=by rw [onL_len]; exact hlt
    refine (tadd_any hB hT k hkl 1 (by rw [onL_get]; simp) (N + 1) hl).mono ?_
    rintro e w' ⟨rfl,h1,h2⟩;rw [onL_step] at h1;exact ⟨rfl,H.out.turn HA.out h2 h1⟩
   have hltz : (k : Int) < (N : Int):=by omega
   gi_wp2_with (first | (refine ⟨trivial,?_⟩; gi_at_call 196; refine (callsIn_wide.2 HAd.out).mono ?_; rintro e w2 ⟨rfl,H2⟩))
   go_roundw
   case rel=>exact ⟨k + 1,hlt,by go_num,H2⟩
   case measure=>(simp [intOf]) <;> omega
  ·have hke : k = N:=by omega
   subst hke;clear hk hlt;gi_wp2_with (first | (refine ⟨trivial,?_⟩; gi_at_call 260; refine (callsIn_wide.2 (back_any _ _ _ _)).mono ?_; rintro e w' ⟨rfl,rfl⟩))
   have HI : Hid (IB w (bsI low) es k w.heap.size (w.heap.size + 1) (w.heap.size + 1 + 1) o6 ao cap wr.heap.size [] (wr.alloc (.cells #[.slice ao es.length cap] 241))):=by
    refine ⟨List.replicate k 0,?_,?_,Bx.new wr _ _⟩
    ·rw [<- onL_fr];exact H.out.step ((Below.refl _ _).alloc (Nat.le_refl _) _)
    ·have:=PI.start (bsI low) es
     rw [bsI_len,HNe.out] at this;exact this
   have hT:=back1_tells 5 ao cap wr.heap.size (by omega) es (by omega) (wr.alloc (.cells #[.slice ao es.length cap] 241))
   have HZ : Hid (w.heap.size < (wr.alloc (.cells #[.slice ao es.length cap] 241)).heap.size ∧ w.heap.size + 1 + 1 < (wr.alloc (.cells #[.slice ao es.length cap] 241)).heap.size ∧ o6 < (wr.alloc (.cells #[.slice ao es.length cap] 241)).heap.size):=by
    obtain ⟨O,h1,_,_⟩:=HI.out
    obtain ⟨R,h2,_⟩:=h1.tl
    exact ⟨h1.ro.lt,h2.lt,h1.b6.lt⟩
   have HO : Hid (w.heap.size < wr.heap.size ∧ w.heap.size + 1 + 1 < wr.heap.size):=by
    obtain ⟨R,h2,_⟩:=H.out.tl
    exact ⟨H.out.ro.lt,h2.lt⟩
   clear H;generalize wr.alloc (.cells #[.slice ao es.length cap] 241) = W1 at *;generalize wr.heap.size = o7 at *;have hz0 : w.heap.size <= W1.heap.size:=by have:=HZ.out; omega
   refine wpIn_told3 rfl (by omega) (gf:=288) (lb:=#[.pointer (some ⟨o7,0,none⟩)]) rfl trivial (enters_of Tryz.func288 (by kernel_rfl) rfl) hT (fun _=>rfl)
    (IB w (bsI low) es k w.heap.size (w.heap.size + 1) (w.heap.size + 1 + 1) o6 ao cap o7) (fun _ _=>False) (fun pre A B h hk=>by obtain ⟨O,h1,h2,h3⟩:=h; exact ⟨O,h1.keep hk hz0,h2,hk.bx h3⟩) (fun _ _ _ h _=>h)
    (fun pre A h=>by
     obtain ⟨O,h1,h2,h3⟩:=h
     refine ⟨h3,fun i hi=>?_⟩
     obtain ⟨g,e1,e2,e3⟩:=HR.out i hi
     exact ⟨g,e1,cell_below h1.bel e2,cell_below h1.bel e3⟩) HI.out
    (fun x c W=>∃ bx,W1.heap.size <= bx ∧ W.heap[bx]? = some (.cells #[.int .i32 x.2.1,.int .i64 x.2.2] 286) ∧ c = { tmps:=#[.string low,.slice ao es.length cap,undef,undef,.slice none 0 0,.pointer (some ⟨w.heap.size + 1,0,none⟩),.pointer (some ⟨o6,0,none⟩),u7,undef,.pointer (some ⟨bx,0,none⟩),undef,undef,undef,undef,.string low,.int .i64 (low.size : Int),.slice ao es.length cap,.int .i64 (es.length : Int),.int .i64 (k : Int),.slice (some ⟨w.heap.size,0,none⟩) k k,.slice (some ⟨w.heap.size,0,none⟩) k k,.int .i64 (k : Int),.slice (some ⟨w.heap.size + 1 + 1,0,none⟩) (k + 1) (k + 1),.slice (some ⟨w.heap.size,0,none⟩) k k,.int .i64 (k : Int),.int .i64 (k : Int),.bool false,u27,u28,u29,u30,u31,.slice ao es.length cap,.func (.func 288) #[] #[.pointer (some ⟨o7,0,none⟩)],.int .i64 (x.1 : Int),.agg #[.int .i32 x.2.1,.int .i64 x.2.2],undef,undef,undef,undef,undef,undef,undef,undef,undef,undef,undef,undef,undef,undef,undef,undef,undef,undef,undef,undef,undef,undef,undef,undef,undef,undef,undef,undef,undef,undef,undef,undef],defers:=[] }) (fun x c A B h hk=>by obtain ⟨bx,h1,h2,h3⟩:=h; exact ⟨bx,h1,hk.same _ _ h2 (.inr rfl),h3⟩) ?assign ?body ?done ?stop
   case assign =>
    intro l x W K hsz hK
    have e : (#[34,35].zip (toldB x)).foldl (fun (t : Array Value) (p : Nat × Value)=>t.setIfInBounds p.1 p.2) #[.string low,.slice ao es.length cap,undef,undef,.slice none 0 0,.pointer (some ⟨w.heap.size + 1,0,none⟩),.pointer (some ⟨o6,0,none⟩),u7,undef,undef,undef,undef,undef,undef,.string low,.int .i64 (low.size : Int),.slice ao es.length cap,.int .i64 (es.length : Int),.int .i64 (k : Int),.slice (some ⟨w.heap.size,0,none⟩) k k,.slice (some ⟨w.heap.size,0,none⟩) k k,.int .i64 (k : Int),.slice (some ⟨w.heap.size + 1 + 1,0,none⟩) (k + 1) (k + 1),.slice (some ⟨w.heap.size,0,none⟩) k k,.int .i64 (k : Int),.int .i64 (k : Int),.bool false,u27,u28,u29,u30,u31,.slice ao es.length cap,.func (.func 288) #[] #[.pointer (some ⟨o7,0,none⟩)],undef,undef,undef,undef,undef,undef,undef,undef,undef,undef,undef,undef,undef,undef,undef,undef,undef,undef,undef,undef,undef,undef,undef,undef,undef,undef,undef,undef,undef,undef,undef,undef,undef,undef] = #[.string low,.slice ao es.length cap,undef,undef,.slice none 0 0,.pointer (some ⟨w.heap.size + 1,0,none⟩),.pointer (some ⟨o6,0,none⟩),u7,undef,undef,undef,undef,undef,undef,.string low,.int .i64 (low.size : Int),.slice ao es.length cap,.int .i64 (es.length : Int),.int .i64 (k : Int),.slice (some ⟨w.heap.size,0,none⟩) k k,.slice (some ⟨w.heap.size,0,none⟩) k k,.int .i64 (k : Int),.slice (some ⟨w.heap.size + 1 + 1,0,none⟩) (k + 1) (k + 1),.slice (some ⟨w.heap.size,0,none⟩) k k,.int .i64 (k : Int),.int .i64 (k : Int),.bool false,u27,u28,u29,u30,u31,.slice ao es.length cap,.func (.func 288) #[] #[.pointer (some ⟨o7,0,none⟩)],.int .i64 (x.1 : Int),.agg #[.int .i32 x.2.1,.int .i64 x.2.2],undef,undef,undef,undef,undef,undef,undef,undef,undef,undef,undef,undef,undef,undef,undef,undef,undef,undef,undef,undef,undef,undef,undef,undef,undef,undef,undef,undef,undef,undef,undef,undef]:=by simp [toldB]
    rw [e];obtain ⟨x1,x2,x3⟩:=x
    clear e;gi_wp2_with fail
    exact hK _ _ ((Below.refl _ _).alloc (Nat.le_refl _) _) ⟨W.heap.size,hsz,heap_new W _,rfl⟩
   case body =>
    rintro l pre x c W hIB ⟨bx,hbx,hc9,rfl⟩ hNx;clear hT HI;obtain ⟨O,hPW,hPI,hBx⟩:=hIB
    obtain ⟨m,hm,rfl,rfl⟩:=hNx
    rw [tb_len] at hPI;obtain ⟨j,hj⟩ : ∃ j,es.length - 1 - m = j:=⟨_,rfl⟩
    have hjl : j < es.length:=by omega
    have ex : tbN es m = (j,es[j]):=by unfold tbN;rw [hj,List.getD_eq_getElem?_getD,List.getElem?_eq_getElem hjl]; rfl
    rw [show es.length - m = j + 1 by omega] at hPI
    have HTb:=hid (tb_succ es m);rw [ex] at HTb hc9
    rw [ex];have htl:=hPI.tell hjl (by rw [bsI_len]; exact HE.out)
    have HSt : Hid (∀ q,At1 (fr O) q es[j].2 -> PI (bsI low) es j (O.set q es[j].1)):=fun q hq=>(hPI.step hjl (by rw [bsI_len]; exact HE.out) hq).1
    have hcd:=HE.out j hjl
    have HLn : Hid (es.length - (tb es m ++ [(j,es[j])]).length = j):=by
     show _ = _;rw [List.length_append,tb_len];simp
     omega
    have hOl : O.length = k:=by have:=hPI.len; rw [bsI_len,HNe.out] at this; exact this
    have HF : Hid (Calls Tryz.prog 261 #[.slice (some ⟨w.heap.size + 1 + 1,0,none⟩) (k + 1) (k + 1),.int .i64 es[j].2] W fun e w'=>(∃ p : Nat,e = .returned (.int .i64 p) ∧ At1 (fr O) p es[j].2) ∧ w' = W):=by
     obtain ⟨R,hB,hT,hl⟩:=hPW.tl
     exact tfind_any hB hT _ htl.1 htl.2 (k + 1) hl
    have HAd : Hid (∀ p,At1 (fr O) p es[j].2 -> Calls Tryz.prog 196 #[.slice (some ⟨w.heap.size + 1 + 1,0,none⟩) (k + 1) (k + 1),.int .i64 p,.int .i64 (-1)] W fun e w'=>e = .returned (.tuple #[]) ∧ Hid (PW w k w.heap.size (w.heap.size + 1) (w.heap.size + 1 + 1) o6 O (fr (O.set p es[j].1)) w' ∧ Alt (w.heap.size + 1 + 1) W w')):=fun p hp=>by
     obtain ⟨R,hB,hT,hl⟩:=hPW.tl
     obtain ⟨p1,p2,p3⟩:=hp
     refine (tadd_any hB hT p p1 (-1) (by rw [p3]; omega) (k + 1) hl).mono ?_
     rintro e w' ⟨rfl,h1,h2⟩;rw [p3] at h1;rw [fr_set _ _ _ (by omega)];exact ⟨rfl,hPW.turn HA.out h2 h1,h2⟩
    have c6:=hPW.b6.cell
    have c91 : W.cell? ⟨bx,1,none⟩ = some (.int .i64 es[j].2):=by simp [World.cell?,hc9]
    have HC9:=hid hc9
    have HBx:=hid hBx
    clear hPW hPI htl hcd hc9 ex hBx;generalize es[j] = en at *;obtain ⟨x1,x2⟩:=en
    gi_wp2_with (first | (refine ⟨trivial,?_⟩; gi_at_call 261; refine (callsIn_wide.2 HF.out).mono ?_; rintro e Wb ⟨⟨p,rfl,hp⟩,rfl⟩; have HQ:=hid hp; clear hp))
    have hpk : p < k:=by obtain ⟨h1,_⟩:=HQ.out; rw [fr_len,hOl] at h1; exact h1
    have hpz : (p : Int) < (k : Int):=by omega
    refine ⟨trivial,?_⟩
    gi_at_call 196
    refine (callsIn_wide.2 (HAd.out p HQ.out)).mono ?_;rintro e W2 ⟨rfl,H2⟩;have c5:=H2.out.1.b5.cell
    have hcn : W2.heap[bx]? = some (.cells #[.int .i32 x1,.int .i64 x2] 286):=(H2.out.2.block bx (Array.getElem?_eq_some_iff.1 HC9.out).1 (by have:=HZ.out; omega)).trans HC9.out
    have c90 : W2.cell? ⟨bx,0,none⟩ = some (.int .i32 x1):=by simp [World.cell?,hcn]
    have cg:=H2.out.1.ro.cell p _ (List.getElem?_eq_getElem (by omega))
    have fg:=H2.out.1.ro.frozen p
    have HEnd : Hid (goesR W1.heap.size (IB w (bsI low) es k w.heap.size (w.heap.size + 1) (w.heap.size + 1 + 1) o6 ao cap o7) (fun _ _=>False) (tb es m ++ [(j,(x1,x2))]) Wb .normal { tmps:=#[],defers:=[] } (W2.setCell ⟨w.heap.size,p,none⟩ (.int .i32 x1))):=by
     have ha2 : Alt w.heap.size W2 (W2.setCell ⟨w.heap.size,p,none⟩ (.int .i32 x1)):=(Alt.refl _ _).set _ _
     refine ⟨⟨Nat.le_trans H2.out.2.size ha2.size,fun q o hq ho _=>?_⟩,O.set p x1,H2.out.1.store HA.out p x1,?_,?_⟩
     ·have hq1:=(Array.getElem?_eq_some_iff.1 ho).1
      have hs:=H2.out.2.size
      have hz:=HZ.out
      rw [ha2.block q (by omega) (by omega),H2.out.2.block q hq1 (by omega),ho]
     ·rw [HLn.out];exact HSt.out p HQ.out
     ·have hne:=HO.out
      exact bx_alt (bx_alt HBx.out H2.out.2 (by omega)) ha2 (by omega)
    clear hcn;gi_wp2_with fail
    exact HEnd.out
   case done =>
    rintro D xs W hD hS hI hK;clear hT HI;subst hS;obtain ⟨O,hPW,hPI,_⟩:=hI
    rw [tb_len,Nat.sub_self] at hPI;have HFin : Hid (mg O (bsI low) = putL (bsI low) es):=hPI.fin
    have hcnt:=hPI.cnt
    have hOl : O.length = k:=by have:=hPI.len; rw [bsI_len,HNe.out] at this; exact this
    rw [bsI_len,hOl] at hcnt;have HCnt : Hid (ps (fr O) k = low.size):=by show _ = _; omega
    have HOl:=hid hOl
    have HBig:=hid hPI.big
    have HP:=hid (And.intro hPW hK);have c5:=hPW.b5.cell
    clear hPW hK hPI hcnt hOl;gi_wp2_with fail
    clear c5;refine wpIn_wide.2 ?_
    go_loopg [11,50] k (fun gg vn vi wq=>∃ i nx : Nat,vn = .int .i64 nx ∧ vi = .int .i64 i ∧ i <= k ∧ nx <= 120 ∧ gg = k - i ∧ Hid ((nx : Int) = ps (fr O) i ∧ PW w k w.heap.size (w.heap.size + 1) (w.heap.size + 1 + 1) o6 (two (mg O (bsI low)) O i) (fr O) wq ∧ wq.heap[D]? = some (.deferred (some []))))
    case atStart=>exact ⟨0,0,rfl,rfl,Nat.zero_le _,Nat.zero_le _,rfl,by rw [ps_0]; rfl,HP.out.1,HP.out.2⟩
    case round =>
     obtain ⟨i,nx,rfl,rfl,hik,hnx,hgg,H⟩:=hrel
     have HGG:=hid hgg
     clear hgg HP;by_cases hlt : i < k
     ·have hltz : (i : Int) < (k : Int):=by omega
      have hgl : (mg O (bsI low)).length = O.length:=mg_len _ _
      have c5:=H.out.2.1.b5.cell
      have hio : i < O.length:=by rw [HOl.out]; exact hlt
      have cg:=H.out.2.1.ro.cell i _ (two_get hgl hio)
      have hps:=ps_succ (fr O) i (by rw [fr_len]; exact hio)
      rw [fr_get] at hps;have hbg:=HBig.out O[i] (List.getElem_mem hio)
      have HGt:=hid (mg_get O (bsI low) i hio);have HTs:=hid (two_step hgl hio);have HTe : Hid (O[i] ≠ 0 -> two (mg O (bsI low)) O (i + 1) = two (mg O (bsI low)) O i):=fun h=>two_same hgl hio (by rw [mg_get O (bsI low) i hio,if_neg h])
      by_cases h0 : O[i] = 0
      ·rw [if_pos h0] at hps;rw [h0] at cg;clear hbg HTe;have hb1 : nx < low.size:=by
        have h1:=H.out.1
        have h2:=HCnt.out
        have h3:=ps_mono (fr O) (fr_bd O) (i + 1) k (by omega)
        omega
       have hb1z : (nx : Int) < (low.size : Int):=by omega
       have c5d : wr.drew.cell? ⟨w.heap.size + 1,0,none⟩ = some (.slice (some ⟨w.heap.size,0,none⟩) k k):=c5
       have fg:=H.out.2.1.ro.frozen i
       have HPs:=hid hps
       clear hps;have HW : Hid (PW w k w.heap.size (w.heap.size + 1) (w.heap.size + 1 + 1) o6 (two (mg O (bsI low)) O (i + 1)) (fr O) (wr.setCell ⟨w.heap.size,i,none⟩ (.int .i32 (wrap32 (low[nx].toNat : Int)))).drew ∧ (wr.setCell ⟨w.heap.size,i,none⟩ (.int .i32 (wrap32 (low[nx].toNat : Int)))).drew.heap[D]? = some (.deferred (some []))):=by
        have hw : wrap32 (low[nx].toNat : Int) = (low[nx].toNat : Int):=by
         have:=low[nx].toNat_lt
         unfold wrap32;omega
        have hd : (bsI low).getD nx 0 = (low[nx].toNat : Int):=by
         have:=congrArg List.head? (bsI_drop low nx hb1)
         rw [List.head?_drop] at this;rw [List.getD_eq_getElem?_getD,this];rfl
        have hn : (ps (fr O) i).toNat = nx:=by have:=H.out.1; omega
        rw [hw,HTs.out,HGt.out,if_pos h0,hn,hd];refine ⟨(H.out.2.1.store HA.out i _).step ((Below.refl _ _).drew),?_⟩
        have ha : Alt w.heap.size wr (wr.setCell ⟨w.heap.size,i,none⟩ (.int .i32 (low[nx].toNat : Int))):=(Alt.refl _ _).set _ _
        exact (ha.block D (Array.getElem?_eq_some_iff.1 H.out.2.2).1 (by have:=HZ.out; omega)).trans H.out.2.2
       clear HGt HTs;go_wp2_with fail;go_region
       go_wp2_with fail;go_roundg (k - (i + 1))
       case measure=>rw [HGG.out]; omega
       case rel=>exact ⟨i + 1,nx + 1,by go_num,by go_num,by omega,by have:=HNe.out; omega,rfl,by have:=H.out.1; have:=HPs.out; omega,HW.out.1,HW.out.2⟩
      ·rw [if_neg h0] at hps;have HPs:=hid hps
       have HW:=hid (HTe.out h0);clear HTe HTs HGt hps;generalize O[i] = r at *;go_wp2_with fail;go_roundg (k - (i + 1))
       case measure=>rw [HGG.out]; omega
       case rel=>exact ⟨i + 1,nx,rfl,by go_num,by omega,by omega,rfl,by have:=H.out.1; have:=HPs.out; omega,by rw [HW.out]; exact H.out.2.1,H.out.2.2⟩
     ·have hie : i = k:=by omega
      subst hie;have c5:=H.out.2.1.b5.cell
      clear hik hlt;go_wp2_with fail;gi_wp2_with fail
      refine ⟨by simp,.inl ⟨_,_,rfl,run_takeDeferred H.out.2.2,?_⟩⟩
      refine ⟨_,results_tmp rfl _ _ _,?_⟩
      have hkc:=Kc.grown (N:=W1.heap.size) (grownBy_putObj' wr D (.deferred none)) (fun r e=>by cases e; exact ⟨hD,_,H.out.2.2,rfl⟩)
      have hF:=H.out.2.1.keep hkc hz0
      refine ⟨w.heap.size,?_,Nat.le_refl _,?_,hF.bel⟩
      ·rw [HNe.out]; rfl
      ·have hro:=hF.ro
       have e : two (mg O (bsI low)) O i = putL (bsI low) es:=by
        rw [<- HFin.out];have:=two_fin (mg_len O (bsI low))
        rw [HOl.out] at this;exact this
       rw [e] at hro;exact hro
   case stop=>intro D xs W _ h; exact h.elim
theorem rdD_pos (bi : Int) : ∀ (l : List Int) (pl c k p2 : Int) (rest : List Int),0 <= pl -> 1 <= c -> rdD bi l pl c k = .inr (p2,rest) -> 0 <= p2
 | [],_,_,_,_,_,_,_,h=>by simp [rdD] at h
 | b :: l,pl,c,k,p2,rest,h0,hc,h=>by
  simp only [rdD] at h
  split at h
  ·cases h
  ·have hv : 0 <= vlP b * c:=Int.mul_nonneg (by omega) (by omega)
   split at h
   ·cases h
   ·split at h
    ·injection h with h;injection h with h _;omega
    ·split at h
     ·cases h
     ·have ht:=th_bd k bi
      have hc2 : 1 * 1 <= c * (36 - thP k bi):=Int.mul_le_mul hc (by omega) (by omega) (by omega)
      exact rdD_pos bi l _ _ _ p2 rest (by omega) (by omega) h
theorem EntOk.snoc {low : Nat} {es : List Ent} {e : Ent} (h : EntOk low es) (h1 : 128 <= e.1 ∧ e.1 <= 1114111 ∧ 0 <= e.2 ∧ e.2 <= (low : Int) + es.length) : EntOk low (es ++ [e]):=by
 intro k hk
 by_cases hlt : k < es.length
 ·rw [List.getElem_append_left hlt];exact h k hlt
 ·rw [List.length_append] at hk;have hk' : k = es.length:=by simp at hk; omega
  subst hk';rw [List.getElem_append_right (Nat.le_refl _)];simp only [Nat.sub_self,List.getElem_cons_zero]
  exact h1
theorem rdS_ok (low : Nat) : ∀ (f : Nat) (s : DS) (l : List Int) (es : List Ent),EntOk low s.out -> s.st = low + s.out.length -> 128 <= s.n -> s.n <= 1114111 -> 0 <= s.place -> rdS f s l = .inr es -> EntOk low es ∧ es.length <= s.out.length + l.length
 | 0,s,l,es,h1,_,_,_,_,h=>by
  simp only [rdS] at h
  injection h with h;subst h;exact ⟨h1,by omega⟩
 | f + 1,s,[],es,h1,_,_,_,_,h=>by
  simp only [rdS] at h
  injection h with h;subst h;exact ⟨h1,by omega⟩
 | f + 1,s,b :: l,es,h1,h2,h3,h4,h5,h=>by
  rw [rdS_step f s _ (by simp)] at h;revert h
  cases hD : rdD s.bias (b :: l) s.place 1 36 with
  | inl e=>intro h; cases h
  | inr p =>
   obtain ⟨p2,rest⟩:=p
   have hp:=rdD_pos _ _ _ _ _ _ _ h5 (by omega) hD
   have hl:=rdD_len _ _ _ _ _ _ _ hD
   simp only
   intro h
   split at h
   ·cases h
   ·split at h
    ·cases h
    ·have hq : 0 <= p2 / ((s.st : Int) + 1):=Int.ediv_nonneg hp (by omega)
     have hm:=Int.emod_nonneg p2 (b:=(s.st : Int) + 1) (by omega)
     have hm2:=Int.emod_lt_of_pos p2 (b:=(s.st : Int) + 1) (by omega)
     have:=rdS_ok low f _ rest es (h1.snoc ⟨by simp only; omega,by simp only; omega,hm,by simp only; omega⟩) (by simp only [List.length_append,List.length_singleton]; omega) (by simp only; omega) (by simp only; omega) (by simp only; omega) h
     refine ⟨this.1,?_⟩
     have h7:=this.2
     simp only [List.length_append,List.length_singleton] at h7
     omega
def decP (L : List Int) (i : Int) : Sum Int (List Int) :=
 if (L.take i.toNat).any (fun b=>decide (128 <= b)) then .inl 9
 else match rdS (L.drop (i + 1).toNat).length ⟨128,0,72,(L.take i.toNat).length,[]⟩ (L.drop (i + 1).toNat) with
  | .inl e=>.inl e
  | .inr es=>.inr (putL (L.take i.toNat) es)
def decV (r : Sum Int (List Int)) (e : Ending) (w w' : World) : Prop:=match r with
 | .inl x=>e = .returned (.tuple #[.slice none 0 0,.int .i64 x])
 | .inr l=>∃ g,e = .returned (.tuple #[.slice (some ⟨g,0,none⟩) l.length l.length,.int .i64 0]) ∧ w.heap.size <= g ∧ Ro w' g l
def Hy (L : List Int) (i : Int) : Prop:=-1 <= i ∧ i < L.length ∧ (∀ k : Nat,(h : k < L.length) -> i < k -> L[k] ≠ 45) ∧ (∀ k : Nat,i = k -> (h : k < L.length) -> L[k] = 45)
theorem bsI_take (s : ByteArray) (n : Nat) : bsI (s.extract 0 n) = (bsI s).take n:=by
 unfold bsI;rw [<- List.map_take];congr 1
 simp
theorem bsI_dropE (s : ByteArray) (n : Nat) : bsI (s.extract n s.size) = (bsI s).drop n:=by unfold bsI;rw [ext_end,List.map_drop]
end Pu
end Go.Proofs.YtkhipgcgcbhjoaaGreat
