import Derived.Test.YtkhipgcgcbhjoaaGreatLa48
import Derived.Test.YtkhipgcgcbhjoaaGreatLa14
set_option maxRecDepth 100000
set_option maxHeartbeats 4000000
namespace Go.Proofs.YtkhipgcgcbhjoaaGreat
namespace Pu
open Go.RowKit
open Od hiding hid Blk Alt Alt.refl
open Odi
theorem back_any (ao : Option Addr) (n cap : Nat) (w : World) : Calls Tryz.prog 260 #[.slice ao n cap] w fun e w'=>e = .returned (.func (.func 288) #[] #[.pointer (some ⟨w.heap.size,0,none⟩)]) ∧ w' = w.alloc (.cells #[.slice ao n cap] 241):=by
 go_enter Tryz.func260,Tryz.ntmps260
 go_wp2
 go_ret;exact ⟨rfl,rfl⟩
def toldB (x : Nat × Ent) : Array Value:=#[.int .i64 (x.1 : Int),.agg #[.int .i32 x.2.1,.int .i64 x.2.2]]
def tbN (es : List Ent) (k : Nat) : Nat × Ent:=(es.length - 1 - k,es.getD (es.length - 1 - k) (0,0))
def tb (es : List Ent) (k : Nat) : List (Nat × Ent):=(List.range k).map (tbN es)
theorem tb_succ (es : List Ent) (k : Nat) : tb es (k + 1) = tb es k ++ [tbN es k]:=by unfold tb;rw [List.range_succ,List.map_append];rfl
structure NeB (ao : Option Addr) (cap pb : Nat) (es : List Ent) (pre : List (Nat × Ent)) (W : World) : Prop where
 bx : Bx W pb (.slice ao es.length cap) 241
 row : ∀ i (h : i < es.length),∃ g,ao = some ⟨g,0,none⟩ ∧ W.cell? ⟨g,i * 2,none⟩ = some (.int .i32 es[i].1) ∧ W.cell? ⟨g,i * 2 + 1,none⟩ = some (.int .i64 es[i].2)
def NextB (es : List Ent) (pre : List (Nat × Ent)) (x : Nat × Ent) : Prop:=∃ k,k < es.length ∧ pre = tb es k ∧ x = tbN es k
attribute [local go_sem] Oper.semAt_some
theorem back1_tells (n : Nat) (ao : Option Addr) (cap pb : Nat) (hn : 1 <= n) (es : List Ent) (hl : es.length <= 1000000) (w : World) :
 Tells2 Fence.wide n Tryz.prog 288 #[.pointer (some ⟨pb,0,none⟩)] toldB (NeB ao cap pb es) (NextB es) (fun xs=>xs = tb es es.length) w:=by
 intro y J Jx W hW hJb hJN hY h0
 have HJb:=hid hJb
 have HJN:=hid hJN
 have HY:=hid hY
 have H0:=hid h0
 have c0:=(hJN _ _ h0).bx.cell
 clear hJb hJN hY h0 hW;refine callsIn_of_wp Tryz.func288 rfl trivial ?_ rfl
 simp only [Tryz.ntmps288,List.size_toArray,List.length_cons,List.length_nil,Nat.reduceAdd,Nat.reduceSub,Array.replicate_succ,Array.replicate_zero,List.push_toArray,List.append_toArray,List.nil_append,List.cons_append]
 gi_wp2
 gi_loopw [3] (fun i wr=>∃ (k : Nat),k <= es.length ∧ i = .int .i64 ((es.length : Int) - 1 - k) ∧ Hid (J (tb es k) wr)) (fun i _=>(intOf i + 1).toNat)
 case atStart=>exact ⟨0,Nat.zero_le _,by go_num,H0.out⟩
 case round =>
  obtain ⟨k,hk,rfl,H⟩:=hrel
  clear H0 c0;by_cases hlt : k < es.length
  ·have hNe:=HJN.out _ _ H.out
   have c1:=hNe.bx.cell
   obtain ⟨g,rfl,c2,c3⟩:=hNe.row (es.length - 1 - k) (by omega)
   have hx : Hid (tbN es k = (es.length - 1 - k,es[es.length - 1 - k]'(by omega))):=by show _ = _;unfold tbN;rw [List.getD_eq_getElem?_getD,List.getElem?_eq_getElem (by omega)]; rfl
   have HN:=hid (tb_succ es k);have hR:=HY.out (tb es k) (tbN es k) wr H.out ⟨k,hlt,rfl,rfl⟩
   obtain ⟨fn,tmps,assign,body,hy,hRo⟩:=hR
   rw [hx.out] at hy HN
   rw [hx.out] at hRo;obtain ⟨j,hj⟩ : ∃ j : Nat,es.length - 1 - k = j:=⟨_,rfl⟩
   have hjz : (es.length : Int) - 1 - (k : Int) = (j : Int):=by omega
   have hjl : j < es.length:=by omega
   have z1 : (j : Int) < (es.length : Int):=by omega
   have e1 : es[es.length - 1 - k]'(by omega) = es[j]:=by congr 1
   rw [e1] at hy c2 c3 HN hRo
   rw [hj] at hy c2 c3 HN hRo
   rw [hjz];clear hNe hx e1;generalize es[j] = x at *;obtain ⟨x1,x2⟩:=x
   unfold toldB at hy;dsimp only at hy c2 c3
   have HK:=hid hk
   have HL:=hid hlt
   have HJ2:=hid hj
   clear hk hlt hj;gi_wp2_with fail
   refine hRo.mono ?_;rintro e W3 (⟨rfl,hJ3⟩ | ⟨rfl,hJx⟩)
   ·have H3:=hid hJ3
    clear hJ3;gi_wp2_with fail
    go_roundw
    case rel=>exact ⟨k + 1,HL.out,by have:=HJ2.out; have:=HL.out; congr 1; omega,by show J _ _; rw [HN.out]; exact H3.out⟩
    case measure=>(simp [intOf]) <;> omega
   ·have H3:=hid hJx
    clear hJx;gi_wp2_with fail
    (try simp only [Exit.inBlock,Exit.then])
    refine bodyPost_ret (results_none rfl _ _ _) rfl ?_
    exact ⟨⟨_,rfl⟩,.inr ⟨_,H3.out⟩⟩
  ·have hke : k = es.length:=by omega
   subst hke;have hz : (es.length : Int) - 1 - (es.length : Int) = -1:=by omega
   rw [hz];clear hk hlt;gi_wp2_with fail
   go_end0
   exact ⟨⟨_,rfl⟩,.inl ⟨_,rfl,H.out⟩⟩
def insA (l : List Int) (p : Nat) (c : Int) : List Int:=l.take p ++ c :: l.drop p
def putL (low : List Int) (es : List Ent) : List Int:=es.foldl (fun l e=>insA l e.2.toNat e.1) low
theorem insA_len (l : List Int) (p : Nat) (c : Int) : (insA l p c).length = l.length + 1:=by
 unfold insA;simp
 omega
theorem putL_len : ∀ (es : List Ent) (low : List Int),(putL low es).length = low.length + es.length
 | [],low=>rfl
 | e :: es,low=>by
  show (putL (insA low e.2.toNat e.1) es).length = _
  rw [putL_len es,insA_len,List.length_cons];omega
theorem putL_snoc (low : List Int) (es : List Ent) (e : Ent) : putL low (es ++ [e]) = insA (putL low es) e.2.toNat e.1:=by unfold putL;rw [List.foldl_append];rfl
def fr (O : List Int) : List Int:=O.map fun o=>if o = 0 then 1 else 0
def mg : List Int -> List Int -> List Int
 | [],_=>[]
 | o :: O,M=>if o = 0 then M.headD 0 :: mg O M.tail else o :: mg O M
theorem mg_len : ∀ (O M : List Int),(mg O M).length = O.length
 | [],_=>rfl
 | o :: O,M=>by unfold mg;split <;> simp [mg_len O]
theorem fr_len (O : List Int) : (fr O).length = O.length:=by unfold fr; rw [List.length_map]
theorem fr_bd (O : List Int) : ∀ x ∈ fr O,0 <= x ∧ x <= 1:=by
 intro x hx
 unfold fr at hx;obtain ⟨o,_,rfl⟩:=List.mem_map.1 hx
 split <;> omega
theorem ps_cons (x : Int) (a : List Int) (q : Nat) : ps (x :: a) (q + 1) = x + ps a q:=by unfold ps;rw [List.take_succ_cons,List.sum_cons]
theorem ps_0 (a : List Int) : ps a 0 = 0:=by unfold ps; simp
theorem mg_zero : ∀ (n : Nat) (M : List Int),M.length = n -> mg (List.replicate n 0) M = M
 | 0,[],_=>rfl
 | n + 1,m :: M,h=>by
  rw [List.replicate_succ];unfold mg;rw [if_pos rfl];show m :: mg _ M = _
  rw [mg_zero n M (by simpa using h)]
 | 0,_ :: _,h=>by simp at h
 | _ + 1,[],h=>by simp at h
theorem mg_ins : ∀ (O M : List Int) (p q : Nat) (c : Int),c ≠ 0 -> (hq : q < O.length) -> O[q] = 0 -> ps (fr O) q = p -> p <= M.length -> mg O (insA M p c) = mg (O.set q c) M
 | [],_,_,_,_,_,hq,_,_,_=>by simp at hq
 | o :: O,M,p,0,c,hc,hq,h0,hp,hM=>by
  rw [ps_0] at hp;have : p = 0:=by omega
  subst this;have h0 : o = 0:=h0
  subst h0;show mg (0 :: O) (c :: M) = mg (c :: O) M
  rw [mg,mg,if_pos rfl,if_neg hc];rfl
 | o :: O,M,p,q + 1,c,hc,hq,h0,hp,hM=>by
  have hq' : q < O.length:=by simpa using hq
  have h0' : O[q] = 0:=h0
  have e : fr (o :: O) = (if o = 0 then 1 else 0) :: fr O:=rfl
  rw [e,ps_cons] at hp;show mg (o :: O) _ = mg (o :: O.set q c) M
  by_cases ho : o = 0
  ·subst ho;rw [if_pos rfl] at hp;have hb:=(ps_bd (fr O) (fr_bd O) q).1
   cases p with
   | zero=>exfalso; omega
   | succ p =>
    cases M with
    | nil=>simp at hM
    | cons m M =>
     rw [show insA (m :: M) (p + 1) c = m :: insA M p c from rfl,mg,mg,if_pos rfl,if_pos rfl]
     show m :: mg O (insA M p c) = m :: mg (O.set q c) M
     rw [mg_ins O M p q c hc hq' h0' (by omega) (by simpa using hM)]
  ·rw [if_neg ho] at hp;rw [mg,mg,if_neg ho,if_neg ho,mg_ins O M p q c hc hq' h0' (by omega) hM]
theorem fr_set (O : List Int) (q : Nat) (c : Int) (hc : c ≠ 0) : fr (O.set q c) = (fr O).set q 0:=by unfold fr;rw [List.map_set,if_neg hc]
theorem fr_get (O : List Int) (q : Nat) (h : q < (fr O).length) : (fr O)[q] = if O[q]'(by rw [fr_len] at h; exact h) = 0 then 1 else 0:=by exact List.getElem_map _
def EntOk (low : Nat) (es : List Ent) : Prop:=∀ k (h : k < es.length),128 <= es[k].1 ∧ es[k].1 <= 1114111 ∧ 0 <= es[k].2 ∧ es[k].2 <= (low : Int) + k
structure PI (low : List Int) (es : List Ent) (j : Nat) (O : List Int) : Prop where
 len : O.length = low.length + es.length
 fin : mg O (putL low (es.take j)) = putL low es
 cnt : ps (fr O) O.length = low.length + j
 big : ∀ x ∈ O,x = 0 ∨ (128 <= x ∧ x <= 1114111)
theorem ps_ones : ∀ (n : Nat),ps (fr (List.replicate n 0)) n = n
 | 0=>rfl
 | n + 1=>by
  rw [List.replicate_succ];show ps (1 :: fr (List.replicate n 0)) (n + 1) = _
  rw [ps_cons,ps_ones n];omega
theorem PI.start (low : List Int) (es : List Ent) : PI low es es.length (List.replicate (low.length + es.length) 0):=by
 refine ⟨by simp,?_,?_,?_⟩
 ·rw [List.take_length];exact mg_zero _ _ (putL_len es low)
 ·rw [List.length_replicate,ps_ones];omega
 ·intro x hx
  exact .inl (List.eq_of_mem_replicate hx)
theorem PI.step {low : List Int} {es : List Ent} {j q : Nat} {O : List Int} (h : PI low es (j + 1) O) (hj : j < es.length) (ho : EntOk low.length es) (ha : At1 (fr O) q es[j].2) : PI low es j (O.set q es[j].1) ∧ At1 (fr O) q es[j].2:=by
 obtain ⟨h1,h2,h3,h4⟩:=h
 obtain ⟨e1,e2,e3,e4⟩:=ho j hj
 refine ⟨?_,ha⟩
 obtain ⟨hq,hp,h1'⟩:=ha
 have hq' : q < O.length:=by rw [fr_len] at hq; exact hq
 have hz : O[q] = 0:=by
  rw [fr_get] at h1';split at h1'
  ·assumption
  ·omega
 have hc : es[j].1 ≠ 0:=by omega
 have ht : es.take (j + 1) = es.take j ++ [es[j]]:=by rw [List.take_add_one,List.getElem?_eq_getElem hj]; rfl
 have hl : (es.take j).length = j:=by rw [List.length_take]; omega
 refine ⟨by rw [List.length_set]; exact h1,?_,?_,?_⟩
 ·rw [ht,putL_snoc] at h2;rw [<- mg_ins O _ es[j].2.toNat q _ hc hq' hz (by omega) (by rw [putL_len,hl]; omega)]
  exact h2
 ·rw [List.length_set,fr_set _ _ _ hc,ps_set _ _ _ hq,if_pos (by omega),h1',h3];omega
 ·intro x hx
  rcases List.mem_or_eq_of_mem_set hx with hx | hx
  ·exact h4 x hx
  ·subst hx; exact .inr ⟨e1,e2⟩
theorem PI.tell {low : List Int} {es : List Ent} {j : Nat} {O : List Int} (h : PI low es (j + 1) O) (hj : j < es.length) (ho : EntOk low.length es) : 0 <= es[j].2 ∧ es[j].2 < ps (fr O) (fr O).length:=by
 obtain ⟨e1,e2,e3,e4⟩:=ho j hj
 rw [fr_len,h.cnt];omega
theorem Tryz.info_rn : (Tryz.prog.info? 21).map (fun i=>(i.zero,i.size,i.bytes)) = some (some (.int .i32 0),1,4):=by kernel_rfl
def Ro (W : World) (g : Nat) (O : List Int) : Prop:=W.heap[g]? = some (.cells (ivs .i32 O).toArray 21)
theorem ivs_len (k : IntKind) (O : List Int) : (ivs k O).length = O.length:=by unfold ivs; rw [List.length_map]
theorem Ro.lt {w : World} {b : Nat} {R : List Int} (h : Ro w b R) : b < w.heap.size:=(Array.getElem?_eq_some_iff.1 h).1
theorem Ro.cell {w : World} {b : Nat} {R : List Int} (h : Ro w b R) (k : Nat) (v : Int) (hk : R[k]? = some v) : w.cell? ⟨b,k,none⟩ = some (.int .i32 v):=by
 have h' : w.heap[b]? = _:=h
 simp only [World.cell?,h',List.getElem?_toArray]
 simp [ivs,hk]
theorem Ro.frozen {w : World} {b : Nat} {R : List Int} (h : Ro w b R) (k : Nat) : w.frozen? ⟨b,k,none⟩ = false:=by
 have h' : w.heap[b]? = _:=h
 simp [World.frozen?,h']
theorem Ro.set {w : World} {b : Nat} {R : List Int} (h : Ro w b R) (k : Nat) (v : Int) : Ro (w.setCell ⟨b,k,none⟩ (.int .i32 v)) b (R.set k v):=by
 have h' : w.heap[b]? = _:=h
 have e : (ivs .i32 R).set k (.int .i32 v) = ivs .i32 (R.set k v):=by simp [ivs,List.map_set]
 simp [Ro,World.setCell,Array.getElem?_modify,h',e]
theorem Ro.step {w w' : World} {b : Nat} {R : List Int} (h : Ro w b R) (hb : Below w.heap.size w w') : Ro w' b R:=(hb.block b h.lt).trans h
theorem Ro.alt {w w' : World} {b g : Nat} {R : List Int} (h : Ro w b R) (hb : Alt g w w') (hg : b ≠ g) : Ro w' b R:=(hb.block b h.lt hg).trans h
theorem Kc.ro {N b : Nat} {A B : World} {R : List Int} (h : Kc N A B) (hb : Ro A b R) : Ro B b R:=h.same b _ hb (.inr rfl)
structure PW (w : World) (N g o5 b o6 : Nat) (O a : List Int) (W : World) : Prop where
 bel : Below w.heap.size w W
 ro : Ro W g O
 b5 : Bx W o5 (.slice (some ⟨g,0,none⟩) N N) 22
 b6 : Bx W o6 (.slice (some ⟨b,0,none⟩) (N + 1) (N + 1)) 236
 tl : ∃ R,Blk W b R [] ∧ Tal R a ∧ R.length = N + 1
theorem bx_alt {w w' : World} {b g : Nat} {v : Value} {t : TypeId} (h : Bx w b v t) (hb : Alt g w w') (hg : b ≠ g) : Bx w' b v t:=(hb.block b h.lt hg).trans h
structure Ap (w : World) (g o5 b o6 : Nat) : Prop where
 g0 : w.heap.size <= g
 b0 : w.heap.size <= b
 gb : g ≠ b
 g5 : o5 ≠ g
 g6 : o6 ≠ g
 b5 : o5 ≠ b
 b6 : o6 ≠ b
theorem PW.step {w : World} {N g o5 b o6 : Nat} {O a : List Int} {A B : World} (h : PW w N g o5 b o6 O a A) (hb : Below A.heap.size A B) : PW w N g o5 b o6 O a B:=by
 obtain ⟨R,h1,h2,h3⟩:=h.tl
 exact ⟨h.bel.trans (hb.mono h.bel.size),h.ro.step hb,h.b5.step hb,h.b6.step hb,R,h1.step hb,h2,h3⟩
theorem PW.keep {w : World} {N g o5 b o6 n0 : Nat} {O a : List Int} {A B : World} (h : PW w N g o5 b o6 O a A) (hk : Kc n0 A B) (hN : w.heap.size <= n0) : PW w N g o5 b o6 O a B:=by
 obtain ⟨R,h1,h2,h3⟩:=h.tl
 exact ⟨hk.below h.bel hN (Nat.le_refl _),Kc.ro hk h.ro,hk.bx h.b5,hk.bx h.b6,R,hk.same _ _ h1 (.inr rfl),h2,h3⟩
theorem PW.turn {w : World} {N g o5 b o6 : Nat} {O a a' : List Int} {A B : World} (h : PW w N g o5 b o6 O a A) (ha : Ap w g o5 b o6) (hb : Alt b A B) (ht : ∃ R,Blk B b R [] ∧ Tal R a' ∧ R.length = N + 1) : PW w N g o5 b o6 O a' B :=
 ⟨h.bel.trans (hb.below h.bel.size ha.b0),h.ro.alt hb ha.gb,(hb.block _ h.b5.lt ha.b5).trans h.b5,(hb.block _ h.b6.lt ha.b6).trans h.b6,ht⟩
theorem PW.store {w : World} {N g o5 b o6 : Nat} {O a : List Int} {A : World} (h : PW w N g o5 b o6 O a A) (ha : Ap w g o5 b o6) (k : Nat) (v : Int) : PW w N g o5 b o6 (O.set k v) a (A.setCell ⟨g,k,none⟩ (.int .i32 v)):=by
 obtain ⟨R,h1,h2,h3⟩:=h.tl
 have hb : Alt g A (A.setCell ⟨g,k,none⟩ (.int .i32 v)):=(Alt.refl g A).set _ _
 exact ⟨h.bel.trans (hb.below h.bel.size ha.g0),h.ro.set k v,(hb.block _ h.b5.lt ha.g5).trans h.b5,(hb.block _ h.b6.lt ha.g6).trans h.b6,R,(hb.block b h1.lt (Ne.symm ha.gb)).trans h1,h2,h3⟩
def onL (N k : Nat) : List Int:=(List.range N).map fun i=>if i < k then 1 else 0
theorem onL_len (N k : Nat) : (onL N k).length = N:=by unfold onL; simp
theorem onL_get (N k i : Nat) (h : i < (onL N k).length) : (onL N k)[i] = if i < k then 1 else 0:=by
 have e:=(List.getElem_map (fun i=>if i < k then (1 : Int) else 0) (l:=List.range N) (h:=by simpa [onL] using h))
 rw [List.getElem_range] at e;exact e
theorem onL_zero (N : Nat) : onL N 0 = List.replicate N 0:=by
 apply List.ext_getElem
 ·rw [onL_len]; simp
 ·intro i h1 h2
  rw [onL_get]; simp
theorem onL_fr (N : Nat) : onL N N = fr (List.replicate N 0):=by
 apply List.ext_getElem
 ·rw [onL_len,fr_len]; simp
 ·intro i h1 h2
  rw [onL_get,fr_get];rw [onL_len] at h1;simp [h1]
theorem onL_step (N k : Nat) (h : k < (onL N k).length) : (onL N k).set k ((onL N k)[k] + 1) = onL N (k + 1):=by
 rw [onL_get,if_neg (by omega)];apply List.ext_getElem
 ·rw [List.length_set,onL_len,onL_len]
 ·intro i h1 h2
  rw [List.getElem_set,onL_get,onL_get];split
  ·subst_vars; simp
  ·by_cases h : i < k
   ·rw [if_pos h,if_pos (by omega)]
   ·rw [if_neg h,if_neg (by omega)]
theorem wpIn_told3 {α : Type} {F : Fence} {n : Nat} {P : Program} {g : Operand} {ps : Array Tmp} {assign body : Code} {Q : Exit -> Act -> World -> Prop} {a : Act} {w : World}
 (hro : F.round = none) (h1 : 1 <= n) {gf : Nat} {lb : Array Value} (hg : a.eval g = .func (.func gf) #[] lb) (hFg : F.fn gf) (eg : ∀ args w,(callFunc gf args).run P w = .ok (.enter gf args) w)
 {encs : α -> Array Value} {Ne : List α -> World -> Prop} {R : List α -> α -> Prop} {S : List α -> Prop} (ht : Tells2 F (n - 1) P gf lb encs Ne R S w) (hps : ∀ x,(encs x).size = ps.size)
 (I Ix : List α -> World -> Prop) (hI : ∀ pre A B,I pre A -> Kc w.heap.size A B -> I pre B) (hIx : ∀ pre A B,Ix pre A -> Kc w.heap.size A B -> Ix pre B) (hN : ∀ pre A,I pre A -> Ne pre A) (h0 : I [] w) (AS : α -> Act -> World -> Prop) (hAS : ∀ x c A B,AS x c A -> Kc w.heap.size A B -> AS x c B)
 (hassign : ∀ (l : Nat) (x : α) (W : World) (K : Act -> World -> Prop),w.heap.size <= W.heap.size -> (∀ c W',Below W.heap.size W W' -> AS x c W' -> K c W') ->
  assign.wpIn (F.inRound l) (n - 1 - 1) P (Exit.then K (fun _ _ _=>False)) { tmps:=(ps.zip (encs x)).foldl (fun t (p,v)=>t.setIfInBounds p v) a.tmps,defers:=[] } W)
 (hbody : ∀ (l : Nat) (pre : List α) (x : α) (c : Act) (W : World),I pre W -> AS x c W -> R pre x -> body.wpIn (F.inRound l) (n - 1 - 1) P (goesR w.heap.size I Ix (pre ++ [x]) W) c W)
 (hdone : ∀ (D : Nat) (xs : List α) (W : World),w.heap.size <= D -> S xs -> I xs W -> W.heap[D]? = some (.deferred (some [])) -> Q .normal { a with defers:={ target:=.collected D,args:=#[] } :: a.defers } W)
 (hstop : ∀ (D : Nat) (xs : List α) (W : World),w.heap.size <= D -> Ix xs W -> W.heap[D]? = some (.deferred (some [])) -> Code.ret.wpIn F n P Q { a with defers:={ target:=.collected D,args:=#[] } :: a.defers } W) :
 (Code.rangeFunc g ps assign body).wpIn F n P Q a w:=by
 have oI : OwnFrom w.heap.size I:=fun s A B row hs hg hr=>hI s A B hs (Kc.grown hg hr)
 have oIx : OwnFrom w.heap.size Ix:=fun s A B row hs hg hr=>hIx s A B hs (Kc.grown hg hr)
 refine wpIn_rangeFunc fun fn hfn=>?_
 rw [hro];obtain ⟨rc,hrc⟩ : ∃ rc : LoopState -> Option Code -> Loop,rc = fun st pe=>{ state:=st,pending:=pe,fn,tmps:=a.tmps,params:=ps,assign,body,defers:=w.heap.size }:=⟨_,rfl⟩
 have hne : w.heap.size ≠ w.heap.size + 1:=by omega
 have hrun:=run_enterLoop_outer (P:=P) (w:=w) fn a.tmps ps assign body
 have hbel : Below w.heap.size w ((w.alloc (.deferred (some []))).alloc (.loop (rc .ready none))):=((Below.refl _ w).alloc (Nat.le_refl _) _).alloc (by simp) _
 have hst : I [] ((w.alloc (.deferred (some []))).alloc (.loop (rc .ready none))) ∧ ((w.alloc (.deferred (some []))).alloc (.loop (rc .ready none))).heap[w.heap.size + 1]? = some (.loop (rc .ready none)) ∧ ((w.alloc (.deferred (some []))).alloc (.loop (rc .ready none))).heap[w.heap.size]? = some (.deferred (some [])):=by
  refine ⟨oI.alloc _ (oI.alloc _ h0),?_,?_⟩
  ·have:=World.alloc_heap_new (w.alloc (.deferred (some []))) (.loop (rc .ready none))
   rwa [World.size_alloc] at this
  ·exact (Below.heap_alloc _ _ _ (by simp)).trans (World.alloc_heap_new w _)
 have hrun' : (Instr.enterLoop fn a.tmps ps assign body none).run P w = .ok (w.heap.size + 1,[{ target:=.collected w.heap.size,args:=#[] }]) ((w.alloc (.deferred (some []))).alloc (.loop (rc .ready none))):=by rw [hrc]; exact hrun
 generalize ((w.alloc (.deferred (some []))).alloc (.loop (rc .ready none))) = W1 at *;refine ⟨w.heap.size + 1,_,W1,{ target:=.fn (.func gf) lb,args:=#[.func (.yield (w.heap.size + 1)) #[] #[]] },W1,gf,#[.func (.yield (w.heap.size + 1)) #[] #[]] ++ lb,W1,hrun',?_,?_,?_,fun _=>h1,?_⟩
 ·simp only [resolve,hg]
  simp [go_sem]
 ·intro f' hf'
  simp [Target.leads] at hf'
  subst hf'; exact hFg
 ·simp [invoke,go_sem,eg]
 refine (ht (w.heap.size + 1) (fun pre W=>I pre W ∧ W.heap[w.heap.size + 1]? = some (.loop (rc .ready none)) ∧ W.heap[w.heap.size]? = some (.deferred (some [])))
  (fun pre W=>Ix pre W ∧ W.heap[w.heap.size + 1]? = some (.loop (rc .done (some .ret))) ∧ W.heap[w.heap.size]? = some (.deferred (some []))) W1 hbel ?_ (fun pre A h=>hN pre A h.1) ?_ hst).mono ?_
 ·rintro pre A B ⟨hi,hl,hk⟩ hb;exact ⟨hI _ _ _ hi (Kc.of_below hb),(hb.block _ (Array.getElem?_eq_some_iff.1 hl).1).trans hl,(hb.block _ (Array.getElem?_eq_some_iff.1 hk).1).trans hk⟩
 ·rintro pre x W0 ⟨hi0,hl0,hk0⟩ hR;have hlt0 : w.heap.size + 1 < W0.heap.size:=(Array.getElem?_eq_some_iff.1 hl0).1
  have hy:=run_yield (P:=P) (args:=encs x) hl0 (by rw [hrc]; exact hps x)
  rw [hrc] at hy;refine ⟨fn,_,assign,body,hy,roundIn_of_wpIn hfn (hassign _ x W0 _ (by omega) fun c W hbW hcW=>?_)⟩
  have hi:=hI _ _ _ hi0 (Kc.of_below hbW)
  have hl:=(hbW.block _ hlt0).trans hl0
  have hk:=(hbW.block _ (Array.getElem?_eq_some_iff.1 hk0).1).trans hk0
  have hlt : w.heap.size + 1 < W.heap.size:=(Array.getElem?_eq_some_iff.1 hl).1
  refine ⟨_,run_beginRound hl (by rw [hrc]),?_⟩
  have hbusy : (W.putObj (w.heap.size + 1) (.loop { rc .ready none with state:=.busy })).heap[w.heap.size + 1]? = some (.loop { rc .ready none with state:=.busy }):=World.putObj_heap_same hlt
  have hdef : (W.putObj (w.heap.size + 1) (.loop { rc .ready none with state:=.busy })).heap[w.heap.size]? = some (.deferred (some [])):=(World.putObj_heap_other hne).trans hk
  have oA : OwnFrom w.heap.size (fun (_ : Unit) W=>AS x c W):=fun _ A B row hs hg hr=>hAS x c A B hs (Kc.grown hg hr)
  refine wpIn_mono (hbody _ pre x c _ (oI.putObj _ hi (by omega) hl rfl) (oA.putObj (s:=()) _ hcW (by omega) hl rfl) hR) ?_
  have fin : ∀ (jump : Option Code) (W3 : World),KeepsFrom w.heap.size (W.putObj (w.heap.size + 1) (.loop { rc .ready none with state:=.busy })) W3 ->
   (Instr.endRound (w.heap.size + 1) jump).run P W3 = .ok (.bool jump.isNone) (W3.putObj (w.heap.size + 1) (.loop (rc (if jump.isNone then .ready else .done) jump))) ∧
   W3.heap[w.heap.size + 1]? = some (.loop { rc .ready none with state:=.busy }) ∧
   (W3.putObj (w.heap.size + 1) (.loop (rc (if jump.isNone then .ready else .done) jump))).heap[w.heap.size + 1]? = some (.loop (rc (if jump.isNone then .ready else .done) jump)) ∧
   (W3.putObj (w.heap.size + 1) (.loop (rc (if jump.isNone then .ready else .done) jump))).heap[w.heap.size]? = some (.deferred (some [])):=fun jump W3 hk3=>by
   have hl3:=hk3.same _ _ (by omega) hbusy rfl
   have:=run_endRound (P:=P) jump hl3
   rw [hrc] at this ⊢
   exact ⟨this,by rw [hrc] at hl3; exact hl3,World.putObj_heap_same (Array.getElem?_eq_some_iff.1 hl3).1,(World.putObj_heap_other hne).trans (hk3.same _ _ (Nat.le_refl _) hdef rfl)⟩
  rintro e a3 W3 hp;cases e with
  | normal =>
   obtain ⟨hk3,hi3⟩:=hp
   obtain ⟨hr,hl3,hl4,hk4⟩:=fin none W3 hk3
   exact ⟨_,_,hr,.inl ⟨rfl,oI.putObj _ hi3 (by omega) hl3 rfl,hl4,hk4⟩⟩
  | ret =>
   obtain ⟨hk3,hi3⟩:=hp
   obtain ⟨hr,hl3,hl4,hk4⟩:=fin (some .ret) W3 hk3
   exact ⟨_,_,hr,.inr ⟨rfl,oIx.putObj _ hi3 (by omega) hl3 rfl,hl4,hk4⟩⟩
  | exit id=>exact hp.elim
  | goto t=>exact hp.elim
  | panic ch=>exact hp.elim
  | outgrown=>exact hp.elim
 ·rintro e W2 ⟨⟨v,rfl⟩,(⟨xs,hS,hi,hl,hk⟩ | ⟨pre,hi,hl,hk⟩)⟩
  ·exact ⟨none,_,by have:=run_endLoop (P:=P) hl (by rw [hrc]; simp); rw [hrc] at this; exact this,hdone _ xs _ (Nat.le_refl _) hS (oI.putObj _ hi (by omega) hl rfl) ((World.putObj_heap_other hne).trans hk)⟩
  ·exact ⟨some .ret,_,by have:=run_endLoop (P:=P) hl (by rw [hrc]; simp); rw [hrc] at this; exact this,hstop _ pre _ (Nat.le_refl _) (oIx.putObj _ hi (by omega) hl rfl) ((World.putObj_heap_other hne).trans hk)⟩
theorem made_zero32 (n : Nat) : madeCells #[.int .i32 0] n = (ivs .i32 (List.replicate n 0)).toArray:=by
 apply Array.ext
 ·simp [madeCells,ivs]
 ·intro i h1 h2
  simp [madeCells,ivs,Nat.mod_one]
theorem cell_below {w W : World} (h : Below w.heap.size w W) {b o : Nat} {v : Value} (hc : w.cell? ⟨b,o,none⟩ = some v) : W.cell? ⟨b,o,none⟩ = some v:=by
 by_cases hlt : b < w.heap.size
 ·have e:=h.block b hlt
  simp only [World.cell?,e] at hc ⊢
  exact hc
 ·have e : w.heap[b]? = none:=Array.getElem?_eq_none (by omega)
  simp [World.cell?,e] at hc
theorem mg_get : ∀ (O M : List Int) (i : Nat) (h : i < O.length),(mg O M)[i]'(by rw [mg_len]; exact h) = if O[i] = 0 then M.getD (ps (fr O) i).toNat 0 else O[i]
 | [],_,_,h=>by simp at h
 | o :: O,M,0,h=>by
  rw [ps_0];unfold mg;by_cases ho : o = 0
  ·simp only [ho,if_true,List.getElem_cons_zero]
   cases M <;> rfl
  ·simp only [ho,if_false,List.getElem_cons_zero]
 | o :: O,M,i + 1,h=>by
  have h' : i < O.length:=by simpa using h
  have e : fr (o :: O) = (if o = 0 then 1 else 0) :: fr O:=rfl
  have hb:=(ps_bd (fr O) (fr_bd O) i).1
  rw [e,ps_cons];unfold mg;by_cases ho : o = 0
  ·simp only [ho,if_true,List.getElem_cons_succ]
   rw [mg_get O M.tail i h'];have e2 : (1 + ps (fr O) i).toNat = (ps (fr O) i).toNat + 1:=by omega
   rw [e2];cases M with
   | nil=>simp
   | cons m M=>simp
  ·simp only [ho,if_false,List.getElem_cons_succ]
   rw [mg_get O M i h'];simp
def two (A B : List Int) (i : Nat) : List Int:=A.take i ++ B.drop i
theorem two_step {A B : List Int} {i : Nat} (hl : A.length = B.length) (hi : i < B.length) : two A B (i + 1) = (two A B i).set i (A[i]'(by omega)):=by
 unfold two;have e1 : A.take (i + 1) = A.take i ++ [A[i]'(by omega)]:=by rw [List.take_add_one,List.getElem?_eq_getElem (by omega)]; rfl
 have e2 : B.drop i = B[i] :: B.drop (i + 1):=List.drop_eq_getElem_cons hi
 have e3 : (A.take i).length = i:=by rw [List.length_take]; omega
 rw [e1,e2,List.set_append_right _ _ (by omega),e3,Nat.sub_self,List.set_cons_zero,List.append_assoc];rfl
theorem two_get {A B : List Int} {i : Nat} (hl : A.length = B.length) (hi : i < B.length) : (two A B i)[i]? = some B[i]:=by
 unfold two;have e3 : (A.take i).length = i:=by rw [List.length_take]; omega
 rw [List.getElem?_append_right (by omega),e3,Nat.sub_self,List.getElem?_drop,Nat.add_zero,List.getElem?_eq_getElem hi]
theorem two_same {A B : List Int} {i : Nat} (hl : A.length = B.length) (hi : i < B.length) (he : A[i]'(by omega) = B[i]) : two A B (i + 1) = two A B i:=by
 rw [two_step hl hi,he];obtain ⟨h,e⟩:=List.getElem?_eq_some_iff.1 (two_get hl hi)
 rw [<- e,List.set_getElem_self]
theorem two_fin {A B : List Int} (hl : A.length = B.length) : two A B B.length = A:=by unfold two;rw [List.drop_length,List.append_nil,<- hl,List.take_length]
def IB (w : World) (low : List Int) (es : List Ent) (N g o5 b o6 : Nat) (ao : Option Addr) (cap pb : Nat) (pre : List (Nat × Ent)) (W : World) : Prop :=
 ∃ O,PW w N g o5 b o6 O (fr O) W ∧ PI low es (es.length - pre.length) O ∧ Bx W pb (.slice ao es.length cap) 241
theorem tb_len (es : List Ent) (k : Nat) : (tb es k).length = k:=by unfold tb; simp
end Pu
end Go.Proofs.YtkhipgcgcbhjoaaGreat
