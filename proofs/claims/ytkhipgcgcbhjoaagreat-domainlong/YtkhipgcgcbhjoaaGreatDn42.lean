import Derived.Test.YtkhipgcgcbhjoaaGreatDn37
import Derived.Test.YtkhipgcgcbhjoaaGreatDn41
import Derived.Test.YtkhipgcgcbhjoaaGreatDn9
import Derived.Test.YtkhipgcgcbhjoaaGreatDn17
import Derived.Deep.OwnRows
set_option maxRecDepth 1000000
set_option maxHeartbeats 4000000
namespace Go.Proofs.YtkhipgcgcbhjoaaGreat
namespace Pu
open Go.RowKit
open Od hiding hid i32s Blk Alt Alt.refl cmpI Cmp sstf_any
open Odi
def lb (i : Nat) : Nat:=i - Nat.land i (i - 1)
def hasP (p i : Nat) : Bool:=decide (i - lb i <= p) && decide (p < i)
theorem lb_ck : (List.range 129).all (fun i=>i == 0 || (decide (1 <= lb i) && decide (lb i <= i))) = true:=by kernel_rfl
theorem lb_bd {i : Nat} (h0 : 1 <= i) (h : i <= 128) : 1 <= lb i ∧ lb i <= i:=by
 have:=List.all_eq_true.1 lb_ck i (List.mem_range.2 (by omega))
 simp only [Bool.or_eq_true,Bool.and_eq_true,beq_iff_eq,decide_eq_true_eq] at this
 omega
def ckUp (i : Nat) : Bool:=(List.range (lb i)).all fun j=>hasP (i - lb i + j) (i + lb i) && (List.range (lb i - 1)).all fun t=>!hasP (i - lb i + j) (i + 1 + t)
theorem up_ck : (List.range 129).all ckUp = true:=by kernel_rfl
theorem up_next {p i : Nat} (h : i <= 128) (hp : hasP p i = true) : hasP p (i + lb i) = true ∧ ∀ q,i < q -> q < i + lb i -> hasP p q = false:=by
 unfold hasP at hp;rw [Bool.and_eq_true,decide_eq_true_eq,decide_eq_true_eq] at hp;have hb:=lb_bd (show 1 <= i by omega) h
 have h1:=List.all_eq_true.1 up_ck i (List.mem_range.2 (by omega))
 unfold ckUp at h1;have h2:=List.all_eq_true.1 h1 (p - (i - lb i)) (List.mem_range.2 (by omega))
 rw [show i - lb i + (p - (i - lb i)) = p by omega,Bool.and_eq_true] at h2
 refine ⟨h2.1,fun q q1 q2=>?_⟩
 have h3:=List.all_eq_true.1 h2.2 (q - (i + 1)) (List.mem_range.2 (by omega))
 rw [show i + 1 + (q - (i + 1)) = q by omega] at h3
 simpa using h3
theorem has_first (p : Nat) (h : p < 128) : hasP p (p + 1) = true:=by
 have:=lb_bd (show 1 <= p + 1 by omega) (by omega)
 unfold hasP;rw [decide_eq_true (by omega),decide_eq_true (by omega)]; rfl
def ps (a : List Int) (q : Nat) : Int:=(a.take q).sum
theorem ps_succ (a : List Int) (q : Nat) (h : q < a.length) : ps a (q + 1) = ps a q + a[q]:=by unfold ps;rw [List.take_succ_eq_append_getElem h,List.sum_append];simp
theorem ps_set (a : List Int) (p : Nat) (v : Int) (h : p < a.length) : ∀ q,ps (a.set p v) q = ps a q + if p < q then v - a[p] else 0
 | 0=>by simp [ps]
 | q + 1=>by
  have ih:=ps_set a p v h q
  by_cases hq : q < a.length
  ·rw [ps_succ _ _ (by rw [List.length_set]; exact hq),ps_succ _ _ hq,ih,List.getElem_set]
   by_cases e : p = q
   ·subst e;rw [if_pos rfl,if_neg (by omega),if_pos (by omega)]; omega
   ·rw [if_neg e];by_cases e2 : p < q
    ·rw [if_pos e2,if_pos (by omega)]; omega
    ·rw [if_neg e2,if_neg (by omega)]; omega
  ·have e1 : ps (a.set p v) (q + 1) = ps (a.set p v) q:=by unfold ps; rw [List.take_of_length_le (by rw [List.length_set]; omega),List.take_of_length_le (by rw [List.length_set]; omega)]
   have e2 : ps a (q + 1) = ps a q:=by unfold ps; rw [List.take_of_length_le (by omega),List.take_of_length_le (by omega)]
   rw [e1,e2,ih,if_pos (by omega),if_pos (by omega)]
structure Tal (R a : List Int) : Prop where
 len : R.length = a.length + 1
 le : a.length <= 127
 bd : ∀ x ∈ a,0 <= x ∧ x <= 1
 sums : ∀ q,1 <= q -> q <= a.length -> R.getD q 0 = ps a q - ps a (q - lb q)
theorem ps_bd (a : List Int) (h : ∀ x ∈ a,0 <= x ∧ x <= 1) : ∀ q,0 <= ps a q ∧ ps a q <= q
 | 0=>by simp [ps]
 | q + 1=>by
  have ih:=ps_bd a h q
  by_cases hq : q < a.length
  ·rw [ps_succ _ _ hq];have:=h a[q] (List.getElem_mem hq)
   omega
  ·have e2 : ps a (q + 1) = ps a q:=by unfold ps; rw [List.take_of_length_le (by omega),List.take_of_length_le (by omega)]
   rw [e2]; omega
theorem Tal.cell_bd {R a : List Int} (h : Tal R a) (q : Nat) (q1 : 1 <= q) (q2 : q <= a.length) : -127 <= R.getD q 0 ∧ R.getD q 0 <= 127:=by
 have h1:=ps_bd a h.bd q
 have h2:=ps_bd a h.bd (q - lb q)
 have h3:=h.le
 rw [h.sums q q1 q2];omega
def Mid (R0 R : List Int) (p i : Nat) (m : Int) : Prop:=R.length = R0.length ∧ ∀ q,q < R0.length -> R.getD q 0 = R0.getD q 0 + if q < i ∧ hasP p q = true then m else 0
theorem getD_set (l : List Int) (k q : Nat) (v : Int) (h : k < l.length) : (l.set k v).getD q 0 = if q = k then v else l.getD q 0:=by
 rw [List.getD_eq_getElem?_getD,List.getElem?_set,List.getD_eq_getElem?_getD];by_cases e : q = k
 ·subst e;rw [if_pos rfl,if_pos rfl,if_pos h]; rfl
 ·rw [if_neg (Ne.symm e),if_neg e]
theorem Mid.step {R0 R : List Int} {p i : Nat} {m : Int} (h : Mid R0 R p i m) (hi : i < R0.length) (hb : i <= 128) (hp : hasP p i = true) : Mid R0 (R.set i (R.getD i 0 + m)) p (i + lb i) m:=by
 obtain ⟨h1,h2⟩:=up_next hb hp
 have hl:=lb_bd (show 1 <= i by unfold hasP at hp; rw [Bool.and_eq_true,decide_eq_true_eq,decide_eq_true_eq] at hp; omega) hb
 refine ⟨by rw [List.length_set]; exact h.1,fun q hq=>?_⟩
 rw [getD_set _ _ _ _ (by rw [h.1]; exact hi)]
 by_cases e : q = i
 ·subst e;rw [if_pos rfl,h.2 q hq,if_neg (by omega),if_pos ⟨by omega,hp⟩]; omega
 ·rw [if_neg e,h.2 q hq];by_cases e2 : q < i
  ·by_cases e3 : hasP p q = true
   ·rw [if_pos ⟨e2,e3⟩,if_pos ⟨by omega,e3⟩]
   ·rw [if_neg (fun h=>e3 h.2),if_neg (fun h=>e3 h.2)]
  ·rw [if_neg (fun h=>e2 h.1)]
   by_cases e3 : q < i + lb i
   ·rw [if_neg (fun h=>by have:=h2 q (by omega) e3; rw [this] at h; cases h.2)]
   ·rw [if_neg (fun h=>e3 h.1)]
theorem Mid.start (R0 : List Int) (p : Nat) (m : Int) : Mid R0 R0 p (p + 1) m:=by
 refine ⟨rfl,fun q _=>?_⟩
 rw [if_neg (fun h=>?_)]
 ·omega
 ·have:=h.2
  unfold hasP at this;rw [Bool.and_eq_true,decide_eq_true_eq,decide_eq_true_eq] at this;omega
theorem Mid.done {R0 R a : List Int} {p i : Nat} {m : Int} (h : Mid R0 R p i m) (hT : Tal R0 a) (hi : R0.length <= i) (hp : p < a.length) (hm : 0 <= a[p] + m ∧ a[p] + m <= 1) : Tal R (a.set p (a[p] + m)):=by
 have hl:=hT.len
 have hle:=hT.le
 refine ⟨by rw [h.1,List.length_set]; exact hl,by rw [List.length_set]; exact hle,fun x hx=>?_,fun q q1 q2=>?_⟩
 ·rcases List.mem_or_eq_of_mem_set hx with hx | rfl
  ·exact hT.bd x hx
  ·exact hm
 rw [List.length_set] at q2;have hb:=lb_bd q1 (by omega)
 rw [h.2 q (by omega),hT.sums q q1 q2,ps_set _ _ _ hp,ps_set _ _ _ hp];unfold hasP;by_cases e1 : p < q
 ·by_cases e2 : p < q - lb q
  ·rw [if_neg (fun h=>by have:=h.2; rw [Bool.and_eq_true,decide_eq_true_eq] at this; omega),if_pos e1,if_pos e2]; omega
  ·rw [if_pos ⟨by omega,by rw [decide_eq_true (by omega),decide_eq_true e1]; rfl⟩,if_pos e1,if_neg e2]; omega
 ·rw [if_neg (fun h=>by have:=h.2; rw [Bool.and_eq_true,decide_eq_true_eq,decide_eq_true_eq] at this; omega),if_neg e1,if_neg (by omega)]; omega
theorem and_ck : (List.range 129).all (fun i=>bits BinOp.and IntKind.i64 (i : Int) (-(i : Int)) == (lb i : Int)) = true:=by kernel_rfl
theorem and_lb {i : Nat} (h : i <= 128) : bits BinOp.and IntKind.i64 (i : Int) (-(i : Int)) = (lb i : Int):=by
 have:=List.all_eq_true.1 and_ck i (List.mem_range.2 (by omega))
 simpa using this
theorem tadd_any {w : World} {b cap : Nat} {R a : List Int} {T : List Value} (h : Blk w b R T) (hT : Tal R a) (p : Nat) (hp : p < a.length) (m : Int) (hm : 0 <= a[p] + m ∧ a[p] + m <= 1) (n : Nat) (hn : R.length = n) :
 Calls Tryz.prog 196 #[.slice (some ⟨b,0,none⟩) n cap,.int .i64 p,.int .i64 m] w fun e w'=>e = .returned (.tuple #[]) ∧ (∃ R',Blk w' b R' T ∧ Tal R' (a.set p (a[p] + m)) ∧ R'.length = n) ∧ Alt b w w':=by
 have hle:=hT.le
 have hln:=hT.len
 have hap:=hT.bd a[p] (List.getElem_mem hp)
 have HT:=hid hT
 have HB:=hid h
 have HM:=hid hm
 have HP:=hid hp
 have HN:=hid hn
 have m1 : -1 <= m ∧ m <= 1:=by omega
 have n1 : n <= 128:=by omega
 have p1 : p + 1 <= 127:=by omega
 have H1:=hid (has_first p (by omega));have HL : Hid (a.length + 1 = n):=by show _ = _; omega
 clear h hT hm hle hln hap hn;go_enter Tryz.func196,Tryz.ntmps196
 go_wp2_with fail;go_loopg [6] (n - (p + 1)) (fun gg vi wr=>∃ (i : Nat) (Rc : List Int),vi = .int .i64 i ∧ gg = n - i ∧ i <= 256 ∧ Hid (Mid R Rc p i m ∧ hasP p i = true ∧ Blk wr b Rc T ∧ Alt b w wr))
 case atStart=>exact ⟨p + 1,R,by go_num,rfl,by omega,Mid.start R p m,H1.out,HB.out,Alt.refl _ _⟩
 case round =>
  obtain ⟨i,Rc,rfl,hg,hi6,H⟩:=hrel
  have HG:=hid hg
  clear hg;by_cases hlt : i < n
  ·have z1 : (i : Int) < (n : Int):=by omega
   have hpi:=H.out.2.1
   have hi1 : 1 <= i:=by unfold hasP at hpi;rw [Bool.and_eq_true,decide_eq_true_eq,decide_eq_true_eq] at hpi;omega
   clear hpi;have hlR : i < R.length:=by rw [HN.out]; exact hlt
   have hlc : i < Rc.length:=by rw [H.out.1.1]; exact hlR
   have c1:=H.out.2.2.1.cell i (Rc.getD i 0) (by rw [List.getD_eq_getElem?_getD,List.getElem?_eq_getElem hlc]; rfl)
   have f1:=fun k=>H.out.2.2.1.frozen k
   have hx : -127 <= Rc.getD i 0 ∧ Rc.getD i 0 <= 127:=by rw [H.out.1.2 i hlR,if_neg (by omega),Int.add_zero];exact HT.out.cell_bd i hi1 (by have:=HL.out; omega)
   have HS:=hid (H.out.1.step hlR (by omega) H.out.2.1);have HNx:=hid (up_next (show i <= 128 by omega) H.out.2.1).1
   have HBs:=hid (H.out.2.2.1.set i (Rc.getD i 0 + m) hlc);have HA:=hid (fun v=>H.out.2.2.2.set i v)
   have hlb:=lb_bd hi1 (by omega)
   have ha:=and_lb (show i <= 128 by omega)
   clear H hlR hlc;generalize Rc.getD i 0 = x at *;generalize lb i = l at *;go_wp2_with fail;go_roundg (n - (i + l))
   case measure=>rw [HG.out]; omega
   case rel=>exact ⟨i + l,Rc.set i (x + m),by go_num,rfl,by omega,HS.out,HNx.out,HBs.out,HA.out _⟩
  ·have z1 : ¬ (i : Int) < (n : Int):=by omega
   go_wp2_with fail;go_end0
   exact ⟨rfl,⟨Rc,H.out.2.2.1,H.out.1.done HT.out (by rw [HN.out]; omega) HP.out HM.out,by rw [H.out.1.1,HN.out]⟩,H.out.2.2.2⟩
theorem tahead_any {w : World} {b cap : Nat} {R a : List Int} {T : List Value} (h : Blk w b R T) (hT : Tal R a) (p : Nat) (hp : p <= a.length) (n : Nat) (hn : R.length = n) :
 Calls Tryz.prog 198 #[.slice (some ⟨b,0,none⟩) n cap,.int .i64 p] w fun e w'=>e = .returned (.int .i64 (ps a p)) ∧ w' = w:=by
 have hle:=hT.le
 have hln:=hT.len
 have HT:=hid hT
 have HB:=hid h
 have n1 : n <= 128:=by omega
 have HL : Hid (a.length + 1 = n ∧ R.length = n):=⟨by omega,hn⟩
 have pn : p + 1 <= n:=by omega
 clear h hT hle hln hn hp;go_enter Tryz.func198,Tryz.ntmps198
 go_wp2_with fail;go_loop [5,6] (fun vs vi=>∃ (i : Nat) (s : Int),vi = .int .i64 i ∧ vs = .int .i64 s ∧ i <= p ∧ -1000 <= s ∧ s <= 1000 ∧ Hid (s + ps a i = ps a p)) (fun _ vi=>(intOf vi).toNat)
 case atStart=>exact ⟨p,0,rfl,rfl,Nat.le_refl _,by omega,by omega,by show _ = _; omega⟩
 case round =>
  obtain ⟨i,s,rfl,rfl,hi,s1,s2,H⟩:=hrel
  by_cases h0 : 1 <= i
  ·have z1 : (0 : Int) < (i : Int):=by omega
   have z2 : (i : Int) < (n : Int):=by omega
   have hlc : i < R.length:=by have:=HL.out; omega
   have hia : i <= a.length:=by have:=HL.out; omega
   have c1:=HB.out.cell i (R.getD i 0) (by rw [List.getD_eq_getElem?_getD,List.getElem?_eq_getElem hlc]; rfl)
   have hx:=HT.out.cell_bd i h0 hia
   have hsum:=HT.out.sums i h0 hia
   have hlb:=lb_bd h0 (show i <= 128 by omega)
   have ha:=and_lb (show i <= 128 by omega)
   have b1:=ps_bd a HT.out.bd p
   have b2:=ps_bd a HT.out.bd (i - lb i)
   have HS : Hid (s + R.getD i 0 + ps a (i - lb i) = ps a p):=by show _ = _; have:=H.out; omega
   have s3 : -1000 <= s + R.getD i 0 ∧ s + R.getD i 0 <= 1000:=by have:=HS.out; have:=HL.out; omega
   clear H hsum hlc hia b1 b2;generalize R.getD i 0 = x at *;generalize lb i = l at *;go_wp2_with fail;go_round
   case rel=>exact ⟨i - l,s + x,by first | go_num | (congr 1; omega),by go_num,by omega,s3.1,s3.2,HS.out⟩
   case measure=>simp [intOf]; omega
  ·have e : i = 0:=by omega
   subst e;have HR : Hid (ps a p = s):=by
    show _ = _;have:=H.out
    have e0 : ps a 0 = 0:=by simp [ps]
    omega
   go_wp2_with fail;go_ret;exact ⟨ret_int HR.out.symm,rfl⟩
theorem own_below {w w' : World} {B n size : Nat} {e : TypeId} {v : Value} {xs : List Value} (h : w.ownsRow B e size v n xs) (hb : Below w.heap.size w w') : w'.ownsRow B e size v n xs :=
 ⟨h.1,h.2.imp id fun ⟨g,cap,cur,h1,h2,h3,h4⟩=>⟨g,cap,cur,h1,h2,(hb.block g (Array.getElem?_eq_some_iff.1 h3).1).trans h3,h4⟩⟩
theorem Tryz.info_u8 : (Tryz.prog.info? 5).map (fun i=>(i.zero,i.size,i.bytes)) = some (some (.int .u8 0),1,1):=by kernel_rfl
structure Gr (W : World) (v : Value) (w' : World) (v' : Value) : Prop where
 grown : W.grownBy w' v.ownBlock
 own : ∀ k,v'.ownBlock = some k -> v.ownBlock = some k ∨ W.heap.size <= k
theorem Gr.trans {W w1 w2 : World} {v v1 v2 : Value} (h : Gr W v w1 v1) (k : Gr w1 v1 w2 v2) : Gr W v w2 v2:=by
 refine ⟨⟨k.grown.os.trans h.grown.os,k.grown.tape.trans h.grown.tape,k.grown.output.trans h.grown.output,Nat.le_trans h.grown.size k.grown.size,fun i hi hne=>?_⟩,fun i hi=>?_⟩
 ·refine (k.grown.block i (Nat.lt_of_lt_of_le hi h.grown.size) (fun e=>?_)).trans (h.grown.block i hi hne)
  rcases h.own i e.symm with h1 | h1
  ·exact hne h1.symm
  ·omega
 ·rcases k.own i hi with h1 | h1
  ·exact h.own i h1
  ·exact .inr (Nat.le_trans h.grown.size h1)
theorem Gr.refl (W : World) (v : Value) : Gr W v W v:=⟨⟨rfl,rfl,rfl,Nat.le_refl _,fun _ _ _=>rfl⟩,fun _ h=>.inl h⟩
theorem grown_alloc {W w' : World} {o : Obj} {row : Option Nat} (h : (W.alloc o).grownBy w' row) : W.grownBy w' row :=
 ⟨h.os,h.tape,h.output,Nat.le_trans (by simp) h.size,fun k hk hne=>(h.block k (by simp; omega) hne).trans (Below.heap_alloc W o k hk)⟩
theorem app_u8 {ops : Array Oper} {rest : List Oper} {o : Oper} {a : Act} {Q : Exit -> Act -> World -> Prop} (hgd : o.guard = none) (s x : Operand)
 (ho : o.op = .call { callee:=.builtin .append,args:=#[s,x],argTypes:=#[61,61] }) (W : World) (B n : Nat) (v : Value) (xs : List Value) (r : Int) (hs : a.eval s = v) (N : Nat) (hN : W.heap.size = N) (hx : a.eval x = .slice (some ⟨N,0,none⟩) 1 1)
 (hown : W.ownsRow B 5 1 v n xs) (hn : n <= 1000000000) (hB : B <= W.heap.size)
 (h : ∀ v' w',w'.ownsRow B 5 1 v' (n + 1) (xs ++ [.int .u8 r]) -> Gr W v w' v' -> wpList Tryz.prog ops Q rest (a.put o.dst v') w') :
 wpList Tryz.prog ops Q (o :: rest) a (W.alloc (.cells #[.int .u8 r] 5)):=by
 subst hN;obtain ⟨i0,hi,hz0,hz1,hz2⟩:=info_parts Pu.Tryz.info_u8
 refine wpList_append_own_at _ hgd s x 61 ho B 5 i0 (.int .u8 0) 1 1 Tryz.underlying61 hi hz0 hz1 hz2 rfl (by decide) v n xs hs (hown.alloc _) ⟨W.heap.size,0,none⟩ 1 1 [.int .u8 r] hx rfl
  (World.news_of_block (heap_new W _)) (fun u hu=>by simp at hu; subst hu; rfl) (by unfold maxLen; omega) (by omega) (by simp; omega) (fun v' w' h1 h2 _ h4=>h v' w' h1 ⟨grown_alloc h2,fun k hk=>?_⟩)
 rcases h4 with h4 | h4
 ·exact .inl (h4 ▸ hk)
 ·right
  rw [hk] at h4;simp at h4
  omega
structure By (B : Nat) (w : World) (v : Value) (l : List Int) : Prop where
 own : w.ownsRow B 5 1 v l.length (ivs .u8 l)
 lo : B <= w.heap.size
theorem By.step {B : Nat} {w w' : World} {v : Value} {l : List Int} (h : By B w v l) (hb : Below w.heap.size w w') : By B w' v l:=⟨own_below h.own hb,Nat.le_trans h.lo hb.size⟩
theorem By.put {B n : Nat} {w w' : World} {v v' : Value} {l : List Int} {r : Int} (h : By B w v l) (hn : l.length = n) (h1 : w'.ownsRow B 5 1 v' (n + 1) (ivs .u8 l ++ [.int .u8 r])) (h2 : Gr w v w' v') : By B w' v' (l ++ [r]):=by subst hn;exact ⟨by rw [ivs_snoc,List.length_append]; exact h1,Nat.le_trans h.lo h2.grown.size⟩
theorem adig_any {B : Nat} {w : World} {v : Value} {l : List Int} (h : By B w v l) (hl : l.length <= 100000) (d : Int) (h0 : 0 <= d) (h1 : d < 36) :
 Calls Tryz.prog 257 #[v,.int .i64 d] w fun e w'=>∃ v',e = .returned v' ∧ By B w' v' (l ++ [dgP d]) ∧ Gr w v w' v':=by
 have HD:=hid (digit_yes d w h0 h1);have HB:=hid h
 generalize hn : l.length = n at hl
 have HN:=hid hn
 clear h h0 h1 hn;generalize dgP d = g at *;go_enter Tryz.func257,Tryz.ntmps257
 go_wp2_with (first | (go_at_call 287; refine HD.out.mono ?_; rintro e w1 ⟨rfl,rfl⟩) | (at_builtin; refine app_u8 rfl (.tmp 12) (.tmp 14) rfl w1 B n v (ivs .u8 l) g rfl w1.heap.size rfl rfl (by have:=HB.out.own; rw [HN.out] at this; exact this) (by omega) HB.out.lo (fun v' w' h1 h2=>?_)))
 go_ret;exact ⟨_,rfl,HB.out.put HN.out h1 h2,h2⟩
def wrF : Nat -> Int -> Int -> Int -> List Int
 | 0,_,_,_=>[]
 | n + 1,d,k,b=>if d < thP k b then [dgP d] else dgP (thP k b + (d - thP k b) % (36 - thP k b)) :: wrF n ((d - thP k b) / (36 - thP k b)) (k + 36) b
theorem th_bd (k b : Int) : 1 <= thP k b ∧ thP k b <= 26:=by
 unfold thP;split
 ·omega
 ·split <;> omega
theorem q_lt (d k b : Int) (h : ¬ d < thP k b) : 0 <= (d - thP k b) / (36 - thP k b) ∧ (d - thP k b) / (36 - thP k b) < d:=by
 have ht:=th_bd k b
 generalize thP k b = t at *;have h1 : 0 <= (d - t) / (36 - t):=Int.ediv_nonneg (by omega) (by omega)
 have h2 : (d - t) / (36 - t) <= d - t:=Int.ediv_le_self _ (by omega)
 omega
theorem wrF_eq : ∀ (n m : Nat) (d k b : Int),0 <= d -> d.toNat < n -> d.toNat < m -> wrF n d k b = wrF m d k b
 | 0,_,_,_,_,_,h,_=>by omega
 | _ + 1,0,_,_,_,_,_,h=>by omega
 | n + 1,m + 1,d,k,b,h0,h1,h2=>by
  simp only [wrF]
  split
  ·rfl
  ·rename_i h
   have:=q_lt d k b h
   rw [wrF_eq n m _ _ _ this.1 (by omega) (by omega)]
def wrP (d b : Int) : List Int:=wrF (d.toNat + 1) d 36 b
theorem adel_any {B : Nat} {w : World} {v : Value} {l : List Int} (h : By B w v l) (hl : l.length + 100 <= 90000) (d b : Int) (h0 : 0 <= d) (h1 : d <= 2147483647) (hb : -1000000000 <= b ∧ b <= 1000000000) (hs : (wrP d b).length <= 100) :
 Calls Tryz.prog 199 #[v,.int .i64 d,.int .i64 b] w fun e w'=>∃ v',e = .returned v' ∧ By B w' v' (l ++ wrP d b) ∧ Gr w v w' v':=by
 have HB:=hid h
 have HT:=hid (fun (k : Int) (W : World) (hk : 0 <= k ∧ k <= 1000000000000)=>thr_any k b W (by omega) (by omega))
 have HA:=hid (fun (W : World) (v : Value) (l : List Int) (h : By B W v l) (hl : l.length <= 100000) (d : Int) (h0 : 0 <= d) (h1 : d < 36)=>adig_any h hl d h0 h1)
 have HL : Hid (l.length + 100 <= 90000):=hl
 have HSz : Hid ((l ++ wrP d b).length <= 100000):=by show _ <= _; rw [List.length_append]; omega
 have H0:=hid (Gr.refl w v);clear h hl hs;go_enter Tryz.func199,Tryz.ntmps199
 go_wp2_with fail;go_loopg [0,1,7] (d.toNat + 1) (fun gg vo vd vk wr=>∃ (dc k : Int) (acc : List Int),vd = .int .i64 dc ∧ vk = .int .i64 k ∧ 0 <= dc ∧ dc <= 2147483647 ∧ 0 <= k ∧ k + 36 * dc <= 36 + 36 * d ∧ gg = dc.toNat + 1 ∧ Hid (acc ++ wrF (dc.toNat + 1) dc k b = l ++ wrP d b ∧ By B wr vo acc ∧ Gr w v wr vo))
 case atStart=>exact ⟨d,36,l,rfl,rfl,h0,h1,by omega,by omega,rfl,rfl,HB.out,H0.out⟩
 case round =>
  obtain ⟨dc,k,acc,rfl,rfl,c0,c1,k0,k1,hg,H⟩:=hrel
  have HG:=hid hg
  have HTk:=hid (HT.out k wr (by omega));have ht:=th_bd k b
  have hacc : Hid (acc.length <= 100000):=by
   show _ <= _
   have h1:=congrArg List.length H.out.1
   have h2:=HSz.out
   rw [List.length_append] at h1;omega
  have HW : Hid (wrF (dc.toNat + 1) dc k b = if dc < thP k b then [dgP dc] else dgP (thP k b + (dc - thP k b) % (36 - thP k b)) :: wrF dc.toNat ((dc - thP k b) / (36 - thP k b)) (k + 36) b):=rfl
  have HQ : Hid (¬ dc < thP k b -> 0 <= (dc - thP k b) / (36 - thP k b) ∧ (dc - thP k b) / (36 - thP k b) < dc):=q_lt dc k b
  clear hg h0 hb;generalize thP k b = t at *;by_cases hd : dc < t
  ·have HE : Hid (acc ++ [dgP dc] = l ++ wrP d b):=by show _ = _; rw [<- H.out.1,HW.out,if_pos hd]
   have HAd:=hid (HA.out wr u0 acc H.out.2.1 hacc.out dc c0 (by omega));clear HW HQ;go_wp2_with fail;refine HTk.out.mono ?_;rintro e w1 ⟨rfl,rfl⟩;go_wp2_with fail
   refine HAd.out.mono ?_;rintro e w2 ⟨v2,rfl,hb2,hb3⟩;have H2 : Hid (By B w2 v2 (l ++ wrP d b) ∧ Gr w v w2 v2):=⟨by rw [<- HE.out]; exact hb2,H.out.2.2.trans hb3⟩
   clear hb2 hb3;go_wp2_with fail;go_ret;exact ⟨_,rfl,H2.out.1,H2.out.2⟩
  ·obtain ⟨q0,q1⟩:=HQ.out hd
   obtain ⟨r,hr⟩ : ∃ r,(dc - t) % (36 - t) = r:=⟨_,rfl⟩
   obtain ⟨q,hq⟩ : ∃ q,(dc - t) / (36 - t) = q:=⟨_,rfl⟩
   have r0 : 0 <= r:=by rw [<- hr]; exact Int.emod_nonneg _ (by omega)
   have r1 : r < 36 - t:=by rw [<- hr]; exact Int.emod_lt_of_pos _ (by omega)
   rw [hq] at q0 q1 HW
   rw [hr] at HW;have HE : Hid ((acc ++ [dgP (t + r)]) ++ wrF (q.toNat + 1) q (k + 36) b = l ++ wrP d b):=by show _ = _;rw [<- H.out.1,HW.out,if_neg hd,wrF_eq (q.toNat + 1) dc.toNat q (k + 36) b q0 (by omega) (by omega)];simp
   have HAd:=hid (HA.out wr u0 acc H.out.2.1 hacc.out (t + r) (by omega) (by omega));have g1 : ¬ (36 - t = 0):=by omega
   have g2 : ¬ dc < t:=hd
   clear HW HQ hd;go_wp2_with fail;refine HTk.out.mono ?_;rintro e w1 ⟨rfl,rfl⟩;go_wp2_with fail;refine HAd.out.mono ?_;rintro e w2 ⟨v2,rfl,hb2,hb3⟩;have H2 : Hid (By B w2 v2 (acc ++ [dgP (t + r)]) ∧ Gr w v w2 v2):=⟨hb2,H.out.2.2.trans hb3⟩
   clear hb2 hb3;go_wp2_with fail;go_roundg (q.toNat + 1)
   case measure=>rw [HG.out]; omega
   case rel=>exact ⟨q,k + 36,acc ++ [dgP (t + r)],by first | rfl | (rw [hq]),by go_num,q0,by omega,by omega,by omega,rfl,HE.out,H2.out.1,H2.out.2⟩
theorem ps_zero (n q : Nat) : ps (List.replicate n 0) q = 0:=by
 unfold ps;rw [List.take_replicate];generalize min q n = m
 induction m with
 | zero=>rfl
 | succ m ih=>rw [List.replicate_succ,List.sum_cons,ih]; rfl
theorem tal_zero (n : Nat) (h : n <= 127) : Tal (List.replicate (n + 1) 0) (List.replicate n 0):=by
 refine ⟨by simp,by simp; exact h,fun x hx=>by simp at hx; omega,fun q _ _=>?_⟩
 rw [ps_zero,ps_zero,List.getD_eq_getElem?_getD,List.getElem?_replicate];split <;> rfl
theorem made_zero (n : Nat) : madeCells #[.int .i64 0] n = (i32s (List.replicate n 0) ++ []).toArray:=by
 apply Array.ext
 ·simp [madeCells,i32s]
 ·intro i h1 h2
  simp [madeCells,i32s,Nat.mod_one]
theorem newt_any (n : Nat) (h : n <= 127) (w : World) : Calls Tryz.prog 195 #[.int .i64 n] w fun e w'=>e = .returned (.slice (some ⟨w.heap.size,0,none⟩) (n + 1) (n + 1)) ∧ Blk w' w.heap.size (List.replicate (n + 1) 0) [] ∧ Below w.heap.size w w':=by
 have hmk : ∀ w,(Instr.makeSlice 236 (.int .i64 ((n : Int) + 1)) (.int .i64 ((n : Int) + 1))).run Tryz.prog w = .ok (.slice (some ⟨w.heap.size,0,none⟩) (n + 1) (n + 1)) (w.alloc (.cells (madeCells #[.int .i64 0] (n + 1)) 3)):=fun w=>run_make_row' 236 3 (.int .i64 0) 8 Tryz.underlying236 Od.Tryz.info_i64 rfl .i64 .i64 (n + 1) (by omega) (by omega) w
 go_enter Tryz.func195,Tryz.ntmps195
 go_wp2_with fail;go_ret;refine ⟨rfl,?_,(Below.refl _ _).alloc (Nat.le_refl _) _⟩
 have:=heap_new w (.cells (madeCells #[.int .i64 0] (n + 1)) 3)
 rw [made_zero] at this;unfold Blk;rw [made_zero];exact this
theorem nanr_any (a : Int) (w : World) : Calls Tryz.prog 286 #[.int .i32 a] w fun e w'=>e = .returned (.bool false) ∧ w' = w:=by
 go_enter Tryz.func286,Tryz.ntmps286
 go_wp2
 go_ret;exact ⟨by simp,rfl⟩
theorem cmpr_any (a b : Int) (w : World) : Calls Tryz.prog 255 #[.int .i32 a,.int .i32 b] w fun e w'=>e = .returned (.int .i64 (cmpI a b)) ∧ w' = w:=by
 have HE : Hid (cmpI a b = if a < b then -1 else if b < a then 1 else 0):=rfl
 by_cases h1 : a < b
 ·go_enter Tryz.func255,Tryz.ntmps255
  go_wp2_with (go_at_call 286; refine (nanr_any _ _).mono ?_; rintro e w1 ⟨rfl,rfl⟩)
  go_ret;exact ⟨ret_int (by rw [HE.out,if_pos h1]),rfl⟩
 ·by_cases h2 : b < a
  ·go_enter Tryz.func255,Tryz.ntmps255
   go_wp2_with (go_at_call 286; refine (nanr_any _ _).mono ?_; rintro e w1 ⟨rfl,rfl⟩)
   go_ret;exact ⟨ret_int (by rw [HE.out,if_neg (by omega),if_pos h2]),rfl⟩
  ·go_enter Tryz.func255,Tryz.ntmps255
   go_wp2_with (go_at_call 286; refine (nanr_any _ _).mono ?_; rintro e w1 ⟨rfl,rfl⟩)
   go_ret;exact ⟨ret_int (by rw [HE.out,if_neg (by omega),if_neg (by omega)]),rfl⟩
def kyP (zs : List Int) (i : Int) : Int:=if 0 <= i then zs.getD i.toNat 0 else 0
theorem ky_in {zs : List Int} {i : Int} (h : 0 < kyP zs i) : ∃ k : Nat,i = k ∧ ∃ hk : k < zs.length,kyP zs i = zs[k]:=by
 unfold kyP at h ⊢
 split at h
 ·rename_i h0
  refine ⟨i.toNat,by omega,?_⟩
  by_cases hk : i.toNat < zs.length
  ·refine ⟨hk,?_⟩
   rw [if_pos h0,List.getD_eq_getElem?_getD,List.getElem?_eq_getElem hk]; rfl
  ·rw [List.getD_eq_getElem?_getD,List.getElem?_eq_none (by omega)] at h;exact absurd h (by decide)
 ·omega
def posL (zs : List Int) (k : Nat) : List Int:=((List.range k).filter (fun i=>decide (128 <= zs.getD i 0))).map Int.ofNat
theorem posL_succ (zs : List Int) (k : Nat) : posL zs (k + 1) = posL zs k ++ if 128 <= zs.getD k 0 then [(k : Int)] else []:=by
 unfold posL;rw [List.range_succ,List.filter_append,List.map_append];congr 1
 by_cases h : 128 <= zs.getD k 0
 ·rw [if_pos h,List.filter_cons_of_pos (by simpa using h)]; rfl
 ·rw [if_neg h,List.filter_cons_of_neg (by simpa using h)]; rfl
theorem posL_len (zs : List Int) : ∀ k,(posL zs k).length <= k
 | 0=>by simp [posL]
 | k + 1=>by
  have:=posL_len zs k
  rw [posL_succ,List.length_append];split <;> simp <;> omega
theorem posL_mem {zs : List Int} {k : Nat} {x : Int} (h : x ∈ posL zs k) : ∃ i : Nat,x = i ∧ i < k ∧ 128 <= zs.getD i 0:=by
 unfold posL at h;obtain ⟨i,hi,rfl⟩:=List.mem_map.1 h
 rw [List.mem_filter,List.mem_range] at hi;exact ⟨i,rfl,hi.1,of_decide_eq_true hi.2⟩
theorem own_blk {w : World} {B : Nat} {v : Value} {l : List Int} (h : w.ownsRow B 3 1 v l.length (ivs .i64 l)) (h0 : 0 < l.length) : ∃ g cap T,v = .slice (some ⟨g,0,none⟩) l.length cap ∧ l.length <= cap ∧ B <= g ∧ Blk w g l T:=by
 rcases h.2 with ⟨h1,h2⟩ | ⟨g,cap,cur,rfl,h2,h3,h4,h5,h6,h7⟩
 ·omega
 ·refine ⟨g,cap,cur.toList.drop l.length,rfl,h4,h2,?_⟩
  show w.heap[g]? = _
  rw [h3];have e3 : (i32s l ++ cur.toList.drop l.length).toArray = cur:=by
   have h10 : cur.toList.take l.length = i32s l:=by simpa [ivs,i32s] using h7
   rw [<- h10,List.take_append_drop]
  rw [e3]
theorem byc1_any {W : World} {pb : Nat} {ao : Option Addr} {cap : Nat} {zs : List Int} (hx : W.cell? ⟨pb,0,none⟩ = some (.slice ao zs.length cap)) (hS : SlP .i32 W ao cap zs) (x y : Int) (h1 : 0 < kyP zs x) (h2 : 0 < kyP zs y) :
 Calls Tryz.prog 254 #[.int .i64 x,.int .i64 y,.pointer (some ⟨pb,0,none⟩)] W fun e w'=>e = .returned (.int .i64 (cmpI (kyP zs x) (kyP zs y))) ∧ Below W.heap.size W w':=by
 obtain ⟨i,rfl,hi,e1⟩:=ky_in h1
 obtain ⟨j,rfl,hj,e2⟩:=ky_in h2
 rw [e1,e2];obtain ⟨g,off,rfl,hg,c1⟩:=hS.at_ i hi
 obtain ⟨g',off',e0,hg',c2⟩:=hS.at_ j hj
 have e3 : g = g' ∧ off = off':=by
  have:=Option.some.inj e0
  injection this with a1 a2 _;exact ⟨a1,a2⟩
 obtain ⟨rfl,rfl⟩:=e3
 have HM:=hid (fun w a c=>cmpr_any a c w)
 have z1 : (i : Int) < (zs.length : Int):=by omega
 have z2 : (j : Int) < (zs.length : Int):=by omega
 have HD : Hid (W.drew.cell? ⟨pb,0,none⟩ = some (.slice (some ⟨g,off,none⟩) zs.length cap) ∧ W.drew.cell? ⟨g,off + i,none⟩ = some (.int .i32 zs[i]) ∧ W.drew.cell? ⟨g,off + j,none⟩ = some (.int .i32 zs[j])):=⟨hx,c1,c2⟩
 have H0 : Hid (W.cell? ⟨pb,0,none⟩ = some (.slice (some ⟨g,off,none⟩) zs.length cap) ∧ W.cell? ⟨g,off + i,none⟩ = some (.int .i32 zs[i]) ∧ W.cell? ⟨g,off + j,none⟩ = some (.int .i32 zs[j])):=⟨hx,c1,c2⟩
 have HB : Hid (Below W.heap.size W W.drew):=(Below.refl _ _).drew
 clear hS h1 h2 e1 e2 e0 hg hg' c1 c2 hx;generalize zs[i] = a at *;generalize zs[j] = b at *;generalize zs.length = n at *;go_enter Tryz.func254,Tryz.ntmps254
 go_wp2_with fail;go_region_held3 (fun w'=>w'.cell? ⟨pb,0,none⟩ = some (.slice (some ⟨g,off,none⟩) n cap) ∧ w'.cell? ⟨g,off + i,none⟩ = some (.int .i32 a) ∧ w'.cell? ⟨g,off + j,none⟩ = some (.int .i32 b))
  (first | exact HD.out | exact H0.out)
  (first | (go_at_call 255; refine (HM.out _ _ _).mono ?_; rintro e w' ⟨rfl,rfl⟩))
 all_goals go_wp2_with fail
 all_goals go_ret
 all_goals exact ⟨rfl,HB.out⟩
theorem isrt_nil (f : Value) (w : World) : Calls Tryz.prog 295 #[.slice none 0 0,.int .i64 0,.int .i64 0,f] w fun e w'=>e = .returned (.tuple #[]) ∧ w' = w:=by
 go_enter Tryz.func295,Tryz.ntmps295
 go_wp2_with fail;go_loop [8] (fun i=>i = .int .i64 1) (fun _=>0)
 case atStart=>rfl
 case round =>
  subst hrel;go_wp2_with fail;go_end0
  exact ⟨rfl,rfl⟩
theorem stab_nil (f : Value) (w : World) : Calls Tryz.prog 285 #[.slice none 0 0,.int .i64 0,f] w fun e w'=>e = .returned (.tuple #[]) ∧ w' = w:=by
 have HI:=hid (fun w=>isrt_nil f w)
 go_enter Tryz.func285,Tryz.ntmps285
 go_wp2_with fail;go_loop [7,8] (fun a b=>a = .int .i64 0 ∧ b = .int .i64 20) (fun _ _=>0)
 case atStart=>exact ⟨rfl,rfl⟩
 case round =>
  obtain ⟨rfl,rfl⟩:=hrel
  go_wp2_with fail;refine (HI.out _).mono ?_;rintro e w1 ⟨rfl,rfl⟩;go_wp2_with fail;go_loop [6] (fun b=>b = .int .i64 20) (fun _=>0)
  case atStart=>rfl
  case round =>
   subst hrel;go_wp2_with fail;go_end0
   exact ⟨rfl,rfl⟩
theorem sst_nil (f : Value) (w : World) : Calls Tryz.prog 253 #[.slice none 0 0,f] w fun e w'=>e = .returned (.tuple #[]) ∧ w' = w:=by
 have HI:=hid (fun w=>stab_nil f w)
 go_enter Tryz.func253,Tryz.ntmps253
 go_wp2_with fail;refine (HI.out _).mono ?_;rintro e w1 ⟨rfl,rfl⟩;go_wp2_with fail;go_end0
 exact ⟨rfl,rfl⟩
def Rw (B : Nat) (w : World) (v : Value) (l : List Int) : Prop:=(l = [] ∧ v = .slice none 0 0) ∨ ∃ g cap T,v = .slice (some ⟨g,0,none⟩) l.length cap ∧ l.length <= cap ∧ B <= g ∧ Blk w g l T
def ordL (zs : List Int) : List Int:=srt (kyP zs) (posL zs zs.length)
theorem bycode_any {w : World} {v : Value} {zs : List Int} (hS : Sl .i32 w v zs) (hz : ∀ z ∈ zs,0 <= z ∧ z <= 1114111) (hn : zs.length <= 1000) :
 Calls Tryz.prog 197 #[v] w fun e w'=>∃ v',e = .returned v' ∧ Rw w.heap.size w' v' (ordL zs) ∧ Below w.heap.size w w':=by
 obtain ⟨ao,cap,rfl,hS⟩:=hS
 have HS:=hid hS
 have HZ:=hid hz
 obtain ⟨w1,hw1⟩ : ∃ w1,w1 = w.alloc (.cells #[.slice ao zs.length cap] 22):=⟨_,rfl⟩
 have hb1 : Below w.heap.size w w1:=by rw [hw1]; exact (Below.refl _ _).alloc (Nat.le_refl _) _
 have hbx : w1.cell? ⟨w.heap.size,0,none⟩ = some (.slice ao zs.length cap):=by rw [hw1]; unfold World.cell?; rw [heap_new]; rfl
 have hlt : w.heap.size < w1.heap.size:=by rw [hw1]; simp
 have HB1:=hid (And.intro hb1 (And.intro hbx hlt));generalize hlen : zs.length = len at *;have HLn:=hid hlen
 have HW:=hid hw1
 clear hS hz hb1 hbx hlt hlen;go_enter Tryz.func197,Tryz.ntmps197
 go_wp2_with fail;rw [<- HW.out];go_loopg [3,8] len (fun gg vo vi wr=>∃ k : Nat,vi = .int .i64 k ∧ k <= len ∧ gg = len - k ∧ Hid (wr.ownsRow w1.heap.size 3 1 vo (posL zs k).length (ivs .i64 (posL zs k)) ∧ Ok w1.heap.size w1 wr ∧ (posL zs k = [] -> vo = .slice none 0 0)))
 case atStart=>exact ⟨0,rfl,Nat.zero_le _,rfl,World.ownsRow_nil _ _ _ _,Ok.start w1,fun _=>rfl⟩
 case round =>
  obtain ⟨k,rfl,hk,hg,H⟩:=hrel
  have HG:=hid hg
  clear hg;by_cases hlt : k < len
  ·have hlx : k < zs.length:=by rw [HLn.out]; exact hlt
   obtain ⟨bb,off,rfl,hb,c1⟩:=HS.out.at_ k hlx
   have d1:=((HB1.out.1.trans (H.out.2.1.1.mono HB1.out.1.size)).cell (p:=⟨bb,off + k,none⟩) hb).trans c1
   have HP:=hid (posL_succ zs k);rw [List.getD_eq_getElem?_getD,List.getElem?_eq_getElem hlx,Option.getD_some] at HP;have z1 : (k : Int) < (len : Int):=by omega
   have hpl:=posL_len zs k
   clear c1;generalize zs[k] = x at *;clear hlx;by_cases hx : 128 <= x
   ·rw [if_pos hx] at HP;generalize hpn : (posL zs k).length = pn at *;have HPn:=hid hpn
    clear hpn;go_wp2_with (at_builtin; refine app_i64 rfl (.tmp 15) (.tmp 17) rfl wr w1.heap.size pn _ (ivs .i64 (posL zs k)) (k : Int) rfl wr.heap.size rfl rfl H.out.1 (by omega) H.out.2.1.2 (fun v2 w2 h3 h4=>?_))
    have H2 : Hid (w2.ownsRow w1.heap.size 3 1 v2 (posL zs (k + 1)).length (ivs .i64 (posL zs (k + 1))) ∧ Ok w1.heap.size w1 w2 ∧ (posL zs (k + 1) = [] -> v2 = .slice none 0 0)):=by
     rw [HP.out];refine ⟨by rw [ivs_snoc,List.length_append,HPn.out]; exact h3,ok_below h4 H.out.2.1,fun e=>?_⟩
     simp at e
    clear h3 h4;go_roundg (len - (k + 1))
    case measure=>rw [HG.out]; omega
    case rel=>exact ⟨k + 1,by go_num,by omega,rfl,H2.out⟩
   ·rw [if_neg hx,List.append_nil] at HP;have hx2 : decide (128 <= x) = false:=decide_eq_false hx
    go_wp2_with fail;go_roundg (len - (k + 1))
    case measure=>rw [HG.out]; omega
    case rel=>exact ⟨k + 1,by go_num,by omega,rfl,by rw [HP.out]; exact H.out⟩
  ·have e : k = len:=by omega
   subst e;have z1 : ¬ (k : Int) < (k : Int):=by omega
   have HO : Hid (ordL zs = srt (kyP zs) (posL zs k)):=by show _ = _; unfold ordL; rw [HLn.out]
   by_cases hp : posL zs k = []
   ·have hv:=H.out.2.2 hp
    have HE : Hid (ordL zs = []):=by show _ = _; rw [HO.out,hp]; rfl
    have HOk:=hid H.out.2.1
    subst hv;clear H;go_wp2_with fail;refine (sst_nil _ _).mono ?_;rintro e w2 ⟨rfl,rfl⟩;go_wp2_with fail;go_ret;exact ⟨_,rfl,.inl ⟨HE.out,rfl⟩,HB1.out.1.trans (HOk.out.1.mono HB1.out.1.size)⟩
   ·have hpl : 0 < (posL zs k).length:=List.length_pos_iff.2 hp
    obtain ⟨g,cp,T,rfl,hcp,hgl,hB⟩:=own_blk H.out.1 hpl
    have hC : Cmp (kyP zs) (fun W=>Below w1.heap.size w1 W) g #[.pointer (some ⟨w.heap.size,0,none⟩)]:=by
     refine ⟨fun W x y hx hy hW=>?_,fun W W' hW ha=>hW.trans (ha.below hW.size hgl)⟩
     have hbx:=(hW.cell (p:=⟨w.heap.size,0,none⟩) HB1.out.2.2).trans HB1.out.2.1
     rw [<- HLn.out] at hbx;exact byc1_any hbx (HS.out.step (HB1.out.1.trans (hW.mono HB1.out.1.size))) x y hx hy
    have hpos : ∀ x ∈ posL zs k,0 < kyP zs x:=fun x hx=>by
     obtain ⟨i,rfl,_,h2⟩:=posL_mem hx
     unfold kyP;rw [if_pos (by omega),Int.toNat_natCast]; omega
    have hl5:=posL_len zs k
    have HSo:=hid (sstf_any wr g 0 cp (posL zs k).length hC [] (posL zs k) [] T (by simpa using hB) H.out.2.1.1 rfl rfl (by omega) hpos);have HOk:=hid H.out.2.1
    have HC:=hid (And.intro hcp hgl);have hls : (srt (kyP zs) (posL zs k)).length = (posL zs k).length:=(sw_srt (kyP zs) _).len
    have HLs:=hid hls
    clear H hC hpos hB hls hp hpl hcp hgl;generalize (posL zs k).length = pn at *;go_wp2_with fail;refine HSo.out.mono ?_;rintro e w2 ⟨rfl,h3,h4⟩;have H2 : Hid (Blk w2 g (srt (kyP zs) (posL zs k)) T ∧ Below w1.heap.size w1 w2):=⟨by simpa using h3,HOk.out.1.trans (h4.below HOk.out.1.size HC.out.2)⟩
    clear h3 h4;go_wp2_with fail;go_ret;refine ⟨_,rfl,?_,HB1.out.1.trans (H2.out.2.mono HB1.out.1.size)⟩
    rw [HO.out];exact .inr ⟨g,cp,T,by rw [HLs.out]; rfl,by rw [HLs.out]; exact HC.out.1,Nat.le_trans HB1.out.1.size HC.out.2,H2.out.1⟩
end Pu
end Go.Proofs.YtkhipgcgcbhjoaaGreat
