import Derived.Test.YtkhipgcgcbhjoaaGreatDn42
import Derived.Laws.IdiomStrings
set_option maxRecDepth 100000
set_option maxHeartbeats 2000000
namespace Go.Proofs.YtkhipgcgcbhjoaaGreat
namespace Pu
open Go.RowKit
open Od hiding hid Blk Alt
open Odi
def Lex (c : Int -> Int) (a b : Int) : Prop:=c a < c b ∨ (c a = c b ∧ a < b)
theorem ins_lex (c : Int -> Int) (x : Int) : ∀ (l : List Int),(∀ y ∈ l,0 < c y) -> (∀ y ∈ l,x < y) -> l.Pairwise (Lex c) -> (ins c x l).Pairwise (Lex c) ∧ ∀ y,y ∈ ins c x l ↔ y = x ∨ y ∈ l
 | [],_,_,_=>⟨List.pairwise_singleton _ _,fun y=>by simp [ins]⟩
 | z :: l,hp,hx,hl=>by
  have hc:=List.pairwise_cons.1 hl
  obtain ⟨ih1,ih2⟩:=ins_lex c x l (fun y hy=>hp y (by simp [hy])) (fun y hy=>hx y (by simp [hy])) hc.2
  unfold ins;split
  ·rename_i h
   refine ⟨List.pairwise_cons.2 ⟨fun y hy=>?_,ih1⟩,fun y=>?_⟩
   ·rcases (ih2 y).1 hy with rfl | hy
    ·exact .inl h.2
    ·exact hc.1 y hy
   ·rw [List.mem_cons,ih2,List.mem_cons];constructor
    ·rintro (h | h | h)
     ·exact .inr (.inl h)
     ·exact .inl h
     ·exact .inr (.inr h)
    ·rintro (h | h | h)
     ·exact .inr (.inl h)
     ·exact .inl h
     ·exact .inr (.inr h)
  ·rename_i h
   have hz:=hp z (by simp)
   refine ⟨List.pairwise_cons.2 ⟨fun y hy=>?_,hl⟩,fun y=>List.mem_cons⟩
   have hxz : Lex c x z:=by
    have:=hx z (by simp)
    rcases Int.lt_trichotomy (c x) (c z) with h1 | h1 | h1
    ·exact .inl h1
    ·exact .inr ⟨h1,this⟩
    ·exact absurd ⟨hz,h1⟩ h
   rcases List.mem_cons.1 hy with rfl | hy
   ·exact hxz
   ·have h1:=hc.1 y hy
    have h2:=hx y (by simp [hy])
    rcases hxz with a | a <;> rcases h1 with b | b
    ·exact .inl (by omega)
    ·exact .inl (by omega)
    ·exact .inl (by omega)
    ·exact .inr ⟨by omega,h2⟩
theorem srt_lex (c : Int -> Int) : ∀ (l : List Int),(∀ y ∈ l,0 < c y) -> l.Pairwise (· < ·) -> (srt c l).Pairwise (Lex c) ∧ ∀ y,y ∈ srt c l ↔ y ∈ l
 | [],_,_=>⟨List.Pairwise.nil,fun y=>Iff.rfl⟩
 | x :: l,hp,hl=>by
  have hc:=List.pairwise_cons.1 hl
  obtain ⟨ih1,ih2⟩:=srt_lex c l (fun y hy=>hp y (by simp [hy])) hc.2
  obtain ⟨h1,h2⟩:=ins_lex c x (srt c l) (fun y hy=>hp y (by simp [(ih2 y).1 hy])) (fun y hy=>hc.1 y ((ih2 y).1 hy)) ih1
  refine ⟨h1,fun y=>?_⟩
  show y ∈ ins c x (srt c l) ↔ _
  rw [h2,ih2,List.mem_cons]
theorem posL_pw (zs : List Int) : ∀ k,(posL zs k).Pairwise (· < ·)
 | 0=>by simp [posL]
 | k + 1=>by
  rw [posL_succ];split
  ·refine List.pairwise_append.2 ⟨posL_pw zs k,List.pairwise_singleton _ _,fun a ha b hb=>?_⟩
   obtain ⟨i,rfl,hi,_⟩:=posL_mem ha
   simp at hb
   omega
  ·rw [List.append_nil]; exact posL_pw zs k
theorem posL_mem' {zs : List Int} {k i : Nat} (h1 : i < k) (h2 : 128 <= zs.getD i 0) : (i : Int) ∈ posL zs k:=by unfold posL;exact List.mem_map.2 ⟨i,List.mem_filter.2 ⟨List.mem_range.2 h1,decide_eq_true h2⟩,rfl⟩
theorem ky_pos {zs : List Int} {x : Int} {k : Nat} (h : x ∈ posL zs k) : 128 <= kyP zs x:=by
 obtain ⟨i,rfl,_,h2⟩:=posL_mem h
 unfold kyP;rw [if_pos (by omega),Int.toNat_natCast]; exact h2
theorem ord_lex (zs : List Int) : (ordL zs).Pairwise (Lex (kyP zs)) ∧ ∀ y,y ∈ ordL zs ↔ y ∈ posL zs zs.length :=
 srt_lex (kyP zs) _ (fun y hy=>by have:=ky_pos hy; omega) (posL_pw zs _)
theorem ps_mono (a : List Int) (h : ∀ x ∈ a,0 <= x ∧ x <= 1) : ∀ (p q : Nat),p <= q -> ps a p <= ps a q
 | p,0,hq=>by
  have : p = 0:=by omega
  subst this; exact Int.le_refl _
 | p,q + 1,hq=>by
  by_cases e : p = q + 1
  ·subst e; exact Int.le_refl _
  ·have ih:=ps_mono a h p q (by omega)
   by_cases hl : q < a.length
   ·rw [ps_succ _ _ hl];have:=h a[q] (List.getElem_mem hl)
    omega
   ·have e2 : ps a (q + 1) = ps a q:=by unfold ps; rw [List.take_of_length_le (by omega),List.take_of_length_le (by omega)]
    omega
structure ES where
 n : Int
 place : Int
 bias : Int
 st : Nat
 a : List Int
 out : List Int
 i : Nat
def ES.d (zs : List Int) (s : ES) (at_ : Int) : Int:=(kyP zs at_ - s.n) * ((s.st : Int) + 1) + (ps s.a at_.toNat - s.place)
def ES.step (zs : List Int) (s : ES) (at_ : Int) : ES :=
 { n:=kyP zs at_,place:=ps s.a at_.toNat + 1,bias:=(adP (s.d zs at_).toNat (s.st + 1) (s.i == 0) : Nat),st:=s.st + 1,a:=s.a.set at_.toNat 1,out:=s.out ++ wrP (s.d zs at_) s.bias,i:=s.i + 1 }
def lowL (zs : List Int) : List Int:=zs.filter (fun z=>decide (z < 128))
def lowA (zs : List Int) : List Int:=zs.map (fun z=>if z < 128 then 1 else 0)
def ES.start (zs : List Int) : ES:={ n:=128,place:=0,bias:=72,st:=(lowL zs).length,a:=lowA zs,out:=if (lowL zs).length = 0 then [] else lowL zs ++ [45],i:=0 }
def encP (zs : List Int) : List Int:=((ordL zs).foldl (ES.step zs) (ES.start zs)).out
structure ES.Ok (zs : List Int) (s : ES) (rest : List Int) : Prop where
 len : s.a.length = zs.length
 bd : ∀ x ∈ s.a,0 <= x ∧ x <= 1
 sum : ps s.a zs.length = (s.st : Int)
 n0 : 128 <= s.n
 p0 : 0 <= s.place
 p1 : s.place <= s.st
 b0 : 0 <= s.bias
 b1 : s.bias <= 500000000
 lex : rest.Pairwise (Lex (kyP zs))
 rest : ∀ p ∈ rest,∃ q : Nat,p = q ∧ q < zs.length ∧ s.a.getD q 0 = 0 ∧ s.n <= kyP zs p ∧ kyP zs p <= 1114111 ∧ (kyP zs p = s.n -> s.place <= ps s.a q)
theorem ad_le (d c : Nat) (f : Bool) : adP d c f <= 2 * d + 36:=by
 unfold adP;have h:=adN_le _ ((if f = true then d / 700 else d / 2) + (if f = true then d / 700 else d / 2) / c) 0 (Nat.le_refl _)
 have h2 : (if f = true then d / 700 else d / 2) <= d:=by split <;> omega
 have h3:=Nat.div_le_self (if f = true then d / 700 else d / 2) c
 show adN _ 0 <= _
 omega
theorem ES.Ok.head {zs : List Int} {s : ES} {p : Int} {rest : List Int} (h : s.Ok zs (p :: rest)) (hl : zs.length <= 127) : 0 <= s.d zs p ∧ s.d zs p <= 200000000 ∧ (kyP zs p - s.n) * ((s.st : Int) + 1) <= 150000000 ∧ 0 <= (kyP zs p - s.n) * ((s.st : Int) + 1) ∧ s.st <= 127 ∧ 0 <= ps s.a p.toNat ∧ ps s.a p.toNat <= s.st:=by
 obtain ⟨q,rfl,hq,ha,h1,h2,h3⟩:=h.rest p (by simp)
 have hb:=ps_bd s.a h.bd zs.length
 rw [h.sum] at hb;have hm:=ps_mono s.a h.bd q zs.length (by omega)
 rw [h.sum] at hm;have hq0:=(ps_bd s.a h.bd q).1
 have hp0:=h.p0
 have hp1:=h.p1
 have hn:=h.n0
 have hst : s.st <= 127:=by omega
 unfold ES.d;rw [Int.toNat_natCast];have e1 : 0 <= (kyP zs (q : Int) - s.n) * ((s.st : Int) + 1):=Int.mul_nonneg (by omega) (by omega)
 have e2 : (kyP zs (q : Int) - s.n) * ((s.st : Int) + 1) <= 1114111 * 128:=Int.mul_le_mul (by omega) (by omega) (by omega) (by omega)
 refine ⟨?_,by omega,by omega,e1,hst,hq0,hm⟩
 by_cases e : kyP zs (q : Int) = s.n
 ·have:=h3 e
  rw [e,Int.sub_self,Int.zero_mul]; omega
 ·have e3 : 1 * ((s.st : Int) + 1) <= (kyP zs (q : Int) - s.n) * ((s.st : Int) + 1):=Int.mul_le_mul_of_nonneg_right (by omega) (by omega)
  omega
theorem ES.Ok.next {zs : List Int} {s : ES} {p : Int} {rest : List Int} (h : s.Ok zs (p :: rest)) (hl : zs.length <= 127) : (s.step zs p).Ok zs rest:=by
 obtain ⟨g1,g2,g3,g4,g5,g6,g7⟩:=h.head hl
 obtain ⟨q,rfl,hq,ha,h1,h2,h3⟩:=h.rest p (by simp)
 have hqa : q < s.a.length:=by rw [h.len]; exact hq
 have haq : s.a[q] = 0:=by rw [List.getD_eq_getElem?_getD,List.getElem?_eq_getElem hqa] at ha; exact ha
 have hset:=ps_set s.a q 1 hqa
 rw [haq] at hset;have hlex:=List.pairwise_cons.1 h.lex
 have had:=ad_le (s.d zs (q : Int)).toNat (s.st + 1) (s.i == 0)
 have hn:=h.n0
 unfold ES.step;rw [Int.toNat_natCast] at g6 g7 ⊢
 refine ⟨by simp only [List.length_set]; exact h.len,fun x hx=>?_,?_,by simp only; omega,by simp only; omega,by simp only; omega,by simp only; omega,by simp only; omega,hlex.2,fun r hr=>?_⟩
 ·rcases List.mem_or_eq_of_mem_set hx with hx | rfl
  ·exact h.bd x hx
  ·omega
 ·simp only
  rw [hset,if_pos (by omega),h.sum]; omega
 ·obtain ⟨t,rfl,ht,hta,t1,t2,t3⟩:=h.rest r (by simp [hr])
  have hx:=hlex.1 (t : Int) hr
  have hne : t ≠ q:=by
   intro e
   subst e;rcases hx with hx | hx <;> omega
  refine ⟨t,rfl,ht,?_,?_,t2,fun e=>?_⟩
  ·simp only
   rw [getD_set _ _ _ _ hqa,if_neg hne]; exact hta
  ·simp only
   rcases hx with hx | hx <;> omega
  ·simp only at e ⊢
   rcases hx with hx | hx
   ·omega
   ·have hm:=ps_mono s.a h.bd q t (by omega)
    rw [hset,if_pos (by omega)]; omega
theorem low_sum : ∀ (zs : List Int),(lowA zs).sum = ((lowL zs).length : Int)
 | []=>rfl
 | z :: zs=>by
  have ih:=low_sum zs
  unfold lowA lowL at ih ⊢
  rw [List.map_cons,List.sum_cons,ih];by_cases h : z < 128
  ·rw [if_pos h,List.filter_cons_of_pos (by simpa using h),List.length_cons]; omega
  ·rw [if_neg h,List.filter_cons_of_neg (by simpa using h)]; omega
theorem ES.start_ok (zs : List Int) (hz : ∀ z ∈ zs,0 <= z ∧ z <= 1114111) : (ES.start zs).Ok zs (ordL zs):=by
 have hlen : (lowA zs).length = zs.length:=by unfold lowA; simp
 have hbd : ∀ x ∈ lowA zs,0 <= x ∧ x <= 1:=fun x hx=>by
  unfold lowA at hx;obtain ⟨z,_,rfl⟩:=List.mem_map.1 hx
  split <;> omega
 refine ⟨hlen,hbd,?_,by simp [ES.start],by simp [ES.start],by simp [ES.start],by simp [ES.start],by simp [ES.start],(ord_lex zs).1,fun p hp=>?_⟩
 ·show ps (lowA zs) zs.length = _
  unfold ps;rw [<- hlen,List.take_length,low_sum]; rfl
 ·have hp':=((ord_lex zs).2 p).1 hp
  obtain ⟨q,rfl,hq,h2⟩:=posL_mem hp'
  have hk:=ky_pos hp'
  refine ⟨q,rfl,hq,?_,hk,?_,fun _=>(ps_bd _ hbd q).1⟩
  ·show (lowA zs).getD q 0 = 0
   rw [List.getD_eq_getElem?_getD,List.getElem?_eq_getElem hq,Option.getD_some] at h2;unfold lowA;rw [List.getD_eq_getElem?_getD,List.getElem?_map,List.getElem?_eq_getElem hq]
   simp only [Option.map_some,Option.getD_some]
   rw [if_neg (by omega)]
  ·unfold kyP;rw [if_pos (by omega),Int.toNat_natCast,List.getD_eq_getElem?_getD,List.getElem?_eq_getElem hq,Option.getD_some];exact (hz _ (List.getElem_mem hq)).2
theorem wr_short : ∀ (m n : Nat) (d k b : Int),0 <= d -> d < 10 ^ m -> (wrF n d k b).length <= m + 1
 | _,0,_,_,_,_,_=>by simp [wrF]
 | 0,n + 1,d,k,b,h0,h1=>by
  have:=(th_bd k b).1
  simp only [wrF]
  rw [if_pos (by simp at h1; omega)]; simp
 | m + 1,n + 1,d,k,b,h0,h1=>by
  simp only [wrF]
  split
  ·simp
  ·rename_i h
   have ht:=th_bd k b
   have hq:=q_lt d k b h
   have h10 : (d - thP k b) / (36 - thP k b) < 10 ^ m:=by
    have e1 : (d - thP k b) / (36 - thP k b) * (36 - thP k b) <= d - thP k b:=Int.ediv_mul_le _ (by omega)
    have e3 : (d - thP k b) / (36 - thP k b) * 10 <= (d - thP k b) / (36 - thP k b) * (36 - thP k b):=Int.mul_le_mul_of_nonneg_left (by omega) hq.1
    have e2 : (10 : Int) ^ (m + 1) = 10 ^ m * 10:=Int.pow_succ 10 m
    omega
   have:=wr_short m n _ (k + 36) b hq.1 h10
   rw [List.length_cons]; omega
structure Prd (p : Int -> Bool) (G : World -> Prop) (g : Nat) (pa : Array Value) : Prop where
 call : ∀ W x,True -> G W -> Calls Tryz.prog g (pa ++ #[.int .i32 x]) W fun e w'=>e = .returned (.bool (p x)) ∧ Below W.heap.size W w'
 keep : ∀ W W',G W -> Below W.heap.size W W' -> G W'
def idxQ (p : Int -> Bool) : Nat -> List Int -> Int
 | _,[]=>-1
 | k,x :: l=>if p x = true then k else idxQ p (k + 1) l
theorem idxQ_iff (p : Int -> Bool) : ∀ (l : List Int) (k : Nat),(0 <= idxQ p k l) ↔ l.any p = true
 | [],_=>by simp [idxQ]
 | x :: l,k=>by
  simp only [idxQ,List.any_cons]
  by_cases h : p x = true
  ·rw [if_pos h,h]; simp
  ·rw [if_neg h,idxQ_iff p l (k + 1)];simp at h
   simp [h]
theorem idxB_any {G : World -> Prop} {p : Int -> Bool} (w : World) (ao : Option Addr) (n cap : Nat) (hC : Prd p G 194 #[]) (X : List Int) (hX : X.length = n) (hI : ∀ x ∈ X,True) (hS : SlP .i32 w ao cap X) (hG : G w) (hn : n <= 1000000) :
 Calls Tryz.prog 108 #[.slice ao n cap,.func (.func 194) #[] #[]] w fun e w'=>e = .returned (.int .i64 (idxQ p 0 X)) ∧ Below w.heap.size w w':=by
 have HC:=hid hC
 have HX:=hid hX
 have HI:=hid hI
 have HS:=hid hS
 have H0 : Hid (G w ∧ Ok w.heap.size w w):=⟨hG,Ok.start w⟩
 clear hC hX hS hG hI;go_enter Tryz.func108,Tryz.ntmps108
 go_wp2_with fail;go_loopg [8] n (fun gg vi wr=>∃ k : Nat,vi = .int .i64 k ∧ k <= n ∧ gg = n - k ∧ Hid (idxQ p 0 X = idxQ p k (X.drop k) ∧ G wr ∧ Ok w.heap.size w wr))
 case atStart=>exact ⟨0,rfl,Nat.zero_le _,rfl,rfl,H0.out⟩
 case round =>
  obtain ⟨k,rfl,hk,hg,H⟩:=hrel
  have HG:=hid hg
  clear hg H0;by_cases hlt : k < n
  ·have hlx : k < X.length:=by have:=HX.out; omega
   obtain ⟨b,off,rfl,hb,c1⟩:=HS.out.at_ k hlx
   have d1:=(H.out.2.2.1.cell (p:=⟨b,off + k,none⟩) hb).trans c1
   have HE : Hid (idxQ p 0 X = if p X[k] = true then (k : Int) else idxQ p (k + 1) (X.drop (k + 1))):=by show _ = _;rw [H.out.1,List.drop_eq_getElem_cons hlx]; rfl
   have HV : Hid (Calls Tryz.prog 194 #[.int .i32 X[k]] wr fun e w'=>e = .returned (.bool (p X[k])) ∧ Below wr.heap.size wr w'):=HC.out.call wr X[k] (HI.out _ (List.getElem_mem hlx)) H.out.2.1
   clear c1;generalize X[k] = x at *;have z1 : (k : Int) < (n : Int):=by omega
   by_cases hp : p x = true
   ·have HR : Hid (idxQ p 0 X = (k : Int)):=by show _ = _; rw [HE.out,if_pos hp]
    rw [hp] at HV;clear hp HE;go_wp2_with fail;refine HV.out.mono ?_;rintro e w' ⟨rfl,hb'⟩;have hok:=hid (H.out.2.2.step hb');clear hb';go_wp2_with fail;go_ret
    exact ⟨ret_int HR.out.symm,hok.out.1⟩
   ·have HR : Hid (idxQ p 0 X = idxQ p (k + 1) (X.drop (k + 1))):=by show _ = _; rw [HE.out,if_neg hp]
    have hp2 : p x = false:=by simpa using hp
    rw [hp2] at HV;clear hp hp2 HE;go_wp2_with fail;refine HV.out.mono ?_;rintro e w' ⟨rfl,hb'⟩;have HN : Hid (G w' ∧ Ok w.heap.size w w'):=⟨HC.out.keep _ _ H.out.2.1 hb',H.out.2.2.step hb'⟩
    clear hb';go_wp2_with fail;go_roundg (n - (k + 1))
    case measure=>rw [HG.out]; omega
    case rel=>exact ⟨k + 1,by go_num,by omega,rfl,HR.out,HN.out⟩
  ·have e : X.drop k = []:=List.drop_eq_nil_of_le (by have:=HX.out; omega)
   have HR : Hid (idxQ p 0 X = -1):=by show _ = _; rw [H.out.1,e]; rfl
   go_wp2_with fail;go_ret;exact ⟨ret_int HR.out.symm,H.out.2.2.1⟩
theorem contB_any {G : World -> Prop} {p : Int -> Bool} (w : World) (v : Value) (hC : Prd p G 194 #[]) (X : List Int) (hI : ∀ x ∈ X,True) (hS : Sl .i32 w v X) (hG : G w) (hn : X.length <= 1000000) :
 Calls Tryz.prog 56 #[v,.func (.func 194) #[] #[]] w fun e w'=>e = .returned (.bool (X.any p)) ∧ Below w.heap.size w w':=by
 obtain ⟨ao,cap,rfl,hS⟩:=hS
 have HI:=hid (idxB_any w ao X.length cap hC X rfl hI hS hG hn);have HE : Hid (X.any p = decide (0 <= idxQ p 0 X)):=by show _ = _;rw [Bool.eq_iff_iff,decide_eq_true_eq];exact (idxQ_iff p X 0).symm
 clear hC hS hG hI;generalize idxQ p 0 X = v at *;generalize X.length = n at *;go_enter Tryz.func56,Tryz.ntmps56
 go_wp2_with fail;refine HI.out.mono ?_;rintro e w' ⟨rfl,hb⟩;go_wp2_with fail;go_ret;refine ⟨ret_bool ?_,hb⟩
 rw [HE.out];try rfl
def byB (r : Int) : Bool:=decide (r < 0 ∨ 1114111 < r)
theorem beyond_any (r : Int) (w : World) : Calls Tryz.prog 194 #[.int .i32 r] w fun e w'=>e = .returned (.bool (byB r)) ∧ w' = w:=by
 by_cases h1 : r < 0
 ·have HE : Hid (byB r = true):=decide_eq_true (.inl h1)
  go_enter Tryz.func194,Tryz.ntmps194
  go_wp2_with fail;go_ret;exact ⟨ret_bool HE.out.symm,rfl⟩
 ·by_cases h2 : 1114111 < r
  ·have HE : Hid (byB r = true):=decide_eq_true (.inr h2)
   go_enter Tryz.func194,Tryz.ntmps194
   go_wp2_with fail;go_ret;exact ⟨ret_bool HE.out.symm,rfl⟩
  ·have HE : Hid (byB r = false):=decide_eq_false (by omega)
   go_enter Tryz.func194,Tryz.ntmps194
   go_wp2_with fail;go_ret;exact ⟨ret_bool HE.out.symm,rfl⟩
theorem contby_any (w : World) (v : Value) (X : List Int) (hS : Sl .i32 w v X) (hn : X.length <= 1000000) :
 Calls Tryz.prog 56 #[v,.func (.func 194) #[] #[]] w fun e w'=>e = .returned (.bool (X.any byB)) ∧ Below w.heap.size w w' :=
 contB_any (G:=fun _=>True) w v ⟨fun W x _ _=>(beyond_any x W).mono (fun e w' h=>⟨h.1,by rw [h.2]; exact Below.refl _ _⟩),fun _ _ _ _=>trivial⟩ X (fun _ _=>trivial) hS trivial hn
def byt (l : List Int) : ByteArray:=⟨(l.map (fun n=>UInt8.ofNat n.toNat)).toArray⟩
theorem conv_byt {w : World} {B : Nat} {v : Value} {l : List Int} (h : By B w v l) (hl : ∀ x ∈ l,0 <= x ∧ x <= 255) : (convert 61 9 v).run Tryz.prog w = .ok (.string (byt l)) w:=by
 have h0:=h.own
 rcases h0.2 with ⟨h1,h2⟩ | ⟨g,cap,cur,rfl,h2,h3,h4,h5,h6,h7⟩
 ·have : l = []:=List.eq_nil_of_length_eq_zero h2
  subst this;rw [h1,run_convert_bytes_string w 61 9 5 none 0 0 Tryz.underlying61 Tryz.underlying5 Tryz.underlying9];simp [Conv.bytesToString,byt]
  rfl
 ·have hlen : (l.map (fun n=>UInt8.ofNat n.toNat)).length = l.length:=by simp
  have:=run_convert_bytes_back w 61 9 5 ⟨g,0,none⟩ cap (l.map (fun n=>UInt8.ofNat n.toNat)) Tryz.underlying61 Tryz.underlying5 Tryz.underlying9 (fun j hj=>by
   rw [hlen] at hj;have e2 : (⟨g,0,none⟩ : Addr).add j = ⟨g,0 + j,none⟩:=by unfold Addr.add; split <;> simp_all
   rw [e2,Nat.zero_add,h0.cellAt j (by omega)];have hb:=hl l[j] (List.getElem_mem hj)
   simp [ivs,hj]
   omega)
  rw [hlen] at this;exact this
theorem own_alt {w w' : World} {b B n size : Nat} {e : TypeId} {v : Value} {xs : List Value} (h : w.ownsRow B e size v n xs) (ha : Alt b w w') (hb : b < B) : w'.ownsRow B e size v n xs :=
 ⟨h.1,h.2.imp id fun ⟨g,cap,cur,h1,h2,h3,h4⟩=>⟨g,cap,cur,h1,h2,(ha.block g (Array.getElem?_eq_some_iff.1 h3).1 (by omega)).trans h3,h4⟩⟩
structure EW (w0 : World) (bt B : Nat) (a : List Int) (n1 : Nat) (v : Value) (out : List Int) (W : World) : Prop where
 ok : Below w0.heap.size w0 W
 tal : ∃ R,Blk W bt R [] ∧ Tal R a ∧ R.length = n1
 by_ : By B W v out
 lo : w0.heap.size <= bt ∧ bt < B
theorem EW.step {w0 : World} {bt B : Nat} {a : List Int} {n1 : Nat} {v : Value} {out : List Int} {W W' : World} (h : EW w0 bt B a n1 v out W) (hb : Below W.heap.size W W') : EW w0 bt B a n1 v out W':=by
 obtain ⟨R,h1,h2,h3⟩:=h.tal
 exact ⟨h.ok.trans (hb.mono h.ok.size),⟨R,h1.step hb,h2,h3⟩,h.by_.step hb,h.lo⟩
theorem EW.add {w0 : World} {bt B : Nat} {a a' : List Int} {n1 : Nat} {v : Value} {out : List Int} {W W' : World} (h : EW w0 bt B a n1 v out W) (ha : Alt bt W W') (hR : ∃ R,Blk W' bt R [] ∧ Tal R a' ∧ R.length = n1) : EW w0 bt B a' n1 v out W' :=
 ⟨h.ok.trans (ha.below h.ok.size h.lo.1),hR,⟨own_alt h.by_.own ha h.lo.2,Nat.le_trans h.by_.lo ha.size⟩,h.lo⟩
theorem EW.put {w0 : World} {bt B : Nat} {a : List Int} {n1 : Nat} {v v' : Value} {out out' : List Int} {W W' : World} (h : EW w0 bt B a n1 v out W) (hg : Gr W v W' v') (hb : By B W' v' out') : EW w0 bt B a n1 v' out' W':=by
 obtain ⟨R,h1,h2,h3⟩:=h.tal
 have hlt : ∀ k,v.ownBlock = some k -> B <= k:=fun k hk=>(h.by_.own.lt k hk).1
 have hB:=h.lo
 refine ⟨h.ok.trans (below_of_grown hg.grown _ h.ok.size (fun k hk=>by have:=hlt k hk; omega)),⟨R,?_,h2,h3⟩,hb,h.lo⟩
 refine (hg.grown.block bt h1.lt (fun e=>?_)).trans h1
 have:=hlt bt e.symm
 omega
def aK (zs : List Int) (k : Nat) : List Int:=lowA (zs.take k) ++ List.replicate (zs.length - k) 0
theorem aK_len (zs : List Int) (k : Nat) (h : k <= zs.length) : (aK zs k).length = zs.length:=by unfold aK lowA;simp; omega
theorem aK_get (zs : List Int) (k : Nat) (h : k < zs.length) : (aK zs k)[k]'(by rw [aK_len zs k (by omega)]; exact h) = 0:=by
 have hl : (lowA (zs.take k)).length = k:=by unfold lowA; simp; omega
 unfold aK;rw [List.getElem_append_right (by omega)];simp
theorem aK_succ (zs : List Int) (k : Nat) (h : k < zs.length) : aK zs (k + 1) = (aK zs k).set k (if zs[k] < 128 then 1 else 0):=by
 have hl : (lowA (zs.take k)).length = k:=by unfold lowA; simp; omega
 unfold aK;rw [List.set_append_right _ _ (by omega),hl,Nat.sub_self,List.take_succ_eq_append_getElem h];have e : zs.length - k = (zs.length - (k + 1)) + 1:=by omega
 rw [e,List.replicate_succ,List.set_cons_zero];unfold lowA;rw [List.map_append];simp
theorem set_same (l : List Int) (k : Nat) (v : Int) (h : k < l.length) (e : l[k] = v) : l.set k v = l:=by subst e;exact List.set_getElem_self h
theorem lowL_succ (zs : List Int) (k : Nat) (h : k < zs.length) : lowL (zs.take (k + 1)) = lowL (zs.take k) ++ if zs[k] < 128 then [zs[k]] else []:=by
 unfold lowL;rw [List.take_succ_eq_append_getElem h,List.filter_append];congr 1
 by_cases e : zs[k] < 128
 ·rw [if_pos e,List.filter_cons_of_pos (by simpa using e)]; rfl
 ·rw [if_neg e,List.filter_cons_of_neg (by simpa using e)]; rfl
theorem aK_end (zs : List Int) : aK zs zs.length = lowA zs:=by unfold aK; rw [List.take_length,Nat.sub_self]; simp
theorem aK_start (zs : List Int) : aK zs 0 = List.replicate zs.length 0:=by unfold aK lowA; simp
end Pu
end Go.Proofs.YtkhipgcgcbhjoaaGreat
