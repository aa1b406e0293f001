import Derived.Test.YtkhipgcgcbhjoaaGreatLa46
set_option maxRecDepth 100000
set_option maxHeartbeats 4000000
namespace Go.Proofs.YtkhipgcgcbhjoaaGreat
namespace Pu
open Go.RowKit
open Od hiding hid
open Odi
theorem byt_app (a b : List Int) : byt (a ++ b) = byt a ++ byt b:=by
 unfold byt;apply ByteArray.ext
 simp
theorem byt_size (a : List Int) : (byt a).size = a.length:=by
 show (a.map (fun n=>UInt8.ofNat n.toNat)).toArray.size = _
 simp
theorem dgs_cut : (List.range 36).all (fun i=>(dgs.extract i (i + 1)).data.toList == [UInt8.ofNat (dgP i).toNat]) = true:=by kernel_rfl
theorem dgs_ext (i : Nat) (h : i < 36) : dgs.extract i (i + 1) = byt [dgP i]:=by
 have:=List.all_eq_true.1 dgs_cut i (List.mem_range.2 h)
 rw [beq_iff_eq] at this;unfold byt;apply ByteArray.ext
 apply Array.ext'
 rw [this];rfl
theorem rwrite_any (d b : Int) (w : World) (h0 : 0 <= d) (h1 : d <= 2147483647) (hb : -1000000000 <= b ∧ b <= 1000000000) :
 Calls Tryz.prog 124 #[.int .i64 d,.int .i64 b] w fun e w'=>e = .returned (.string (byt (wrP d b))) ∧ w' = w:=by
 have HT:=hid (fun (k : Int) (W : World) (hk : 0 <= k ∧ k <= 1000000000000)=>rthr_any k b W (by omega) (by omega))
 have HX : Hid (∀ i : Nat,i < 36 -> ({ data:=#[97,98,99,100,101,102,103,104,105,106,107,108,109,110,111,112,113,114,115,116,117,118,119,120,121,122,48,49,50,51,52,53,54,55,56,57] } : ByteArray).extract i (i + 1) = byt [dgP i]):=hid dgs_ext
 go_enter Tryz.func124,Tryz.ntmps124
 go_wp2_with fail;go_loopg [0,5,6] (d.toNat + 1) (fun gg vd vs vk wr=>∃ (dc k : Int) (acc : List Int),vd = .int .i64 dc ∧ vk = .int .i64 k ∧ vs = .string (byt acc) ∧ wr = w ∧ 0 <= dc ∧ dc <= 2147483647 ∧ 0 <= k ∧ k + 36 * dc <= 36 + 36 * d ∧ gg = dc.toNat + 1 ∧ Hid (acc ++ wrF (dc.toNat + 1) dc k b = wrP d b))
 case atStart=>exact ⟨d,36,[],rfl,rfl,rfl,rfl,h0,h1,by omega,by omega,rfl,rfl⟩
 case round =>
  obtain ⟨dc,k,acc,rfl,rfl,rfl,rfl,c0,c1,k0,k1,hg,H⟩:=hrel
  have HG:=hid hg
  have HTk:=hid (HT.out k wr (by omega));have ht:=th_bd k b
  have hsz : ∀ x : Int,¬ 9223372036854775807 < (byt acc).size + (byt [x]).size:=fun x=>by
   have h2:=congrArg List.length H.out
   have h3 : (wrP d b).length <= 11:=wr_short 10 _ d 36 b h0 (by omega)
   rw [List.length_append] at h2;rw [byt_size,byt_size];simp
   omega
  have HW : Hid (wrF (dc.toNat + 1) dc k b = if dc < thP k b then [dgP dc] else dgP (thP k b + (dc - thP k b) % (36 - thP k b)) :: wrF dc.toNat ((dc - thP k b) / (36 - thP k b)) (k + 36) b):=rfl
  have HQ : Hid (¬ dc < thP k b -> 0 <= (dc - thP k b) / (36 - thP k b) ∧ (dc - thP k b) / (36 - thP k b) < dc):=q_lt dc k b
  clear hg h0 hb;generalize thP k b = t at *;by_cases hd : dc < t
  ·have HE : Hid (acc ++ [dgP dc] = wrP d b):=by show _ = _; rw [<- H.out,HW.out,if_pos hd]
   obtain ⟨dn,rfl⟩ : ∃ dn : Nat,dc = dn:=⟨dc.toNat,by omega⟩
   have hx:=HX.out dn (by omega)
   have q1 : ((dn : Int) + 1).toNat = dn + 1:=by omega
   have q2 : (dn : Int) + 1 <= 36:=by omega
   have q3 : (dn : Int) <= (dn : Int) + 1:=by omega
   have q4 : (0 : Int) <= (dn : Int) + 1:=by omega
   have q5 : dn + 1 <= 36:=by omega
   clear HW HQ;go_wp2_with fail;refine HTk.out.mono ?_;rintro e w1 ⟨rfl,rfl⟩;have hs2:=hsz (dgP (dn : Int))
   clear hsz;go_wp2_with fail;go_ret;exact ⟨by rw [<- HE.out,byt_app]; rfl,rfl⟩
  ·obtain ⟨q0,q1⟩:=HQ.out hd
   obtain ⟨r,hr⟩ : ∃ r,(dc - t) % (36 - t) = r:=⟨_,rfl⟩
   obtain ⟨q,hq⟩ : ∃ q,(dc - t) / (36 - t) = q:=⟨_,rfl⟩
   have r0 : 0 <= r:=by rw [<- hr]; exact Int.emod_nonneg _ (by omega)
   have r1 : r < 36 - t:=by rw [<- hr]; exact Int.emod_lt_of_pos _ (by omega)
   rw [hq] at q0 q1 HW
   rw [hr] at HW;have HE : Hid ((acc ++ [dgP (t + r)]) ++ wrF (q.toNat + 1) q (k + 36) b = wrP d b):=by show _ = _;rw [<- H.out,HW.out,if_neg hd,wrF_eq (q.toNat + 1) dc.toNat q (k + 36) b q0 (by omega) (by omega)];simp
   obtain ⟨x,hx⟩ : ∃ x : Nat,t + r = x:=⟨(t + r).toNat,by omega⟩
   have hx3:=HX.out x (by omega)
   have g1 : ¬ (36 - t = 0):=by omega
   have g2 : ¬ dc < t:=hd
   have q11 : ((x : Int) + 1).toNat = x + 1:=by omega
   have q12 : (x : Int) + 1 <= 36:=by omega
   have q13 : (x : Int) <= (x : Int) + 1:=by omega
   have q14 : (0 : Int) <= (x : Int) + 1:=by omega
   have q15 : x + 1 <= 36:=by omega
   have hs2:=hsz (dgP (x : Int))
   rw [hx] at HE;clear HW HQ hd hsz;go_wp2_with fail;refine HTk.out.mono ?_;rintro e w1 ⟨rfl,rfl⟩;go_wp2_with fail;go_roundg (q.toNat + 1)
   case measure=>rw [HG.out]; omega
   case rel=>exact ⟨q,k + 36,acc ++ [dgP (x : Int)],by first | rfl | (rw [hq]),by go_num,by rw [byt_app],rfl,q0,by omega,by omega,by omega,rfl,HE.out⟩
def cd (zs : List Int) (p : Nat) : Int:=zs.getD p 0
theorem ky_cd (zs : List Int) (p : Nat) : kyP zs (p : Int) = cd zs p:=by unfold kyP cd;rw [if_pos (by omega),Int.toNat_natCast]
structure RI (zs : List Int) (s : ES) (rest : List Int) (P : Nat -> Prop) : Prop where
 ok : s.Ok zs rest
 fin : (rest.foldl (ES.step zs) s).out = encP zs
 cnt : s.st + rest.length = zs.length
 mem : ∀ y,y ∈ rest ↔ ∃ p : Nat,y = p ∧ p < zs.length ∧ P p
 one : ∀ p,p < zs.length -> ¬ P p -> s.a.getD p 0 = 1
 fst : s.i + (lowL zs).length = s.st
 len : s.out.length <= 300 + 20 * s.st
theorem RI.congr {zs : List Int} {s : ES} {rest : List Int} {P P' : Nat -> Prop} (h : RI zs s rest P) (e : ∀ p,p < zs.length -> (P p ↔ P' p)) : RI zs s rest P' :=
 ⟨h.ok,h.fin,h.cnt,fun y=>by
  rw [h.mem];constructor
  ·rintro ⟨p,h1,h2,h3⟩; exact ⟨p,h1,h2,(e p h2).1 h3⟩
  ·rintro ⟨p,h1,h2,h3⟩; exact ⟨p,h1,h2,(e p h2).2 h3⟩,fun p hp hn=>h.one p hp (fun h3=>hn ((e p hp).1 h3)),h.fst,h.len⟩
theorem RI.zero {zs : List Int} {s : ES} {rest : List Int} {P : Nat -> Prop} (h : RI zs s rest P) {p : Nat} (hp : p < zs.length) (hP : P p) : s.a.getD p 0 = 0:=by
 obtain ⟨q,e,_,h2,_⟩:=h.ok.rest (p : Int) ((h.mem _).2 ⟨p,rfl,hp,hP⟩)
 have : q = p:=by omega
 subst this; exact h2
theorem ps_next {zs : List Int} {s : ES} (hl : s.a.length = zs.length) {q : Nat} (hq : q < zs.length) : ps s.a (q + 1) = ps s.a q + s.a.getD q 0:=by
 have hq' : q < s.a.length:=by rw [hl]; exact hq
 rw [ps_succ _ _ hq',List.getD_eq_getElem?_getD,List.getElem?_eq_getElem hq']; rfl
def Pm (zs : List Int) (m : Int) (q : Nat) (p : Nat) : Prop:=m < cd zs p ∨ (cd zs p = m ∧ q <= p)
theorem RI.lt {zs : List Int} {s : ES} {rest : List Int} {m : Int} {q : Nat} (h : RI zs s rest (Pm zs m q)) (hq : q < zs.length) (hz : cd zs q < m) : RI zs s rest (Pm zs m (q + 1)) ∧ ps s.a (q + 1) = ps s.a q + 1:=by
 refine ⟨h.congr fun p hp=>?_,?_⟩
 ·unfold Pm;constructor
  ·rintro (h1 | ⟨h1,h2⟩)
   ·exact .inl h1
   ·right
    refine ⟨h1,?_⟩
    have : p ≠ q:=fun e=>by subst e; omega
    omega
  ·rintro (h1 | ⟨h1,h2⟩)
   ·exact .inl h1
   ·exact .inr ⟨h1,by omega⟩
 ·rw [ps_next h.ok.len hq,h.one q hq (by unfold Pm; omega)]
theorem RI.gt {zs : List Int} {s : ES} {rest : List Int} {m : Int} {q : Nat} (h : RI zs s rest (Pm zs m q)) (hq : q < zs.length) (hz : m < cd zs q) : RI zs s rest (Pm zs m (q + 1)) ∧ ps s.a (q + 1) = ps s.a q:=by
 refine ⟨h.congr fun p hp=>?_,?_⟩
 ·unfold Pm;constructor
  ·rintro (h1 | ⟨h1,h2⟩)
   ·exact .inl h1
   ·right
    refine ⟨h1,?_⟩
    have : p ≠ q:=fun e=>by subst e; omega
    omega
  ·rintro (h1 | ⟨h1,h2⟩)
   ·exact .inl h1
   ·exact .inr ⟨h1,by omega⟩
 ·rw [ps_next h.ok.len hq,h.zero hq (.inl hz)]; omega
theorem RI.eq {zs : List Int} {s : ES} {rest : List Int} {m : Int} {q : Nat} (hl : zs.length <= 127) (h : RI zs s rest (Pm zs m q)) (hq : q < zs.length) (hz : cd zs q = m) :
 ∃ rest',rest = (q : Int) :: rest' ∧ RI zs (s.step zs q) rest' (Pm zs m (q + 1)) ∧ ps (s.step zs q).a (q + 1) = ps s.a q + 1:=by
 have hqm : (q : Int) ∈ rest:=(h.mem _).2 ⟨q,rfl,hq,.inr ⟨hz,Nat.le_refl _⟩⟩
 cases hr : rest with
 | nil=>rw [hr] at hqm; simp at hqm
 | cons x rest' =>
  have hlx:=h.ok.lex
  rw [hr] at hlx hqm
  have hpw:=List.pairwise_cons.1 hlx
  obtain ⟨p,ep,hp,hP⟩:=(h.mem x).1 (by rw [hr]; simp)
  have hx : x = (q : Int):=by
   rcases List.mem_cons.1 hqm with e | e
   ·exact e.symm
   ·exfalso
    have hL:=hpw.1 _ e
    rw [ep] at hL;unfold Lex at hL;rw [ky_cd,ky_cd,hz] at hL;rcases hP with h1 | ⟨h1,h2⟩
    ·rcases hL with h3 | h3 <;> omega
    ·rcases hL with h3 | h3 <;> omega
  subst hx;have hOk:=h.ok
  rw [hr] at hOk;have hfin:=h.fin
  rw [hr] at hfin;have hcnt:=h.cnt
  rw [hr,List.length_cons] at hcnt;have hqa : q < s.a.length:=by rw [h.ok.len]; exact hq
  have hhd:=hOk.head hl
  refine ⟨rest',rfl,⟨hOk.next hl,hfin,?_,fun y=>?_,fun r hr' hn=>?_,?_,?_⟩,?_⟩
  ·show s.st + 1 + rest'.length = _; omega
  ·have hm:=h.mem y
   rw [hr,List.mem_cons] at hm;constructor
   ·intro hy
    obtain ⟨r,e,hr1,hP⟩:=hm.1 (.inr hy)
    refine ⟨r,e,hr1,?_⟩
    have hne : r ≠ q:=by
     intro e2
     have hL:=hpw.1 y hy
     rw [e,e2] at hL;unfold Lex at hL;rcases hL with h3 | h3 <;> omega
    rcases hP with h1 | ⟨h1,h2⟩
    ·exact .inl h1
    ·exact .inr ⟨h1,by omega⟩
   ·rintro ⟨r,e,hr1,hP⟩;rcases hm.2 ⟨r,e,hr1,by
     rcases hP with h1 | ⟨h1,h2⟩
     ·exact .inl h1
     ·exact .inr ⟨h1,by omega⟩⟩ with h3 | h3
    ·exfalso
     have : r = q:=by omega
     subst this;rcases hP with h1 | ⟨h1,h2⟩ <;> omega
    ·exact h3
  ·show (s.a.set (q : Int).toNat 1).getD r 0 = 1
   rw [Int.toNat_natCast,getD_set _ _ _ _ hqa];by_cases e : r = q
   ·rw [if_pos e]
   ·rw [if_neg e];refine h.one r hr' (fun hP=>hn ?_)
    rcases hP with h1 | ⟨h1,h2⟩
    ·exact .inl h1
    ·exact .inr ⟨h1,by omega⟩
  ·show s.i + 1 + _ = s.st + 1
   have:=h.fst
   omega
  ·show (s.out ++ wrP (s.d zs q) s.bias).length <= 300 + 20 * (s.st + 1)
   have h1:=h.len
   have h2 : (wrP (s.d zs (q : Int)) s.bias).length <= 11:=wr_short 10 _ _ 36 s.bias hhd.1 (by have:=hhd.2.1; omega)
   rw [List.length_append];omega
  ·show ps (s.a.set (q : Int).toNat 1) (q + 1) = _
   have ha : s.a[q] = 0:=by
    have:=h.zero hq (.inr ⟨hz,Nat.le_refl _⟩)
    rw [List.getD_eq_getElem?_getD,List.getElem?_eq_getElem hqa] at this;exact this
   rw [Int.toNat_natCast,ps_set _ _ _ hqa,if_pos (by omega),ps_succ _ _ hqa,ha]; omega
theorem low_cnt : ∀ (zs : List Int) (k : Nat),(posL zs k).length + (lowL (zs.take k)).length = min k zs.length + (k - min k zs.length) * 0
 | zs,0=>by simp [posL,lowL]
 | zs,k + 1=>by
  have ih:=low_cnt zs k
  by_cases h : k < zs.length
  ·rw [posL_succ,List.length_append,lowL_succ zs k h,List.length_append];have e : zs.getD k 0 = zs[k]:=by rw [List.getD_eq_getElem?_getD,List.getElem?_eq_getElem h]; rfl
   rw [e];by_cases h2 : zs[k] < 128
   ·rw [if_pos h2,if_neg (by omega)]; simp at ih ⊢; omega
   ·rw [if_neg h2,if_pos (by omega)]; simp at ih ⊢; omega
  ·have e1 : zs.take (k + 1) = zs.take k:=by rw [List.take_of_length_le (by omega),List.take_of_length_le (by omega)]
   rw [posL_succ,e1];have e : zs.getD k 0 = 0:=by rw [List.getD_eq_getElem?_getD,List.getElem?_eq_none (by omega)]; rfl
   rw [e,if_neg (by omega),List.append_nil];simp at ih ⊢
   omega
theorem RI.start (zs : List Int) (hz : ∀ z ∈ zs,0 <= z ∧ z <= 1114111) : RI zs (ES.start zs) (ordL zs) (fun p=>128 <= cd zs p):=by
 refine ⟨ES.start_ok zs hz,rfl,?_,fun y=>?_,fun p hp hn=>?_,?_,?_⟩
 ·have h1:=low_cnt zs zs.length
  have h2 : (ordL zs).length = (posL zs zs.length).length:=(sw_srt (kyP zs) _).len
  rw [List.take_length] at h1;show (lowL zs).length + _ = _
  simp at h1
  omega
 ·rw [(ord_lex zs).2];constructor
  ·intro h
   obtain ⟨i,e,h1,h2⟩:=posL_mem h
   exact ⟨i,e,h1,h2⟩
  ·rintro ⟨p,rfl,h1,h2⟩;exact posL_mem' h1 h2
 ·show (lowA zs).getD p 0 = 1
  unfold cd at hn;rw [List.getD_eq_getElem?_getD,List.getElem?_eq_getElem hp,Option.getD_some] at hn;unfold lowA;rw [List.getD_eq_getElem?_getD,List.getElem?_map,List.getElem?_eq_getElem hp]
  simp only [Option.map_some,Option.getD_some]
  rw [if_pos (by omega)]
 ·show 0 + (lowL zs).length = (lowL zs).length; omega
 ·show (if (lowL zs).length = 0 then [] else lowL zs ++ [45]).length <= 300 + 20 * (lowL zs).length
  split
  ·simp
  ·rw [List.length_append]; simp; omega
end Pu
end Go.Proofs.YtkhipgcgcbhjoaaGreat
