import Derived.Test.YtkhipgcgcbhjoaaGreatLa52
namespace Go.Proofs.YtkhipgcgcbhjoaaGreat
namespace Pu
open Go.RowKit
open Od hiding hid
open Odi
theorem rdD_mod (bi : Int) : ∀ (l : List Int) (pl c k p2 : Int) (rest : List Int),1 <= c -> rdD bi l pl c k = .inr (p2,rest) -> ∃ m,0 <= m ∧ p2 = pl + c * m
 | [],_,_,_,_,_,_,h=>by simp [rdD] at h
 | b :: l,pl,c,k,p2,rest,hc,h=>by
  simp only [rdD] at h
  split at h
  ·cases h
  ·split at h
   ·cases h
   ·split at h
    ·injection h with h;injection h with h _;exact ⟨vlP b,by omega,by rw [<- h,Int.mul_comm]⟩
    ·split at h
     ·cases h
     ·have ht:=th_bd k bi
      have hc2 : 1 * 1 <= c * (36 - thP k bi):=Int.mul_le_mul hc (by omega) (by omega) (by omega)
      obtain ⟨m,hm,e⟩:=rdD_mod bi l _ _ _ p2 rest (by omega) h
      refine ⟨vlP b + (36 - thP k bi) * m,?_,?_⟩
      ·have : 0 <= (36 - thP k bi) * m:=Int.mul_nonneg (by omega) hm
       omega
      ·rw [e,Int.mul_add,Int.add_assoc,Int.mul_assoc,Int.mul_comm (vlP b) c]
theorem two_ways {v1 v2 t c q m : Int} (hc : 1 <= c) (h0 : 0 <= m) (h1 : v1 < t) (h2 : t <= v2) (ht : t <= 35) (h : q + v1 * c = q + v2 * c + c * (36 - t) * m) : False:=by
 have e1 : 0 <= c * (36 - t) * m:=Int.mul_nonneg (Int.mul_nonneg (by omega) (by omega)) h0
 have e2 : (v1 + 1) * c <= v2 * c:=Int.mul_le_mul_of_nonneg_right (by omega) (by omega)
 rw [Int.add_mul,Int.one_mul] at e2;omega
theorem both_on {v1 v2 t c q m1 m2 : Int} (hc : 1 <= c) (ht1 : 1 <= t) (h1 : t <= v1) (h2 : t <= v2) (g1 : v1 <= 35) (g2 : v2 <= 35) (h : q + v1 * c + c * (36 - t) * m1 = q + v2 * c + c * (36 - t) * m2) : v1 = v2:=by
 have e : c * (v1 + (36 - t) * m1) = c * (v2 + (36 - t) * m2):=by rw [Int.mul_add,Int.mul_add,<- Int.mul_assoc,<- Int.mul_assoc,Int.mul_comm c v1,Int.mul_comm c v2]; omega
 have e2:=Int.eq_of_mul_eq_mul_left (by omega) e
 rcases Int.lt_trichotomy m1 m2 with hm | hm | hm
 ·have e3 : (36 - t) * (m1 + 1) <= (36 - t) * m2:=Int.mul_le_mul_of_nonneg_left (by omega) (by omega)
  rw [Int.mul_add,Int.mul_one] at e3;omega
 ·rw [hm] at e2; omega
 ·have e3 : (36 - t) * (m2 + 1) <= (36 - t) * m1:=Int.mul_le_mul_of_nonneg_left (by omega) (by omega)
  rw [Int.mul_add,Int.mul_one] at e3;omega
theorem rdD_one (bi : Int) : ∀ (l1 l2 : List Int) (pl c k p2 : Int) (r1 r2 : List Int),1 <= c -> rdD bi l1 pl c k = .inr (p2,r1) -> rdD bi l2 pl c k = .inr (p2,r2) -> l1.length + r2.length = l2.length + r1.length
 | [],_,_,_,_,_,_,_,_,h,_=>by simp [rdD] at h
 | _ :: _,[],_,_,_,_,_,_,_,_,h=>by simp [rdD] at h
 | b1 :: l1,b2 :: l2,pl,c,k,p2,r1,r2,hc,h1,h2=>by
  have ht:=th_bd k bi
  have hv1:=vl_le b1
  have hv2:=vl_le b2
  simp only [rdD] at h1 h2
  split at h1
  ·cases h1
  ·split at h1
   ·cases h1
   ·split at h2
    ·cases h2
    ·split at h2
     ·cases h2
     ·have hc2 : 1 * 1 <= c * (36 - thP k bi):=Int.mul_le_mul hc (by omega) (by omega) (by omega)
      split at h1
      ·injection h1 with h1;injection h1 with h1 h1';subst h1';split at h2
       ·injection h2 with h2;injection h2 with h2 h2';subst h2';simp only [List.length_cons]; omega
       ·split at h2
        ·cases h2
        ·obtain ⟨m,hm,e⟩:=rdD_mod bi l2 _ _ _ p2 r2 (by omega) h2
         exact (two_ways (q:=pl) hc hm (by omega) (by omega) (by omega) (h1.trans e)).elim
      ·split at h1
       ·cases h1
       ·split at h2
        ·injection h2 with h2;injection h2 with h2 h2';subst h2';obtain ⟨m,hm,e⟩:=rdD_mod bi l1 _ _ _ p2 r1 (by omega) h1
         exact (two_ways (q:=pl) hc hm (by omega) (by omega) (by omega) (h2.trans e)).elim
        ·try (split at h2; · cases h2)
         obtain ⟨m1,hm1,e1⟩:=rdD_mod bi l1 _ _ _ p2 r1 (by omega) h1
         obtain ⟨m2,hm2,e2⟩:=rdD_mod bi l2 _ _ _ p2 r2 (by omega) h2
         have ev:=both_on (q:=pl) hc (by omega) (by omega) (by omega) (by omega) (by omega) (e1.symm.trans e2)
         rw [<- ev] at h2;have:=rdD_one bi l1 l2 _ _ _ p2 r1 r2 (by omega) h1 h2
         simp only [List.length_cons]; omega
def Vs (low : List Int) (es : List Ent) : Prop:=∀ A c p B,es = A ++ (c,p) :: B -> (∀ x ∈ putL low A,x <= c) ∧ (∀ j x,p.toNat <= j -> (putL low A)[j]? = some x -> x < c) ∧ p.toNat <= (putL low A).length
theorem Vs.nil (low : List Int) : Vs low []:=fun A c p B h=>by
 cases A <;> cases h
theorem Vs.snoc {low : List Int} {es : List Ent} {c p : Int} (h : Vs low es) (h1 : ∀ x ∈ putL low es,x <= c) (h2 : ∀ j x,p.toNat <= j -> (putL low es)[j]? = some x -> x < c) (h3 : p.toNat <= (putL low es).length) : Vs low (es ++ [(c,p)]):=by
 intro A c' p' B e
 rcases List.eq_nil_or_concat B with rfl | ⟨B',b,rfl⟩
 ·obtain ⟨rfl,e2⟩:=List.append_inj' e rfl
  injection e2 with e2 _;injection e2 with e2 e3;subst e2 e3;exact ⟨h1,h2,h3⟩
 ·have e' : es ++ [(c,p)] = (A ++ (c',p') :: B') ++ [b]:=by rw [e,List.concat_eq_append,List.append_assoc]; rfl
  obtain ⟨e2,_⟩:=List.append_inj' e' rfl
  exact h A c' p' B' e2
theorem Vs.init {low : List Int} {es : List Ent} {e : Ent} (h : Vs low (es ++ [e])) : Vs low es:=fun A c p B h'=>h A c p (B ++ [e]) (by rw [h',List.append_assoc]; rfl)
theorem ins_mem' {l : List Int} {p : Nat} {c y : Int} : y ∈ insA l p c ↔ y ∈ l ∨ y = c:=by
 unfold insA;rw [List.mem_append,List.mem_cons];constructor
 ·rintro (h | h | h)
  ·exact .inl (List.mem_of_mem_take h)
  ·exact .inr h
  ·exact .inl (List.mem_of_mem_drop h)
 ·rintro (h | h)
  ·rw [<- List.take_append_drop p l,List.mem_append] at h;rcases h with h | h
   ·exact .inl h
   ·exact .inr (.inr h)
  ·exact .inr (.inl h)
theorem ins_at {l : List Int} {p : Nat} {c : Int} (h : p <= l.length) : (insA l p c)[p]? = some c:=by unfold insA;rw [List.getElem?_append_right (by rw [List.length_take]; omega),List.length_take,Nat.min_eq_left h,Nat.sub_self]; rfl
theorem ins_past {l : List Int} {p j : Nat} {c : Int} (h : p <= l.length) (hj : p < j) : (insA l p c)[j]? = l[j - 1]?:=by
 unfold insA;rw [List.getElem?_append_right (by rw [List.length_take]; omega),List.length_take,Nat.min_eq_left h]
 obtain ⟨i,rfl⟩ : ∃ i,j = p + (i + 1):=⟨j - p - 1,by omega⟩
 rw [Nat.add_sub_cancel_left,List.getElem?_cons_succ,List.getElem?_drop];rfl
theorem Vs.one {low : List Int} : ∀ (n : Nat) (es es' : List Ent),es.length = n -> es'.length = n -> (∀ e ∈ es,0 <= e.2) -> (∀ e ∈ es',0 <= e.2) -> Vs low es -> Vs low es' -> putL low es = putL low es' -> es = es'
 | 0,es,es',h1,h2,_,_,_,_,_=>by rw [List.length_eq_zero_iff.1 h1,List.length_eq_zero_iff.1 h2]
 | n + 1,es,es',h1,h2,g1,g2,v1,v2,h=>by
  rcases List.eq_nil_or_concat es with rfl | ⟨A,⟨c,p⟩,rfl⟩
  ·simp at h1
  rcases List.eq_nil_or_concat es' with rfl | ⟨A',⟨c',p'⟩,rfl⟩
  ·simp at h2
  rw [List.concat_eq_append] at *
  rw [List.concat_eq_append] at *
  rw [putL_snoc,putL_snoc] at h;simp only at h
  obtain ⟨a1,a2,a3⟩:=v1 A c p [] rfl
  obtain ⟨b1,b2,b3⟩:=v2 A' c' p' [] rfl
  have k1 : c <= c':=by
   have hm : c ∈ insA (putL low A') p'.toNat c':=by rw [<- h]; exact ins_mem'.2 (.inr rfl)
   rcases ins_mem'.1 hm with hm | hm
   ·exact b1 c hm
   ·omega
  have k2 : c' <= c:=by
   have hm : c' ∈ insA (putL low A) p.toNat c:=by rw [h]; exact ins_mem'.2 (.inr rfl)
   rcases ins_mem'.1 hm with hm | hm
   ·exact a1 c' hm
   ·omega
  have hc : c = c':=by omega
  subst hc;have hp : p.toNat = p'.toNat:=by
   rcases Nat.lt_trichotomy p.toNat p'.toNat with hl | hl | hl
   ·have e1:=ins_at (c:=c) b3
    rw [<- h,ins_past a3 hl] at e1;exact absurd (a2 _ _ (by omega) e1) (by omega)
   ·exact hl
   ·have e1:=ins_at (c:=c) a3
    rw [h,ins_past b3 hl] at e1;exact absurd (b2 _ _ (by omega) e1) (by omega)
  have q1 : 0 <= p:=g1 (c,p) (by simp)
  have q2 : 0 <= p':=g2 (c,p') (by simp)
  have hp2 : p = p':=by omega
  subst hp2;have hz : putL low A = putL low A':=by
   unfold insA at h;obtain ⟨e1,e2⟩:=List.append_inj h (by rw [List.length_take,List.length_take,Nat.min_eq_left a3,Nat.min_eq_left b3])
   injection e2 with _ e2;rw [<- List.take_append_drop p.toNat (putL low A),e1,e2,List.take_append_drop]
  rw [Vs.one n A A' (by simpa using h1) (by simpa using h2) (fun e he=>g1 e (by simp [he])) (fun e he=>g2 e (by simp [he])) v1.init v2.init hz]
structure RdOk (low : List Int) (s : DS) : Prop where
 vs : Vs low s.out
 nn : ∀ e ∈ s.out,0 <= e.2
 le : ∀ x ∈ putL low s.out,x <= s.n
 past : ∀ j x,s.place.toNat <= j -> (putL low s.out)[j]? = some x -> x < s.n
 st : s.st = low.length + s.out.length
 p0 : 0 <= s.place
theorem RdOk.next {low : List Int} {s : DS} {l rest : List Int} {p2 b : Int} (h : RdOk low s) (hd : rdD s.bias l s.place 1 36 = .inr (p2,rest)) :
 RdOk low { n:=s.n + p2 / ((s.st : Int) + 1),place:=p2 % ((s.st : Int) + 1) + 1,bias:=b,st:=s.st + 1,out:=s.out ++ [(s.n + p2 / ((s.st : Int) + 1),p2 % ((s.st : Int) + 1))] }:=by
 obtain ⟨m,hm,e⟩:=rdD_mod _ _ _ _ _ _ _ (by omega) hd
 have hp2 : s.place <= p2:=by omega
 have h0:=h.p0
 have hst:=h.st
 have hlen : (putL low s.out).length = s.st:=by rw [putL_len,hst]
 have q0 : 0 <= p2 / ((s.st : Int) + 1):=Int.ediv_nonneg (by omega) (by omega)
 have r0:=Int.emod_nonneg p2 (b:=(s.st : Int) + 1) (by omega)
 have r1:=Int.emod_lt_of_pos p2 (b:=(s.st : Int) + 1) (by omega)
 have hdm:=Int.mul_ediv_add_emod p2 ((s.st : Int) + 1)
 have hle : ∀ x ∈ putL low s.out,x <= s.n + p2 / ((s.st : Int) + 1):=fun x hx=>by have:=h.le x hx; omega
 have hpast : ∀ j x,(p2 % ((s.st : Int) + 1)).toNat <= j -> (putL low s.out)[j]? = some x -> x < s.n + p2 / ((s.st : Int) + 1):=fun j x hj hx=>by
  by_cases hq : p2 / ((s.st : Int) + 1) = 0
  ·rw [hq,Int.mul_zero] at hdm;have:=h.past j x (by omega) hx
   omega
  ·have:=h.le x (List.mem_of_getElem? hx)
   omega
 refine ⟨h.vs.snoc hle hpast (by omega),fun e he=>?_,fun x hx=>?_,fun j x hj hx=>?_,by simp only [List.length_append,List.length_singleton]; omega,by simp only; omega⟩
 ·rcases List.mem_append.1 he with he | he
  ·exact h.nn e he
  ·rw [List.mem_singleton.1 he]; exact r0
 ·simp only at hx ⊢
  rw [putL_snoc] at hx;rcases ins_mem'.1 hx with hx | hx
  ·exact hle x hx
  ·simp only at hx; omega
 ·simp only at hj hx ⊢
  rw [putL_snoc] at hx;simp only at hx
  rw [ins_past (by omega) (by omega)] at hx;exact hpast (j - 1) x (by omega) hx
theorem rdS_vs (low : List Int) : ∀ (f : Nat) (s : DS) (l : List Int) (es : List Ent),RdOk low s -> rdS f s l = .inr es -> Vs low es ∧ (∀ e ∈ es,0 <= e.2) ∧ ∃ t,es = s.out ++ t
 | 0,s,l,es,h1,h=>by
  simp only [rdS] at h
  injection h with h;subst h;exact ⟨h1.vs,h1.nn,[],by simp⟩
 | f + 1,s,[],es,h1,h=>by
  simp only [rdS] at h
  injection h with h;subst h;exact ⟨h1.vs,h1.nn,[],by simp⟩
 | f + 1,s,b :: l,es,h1,h=>by
  rw [rdS_step f s _ (by simp)] at h;revert h
  cases hD : rdD s.bias (b :: l) s.place 1 36 with
  | inl e=>intro h; cases h
  | inr p =>
   obtain ⟨p2,rest⟩:=p
   simp only
   intro h
   split at h
   ·cases h
   ·split at h
    ·cases h
    ·obtain ⟨k1,k2,t,k3⟩:=rdS_vs low f _ rest es (h1.next hD) h
     refine ⟨k1,k2,(s.n + p2 / ((s.st : Int) + 1),p2 % ((s.st : Int) + 1)) :: t,?_⟩
     simp only at k3
     rw [k3,List.append_assoc]; rfl
theorem rdS_one (low : List Int) : ∀ (f g : Nat) (s : DS) (l1 l2 : List Int) (es : List Ent),RdOk low s -> l1.length <= f -> l2.length <= g -> rdS f s l1 = .inr es -> rdS g s l2 = .inr es -> l1.length = l2.length
 | f,g,s,[],[],es,_,_,_,_,_=>rfl
 | f,g,s,[],b :: l,es,h1,_,hg,e1,e2=>by
  cases g with
  | zero=>simp at hg
  | succ g =>
  have e0 : rdS f s [] = .inr s.out:=by cases f <;> rfl
  rw [e0] at e1;injection e1 with e1;subst e1;rw [rdS_step g s _ (by simp)] at e2;revert e2
  cases hD : rdD s.bias (b :: l) s.place 1 36 with
  | inl e=>intro h; cases h
  | inr p =>
   obtain ⟨p2,rest⟩:=p
   simp only
   intro h
   split at h
   ·cases h
   ·split at h
    ·cases h
    ·obtain ⟨_,_,t,k3⟩:=rdS_vs low g _ rest _ (h1.next hD) h
     have:=congrArg List.length k3
     simp at this
 | f,g,s,b :: l,[],es,h1,hf,_,e1,e2=>by
  cases f with
  | zero=>simp at hf
  | succ f =>
  have e0 : rdS g s [] = .inr s.out:=by cases g <;> rfl
  rw [e0] at e2;injection e2 with e2;subst e2;rw [rdS_step f s _ (by simp)] at e1;revert e1
  cases hD : rdD s.bias (b :: l) s.place 1 36 with
  | inl e=>intro h; cases h
  | inr p =>
   obtain ⟨p2,rest⟩:=p
   simp only
   intro h
   split at h
   ·cases h
   ·split at h
    ·cases h
    ·obtain ⟨_,_,t,k3⟩:=rdS_vs low f _ rest _ (h1.next hD) h
     have:=congrArg List.length k3
     simp at this
 | 0,_,_,_ :: _,_ :: _,_,_,h,_,_,_=>by simp at h
 | _ + 1,0,_,_ :: _,_ :: _,_,_,_,h,_,_=>by simp at h
 | f + 1,g + 1,s,b1 :: l1,b2 :: l2,es,h1,hf,hg,e1,e2=>by
  rw [rdS_step f s _ (by simp)] at e1;rw [rdS_step g s _ (by simp)] at e2;revert e1 e2
  cases hD : rdD s.bias (b1 :: l1) s.place 1 36 with
  | inl e=>intro h; cases h
  | inr p =>
   obtain ⟨p2,r1⟩:=p
   cases hD2 : rdD s.bias (b2 :: l2) s.place 1 36 with
   | inl e=>intro _ h; cases h
   | inr p' =>
    obtain ⟨p3,r2⟩:=p'
    simp only
    intro e1 e2
    split at e1
    ·cases e1
    ·split at e1
     ·cases e1
     ·split at e2
      ·cases e2
      ·split at e2
       ·cases e2
       ·have hn1:=h1.next (b:=(adP (p2 - s.place).toNat (s.st + 1) (s.out.length == 0) : Nat)) hD
        have hn2:=h1.next (b:=(adP (p3 - s.place).toNat (s.st + 1) (s.out.length == 0) : Nat)) hD2
        obtain ⟨_,_,t1,k1⟩:=rdS_vs low f _ r1 es hn1 e1
        obtain ⟨_,_,t2,k2⟩:=rdS_vs low g _ r2 es hn2 e2
        have hk:=k1.symm.trans k2
        simp only [List.append_assoc,List.append_cancel_left_eq] at hk
        injection hk with hk _;injection hk with hk1 hk2;have d1:=Int.mul_ediv_add_emod p2 ((s.st : Int) + 1)
        have d2:=Int.mul_ediv_add_emod p3 ((s.st : Int) + 1)
        have hq : p2 / ((s.st : Int) + 1) = p3 / ((s.st : Int) + 1):=by omega
        rw [hq,hk2] at d1;have hp : p2 = p3:=by omega
        subst hp;have hl:=rdD_one _ _ _ _ _ _ _ _ _ (by omega) hD hD2
        have g1:=rdD_len _ _ _ _ _ _ _ hD
        have g2:=rdD_len _ _ _ _ _ _ _ hD2
        have:=rdS_one low f g _ r1 r2 es hn1 (by simp at hf g1; omega) (by simp at hg g2; omega) e1 e2
        omega
theorem low_ins (l : List Int) (p : Nat) (c : Int) (h : 128 <= c) : lowL (insA l p c) = lowL l:=by unfold lowL insA;rw [List.filter_append,List.filter_cons,if_neg (by simpa using h),<- List.filter_append,List.take_append_drop]
theorem low_put : ∀ (es : List Ent) (low : List Int),(∀ e ∈ es,128 <= e.1) -> lowL (putL low es) = lowL low
 | [],_,_=>rfl
 | e :: es,low,h=>by
  show lowL (putL (insA low e.2.toNat e.1) es) = _
  rw [low_put es _ (fun x hx=>h x (List.mem_cons_of_mem _ hx)),low_ins _ _ _ (h e List.mem_cons_self)]
theorem low_id {l : List Int} (h : ∀ x ∈ l,x < 128) : lowL l = l:=List.filter_eq_self.2 (fun x hx=>decide_eq_true (h x hx))
theorem enc_short {L zs : List Int} {i : Int} (hy : Hy L i) (hL : ∀ x ∈ L,0 <= x ∧ x <= 255) (h : decP L i = .inr zs) (hl : zs.length <= 40) : (encP zs).length <= L.length ∧ ∀ z ∈ zs,0 <= z ∧ z <= 1114111:=by
 unfold decP at h;split at h
 ·cases h
 ·rename_i hlow
  revert h
  cases hr : rdS (L.drop (i + 1).toNat).length ⟨128,0,72,(L.take i.toNat).length,[]⟩ (L.drop (i + 1).toNat) with
  | inl e=>intro h; cases h
  | inr es =>
   simp only
   intro h
   injection h with h;subst h;have hlt : ∀ x ∈ L.take i.toNat,x < 128:=fun x hx=>by
    have:=List.any_eq_false.1 (Bool.eq_false_iff.2 hlow) x hx
    simpa using this
   have hok : RdOk (L.take i.toNat) ⟨128,0,72,(L.take i.toNat).length,[]⟩:=⟨Vs.nil _,fun e he=>(by cases he),fun x hx=>(by have:=hlt x hx; show x <= 128; omega),fun j x _ hx=>hlt x (List.mem_of_getElem? hx),rfl,Int.le_refl _⟩
   obtain ⟨hE,_⟩:=rdS_ok (L.take i.toNat).length _ _ _ es (fun k hk=>by simp at hk) (by simp) (by simp) (by simp) (by simp) hr
   have hE' : ∀ e ∈ es,128 <= e.1 ∧ e.1 <= 1114111:=fun e he=>by
    obtain ⟨k,hk,rfl⟩:=List.mem_iff_getElem.1 he
    exact ⟨(hE k hk).1,(hE k hk).2.1⟩
   have hz : ∀ z ∈ putL (L.take i.toNat) es,0 <= z ∧ z <= 1114111:=fun z hz=>by
    rcases putL_mem es _ z hz with hm | ⟨e,he,rfl⟩
    ·have h1:=hL z (List.mem_of_mem_take hm)
     have h2:=hlt z hm
     omega
    ·have:=hE' e he; omega
   have hlw : lowL (putL (L.take i.toNat) es) = L.take i.toNat:=by rw [low_put es _ (fun e he=>(hE' e he).1),low_id hlt]
   have hzl:=putL_len es (L.take i.toNat)
   refine ⟨?_,hz⟩
   generalize hzs : putL (L.take i.toNat) es = zs at *;have hso:=ES.start_ok zs hz
   have hb:=rdS_back (.inl hl) (ordL zs) (ES.start zs) ⟨128,0,72,(lowL zs).length,[]⟩ (delL zs (ES.start zs) (ordL zs)).length hso rfl rfl rfl rfl rfl (Nat.le_refl _)
   rw [List.nil_append,hlw] at hb;have hpa:=put_all (zs:=zs) (by omega) hz
   rw [hlw] at hpa;obtain ⟨v1,n1,_⟩:=rdS_vs _ _ _ _ _ hok hr
   obtain ⟨v2,n2,_⟩:=rdS_vs _ _ _ _ _ hok hb
   have hel:=putL_len (entL zs (ES.start zs) (ordL zs)) (L.take i.toNat)
   rw [hpa] at hel;have he:=Vs.one es.length es _ rfl (by omega) n1 n2 v1 v2 (by rw [hzs,hpa])
   rw [<- he] at hb;have hlen:=rdS_one _ _ _ _ _ _ es hok (Nat.le_refl _) (Nat.le_refl _) hr hb
   rw [enc_shape,hlw,List.length_append,<- hlen,List.length_drop];obtain ⟨y1,y2,_,_⟩:=hy
   by_cases h0 : (L.take i.toNat).length = 0
   ·rw [if_pos h0,List.length_nil]; omega
   ·rw [if_neg h0,List.length_append,List.length_take];rw [List.length_take] at h0;simp only [List.length_singleton]
    omega
theorem dec_range {L zs : List Int} {i : Int} (hy : Hy L i) (hL : ∀ x ∈ L,0 <= x ∧ x <= 255) (h : decP L i = .inr zs) : (∀ z ∈ zs,0 <= z ∧ z <= 1114111) ∧ zs.length <= L.length:=by
 unfold decP at h;split at h
 ·cases h
 ·revert h
  cases hr : rdS (L.drop (i + 1).toNat).length ⟨128,0,72,(L.take i.toNat).length,[]⟩ (L.drop (i + 1).toNat) with
  | inl e=>intro h; cases h
  | inr es =>
   simp only
   intro h
   injection h with h;subst h;obtain ⟨hE,hn⟩:=rdS_ok (L.take i.toNat).length _ _ _ es (fun k hk=>by simp at hk) (by simp) (by simp) (by simp) (by simp) hr
   refine ⟨fun z hz=>?_,?_⟩
   ·rcases putL_mem es _ z hz with hm | ⟨e,he,rfl⟩
    ·have h1:=hL z (List.mem_of_mem_take hm); omega
    ·obtain ⟨k,hk,rfl⟩:=List.mem_iff_getElem.1 he
     have:=hE k hk; omega
   ·obtain ⟨h1,h2,_,_⟩:=hy
    rw [putL_len,List.length_take];rw [List.length_drop] at hn;simp at hn
    omega
def hyI : List Int -> Int
 | []=>-1
 | x :: l=>if 0 <= hyI l then hyI l + 1 else if x = 45 then 0 else -1
theorem hy_hyI : ∀ L,Hy L (hyI L)
 | []=>⟨by simp [hyI],by simp [hyI],fun k h=>by simp at h,fun k _ h=>by simp at h⟩
 | x :: l=>by
  obtain ⟨h1,h2,h3,h4⟩:=hy_hyI l
  unfold hyI;by_cases h : 0 <= hyI l
  ·rw [if_pos h];refine ⟨by omega,by simp only [List.length_cons]; omega,fun k hk hlt=>?_,fun k hk hlt=>?_⟩
   ·cases k with
    | zero=>omega
    | succ k=>exact h3 k (by simpa using hk) (by omega)
   ·cases k with
    | zero=>omega
    | succ k=>exact h4 k (by omega) (by simpa using hlt)
  ·rw [if_neg h];by_cases hx : x = 45
   ·rw [if_pos hx];refine ⟨by omega,by simp only [List.length_cons]; omega,fun k hk hlt=>?_,fun k hk hlt=>?_⟩
    ·cases k with
     | zero=>omega
     | succ k=>exact h3 k (by simpa using hk) (by omega)
    ·cases k with
     | zero=>exact hx
     | succ k=>omega
   ·rw [if_neg hx];refine ⟨by omega,by simp only [List.length_cons]; omega,fun k hk hlt=>?_,fun k hk hlt=>by omega⟩
    cases k with
    | zero=>exact hx
    | succ k=>exact h3 k (by simpa using hk) (by omega)
theorem Hy.one {L : List Int} {i j : Int} (h : Hy L i) (h' : Hy L j) : i = j:=by
 obtain ⟨a1,a2,a3,a4⟩:=h
 obtain ⟨b1,b2,b3,b4⟩:=h'
 rcases Int.lt_trichotomy i j with hl | hl | hl
 ·obtain ⟨k,rfl⟩ : ∃ k : Nat,j = k:=⟨j.toNat,by omega⟩
  exact absurd (b4 k rfl (by omega)) (a3 k (by omega) hl)
 ·exact hl
 ·obtain ⟨k,rfl⟩ : ∃ k : Nat,i = k:=⟨i.toNat,by omega⟩
  exact absurd (a4 k rfl (by omega)) (b3 k (by omega) hl)
def dcP (L : List Int) : Sum Int (List Int):=decP L (hyI L)
end Pu
end Go.Proofs.YtkhipgcgcbhjoaaGreat
