import Derived.Test.YtkhipgcgcbhjoaaGreatLa50
set_option maxRecDepth 100000
set_option maxHeartbeats 4000000
namespace Go.Proofs.YtkhipgcgcbhjoaaGreat
namespace Pu
open Go.RowKit
open Od hiding hid
open Odi
theorem vd_ck : (List.range 36).all (fun n=>vlP (dgP n) == n && (decide (97 <= dgP n) || decide (dgP n <= 57)) && decide (48 <= dgP n) && decide (dgP n < 123)) = true:=by kernel_rfl
theorem vd {v : Int} (h0 : 0 <= v) (h1 : v < 36) : vlP (dgP v) = v ∧ (97 <= dgP v ∨ dgP v <= 57) ∧ 48 <= dgP v ∧ dgP v < 123:=by
 obtain ⟨n,rfl⟩:=Int.eq_ofNat_of_zero_le h0
 have h:=List.all_eq_true.1 vd_ck n (List.mem_range.2 (by omega))
 rw [Bool.and_eq_true,Bool.and_eq_true,Bool.and_eq_true,Bool.or_eq_true,beq_iff_eq,decide_eq_true_eq,decide_eq_true_eq,decide_eq_true_eq,decide_eq_true_eq] at h
 exact ⟨h.1.1.1,h.1.1.2,h.1.2,h.2⟩
theorem rd_back (bi : Int) : ∀ (n : Nat) (δ pl c k : Int) (D : List Int),0 <= δ -> δ.toNat < n -> 0 <= pl -> 1 <= c -> 35 * (δ * c) <= 2147483647 -> pl + δ * c <= 2147483647 -> rdD bi (wrF n δ k bi ++ D) pl c k = .inr (pl + δ * c,D)
 | 0,_,_,_,_,_,_,h,_,_,_,_=>by omega
 | n + 1,δ,pl,c,k,D,h0,h1,hp,hc,hM,hP=>by
  have ht:=th_bd k bi
  simp only [wrF]
  by_cases hd : δ < thP k bi
  ·rw [if_pos hd];have hv:=(vd h0 (by omega)).1
   show rdD bi (dgP δ :: D) pl c k = _
   simp only [rdD]
   rw [hv,if_neg (by omega),if_neg (Int.not_lt.2 (Int.le_ediv_of_mul_le (by omega) (by omega))),if_pos hd]
  ·rw [if_neg hd];have hq:=q_lt δ k bi hd
   show rdD bi (dgP (thP k bi + (δ - thP k bi) % (36 - thP k bi)) :: (wrF n ((δ - thP k bi) / (36 - thP k bi)) (k + 36) bi ++ D)) pl c k = _
   simp only [rdD]
   have ih:=fun pl' c'=>rd_back bi n ((δ - thP k bi) / (36 - thP k bi)) pl' c' (k + 36) D hq.1 (by omega)
   generalize thP k bi = t at *;have hr0:=Int.emod_nonneg (δ - t) (b:=36 - t) (by omega)
   have hr1:=Int.emod_lt_of_pos (δ - t) (b:=36 - t) (by omega)
   have hdm:=Int.mul_ediv_add_emod (δ - t) (36 - t)
   generalize (δ - t) / (36 - t) = q at *;generalize (δ - t) % (36 - t) = r at *;have hv:=(vd (v:=t + r) (by omega) (by omega)).1
   have e1 : (t + r) + (36 - t) * q = δ:=by omega
   have e2 : δ * c = (t + r) * c + q * (c * (36 - t)):=by rw [<- e1,Int.add_mul,Int.mul_comm (36 - t) q,Int.mul_assoc,Int.mul_comm (36 - t) c]
   have e3 : 0 <= q * (c * (36 - t)):=Int.mul_nonneg hq.1 (Int.mul_nonneg (by omega) (by omega))
   have e4 : 0 <= (t + r) * c:=Int.mul_nonneg (by omega) (by omega)
   have e5 : 1 * c <= δ * c:=Int.mul_le_mul_of_nonneg_right (by omega) (by omega)
   have e6 : c * (36 - t) <= c * 35:=Int.mul_le_mul_of_nonneg_left (by omega) (by omega)
   have e7 : 1 * 1 <= c * (36 - t):=Int.mul_le_mul hc (by omega) (by omega) (by omega)
   rw [hv,if_neg (by omega),if_neg (Int.not_lt.2 (Int.le_ediv_of_mul_le (by omega) (by omega))),if_neg (by omega),if_neg (Int.not_lt.2 (Int.le_ediv_of_mul_le (by omega) (by omega))),
    ih _ _ (by omega) (by omega) (by omega) (by omega),e2]
   rw [Int.add_assoc]
theorem wr_back (δ pl bi : Int) (D : List Int) (h0 : 0 <= δ) (hp : 0 <= pl) (h1 : δ <= 50000000) (h2 : pl <= 1000) : rdD bi (wrP δ bi ++ D) pl 1 36 = .inr (pl + δ,D):=by
 have h:=rd_back bi (δ.toNat + 1) δ pl 1 36 D h0 (by omega) hp (by omega) (by omega) (by omega)
 rw [Int.mul_one] at h;exact h
def entL (zs : List Int) : ES -> List Int -> List Ent
 | _,[]=>[]
 | s,p :: rest=>(kyP zs p,ps s.a p.toNat) :: entL zs (s.step zs p) rest
def delL (zs : List Int) : ES -> List Int -> List Int
 | _,[]=>[]
 | s,p :: rest=>wrP (s.d zs p) s.bias ++ delL zs (s.step zs p) rest
theorem out_del (zs : List Int) : ∀ (rest : List Int) (s : ES),(rest.foldl (ES.step zs) s).out = s.out ++ delL zs s rest
 | [],s=>by simp [delL]
 | p :: rest,s=>by
  show (rest.foldl (ES.step zs) (s.step zs p)).out = _
  rw [out_del zs rest];show (s.out ++ wrP (s.d zs p) s.bias) ++ _ = _
  rw [List.append_assoc]; rfl
theorem ent_len (zs : List Int) : ∀ (rest : List Int) (s : ES),(entL zs s rest).length = rest.length
 | [],s=>rfl
 | p :: rest,s=>by
  show (entL zs (s.step zs p) rest).length + 1 = _
  rw [ent_len zs rest]; rfl
theorem st_end (zs : List Int) : ∀ (rest : List Int) (s : ES),(rest.foldl (ES.step zs) s).st = s.st + rest.length
 | [],s=>rfl
 | p :: rest,s=>by
  show (rest.foldl (ES.step zs) (s.step zs p)).st = _
  rw [st_end zs rest];show s.st + 1 + _ = _
  rw [List.length_cons]; omega
theorem ok_end {zs : List Int} (hl : zs.length <= 127) : ∀ (rest : List Int) (s : ES),s.Ok zs rest -> (rest.foldl (ES.step zs) s).Ok zs []
 | [],_,h=>h
 | p :: rest,s,h=>ok_end hl rest (s.step zs p) (h.next hl)
def Sm (zs : List Int) : Prop:=zs.length <= 40 ∨ (zs.length <= 59 ∧ ∀ z ∈ zs,z <= 800000)
theorem Sm.le {zs : List Int} (h : Sm zs) : zs.length <= 59:=by
 rcases h with h | h
 ·omega
 ·exact h.1
theorem ES.Ok.small {zs : List Int} {s : ES} {p : Int} {rest : List Int} (h : s.Ok zs (p :: rest)) (hs : Sm zs) : s.d zs p <= 50000000 ∧ s.st <= 59:=by
 have hl:=hs.le
 obtain ⟨g1,g2,g3,g4,g5,g6,g7⟩:=h.head (by omega)
 obtain ⟨q,rfl,hq,ha,h1,h2,h3⟩:=h.rest p (by simp)
 have hb:=ps_bd s.a h.bd zs.length
 rw [h.sum] at hb;have hst : s.st <= 59:=by omega
 have hn:=h.n0
 have hp0:=h.p0
 refine ⟨?_,hst⟩
 unfold ES.d;rcases hs with hs | ⟨hs,hz⟩
 ·have e2 : (kyP zs (q : Int) - s.n) * ((s.st : Int) + 1) <= 1114111 * 41:=Int.mul_le_mul (by omega) (by omega) (by omega) (by omega)
  omega
 ·have hk : kyP zs (q : Int) <= 800000:=by
   rw [ky_cd];unfold cd;rw [List.getD_eq_getElem?_getD,List.getElem?_eq_getElem hq];exact hz _ (List.getElem_mem hq)
  have e2 : (kyP zs (q : Int) - s.n) * ((s.st : Int) + 1) <= 800000 * 60:=Int.mul_le_mul (by omega) (by omega) (by omega) (by omega)
  omega
theorem wrP_ne (d b : Int) : 1 <= (wrP d b).length:=by
 unfold wrP;simp only [wrF]
 split <;> simp
theorem rdS_back {zs : List Int} (hs : Sm zs) : ∀ (rest : List Int) (s : ES) (d : DS) (f : Nat),s.Ok zs rest -> d.n = s.n -> d.place = s.place -> d.bias = s.bias -> d.st = s.st -> d.out.length = s.i -> (delL zs s rest).length <= f -> rdS f d (delL zs s rest) = .inr (d.out ++ entL zs s rest)
 | [],s,d,f,_,_,_,_,_,_,_=>by
  show rdS f d [] = .inr (d.out ++ [])
  rw [List.append_nil];cases f <;> rfl
 | p :: rest,s,d,f,h,e1,e2,e3,e4,e5,hf=>by
  have hl:=hs.le
  obtain ⟨g1,g2,g3,g4,g5,g6,g7⟩:=h.head (by omega)
  obtain ⟨k1,k2⟩:=h.small hs
  obtain ⟨q,hpq,hq,ha,h1,h2,h3⟩:=h.rest p (by simp)
  have hn:=h.n0
  have hp0:=h.p0
  have hp1:=h.p1
  have ih:=fun d' f'=>rdS_back hs rest (s.step zs p) d' f' (h.next (by omega))
  have hwl:=wrP_ne (s.d zs p) s.bias
  have hdl : delL zs s (p :: rest) = wrP (s.d zs p) s.bias ++ delL zs (s.step zs p) rest:=rfl
  rw [hdl,List.length_append] at hf;rw [hdl];obtain ⟨f,rfl⟩ : ∃ g,f = g + 1:=⟨f - 1,by omega⟩
  rw [rdS_step f d _ (by intro e; have:=congrArg List.length e; rw [List.length_append] at this; simp at this; rw [this.1] at hwl; simp at hwl),e2,e3,wr_back _ _ _ _ g1 hp0 k1 (by omega)]
  simp only
  have hd : s.place + s.d zs p = ps s.a p.toNat + (kyP zs p - s.n) * ((s.st : Int) + 1):=by unfold ES.d; omega
  have hdv : (s.place + s.d zs p) / ((s.st : Int) + 1) = kyP zs p - s.n:=by rw [hd,Int.add_mul_ediv_right _ _ (by omega),Int.ediv_eq_zero_of_lt g6 (by omega),Int.zero_add]
  have hmd : (s.place + s.d zs p) % ((s.st : Int) + 1) = ps s.a p.toNat:=by rw [hd,Int.add_mul_emod_self_right,Int.emod_eq_of_lt g6 (by omega)]
  rw [e1,e4,hdv,hmd,if_neg (by omega),if_neg (by omega)];have e6 : s.n + (kyP zs p - s.n) = kyP zs p:=by omega
  have e7 : s.place + s.d zs p - s.place = s.d zs p:=by omega
  rw [e6,e7,ih _ f rfl rfl (by show _ = ((adP (s.d zs p).toNat (s.st + 1) (s.i == 0) : Nat) : Int); rw [e5]) rfl (by show (d.out ++ [_]).length = s.i + 1; rw [List.length_append,e5]; rfl) (by omega)]
  show Sum.inr ((d.out ++ [(kyP zs p,ps s.a p.toNat)]) ++ _) = _
  rw [List.append_assoc]; rfl
def sel : List Int -> List Int -> List Int
 | z :: zs,x :: a=>if x = 0 then sel zs a else z :: sel zs a
 | _,_=>[]
theorem sel_sub : ∀ (zs a : List Int),(sel zs a).Sublist zs
 | [],_=>by simp [sel]
 | z :: zs,[]=>by simp [sel]
 | z :: zs,x :: a=>by
  rw [sel];split
  ·exact (sel_sub zs a).cons _
  ·exact (sel_sub zs a).cons_cons _
theorem sel_len : ∀ (zs a : List Int),a.length = zs.length -> (∀ x ∈ a,0 <= x ∧ x <= 1) -> ((sel zs a).length : Int) = ps a zs.length
 | [],[],_,_=>by simp [sel,ps]
 | [],_ :: _,h,_=>by simp at h
 | _ :: _,[],h,_=>by simp at h
 | z :: zs,x :: a,h,hb=>by
  have ih:=sel_len zs a (by simpa using h) (fun y hy=>hb y (by simp [hy]))
  have hx:=hb x (by simp)
  rw [sel,List.length_cons,ps_cons,<- ih];split
  ·omega
  ·rw [List.length_cons]; omega
theorem sel_low : ∀ (zs : List Int),sel zs (lowA zs) = lowL zs
 | []=>rfl
 | z :: zs=>by
  have ih:=sel_low zs
  show sel (z :: zs) ((if z < 128 then 1 else 0) :: lowA zs) = (z :: zs).filter _
  rw [sel,List.filter_cons,ih];by_cases h : z < 128
  ·rw [if_pos h,if_neg (by omega),if_pos (by rw [decide_eq_true_eq]; exact h)]; rfl
  ·rw [if_neg h,if_pos rfl,if_neg (by rw [decide_eq_true_eq]; exact h)]; rfl
theorem sel_ins : ∀ (zs a : List Int) (q : Nat),a.length = zs.length -> (∀ x ∈ a,0 <= x ∧ x <= 1) -> q < zs.length -> a.getD q 0 = 0 -> insA (sel zs a) (ps a q).toNat (zs.getD q 0) = sel zs (a.set q 1)
 | [],_,_,_,_,h,_=>by simp at h
 | _ :: _,[],_,h,_,_,_=>by simp at h
 | z :: zs,x :: a,0,h,hb,hq,h0=>by
  have h0 : x = 0:=h0
  subst h0;rw [ps_0];show insA (sel (z :: zs) (0 :: a)) 0 z = sel (z :: zs) (1 :: a)
  rw [sel,sel,if_pos rfl,if_neg (by omega)];rfl
 | z :: zs,x :: a,q + 1,h,hb,hq,h0=>by
  have hb' : ∀ y ∈ a,0 <= y ∧ y <= 1:=fun y hy=>hb y (by simp [hy])
  have ih:=sel_ins zs a q (by simpa using h) hb' (by simpa using hq) h0
  have hx:=hb x (by simp)
  have hp:=(ps_bd a hb' q).1
  rw [ps_cons];show insA (sel (z :: zs) (x :: a)) _ (zs.getD q 0) = sel (z :: zs) (x :: a.set q 1)
  rw [sel,sel];by_cases hx0 : x = 0
  ·rw [if_pos hx0,if_pos hx0,hx0,Int.zero_add,ih]
  ·rw [if_neg hx0,if_neg hx0,show (x + ps a q).toNat = (ps a q).toNat + 1 by omega]
   show z :: insA (sel zs a) (ps a q).toNat (zs.getD q 0) = _
   rw [ih]
theorem put_back {zs : List Int} (hl : zs.length <= 127) : ∀ (rest : List Int) (s : ES),s.Ok zs rest -> putL (sel zs s.a) (entL zs s rest) = sel zs (rest.foldl (ES.step zs) s).a
 | [],_,_=>rfl
 | p :: rest,s,h=>by
  obtain ⟨q,rfl,hq,ha,h1,h2,h3⟩:=h.rest p (by simp)
  have ih:=put_back hl rest (s.step zs (q : Int)) (h.next hl)
  show putL (insA (sel zs s.a) (ps s.a (q : Int).toNat).toNat (kyP zs (q : Int))) (entL zs (s.step zs (q : Int)) rest) = sel zs (rest.foldl (ES.step zs) (s.step zs (q : Int))).a
  rw [<- ih,ky_cd,Int.toNat_natCast];unfold cd;rw [sel_ins zs s.a q h.len h.bd hq ha];rfl
theorem put_all {zs : List Int} (hl : zs.length <= 127) (hz : ∀ z ∈ zs,0 <= z ∧ z <= 1114111) : putL (lowL zs) (entL zs (ES.start zs) (ordL zs)) = zs:=by
 have h:=put_back hl (ordL zs) (ES.start zs) (ES.start_ok zs hz)
 have e1 : sel zs (ES.start zs).a = lowL zs:=sel_low zs
 rw [e1] at h;rw [h];have hk:=ok_end hl (ordL zs) (ES.start zs) (ES.start_ok zs hz)
 have hs:=hk.sum
 rw [st_end] at hs;have hc:=(RI.start zs hz).cnt
 have hn:=sel_len zs _ hk.len hk.bd
 refine (sel_sub zs _).eq_of_length ?_
 omega
theorem wrF_mem : ∀ (n : Nat) (d k b : Int),0 <= d -> ∀ x ∈ wrF n d k b,48 <= x ∧ x < 123
 | 0,_,_,_,_,x,h=>by simp [wrF] at h
 | n + 1,d,k,b,h0,x,h=>by
  have ht:=th_bd k b
  simp only [wrF] at h
  split at h
  ·simp at h
   subst h;exact (vd h0 (by omega)).2.2
  ·rename_i hd
   have hq:=q_lt d k b hd
   have hr0:=Int.emod_nonneg (d - thP k b) (b:=36 - thP k b) (by omega)
   have hr1:=Int.emod_lt_of_pos (d - thP k b) (b:=36 - thP k b) (by omega)
   rcases List.mem_cons.1 h with h | h
   ·subst h;exact (vd (by omega) (by omega)).2.2
   ·exact wrF_mem n _ _ _ hq.1 x h
theorem del_mem {zs : List Int} (hl : zs.length <= 127) : ∀ (rest : List Int) (s : ES),s.Ok zs rest -> ∀ x ∈ delL zs s rest,48 <= x ∧ x < 123
 | [],_,_,x,h=>by simp [delL] at h
 | p :: rest,s,h,x,hx=>by
  have h' : x ∈ wrP (s.d zs p) s.bias ++ delL zs (s.step zs p) rest:=hx
  rcases List.mem_append.1 h' with h' | h'
  ·exact wrF_mem _ _ _ _ (h.head hl).1 x h'
  ·exact del_mem hl rest _ (h.next hl) x h'
theorem enc_shape (zs : List Int) : encP zs = (if (lowL zs).length = 0 then [] else lowL zs ++ [45]) ++ delL zs (ES.start zs) (ordL zs):=out_del zs (ordL zs) (ES.start zs)
theorem low_mem {zs : List Int} (hz : ∀ z ∈ zs,0 <= z ∧ z <= 1114111) : ∀ x ∈ lowL zs,0 <= x ∧ x < 128:=by
 intro x hx
 unfold lowL at hx;obtain ⟨h1,h2⟩:=List.mem_filter.1 hx
 have:=hz x h1
 rw [decide_eq_true_eq] at h2;omega
theorem enc_mem {zs : List Int} (hl : zs.length <= 127) (hz : ∀ z ∈ zs,0 <= z ∧ z <= 1114111) : ∀ x ∈ encP zs,0 <= x ∧ x <= 127:=by
 intro x hx
 rw [enc_shape] at hx;rcases List.mem_append.1 hx with hx | hx
 ·split at hx
  ·simp at hx
  ·rcases List.mem_append.1 hx with hx | hx
   ·have:=low_mem hz x hx; omega
   ·simp at hx; omega
 ·have:=del_mem hl _ _ (ES.start_ok zs hz) x hx; omega
theorem ord_cnt {zs : List Int} (hz : ∀ z ∈ zs,0 <= z ∧ z <= 1114111) : (lowL zs).length + (ordL zs).length = zs.length:=(RI.start zs hz).cnt
theorem hy_cut {A D : List Int} {i : Int} (hD : ∀ x ∈ D,x ≠ 45) (h : Hy ((if A.length = 0 then [] else A ++ [45]) ++ D) i) : ((if A.length = 0 then [] else A ++ [45]) ++ D).take i.toNat = A ∧ ((if A.length = 0 then [] else A ++ [45]) ++ D).drop (i + 1).toNat = D:=by
 obtain ⟨h1,h2,h3,h4⟩:=h
 by_cases hA : A.length = 0
 ·rw [if_pos hA,List.nil_append] at *
  have hi : i = -1:=by
   by_cases hc : 0 <= i
   ·have hk : i.toNat < D.length:=by omega
    have h4':=h4 i.toNat (by omega) hk
    exact absurd h4' (hD _ (List.getElem_mem _))
   ·omega
  subst hi;exact ⟨(List.eq_nil_of_length_eq_zero hA).symm,rfl⟩
 ·rw [if_neg hA,List.append_assoc] at *
  have hlen : (A ++ ([45] ++ D)).length = A.length + 1 + D.length:=by simp; omega
  rw [hlen] at h2;have hi : i = A.length:=by
   rcases Int.lt_trichotomy i A.length with hc | hc | hc
   ·exact absurd (by simp) (h3 A.length (by omega) hc)
   ·exact hc
   ·obtain ⟨k,rfl⟩ : ∃ k : Nat,i = ((A.length + 1 + k : Nat) : Int):=⟨(i - A.length - 1).toNat,by omega⟩
    have hk : k < D.length:=by omega
    have h4':=h4 (A.length + 1 + k) rfl (by omega)
    have e : (A ++ ([45] ++ D))[A.length + 1 + k]? = some D[k]:=by
     rw [List.getElem?_append_right (by omega),show A.length + 1 + k - A.length = k + 1 by omega]
     show (45 :: D)[k + 1]? = _
     rw [List.getElem?_cons_succ,List.getElem?_eq_getElem hk]
    rw [List.getElem?_eq_getElem (by omega),h4'] at e;exact absurd (Option.some.inj e).symm (hD _ (List.getElem_mem _))
  subst hi;refine ⟨?_,?_⟩
  ·rw [Int.toNat_natCast,List.take_left']; rfl
  ·rw [show ((A.length : Int) + 1).toNat = A.length + 1 by omega,<- List.append_assoc,List.drop_left']; simp
theorem enc_dec' {zs : List Int} (hs : Sm zs) (hz : ∀ z ∈ zs,0 <= z ∧ z <= 1114111) {i : Int} (h : Hy (encP zs) i) :
 decP (encP zs) i = .inr zs ∧ ∀ es,rdS ((encP zs).drop (i + 1).toNat).length ⟨128,0,72,((encP zs).take i.toNat).length,[]⟩ ((encP zs).drop (i + 1).toNat) = .inr es -> ((encP zs).take i.toNat).length + es.length <= 120:=by
 have hl:=hs.le
 have hok:=ES.start_ok zs hz
 rw [enc_shape] at h ⊢
 obtain ⟨h1,h2⟩:=hy_cut (fun x hx=>by have:=del_mem (by omega) _ _ hok x hx; omega) h
 have hr:=rdS_back hs (ordL zs) (ES.start zs) ⟨128,0,72,(lowL zs).length,[]⟩ (delL zs (ES.start zs) (ordL zs)).length hok rfl rfl rfl rfl rfl (Nat.le_refl _)
 have hc:=ord_cnt hz
 refine ⟨?_,fun es hes=>?_⟩
 ·unfold decP;rw [h1,h2,hr,if_neg (by
   rw [Bool.not_eq_true,List.any_eq_false];intro x hx
   have:=low_mem hz x hx
   rw [decide_eq_true_eq]; omega)]
  show Sum.inr (putL (lowL zs) ([] ++ _)) = _
  rw [List.nil_append,put_all (by omega) hz]
 ·rw [h1,h2,hr] at hes;have he:=Sum.inr.inj hes
  rw [<- he,h1];show _ + (entL zs _ _).length <= _
  rw [ent_len]; omega
theorem wrF_low : ∀ (n : Nat) (d k b : Int),0 <= d -> ∀ x ∈ wrF n d k b,x <= 57 ∨ 97 <= x
 | 0,d,k,b,h,x,hx=>by simp [wrF] at hx
 | n + 1,d,k,b,h,x,hx=>by
  have ht:=th_bd k b
  simp only [wrF] at hx
  split at hx
  ·rename_i hd
   rw [List.mem_singleton] at hx;rw [hx];have:=(vd h (by omega)).2.1
   omega
  ·rename_i hd
   have hq:=q_lt d k b hd
   have hr0:=Int.emod_nonneg (d - thP k b) (b:=36 - thP k b) (by omega)
   have hr1:=Int.emod_lt_of_pos (d - thP k b) (b:=36 - thP k b) (by omega)
   rcases List.mem_cons.1 hx with rfl | hx
   ·have:=(vd (v:=thP k b + (d - thP k b) % (36 - thP k b)) (by omega) (by omega)).2.1
    omega
   ·exact wrF_low n _ _ _ hq.1 x hx
theorem del_low {zs : List Int} (hl : zs.length <= 127) : ∀ (rest : List Int) (s : ES),s.Ok zs rest -> ∀ x ∈ delL zs s rest,x <= 57 ∨ 97 <= x
 | [],_,_,x,hx=>by simp [delL] at hx
 | p :: rest,s,h,x,hx=>by
  have hx : x ∈ wrP (s.d zs p) s.bias ++ delL zs (s.step zs p) rest:=hx
  rcases List.mem_append.1 hx with hx | hx
  ·exact wrF_low _ _ _ _ (h.head hl).1 x hx
  ·exact del_low hl rest _ (h.next hl) x hx
theorem bsI_byt (l : List Int) (h : ∀ x ∈ l,0 <= x ∧ x <= 255) : bsI (byt l) = l:=by
 unfold bsI byt;simp only [List.map_map]
 conv=>rhs; rw [<- List.map_id l]
 refine List.map_congr_left fun x hx=>?_
 have:=h x hx
 simp
 omega
theorem app_all {ops : Array Oper} {rest : List Oper} {o : Oper} {a : Act} {Q : Exit -> Act -> World -> Prop} (hgd : o.guard = none) (s x : Operand)
 (ho : o.op = .call { callee:=.builtin .append,args:=#[s,x],argTypes:=#[33,33] }) (W : World) (B : Nat) (v : Value) (ad : Addr) (cap : Nat) (xs zs : List Int) (hs : a.eval s = v) (hx : a.eval x = .slice (some ad) zs.length cap)
 (hown : W.ownsRow B 3 1 v xs.length (ivs .i64 xs)) (hsv : isSome v) (hz : SlP .i64 W (some ad) cap zs) (hn : xs.length + zs.length <= 1000000000) (hB : B <= W.heap.size)
 (h : ∀ v' w',w'.ownsRow B 3 1 v' (xs ++ zs).length (ivs .i64 (xs ++ zs)) -> isSome v' -> Below B W w' -> (∀ k,k < W.heap.size -> v.ownBlock ≠ some k -> w'.heap[k]? = W.heap[k]?) -> wpList Tryz.prog ops Q rest (a.put o.dst v') w') :
 wpList Tryz.prog ops Q (o :: rest) a W:=by
 obtain ⟨i0,hi,hz0,hz1,hz2⟩:=info_parts Tryz.info_i64
 refine wpList_append_own_at _ hgd s x 33 ho B 3 i0 (.int .i64 0) 1 8 Tryz.underlying33 hi hz0 hz1 hz2 rfl (by decide) v xs.length (ivs .i64 xs) hs hown ad zs.length cap (ivs .i64 zs) hx (by rw [ivs_len]; omega)
  (fun j u hj=>?_) (fun u hu=>by simp [ivs] at hu; obtain ⟨z,_,rfl⟩:=hu; rfl) (by unfold maxLen; omega) (by omega) hB (fun v' w' h1 h2 h3 _=>h v' w' ?_ ?_ (below_of_grown h2 B hB (fun k e=>(hown.lt k e).1)) (fun k hk hne=>h2.block k hk (fun e=>hne e.symm)))
 ·have hlt : j < zs.length:=by
   have:=(List.getElem?_eq_some_iff.1 hj).1
   rwa [ivs_len] at this
  obtain ⟨b,off,e,hb,hc⟩:=hz.at_ j hlt
  simp at e
  subst e;have e2 : (⟨b,off,none⟩ : Addr).add j = ⟨b,off + j,none⟩:=by unfold Addr.add; split <;> simp_all
  rw [e2,hc];simp [ivs,hlt] at hj
  rw [hj]
 ·have e : ivs .i64 xs ++ ivs .i64 zs = ivs .i64 (xs ++ zs):=by simp [ivs]
  rw [List.length_append,<- e]; exact h1
 ·rcases h1.2 with ⟨e1,_⟩ | ⟨g,cap',cur,rfl,_⟩
  ·rw [(h3.1 e1).1] at hsv; exact hsv.elim
  ·trivial
theorem row_sl {w : World} {a : Option Addr} {len cap : Nat} {zs : List Int} (h : (a = none ∧ len = 0 ∧ cap = 0 ∧ zs = []) ∨ ∃ x,a = some x ∧ len <= cap ∧ cap <= maxLen ∧ zs.length = cap ∧ (∀ i,i < zs.length -> w.cell? (x.add i) = some (.int .i32 (zs.getD i 0))) ∧ ∀ n ∈ zs,(Lit.int .i32 n).wf = true) : (zs.take len).length = len ∧ SlP .i32 w a cap (zs.take len) ∧ ∀ y ∈ zs.take len,-2147483648 <= y ∧ y <= 2147483647:=by
 rcases h with ⟨rfl,rfl,rfl,rfl⟩ | ⟨x,rfl,hl,hm,hz,hcell,hwz⟩
 ·exact ⟨rfl,⟨Nat.le_refl _,fun _=>⟨rfl,rfl⟩,fun k hk=>by simp at hk⟩,fun y hy=>by simp at hy⟩
 ·have hlen : (zs.take len).length = len:=by rw [List.length_take]; omega
  refine ⟨hlen,⟨by omega,fun e=>(by cases e),fun k hk=>?_⟩,fun y hy=>by have h:=hwz y (List.mem_of_mem_take hy); simp only [Lit.wf,Bool.and_eq_true,decide_eq_true_eq] at h; exact h⟩
  rw [hlen] at hk;obtain ⟨b,off,spot⟩:=x
  have hc:=hcell k (by omega)
  have hspot : spot = none:=by simpa [Addr.add] using World.cell?_spot (hcell 0 (by omega))
  subst hspot;have hadd : (⟨b,off,none⟩ : Addr).add k = ⟨b,off + k,none⟩:=by unfold Addr.add; split <;> simp_all
  rw [hadd] at hc;refine ⟨b,off,rfl,World.block_lt_of_cell? w _ hc,?_⟩
  rw [hc,List.getElem_take];simp [List.getD_eq_getElem?_getD,List.getElem?_eq_getElem (show k < zs.length by omega)]
theorem first_bad : ∀ (zs : List Int),zs.any byB = true -> ∃ (k : Nat) (h : k < zs.length),(zs[k] < 0 ∨ 1114111 < zs[k]) ∧ ∀ j (hj : j < k),0 <= zs[j] ∧ zs[j] <= 1114111
 | [],h=>by simp at h
 | z :: zs,h=>by
  by_cases hz : z < 0 ∨ 1114111 < z
  ·exact ⟨0,by simp,hz,fun j hj=>by omega⟩
  ·have h2 : zs.any byB = true:=by
    rw [List.any_cons,show byB z = false from decide_eq_false hz,Bool.false_or] at h
    exact h
   obtain ⟨k,hk,h3,h4⟩:=first_bad zs h2
   refine ⟨k + 1,by simp; omega,h3,fun j hj=>?_⟩
   cases j with
   | zero=>show 0 <= z ∧ z <= 1114111; omega
   | succ j=>exact h4 j (by omega)
theorem enc_bad {w : World} {v : Value} {zs : List Int} (hS : Sl .i32 w v zs) (hn : zs.length <= 120) (h : zs.any byB = true) :
 Calls Tryz.prog 123 #[v] w fun e w'=>e = .returned (.tuple #[.string ⟨#[]⟩,.int .i64 7]) ∧ Below w.heap.size w w':=by
 have HCf:=hid (contby_any w v zs hS (by omega));rw [h] at HCf;obtain ⟨ao,cap,rfl,hS⟩:=hS
 clear hS h;go_enter Tryz.func123,Tryz.ntmps123
 go_wp2_with fail;refine HCf.out.mono ?_;rintro e w1 ⟨rfl,hb1⟩;have HB1:=hid hb1
 clear hb1 HCf;go_wp2_with fail;go_ret2;exact ⟨rfl,HB1.out⟩
theorem renc_bad {w : World} {v : Value} {zs : List Int} (hS : Sn .i64 w v zs) (hn : zs.length <= 100) (h : zs.any byB = true) :
 Calls Tryz.prog 68 #[v] w fun e w'=>e = .returned (.tuple #[.string ⟨#[]⟩,.int .i64 7]) ∧ Below w.heap.size w w':=by
 obtain ⟨k0,hk0,hbad,hpre⟩:=first_bad zs h
 obtain ⟨ad,cap,rfl,hS⟩:=hS
 have HS:=hid hS
 have HZ : Hid (∀ (j : Nat) (x : Int),j < k0 -> zs[j]? = some x -> 0 <= x ∧ x <= 1114111):=fun j x hj hx=>by
  have h1:=hpre j hj
  rw [List.getElem?_eq_getElem (by omega)] at hx;rw [Option.some.inj hx] at h1;exact h1
 have HBad : Hid (∀ x,zs[k0]? = some x -> x < 0 ∨ 1114111 < x):=fun x hx=>by rw [List.getElem?_eq_getElem hk0] at hx;rw [Option.some.inj hx] at hbad;exact hbad
 clear hpre hbad;generalize hlen : zs.length = len at *;have HLn:=hid hlen
 clear hS hlen h;go_enter Tryz.func68,Tryz.ntmps68
 go_wp2_with fail;go_loopg [4,5] k0 (fun gg vs vi wr=>∃ k : Nat,vi = .int .i64 k ∧ vs = .string (byt (lowL (zs.take k))) ∧ k <= k0 ∧ gg = k0 - k ∧ Hid (Ok w.heap.size w wr))
 case atStart=>exact ⟨0,rfl,rfl,Nat.zero_le _,rfl,Ok.start w⟩
 case round =>
  obtain ⟨k,rfl,rfl,hk,hg,H⟩:=hrel
  have HG:=hid hg
  clear hg;have hlx : k < zs.length:=by rw [HLn.out]; omega
  obtain ⟨bb,off,e0,hb,c1⟩:=HS.out.at_ k hlx
  have e0':=Option.some.inj e0
  subst e0';have d1:=(H.out.1.cell (p:=⟨bb,off + k,none⟩) hb).trans c1
  have HL:=hid (lowL_succ zs k hlx);have z1 : (k : Int) < (len : Int):=by omega
  by_cases hlt : k < k0
  ·have hx:=HZ.out k zs[k] hlt (List.getElem?_eq_getElem hlx)
   have hll : (lowL (zs.take k)).length <= 1000:=by
    unfold lowL;have h1:=List.length_filter_le (fun z : Int=>decide (z < 128)) (zs.take k)
    rw [List.length_take] at h1;omega
   clear c1;generalize zs[k] = x at *;have hx0 : ¬ x < 0:=by omega
   have hx1 : ¬ 1114111 < x:=by omega
   by_cases hx2 : x < 128
   ·rw [if_pos hx2] at HL;have q1 : IntKind.u8.wrap x = x:=by rw [IntKind.wrap_u8]; omega
    have hcv : (convert 61 9 (.slice (some ⟨wr.heap.size,0,none⟩) 1 1)).run Tryz.prog (wr.alloc (.cells #[.int .u8 x] 5)) = .ok (.string (byt [x])) (wr.alloc (.cells #[.int .u8 x] 5)):=by
     have hby : By wr.heap.size (wr.alloc (.cells #[.int .u8 x] 5)) (.slice (some ⟨wr.heap.size,0,none⟩) 1 1) [x]:=⟨⟨by simp [ivs],.inr ⟨wr.heap.size,1,_,rfl,Nat.le_refl _,heap_new wr _,Nat.le_refl _,by unfold maxLen; omega,by simp,by simp [ivs]⟩⟩,by simp⟩
     exact conv_byt hby (fun y hy=>by simp at hy; omega)
    have hsz : ¬ 9223372036854775807 < (byt (lowL (zs.take k))).size + (byt [x]).size:=by rw [byt_size,byt_size]; simp; omega
    have HA : Hid (Ok w.heap.size w (wr.alloc (.cells #[.int .u8 x] 5))):=H.out.alloc
    go_wp2_with fail;go_roundg (k0 - (k + 1))
    case measure=>rw [HG.out]; omega
    case rel=>exact ⟨k + 1,by go_num,by rw [HL.out,byt_app],by omega,rfl,HA.out⟩
   ·rw [if_neg hx2,List.append_nil] at HL;have hx3 : decide (x < 128) = false:=decide_eq_false hx2
    go_wp2_with fail;go_roundg (k0 - (k + 1))
    case measure=>rw [HG.out]; omega
    case rel=>exact ⟨k + 1,by go_num,by rw [HL.out],by omega,rfl,H.out⟩
  ·have e : k = k0:=by omega
   subst e;have hx:=HBad.out zs[k] (List.getElem?_eq_getElem hlx)
   clear c1 HBad HZ HL;generalize zs[k] = x at *;rcases hx with hx | hx
   ·go_wp2_with fail;try rw [Exit.noGoto_ret]
    go_ret2;exact ⟨rfl,H.out.1⟩
   ·have hx0 : ¬ x < 0:=by omega
    go_wp2_with fail;try rw [Exit.noGoto_ret]
    go_ret2;exact ⟨rfl,H.out.1⟩
theorem any_no {zs : List Int} (h : zs.any byB = false) : ∀ z ∈ zs,0 <= z ∧ z <= 1114111:=by
 intro z hz
 have:=List.any_eq_false.1 h z hz
 unfold byB at this;rw [decide_eq_true_eq] at this;omega
def Own (B : Nat) (w : World) (v : Value) (l : List Int) : Prop:=w.ownsRow B 3 1 v l.length (ivs .i64 l) ∧ isSome v
theorem Own.sn {B : Nat} {w : World} {v : Value} {l : List Int} (h : Own B w v l) : Sn .i64 w v l:=(own_sl h.1).sn h.2
theorem Own.base {B B' : Nat} {w : World} {v : Value} {l : List Int} (h : Own B w v l) (hB : B' <= B) : Own B' w v l:=⟨Od.own_base h.1 hB,h.2⟩
theorem hy_at {s : ByteArray} {i : Int} (hy : Hy (bsI s) i) {a : Nat} (h1 : a = 0 ∨ ∃ h : a - 1 < s.size,1 <= a ∧ (s[a - 1].toNat : Int) = 45) (h2 : ∀ j (h : j < s.size),a <= j -> (s[j].toNat : Int) ≠ 45) : (a : Int) = i + 1:=by
 obtain ⟨g1,g2,g3,g4⟩:=hy
 have hl:=bsI_len s
 rcases Int.lt_trichotomy ((a : Int) - 1) i with hc | hc | hc
 ·have h3:=g4 i.toNat (by omega) (by omega)
  have h4:=h2 i.toNat (by omega) (by omega)
  rw [bsI_get s i.toNat (by omega)] at h3;exact absurd h3 h4
 ·omega
 ·rcases h1 with h1 | ⟨h3,h4,h5⟩
  ·omega
  ·have h6:=g3 (a - 1) (by omega) (by omega)
   rw [bsI_get s (a - 1) h3] at h6;exact absurd h5 h6
theorem rcut_any (s : ByteArray) (hs : s.size <= 100000) (i : Int) (hy : Hy (bsI s) i) (w : World) :
 Calls Tryz.prog 128 #[.string s] w fun e w'=>e = .returned (.int .i64 (i + 1)) ∧ w' = w:=by
 have HY:=hid hy
 clear hy;go_enter Tryz.func128,Tryz.ntmps128
 go_wp2_with fail;go_loop [3,4] (fun va vi=>∃ k a : Nat,vi = .int .i64 k ∧ va = .int .i64 a ∧ k <= s.size ∧ a <= k ∧ Hid ((a = 0 ∨ ∃ h : a - 1 < s.size,1 <= a ∧ (s[a - 1].toNat : Int) = 45) ∧ ∀ j (h : j < s.size),a <= j -> j < k -> (s[j].toNat : Int) ≠ 45)) (fun _ vi=>s.size - (intOf vi).toNat)
 case atStart=>exact ⟨0,0,rfl,rfl,Nat.zero_le _,Nat.le_refl _,.inl rfl,fun j h h1 h2=>by omega⟩
 case round =>
  obtain ⟨k,a,rfl,rfl,hk,ha,H⟩:=hrel
  by_cases hlt : k < s.size
  ·have z1 : (k : Int) < (s.size : Int):=by omega
   by_cases h45 : (s[k].toNat : Int) = 45
   ·have HN : Hid ((k + 1 = 0 ∨ ∃ h : k + 1 - 1 < s.size,1 <= k + 1 ∧ (s[k + 1 - 1].toNat : Int) = 45) ∧ ∀ j (h : j < s.size),k + 1 <= j -> j < k + 1 -> (s[j].toNat : Int) ≠ 45):=⟨.inr ⟨hlt,by omega,h45⟩,fun j h h1 h2=>by omega⟩
    go_wp2_with fail;go_round
    case rel=>exact ⟨k + 1,k + 1,by go_num,by go_num,hlt,Nat.le_refl _,HN⟩
    case measure=>(simp [intOf]) <;> omega
   ·have HN : Hid ((a = 0 ∨ ∃ h : a - 1 < s.size,1 <= a ∧ (s[a - 1].toNat : Int) = 45) ∧ ∀ j (h : j < s.size),a <= j -> j < k + 1 -> (s[j].toNat : Int) ≠ 45):=⟨H.out.1,fun j h h1 h2=>by
     by_cases e : j = k
     ·subst e; exact h45
     ·exact H.out.2 j h h1 (by omega)⟩
    have hx0 : ((s[k].toNat : Int) == 45) = false:=by simpa using h45
    go_wp2_with fail;go_round
    case rel=>exact ⟨k + 1,a,by go_num,rfl,hlt,by omega,HN⟩
    case measure=>(simp [intOf]) <;> omega
  ·have e : k = s.size:=by omega
   subst e;have HE:=hid (hy_at HY.out H.out.1 (fun j h h1=>H.out.2 j h h1 h))
   go_wp2_with fail;go_ret;exact ⟨ret_int HE.out,rfl⟩
theorem app_row {ops : Array Oper} {rest : List Oper} {o : Oper} {a : Act} {Q : Exit -> Act -> World -> Prop} (hgd : o.guard = none) (s x : Operand)
 (ho : o.op = .call { callee:=.builtin .append,args:=#[s,x],argTypes:=#[33,33] }) (W : World) (B : Nat) (v : Value) (ad : Addr) (n cap : Nat) (xs zs : List Int) (hs : a.eval s = v) (hx : a.eval x = .slice (some ad) n cap) (hn' : zs.length = n)
 (hown : Own B W v xs) (hz : SlP .i64 W (some ad) cap zs) (hn : xs.length + zs.length <= 1000000000) (hB : B <= W.heap.size)
 (h : ∀ v' w',Own B w' v' (xs ++ zs) -> Below B W w' -> wpList Tryz.prog ops Q rest (a.put o.dst v') w') :
 wpList Tryz.prog ops Q (o :: rest) a W:=by
 subst hn';exact app_all hgd s x ho W B v ad cap xs zs hs hx hown.1 hown.2 hz hn hB (fun v' w' h1 h2 h3 _=>h v' w' ⟨h1,h2⟩ h3)
theorem sl_take {w : World} {ad : Addr} {cap : Nat} {zs : List Int} (h : SlP .i64 w (some ad) cap zs) (p : Nat) (hp : p <= zs.length) : SlP .i64 w (some ad) cap (zs.take p):=by
 refine ⟨by rw [List.length_take]; have:=h.1; omega,fun e=>(by cases e),fun k hk=>?_⟩
 rw [List.length_take] at hk;obtain ⟨b,off,e,hb,hc⟩:=h.at_ k (by omega)
 exact ⟨b,off,e,hb,by rw [hc,List.getElem_take]⟩
theorem sl_drop {w : World} {ad : Addr} {cap : Nat} {zs : List Int} (h : SlP .i64 w (some ad) cap zs) (p : Nat) : ∃ ad2,(if cap = p then some ad else some (ad.add p)) = some ad2 ∧ SlP .i64 w (some ad2) (cap - p) (zs.drop p):=by
 have hc:=h.1
 by_cases e : cap = p
 ·refine ⟨ad,if_pos e,by rw [List.length_drop]; omega,fun e=>(by cases e),fun k hk=>?_⟩
  rw [List.length_drop] at hk;omega
 ·refine ⟨ad.add p,if_neg e,by rw [List.length_drop]; omega,fun e=>(by cases e),fun k hk=>?_⟩
  rw [List.length_drop] at hk;obtain ⟨b,off,e,hb,hc⟩:=h.at_ (p + k) (by omega)
  have e':=Option.some.inj e
  subst e';refine ⟨b,off + p,?_,hb,?_⟩
  ·unfold Addr.add;split <;> simp_all
  ·rw [Nat.add_assoc,hc,List.getElem_drop]
theorem rput_any {w : World} {v : Value} {zs : List Int} (hS : Sn .i64 w v zs) (p : Nat) (hp : p <= zs.length) (hn : zs.length <= 100000) (n : Int) :
 Calls Tryz.prog 131 #[v,.int .i64 p,.int .i64 n] w fun e w'=>∃ v',e = .returned v' ∧ Own w.heap.size w' v' (insA zs p n) ∧ Below w.heap.size w w':=by
 obtain ⟨ad,cap,rfl,hS⟩:=hS
 have HS:=hid hS
 have hc:=hS.1
 have HO : Hid (Own w.heap.size (w.alloc (.cells #[] 3)) (.slice (some ⟨w.heap.size,0,none⟩) 0 0) []):=⟨World.ownsRow_made w #[] 0 (Nat.le_refl _) (by unfold maxLen; omega) rfl,trivial⟩
 have hok:=hid ((Ok.start w).alloc (o:=.cells #[] 3))
 obtain ⟨ad2,he,hd⟩:=sl_drop hS p
 have HE:=hid he
 have HD:=hid hd
 clear he hd;generalize hlen : zs.length = len at *;have HLn:=hid hlen
 clear hS hlen;have HDr : Hid ((zs.drop p).length = len - p):=by show _ = _; rw [List.length_drop,HLn.out]
 have HTk : Hid ((zs.take p).length = p):=by show _ = _; rw [List.length_take,HLn.out]; omega
 go_enter Tryz.func131,Tryz.ntmps131
 go_wp2_with (first
  | (
   at_builtin
   refine app_row rfl (.tmp 9) (.tmp 12) rfl (w.alloc (.cells #[] 3)) w.heap.size (.slice (some ⟨w.heap.size,0,none⟩) 0 0) ad p cap [] (zs.take p) rfl rfl HTk.out HO.out ((sl_take HS.out p (by rw [HLn.out]; exact hp)).step ((Below.refl _ _).alloc (Nat.le_refl _) _)) (by rw [HTk.out]; simp; omega) (by simp) (fun v1 w1 h1 h2=>?_)
   have H1 : Hid (Own w.heap.size w1 v1 (zs.take p) ∧ Ok w.heap.size w w1):=⟨h1,ok_below h2 hok.out⟩
   clear h1 h2 HO hok)
  | (
   at_builtin
   refine app_i64 rfl (.tmp 14) (.tmp 16) rfl w1 w.heap.size p v1 (ivs .i64 (zs.take p)) n rfl w1.heap.size rfl rfl (by have h:=H1.out.1.1; rw [HTk.out] at h; exact h) (by omega) H1.out.2.2 (fun v2 w2 h1 h2=>?_)
   have H2 : Hid (Own w.heap.size w2 v2 (zs.take p ++ [n]) ∧ Ok w.heap.size w w2):=⟨⟨by rw [List.length_append,HTk.out,ivs_snoc]; exact h1,own_some h1 (Nat.succ_pos p)⟩,ok_below h2 H1.out.2⟩
   clear h1 h2 H1)
  | (
   at_builtin
   refine app_row rfl (.tmp 18) (.tmp 21) rfl w2 w.heap.size v2 ad2 (len - p) (cap - p) (zs.take p ++ [n]) (zs.drop p) rfl (by show Value.slice (if cap = p then some ad else some (ad.add p)) (len - p) (cap - p) = _; rw [HE.out]) HDr.out H2.out.1 (HD.out.step H2.out.2.1) (by rw [List.length_append,HTk.out,HDr.out]; simp; omega) H2.out.2.2 (fun v3 w3 h1 h2=>?_)
   have H3 : Hid (Own w.heap.size w3 v3 (zs.take p ++ [n] ++ zs.drop p) ∧ Ok w.heap.size w w3):=⟨h1,ok_below h2 H2.out.2⟩
   clear h1 h2 H2))
 all_goals
  go_ret;refine ⟨_,rfl,?_,H3.out.2.1⟩
  have h:=H3.out.1
  rw [List.append_assoc] at h;exact h
end Pu
end Go.Proofs.YtkhipgcgcbhjoaaGreat
