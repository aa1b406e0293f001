import Derived.Test.YtkhipgcgcbhjoaaGreatDn23
set_option maxRecDepth 1000000
namespace Go.Proofs.YtkhipgcgcbhjoaaGreat
namespace Nf
open Go.RowKit Od Pr Ha
theorem rows_up : allP.all (fun x=>skipB x || (clsP x.1 == 0 && !witB x.2.1 4352 19 && !sylB x.2.1)) = true:=by kernel_rfl
theorem rows_syl : Uc.allT.all (fun x=>x.2.2.2.2.2.1 == 0 || decide (x.2.1 < 44032) || decide (55203 < x.1)) = true:=by kernel_rfl
theorem findL_cls (r : Int) (h1 : 44032 <= r) (h2 : r <= 55203) : ∀ (L : List Uc.Ln),L.all (fun x=>x.2.2.2.2.2.1 == 0 || decide (x.2.1 < 44032) || decide (55203 < x.1)) = true -> (Uc.findL r L).2.2.2.2.2.1 = 0
 | [],_=>rfl
 | x :: L,h=>by
  rw [List.all_cons,Bool.and_eq_true] at h;unfold Uc.findL;split
  ·rename_i hh
   have:=h.1
   simp only [Bool.or_eq_true,beq_iff_eq,decide_eq_true_eq] at this
   omega
  ·exact findL_cls r h1 h2 L h.2
theorem cls_syl {r : Int} (h : sylB r = true) : clsP r = 0:=by
 obtain ⟨h1,h2⟩:=syl_bd h
 rw [cls_row,Uc.rrow_find];exact findL_cls r h1 h2 _ rows_syl
theorem up_row {a b : Int} (h : u2 a b = true) : clsP (u1 a b) = 0 ∧ witB a 4352 19 = false ∧ sylB a = false:=by
 unfold u2 at h;unfold u1;cases hu : upF allP (a,b) with
 | none=>rw [hu] at h; cases h
 | some z =>
  obtain ⟨R,hR,hs,e,rfl⟩:=up_mem allP _ z hu
  simp only [Prod.mk.injEq] at e
  have:=List.all_eq_true.1 rows_up R hR
  simp only [hs,Bool.false_or,Bool.and_eq_true,beq_iff_eq,Bool.not_eq_true'] at this
  rw [e.1];exact ⟨this.1.1,this.1.2,this.2⟩
theorem try_some {s : CS} {r : Int} (h : tryC clsP s r = true) : ∃ x,s.2.1 = some x ∧ mkB x r = true:=by
 unfold tryC at h;cases hx : s.2.1 with
 | none=>rw [hx] at h; cases h
 | some x=>rw [hx] at h; simp only [Bool.and_eq_true] at h; exact ⟨x,rfl,h.2⟩
theorem gr_at : ∀ (M : List Int) (g0 : Int),M.foldl (fun g r=>if g < clsP r then clsP r else g) g0 = g0 ∨ ∃ m ∈ M,M.foldl (fun g r=>if g < clsP r then clsP r else g) g0 = clsP m
 | [],_=>.inl rfl
 | x :: M,g0=>by
  rw [List.foldl_cons];rcases gr_at M (if g0 < clsP x then clsP x else g0) with h | ⟨m,hm,h⟩
  ·rw [h];split
   ·exact .inr ⟨x,by simp,rfl⟩
   ·exact .inl rfl
  ·exact .inr ⟨m,by simp [hm],h⟩
def secB (r : Int) : Bool:=s1 r || witB r 4449 21 || witB r 4520 27
theorem s1_row (r : Int) : s1 r = true ↔ ∃ x ∈ allP,skipB x = false ∧ x.2.2 = r:=by rw [<- rs_eq,rs_any r allP (fun _ h=>h)]
theorem mk_sec {a b : Int} (h : mkB a b = true) : secB b = true:=by
 unfold mkB at h;unfold secB;by_cases h1 : u2 a b = true
 ·have : s1 b = true:=by
   unfold u2 at h1;cases hu : upF allP (a,b) with
   | none=>rw [hu] at h1; cases h1
   | some z =>
    obtain ⟨R,hR,hs,e,_⟩:=up_mem allP _ z hu
    simp only [Prod.mk.injEq] at e
    exact (s1_row b).2 ⟨R,hR,hs,e.2.symm⟩
  rw [this]; rfl
 ·by_cases h2 : lvB a b = true
  ·unfold lvB at h2;rw [Bool.and_eq_true] at h2;rw [h2.2]; simp
  ·have h3 : otB a b = true:=by
    cases hu : u2 a b <;> cases hl : lvB a b <;> simp_all
   unfold otB at h3;rw [Bool.and_eq_true] at h3;rw [h3.2]; simp
def quickP (l : List Int) : Int:=if srt clsP l = l then if l.any exq = true then -1 else if l.any secB = true then 0 else 1 else -1
def chainF (B : Int -> Int -> Bool) (I : Int -> Int -> Int) : Int -> List Int -> Option Int
 | x,[]=>some x
 | x,d :: ds=>if B x d = true then chainF B I (I x d) ds else none
theorem chainF_snoc (B : Int -> Int -> Bool) (I : Int -> Int -> Int) : ∀ (ds : List Int) (x b z : Int),chainF B I x ds = some z -> B z b = true -> chainF B I x (ds ++ [b]) = some (I z b)
 | [],x,b,z,h,hb=>by
  simp only [chainF,Option.some.injEq] at h
  subst h;simp only [List.nil_append,chainF]
  rw [if_pos hb]
 | d :: ds,x,b,z,h,hb=>by
  simp only [List.cons_append,chainF] at h ⊢
  split at h
  ·rw [if_pos ‹_›]; exact chainF_snoc B I ds _ b z h hb
  ·cases h
theorem chainF_cons {B : Int -> Int -> Bool} {I : Int -> Int -> Int} {x d z : Int} {ds : List Int} (h : chainF B I x (d :: ds) = some z) : B x d = true ∧ chainF B I (I x d) ds = some z:=by
 simp only [chainF] at h
 split at h
 ·exact ⟨‹_›,h⟩
 ·cases h
theorem chainF_nil {B : Int -> Int -> Bool} {I : Int -> Int -> Int} {x z : Int} (h : chainF B I x [] = some z) : x = z:=by simpa only [chainF,Option.some.injEq] using h
def chain : Int -> List Int -> Option Int:=chainF mkB mkI
def ckR (x : R3) : Bool :=
 skipB x || ((dnP x.2.2).2.2 == 0 && !sylB x.2.2 && decide (0 < clsP x.2.2) && !sylB x.2.1 && (match dnP x.2.1 with
  | (_,q,n)=>!(n == 1) && !exB x.2.1 && (if n = 0 then clsP x.2.1 == 0 && !(allP.any fun y=>y.2.2 == x.2.1 && !skipB y) && !witB x.2.1 4449 21 && !witB x.2.1 4520 27 else decide (clsP q <= clsP x.2.2))))
theorem ck_s : singT.all ckR = true:=by kernel_rfl
theorem ck_0 : pairT0.all ckR = true:=by kernel_rfl
theorem ck_1 : pairT1.all ckR = true:=by kernel_rfl
theorem ck_2 : pairT2.all ckR = true:=by kernel_rfl
theorem ck_3 : pairT3.all ckR = true:=by kernel_rfl
theorem ck_4 : pairT4.all ckR = true:=by kernel_rfl
theorem ck_5 : pairT5.all ckR = true:=by kernel_rfl
theorem ck_6 : pairT6.all ckR = true:=by kernel_rfl
theorem rows_ck : allP.all ckR = true:=by rw [<- parts_all];simp only [List.all_append,ck_s,ck_0,ck_1,ck_2,ck_3,ck_4,ck_5,ck_6,Bool.and_self]
structure Fine (r s : Int) (ds : List Int) : Prop where
 cls : clsP s = 0
 sec : secB s = false
 pos : ∀ d ∈ ds,0 < clsP d
 srt : ds.Pairwise (fun a b=>clsP a <= clsP b)
 chn : chain s ds = some r
theorem row_down {x : R3} (hx : x ∈ allP) : dnP x.1 = valP x:=rd_of_mem allP all_dist x hx
theorem skip_ex {x : R3} (hx : x ∈ allP) : skipB x = exq x.1:=by rw [<- rex_skip x hx,rex_eq]
theorem fine_row : ∀ (n : Nat) (x : R3),x ∈ allP -> skipB x = false -> okF n x.1 = true -> ∃ s ds,apF n x.1 = s :: ds ∧ Fine x.1 s ds ∧ ∀ d ∈ ds,clsP d <= clsP x.2.2
 | 0,_,_,_,h=>by cases h
 | n + 1,x,hx,hs,hok=>by
  have hck:=List.all_eq_true.1 rows_ck x hx
  unfold ckR at hck;rw [hs,Bool.false_or] at hck;obtain ⟨p,q,m,hq⟩ : ∃ p q m,dnP x.2.1 = (p,q,m):=⟨_,_,_,rfl⟩
  rw [hq] at hck;simp only [Bool.and_eq_true,Bool.not_eq_true',beq_iff_eq,decide_eq_true_eq] at hck
  obtain ⟨⟨⟨⟨k1,k2⟩,k3⟩,k5⟩,⟨k7,k8⟩,k6⟩:=hck
  have k4 : rexq allP x.2.1 = false:=by
   have e : (rdP x.2.1 allP).2.2 = m:=by
    have:=congrArg (fun y : Pt=>y.2.2) hq
    exact this
   unfold rexq;rw [e,k7,k8]; rfl
  have hne : x.2.2 ≠ 0:=by unfold skipB at hs;rw [Bool.or_eq_false_iff] at hs;simpa using hs.1
  have hd : dnP x.1 = (x.2.1,x.2.2,2):=by rw [row_down hx]; unfold valP; rw [if_neg hne]
  have hsy:=syl_row x hx
  simp only [okF] at hok
  rw [if_neg (by rw [hsy]; decide),hd] at hok
  simp only [show ¬ (2 : Int) = 1 by decide,if_false,if_true,Bool.and_eq_true] at hok
  have hex : exq x.1 = false:=by rw [<- skip_ex hx]; exact hs
  have hu:=bk1 x.1 (by rw [(dn_d x.1).2.2,hd]) hex
  rw [(dn_d x.1).1,(dn_d x.1).2.1,hd] at hu;simp only at hu
  have hmk : mkB x.2.1 x.2.2 = true:=by unfold mkB; rw [hu.2]; rfl
  have hmi : mkI x.2.1 x.2.2 = x.1:=by unfold mkI; rw [if_pos hu.2]; exact hu.1
  have hb : apF n x.2.2 = [x.2.2]:=by
   cases n with
   | zero=>cases hok.2
   | succ n =>
    simp only [apF]
    rw [if_neg (by rw [k2]; decide),if_neg (by omega),if_neg (by omega)]
  have he : apF (n + 1) x.1 = apF n x.2.1 ++ [x.2.2]:=by
   simp only [apF]
   rw [if_neg (by rw [hsy]; decide),hd]
   simp only [show ¬ (2 : Int) = 1 by decide,if_false,if_true]
   rw [hb]
  have hq3 : (dnP x.2.1).2.2 = m:=by rw [hq]
  by_cases h0 : m = 0
  ·rw [if_pos h0] at k6;simp only [Bool.and_eq_true,Bool.not_eq_true',beq_iff_eq] at k6
   obtain ⟨⟨⟨q1,q2⟩,q3⟩,q4⟩:=k6
   have ha : apF n x.2.1 = [x.2.1]:=by
    cases n with
    | zero=>cases hok.1
    | succ n =>
     simp only [apF]
     rw [if_neg (by rw [k5]; decide),if_neg (by omega),if_neg (by omega)]
   refine ⟨x.2.1,[x.2.2],by rw [he,ha]; rfl,⟨q1,?_,fun d hd=>?_,List.pairwise_singleton _ _,?_⟩,fun d hd=>?_⟩
   ·unfold secB;have : s1 x.2.1 = false:=by
     cases hh : s1 x.2.1 with
     | false=>rfl
     | true =>
      obtain ⟨y,hy,e1,e2⟩:=(s1_row _).1 hh
      have:=List.any_eq_false.1 q2 y hy
      simp [e1,e2] at this
    rw [this,q3,q4]; rfl
   ·simp at hd; subst hd; exact k3
   ·show chainF mkB mkI x.2.1 [x.2.2] = _
    have:=chainF_snoc mkB mkI [] x.2.1 x.2.2 x.2.1 rfl hmk
    rw [hmi] at this;exact this
   ·simp at hd; subst hd; exact Int.le_refl _
  ·rw [if_neg h0,decide_eq_true_eq] at k6;have hin : ∃ y ∈ allP,y.1 = x.2.1:=by
    refine Classical.byContradiction fun hn=>h0 ?_
    rw [<- hq3,dn_out x.2.1 (fun y hy e=>hn ⟨y,hy,e⟩)]
   obtain ⟨y,hy,ey⟩:=hin
   have hys : skipB y = false:=by rw [skip_ex hy,ey,<- rex_eq]; exact k4
   obtain ⟨s,ds,f1,f2,f3⟩:=fine_row n y hy hys (by rw [ey]; exact hok.1)
   rw [ey] at f1 f2
   have hyne : y.2.2 ≠ 0:=by unfold skipB at hys;rw [Bool.or_eq_false_iff] at hys;simpa using hys.1
   have hyd : dnP x.2.1 = (y.2.1,y.2.2,2):=by rw [<- ey,row_down hy]; unfold valP; rw [if_neg hyne]
   have hqe : q = y.2.2:=by
    have:=congrArg (fun y : Pt=>y.2.1) (hq.symm.trans hyd)
    exact this
   rw [hqe] at k6;refine ⟨s,ds ++ [x.2.2],by rw [he,f1]; rfl,⟨f2.cls,f2.sec,fun d hd=>?_,?_,?_⟩,fun d hd=>?_⟩
   ·rcases List.mem_append.1 hd with hd | hd
    ·exact f2.pos d hd
    ·simp at hd; subst hd; exact k3
   ·refine List.pairwise_append.2 ⟨f2.srt,List.pairwise_singleton _ _,fun a ha b hb=>?_⟩
    simp at hb; subst hb
    have:=f3 a ha
    omega
   ·have:=chainF_snoc mkB mkI ds s x.2.2 x.2.1 f2.chn hmk
    rw [hmi] at this;exact this
   ·rcases List.mem_append.1 hd with hd | hd
    ·have:=f3 d hd; omega
    ·simp at hd; subst hd; exact Int.le_refl _
def mrg : List Int -> List Int -> List Int
 | [],Ms=>Ms
 | d :: ds,[]=>d :: mrg ds []
 | d :: ds,m :: Ms=>if clsP m < clsP d then m :: mrg (d :: ds) Ms else d :: mrg ds (m :: Ms)
theorem mrg_sw (ds Ms : List Int) (hp : ∀ m ∈ Ms,0 < clsP m) (hs : ds.Pairwise (fun a b=>clsP a <= clsP b)) : Sw clsP (ds ++ Ms) (mrg ds Ms):=by
 fun_induction mrg ds Ms with
 | case1 Ms=>exact .refl _
 | case2 d ds ih =>
  rw [List.cons_append];exact (ih (by simp) (List.pairwise_cons.1 hs).2).cons d
 | case3 d ds m Ms hlt ih =>
  have h1:=sw_through clsP m (hp m (by simp)) (d :: ds) (fun x hx=>by
   rcases List.mem_cons.1 hx with rfl | hx
   ·exact hlt
   ·have:=(List.pairwise_cons.1 hs).1 x hx; omega)
  have h2 : Sw clsP (d :: ds ++ m :: Ms) (m :: (d :: ds ++ Ms)):=by
   have:=h1.ctx [] Ms
   simpa using this
  exact h2.trans ((ih (fun x hx=>hp x (by simp [hx])) hs).cons m)
 | case4 d ds m Ms hlt ih =>
  rw [List.cons_append];exact (ih hp (List.pairwise_cons.1 hs).2).cons d
theorem mrg_pw (ds Ms : List Int) (hp : ∀ m ∈ Ms,0 < clsP m) (hs : ds.Pairwise (fun a b=>clsP a <= clsP b)) (ht : Ms.Pairwise (fun a b=>clsP a <= clsP b)) : (mrg ds Ms).Pairwise (fun a b=>clsP a <= clsP b):=by
 fun_induction mrg ds Ms with
 | case1 Ms=>exact ht
 | case2 d ds ih =>
  refine List.pairwise_cons.2 ⟨fun x hx=>?_,ih (by simp) (List.pairwise_cons.1 hs).2 ht⟩
  have hx':=(mrg_sw ds [] (by simp) (List.pairwise_cons.1 hs).2).perm.mem_iff.2 hx
  rw [List.append_nil] at hx';exact (List.pairwise_cons.1 hs).1 x hx'
 | case3 d ds m Ms hlt ih =>
  refine List.pairwise_cons.2 ⟨fun x hx=>?_,ih (fun x hx=>hp x (by simp [hx])) hs (List.pairwise_cons.1 ht).2⟩
  have hx':=(mrg_sw (d :: ds) Ms (fun x hx=>hp x (by simp [hx])) hs).perm.mem_iff.2 hx
  rcases List.mem_append.1 hx' with h | h
  ·rcases List.mem_cons.1 h with rfl | h
   ·omega
   ·have:=(List.pairwise_cons.1 hs).1 x h; omega
  ·exact (List.pairwise_cons.1 ht).1 x h
 | case4 d ds m Ms hlt ih =>
  refine List.pairwise_cons.2 ⟨fun x hx=>?_,ih hp (List.pairwise_cons.1 hs).2 ht⟩
  have hx':=(mrg_sw ds (m :: Ms) hp (List.pairwise_cons.1 hs).2).perm.mem_iff.2 hx
  rcases List.mem_append.1 hx' with h | h
  ·exact (List.pairwise_cons.1 hs).1 x h
  ·rcases List.mem_cons.1 h with rfl | h
   ·omega
   ·have:=(List.pairwise_cons.1 ht).1 x h; omega
theorem pw_ord : ∀ (l : List Int),l.Pairwise (fun a b=>clsP a <= clsP b) -> Od.Ord clsP l
 | [],_=>trivial
 | [_],_=>trivial
 | x :: y :: l,h=>by
  have h1:=List.pairwise_cons.1 h
  refine ⟨?_,pw_ord (y :: l) h1.2⟩
  have:=h1.1 y (by simp)
  omega
theorem mrg_srt (ds Ms : List Int) (hp : ∀ m ∈ Ms,0 < clsP m) (hs : ds.Pairwise (fun a b=>clsP a <= clsP b)) (ht : Ms.Pairwise (fun a b=>clsP a <= clsP b)) : mrg ds Ms = Od.srt clsP (ds ++ Ms) :=
 (mrg_sw ds Ms hp hs).fin (pw_ord _ (mrg_pw ds Ms hp hs ht))
theorem try_nosec {s : CS} {r : Int} (h : secB r = false) : tryC clsP s r = false:=by
 cases ht : tryC clsP s r with
 | false=>rfl
 | true =>
  obtain ⟨x,_,hm⟩:=try_some ht
  rw [mk_sec hm] at h; cases h
theorem step_nosec {A M : List Int} {o : Option Int} {m : Int} (h : secB m = false) (hc : 0 < clsP m) : stepC clsP (A,o,M) m = (A,o,M ++ [m]):=by unfold stepC;rw [if_neg (by rw [try_nosec h]; decide),if_neg (by omega)]
theorem gr_small (M : List Int) (d : Int) (h : ∀ m ∈ M,clsP m < clsP d) : gr clsP M = 0 ∨ gr clsP M < clsP d:=by
 rcases gr_at M 0 with e | ⟨m,hm,e⟩
 ·exact .inl e
 ·right
  have:=h m hm
  unfold gr;omega
theorem marks_fold : ∀ (Ms A M0 : List Int) (o : Option Int),(∀ m ∈ Ms,0 < clsP m ∧ secB m = false) -> Ms.foldl (stepC clsP) (A,o,M0) = (A,o,M0 ++ Ms)
 | [],A,M0,o,_=>by simp
 | m :: Ms,A,M0,o,h=>by
  rw [List.foldl_cons,step_nosec (h m (by simp)).2 (h m (by simp)).1,marks_fold Ms A (M0 ++ [m]) o (fun y hy=>h y (by simp [hy]))]
  simp
theorem run_fold (ds Ms : List Int) : ∀ (A M0 : List Int) (x z : Int),ds.Pairwise (fun a b=>clsP a <= clsP b) -> (∀ m ∈ Ms,0 < clsP m ∧ secB m = false) -> chain x ds = some z -> (∀ d ∈ ds,∀ m ∈ M0,clsP m < clsP d) -> (mrg ds Ms).foldl (stepC clsP) (A,some x,M0) = (A,some z,M0 ++ Ms):=by
 fun_induction mrg ds Ms with
 | case1 Ms =>
  intro A M0 x z _ hM hch _
  have hch:=chainF_nil hch
  subst hch;exact marks_fold Ms A M0 (some x) hM
 | case2 d ds ih =>
  intro A M0 x z hs hM hch hlt
  obtain ⟨hmk,hch⟩:=chainF_cons hch
  ·have ht : tryC clsP (A,some x,M0) d = true:=by
    unfold tryC;simp only [Bool.and_eq_true,Bool.not_eq_true',Bool.and_eq_false_iff,decide_eq_false_iff_not]
    refine ⟨?_,hmk⟩
    rcases gr_small M0 d (hlt d (by simp)) with e | e
    ·exact .inl (by omega)
    ·exact .inr (by omega)
   rw [List.foldl_cons,step_join ht];exact ih A M0 _ z (List.pairwise_cons.1 hs).2 hM hch (fun y hy=>hlt y (by simp [hy]))
 | case3 d ds m Ms hlt' ih =>
  intro A M0 x z hs hM hch hlt
  rw [List.foldl_cons,step_nosec (hM m (by simp)).2 (hM m (by simp)).1,ih A (M0 ++ [m]) x z hs (fun y hy=>hM y (by simp [hy])) hch ?_]
  ·simp
  ·intro y hy q hq
   rcases List.mem_append.1 hq with hq | hq
   ·exact hlt y hy q hq
   ·simp at hq; subst hq
    rcases List.mem_cons.1 hy with rfl | hy
    ·exact hlt'
    ·have:=(List.pairwise_cons.1 hs).1 y hy; omega
 | case4 d ds m Ms hlt' ih =>
  intro A M0 x z hs hM hch hlt
  obtain ⟨hmk,hch⟩:=chainF_cons hch
  ·have ht : tryC clsP (A,some x,M0) d = true:=by
    unfold tryC;simp only [Bool.and_eq_true,Bool.not_eq_true',Bool.and_eq_false_iff,decide_eq_false_iff_not]
    refine ⟨?_,hmk⟩
    rcases gr_small M0 d (hlt d (by simp)) with e | e
    ·exact .inl (by omega)
    ·exact .inr (by omega)
   rw [List.foldl_cons,step_join ht];exact ih A M0 _ z (List.pairwise_cons.1 hs).2 hM hch (fun y hy=>hlt y (by simp [hy]))
theorem ins_zero (z : Int) (hz : clsP z = 0) (V : List Int) (x : Int) : ∀ (W : List Int),ins clsP x (W ++ z :: V) = ins clsP x W ++ z :: V
 | []=>by
  show (if 0 < clsP z ∧ clsP z < clsP x then _ else _) = _
  rw [if_neg (by omega)]; rfl
 | y :: W=>by
  show (if 0 < clsP y ∧ clsP y < clsP x then y :: ins clsP x (W ++ z :: V) else _) = _
  rw [ins_zero z hz V x W];show _ = (if 0 < clsP y ∧ clsP y < clsP x then y :: ins clsP x W else x :: y :: W) ++ z :: V
  split <;> rfl
theorem srt_zero (z : Int) (hz : clsP z = 0) (Y : List Int) : srt clsP (z :: Y) = z :: srt clsP Y:=by
 show ins clsP z (srt clsP Y) = _
 cases srt clsP Y with
 | nil=>rfl
 | cons y l =>
  show (if 0 < clsP y ∧ clsP y < clsP z then _ else _) = _
  rw [if_neg (by omega)]
theorem srt_split (z : Int) (hz : clsP z = 0) (Y : List Int) : ∀ (X : List Int),srt clsP (X ++ z :: Y) = srt clsP X ++ z :: srt clsP Y
 | []=>srt_zero z hz Y
 | x :: X=>by
  show ins clsP x (srt clsP (X ++ z :: Y)) = ins clsP x (srt clsP X) ++ _
  rw [srt_split z hz Y X,ins_zero z hz]
theorem ord_tail2 : ∀ (A B : List Int),Od.Ord clsP (A ++ B) -> Od.Ord clsP B
 | [],_,h=>h
 | _ :: A,B,h=>ord_tail2 A B h.tail
theorem ord_head2 : ∀ (A B : List Int),Od.Ord clsP (A ++ B) -> Od.Ord clsP A
 | [],_,_=>trivial
 | [_],_,_=>trivial
 | _ :: y :: A,B,h=>⟨h.1,ord_head2 (y :: A) B h.2⟩
theorem ord_pw : ∀ (l : List Int),(∀ m ∈ l,0 < clsP m) -> Od.Ord clsP l -> l.Pairwise (fun a b=>clsP a <= clsP b)
 | [],_,_=>List.Pairwise.nil
 | [_],_,_=>List.pairwise_singleton _ _
 | x :: y :: l,hp,h=>by
  have ih:=ord_pw (y :: l) (fun m hm=>hp m (by simp [hm])) h.2
  have hy:=hp y (by simp)
  have hxy : clsP x <= clsP y:=by have:=h.1; omega
  refine List.pairwise_cons.2 ⟨fun z hz=>?_,ih⟩
  rcases List.mem_cons.1 hz with rfl | hz
  ·exact hxy
  ·have:=(List.pairwise_cons.1 ih).1 z hz; omega
theorem rows_jam : Uc.allT.all (fun x=>x.2.2.2.2.2.1 == 0 || decide (x.2.1 < 4352) || decide (4546 < x.1)) = true:=by kernel_rfl
theorem findL_jam (r : Int) (h1 : 4352 <= r) (h2 : r <= 4546) : ∀ (L : List Uc.Ln),L.all (fun x=>x.2.2.2.2.2.1 == 0 || decide (x.2.1 < 4352) || decide (4546 < x.1)) = true -> (Uc.findL r L).2.2.2.2.2.1 = 0
 | [],_=>rfl
 | x :: L,h=>by
  rw [List.all_cons,Bool.and_eq_true] at h;unfold Uc.findL;split
  ·rename_i hh
   have:=h.1
   simp only [Bool.or_eq_true,beq_iff_eq,decide_eq_true_eq] at this
   omega
  ·exact findL_jam r h1 h2 L h.2
theorem cls_jam {r : Int} (h1 : 4352 <= r) (h2 : r <= 4546) : clsP r = 0:=by rw [cls_row,Uc.rrow_find];exact findL_jam r h1 h2 _ rows_jam
theorem rows_led : allP.all (fun y=>skipB y || !(decide (4352 <= y.2.2) && decide (y.2.2 <= 4370))) = true:=by kernel_rfl
theorem sec_led {r : Int} (h1 : 4352 <= r) (h2 : r <= 4370) : secB r = false:=by
 unfold secB;have e1 : s1 r = false:=by
  cases hh : s1 r with
  | false=>rfl
  | true =>
   obtain ⟨y,hy,q1,q2⟩:=(s1_row _).1 hh
   have:=List.all_eq_true.1 rows_led y hy
   simp only [q1,Bool.false_or,Bool.not_eq_true',Bool.and_eq_false_iff,decide_eq_false_iff_not] at this
   omega
 have e2 : witB r 4449 21 = false:=decide_eq_false (by omega)
 have e3 : witB r 4520 27 = false:=decide_eq_false (by omega)
 rw [e1,e2,e3]; rfl
def YesL (l : List Int) : Prop:=Od.Ord clsP l ∧ ∀ r ∈ l,exq r = false ∧ secB r = false
theorem in_row {r : Int} (he : exq r = false) {x : R3} (hx : x ∈ allP) (e : x.1 = r) : skipB x = false:=by rw [skip_ex hx,e]; exact he
theorem mark_ap {r : Int} (he : exq r = false) (hc : clsP r ≠ 0) : apP r = [r]:=by
 refine ap_plain r ?_ (fun x hx e=>hc ?_)
 ·cases hs : sylB r with
  | false=>rfl
  | true=>exact absurd (cls_syl hs) hc
 ·have h1:=in_row he hx e
  have:=List.all_eq_true.1 rows_up x hx
  simp only [h1,Bool.false_or,Bool.and_eq_true,beq_iff_eq] at this
  rw [<- e]; exact this.1.1
theorem start_ap {r : Int} (he : exq r = false) (hn : secB r = false) (hc : clsP r = 0) (hs : sylB r = false) : ∃ s ds,apP r = s :: ds ∧ Fine r s ds:=by
 by_cases h : ∃ x ∈ allP,x.1 = r
 ·obtain ⟨x,hx,rfl⟩:=h
  obtain ⟨s,ds,h1,h2,_⟩:=fine_row 5 x hx (in_row he hx rfl) (ok5 x.1)
  exact ⟨s,ds,by rw [<- ap5]; exact h1,h2⟩
 ·exact ⟨r,[],ap_plain r hs (fun x hx e=>h ⟨x,hx,e⟩),hc,hn,by simp,List.Pairwise.nil,rfl⟩
theorem marks_ap : ∀ (M : List Int),(∀ m ∈ M,exq m = false ∧ clsP m ≠ 0) -> M.flatMap apP = M
 | [],_=>rfl
 | m :: M,h=>by
  rw [List.flatMap_cons,mark_ap (h m (by simp)).1 (h m (by simp)).2,marks_ap M (fun y hy=>h y (by simp [hy]))]
  rfl
theorem head_ap {r : Int} (he : exq r = false) (hn : secB r = false) (hc : clsP r = 0) : ∃ s ds,apP r = s :: ds ∧ clsP s = 0:=by
 cases hs : sylB r with
 | true =>
  have hl:=led_bd r (syl_bd hs)
  rw [ap_eq,if_pos hs];unfold sylL;split
  ·exact ⟨_,_,rfl,cls_jam (by omega) (by omega)⟩
  ·exact ⟨_,_,rfl,cls_jam (by omega) (by omega)⟩
 | false =>
  obtain ⟨s,ds,h1,h2⟩:=start_ap he hn hc hs
  exact ⟨s,ds,h1,h2.cls⟩
def Heads (l : List Int) : Prop:=l = [] ∨ ∃ r t,l = r :: t ∧ clsP r = 0
theorem srt_heads {t : List Int} (h : Heads t) (hy : ∀ r ∈ t,exq r = false ∧ secB r = false) (X : List Int) : srt clsP (X ++ t.flatMap apP) = srt clsP X ++ srt clsP (t.flatMap apP):=by
 rcases h with rfl | ⟨r,t,rfl,hc⟩
 ·simp [srt]
 ·obtain ⟨s,ds,e,hs⟩:=head_ap (hy r (by simp)).1 (hy r (by simp)).2 hc
  rw [List.flatMap_cons,e,List.cons_append,srt_split s hs,srt_zero s hs]
theorem step_start {S : CS} {s : Int} (h : secB s = false) (hc : clsP s = 0) : stepC clsP S s = (outC S,some s,[]):=by unfold stepC;rw [if_neg (by rw [try_nosec h]; decide),if_pos hc]
theorem heads_drop : ∀ (t : List Int),Heads (t.dropWhile (fun y=>clsP y != 0))
 | []=>.inl rfl
 | y :: t=>by
  by_cases h : clsP y = 0
  ·rw [List.dropWhile_cons_of_neg (by simpa using h)];exact .inr ⟨y,t,rfl,h⟩
  ·rw [List.dropWhile_cons_of_pos (by simpa using h)];exact heads_drop t
theorem take_marks : ∀ (t : List Int),∀ m ∈ t.takeWhile (fun y=>clsP y != 0),clsP m ≠ 0
 | [],m,h=>by simp at h
 | y :: t,m,h=>by
  by_cases hy : clsP y = 0
  ·rw [List.takeWhile_cons_of_neg (by simpa using hy)] at h;simp at h
  ·rw [List.takeWhile_cons_of_pos (by simpa using hy)] at h;rcases List.mem_cons.1 h with rfl | h
   ·exact hy
   ·exact take_marks t m h
theorem pos_of {m : Int} (h : clsP m ≠ 0) : 0 < clsP m:=by have:=(cls_bd m).1; omega
theorem mrg_nil (Ms : List Int) : mrg [] Ms = Ms:=by rw [mrg]
theorem syl_fold {r : Int} (h : sylB r = true) (S : CS) : (sylL r).foldl (stepC clsP) S = (outC S,some r,[]):=by
 have hb:=syl_bd h
 have hl:=led_bd r hb
 have hv:=vow_bd r
 have e1 : lvB (ledI r) (vowI r) = true:=by unfold lvB witB;rw [decide_eq_true (by omega),decide_eq_true (by omega)]; rfl
 have u0 : u2 (ledI r) (vowI r) = false:=by
  cases hu : u2 (ledI r) (vowI r) with
  | false=>rfl
  | true =>
   have:=(up_row hu).2.1
   unfold witB at this;rw [decide_eq_true (by omega)] at this; cases this
 have m1 : mkB (ledI r) (vowI r) = true:=by unfold mkB; rw [e1]; simp
 have m2 : mkI (ledI r) (vowI r) = lvI (ledI r) (vowI r):=by unfold mkI; rw [u0,if_neg (by decide),if_pos e1]
 have st1 : stepC clsP S (ledI r) = (outC S,some (ledI r),[]):=step_start (sec_led hl.1 hl.2) (cls_jam (by omega) (by omega))
 have t1 : tryC clsP (outC S,some (ledI r),[]) (vowI r) = true:=by
  unfold tryC;simp only [m1,Bool.and_true]
  rfl
 have st2:=step_join t1
 rw [m2] at st2;unfold sylL;split
 ·rename_i h0
  have e : lvI (ledI r) (vowI r) = r:=by
   unfold talI at h0;split at h0
   ·omega
   ·unfold lvI ledI vowI; omega
  simp only [List.foldl_cons,List.foldl_nil]
  rw [st1,st2,e]
 ·rename_i h0
  obtain ⟨p1,p2⟩:=lv_parts _ _ e1
  have ht : 0 < (r - 44032) % 28:=by
   unfold talI at h0;split at h0
   ·assumption
   ·exact absurd rfl h0
  have e3 : talI r = 4519 + (r - 44032) % 28:=by unfold talI; rw [if_pos ht]
  have o1 : otB (lvI (ledI r) (vowI r)) (talI r) = true:=by unfold otB opnB;rw [p1,e3];unfold witB lvI;rw [decide_eq_true (by omega),decide_eq_true (by omega)]; rfl
  have u3 : u2 (lvI (ledI r) (vowI r)) (talI r) = false:=by
   cases hu : u2 (lvI (ledI r) (vowI r)) (talI r) with
   | false=>rfl
   | true=>have:=(up_row hu).2.2; rw [p1] at this; cases this
  have l3 : lvB (lvI (ledI r) (vowI r)) (talI r) = false:=by
   have:=syl_bd p1
   unfold lvB witB;rw [decide_eq_false (by omega)]; rfl
  have m3 : mkB (lvI (ledI r) (vowI r)) (talI r) = true:=by unfold mkB; rw [o1]; simp
  have m4 : mkI (lvI (ledI r) (vowI r)) (talI r) = r:=by unfold mkI;rw [u3,if_neg (by decide),l3,if_neg (by decide),e3];unfold otI lvI ledI vowI;omega
  have t2 : tryC clsP (outC S,some (lvI (ledI r) (vowI r)),[]) (talI r) = true:=by
   unfold tryC;simp only [m3,Bool.and_true]
   rfl
  have st3:=step_join t2
  rw [m4] at st3;simp only [List.foldl_cons,List.foldl_nil]
  rw [st1,st2,st3]
theorem tail_fold : ∀ (n : Nat) (l : List Int),l.length <= n -> YesL l -> Heads l -> ∀ S : CS,outC ((srt clsP (l.flatMap apP)).foldl (stepC clsP) S) = outC S ++ l
 | n,[],_,_,_,S=>by simp [srt]
 | 0,_ :: _,h,_,_,_=>by simp at h
 | n + 1,r :: t,hn,hy,hh,S=>by
  have hc : clsP r = 0:=by
   rcases hh with h | ⟨_,_,e,h⟩
   ·cases h
   ·cases e; exact h
  have hsp:=List.takeWhile_append_dropWhile (p:=fun y=>clsP y != 0) (l:=t)
  have hM:=take_marks t
  have hH:=heads_drop t
  generalize t.takeWhile (fun y=>clsP y != 0) = Ms at *
  generalize t.dropWhile (fun y=>clsP y != 0) = t2 at *
  subst hsp;have hyr:=hy.2 r (by simp)
  have hyM : ∀ m ∈ Ms,exq m = false ∧ secB m = false:=fun m hm=>hy.2 m (by simp [hm])
  have hyt : ∀ m ∈ t2,exq m = false ∧ secB m = false:=fun m hm=>hy.2 m (by simp [hm])
  have hpM : ∀ m ∈ Ms,0 < clsP m:=fun m hm=>pos_of (hM m hm)
  have ho2 : Od.Ord clsP (Ms ++ t2):=hy.1.tail
  have hpw:=ord_pw Ms hpM (ord_head2 Ms t2 ho2)
  have hot:=ord_tail2 Ms t2 ho2
  have ih:=fun S=>tail_fold n t2 (by simp at hn; omega) ⟨hot,hyt⟩ hH S
  have hfl : (r :: (Ms ++ t2)).flatMap apP = apP r ++ (Ms ++ t2.flatMap apP):=by rw [List.flatMap_cons,List.flatMap_append,marks_ap Ms (fun m hm=>⟨(hyM m hm).1,hM m hm⟩)]
  rw [hfl];cases hs : sylB r with
  | true =>
   have e1 : srt clsP (apP r ++ (Ms ++ t2.flatMap apP)) = sylL r ++ (Ms ++ srt clsP (t2.flatMap apP)):=by
    have e2 : srt clsP (Ms ++ t2.flatMap apP) = Ms ++ srt clsP (t2.flatMap apP):=by rw [srt_heads hH hyt,(pw_ord Ms hpw).srt_eq]
    rw [ap_eq,if_pos hs,<- e2];have hbd:=sylL_bd hs
    generalize sylL r = L at *;induction L with
    | nil=>rfl
    | cons y L ihL =>
     have hy':=hbd y (by simp)
     rw [List.cons_append,srt_zero y (cls_jam hy'.1 hy'.2),ihL (fun z hz=>hbd z (by simp [hz]))]
     rfl
   rw [e1,List.foldl_append,syl_fold hs S,List.foldl_append];have:=run_fold [] Ms (outC S) [] r r List.Pairwise.nil (fun m hm=>⟨hpM m hm,(hyM m hm).2⟩) rfl (by simp)
   rw [mrg_nil] at this;rw [this,ih];simp [outC]
  | false =>
   obtain ⟨s,ds,e,hf⟩:=start_ap hyr.1 hyr.2 hc hs
   have e1 : srt clsP (apP r ++ (Ms ++ t2.flatMap apP)) = s :: (mrg ds Ms ++ srt clsP (t2.flatMap apP)):=by rw [e,List.cons_append,srt_zero s hf.cls,<- List.append_assoc,srt_heads hH hyt,mrg_srt ds Ms hpM hf.srt hpw]
   rw [e1,List.foldl_cons,step_start hf.sec hf.cls,List.foldl_append,run_fold ds Ms (outC S) [] s r hf.srt (fun m hm=>⟨hpM m hm,(hyM m hm).2⟩) hf.chn (by simp),ih]
   simp [outC]
theorem quick_yes (l : List Int) (h : quickP l = 1) : nfcP clsP l = l:=by
 unfold quickP at h;split at h
 ·rename_i hs
  split at h
  ·omega
  ·rename_i he
   split at h
   ·omega
   ·rename_i hsec
    have ho : Od.Ord clsP l:=(ord_iff clsP l).2 hs
    have hy : ∀ r ∈ l,exq r = false ∧ secB r = false:=fun r hr =>
     ⟨by
      cases hh : exq r with
      | false=>rfl
      | true=>exact absurd (List.any_eq_true.2 ⟨r,hr,hh⟩) he,
      by
       cases hh : secB r with
       | false=>rfl
       | true=>exact absurd (List.any_eq_true.2 ⟨r,hr,hh⟩) hsec⟩
    have hsp:=List.takeWhile_append_dropWhile (p:=fun y=>clsP y != 0) (l:=l)
    have hM:=take_marks l
    have hH:=heads_drop l
    generalize l.takeWhile (fun y=>clsP y != 0) = Ms at *
    generalize l.dropWhile (fun y=>clsP y != 0) = t2 at *
    subst hsp;have hyM : ∀ m ∈ Ms,exq m = false ∧ secB m = false:=fun m hm=>hy m (by simp [hm])
    have hyt : ∀ m ∈ t2,exq m = false ∧ secB m = false:=fun m hm=>hy m (by simp [hm])
    have hpM : ∀ m ∈ Ms,0 < clsP m:=fun m hm=>pos_of (hM m hm)
    have hpw:=ord_pw Ms hpM (ord_head2 Ms t2 ho)
    have hot:=ord_tail2 Ms t2 ho
    unfold nfcP nfdP compP;rw [List.flatMap_append,marks_ap Ms (fun m hm=>⟨(hyM m hm).1,hM m hm⟩),srt_heads hH hyt,(pw_ord Ms hpw).srt_eq,List.foldl_append,marks_fold Ms [] [] none (fun m hm=>⟨hpM m hm,(hyM m hm).2⟩),tail_fold t2.length t2 (Nat.le_refl _) ⟨hot,hyt⟩ hH]
    simp [outC]
 ·omega
end Nf
end Go.Proofs.YtkhipgcgcbhjoaaGreat
