import Derived.Test.YtkhipgcgcbhjoaaGreatLa25
set_option maxRecDepth 1000000
set_option maxHeartbeats 4000000
namespace Go.Proofs.YtkhipgcgcbhjoaaGreat
namespace Nf
open Go.RowKit Od Pr Ha
theorem rows_up : allP.all (fun x=>skipB x || (clsP x.1 == 0 && !witB x.2.1 4352 19 && !sylB x.2.1)) = true:=by kernel_rfl
theorem rows_syl : Uc.allT.all (fun x=>x.2.2.2.2.2.1 == 0 || decide (x.2.1 < 44032) || decide (55203 < x.1)) = true:=by kernel_rfl
theorem findL_cls (r : Int) (h1 : 44032 <= r) (h2 : r <= 55203) : ∀ (L : List Uc.Ln),L.all (fun x=>x.2.2.2.2.2.1 == 0 || decide (x.2.1 < 44032) || decide (55203 < x.1)) = true -> (Uc.findL r L).2.2.2.2.2.1 = 0
 | [],_=>rfl
 | x :: L,h=>by
  rw [List.all_cons,Bool.and_eq_true] at h;unfold Uc.findL;split
  ·rename_i hh
   have:=h.1
   simp only [Bool.or_eq_true,beq_iff_eq,decide_eq_true_eq] at this
   omega
  ·exact findL_cls r h1 h2 L h.2
theorem cls_syl {r : Int} (h : sylB r = true) : clsP r = 0:=by
 obtain ⟨h1,h2⟩:=syl_bd h
 rw [cls_row,Uc.rrow_find];exact findL_cls r h1 h2 _ rows_syl
theorem up_row {a b : Int} (h : u2 a b = true) : clsP (u1 a b) = 0 ∧ witB a 4352 19 = false ∧ sylB a = false:=by
 unfold u2 at h;unfold u1;cases hu : upF allP (a,b) with
 | none=>rw [hu] at h; cases h
 | some z =>
  obtain ⟨R,hR,hs,e,rfl⟩:=up_mem allP _ z hu
  simp only [Prod.mk.injEq] at e
  have:=List.all_eq_true.1 rows_up R hR
  simp only [hs,Bool.false_or,Bool.and_eq_true,beq_iff_eq,Bool.not_eq_true'] at this
  rw [e.1];exact ⟨this.1.1,this.1.2,this.2⟩
theorem mk_cls {a b : Int} (h : mkB a b = true) : clsP (mkI a b) = 0:=by
 unfold mkI;split
 ·exact (up_row ‹_›).1
 ·split
  ·exact cls_syl (lv_parts a b ‹_›).1
  ·have h3 : otB a b = true:=by
    unfold mkB at h;cases hu : u2 a b <;> cases hl : lvB a b <;> simp_all
   exact cls_syl (ot_parts a b h3).2.2.1
def rmk (a b : Int) : Int:=if 0 <= rjI a b then rjI a b else rupP allP a b allP
theorem rmk_eq (a b : Int) : rmk a b = if mkB a b = true then mkI a b else -1:=by
 unfold rmk mkB mkI;rcases rup_eq a b with ⟨h1,h2,h3⟩ | ⟨h1,h2,h3⟩
 ·obtain ⟨_,q1,q2⟩:=up_row h1
  have e1 : lvB a b = false:=by unfold lvB; rw [q1]; rfl
  have e2 : otB a b = false:=by unfold otB opnB; rw [q2]; rfl
  have e3 : rjI a b = -1:=by unfold rjI; rw [e1,e2]; rfl
  rw [e3,if_neg (by omega),h1,h2]; simp
 ·rw [h1,h3];by_cases e1 : lvB a b = true
  ·have e3 : rjI a b = lvI a b:=by unfold rjI; rw [if_pos e1]
   have:=syl_bd (lv_parts a b e1).1
   rw [e3,if_pos (by omega),e1]; simp
  ·have e1' : lvB a b = false:=by simpa using e1
   by_cases e2 : otB a b = true
   ·have e3 : rjI a b = otI a b:=by unfold rjI; rw [if_neg e1,if_pos e2]
    have:=syl_bd (ot_parts a b e2).2.2.1
    rw [e3,if_pos (by omega),e1',e2]; simp
   ·have e2' : otB a b = false:=by simpa using e2
    have e3 : rjI a b = -1:=by unfold rjI; rw [if_neg e1,if_neg e2]
    rw [e3,if_neg (by omega),e1',e2']; simp
theorem mk_pos {a b : Int} (h : mkB a b = true) : 0 <= mkI a b:=by
 have e:=rmk_eq a b
 rw [if_pos h] at e;rw [<- e];unfold rmk;rcases rup_eq a b with ⟨h1,h2,h3⟩ | ⟨h1,h2,h3⟩
 ·split <;> omega
 ·unfold rmk at e;split
  ·assumption
  ·rename_i h4
   rw [if_neg h4,h3] at e;exfalso
   unfold mkB at h;unfold mkI at e;rw [h1] at h e
   by_cases e1 : lvB a b = true
   ·have:=syl_bd (lv_parts a b e1).1
    rw [if_neg (by decide),if_pos e1] at e;omega
   ·have e1' : lvB a b = false:=by simpa using e1
    rw [e1'] at h;have e2 : otB a b = true:=by simpa using h
    have:=syl_bd (ot_parts a b e2).2.2.1
    rw [if_neg (by decide),if_neg e1] at e;omega
def okC (s : CS) : Prop:=(∀ m ∈ s.2.2,clsP m ≠ 0) ∧ match s.2.1 with
 | none=>s.1 = []
 | some x=>clsP x = 0
theorem try_some {s : CS} {r : Int} (h : tryC clsP s r = true) : ∃ x,s.2.1 = some x ∧ mkB x r = true:=by
 unfold tryC at h;cases hx : s.2.1 with
 | none=>rw [hx] at h; cases h
 | some x=>rw [hx] at h; simp only [Bool.and_eq_true] at h; exact ⟨x,rfl,h.2⟩
theorem okC_step {s : CS} (r : Int) (h : okC s) : okC (stepC clsP s r):=by
 obtain ⟨A,o,M⟩:=s
 by_cases ht : tryC clsP (A,o,M) r = true
 ·obtain ⟨x,e,hm⟩:=try_some ht
  simp only at e
  subst e;rw [step_join ht];exact ⟨h.1,mk_cls hm⟩
 ·unfold stepC;rw [if_neg ht];split
  ·rename_i hc
   exact ⟨fun m hm=>by simp at hm,hc⟩
  ·rename_i hc
   refine ⟨fun m hm=>?_,h.2⟩
   rcases List.mem_append.1 hm with hm | hm
   ·exact h.1 m hm
   ·simp at hm; subst hm; exact hc
theorem getD_mid (P M R : List Int) (j : Nat) (h : j < M.length) : (P ++ M ++ R).getD (P.length + j) 0 = M[j]:=by
 rw [List.getD_eq_getElem?_getD,List.append_assoc,List.getElem?_append_right (by omega),Nat.add_sub_cancel_left,List.getElem?_append_left h,List.getElem?_eq_getElem h]
 rfl
theorem start_marks (P M R : List Int) (h : ∀ m ∈ M,clsP m ≠ 0) : ∀ j,j <= M.length -> startN clsP (P ++ M ++ R) (P.length + j) = startN clsP (P ++ M ++ R) P.length
 | 0,_=>rfl
 | j + 1,hj=>by
  have e : startN clsP (P ++ M ++ R) (P.length + (j + 1)) = if clsP ((P ++ M ++ R).getD (P.length + j) 0) = 0 then ((P.length + j : Nat) : Int) else startN clsP (P ++ M ++ R) (P.length + j):=rfl
  rw [e,getD_mid P M R j (by omega),if_neg (h _ (List.getElem_mem _)),start_marks P M R h j (by omega)]
theorem start_at (s : CS) (h : okC s) (R : List Int) : startN clsP (outC s ++ R) (outC s).length = stI s:=by
 obtain ⟨A,o,M⟩:=s
 obtain ⟨h1,h2⟩:=h
 cases o with
 | none =>
  simp only at h2
  subst h2;have:=start_marks [] M R h1 M.length (Nat.le_refl _)
  simp only [List.nil_append,List.length_nil,Nat.zero_add] at this
  show startN clsP (([] ++ [] ++ M) ++ R) _ = -1
  simp only [List.nil_append,outC,Option.toList] at this ⊢
  rw [this];rfl
 | some x =>
  simp only at h2
  have:=start_marks (A ++ [x]) M R h1 M.length (Nat.le_refl _)
  have e : (outC (A,some x,M)).length = (A ++ [x]).length + M.length:=by simp [outC]; omega
  rw [e];show startN clsP ((A ++ [x] ++ M) ++ R) _ = _
  rw [this];have e2 : (A ++ [x]).length = A.length + 1:=by simp
  rw [e2];have e3 : (A ++ [x] ++ M ++ R).getD (A.length + 0) 0 = x:=by simp
  show (if clsP ((A ++ [x] ++ M ++ R).getD (A.length) 0) = 0 then ((A.length : Nat) : Int) else _) = _
  rw [Nat.add_zero] at e3;rw [e3,if_pos h2];rfl
theorem gr_at : ∀ (M : List Int) (g0 : Int),M.foldl (fun g r=>if g < clsP r then clsP r else g) g0 = g0 ∨ ∃ m ∈ M,M.foldl (fun g r=>if g < clsP r then clsP r else g) g0 = clsP m
 | [],_=>.inl rfl
 | x :: M,g0=>by
  rw [List.foldl_cons];rcases gr_at M (if g0 < clsP x then clsP x else g0) with h | ⟨m,hm,h⟩
  ·rw [h];split
   ·exact .inr ⟨x,by simp,rfl⟩
   ·exact .inl rfl
  ·exact .inr ⟨m,by simp [hm],h⟩
theorem gr_any (M : List Int) (r : Int) (h : ∀ m ∈ M,clsP m ≠ 0) : M.any (fun m=>decide (clsP r <= clsP m)) = (decide (0 < gr clsP M) && decide (clsP r <= gr clsP M)):=by
 rw [Bool.eq_iff_iff,Bool.and_eq_true,decide_eq_true_eq,decide_eq_true_eq,List.any_eq_true];have hg:=gr_ge clsP M 0
 have ha:=gr_at M 0
 unfold gr;constructor
 ·rintro ⟨m,hm,hh⟩;have h1:=of_decide_eq_true hh
  have h2:=hg.2 m hm
  have h3:=h m hm
  have h4:=(cls_bd m).1
  exact ⟨by omega,by omega⟩
 ·rintro ⟨h1,h2⟩;rcases ha with ha | ⟨m,hm,ha⟩
  ·omega
  ·exact ⟨m,hm,decide_eq_true (by omega)⟩
theorem blocked_at (A M : List Int) (x r : Int) (h : okC (A,some x,M)) (R : List Int) : blockedP clsP (outC (A,some x,M) ++ r :: R) (outC (A,some x,M)).length = (decide (0 < gr clsP M) && decide (clsP r <= gr clsP M)):=by
 unfold blockedP;rw [start_at _ h];have e1 : stI (A,some x,M) = (A.length : Int):=rfl
 have e2 : (outC (A,some x,M) ++ r :: R).getD (outC (A,some x,M)).length 0 = r:=by simp
 rw [e1,e2,decide_eq_true (by omega),Bool.true_and,List.take_left,<- gr_any M r h.1];have e3 : (outC (A,some x,M)).drop ((A.length : Int).toNat + 1) = M:=by
  show (A ++ [x] ++ M).drop (A.length + 1) = M
  rw [show A.length + 1 = (A ++ [x]).length by simp,List.drop_left]
 rw [e3]
def Own (B : Nat) (w : World) (v : Value) (l : List Int) : Prop:=w.ownsRow B 3 1 v l.length (ivs .i64 l) ∧ isSome v
theorem own_lit (w : World) (l : List Int) (h : l.length <= 5000) (N : Nat) (hN : N = w.heap.size) (n : Nat) (hn : n = l.length) : Own N (w.alloc (.cells (ivs .i64 l).toArray 3)) (.slice (some ⟨N,0,none⟩) n n) l:=by subst hN;subst hn;exact ⟨⟨by rw [ivs_len]; simp,.inr ⟨w.heap.size,l.length,_,rfl,Nat.le_refl _,heap_new w _,Nat.le_refl _,by unfold maxLen; omega,by rw [List.size_toArray,ivs_len]; omega,by show (ivs .i64 l).take (l.length * 1) = _; rw [List.take_of_length_le (by rw [ivs_len]; omega)]⟩⟩,trivial⟩
theorem Own.step {B : Nat} {w w' : World} {v : Value} {l : List Int} (h : Own B w v l) (hb : Below w.heap.size w w') : Own B w' v l:=⟨Uc.own_below h.1 hb,h.2⟩
theorem Own.sn {B : Nat} {w : World} {v : Value} {l : List Int} (h : Own B w v l) : Sn .i64 w v l:=(own_sl h.1).sn h.2
theorem Own.base {B B' : Nat} {w : World} {v : Value} {l : List Int} (h : Own B w v l) (hB : B' <= B) : Own B' w v l:=⟨Od.own_base h.1 hB,h.2⟩
theorem app_row {ops : Array Oper} {rest : List Oper} {o : Oper} {a : Act} {Q : Exit -> Act -> World -> Prop} (hgd : o.guard = none) (s x : Operand)
 (ho : o.op = .call { callee:=.builtin .append,args:=#[s,x],argTypes:=#[33,33] }) (W : World) (B : Nat) (v u : Value) (xs zs : List Int) (hs : a.eval s = v) (hx : a.eval x = u)
 (hown : Own B W v xs) (hz : Sn .i64 W u zs) (hn : xs.length + zs.length <= 1000000000) (hB : B <= W.heap.size)
 (h : ∀ v' w',Own B w' v' (xs ++ zs) -> Below B W w' -> wpList Tryz.prog ops Q rest (a.put o.dst v') w') :
 wpList Tryz.prog ops Q (o :: rest) a W:=by
 obtain ⟨ad,cap,rfl,hz⟩:=hz
 exact app_all hgd s x ho W B v ad cap xs zs hs hx hown.1 hown.2 hz hn hB (fun v' w' h1 h2 h3 _=>h v' w' ⟨h1,h2⟩ h3)
theorem rapart_any {g cap : Nat} : ∀ (n : Nat) (r : Int),okF n r = true -> 3 * 2 ^ n <= 500000000 -> ∀ (w : World),RR3 w g allP ->
 Calls Tryz.prog 178 #[.slice (some ⟨g,0,none⟩) allP.length cap,.int .i64 r] w fun e w'=>∃ v',e = .returned v' ∧ Own w.heap.size w' v' (apF n r) ∧ Below w.heap.size w w'
 | 0,_,h,_,_,_=>by cases h
 | n + 1,r,hok,hn6,w,hR=>by
  rw [Nat.pow_succ] at hn6;replace hn6 : 3 * 2 ^ n <= 500000000:=by omega
  have ih:=fun (r : Int) (h : okF n r = true)=>rapart_any (g:=g) (cap:=cap) n r h hn6
  have HIH:=hid ih
  have HR:=hid hR
  have H0:=hid (Ok.start w);have hll : allP.length <= 1000:=by decide
  have hlenA : ∀ x,(apF n x).length <= 3 * 2 ^ n:=apF_len n
  simp only [okF] at hok
  by_cases hs : sylB r = true
  ·obtain ⟨hs1,hs2⟩:=syl_bd hs
   have HE : Hid (apF (n + 1) r = sylL r):=by show _ = _; simp only [apF]; rw [if_pos hs]
   have HSp:=hid (fun w=>rparts_yes r w hs1 hs2)
   have HSL : Hid (sylL r = if talI r = 0 then [ledI r,vowI r] else [ledI r,vowI r,talI r]):=rfl
   clear ih hR hok hs hs1 hs2 hlenA;generalize ledI r = a at *;generalize vowI r = c at *;generalize talI r = t at *;generalize allP.length = al at *;by_cases ht : t = 0
   ·have HS0 : Hid (apF (n + 1) r = [a,c]):=by show _ = _; rw [HE.out,HSL.out,if_pos ht]
    clear HSL HE;subst ht;go_enter Tryz.func178,Tryz.ntmps178
    go_wp2_with (go_at_call 248; refine (HSp.out _).mono ?_; rintro e w1 ⟨rfl,hb1⟩; have HO1:=hid (H0.out.step hb1); clear hb1)
    go_ret;refine ⟨_,rfl,?_,?_⟩
    ·rw [HS0.out];exact (own_lit (w1.alloc (.cells #[.int .i64 a,.int .i64 c,.int .i64 0] 274)) [a,c] (by simp) (w1.heap.size + 1) (by simp) 2 rfl).base (by have:=HO1.out.2; omega)
    ·exact ((HO1.out.alloc).alloc).1
   ·have HS0 : Hid (apF (n + 1) r = [a,c,t]):=by show _ = _; rw [HE.out,HSL.out,if_neg ht]
    have htz : (t == 0) = false:=by simpa using ht
    clear HSL HE;go_enter Tryz.func178,Tryz.ntmps178
    go_wp2_with (go_at_call 248; refine (HSp.out _).mono ?_; rintro e w1 ⟨rfl,hb1⟩; have HO1:=hid (H0.out.step hb1); clear hb1)
    go_ret;refine ⟨_,rfl,?_,?_⟩
    ·rw [HS0.out];exact (own_lit (w1.alloc (.cells #[.int .i64 a,.int .i64 c,.int .i64 t] 274)) [a,c,t] (by simp) (w1.heap.size + 1) (by simp) 3 rfl).base (by have:=HO1.out.2; omega)
    ·exact ((HO1.out.alloc).alloc).1
  ·have HSp:=hid (fun w=>rparts_no r w (by
    have hn : ¬ (44032 <= r ∧ r < 44032 + 11172):=fun h=>hs (decide_eq_true h)
    omega))
   rw [if_neg hs] at hok;have HE : Hid (apF (n + 1) r = if (dnP r).2.2 = 1 then apF n (dnP r).1 else if (dnP r).2.2 = 2 then apF n (dnP r).1 ++ apF n (dnP r).2.1 else [r]):=by show _ = _; simp only [apF]; rw [if_neg hs]
   have hd3 : 0 <= (dnP r).2.2 ∧ (dnP r).2.2 <= 2:=by
    have:=d_bd r
    rw [<- (dn_d r).2.2]; exact this.2.2
   obtain ⟨y1,y2,y3,hy⟩ : ∃ y1 y2 y3,dnP r = (y1,y2,y3):=⟨_,_,_,rfl⟩
   have HDn:=hid (fun (W : World) (h : RR3 W g allP)=>rdown_any (cap:=cap) h hll r (y1:=y1) (y2:=y2) (y3:=y3) hy)
   have HRs:=hid (fun (W : World) (h : Below w.heap.size w W)=>hR.step h)
   rw [hy] at hok HE hd3
   simp only at hok HE hd3
   have hl1:=hlenA y1
   have hl2:=hlenA y2
   clear ih hR hs hy hlenA;by_cases h0 : y3 = 0
   ·have HR0 : Hid (apF (n + 1) r = [r]):=by show _ = _; rw [HE.out,if_neg (by omega),if_neg (by omega)]
    subst h0;clear hok HE hd3 hl1 hl2;generalize allP.length = al at *;go_enter Tryz.func178,Tryz.ntmps178
    go_wp2_with (first | (go_at_call 248; refine (HSp.out _).mono ?_; rintro e w1 ⟨rfl,hb1⟩; have HO1:=hid ((H0.out.step hb1).alloc (o:=.cells #[.int .i64 0,.int .i64 0,.int .i64 0] 274)); clear hb1) | (go_at_call 249; refine (HDn.out _ (HRs.out _ HO1.out.1)).mono ?_; rintro e w2 ⟨rfl,hb2⟩; have HO2:=hid (HO1.out.step hb2); clear hb2))
    go_ret;refine ⟨_,rfl,?_,?_⟩
    ·rw [HR0.out];exact (own_lit (w2.alloc (.cells #[.int .i64 y1,.int .i64 y2] 277)) [r] (by simp) (w2.heap.size + 1) (by simp) 1 rfl).base (by have:=HO2.out.2; omega)
    ·exact ((HO2.out.alloc).alloc).1
   ·have h0' : (y3 == 0) = false:=by simpa using h0
    by_cases h1 : y3 = 1
    ·subst h1;have HR1 : Hid (apF (n + 1) r = apF n y1):=by show _ = _; rw [HE.out,if_pos rfl]
     rw [if_pos rfl] at hok;clear HE hd3 hl1 hl2;have HI:=hid (fun (W : World) (h : Below w.heap.size w W)=>HIH.out y1 hok W (HRs.out _ h))
     clear hok HIH;generalize allP.length = al at *;go_enter Tryz.func178,Tryz.ntmps178
     go_wp2_with (first | (go_at_call 248; refine (HSp.out _).mono ?_; rintro e w1 ⟨rfl,hb1⟩; have HO1:=hid ((H0.out.step hb1).alloc (o:=.cells #[.int .i64 0,.int .i64 0,.int .i64 0] 274)); clear hb1) | (go_at_call 249; refine (HDn.out _ (HRs.out _ HO1.out.1)).mono ?_; rintro e w2 ⟨rfl,hb2⟩; have HO2:=hid ((HO1.out.step hb2).alloc (o:=.cells #[.int .i64 y1,.int .i64 y2] 277)); clear hb2) | (go_at_call 178; refine (HI.out _ HO2.out.1).mono ?_; rintro e w3 ⟨v3,rfl,h3,h4⟩; have HO3:=hid (And.intro (h3.base HO2.out.2) (HO2.out.step h4)); clear h3 h4))
     go_ret;exact ⟨_,rfl,by rw [HR1.out]; exact HO3.out.1,HO3.out.2.1⟩
    ·have h2 : y3 = 2:=by omega
     subst h2;have HR2 : Hid (apF (n + 1) r = apF n y1 ++ apF n y2):=by show _ = _; rw [HE.out,if_neg (by decide),if_pos rfl]
     rw [if_neg (by decide),if_pos rfl,Bool.and_eq_true] at hok;have HI1:=hid (fun (W : World) (h : Below w.heap.size w W)=>HIH.out y1 hok.1 W (HRs.out _ h))
     have HI2:=hid (fun (W : World) (h : Below w.heap.size w W)=>HIH.out y2 hok.2 W (HRs.out _ h))
     have hsum : (apF n y1).length + (apF n y2).length <= 1000000000:=by
      have e : 3 * 2 ^ n <= 500000000:=hn6
      omega
     clear hok HIH HE hd3 hl1 hl2 h0 h0' h1;generalize allP.length = al at *;go_enter Tryz.func178,Tryz.ntmps178
     go_wp2_with (first | (go_at_call 248; refine (HSp.out _).mono ?_; rintro e w1 ⟨rfl,hb1⟩; have HO1:=hid ((H0.out.step hb1).alloc (o:=.cells #[.int .i64 0,.int .i64 0,.int .i64 0] 274)); clear hb1) | (go_at_call 249; refine (HDn.out _ (HRs.out _ HO1.out.1)).mono ?_; rintro e w2 ⟨rfl,hb2⟩; have HO2:=hid ((HO1.out.step hb2).alloc (o:=.cells #[.int .i64 y1,.int .i64 y2] 277)); have hc2 : Hid ((w2.alloc (.cells #[.int .i64 y1,.int .i64 y2] 277)).cell? ⟨w2.heap.size,1,none⟩ = some (.int .i64 y2) ∧ w2.heap.size < (w2.alloc (.cells #[.int .i64 y1,.int .i64 y2] 277)).heap.size):=⟨by unfold World.cell?; rw [heap_new]; rfl,by simp⟩; clear hb2))
     refine (HI1.out _ HO2.out.1).mono ?_;rintro e w3 ⟨v3,rfl,h3,h4⟩;have HO3:=hid (And.intro (h3.base HO2.out.2) (HO2.out.step h4));have hc3:=(h4.cell (p:=⟨w2.heap.size,1,none⟩) hc2.out.2).trans hc2.out.1
     clear h3 h4 hc2;go_wp2_with fail;refine (HI2.out _ HO3.out.2.1).mono ?_;rintro e w4 ⟨v4,rfl,h3,h4⟩;have HO4:=hid (And.intro (HO3.out.1.step h4) (And.intro h3.sn (HO3.out.2.step h4)))
     clear h3 h4 hc3;go_wp2_with (at_builtin; refine app_row rfl (.tmp 47) (.tmp 51) rfl w4 w.heap.size v3 v4 _ _ rfl rfl HO4.out.1 HO4.out.2.1 hsum HO4.out.2.2.2 (fun v5 w5 h3 h4=>?_); have HO5:=hid (And.intro h3 (ok_below h4 HO4.out.2.2)); clear h3 h4)
     go_ret;exact ⟨_,rfl,by rw [HR2.out]; exact HO5.out.1,HO5.out.2.1⟩
theorem rnfd_any {w : World} {v : Value} {zs : List Int} (hS : Sn .i64 w v zs) (hn : zs.length <= 10000) :
 Calls Tryz.prog 110 #[v] w fun e w'=>∃ v',e = .returned v' ∧ Sn .i64 w' v' (nfdP clsP zs) ∧ Below w.heap.size w w':=by
 obtain ⟨ad,cap,rfl,hS⟩:=hS
 have HS:=hid hS
 have H0:=hid (Ok.start w);have HA:=hid (fun (W : World) (r : Int) (g cap : Nat) (h : RR3 W g allP)=>rapart_any (cap:=cap) 5 r (ok5 r) (by decide) W h)
 have HAll:=hid (rall_any w);have HSo:=hid (fun (W : World) (v : Value) (l : List Int) (h : Sn .i64 W v l) (hn : l.length <= 1000000)=>rsort_any h hn)
 generalize hlen : zs.length = len at hn
 have HLn:=hid hlen
 clear hS hlen;go_enter Tryz.func110,Tryz.ntmps110
 go_wp2_with (go_at_call 174; refine HAll.out.mono ?_; rintro e w1 ⟨va,rfl,h1,h2⟩; obtain ⟨g,gcap,rfl,hR⟩:=rr3_of_own h1 (by decide); have H1:=hid (And.intro hR (H0.out.step h2)); clear h1 h2 hR)
 have HO : Hid (Own w1.heap.size (w1.alloc (.cells #[] 3)) (.slice (some ⟨w1.heap.size,0,none⟩) 0 0) []):=⟨World.ownsRow_made w1 #[] 0 (Nat.le_refl _) (by unfold maxLen; omega) rfl,trivial⟩
 have hok:=hid ((Ok.start w1).alloc (o:=.cells #[] 3))
 go_loopg [4,5] len (fun gg vo vi wr=>∃ k : Nat,vi = .int .i64 k ∧ k <= len ∧ gg = len - k ∧ Hid (Own w1.heap.size wr vo ((zs.take k).flatMap apP) ∧ Ok w1.heap.size w1 wr))
 case atStart=>exact ⟨0,rfl,Nat.zero_le _,rfl,HO.out,hok.out⟩
 case round =>
  obtain ⟨k,rfl,hk,hg,H⟩:=hrel
  have HG:=hid hg
  clear hg HO hok;by_cases hlt : k < len
  ·have hlx : k < zs.length:=by rw [HLn.out]; exact hlt
   obtain ⟨bb,off,e0,hb,c1⟩:=HS.out.at_ k hlx
   have e0':=Option.some.inj e0
   subst e0';have d1:=(((H1.out.2.1.trans (H.out.2.1.mono H1.out.2.1.size))).cell (p:=⟨bb,off + k,none⟩) hb).trans c1
   have HE : Hid ((zs.take (k + 1)).flatMap apP = (zs.take k).flatMap apP ++ apF 5 zs[k]):=by show _ = _;rw [List.take_succ_eq_append_getElem hlx,List.flatMap_append,List.flatMap_cons,List.flatMap_nil,List.append_nil,ap5]
   have hle : ((zs.take k).flatMap apP).length + (apF 5 zs[k]).length <= 1000000000:=by
    have h1:=flat_len (zs.take k)
    rw [List.length_take] at h1;have h2:=apF_len 5 zs[k]
    omega
   have HA1:=hid (HA.out wr zs[k] g gcap (H1.out.1.step H.out.2.1));clear c1;generalize zs[k] = x at *;have z1 : (k : Int) < (len : Int):=by omega
   go_wp2_with fail;refine HA1.out.mono ?_;rintro e w2 ⟨v2,rfl,h3,h4⟩;have H2:=hid (And.intro (H.out.1.step h4) (And.intro h3.sn (H.out.2.step h4)));clear h3 h4 d1
   go_wp2_with (at_builtin; refine app_row rfl (.tmp 14) (.tmp 20) rfl w2 w1.heap.size _ v2 _ _ rfl rfl H2.out.1 H2.out.2.1 hle H2.out.2.2.2 (fun v5 w5 h3 h4=>?_); have H5 : Hid (Own w1.heap.size w5 v5 ((zs.take (k + 1)).flatMap apP) ∧ Ok w1.heap.size w1 w5):=⟨by rw [HE.out]; exact h3,ok_below h4 H2.out.2.2⟩; clear h3 h4)
   go_roundg (len - (k + 1))
   case measure=>rw [HG.out]; omega
   case rel=>exact ⟨k + 1,by go_num,by omega,rfl,H5.out⟩
  ·have e : k = len:=by omega
   subst e;have HW : Hid (Own w1.heap.size wr u4 (zs.flatMap apP) ∧ Ok w1.heap.size w1 wr):=by
    have:=H.out
    rw [<- HLn.out,List.take_length] at this;exact this
   have hfl : (zs.flatMap apP).length <= 1000000:=Nat.le_trans (flat_len zs) (by rw [HLn.out]; omega)
   have HSt:=hid (HSo.out wr u4 (zs.flatMap apP) HW.out.1.sn hfl);go_wp2_with fail;refine HSt.out.mono ?_;rintro e w2 ⟨v2,rfl,h3,h4⟩;have H5:=hid (And.intro h3 (HW.out.2.step h4))
   clear h3 h4;go_wp2_with fail;go_ret;exact ⟨_,rfl,H5.out.1,H1.out.2.1.trans (H5.out.2.1.mono H1.out.2.1.size)⟩
end Nf
end Go.Proofs.YtkhipgcgcbhjoaaGreat
