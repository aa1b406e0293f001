import Derived.Test.YtkhipgcgcbhjoaaGreatLa26
set_option maxRecDepth 100000
set_option maxHeartbeats 8000000
namespace Go.Proofs.YtkhipgcgcbhjoaaGreat
namespace Nf
open Go.RowKit Od Pr Ha
theorem rmakes_any {w : World} {g cap : Nat} (h : RR3 w g allP) {a b : Int} (ha : I32 a) (hb : I32 b) :
 Calls Tryz.prog 177 #[.slice (some ⟨g,0,none⟩) allP.length cap,.int .i64 a,.int .i64 b] w fun e w'=>e = .returned (.int .i64 (rmk a b)) ∧ Below w.heap.size w w':=by
 have hll : allP.length <= 1000:=by decide
 have HJ:=hid (rjoin_any a b w ha.1 ha.2 hb.1 hb.2);have HU:=hid (fun (W : World) (hb : Below w.heap.size w W)=>rup_any (cap:=cap) (h.step hb) hll a b)
 have HE : Hid (rmk a b = if 0 <= rjI a b then rjI a b else rupP allP a b allP):=rfl
 clear h ha hb;generalize rjI a b = j at *;generalize rupP allP a b allP = u at *;generalize allP.length = al at *;by_cases hj : 0 <= j
 ·have HR : Hid (rmk a b = j):=by show _ = _; rw [HE.out,if_pos hj]
  go_enter Tryz.func177,Tryz.ntmps177
  go_wp2_with (go_at_call 246; refine HJ.out.mono ?_; rintro e w1 ⟨rfl,hb1⟩)
  go_ret;exact ⟨ret_int HR.out.symm,hb1⟩
 ·have HR : Hid (rmk a b = u):=by show _ = _; rw [HE.out,if_neg hj]
  have hj2 : decide (0 <= j) = false:=decide_eq_false hj
  go_enter Tryz.func177,Tryz.ntmps177
  go_wp2_with (first | (go_at_call 246; refine HJ.out.mono ?_; rintro e w1 ⟨rfl,hb1⟩; have HB1:=hid hb1; clear hb1) | (go_at_call 247; refine (HU.out w1 HB1.out).mono ?_; rintro e w2 ⟨rfl,hb2⟩))
  go_ret;exact ⟨ret_int HR.out.symm,HB1.out.trans (hb2.mono HB1.out.size)⟩
theorem blq_take {w : World} {g cap : Nat} {L : List Int} {T : List Value} (h : Blq w g L T) (hc : L.length <= cap) (i : Nat) (hi : i <= L.length) : Sn .i64 w (.slice (some ⟨g,0,none⟩) i cap) (L.take i):=by
 have hl : (L.take i).length = i:=by rw [List.length_take]; omega
 refine ⟨_,cap,by rw [hl],by omega,fun e=>(by cases e),fun j hj=>⟨g,0,rfl,h.lt,?_⟩⟩
 rw [Nat.zero_add,List.getElem_take];exact h.cell _ _ (List.getElem?_eq_getElem (by omega))
theorem blq_drop {w : World} {g : Nat} {L : List Int} {T : List Value} (h : Blq w g L T) (i n : Nat) (hn : n = L.length - i) (hi : i <= L.length) (cp : Nat) (hcp : n <= cp) : Sn .i64 w (.slice (some ⟨g,i,none⟩) n cp) (L.drop i):=by
 have hl : (L.drop i).length = n:=by rw [List.length_drop,hn]
 refine ⟨_,cp,by rw [hl],by omega,fun e=>(by cases e),fun j hj=>⟨g,i,rfl,h.lt,?_⟩⟩
 rw [List.getElem_drop];exact h.cell _ _ (List.getElem?_eq_getElem (by omega))
theorem sn_nil (w : World) (ad : Addr) (cp : Nat) : Sn .i64 w (.slice (some ad) 0 cp) []:=⟨ad,cp,rfl,Nat.zero_le _,fun e=>(by cases e),fun j hj=>(by simp at hj)⟩
theorem blq_slp {w : World} {g cap : Nat} {L : List Int} {T : List Value} (h : Blq w g L T) (hc : L.length <= cap) : SlP .i64 w (some ⟨g,0,none⟩) cap L:=⟨hc,fun e=>(by cases e),fun j hj=>⟨g,0,rfl,h.lt,by rw [Nat.zero_add]; exact h.cell _ _ (List.getElem?_eq_getElem hj)⟩⟩
structure RC (w1 : World) (s : CS) (R : List Int) (n : Nat) (v : Value) (W : World) : Prop where
 ok : Ok w1.heap.size w1 W
 st : okC s
 i32 : ∀ y ∈ outC s ++ R,I32 y
 len : (outC s ++ R).length = n
 at_ : ∃ g cap T,v = .slice (some ⟨g,0,none⟩) n cap ∧ n <= cap ∧ w1.heap.size <= g ∧ Blq W g (outC s ++ R) T
theorem RC.step {w1 : World} {s : CS} {R : List Int} {n : Nat} {v : Value} {W W' : World} (h : RC w1 s R n v W) (hb : Below W.heap.size W W') : RC w1 s R n v W':=by
 obtain ⟨g,cap,T,e,h1,h2,h3⟩:=h.at_
 exact ⟨h.ok.step hb,h.st,h.i32,h.len,g,cap,T,e,h1,h2,h3.step hb⟩
theorem RC.next {w1 : World} {s : CS} {r : Int} {R : List Int} {n : Nat} {v : Value} {W : World} (h : RC w1 s (r :: R) n v W) (ht : tryC clsP s r = false) : RC w1 (stepC clsP s r) R n v W:=by
 have e : outC (stepC clsP s r) ++ R = outC s ++ r :: R:=by rw [outC_no clsP s r ht]; simp
 obtain ⟨g,cap,T,e1,h1,h2,h3⟩:=h.at_
 refine ⟨h.ok,okC_step r h.st,?_,?_,g,cap,T,e1,h1,h2,?_⟩
 ·rw [e]; exact h.i32
 ·rw [e]; exact h.len
 ·rw [e]; exact h3
theorem RC.join {w1 : World} {A M : List Int} {x r : Int} {R : List Int} {n : Nat} {v : Value} {W W5 W7 : World} (h : RC w1 (A,some x,M) (r :: R) n v W) (ht : tryC clsP (A,some x,M) r = true) (hb : Below W.heap.size W W5) (h7 : Below W5.heap.size W5 W7) {g7 cap7 m an : Nat} {T7 : List Value} (hm : m + 1 = n) (hc : m <= cap7) (hg : W5.heap.size <= g7) (hB : Blq W7 g7 ([] ++ (A ++ [x] ++ M) ++ R) T7) (han : A.length = an) (z : Int) (hz : mkI x r = z) :
 RC w1 (stepC clsP (A,some x,M) r) R m (.slice (some ⟨g7,0,none⟩) m cap7) (W7.setCell ⟨g7,an,none⟩ (.int .i64 z)):=by
 subst hz;subst han;obtain ⟨y,e,hmk⟩:=try_some ht
 simp only [Option.some.injEq] at e
 subst e;rw [step_join ht];have e2 : ([] ++ (A ++ [x] ++ M) ++ R).set A.length (mkI x r) = outC (A,some (mkI x r),M) ++ R:=by simp [outC]
 have hl:=h.len
 have hb7 : Below w1.heap.size w1 W7:=(h.ok.1.trans (hb.mono h.ok.2)).trans (h7.mono (Nat.le_trans h.ok.2 hb.size))
 refine ⟨⟨hb7.setCell (p:=⟨g7,A.length,none⟩) (Nat.le_trans (Nat.le_trans h.ok.2 hb.size) hg) _,by have:=hb7.size; simpa [World.setCell] using this⟩,?_,?_,?_,g7,cap7,T7,rfl,hc,Nat.le_trans (Nat.le_trans h.ok.2 hb.size) hg,?_⟩
 ·have:=okC_step r h.st
  rwa [step_join ht] at this
 ·intro y hy
  by_cases e : y = mkI x r
  ·rw [e]; exact mk_I32 x r hmk
  ·refine h.i32 y ?_
   simp [outC] at hy ⊢
   rcases hy with hy | hy | hy | hy
   ·exact .inl hy
   ·exact (e hy).elim
   ·exact .inr (.inr (.inl hy))
   ·exact .inr (.inr (.inr (.inr hy)))
 ·simp [outC] at hl ⊢
  omega
 ·rw [<- e2];exact hB.set A.length (mkI x r) (by simp)
def Sb (w0 w : World) (v : Value) (l : List Int) : Prop:=∃ g cap T,v = .slice (some ⟨g,0,none⟩) l.length cap ∧ l.length <= cap ∧ w0.heap.size <= g ∧ Blq w g l T
theorem Sb.sn {w0 w : World} {v : Value} {l : List Int} (h : Sb w0 w v l) : Sn .i64 w v l:=by
 obtain ⟨g,cap,T,rfl,hc,_,hB⟩:=h
 exact hB.sl cap hc
theorem Sb.old {w0 w1 w : World} {v : Value} {l : List Int} (h : Sb w1 w v l) (hs : w0.heap.size <= w1.heap.size) : Sb w0 w v l:=by
 obtain ⟨g,cap,T,e,hc,hg,hB⟩:=h
 exact ⟨g,cap,T,e,hc,Nat.le_trans hs hg,hB⟩
theorem rcomposeB_any {w : World} {v : Value} {zs : List Int} (hS : Sn .i64 w v zs) (hz : ∀ z ∈ zs,I32 z) (hn : zs.length <= 1000000) :
 Calls Tryz.prog 109 #[v] w fun e w'=>∃ v',e = .returned v' ∧ Sb w w' v' (compP clsP zs) ∧ Below w.heap.size w w':=by
 have HS:=hid hS
 obtain ⟨ad0,cap0,rfl,hS⟩:=hS
 have HZ:=hid hz
 have H0:=hid (Ok.start w);have HAll:=hid (rall_any w);have HMk:=hid (fun (W : World) (g cap : Nat) (h : RR3 W g allP) (a b : Int) (ha : I32 a) (hb : I32 b)=>rmakes_any (cap:=cap) h ha hb)
 generalize hlen : zs.length = len at hn
 have HLn:=hid hlen
 clear hS hlen hz;rw [HLn.out] at HS;go_enter Tryz.func109,Tryz.ntmps109
 go_wp2_with (first | (go_at_call 174; refine HAll.out.mono ?_; rintro e w1 ⟨va,rfl,h1,h2⟩; obtain ⟨g,gcap,rfl,hR⟩:=rr3_of_own h1 (by decide); have H1:=hid (And.intro hR (H0.out.step h2)); clear h1 h2 hR; have HO : Hid (Own w1.heap.size (w1.alloc (.cells #[] 3)) (.slice (some ⟨w1.heap.size,0,none⟩) 0 0) []):=⟨World.ownsRow_made w1 #[] 0 (Nat.le_refl _) (by unfold maxLen; omega) rfl,trivial⟩; have hok:=hid ((Ok.start w1).alloc (o:=.cells #[] 3))) | (at_builtin; refine app_row rfl (.tmp 11) (.tmp 12) rfl (w1.alloc (.cells #[] 3)) w1.heap.size (.slice (some ⟨w1.heap.size,0,none⟩) 0 0) (.slice (some ad0) len cap0) [] zs rfl rfl HO.out ((HS.out.step H1.out.2.1).step ((Below.refl _ _).alloc (Nat.le_refl _) _)) (by have:=HLn.out; simp; omega) hok.out.2 (fun v' w2 h3 h4=>?_)))
 have HST : Hid (RC w1 ([],none,[]) zs len v' w2):=by
  obtain ⟨g2,cap2,T2,e2,hc2,hg2,hB2⟩:=own_blq h3.1 h3.2
  exact ⟨ok_below h4 hok.out,⟨fun m hm=>by simp at hm,rfl⟩,HZ.out,HLn.out,g2,cap2,T2,by rw [e2]; simp [HLn.out],by have:=HLn.out; have h5:=hc2; simp at h5; omega,hg2,hB2⟩
 clear h3 h4 HO hok HS;generalize allP.length = al at *;go_loopg [4,5] len (fun gg vo vi wr=>∃ k : Nat,k <= len ∧ gg = len - k ∧ ∃ i n : Nat,vi = .int .i64 (i : Int) ∧ i <= k ∧ n = i + (len - k) ∧ Hid (∃ s : CS,s = (zs.take k).foldl (stepC clsP) ([],none,[]) ∧ (outC s).length = i ∧ RC w1 s (zs.drop k) n vo wr))
 case atStart=>exact ⟨0,Nat.zero_le _,rfl,0,len,rfl,Nat.le_refl _,by omega,([],none,[]),by rw [List.take_zero]; rfl,rfl,by rw [List.drop_zero]; exact HST.out⟩
 case round =>
  obtain ⟨k,hk,hg,i,n,rfl,hik,hn2,H⟩:=hrel
  obtain ⟨s,hs,hi,hRC⟩:=H.out
  have HG:=hid hg
  clear hg HST H;by_cases hlt : k < len
  ·have hlx : k < zs.length:=by rw [HLn.out]; exact hlt
   have hdr : zs.drop k = zs[k] :: zs.drop (k + 1):=List.drop_eq_getElem_cons hlx
   have hfold : (zs.take (k + 1)).foldl (stepC clsP) ([],none,[]) = stepC clsP s zs[k]:=by rw [List.take_succ_eq_append_getElem hlx,List.foldl_append,<- hs]; rfl
   rw [hdr] at hRC;have HFo:=hid hfold
   have HR1 : Hid (zs.drop (k + 1) = zs.drop (k + 1)):=rfl
   generalize zs[k] = r at *;generalize hR : zs.drop (k + 1) = R at *;have HRd:=hid hR
   clear hs hdr hfold hR HR1;have hin : i < n:=by omega
   have hnm : n <= 1000000:=by omega
   obtain ⟨gn,cap,T,rfl,hcap,hgl,hB⟩:=hRC.at_
   have hLs:=hRC.len
   have HSp:=hid (fun (W : World) (h : Below wr.heap.size wr W)=>blq_slp (hB.step h) (cap:=cap) (by omega))
   have HStart:=hid (rstart_any hLs (HSp.out wr (Below.refl _ _)) hnm i (by omega));have e1:=start_at s hRC.st (r :: R)
   rw [hi] at e1;rw [e1] at HStart;have HRC:=hid hRC
   have HI:=hid hi
   have hI32r : Hid (I32 r):=hRC.i32 r (by simp)
   have HBl:=hid (fun (W : World) (h : Below wr.heap.size wr W)=>rblocked_any hLs (HSp.out W h) hnm i hin)
   have z1 : (i : Int) < (n : Int):=by omega
   have hi6 : i <= 1000000:=by omega
   have HN2 : Hid (n = i + (len - k) ∧ i <= k ∧ k < len ∧ w1.heap.size <= gn):=⟨hn2,hik,hlt,hgl⟩
   clear e1 hn2 hik hk hgl hlx hlt;obtain ⟨A,o,M⟩:=s
   cases o with
   | none =>
    have e2 : stI (A,none,M) = -1:=rfl
    rw [e2] at HStart;have HT : Hid (tryC clsP (A,none,M) r = false):=rfl
    clear e2 hRC hB hLs hi HBl;go_wp2_with fail;refine HStart.out.mono ?_;rintro e w3 ⟨rfl,hb3⟩;have HN:=hid ((HRC.out.step hb3).next HT.out);clear hb3;go_wp2_with fail
    go_roundg (len - (k + 1))
    case measure=>rw [HG.out]; have:=HN2.out; omega
    case rel=>exact ⟨k + 1,by have:=HN2.out; omega,rfl,i + 1,n,by go_num,by have:=HN2.out; omega,by have:=HN2.out; omega,_,HFo.out.symm,by rw [outC_no clsP _ r HT.out,List.length_append,HI.out]; rfl,by rw [HRd.out]; exact HN.out⟩
   | some x =>
    have e2 : stI (A,some x,M) = (A.length : Int):=rfl
    rw [e2] at HStart;have e3:=blocked_at A M x r hRC.st R
    rw [hi] at e3;have hAi : A.length < i:=by rw [<- hi]; simp [outC]
    have hcx : Hid (∀ (W : World),Below wr.heap.size wr W -> W.cell? ⟨gn,A.length,none⟩ = some (.int .i64 x) ∧ W.cell? ⟨gn,i,none⟩ = some (.int .i64 r)):=by
     refine hid (fun W h=>⟨(hB.step h).cell _ _ ?_,(hB.step h).cell _ _ ?_⟩)
     ·simp [outC]
     ·rw [<- hi]; simp
    have hI32x : Hid (I32 x):=hRC.i32 x (by simp [outC])
    have HBq:=hid hB
    have HLs:=hid hLs
    have HTr : Hid (tryC clsP (A,some x,M) r = (!(decide (0 < gr clsP M) && decide (clsP r <= gr clsP M)) && mkB x r)):=rfl
    have HMe:=hid (rmk_eq x r);have HMp : Hid (mkB x r = true -> 0 <= mkI x r):=fun h=>mk_pos h
    have HMi : Hid (mkB x r = true -> I32 (mkI x r)):=fun h=>mk_I32 x r h
    generalize hbl : (decide (0 < gr clsP M) && decide (clsP r <= gr clsP M)) = bl at *;rw [e3] at HBl;clear e2 e3 hRC hB hLs hi hbl;generalize hAn : A.length = an at *
    have HAn:=hid hAn
    clear hAn;have z2 : (0 : Int) <= (an : Int):=by omega
    have z3 : (an : Int) < (n : Int):=by omega
    have HRR : Hid (∀ (W : World),Below wr.heap.size wr W -> RR3 W g allP):=fun W h=>H1.out.1.step (HRC.out.ok.1.trans (h.mono HRC.out.ok.2))
    cases bl with
    | true =>
     have HT : Hid (tryC clsP (A,some x,M) r = false):=by show _ = _; rw [HTr.out]; rfl
     clear HTr HMe HMp HMi;go_wp2_with fail;refine HStart.out.mono ?_;rintro e w3 ⟨rfl,hb3⟩;have HB3:=hid hb3
     clear hb3;go_wp2_with fail;refine (HBl.out w3 HB3.out).mono ?_;rintro e w4 ⟨rfl,hb4⟩;have HN:=hid (((HRC.out.step HB3.out).step hb4).next HT.out);clear hb4
     go_wp2_with fail;go_roundg (len - (k + 1))
     case measure=>rw [HG.out]; have:=HN2.out; omega
     case rel=>exact ⟨k + 1,by have:=HN2.out; omega,rfl,i + 1,n,by go_num,by have:=HN2.out; omega,by have:=HN2.out; omega,_,HFo.out.symm,by rw [outC_no clsP _ r HT.out,List.length_append,HI.out]; rfl,by rw [HRd.out]; exact HN.out⟩
    | false =>
     go_wp2_with fail;refine HStart.out.mono ?_;rintro e w3 ⟨rfl,hb3⟩;have HB3:=hid hb3
     clear hb3;go_wp2_with fail;refine (HBl.out w3 HB3.out).mono ?_;rintro e w4 ⟨rfl,hb4⟩;have HB4:=hid (HB3.out.trans (hb4.mono HB3.out.size));clear hb4;have HB4d : Hid (Below wr.heap.size wr w4.drew):=HB4.out.drew
     have HMk1:=hid (HMk.out w4.drew g gcap (HRR.out _ HB4d.out) x r hI32x.out hI32r.out);rw [HMe.out] at HMk1;by_cases hm : mkB x r = true
     ·rw [if_pos hm] at HMk1;have HT : Hid (tryC clsP (A,some x,M) r = true):=by show _ = _; rw [HTr.out,hm]; rfl
      have hzp:=HMp.out hm
      have HZi:=hid (HMi.out hm);have HJ:=hid (step_join HT.out);clear HTr HMe HMp HMi hm;have HZe : Hid (∃ z,mkI x r = z):=⟨_,rfl⟩
      generalize hze : mkI x r = z at *;have HZ2:=hid hze
      clear hze HZe;have hTk : Hid (∀ (W : World),Below wr.heap.size wr W -> Sn .i64 W (.slice (some ⟨gn,0,none⟩) i cap) (A ++ [x] ++ M)):=by
       refine hid (fun W h=>?_)
       have:=blq_take ((HBq.out).step h) (cap:=cap) (by rw [HLs.out]; exact hcap) i (by rw [HLs.out]; omega)
       rwa [show (outC (A,some x,M) ++ r :: R).take i = A ++ [x] ++ M by rw [<- HI.out,List.take_left]; rfl] at this
      have hDp : Hid (∀ (W : World) (ad : Addr) (m cp : Nat),Below wr.heap.size wr W -> m + i + 1 = n -> m <= cp -> (ad = ⟨gn,i + 1,none⟩ ∨ m = 0) -> Sn .i64 W (.slice (some ad) m cp) R):=by
       refine hid (fun W ad m cp h hm hcp had=>?_)
       have e5 : (outC (A,some x,M) ++ r :: R).drop (i + 1) = R:=by rw [<- HI.out]; simp [List.drop_append]
       rcases had with rfl | rfl
       ·have:=blq_drop ((HBq.out).step h) (i + 1) m (by rw [HLs.out]; omega) (by rw [HLs.out]; omega) cp hcp
        rwa [e5] at this
       ·have hR0 : R = []:=by
         have h1:=HLs.out
         have h2:=HI.out
         rw [List.length_append,h2,List.length_cons] at h1;exact List.eq_nil_of_length_eq_zero (by omega)
        rw [hR0]; exact sn_nil W ad cp
      have q1 : (i : Int) <= (cap : Int):=by omega
      have q2 : (n : Int) <= (cap : Int):=by omega
      have q3 : (i : Int) + 1 <= (n : Int):=by omega
      have q4 : ((i : Int) + 1).toNat = i + 1:=by omega
      have q6 : (0 : Int) <= (i : Int) + 1:=by omega
      have q7 : i + 1 <= n:=by omega
      obtain ⟨m,hm1⟩ : ∃ m,([] ++ (A ++ [x] ++ M) ++ R).length = m:=⟨_,rfl⟩
      have HLm:=hid hm1
      have HLm2 : Hid (m + 1 = n):=by
       show _ = _;have h1:=HLs.out
       rw [<- hm1];simp [outC] at h1 ⊢
       omega
      have HLe1 : Hid (([] : List Int).length + (A ++ [x] ++ M).length <= 1000000000):=by
       show _ <= _
       have h1:=HI.out
       simp [outC] at h1 ⊢
       omega
      have HLe2 : Hid (([] ++ (A ++ [x] ++ M)).length + R.length <= 1000000000):=by
       show _ <= _
       have h1:=hm1
       have h2:=HLm2.out
       simp at h1 ⊢
       omega
      have HCx : Hid (([] ++ (A ++ [x] ++ M) ++ R)[an]? = some x):=by show _ = _;rw [<- HAn.out]; simp
      have zm : (an : Int) < (m : Int):=by have:=HLm2.out; omega
      clear hm1;by_cases q5 : cap = i + 1
      ·have q5' : i + 1 = n:=by omega
       have hcn : n = cap:=by omega
       subst hcn;rw [q5'] at q4;clear q5;have q8 : ¬ n = 0:=by omega
       go_wp2_with fail;go_region_held3 (fun w'=>w'.cell? ⟨gn,an,none⟩ = some (.int .i64 x) ∧ w'.cell? ⟨gn,i,none⟩ = some (.int .i64 r))
        (first | exact hcx.out _ HB4.out | exact hcx.out _ HB4d.out | exact hcx.out _ HB5.out)
        (first | (go_at_call 177; refine HMk1.out.mono ?_; rintro e w5 ⟨rfl,hb5⟩; have HB5:=hid (HB4d.out.trans (hb5.mono HB4d.out.size)); clear hb5))
       have HO6 : Hid (Own w5.heap.size (w5.alloc (.cells #[] 3)) (.slice (some ⟨w5.heap.size,0,none⟩) 0 0) [] ∧ Below wr.heap.size wr (w5.alloc (.cells #[] 3)) ∧ Below w5.heap.size w5 (w5.alloc (.cells #[] 3))):=⟨⟨World.ownsRow_made w5 #[] 0 (Nat.le_refl _) (by unfold maxLen; omega) rfl,trivial⟩,HB5.out.trans (((Below.refl w5.heap.size w5).alloc (Nat.le_refl _) _).mono HB5.out.size),(Below.refl w5.heap.size w5).alloc (Nat.le_refl _) _⟩
       go_wp2_with (first | (at_builtin; refine app_row rfl (.tmp 42) (.tmp 45) rfl (w5.alloc (.cells #[] 3)) w5.heap.size (.slice (some ⟨w5.heap.size,0,none⟩) 0 0) (.slice (some ⟨gn,0,none⟩) i n) [] (A ++ [x] ++ M) rfl rfl HO6.out.1 (hTk.out _ HO6.out.2.1) HLe1.out (by simp) (fun v6 w6 h5 h6=>?_); have HO7 : Hid (Own w5.heap.size w6 v6 ([] ++ (A ++ [x] ++ M)) ∧ Below w5.heap.size w5 w6):=⟨h5,HO6.out.2.2.trans h6⟩; clear h5 h6) | (at_builtin; refine app_row rfl (.tmp 47) (.tmp 51) rfl w6 w5.heap.size v6 (.slice (some ⟨gn,0,none⟩) 0 0) ([] ++ (A ++ [x] ++ M)) R rfl rfl HO7.out.1 (hDp.out _ _ _ _ (HB5.out.trans (HO7.out.2.mono HB5.out.size)) (by omega) (by omega) (.inr rfl)) HLe2.out HO7.out.2.size (fun v7 w7 h5 h6=>?_); obtain ⟨g7,cap7,T7,e7,hc7,hg7,hB7⟩:=own_blq h5.1 h5.2; rw [HLm.out] at e7 hc7; subst e7; have HO8 : Hid (Blq w7 g7 ([] ++ (A ++ [x] ++ M) ++ R) T7 ∧ Below w5.heap.size w5 w7 ∧ w5.heap.size <= g7 ∧ m <= cap7):=⟨hB7,HO7.out.2.trans h6,hg7,hc7⟩; have fr7:=fun k=>hB7.frozen k; have cl7:=hB7.cell an x HCx.out; clear h5 h6 hB7 hg7 hc7))
       have HN:=hid (HRC.out.join HT.out HB5.out HO8.out.2.1 HLm2.out HO8.out.2.2.2 HO8.out.2.2.1 HO8.out.1 HAn.out z HZ2.out);go_roundg (len - (k + 1))
       case measure=>rw [HG.out]; have:=HN2.out; omega
       case rel=>exact ⟨k + 1,by have:=HN2.out; omega,rfl,i,m,rfl,by have:=HN2.out; omega,by have:=HN2.out; have:=HLm2.out; omega,_,HFo.out.symm,by rw [HJ.out,<- HI.out]; simp [outC],by rw [HRd.out]; exact HN.out⟩
      ·have q8 : ¬ cap = 0:=by omega
       go_wp2_with fail;go_region_held3 (fun w'=>w'.cell? ⟨gn,an,none⟩ = some (.int .i64 x) ∧ w'.cell? ⟨gn,i,none⟩ = some (.int .i64 r))
        (first | exact hcx.out _ HB4.out | exact hcx.out _ HB4d.out | exact hcx.out _ HB5.out)
        (first | (go_at_call 177; refine HMk1.out.mono ?_; rintro e w5 ⟨rfl,hb5⟩; have HB5:=hid (HB4d.out.trans (hb5.mono HB4d.out.size)); clear hb5))
       have HO6 : Hid (Own w5.heap.size (w5.alloc (.cells #[] 3)) (.slice (some ⟨w5.heap.size,0,none⟩) 0 0) [] ∧ Below wr.heap.size wr (w5.alloc (.cells #[] 3)) ∧ Below w5.heap.size w5 (w5.alloc (.cells #[] 3))):=⟨⟨World.ownsRow_made w5 #[] 0 (Nat.le_refl _) (by unfold maxLen; omega) rfl,trivial⟩,HB5.out.trans (((Below.refl w5.heap.size w5).alloc (Nat.le_refl _) _).mono HB5.out.size),(Below.refl w5.heap.size w5).alloc (Nat.le_refl _) _⟩
       go_wp2_with (first | (at_builtin; refine app_row rfl (.tmp 42) (.tmp 45) rfl (w5.alloc (.cells #[] 3)) w5.heap.size (.slice (some ⟨w5.heap.size,0,none⟩) 0 0) (.slice (some ⟨gn,0,none⟩) i cap) [] (A ++ [x] ++ M) rfl rfl HO6.out.1 (hTk.out _ HO6.out.2.1) HLe1.out (by simp) (fun v6 w6 h5 h6=>?_); have HO7 : Hid (Own w5.heap.size w6 v6 ([] ++ (A ++ [x] ++ M)) ∧ Below w5.heap.size w5 w6):=⟨h5,HO6.out.2.2.trans h6⟩; clear h5 h6) | (at_builtin; refine app_row rfl (.tmp 47) (.tmp 51) rfl w6 w5.heap.size v6 (.slice (some ⟨gn,i + 1,none⟩) (n - (i + 1)) (cap - (i + 1))) ([] ++ (A ++ [x] ++ M)) R rfl rfl HO7.out.1 (hDp.out _ _ _ _ (HB5.out.trans (HO7.out.2.mono HB5.out.size)) (by omega) (by omega) (.inl rfl)) HLe2.out HO7.out.2.size (fun v7 w7 h5 h6=>?_); obtain ⟨g7,cap7,T7,e7,hc7,hg7,hB7⟩:=own_blq h5.1 h5.2; rw [HLm.out] at e7 hc7; subst e7; have HO8 : Hid (Blq w7 g7 ([] ++ (A ++ [x] ++ M) ++ R) T7 ∧ Below w5.heap.size w5 w7 ∧ w5.heap.size <= g7 ∧ m <= cap7):=⟨hB7,HO7.out.2.trans h6,hg7,hc7⟩; have fr7:=fun k=>hB7.frozen k; have cl7:=hB7.cell an x HCx.out; clear h5 h6 hB7 hg7 hc7))
       have HN:=hid (HRC.out.join HT.out HB5.out HO8.out.2.1 HLm2.out HO8.out.2.2.2 HO8.out.2.2.1 HO8.out.1 HAn.out z HZ2.out);go_roundg (len - (k + 1))
       case measure=>rw [HG.out]; have:=HN2.out; omega
       case rel=>exact ⟨k + 1,by have:=HN2.out; omega,rfl,i,m,rfl,by have:=HN2.out; omega,by have:=HN2.out; have:=HLm2.out; omega,_,HFo.out.symm,by rw [HJ.out,<- HI.out]; simp [outC],by rw [HRd.out]; exact HN.out⟩
     ·rw [if_neg hm] at HMk1;have HT : Hid (tryC clsP (A,some x,M) r = false):=by show _ = _; rw [HTr.out]; simpa using hm
      clear HTr HMe HMp HMi hm;go_wp2_with fail;go_region_held3 (fun w'=>w'.cell? ⟨gn,an,none⟩ = some (.int .i64 x) ∧ w'.cell? ⟨gn,i,none⟩ = some (.int .i64 r))
       (first | exact hcx.out _ HB4.out | exact hcx.out _ HB4d.out | exact hcx.out _ HB5.out)
       (first | (go_at_call 177; refine HMk1.out.mono ?_; rintro e w5 ⟨rfl,hb5⟩; have HB5:=hid (HB4d.out.trans (hb5.mono HB4d.out.size)); clear hb5))
      have HN:=hid ((HRC.out.step HB5.out).next HT.out);go_wp2_with fail;go_roundg (len - (k + 1))
      case measure=>rw [HG.out]; have:=HN2.out; omega
      case rel=>exact ⟨k + 1,by have:=HN2.out; omega,rfl,i + 1,n,by go_num,by have:=HN2.out; omega,by have:=HN2.out; omega,_,HFo.out.symm,by rw [outC_no clsP _ r HT.out,List.length_append,HI.out]; rfl,by rw [HRd.out]; exact HN.out⟩
  ·have e : k = len:=by omega
   subst e;have HF : Hid (compP clsP zs = outC s):=by
    show outC _ = _
    rw [hs,<- HLn.out,List.take_length]
   have hd0 : zs.drop k = []:=by rw [<- HLn.out,List.drop_length]
   rw [hd0] at hRC;obtain ⟨gn,cap,T,rfl,hcap,hgl,hB⟩:=hRC.at_
   have HRC:=hid hRC
   have hLs:=hRC.len
   have HBq:=hid hB
   rw [List.append_nil] at hLs HBq
   have HL2:=hid hLs
   have hni : n = i:=by omega
   subst hni;have HGl:=hid hgl
   clear hRC hB hs hi hd0 hn2 hik hk hlt hgl;have z1 : ¬ (n : Int) < (n : Int):=by omega
   go_wp2_with fail;go_ret;exact ⟨_,rfl,by rw [HF.out]; exact ⟨gn,cap,T,by rw [HL2.out]; rfl,by rw [HL2.out]; exact hcap,Nat.le_trans H1.out.2.1.size HGl.out,HBq.out⟩,H1.out.2.1.trans (HRC.out.ok.1.mono H1.out.2.1.size)⟩
theorem rnfcB_any {w : World} {v : Value} {zs : List Int} (hS : Sn .i64 w v zs) (hz : ∀ z ∈ zs,I32 z) (hn : zs.length <= 10000) :
 Calls Tryz.prog 58 #[v] w fun e w'=>∃ v',e = .returned v' ∧ Sb w w' v' (nfcP clsP zs) ∧ Below w.heap.size w w':=by
 have HN:=hid (rnfd_any hS hn);have HC:=hid (fun (w1 : World) (v1 : Value) (h1 : Sn .i64 w1 v1 (nfdP clsP zs))=>rcomposeB_any h1 (nfd_I32 clsP zs hz) (Nat.le_trans (nfd_len zs) (by omega)))
 clear hS hz hn;go_enter Tryz.func58,Tryz.ntmps58
 go_wp2_with fail;refine HN.out.mono ?_;rintro e w1 ⟨v1,rfl,h1,h2⟩;have H1:=hid (And.intro h1 h2);clear h1 h2;go_wp2_with fail;refine (HC.out w1 v1 H1.out.1).mono ?_
 rintro e w2 ⟨v2,rfl,h1,h2⟩;have H2:=hid (And.intro h1 h2);clear h1 h2;go_wp2_with fail;go_ret;exact ⟨_,rfl,H2.out.1.old H1.out.2.size,H1.out.2.trans (H2.out.2.mono H1.out.2.size)⟩
theorem rnfc_any {w : World} {v : Value} {zs : List Int} (hS : Sn .i64 w v zs) (hz : ∀ z ∈ zs,I32 z) (hn : zs.length <= 10000) :
 Calls Tryz.prog 58 #[v] w fun e w'=>∃ v',e = .returned v' ∧ Sn .i64 w' v' (nfcP clsP zs) ∧ Below w.heap.size w w' :=
 (rnfcB_any hS hz hn).mono fun _ _ ⟨v',h1,h2,h3⟩=>⟨v',h1,h2.sn,h3⟩
end Nf
end Go.Proofs.YtkhipgcgcbhjoaaGreat
