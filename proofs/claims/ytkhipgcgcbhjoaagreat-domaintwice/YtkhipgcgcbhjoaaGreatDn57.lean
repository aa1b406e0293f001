import Derived.Test.YtkhipgcgcbhjoaaGreatDn56
namespace Go.Proofs.YtkhipgcgcbhjoaaGreat
namespace Do
open Od Pr Nf Ma La
theorem text_app (a b : List Int) : Ut.textL (a ++ b) = Ut.textL a ++ Ut.textL b:=by unfold Ut.textL; rw [List.flatMap_append]
theorem text_dot : Ut.textL [46] = [46]:=by decide +kernel
theorem jn_text : ∀ (Qs : List (List Int)),(jnS (Qs.map txS)).data.toList = Ut.textL (jnP Qs)
 | []=>rfl
 | [A]=>by simp [jnS,jnP,txS]
 | A :: B :: Qs=>by
  have ih:=jn_text (B :: Qs)
  rw [jn_cons A (by simp)];show (txS A ++ ⟨#[46]⟩ ++ jnS ((B :: Qs).map txS)).data.toList = _
  rw [ByteArray.data_append,ByteArray.data_append,Array.toList_append,Array.toList_append,ih,show A ++ 46 :: jnP (B :: Qs) = A ++ ([46] ++ jnP (B :: Qs)) from rfl,text_app,text_app,text_dot,List.append_assoc]
  unfold txS;rfl
theorem jn_all {P : Int -> Prop} (h46 : P 46) : ∀ (Qs : List (List Int)),(∀ A ∈ Qs,∀ y ∈ A,P y) -> ∀ y ∈ jnP Qs,P y
 | [],_,y,hy=>by simp [jnP] at hy
 | [A],h,y,hy=>h A List.mem_cons_self y hy
 | A :: B :: Qs,h,y,hy=>by
  rw [jn_cons A (by simp)] at hy;rcases List.mem_append.1 hy with hy | hy
  ·exact h A List.mem_cons_self y hy
  ·rcases List.mem_cons.1 hy with rfl | hy
   ·exact h46
   ·exact jn_all h46 (B :: Qs) (fun C hC=>h C (List.mem_cons_of_mem _ hC)) y hy
theorem again {Qs : List (List Int)} {r : Bool} {z : ByteArray} (h0 : Qs ≠ []) (hL : ∀ A ∈ Qs,Lbl A) (hne : ∀ A ∈ Qs,A ≠ []) (hn : ∀ A ∈ Qs,nfcP clsP A = A) (hz : z = clS r (jnS (Qs.map txS))) (hl : (jnP Qs).length <= 800) :
 Ut.faultL z.data.toList < 0 ∧ lxL z = Qs ∧ rxB z = r ∧ Rdy z:=by
 have hdot : ∀ A ∈ Qs,(46 : Int) ∉ A:=fun A hA=>(hL A hA).dt
 have hsc : ∀ y ∈ jnP Qs,Ut.scB y = true:=jn_all (P:=fun y=>Ut.scB y = true) (by decide) Qs (fun A hA=>(hL A hA).sc)
 obtain ⟨l1,l2⟩:=lb_jn h0 hdot hne
 have hm1 : mapP (jnP Qs) = jnP Qs:=map_jn hn (fun A hA y hy=>((hL A hA).tp y hy).1) (fun A hA y hy=>((hL A hA).tp y hy).2)
 have hz2 : z.data.toList = Ut.textL (jnP Qs ++ if r = true then [46] else []):=by
  rw [hz,text_app,<- jn_text];unfold clS;cases r
  ·simp [Ut.textL]
  ·rw [if_pos rfl,if_pos rfl,text_dot,ByteArray.data_append,Array.toList_append]
 have hall : (jnP Qs ++ if r = true then [46] else []).all Ut.scB = true:=List.all_eq_true.2 (fun y hy=>by
  rcases List.mem_append.1 hy with hy | hy
  ·exact hsc y hy
  ·cases r
   ·simp at hy
   ·simp at hy; subst hy; decide)
 obtain ⟨t1,t2⟩:=Ut.text_back _ hall
 have hm : mapP (jnP Qs ++ if r = true then [46] else []) = jnP Qs ++ if r = true then [46] else []:=by
  cases r
  ·simpa using hm1
  ·have e : jnP Qs ++ [46] = jnP (Qs ++ [[]]):=by rw [jn_snoc Qs [] h0]; simp
   rw [if_pos rfl,e];have hin : ∀ A ∈ Qs ++ [[]],A ∈ Qs ∨ A = []:=fun A hA=>by
    rcases List.mem_append.1 hA with h | h
    ·exact .inl h
    ·exact .inr (by simpa using h)
   refine map_jn (fun A hA=>?_) (fun A hA y hy=>?_) (fun A hA y hy=>?_)
   ·rcases hin A hA with h | rfl
    ·exact hn A h
    ·rfl
   ·rcases hin A hA with h | rfl
    ·exact ((hL A h).tp y hy).1
    ·simp at hy
   ·rcases hin A hA with h | rfl
    ·exact ((hL A h).tp y hy).2
    ·simp at hy
 have hlb : lbL (jnP Qs ++ if r = true then [46] else []) = (Qs,r):=by
  cases r
  ·simpa using l1
  ·exact l2
 have hlx : lxL z = Qs ∧ rxB z = r:=by unfold lxL rxB;rw [hz2,t1,hm,hlb];exact ⟨rfl,rfl⟩
 have hlen : (jnP Qs ++ if r = true then [46] else []).length <= 801:=by rw [List.length_append];cases r <;> simp <;> omega
 refine ⟨by rw [hz2]; exact t2,hlx.1,hlx.2,?_,fun _=>?_,fun _ A hA=>?_⟩
 ·have h1:=Ut.textL_len (jnP Qs ++ if r = true then [46] else [])
  have h2 : z.size = z.data.toList.length:=(len_size z).symm
  rw [hz2] at h2;omega
 ·rw [hz2,t1,hm]; omega
 ·rw [hlx.1] at hA;exact (hL A hA).ln
theorem jn_le {f : List Int -> List Int} : ∀ (Qs : List (List Int)),(∀ A ∈ Qs,(f A).length <= A.length) -> (jnP (Qs.map f)).length <= (jnP Qs).length
 | [],_=>Nat.le_refl _
 | [A],h=>h A List.mem_cons_self
 | A :: B :: Qs,h=>by
  have ih:=jn_le (B :: Qs) (fun C hC=>h C (List.mem_cons_of_mem _ hC))
  have h1:=h A List.mem_cons_self
  rw [jn_cons A (by simp),List.map_cons,jn_cons (f A) (by simp),List.length_append,List.length_append,List.length_cons,List.length_cons];omega
theorem jn_sz : ∀ (Qs : List (List Int)),(∀ A ∈ Qs,∀ y ∈ A,Ut.scB y = true) -> (jnP Qs).length <= (jnS (Qs.map txS)).size:=fun Qs h=>by rw [<- len_size,jn_text];exact (text_long (jnP Qs) (jn_all (P:=fun y=>Ut.scB y = true) (by decide) Qs h)).1
theorem lb_len (M : List Int) : (jnP (lbL M).1).length <= M.length ∧ (lbL M).1 ≠ []:=by
 unfold lbL;split
 ·rename_i h
  simp only
  rw [List.dropLast_eq_take];refine ⟨?_,fun e=>?_⟩
  ·have:=jn_take (splP M) ((splP M).length - 1)
   rw [jn_spl] at this;exact this
  ·have:=congrArg List.length e
   rw [List.length_take] at this;simp at this
   omega
 ·simp only
  rw [jn_spl];exact ⟨Nat.le_refl _,spl_ne M⟩
theorem same_as {x y : ByteArray} {f : List Int -> List Int} (hx : taE x = 0) (hy : Ut.faultL y.data.toList < 0) (hl : lxL y = (lxL x).map f) (hr : rxB y = rxB x)
 (h1 : ∀ A ∈ lxL x,ptP (f A) = ptP A) (h2 : ∀ A ∈ lxL x,snS (f A) (bdB (lxL x)) = snS A (bdB (lxL x))) (h3 : ∀ A ∈ lxL x,snF (f A) (bdB (lxL x)) = 0) : taE y = 0 ∧ taS y = taS x ∧ tuS y = tuS x:=by
 obtain ⟨hf,he⟩:=ta_zero hx
 have hb : bdB (lxL y) = bdB (lxL x):=by
  rw [hl];unfold bdB;rw [List.any_map,Bool.eq_iff_iff,List.any_eq_true,List.any_eq_true];constructor
  ·rintro ⟨A,hA,h⟩;exact ⟨A,hA,by rw [<- h1 A hA]; exact h⟩
  ·rintro ⟨A,hA,h⟩;exact ⟨A,hA,by show Bi.rtP (ptP (f A)) = true; rw [h1 A hA]; exact h⟩
 have hsn : snL (bdB (lxL x)) (lxL y) = snL (bdB (lxL x)) (lxL x):=by rw [hl];unfold snL;rw [List.map_map];exact List.map_congr_left (fun A hA=>h2 A hA)
 have hsh : shL (lxL y) = shL (lxL x):=by
  rw [hl];unfold shL;rw [List.map_map];refine List.map_congr_left (fun A hA=>?_)
  show shS (f A) = shS A
  unfold shS;rw [h1 A hA]
 have hw : (whF (bdB (lxL x)) 0 (lxL y)).2 = 0:=by
  rw [wh_zero,hl];intro B hB
  obtain ⟨A,hA,rfl⟩:=List.mem_map.1 hB
  exact h3 A hA
 have he2 : seE (lxL y) (bdB (lxL x)) = 0:=by
  have h5:=he
  unfold seE at h5 ⊢
  rw [if_pos hw,hsn];split at h5
  ·exact h5
  ·cases h5
 have hy0 : taE y = 0:=by unfold taE;rw [if_pos hy,hb,he2]
 refine ⟨hy0,?_,?_⟩
 ·unfold taS;rw [if_pos hy,if_pos hf,hb];unfold seS;rw [if_pos he2,if_pos he,hsn,hr]
 ·unfold tuS;rw [if_pos hy0,if_pos hx,hsh,hr]
theorem ta_no {x : ByteArray} (h : taE x ≠ 0) : taS x = ⟨#[]⟩:=by
 unfold taE at h;unfold taS;split
 ·rename_i hf
  rw [if_pos hf] at h;unfold seS;rw [if_neg h]
 ·rfl
theorem rdy_of {x : ByteArray} (hs : x.size <= 80) : Rdy x:=by
 have key : Ut.faultL x.data.toList < 0 -> (mapP (Ut.runesL x.data.toList)).length <= 120:=fun h=>by
  have h1:=map_size (sc_runes h)
  rw [(Ut.runesL_back _ h).1,len_size] at h1;omega
 refine ⟨by omega,fun h=>by have:=key h; omega,fun h A hA=>?_⟩
 exact Nat.le_trans (spl_mem _ A (lb_sub hA)).1 (key h)
theorem lbl_of {x : ByteArray} (hR : Rdy x) (h : Ut.faultL x.data.toList < 0) : ∀ A ∈ lxL x,Lbl A:=fun A hA=>by
 have hi : ∀ y ∈ Ut.runesL x.data.toList,I32 y:=fun y hy=>by have:=(sc_iff y).1 (sc_runes h y hy); unfold I32; omega
 have hm:=spl_mem _ A (lb_sub hA)
 exact ⟨sc_lx h A hA,fun y hy=>t_map hi y (hm.2 y hy),spl_no _ A (lb_sub hA),hR.ll h A hA⟩
theorem twice {x : ByteArray} (hs : x.size <= 80) (h : taE x = 0) : (Rdy (taS x) ∧ taE (taS x) = 0 ∧ taS (taS x) = taS x ∧ tuS (taS x) = tuS x) ∧ (Rdy (tuS x) ∧ taE (tuS x) = 0 ∧ taS (tuS x) = taS x ∧ tuS (tuS x) = tuS x):=by
 have hR:=rdy_of hs
 obtain ⟨hf,he⟩:=ta_zero h
 have hL:=lbl_of hR hf
 have hml : (jnP (lxL x)).length <= 120:=by
  have h1:=(lb_len (mapP (Ut.runesL x.data.toList))).1
  have h2:=map_size (sc_runes hf)
  rw [(Ut.runesL_back _ hf).1,len_size] at h2;unfold lxL;omega
 have h0 : lxL x ≠ []:=(lb_len (mapP (Ut.runesL x.data.toList))).2
 have hw : (whF (bdB (lxL x)) 0 (lxL x)).2 = 0 ∧ (jnS (snL (bdB (lxL x)) (lxL x))).size <= 253:=by
  unfold seE at he;split at he
  ·split at he
   ·cases he
   ·exact ⟨by assumption,by omega⟩
  ·cases he
 have hz:=(wh_zero _ _ 0).1 hw.1
 have hta : taS x = clS (rxB x) (jnS (snL (bdB (lxL x)) (lxL x))):=by unfold taS;rw [if_pos hf];unfold seS;rw [if_pos he]
 have htu : tuS x = clS (rxB x) (jnS (shL (lxL x))):=by unfold tuS;rw [if_pos h]
 constructor
 ·have hB : snL (bdB (lxL x)) (lxL x) = ((lxL x).map (fun A=>Pu.bsI (snS A (bdB (lxL x))))).map txS:=by
   unfold snL;rw [List.map_map];exact List.map_congr_left (fun A hA=>(resent (hL A hA) (hz A hA)).2.2.2.1.symm)
  have hBL : ∀ B ∈ (lxL x).map (fun A=>Pu.bsI (snS A (bdB (lxL x)))),Lbl B ∧ B ≠ [] ∧ nfcP clsP B = B:=fun B hB=>by
   obtain ⟨A,hA,rfl⟩:=List.mem_map.1 hB
   have:=resent (hL A hA) (hz A hA)
   exact ⟨this.1,this.2.1,this.2.2.1⟩
  obtain ⟨g1,g2,g3,g4⟩:=again (r:=rxB x) (z:=taS x) (by simpa using h0) (fun B hb=>(hBL B hb).1) (fun B hb=>(hBL B hb).2.1) (fun B hb=>(hBL B hb).2.2) (by rw [hta,hB]) (by
   have:=jn_sz _ (fun B hb=>(hBL B hb).1.sc)
   rw [<- hB] at this;omega)
  exact ⟨g4,same_as h g1 g2 g3 (fun A hA=>(resent (hL A hA) (hz A hA)).2.2.2.2.1) (fun A hA=>(resent (hL A hA) (hz A hA)).2.2.2.2.2.1) (fun A hA=>(resent (hL A hA) (hz A hA)).2.2.2.2.2.2)⟩
 ·have hPL : ∀ B ∈ (lxL x).map ptP,Lbl B ∧ B ≠ [] ∧ nfcP clsP B = B:=fun B hB=>by
   obtain ⟨A,hA,rfl⟩:=List.mem_map.1 hB
   have:=shown (hL A hA) (hz A hA)
   exact ⟨this.1,this.2.1,this.2.2.1⟩
  have hP : shL (lxL x) = ((lxL x).map ptP).map txS:=by
   unfold shL;rw [List.map_map];refine List.map_congr_left (fun A hA=>?_)
   show shS A = txS (ptP A)
   unfold shS;rw [if_pos (List.all_eq_true.2 (shown (hL A hA) (hz A hA)).1.sc)]
  obtain ⟨g1,g2,g3,g4⟩:=again (r:=rxB x) (z:=tuS x) (by simpa using h0) (fun B hb=>(hPL B hb).1) (fun B hb=>(hPL B hb).2.1) (fun B hb=>(hPL B hb).2.2) (by rw [htu,hP]) (by
   have:=jn_le (lxL x) (fun A hA=>(shown (hL A hA) (hz A hA)).2.2.2.1)
   omega)
  exact ⟨g4,same_as h g1 g2 g3 (fun A hA=>(shown (hL A hA) (hz A hA)).2.2.2.2.1) (fun A hA=>(shown (hL A hA) (hz A hA)).2.2.2.2.2.1) (fun A hA=>(shown (hL A hA) (hz A hA)).2.2.2.2.2.2)⟩
end Do
end Go.Proofs.YtkhipgcgcbhjoaaGreat
