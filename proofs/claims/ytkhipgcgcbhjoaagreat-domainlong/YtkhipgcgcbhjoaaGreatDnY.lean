import Derived.Test.YtkhipgcgcbhjoaaGreatDn56
import Derived.Deep.CutRange
set_option maxRecDepth 1000000
set_option maxHeartbeats 8000000
namespace Go.Proofs.YtkhipgcgcbhjoaaGreat
namespace Do
open Od Pr Nf Ma La
theorem text_app (a b : List Int) : Ut.textL (a ++ b) = Ut.textL a ++ Ut.textL b:=by unfold Ut.textL; rw [List.flatMap_append]
theorem text_dot : Ut.textL [46] = [46]:=by decide +kernel
theorem jn_text : ∀ (Qs : List (List Int)),(jnS (Qs.map txS)).data.toList = Ut.textL (jnP Qs)
 | []=>rfl
 | [A]=>by simp [jnS,jnP,txS]
 | A :: B :: Qs=>by
  have ih:=jn_text (B :: Qs)
  rw [jn_cons A (by simp)];show (txS A ++ ⟨#[46]⟩ ++ jnS ((B :: Qs).map txS)).data.toList = _
  rw [ByteArray.data_append,ByteArray.data_append,Array.toList_append,Array.toList_append,ih,show A ++ 46 :: jnP (B :: Qs) = A ++ ([46] ++ jnP (B :: Qs)) from rfl,text_app,text_app,text_dot,List.append_assoc]
  unfold txS;rfl
theorem jn_all {P : Int -> Prop} (h46 : P 46) : ∀ (Qs : List (List Int)),(∀ A ∈ Qs,∀ y ∈ A,P y) -> ∀ y ∈ jnP Qs,P y
 | [],_,y,hy=>by simp [jnP] at hy
 | [A],h,y,hy=>h A List.mem_cons_self y hy
 | A :: B :: Qs,h,y,hy=>by
  rw [jn_cons A (by simp)] at hy;rcases List.mem_append.1 hy with hy | hy
  ·exact h A List.mem_cons_self y hy
  ·rcases List.mem_cons.1 hy with rfl | hy
   ·exact h46
   ·exact jn_all h46 (B :: Qs) (fun C hC=>h C (List.mem_cons_of_mem _ hC)) y hy
theorem again {Qs : List (List Int)} {r : Bool} {z : ByteArray} (h0 : Qs ≠ []) (hL : ∀ A ∈ Qs,Lbl A) (hne : ∀ A ∈ Qs,A ≠ []) (hn : ∀ A ∈ Qs,nfcP clsP A = A) (hz : z = clS r (jnS (Qs.map txS))) (hl : (jnP Qs).length <= 800) :
 Ut.faultL z.data.toList < 0 ∧ lxL z = Qs ∧ rxB z = r ∧ Rdy z:=by
 have hdot : ∀ A ∈ Qs,(46 : Int) ∉ A:=fun A hA=>(hL A hA).dt
 have hsc : ∀ y ∈ jnP Qs,Ut.scB y = true:=jn_all (P:=fun y=>Ut.scB y = true) (by decide) Qs (fun A hA=>(hL A hA).sc)
 obtain ⟨l1,l2⟩:=lb_jn h0 hdot hne
 have hm1 : mapP (jnP Qs) = jnP Qs:=map_jn hn (fun A hA y hy=>((hL A hA).tp y hy).1) (fun A hA y hy=>((hL A hA).tp y hy).2)
 have hz2 : z.data.toList = Ut.textL (jnP Qs ++ if r = true then [46] else []):=by
  rw [hz,text_app,<- jn_text];unfold clS;cases r
  ·simp [Ut.textL]
  ·rw [if_pos rfl,if_pos rfl,text_dot,ByteArray.data_append,Array.toList_append]
 have hall : (jnP Qs ++ if r = true then [46] else []).all Ut.scB = true:=List.all_eq_true.2 (fun y hy=>by
  rcases List.mem_append.1 hy with hy | hy
  ·exact hsc y hy
  ·cases r
   ·simp at hy
   ·simp at hy; subst hy; decide)
 obtain ⟨t1,t2⟩:=Ut.text_back _ hall
 have hm : mapP (jnP Qs ++ if r = true then [46] else []) = jnP Qs ++ if r = true then [46] else []:=by
  cases r
  ·simpa using hm1
  ·have e : jnP Qs ++ [46] = jnP (Qs ++ [[]]):=by rw [jn_snoc Qs [] h0]; simp
   rw [if_pos rfl,e];have hin : ∀ A ∈ Qs ++ [[]],A ∈ Qs ∨ A = []:=fun A hA=>by
    rcases List.mem_append.1 hA with h | h
    ·exact .inl h
    ·exact .inr (by simpa using h)
   refine map_jn (fun A hA=>?_) (fun A hA y hy=>?_) (fun A hA y hy=>?_)
   ·rcases hin A hA with h | rfl
    ·exact hn A h
    ·rfl
   ·rcases hin A hA with h | rfl
    ·exact ((hL A h).tp y hy).1
    ·simp at hy
   ·rcases hin A hA with h | rfl
    ·exact ((hL A h).tp y hy).2
    ·simp at hy
 have hlb : lbL (jnP Qs ++ if r = true then [46] else []) = (Qs,r):=by
  cases r
  ·simpa using l1
  ·exact l2
 have hlx : lxL z = Qs ∧ rxB z = r:=by unfold lxL rxB;rw [hz2,t1,hm,hlb];exact ⟨rfl,rfl⟩
 have hlen : (jnP Qs ++ if r = true then [46] else []).length <= 801:=by rw [List.length_append];cases r <;> simp <;> omega
 refine ⟨by rw [hz2]; exact t2,hlx.1,hlx.2,?_,fun _=>?_,fun _ A hA=>?_⟩
 ·have h1:=Ut.textL_len (jnP Qs ++ if r = true then [46] else [])
  have h2 : z.size = z.data.toList.length:=(len_size z).symm
  rw [hz2] at h2;omega
 ·rw [hz2,t1,hm]; omega
 ·rw [hlx.1] at hA;exact (hL A hA).ln
theorem jn_le {f : List Int -> List Int} : ∀ (Qs : List (List Int)),(∀ A ∈ Qs,(f A).length <= A.length) -> (jnP (Qs.map f)).length <= (jnP Qs).length
 | [],_=>Nat.le_refl _
 | [A],h=>h A List.mem_cons_self
 | A :: B :: Qs,h=>by
  have ih:=jn_le (B :: Qs) (fun C hC=>h C (List.mem_cons_of_mem _ hC))
  have h1:=h A List.mem_cons_self
  rw [jn_cons A (by simp),List.map_cons,jn_cons (f A) (by simp),List.length_append,List.length_append,List.length_cons,List.length_cons];omega
theorem jn_sz : ∀ (Qs : List (List Int)),(∀ A ∈ Qs,∀ y ∈ A,Ut.scB y = true) -> (jnP Qs).length <= (jnS (Qs.map txS)).size:=fun Qs h=>by rw [<- len_size,jn_text];exact (text_long (jnP Qs) (jn_all (P:=fun y=>Ut.scB y = true) (by decide) Qs h)).1
theorem lb_len (M : List Int) : (jnP (lbL M).1).length <= M.length ∧ (lbL M).1 ≠ []:=by
 unfold lbL;split
 ·rename_i h
  simp only
  rw [List.dropLast_eq_take];refine ⟨?_,fun e=>?_⟩
  ·have:=jn_take (splP M) ((splP M).length - 1)
   rw [jn_spl] at this;exact this
  ·have:=congrArg List.length e
   rw [List.length_take] at this;simp at this
   omega
 ·simp only
  rw [jn_spl];exact ⟨Nat.le_refl _,spl_ne M⟩
theorem same_as {x y : ByteArray} {f : List Int -> List Int} (hx : taE x = 0) (hy : Ut.faultL y.data.toList < 0) (hl : lxL y = (lxL x).map f) (hr : rxB y = rxB x)
 (h1 : ∀ A ∈ lxL x,ptP (f A) = ptP A) (h2 : ∀ A ∈ lxL x,snS (f A) (bdB (lxL x)) = snS A (bdB (lxL x))) (h3 : ∀ A ∈ lxL x,snF (f A) (bdB (lxL x)) = 0) : taE y = 0 ∧ taS y = taS x ∧ tuS y = tuS x:=by
 obtain ⟨hf,he⟩:=ta_zero hx
 have hb : bdB (lxL y) = bdB (lxL x):=by
  rw [hl];unfold bdB;rw [List.any_map,Bool.eq_iff_iff,List.any_eq_true,List.any_eq_true];constructor
  ·rintro ⟨A,hA,h⟩;exact ⟨A,hA,by rw [<- h1 A hA]; exact h⟩
  ·rintro ⟨A,hA,h⟩;exact ⟨A,hA,by show Bi.rtP (ptP (f A)) = true; rw [h1 A hA]; exact h⟩
 have hsn : snL (bdB (lxL x)) (lxL y) = snL (bdB (lxL x)) (lxL x):=by rw [hl];unfold snL;rw [List.map_map];exact List.map_congr_left (fun A hA=>h2 A hA)
 have hsh : shL (lxL y) = shL (lxL x):=by
  rw [hl];unfold shL;rw [List.map_map];refine List.map_congr_left (fun A hA=>?_)
  show shS (f A) = shS A
  unfold shS;rw [h1 A hA]
 have hw : (whF (bdB (lxL x)) 0 (lxL y)).2 = 0:=by
  rw [wh_zero,hl];intro B hB
  obtain ⟨A,hA,rfl⟩:=List.mem_map.1 hB
  exact h3 A hA
 have he2 : seE (lxL y) (bdB (lxL x)) = 0:=by
  have h5:=he
  unfold seE at h5 ⊢
  rw [if_pos hw,hsn];split at h5
  ·exact h5
  ·cases h5
 have hy0 : taE y = 0:=by unfold taE;rw [if_pos hy,hb,he2]
 refine ⟨hy0,?_,?_⟩
 ·unfold taS;rw [if_pos hy,if_pos hf,hb];unfold seS;rw [if_pos he2,if_pos he,hsn,hr]
 ·unfold tuS;rw [if_pos hy0,if_pos hx,hsh,hr]
theorem ta_no {x : ByteArray} (h : taE x ≠ 0) : taS x = ⟨#[]⟩:=by
 unfold taE at h;unfold taS;split
 ·rename_i hf
  rw [if_pos hf] at h;unfold seS;rw [if_neg h]
 ·rfl
theorem rdy_of {x : ByteArray} (hs : x.size <= 80) : Rdy x:=by
 have key : Ut.faultL x.data.toList < 0 -> (mapP (Ut.runesL x.data.toList)).length <= 120:=fun h=>by
  have h1:=map_size (sc_runes h)
  rw [(Ut.runesL_back _ h).1,len_size] at h1;omega
 refine ⟨by omega,fun h=>by have:=key h; omega,fun h A hA=>?_⟩
 exact Nat.le_trans (spl_mem _ A (lb_sub hA)).1 (key h)
theorem lbl_of {x : ByteArray} (hR : Rdy x) (h : Ut.faultL x.data.toList < 0) : ∀ A ∈ lxL x,Lbl A:=fun A hA=>by
 have hi : ∀ y ∈ Ut.runesL x.data.toList,I32 y:=fun y hy=>by have:=(sc_iff y).1 (sc_runes h y hy); unfold I32; omega
 have hm:=spl_mem _ A (lb_sub hA)
 exact ⟨sc_lx h A hA,fun y hy=>t_map hi y (hm.2 y hy),spl_no _ A (lb_sub hA),hR.ll h A hA⟩
theorem twice {x : ByteArray} (hs : x.size <= 80) (h : taE x = 0) : (Rdy (taS x) ∧ taE (taS x) = 0 ∧ taS (taS x) = taS x ∧ tuS (taS x) = tuS x) ∧ (Rdy (tuS x) ∧ taE (tuS x) = 0 ∧ taS (tuS x) = taS x ∧ tuS (tuS x) = tuS x):=by
 have hR:=rdy_of hs
 obtain ⟨hf,he⟩:=ta_zero h
 have hL:=lbl_of hR hf
 have hml : (jnP (lxL x)).length <= 120:=by
  have h1:=(lb_len (mapP (Ut.runesL x.data.toList))).1
  have h2:=map_size (sc_runes hf)
  rw [(Ut.runesL_back _ hf).1,len_size] at h2;unfold lxL;omega
 have h0 : lxL x ≠ []:=(lb_len (mapP (Ut.runesL x.data.toList))).2
 have hw : (whF (bdB (lxL x)) 0 (lxL x)).2 = 0 ∧ (jnS (snL (bdB (lxL x)) (lxL x))).size <= 253:=by
  unfold seE at he;split at he
  ·split at he
   ·cases he
   ·exact ⟨by assumption,by omega⟩
  ·cases he
 have hz:=(wh_zero _ _ 0).1 hw.1
 have hta : taS x = clS (rxB x) (jnS (snL (bdB (lxL x)) (lxL x))):=by unfold taS;rw [if_pos hf];unfold seS;rw [if_pos he]
 have htu : tuS x = clS (rxB x) (jnS (shL (lxL x))):=by unfold tuS;rw [if_pos h]
 constructor
 ·have hB : snL (bdB (lxL x)) (lxL x) = ((lxL x).map (fun A=>Pu.bsI (snS A (bdB (lxL x))))).map txS:=by
   unfold snL;rw [List.map_map];exact List.map_congr_left (fun A hA=>(resent (hL A hA) (hz A hA)).2.2.2.1.symm)
  have hBL : ∀ B ∈ (lxL x).map (fun A=>Pu.bsI (snS A (bdB (lxL x)))),Lbl B ∧ B ≠ [] ∧ nfcP clsP B = B:=fun B hB=>by
   obtain ⟨A,hA,rfl⟩:=List.mem_map.1 hB
   have:=resent (hL A hA) (hz A hA)
   exact ⟨this.1,this.2.1,this.2.2.1⟩
  obtain ⟨g1,g2,g3,g4⟩:=again (r:=rxB x) (z:=taS x) (by simpa using h0) (fun B hb=>(hBL B hb).1) (fun B hb=>(hBL B hb).2.1) (fun B hb=>(hBL B hb).2.2) (by rw [hta,hB]) (by
   have:=jn_sz _ (fun B hb=>(hBL B hb).1.sc)
   rw [<- hB] at this;omega)
  exact ⟨g4,same_as h g1 g2 g3 (fun A hA=>(resent (hL A hA) (hz A hA)).2.2.2.2.1) (fun A hA=>(resent (hL A hA) (hz A hA)).2.2.2.2.2.1) (fun A hA=>(resent (hL A hA) (hz A hA)).2.2.2.2.2.2)⟩
 ·have hPL : ∀ B ∈ (lxL x).map ptP,Lbl B ∧ B ≠ [] ∧ nfcP clsP B = B:=fun B hB=>by
   obtain ⟨A,hA,rfl⟩:=List.mem_map.1 hB
   have:=shown (hL A hA) (hz A hA)
   exact ⟨this.1,this.2.1,this.2.2.1⟩
  have hP : shL (lxL x) = ((lxL x).map ptP).map txS:=by
   unfold shL;rw [List.map_map];refine List.map_congr_left (fun A hA=>?_)
   show shS A = txS (ptP A)
   unfold shS;rw [if_pos (List.all_eq_true.2 (shown (hL A hA) (hz A hA)).1.sc)]
  obtain ⟨g1,g2,g3,g4⟩:=again (r:=rxB x) (z:=tuS x) (by simpa using h0) (fun B hb=>(hPL B hb).1) (fun B hb=>(hPL B hb).2.1) (fun B hb=>(hPL B hb).2.2) (by rw [htu,hP]) (by
   have:=jn_le (lxL x) (fun A hA=>(shown (hL A hA) (hz A hA)).2.2.2.1)
   omega)
  exact ⟨g4,same_as h g1 g2 g3 (fun A hA=>(shown (hL A hA) (hz A hA)).2.2.2.2.1) (fun A hA=>(shown (hL A hA) (hz A hA)).2.2.2.2.2.1) (fun A hA=>(shown (hL A hA) (hz A hA)).2.2.2.2.2.2)⟩
end Do
end Go.Proofs.YtkhipgcgcbhjoaaGreat
namespace Go.Proofs.YtkhipgcgcbhjoaaGreat
namespace Do
open Od Pr Nf Ma La
def aL (m : Nat) : List Int:=List.replicate m 97
def aS (m : Nat) : ByteArray:=⟨(List.replicate m (97 : UInt8)).toArray⟩
theorem aS_size (m : Nat) : (aS m).size = m:=by simp [aS,ByteArray.size]
theorem tx_aL (m : Nat) : txS (aL m) = aS m:=by
 unfold txS aS;congr 2
 induction m with
 | zero=>rfl
 | succ m ih =>
  show Ut.textL (97 :: aL m) = 97 :: List.replicate m 97
  rw [text_cons,ih,show (Ut.encS 97).data.toList = [97] from by decide +kernel]
  rfl
theorem a_ck : (List.range 70).all (fun m=>((snF (aL m) false == 0) == (decide (1 <= m) && decide (m <= 63))) && !Bi.rtP (ptP (aL m))) = true:=by kernel_rfl
theorem a_sn {m : Nat} (h : m < 70) : (snF (aL m) false = 0 ↔ 1 <= m ∧ m <= 63) ∧ Bi.rtP (ptP (aL m)) = false ∧ snS (aL m) false = aS m:=by
 have:=List.all_eq_true.1 a_ck m (List.mem_range.2 h)
 rw [Bool.and_eq_true,Bool.not_eq_true',beq_iff_eq] at this;refine ⟨?_,this.2,?_⟩
 ·rw [<- beq_iff_eq (a:=snF (aL m) false),this.1,Bool.and_eq_true,decide_eq_true_eq,decide_eq_true_eq]
 ·unfold snS;rw [if_pos (pl_of (fun x hx=>by have:=(List.mem_replicate.1 hx).2; omega)),tx_aL]
theorem a_lbl {m : Nat} (h : m < 70) : Lbl (aL m) ∧ nfcP clsP (aL m) = aL m:=by
 have h1 : ∀ y ∈ aL m,y = 97:=fun y hy=>(List.mem_replicate.1 hy).2
 refine ⟨⟨fun y hy=>by rw [h1 y hy]; decide,fun y hy=>?_,fun hm=>by have:=h1 46 hm; omega,by unfold aL; rw [List.length_replicate]; omega⟩,nfc_asc (fun y hy=>by have:=h1 y hy; omega)⟩
 rw [h1 y hy];exact ⟨(t_asc (by omega) (by omega)).2 (by omega),by omega⟩
def oddB (ms : List Nat) : Bool:=ms.any (fun m=>decide (63 < m) || m == 0)
def lgP (ms : List Nat) (root : Bool) : List Nat × Bool:=if root = true then (ms,true) else if 1 < ms.length ∧ ms.getLastD 1 = 0 then (ms.dropLast,true) else (ms,false)
def lgS (ms : List Nat) (root : Bool) : ByteArray:=clS root (jnS (ms.map aS))
theorem jnS_snoc : ∀ (l : List ByteArray) (a : ByteArray),l ≠ [] -> jnS (l ++ [a]) = jnS l ++ ⟨#[46]⟩ ++ a
 | [],_,h=>absurd rfl h
 | [b],a,_=>rfl
 | b :: c :: l,a,_=>by
  have ih:=jnS_snoc (c :: l) a (by simp)
  show b ++ ⟨#[46]⟩ ++ jnS (c :: l ++ [a]) = b ++ ⟨#[46]⟩ ++ jnS (c :: l) ++ ⟨#[46]⟩ ++ a
  rw [ih];simp only [ByteArray.append_assoc]
theorem lg_sub (ms : List Nat) (root : Bool) : ∀ m ∈ (lgP ms root).1,m ∈ ms:=fun m hm=>by
 unfold lgP at hm;split at hm
 ·exact hm
 ·split at hm
  ·exact List.dropLast_subset _ hm
  ·exact hm
theorem lg_text {ms : List Nat} (h0 : ms ≠ []) (root : Bool) : lgS ms root = clS (lgP ms root).2 (jnS ((lgP ms root).1.map aS)):=by
 unfold lgS lgP;cases root
 ·rw [if_neg (by decide)];split
  ·rename_i h
   obtain ⟨l,z,rfl⟩ : ∃ l z,ms = l ++ [z]:=⟨ms.dropLast,ms.getLast h0,(List.dropLast_concat_getLast h0).symm⟩
   have hz : z = 0:=by
    have:=h.2
    rw [List.getLastD_eq_getLast?] at this;simpa using this
   subst hz;have hl : l ≠ []:=fun e=>by rw [e] at h; simp at h
   simp only [List.dropLast_concat]
   show jnS ((l ++ [0]).map aS) = jnS (l.map aS) ++ ⟨#[46]⟩
   rw [List.map_append,List.map_singleton,jnS_snoc _ _ (by simpa using hl)];show _ ++ aS 0 = _
   rw [show aS 0 = ByteArray.empty from rfl,ByteArray.append_empty]
  ·rfl
 ·rfl
theorem lg_lx {ms : List Nat} (h0 : ms ≠ []) (hm : ∀ m ∈ ms,m < 70) (hn : ms.length <= 8) (root : Bool) : Ut.faultL (lgS ms root).data.toList < 0 ∧ lxL (lgS ms root) = (lgP ms root).1.map aL ∧ rxB (lgS ms root) = (lgP ms root).2 ∧ Rdy (lgS ms root):=by
 have hL : ∀ A ∈ ms.map aL,Lbl A ∧ nfcP clsP A = A:=fun A hA=>by
  obtain ⟨m,h1,rfl⟩:=List.mem_map.1 hA
  exact a_lbl (hm m h1)
 generalize hQ : ms.map aL ++ (if root = true then [[]] else []) = Q
 have hQ0 : Q ≠ []:=by rw [<- hQ]; simp [h0]
 have hQm : ∀ A ∈ Q,Lbl A ∧ nfcP clsP A = A:=fun A hA=>by
  rw [<- hQ] at hA;rcases List.mem_append.1 hA with h | h
  ·exact hL A h
  ·cases root
   ·simp at h
   ·simp at h; subst h
    exact a_lbl (m:=0) (by omega)
 have htx : (ms.map aL).map txS = ms.map aS:=by rw [List.map_map]; exact List.map_congr_left (fun m _=>tx_aL m)
 have hz : (lgS ms root).data.toList = Ut.textL (jnP Q):=by
  rw [<- jn_text,<- hQ];unfold lgS clS;cases root
  ·rw [if_neg (by decide),if_neg (by decide),List.append_nil,htx]
  ·rw [if_pos rfl,if_pos rfl,List.map_append,htx,List.map_singleton,jnS_snoc _ _ (by simpa using h0)];rw [show txS [] = ByteArray.empty from rfl,ByteArray.append_empty]
 have hsc : ∀ y ∈ jnP Q,Ut.scB y = true:=jn_all (P:=fun y=>Ut.scB y = true) (by decide) Q (fun A hA=>(hQm A hA).1.sc)
 obtain ⟨t1,t2⟩:=Ut.text_back (jnP Q) (List.all_eq_true.2 hsc)
 have hmp : mapP (jnP Q) = jnP Q:=map_jn (fun A hA=>(hQm A hA).2) (fun A hA y hy=>((hQm A hA).1.tp y hy).1) (fun A hA y hy=>((hQm A hA).1.tp y hy).2)
 have hsp : splP (jnP Q) = Q:=spl_jn Q hQ0 (fun A hA=>(hQm A hA).1.dt)
 have hlb : lbL (jnP Q) = ((lgP ms root).1.map aL,(lgP ms root).2):=by
  unfold lbL;rw [hsp,<- hQ];unfold lgP;cases root
  ·simp only [Bool.false_eq_true,if_false,List.append_nil,List.length_map]
   have e : (ms.map aL).getLastD [0] = [] ↔ ms.getLastD 1 = 0:=by rw [List.getLastD_eq_getLast?,List.getLastD_eq_getLast?,List.getLast?_map,List.getLast?_eq_some_getLast h0];simp [aL]
   by_cases hc : 1 < ms.length ∧ ms.getLastD 1 = 0
   ·rw [if_pos hc,if_pos ⟨hc.1,e.2 hc.2⟩,<- List.map_dropLast]
   ·rw [if_neg hc,if_neg (fun h=>hc ⟨h.1,e.1 h.2⟩)]
  ·simp only [if_true]
   rw [if_pos ⟨by have:=List.length_pos_iff.2 h0; simp; omega,by rw [List.getLastD_eq_getLast?]; simp⟩,List.dropLast_concat]
 have hlx : lxL (lgS ms root) = (lgP ms root).1.map aL ∧ rxB (lgS ms root) = (lgP ms root).2:=by unfold lxL rxB;rw [hz,t1,hmp,hlb];exact ⟨rfl,rfl⟩
 have hsz : (lgS ms root).size <= 561:=by
  have h1:=jn_size 69 (ms.map aS) (fun s hs=>by
   obtain ⟨m,h1,rfl⟩:=List.mem_map.1 hs
   rw [aS_size];have:=hm m h1; omega)
  rw [List.length_map] at h1;unfold lgS clS;split
  ·rw [ByteArray.size_append,show (⟨#[46]⟩ : ByteArray).size = 1 from rfl]; omega
  ·omega
 have hlen:=(text_long (jnP Q) hsc).1
 rw [<- hz,len_size] at hlen;refine ⟨by rw [hz]; exact t2,hlx.1,hlx.2,by omega,fun _=>by rw [hz,t1,hmp]; omega,fun _ A hA=>?_⟩
 rw [hlx.1] at hA;obtain ⟨m,h1,rfl⟩:=List.mem_map.1 hA
 have:=hm m (lg_sub ms root m h1)
 unfold aL;rw [List.length_replicate]; omega
theorem lg_ta {ms : List Nat} (h0 : ms ≠ []) (hm : ∀ m ∈ ms,m < 70) (hn : ms.length <= 8) (root : Bool) : (oddB (lgP ms root).1 = true -> taE (lgS ms root) = 12 ∧ taS (lgS ms root) = ⟨#[]⟩) ∧
 (oddB (lgP ms root).1 = false -> (253 < (jnS ((lgP ms root).1.map aS)).size -> taE (lgS ms root) = 2 ∧ taS (lgS ms root) = ⟨#[]⟩) ∧ (¬ 253 < (jnS ((lgP ms root).1.map aS)).size -> taE (lgS ms root) = 0 ∧ taS (lgS ms root) = lgS ms root)):=by
 obtain ⟨g1,g2,g3,_⟩:=lg_lx h0 hm hn root
 have hm2 : ∀ m ∈ (lgP ms root).1,m < 70:=fun m h=>hm m (lg_sub ms root m h)
 have htx:=lg_text h0 root
 generalize lgS ms root = z at *;generalize (lgP ms root).2 = r at *;generalize (lgP ms root).1 = l at *;have hb : bdB (l.map aL) = false:=by
  unfold bdB;rw [List.any_map,List.any_eq_false];intro m h1 h2
  have h3 : Bi.rtP (ptP (aL m)) = true:=h2
  rw [(a_sn (hm2 m h1)).2.1] at h3;cases h3
 have hsn : snL false (l.map aL) = l.map aS:=by unfold snL;rw [List.map_map];exact List.map_congr_left (fun m h1=>(a_sn (hm2 m h1)).2.2)
 have hE : taE z = seE (l.map aL) false:=by unfold taE; rw [if_pos g1,g2,hb]
 have hw : (whF false 0 (l.map aL)).2 = 0 ↔ oddB l = false:=by
  rw [wh_zero];unfold oddB;rw [List.any_eq_false];constructor
  ·intro h m h1
   have:=(a_sn (hm2 m h1)).1.1 (h _ (List.mem_map_of_mem h1))
   simp; omega
  ·intro h A hA
   obtain ⟨m,h1,rfl⟩:=List.mem_map.1 hA
   have h2:=h m h1
   simp at h2
   exact (a_sn (hm2 m h1)).1.2 (by omega)
 refine ⟨fun ho=>?_,fun ho=>⟨fun h=>?_,fun h=>?_⟩⟩
 ·have e : taE z = 12:=by
   rw [hE];unfold seE;rw [if_neg (fun e=>by rw [hw.1 e] at ho; cases ho)]
  exact ⟨e,ta_no (by rw [e]; decide)⟩
 ·have e : taE z = 2:=by
   rw [hE];unfold seE;rw [if_pos (hw.2 ho),hsn,if_pos h]
  exact ⟨e,ta_no (by rw [e]; decide)⟩
 ·have e1 : seE (l.map aL) false = 0:=by
   unfold seE;rw [if_pos (hw.2 ho),hsn,if_neg h]
  refine ⟨by rw [hE,e1],?_⟩
  unfold taS;rw [if_pos g1,g2,hb,g3];unfold seS;rw [if_pos e1,hsn,<- htx]
end Do
end Go.Proofs.YtkhipgcgcbhjoaaGreat
namespace Go.Proofs.YtkhipgcgcbhjoaaGreat
namespace Do
open Go.RowKit Od Pr Nf Ma La
theorem row_u8 {w : World} {a : Option Addr} {len cap : Nat} {zs : List Int} (h : (a = none ∧ len = 0 ∧ cap = 0 ∧ zs = []) ∨ ∃ x,a = some x ∧ len <= cap ∧ cap <= maxLen ∧ zs.length = cap ∧ (∀ i,i < zs.length -> w.cell? (x.add i) = some (.int .u8 (zs.getD i 0))) ∧ ∀ n ∈ zs,(Lit.int .u8 n).wf = true) : (zs.take len).length = len ∧ SlP .u8 w a cap (zs.take len) ∧ ∀ y ∈ zs.take len,0 <= y ∧ y <= 255:=by
 rcases h with ⟨rfl,rfl,rfl,rfl⟩ | ⟨x,rfl,hl,hm,hz,hcell,hwz⟩
 ·exact ⟨rfl,⟨Nat.le_refl _,fun _=>⟨rfl,rfl⟩,fun k hk=>by simp at hk⟩,fun y hy=>by simp at hy⟩
 ·have hlen : (zs.take len).length = len:=by rw [List.length_take]; omega
  refine ⟨hlen,⟨by omega,fun e=>(by cases e),fun k hk=>?_⟩,fun y hy=>by have h:=hwz y (List.mem_of_mem_take hy); simp only [Lit.wf,Bool.and_eq_true,decide_eq_true_eq] at h; exact h⟩
  rw [hlen] at hk;obtain ⟨b,off,spot⟩:=x
  have hc:=hcell k (by omega)
  have hspot : spot = none:=by simpa [Addr.add] using World.cell?_spot (hcell 0 (by omega))
  subst hspot;have hadd : (⟨b,off,none⟩ : Addr).add k = ⟨b,off + k,none⟩:=by unfold Addr.add; split <;> simp_all
  rw [hadd] at hc;refine ⟨b,off,rfl,World.block_lt_of_cell? w _ hc,?_⟩
  rw [hc,List.getElem_take];simp [List.getD_eq_getElem?_getD,List.getElem?_eq_getElem (show k < zs.length by omega)]
def mzL (zs : List Int) : List Nat:=zs.map (fun z=>(z % 70).toNat)
theorem mz_lt (zs : List Int) : ∀ m ∈ mzL zs,m < 70:=fun m hm=>by
 obtain ⟨z,_,rfl⟩:=List.mem_map.1 hm
 omega
def bdO (n : Nat) (root : Bool) (k m : Nat) : Bool:=decide (63 < m) || (m == 0 && (decide (k + 1 < n) || n == 1 || root))
def bdF (root : Bool) (ms : List Nat) (k : Nat) : Bool:=(List.range k).any (fun i=>bdO ms.length root i (ms.getD i 0))
theorem bd_next (root : Bool) (ms : List Nat) (k : Nat) (h : k < ms.length) : bdF root ms (k + 1) = (bdF root ms k || bdO ms.length root k ms[k]):=by unfold bdF;rw [List.range_succ,List.any_append];simp [List.getD_eq_getElem?_getD,List.getElem?_eq_getElem h]
theorem bd_odd {ms : List Nat} (h0 : ms ≠ []) (root : Bool) : bdF root ms ms.length = oddB (lgP ms root).1:=by
 have hpos:=List.length_pos_iff.2 h0
 have hF : bdF root ms ms.length = true ↔ ∃ i,∃ h : i < ms.length,bdO ms.length root i ms[i] = true:=by
  unfold bdF;rw [List.any_eq_true];constructor
  ·rintro ⟨i,hi,h⟩;have hi':=List.mem_range.1 hi
   exact ⟨i,hi',by simpa [List.getD_eq_getElem?_getD,List.getElem?_eq_getElem hi'] using h⟩
  ·rintro ⟨i,hi,h⟩;exact ⟨i,List.mem_range.2 hi,by simpa [List.getD_eq_getElem?_getD,List.getElem?_eq_getElem hi] using h⟩
 have hO : ∀ l : List Nat,oddB l = true ↔ ∃ i,∃ h : i < l.length,63 < l[i] ∨ l[i] = 0:=fun l=>by
  unfold oddB;rw [List.any_eq_true];constructor
  ·rintro ⟨m,hm,h⟩;obtain ⟨i,hi,rfl⟩:=List.mem_iff_getElem.1 hm
   exact ⟨i,hi,by simpa using h⟩
  ·rintro ⟨i,hi,h⟩;exact ⟨l[i],List.getElem_mem hi,by simpa using h⟩
 have hB : ∀ i m,bdO ms.length root i m = true ↔ 63 < m ∨ (m = 0 ∧ (i + 1 < ms.length ∨ ms.length = 1 ∨ root = true)):=fun i m=>by unfold bdO;simp [or_assoc]
 rw [Bool.eq_iff_iff,hF,hO];unfold lgP;have hlast : ms.getLastD 1 = ms[ms.length - 1]:=by rw [List.getLastD_eq_getLast?,List.getLast?_eq_some_getLast h0,Option.getD_some,List.getLast_eq_getElem]
 cases root
 ·rw [if_neg (by decide)];by_cases hc : 1 < ms.length ∧ ms.getLastD 1 = 0
  ·rw [if_pos hc];simp only [List.length_dropLast,List.getElem_dropLast]
   constructor
   ·rintro ⟨i,hi,h⟩;rw [hB] at h;by_cases e : i = ms.length - 1
    ·subst e;rw [hlast] at hc;rcases h with h | h
     ·omega
     ·exfalso
      rcases h.2 with h2 | h2 | h2
      ·omega
      ·omega
      ·cases h2
    ·exact ⟨i,by omega,by rcases h with h | h; exact .inl h; exact .inr h.1⟩
   ·rintro ⟨i,hi,h⟩;exact ⟨i,by omega,(hB _ _).2 (by rcases h with h | h; exact .inl h; exact .inr ⟨h,.inl (by omega)⟩)⟩
  ·rw [if_neg hc];constructor
   ·rintro ⟨i,hi,h⟩;rw [hB] at h;exact ⟨i,hi,by rcases h with h | h; exact .inl h; exact .inr h.1⟩
   ·rintro ⟨i,hi,h⟩;have hi2 : i < ms.length:=hi
    refine ⟨i,hi,(hB _ _).2 ?_⟩
    replace h : 63 < ms[i] ∨ ms[i] = 0:=h
    rcases h with h | h
    ·exact .inl h
    ·refine .inr ⟨h,?_⟩
     by_cases e1 : ms.length = 1
     ·exact .inr (.inl e1)
     ·by_cases e : i + 1 < ms.length
      ·exact .inl e
      ·exfalso
       apply hc
       have e2 : i = ms.length - 1:=by omega
       subst e2;exact ⟨by omega,by rw [hlast]; exact h⟩
 ·rw [if_pos rfl];constructor
  ·rintro ⟨i,hi,h⟩;rw [hB] at h;exact ⟨i,hi,by rcases h with h | h; exact .inl h; exact .inr h.1⟩
  ·rintro ⟨i,hi,h⟩;exact ⟨i,hi,(hB _ _).2 (by rcases h with h | h; exact .inl h; exact .inr ⟨h,.inr (.inr rfl)⟩)⟩
def lastB (s : ByteArray) : Bool:=s.data.toList.getLast? == some 46
def alP (s : ByteArray) : Nat:=if lastB s = true then s.size - 1 else s.size
theorem al_eq {ms : List Nat} (h0 : ms ≠ []) (root : Bool) (h : oddB (lgP ms root).1 = false) : alP (lgS ms root) = (jnS ((lgP ms root).1.map aS)).size:=by
 have hne : (lgP ms root).1 ≠ []:=by
  unfold lgP;split
  ·exact h0
  ·split
   ·rename_i hc
    intro e
    have:=congrArg List.length e
    rw [List.length_dropLast] at this;simp at this
    omega
   ·exact h0
 rw [lg_text h0 root];generalize (lgP ms root).2 = r at *;generalize (lgP ms root).1 = l at *;obtain ⟨l2,z,rfl⟩ : ∃ l2 z,l = l2 ++ [z]:=⟨l.dropLast,l.getLast hne,(List.dropLast_concat_getLast hne).symm⟩
 have hz : z ≠ 0:=fun e=>by unfold oddB at h;rw [List.any_eq_false] at h;exact h z (by simp) (by simp [e])
 have hl : lastB (jnS ((l2 ++ [z]).map aS)) = false:=by
  have e1 : ∃ t : ByteArray,jnS ((l2 ++ [z]).map aS) = t ++ aS z:=by
   rw [List.map_append,List.map_singleton];by_cases e : l2 = []
   ·subst e;exact ⟨ByteArray.empty,by rw [ByteArray.empty_append]; rfl⟩
   ·exact ⟨_,jnS_snoc _ _ (by simpa using e)⟩
  obtain ⟨t,e1⟩:=e1
  rw [e1];unfold lastB;obtain ⟨y,rfl⟩ : ∃ y,z = y + 1:=⟨z - 1,by omega⟩
  have e2 : (t ++ aS (y + 1)).data.toList = (t.data.toList ++ List.replicate y 97) ++ [97]:=by
   rw [ByteArray.data_append,Array.toList_append,List.append_assoc];congr 1
   show List.replicate (y + 1) 97 = _
   rw [List.replicate_succ']
  rw [e2,List.getLast?_concat];decide
 cases r
 ·unfold clS alP;rw [if_neg (show ¬ (false = true) by decide),if_neg (by rw [hl]; decide)]
 ·unfold clS alP;rw [if_pos rfl];have : lastB (jnS ((l2 ++ [z]).map aS) ++ ⟨#[46]⟩) = true:=by
   unfold lastB;rw [ByteArray.data_append,Array.toList_append];show (_ ++ [46]).getLast? == some 46
   rw [List.getLast?_concat];decide
  rw [if_pos this,ByteArray.size_append,show (⟨#[46]⟩ : ByteArray).size = 1 from rfl]
  omega
def baS (ms : List Nat) (k : Nat) : ByteArray:=if k = 0 then ⟨#[]⟩ else jnS ((ms.take k).map aS) ++ ⟨#[46]⟩
theorem ba_next (ms : List Nat) (k : Nat) (h : k < ms.length) : jnS ((ms.take (k + 1)).map aS) = baS ms k ++ aS ms[k]:=by
 unfold baS;rw [List.take_succ_eq_append_getElem h,List.map_append,List.map_singleton];by_cases e : k = 0
 ·subst e;rw [if_pos rfl];show aS ms[0] = ByteArray.empty ++ _
  rw [ByteArray.empty_append]
 ·rw [if_neg e,jnS_snoc _ _ (by
   rw [Ne,List.map_eq_nil_iff,List.take_eq_nil_iff];rintro (h1 | h1)
   ·exact e h1
   ·rw [h1] at h; simp at h)]
theorem aS_next (t : ByteArray) (j : Nat) : t ++ aS (j + 1) = t ++ aS j ++ ⟨#[97]⟩:=by
 rw [ByteArray.append_assoc];congr 1
 unfold aS;apply ByteArray.ext
 rw [ByteArray.data_append,List.replicate_succ'];apply Array.ext'
 simp
theorem mz_at (zs : List Int) (k : Nat) (h : k < zs.length) (h2 : k < (mzL zs).length) : (mzL zs)[k] = (zs[k] % 70).toNat:=by simp [mzL]
theorem last_at {s : ByteArray} {y : Nat} (h : s.size = y + 1) (hy : y < s.size) : (((s[y]'hy).toNat : Int) == 46) = lastB s:=by
 have e : s.data.toList.getLast? = some (s[y]'hy):=by
  rw [List.getLast?_eq_getElem?,len_size,h,Nat.add_sub_cancel,List.getElem?_eq_getElem (by rw [len_size]; exact hy)]
  rfl
 unfold lastB;rw [e,Bool.eq_iff_iff,beq_iff_eq,beq_iff_eq,Option.some.injEq];constructor
 ·intro h2
  apply UInt8.toNat.inj
  show _ = 46
  omega
 ·intro h2
  rw [h2]; rfl
theorem jl_size {ms : List Nat} (hm : ∀ m ∈ ms,m < 70) (hn : ms.length <= 8) (k : Nat) : (jnS ((ms.take k).map aS)).size <= 560 ∧ (baS ms k).size <= 561:=by
 have h1:=jn_size 69 ((ms.take k).map aS) (fun s hs=>by
  obtain ⟨m,h1,rfl⟩:=List.mem_map.1 hs
  rw [aS_size];have:=hm m (List.mem_of_mem_take h1); omega)
 rw [List.length_map,List.length_take] at h1;refine ⟨by omega,?_⟩
 unfold baS;split
 ·simp [ByteArray.size]
 ·rw [ByteArray.size_append,show (⟨#[46]⟩ : ByteArray).size = 1 from rfl]; omega
theorem long_any {w : World} {a0 : Option Addr} {len0 cap0 : Nat} {zs : List Int} (a1 : Bool) (hlen : zs.length = len0) (hS : Od.SlP .u8 w a0 cap0 zs) (hZ : ∀ y ∈ zs,0 <= y ∧ y <= 255) (hn8 : len0 <= 8) (hn0 : 0 < len0) :
 Calls Tryz.prog 11 #[.slice a0 len0 cap0,.bool a1] w fun e w'=>e = .returned (.bool true) ∧ Below w.heap.size w w':=by
 have HSl:=La.hr hS
 have HZ:=La.hr hZ
 have HLen:=La.hr hlen
 have HO:=La.hr (Ok.start w);have HNa:=La.hr (names_any w);have zl : ¬ (8 : Int) < (len0 : Int):=by omega
 have zl0 : ((len0 : Int) == 0) = false:=beq_eq_false_iff_ne.2 (by omega)
 have HMl : Hid ((mzL zs).length = len0):=by show _ = _; unfold mzL; rw [List.length_map,hlen]
 have HMk:=La.hr (mz_at zs);have HMt:=La.hr (mz_lt zs);generalize mzL zs = ms at *;clear hS hZ hlen;go_enter Tryz.func11,Tryz.ntmps11
 go_wp2_with fail;refine HNa.out.mono ?_;rintro e W1 ⟨nm,b,m,f,c,g,j,k,p,d,u,s,rfl,hN,hB,hb⟩;have HN:=La.hr hN
 have HB:=La.hr hB
 replace HO:=La.hr (HO.out.step hb);clear hb hN hB HNa;go_wp2_with fail;have HMs : Hid (∀ k,(jnS ((ms.take k).map aS)).size <= 560 ∧ (baS ms k).size <= 561):=fun k=>jl_size HMt.out (by rw [HMl.out]; exact hn8) k
 go_loopg [6,7,29] len0 (fun gg vs vb vi wr=>∃ k : Nat,vi = .int .i64 k ∧ k <= len0 ∧ gg = len0 - k ∧ (∃ t,vs = .string t ∧ Hid (t = jnS ((ms.take k).map aS))) ∧ (∃ q,vb = .bool q ∧ Hid (q = bdF a1 ms k)) ∧ wr = W1)
 case atStart=>exact ⟨0,rfl,Nat.zero_le _,rfl,⟨_,rfl,rfl⟩,⟨_,rfl,rfl⟩,rfl⟩
 case round =>
  obtain ⟨k,rfl,hk,hg,⟨t,rfl,HTx⟩,⟨q,rfl,HQ⟩,rfl⟩:=hrel
  have HG:=La.hr hg
  have hts : t.size <= 560:=by rw [HTx.out]; exact (HMs.out k).1
  clear hg;by_cases hlt : k < len0
  ·have hkz : k < zs.length:=by rw [HLen.out]; exact hlt
   have hkm : k < ms.length:=by rw [HMl.out]; exact hlt
   obtain ⟨g1,off1,rfl,hg1,c1⟩:=HSl.out.at_ k hkz
   have d1:=(HO.out.1.cell (p:=⟨g1,off1 + k,none⟩) hg1).trans c1
   have HE:=La.hr (HMk.out k hkz hkm);have hz:=HZ.out _ (List.getElem_mem hkz)
   have HBn:=La.hr (bd_next a1 ms k hkm);have HBa:=La.hr (ba_next ms k hkm);have hmk:=HMt.out _ (List.getElem_mem hkm)
   have ht : zs[k].tmod 70 = ((ms[k] : Nat) : Int):=by rw [HE.out,Int.tmod_eq_emod_of_nonneg hz.1]; omega
   generalize zs[k] = z at *;generalize ms[k] = mk at *;have z1 : (k : Int) < (len0 : Int):=by omega
   clear c1;go_upto_if 35 with fail
   go_cut [6] from 30 to 71 (fun v wx=>(∃ t,v = .string t ∧ Hid (t = baS ms k)) ∧ wx = wr)
   case first =>
    by_cases hk0 : k = 0
    ·have zk : ¬ (0 : Int) < (k : Int):=by omega
     have HBs : Hid (t = baS ms k):=by show _ = _; rw [HTx.out,hk0]; rfl
     clear hk0;go_wp2_with fail;go_meet
     case rel=>exact ⟨⟨_,rfl,HBs⟩,rfl⟩
    ·have zk : (0 : Int) < (k : Int):=by omega
     have HBs : Hid (t ++ ⟨#[46]⟩ = baS ms k):=by show _ = _; rw [HTx.out]; exact (if_neg hk0).symm
     clear hk0;go_wp2_with fail;go_meet
     case rel=>exact ⟨⟨_,rfl,HBs⟩,rfl⟩
   case rest =>
   obtain ⟨⟨bs,rfl,HBs⟩,rfl⟩:=hcut
   have hbz : bs.size <= 561:=by rw [HBs.out]; exact (HMs.out k).2
   rw [<- HBs.out] at HBa;go_wp2_with fail;go_loopg [6,42] mk (fun gg vs vi wi=>∃ j : Nat,vi = .int .i64 j ∧ j <= mk ∧ gg = mk - j ∧ (∃ t,vs = .string t ∧ Hid (t = bs ++ aS j)) ∧ wi = wc)
   case atStart=>exact ⟨0,rfl,Nat.zero_le _,rfl,⟨_,rfl,(show bs = bs ++ ByteArray.empty by rw [ByteArray.append_empty])⟩,rfl⟩
   case round =>
    obtain ⟨j2,rfl,hj2,hg2,⟨t2,rfl,HT2⟩,rfl⟩:=hrel
    have HG2:=La.hr hg2
    have ht2 : t2.size <= 700:=by rw [HT2.out,ByteArray.size_append,aS_size]; omega
    clear hg2;by_cases hlt2 : j2 < mk
    ·have z2 : (j2 : Int) < (mk : Int):=by omega
     have HT3 : Hid (t2 ++ ⟨#[97]⟩ = bs ++ aS (j2 + 1)):=by show _ = _; rw [aS_next,HT2.out]
     go_wp2_with fail;go_roundg (mk - (j2 + 1))
     case measure=>rw [HG2.out]; omega
     case rel=>exact ⟨j2 + 1,by go_num,by omega,rfl,⟨_,rfl,HT3⟩,rfl⟩
    ·have e : j2 = mk:=by omega
     subst e;have z2 : ¬ (j2 : Int) < (j2 : Int):=by omega
     replace HT2 : Hid (t2 = jnS ((ms.take (k + 1)).map aS)):=by show _ = _; rw [HT2.out,HBa.out]
     clear HBa hlt2;cases q
     ·by_cases h63 : 63 < j2
      ·have z63 : (63 : Int) < (j2 : Int):=by omega
       have HQ2 : Hid (true = bdF a1 ms (k + 1)):=by show _ = _;rw [HBn.out,<- HQ.out,HMl.out];unfold bdO;simp [h63]
       clear HQ HBn h63;go_wp2_with fail;go_roundg (len0 - (k + 1))
       case measure=>rw [HG.out]; omega
       case rel=>exact ⟨k + 1,by go_num,by omega,rfl,⟨_,rfl,HT2⟩,⟨_,rfl,HQ2⟩,rfl⟩
      ·have z63 : ¬ (63 : Int) < (j2 : Int):=by omega
       by_cases hm0 : j2 = 0
       ·by_cases hkn : k + 1 < len0
        ·have zkn : (k : Int) < (len0 : Int) - 1:=by omega
         subst hm0;have HQ2 : Hid (true = bdF a1 ms (k + 1)):=by show _ = _;rw [HBn.out,<- HQ.out,HMl.out];unfold bdO;simp [hkn]
         clear HQ HBn hkn;go_wp2_with fail;go_roundg (len0 - (k + 1))
         case measure=>rw [HG.out]; omega
         case rel=>exact ⟨k + 1,by go_num,by omega,rfl,⟨_,rfl,HT2⟩,⟨_,rfl,HQ2⟩,rfl⟩
        ·have zkn : ¬ (k : Int) < (len0 : Int) - 1:=by omega
         subst hm0;by_cases hn1 : len0 = 1
         ·have zn1 : ((len0 : Int) == 1) = true:=by rw [hn1]; rfl
          have HQ2 : Hid (true = bdF a1 ms (k + 1)):=by show _ = _;rw [HBn.out,<- HQ.out,HMl.out];unfold bdO;simp [hn1]
          clear HQ HBn hkn hn1;go_wp2_with fail;go_roundg (len0 - (k + 1))
          case measure=>rw [HG.out]; omega
          case rel=>exact ⟨k + 1,by go_num,by omega,rfl,⟨_,rfl,HT2⟩,⟨_,rfl,HQ2⟩,rfl⟩
         ·have zn1 : ((len0 : Int) == 1) = false:=beq_eq_false_iff_ne.2 (by omega)
          cases a1
          ·have HQ2 : Hid (false = bdF false ms (k + 1)):=by
            show _ = _;rw [HBn.out,<- HQ.out,HMl.out];unfold bdO;simp [hkn,hn1]
           clear HQ HBn hkn hn1;go_wp2_with fail;go_roundg (len0 - (k + 1))
           case measure=>rw [HG.out]; omega
           case rel=>exact ⟨k + 1,by go_num,by omega,rfl,⟨_,rfl,HT2⟩,⟨_,rfl,HQ2⟩,rfl⟩
          ·have HQ2 : Hid (true = bdF true ms (k + 1)):=by
            show _ = _;rw [HBn.out,<- HQ.out,HMl.out];unfold bdO;simp
           clear HQ HBn hkn hn1;go_wp2_with fail;go_roundg (len0 - (k + 1))
           case measure=>rw [HG.out]; omega
           case rel=>exact ⟨k + 1,by go_num,by omega,rfl,⟨_,rfl,HT2⟩,⟨_,rfl,HQ2⟩,rfl⟩
       ·have zm0 : ((j2 : Int) == 0) = false:=beq_eq_false_iff_ne.2 (by omega)
        have HQ2 : Hid (false = bdF a1 ms (k + 1)):=by show _ = _;rw [HBn.out,<- HQ.out,HMl.out];unfold bdO;simp [h63,hm0]
        clear HQ HBn h63 hm0;go_wp2_with fail;go_roundg (len0 - (k + 1))
        case measure=>rw [HG.out]; omega
        case rel=>exact ⟨k + 1,by go_num,by omega,rfl,⟨_,rfl,HT2⟩,⟨_,rfl,HQ2⟩,rfl⟩
     ·have HQ2 : Hid (true = bdF a1 ms (k + 1)):=by
       show _ = _;rw [HBn.out,<- HQ.out,HMl.out];unfold bdO;simp
      clear HQ HBn;go_wp2_with fail;go_roundg (len0 - (k + 1))
      case measure=>rw [HG.out]; omega
      case rel=>exact ⟨k + 1,by go_num,by omega,rfl,⟨_,rfl,HT2⟩,⟨_,rfl,HQ2⟩,rfl⟩
  ·have e : k = len0:=by omega
   subst e;have z1 : ¬ (k : Int) < (k : Int):=by omega
   have hk0 : ms ≠ []:=fun e=>by have h:=HMl.out; rw [e] at h; simp at h; omega
   have HTx2 : Hid (t = jnS (ms.map aS)):=by show _ = _; rw [HTx.out,<- HMl.out,List.take_length]
   have HQ2 : Hid (q = oddB (lgP ms a1).1):=by show _ = _; rw [HQ.out,<- bd_odd hk0 a1,HMl.out]
   have HTa:=La.hr (lg_ta hk0 HMt.out (by rw [HMl.out]; exact hn8) a1)
   have HAl:=La.hr (al_eq hk0 a1);have HRy:=La.hr (lg_lx hk0 HMt.out (by rw [HMl.out]; exact hn8) a1).2.2.2
   have HLg : Hid (lgS ms a1 = clS a1 t):=by show _ = _; rw [HTx2.out]; rfl
   clear HTx HQ hk0;generalize hsz : (jnS ((lgP ms a1).1.map aS)).size = jz at *;generalize oddB (lgP ms a1).1 = od at *;generalize lgS ms a1 = lg at *;clear hsz
   have hqo:=HQ2.out
   subst hqo;clear HQ2 HTx2 HMk HMs HMt HMl HZ HSl HLen;go_upto_if 72 with fail
   go_cut [6] from 72 to 74 (fun v wx=>v = .string lg ∧ wx = wr)
   case first =>
    have HLg2:=HLg.out
    subst HLg2;cases a1
    ·go_wp2_with fail;go_meet
     case rel=>exact ⟨rfl,rfl⟩
    ·go_wp2_with fail;go_meet
     case rel=>exact ⟨rfl,rfl⟩
   case rest =>
   obtain ⟨rfl,rfl⟩:=hcut
   have hlz : lg.size <= 5000:=HRy.out.sz
   go_upto_region 23 with fail
   go_cut [11,85] from 75 to 85 (fun v11 v wx=>v11 = .int .i64 (lg.size : Int) ∧ v = .bool (lastB lg) ∧ wx = wc)
   case first =>
    by_cases h0 : lg.size = 0
    ·have z0 : ¬ (0 : Int) < (lg.size : Int):=by omega
     have HLb : Hid (false = lastB lg):=by
      show _ = _;have : lg.data.toList = []:=List.eq_nil_of_length_eq_zero (by rw [len_size]; exact h0)
      unfold lastB;rw [this]; rfl
     have h0c : Hid (lg.size = 0):=h0
     clear h0;go_wp2_with fail;go_meet
     case rel=>exact ⟨by rw [h0c.out],by rw [HLb.out],rfl⟩
    ·have z0 : (0 : Int) < (lg.size : Int):=by omega
     obtain ⟨y,hy⟩ : ∃ y,lg.size = y + 1:=⟨lg.size - 1,by omega⟩
     clear h0;have hyc : Hid (lg.size = y + 1):=hy
     go_wp2_with fail;go_meet
     case rel =>
      exact ⟨by rw [hyc.out]; rfl,by rw [last_at hyc.out],rfl⟩
   case rest =>
   obtain ⟨rfl,rfl,rfl⟩:=hcut
   have HLa : Hid (alP lg = if lastB lg = true then lg.size - 1 else lg.size):=rfl
   have HLn : Hid (lastB lg = true -> 0 < lg.size):=fun h=>by
    have h2 : lg.size ≠ 0:=fun e=>by
     have : lg.data.toList = []:=List.eq_nil_of_length_eq_zero (by rw [len_size]; exact e)
     unfold lastB at h;rw [this] at h;cases h
    omega
   go_upto_if 85 with fail
   go_cut [11] from 86 to 87 (fun v wx=>v = .int .i64 (alP lg : Int) ∧ wx = wc)
   case first =>
    generalize lastB lg = lb at *;cases lb
    ·have HLa2 : Hid (alP lg = lg.size):=by show _ = _; rw [HLa.out]; rfl
     go_wp2_with fail;go_meet
     case rel=>exact ⟨by rw [HLa2.out],rfl⟩
    ·have HLa2 : Hid (((lg.size : Int) - 1) = (alP lg : Int)):=by show _ = _; rw [HLa.out,if_pos rfl]; have:=HLn.out rfl; omega
     have hpos:=HLn.out rfl
     go_wp2_with fail;go_meet
     case rel=>exact ⟨by rw [<- HLa2.out],rfl⟩
   case rest =>
   obtain ⟨rfl,rfl⟩:=hcut
   clear HLa HLn;have HA:=La.hr (toascii_any HN.out HB.out HRy.out);cases q
   ·have HA2:=La.hr (HAl.out rfl);obtain ⟨t1,t2⟩:=HTa.out.2 rfl
    rw [HA2.out];by_cases h253 : 253 < jz
    ·have z253 : (253 : Int) < (jz : Int):=by omega
     rw [(t1 h253).1,(t1 h253).2] at HA;clear t1 t2 HTa HAl HRy h253 HLg;go_wp2_with fail;refine HA.out.mono ?_;rintro e W2 ⟨rfl,hb⟩;replace HN:=La.hr (HN.out.step hb)
     replace HB:=La.hr (HB.out.step hb);replace HO:=La.hr (HO.out.step hb);clear hb HA;go_wp2_with fail;refine (awake_any HN.out HB.out).mono ?_;rintro e w' ⟨rfl,hb⟩
     replace HO:=La.hr (HO.out.step hb);clear hb;go_wp2_with fail;go_ret;exact ⟨rfl,HO.out.1⟩
    ·have z253 : ¬ (253 : Int) < (jz : Int):=by omega
     rw [(t2 h253).1,(t2 h253).2] at HA;clear t1 t2 HTa HAl HRy h253 HLg;go_wp2_with fail;refine HA.out.mono ?_;rintro e W2 ⟨rfl,hb⟩;replace HN:=La.hr (HN.out.step hb)
     replace HB:=La.hr (HB.out.step hb);replace HO:=La.hr (HO.out.step hb);clear hb HA;go_wp2_with fail;refine (awake_any HN.out HB.out).mono ?_;rintro e w' ⟨rfl,hb⟩
     replace HO:=La.hr (HO.out.step hb);clear hb;go_wp2_with fail;go_ret;exact ⟨rfl,HO.out.1⟩
   ·obtain ⟨t1,t2⟩:=HTa.out.1 rfl
    rw [t1,t2] at HA;clear t1 t2 HTa HAl HRy HLg;go_wp2_with fail;refine HA.out.mono ?_;rintro e W2 ⟨rfl,hb⟩;replace HN:=La.hr (HN.out.step hb);replace HB:=La.hr (HB.out.step hb)
    replace HO:=La.hr (HO.out.step hb);clear hb HA;go_wp2_with fail;refine (awake_any HN.out HB.out).mono ?_;rintro e w' ⟨rfl,hb⟩;replace HO:=La.hr (HO.out.step hb)
    clear hb;go_wp2_with fail;go_ret;exact ⟨rfl,HO.out.1⟩
theorem long_far (w : World) (a0 : Option Addr) (len0 cap0 : Nat) (a1 : Bool) (zl : (8 : Int) < (len0 : Int)) :
 Calls Tryz.prog 11 #[.slice a0 len0 cap0,.bool a1] w fun e w'=>e = .returned (.bool true) ∧ Below w.heap.size w w':=by
 have HO:=La.hr (Ok.start w);have HNa:=La.hr (names_any w);go_enter Tryz.func11,Tryz.ntmps11
 go_wp2_with fail;refine HNa.out.mono ?_;rintro e W1 ⟨nm,b,m,f,c,g,j,k,p,d,u,s,rfl,hN,hB,hb⟩;have HN:=La.hr hN
 have HB:=La.hr hB
 replace HO:=La.hr (HO.out.step hb);clear hb hN hB HNa;go_wp2_with fail;refine (awake_any HN.out HB.out).mono ?_;rintro e w' ⟨rfl,hb⟩;replace HO:=La.hr (HO.out.step hb)
 clear hb;go_wp2_with fail;go_ret;exact ⟨rfl,HO.out.1⟩
theorem long_none (w : World) (a0 : Option Addr) (cap0 : Nat) (a1 : Bool) :
 Calls Tryz.prog 11 #[.slice a0 0 cap0,.bool a1] w fun e w'=>e = .returned (.bool true) ∧ Below w.heap.size w w':=by
 have HO:=La.hr (Ok.start w);have HNa:=La.hr (names_any w);go_enter Tryz.func11,Tryz.ntmps11
 go_wp2_with fail;refine HNa.out.mono ?_;rintro e W1 ⟨nm,b,m,f,c,g,j,k,p,d,u,s,rfl,hN,hB,hb⟩;have HN:=La.hr hN
 have HB:=La.hr hB
 replace HO:=La.hr (HO.out.step hb);clear hb hN hB HNa;go_wp2_with fail;refine (awake_any HN.out HB.out).mono ?_;rintro e w' ⟨rfl,hb⟩;replace HO:=La.hr (HO.out.step hb)
 clear hb;go_wp2_with fail;go_ret;exact ⟨rfl,HO.out.1⟩
end Do
end Go.Proofs.YtkhipgcgcbhjoaaGreat
