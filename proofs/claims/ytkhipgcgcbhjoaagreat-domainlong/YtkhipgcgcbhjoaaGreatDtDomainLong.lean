/-
  For every slice of bytes, and each root, the law DomainLong returns true, and the slice reads behind the call as it read before. No condition.
-/
import Derived.Test.YtkhipgcgcbhjoaaGreatRows
import Derived.Test.YtkhipgcgcbhjoaaGreatDt57
import Derived.WalkKit
import Derived.ProofKit
import Derived.OpenShut
import Derived.ShutString
import Derived.ChangeOld
import Derived.Below
import Derived.Deep.CutRange
namespace Go.Proofs.YtkhipgcgcbhjoaaGreat
namespace Do
set_option maxRecDepth 1000000
set_option maxHeartbeats 8000000
open Od Pr Nf Ma La
def aL (m : Nat) : List Int:=List.replicate m 97
def aS (m : Nat) : ByteArray:=⟨(List.replicate m (97 : UInt8)).toArray⟩
theorem aS_size (m : Nat) : (aS m).size = m:=by simp [aS,ByteArray.size]
theorem tx_aL (m : Nat) : txS (aL m) = aS m:=by
 unfold txS aS;congr 2
 induction m with
 | zero=>rfl
 | succ m ih =>
  show Ut.textL (97 :: aL m) = 97 :: List.replicate m 97
  rw [text_cons,ih,show (Ut.encS 97).data.toList = [97] from by decide +kernel]
  rfl
theorem a_ck : (List.range 70).all (fun m=>((snF (aL m) false == 0) == (decide (1 <= m) && decide (m <= 63))) && !Bi.rtP (ptP (aL m))) = true:=by kernel_rfl
theorem a_sn {m : Nat} (h : m < 70) : (snF (aL m) false = 0 ↔ 1 <= m ∧ m <= 63) ∧ Bi.rtP (ptP (aL m)) = false ∧ snS (aL m) false = aS m:=by
 have:=List.all_eq_true.1 a_ck m (List.mem_range.2 h)
 rw [Bool.and_eq_true,Bool.not_eq_true',beq_iff_eq] at this;refine ⟨?_,this.2,?_⟩
 ·rw [<- beq_iff_eq (a:=snF (aL m) false),this.1,Bool.and_eq_true,decide_eq_true_eq,decide_eq_true_eq]
 ·unfold snS;rw [if_pos (pl_of (fun x hx=>by have:=(List.mem_replicate.1 hx).2; omega)),tx_aL]
theorem a_lbl {m : Nat} (h : m < 70) : Lbl (aL m) ∧ nfcP clsP (aL m) = aL m:=by
 have h1 : ∀ y ∈ aL m,y = 97:=fun y hy=>(List.mem_replicate.1 hy).2
 refine ⟨⟨fun y hy=>by rw [h1 y hy]; decide,fun y hy=>?_,fun hm=>by have:=h1 46 hm; omega,by unfold aL; rw [List.length_replicate]; omega⟩,nfc_asc (fun y hy=>by have:=h1 y hy; omega)⟩
 rw [h1 y hy];exact ⟨(t_asc (by omega) (by omega)).2 (by omega),by omega⟩
def oddB (ms : List Nat) : Bool:=ms.any (fun m=>decide (63 < m) || m == 0)
def lgP (ms : List Nat) (root : Bool) : List Nat × Bool:=if root = true then (ms,true) else if 1 < ms.length ∧ ms.getLastD 1 = 0 then (ms.dropLast,true) else (ms,false)
def lgS (ms : List Nat) (root : Bool) : ByteArray:=clS root (jnS (ms.map aS))
theorem jnS_snoc : ∀ (l : List ByteArray) (a : ByteArray),l ≠ [] -> jnS (l ++ [a]) = jnS l ++ ⟨#[46]⟩ ++ a
 | [],_,h=>absurd rfl h
 | [b],a,_=>rfl
 | b :: c :: l,a,_=>by
  have ih:=jnS_snoc (c :: l) a (by simp)
  show b ++ ⟨#[46]⟩ ++ jnS (c :: l ++ [a]) = b ++ ⟨#[46]⟩ ++ jnS (c :: l) ++ ⟨#[46]⟩ ++ a
  rw [ih];simp only [ByteArray.append_assoc]
theorem lg_sub (ms : List Nat) (root : Bool) : ∀ m ∈ (lgP ms root).1,m ∈ ms:=fun m hm=>by
 unfold lgP at hm;split at hm
 ·exact hm
 ·split at hm
  ·exact List.dropLast_subset _ hm
  ·exact hm
theorem lg_text {ms : List Nat} (h0 : ms ≠ []) (root : Bool) : lgS ms root = clS (lgP ms root).2 (jnS ((lgP ms root).1.map aS)):=by
 unfold lgS lgP;cases root
 ·rw [if_neg (by decide)];split
  ·rename_i h
   obtain ⟨l,z,rfl⟩ : ∃ l z,ms = l ++ [z]:=⟨ms.dropLast,ms.getLast h0,(List.dropLast_concat_getLast h0).symm⟩
   have hz : z = 0:=by
    have:=h.2
    rw [List.getLastD_eq_getLast?] at this;simpa using this
   subst hz;have hl : l ≠ []:=fun e=>by rw [e] at h; simp at h
   simp only [List.dropLast_concat]
   show jnS ((l ++ [0]).map aS) = jnS (l.map aS) ++ ⟨#[46]⟩
   rw [List.map_append,List.map_singleton,jnS_snoc _ _ (by simpa using hl)];show _ ++ aS 0 = _
   rw [show aS 0 = ByteArray.empty from rfl,ByteArray.append_empty]
  ·rfl
 ·rfl
theorem lg_lx {ms : List Nat} (h0 : ms ≠ []) (hm : ∀ m ∈ ms,m < 70) (hn : ms.length <= 8) (root : Bool) : Ut.faultL (lgS ms root).data.toList < 0 ∧ lxL (lgS ms root) = (lgP ms root).1.map aL ∧ rxB (lgS ms root) = (lgP ms root).2 ∧ Rdy (lgS ms root):=by
 have hL : ∀ A ∈ ms.map aL,Lbl A ∧ nfcP clsP A = A:=fun A hA=>by
  obtain ⟨m,h1,rfl⟩:=List.mem_map.1 hA
  exact a_lbl (hm m h1)
 generalize hQ : ms.map aL ++ (if root = true then [[]] else []) = Q
 have hQ0 : Q ≠ []:=by rw [<- hQ]; simp [h0]
 have hQm : ∀ A ∈ Q,Lbl A ∧ nfcP clsP A = A:=fun A hA=>by
  rw [<- hQ] at hA;rcases List.mem_append.1 hA with h | h
  ·exact hL A h
  ·cases root
   ·simp at h
   ·simp at h; subst h
    exact a_lbl (m:=0) (by omega)
 have htx : (ms.map aL).map txS = ms.map aS:=by rw [List.map_map]; exact List.map_congr_left (fun m _=>tx_aL m)
 have hz : (lgS ms root).data.toList = Ut.textL (jnP Q):=by
  rw [<- jn_text,<- hQ];unfold lgS clS;cases root
  ·rw [if_neg (by decide),if_neg (by decide),List.append_nil,htx]
  ·rw [if_pos rfl,if_pos rfl,List.map_append,htx,List.map_singleton,jnS_snoc _ _ (by simpa using h0)];rw [show txS [] = ByteArray.empty from rfl,ByteArray.append_empty]
 have hsc : ∀ y ∈ jnP Q,Ut.scB y = true:=jn_all (P:=fun y=>Ut.scB y = true) (by decide) Q (fun A hA=>(hQm A hA).1.sc)
 obtain ⟨t1,t2⟩:=Ut.text_back (jnP Q) (List.all_eq_true.2 hsc)
 have hmp : mapP (jnP Q) = jnP Q:=map_jn (fun A hA=>(hQm A hA).2) (fun A hA y hy=>((hQm A hA).1.tp y hy).1) (fun A hA y hy=>((hQm A hA).1.tp y hy).2)
 have hsp : splP (jnP Q) = Q:=spl_jn Q hQ0 (fun A hA=>(hQm A hA).1.dt)
 have hlb : lbL (jnP Q) = ((lgP ms root).1.map aL,(lgP ms root).2):=by
  unfold lbL;rw [hsp,<- hQ];unfold lgP;cases root
  ·simp only [Bool.false_eq_true,if_false,List.append_nil,List.length_map]
   have e : (ms.map aL).getLastD [0] = [] ↔ ms.getLastD 1 = 0:=by rw [List.getLastD_eq_getLast?,List.getLastD_eq_getLast?,List.getLast?_map,List.getLast?_eq_some_getLast h0];simp [aL]
   by_cases hc : 1 < ms.length ∧ ms.getLastD 1 = 0
   ·rw [if_pos hc,if_pos ⟨hc.1,e.2 hc.2⟩,<- List.map_dropLast]
   ·rw [if_neg hc,if_neg (fun h=>hc ⟨h.1,e.1 h.2⟩)]
  ·simp only [if_true]
   rw [if_pos ⟨by have:=List.length_pos_iff.2 h0; simp; omega,by rw [List.getLastD_eq_getLast?]; simp⟩,List.dropLast_concat]
 have hlx : lxL (lgS ms root) = (lgP ms root).1.map aL ∧ rxB (lgS ms root) = (lgP ms root).2:=by unfold lxL rxB;rw [hz,t1,hmp,hlb];exact ⟨rfl,rfl⟩
 have hsz : (lgS ms root).size <= 561:=by
  have h1:=jn_size 69 (ms.map aS) (fun s hs=>by
   obtain ⟨m,h1,rfl⟩:=List.mem_map.1 hs
   rw [aS_size];have:=hm m h1; omega)
  rw [List.length_map] at h1;unfold lgS clS;split
  ·rw [ByteArray.size_append,show (⟨#[46]⟩ : ByteArray).size = 1 from rfl]; omega
  ·omega
 have hlen:=(text_long (jnP Q) hsc).1
 rw [<- hz,len_size] at hlen;refine ⟨by rw [hz]; exact t2,hlx.1,hlx.2,by omega,fun _=>by rw [hz,t1,hmp]; omega,fun _ A hA=>?_⟩
 rw [hlx.1] at hA;obtain ⟨m,h1,rfl⟩:=List.mem_map.1 hA
 have:=hm m (lg_sub ms root m h1)
 unfold aL;rw [List.length_replicate]; omega
theorem lg_ta {ms : List Nat} (h0 : ms ≠ []) (hm : ∀ m ∈ ms,m < 70) (hn : ms.length <= 8) (root : Bool) : (oddB (lgP ms root).1 = true -> taE (lgS ms root) = 12 ∧ taS (lgS ms root) = ⟨#[]⟩) ∧
 (oddB (lgP ms root).1 = false -> (253 < (jnS ((lgP ms root).1.map aS)).size -> taE (lgS ms root) = 2 ∧ taS (lgS ms root) = ⟨#[]⟩) ∧ (¬ 253 < (jnS ((lgP ms root).1.map aS)).size -> taE (lgS ms root) = 0 ∧ taS (lgS ms root) = lgS ms root)):=by
 obtain ⟨g1,g2,g3,_⟩:=lg_lx h0 hm hn root
 have hm2 : ∀ m ∈ (lgP ms root).1,m < 70:=fun m h=>hm m (lg_sub ms root m h)
 have htx:=lg_text h0 root
 generalize lgS ms root = z at *;generalize (lgP ms root).2 = r at *;generalize (lgP ms root).1 = l at *;have hb : bdB (l.map aL) = false:=by
  unfold bdB;rw [List.any_map,List.any_eq_false];intro m h1 h2
  have h3 : Bi.rtP (ptP (aL m)) = true:=h2
  rw [(a_sn (hm2 m h1)).2.1] at h3;cases h3
 have hsn : snL false (l.map aL) = l.map aS:=by unfold snL;rw [List.map_map];exact List.map_congr_left (fun m h1=>(a_sn (hm2 m h1)).2.2)
 have hE : taE z = seE (l.map aL) false:=by unfold taE; rw [if_pos g1,g2,hb]
 have hw : (whF false 0 (l.map aL)).2 = 0 ↔ oddB l = false:=by
  rw [wh_zero];unfold oddB;rw [List.any_eq_false];constructor
  ·intro h m h1
   have:=(a_sn (hm2 m h1)).1.1 (h _ (List.mem_map_of_mem h1))
   simp; omega
  ·intro h A hA
   obtain ⟨m,h1,rfl⟩:=List.mem_map.1 hA
   have h2:=h m h1
   simp at h2
   exact (a_sn (hm2 m h1)).1.2 (by omega)
 refine ⟨fun ho=>?_,fun ho=>⟨fun h=>?_,fun h=>?_⟩⟩
 ·have e : taE z = 12:=by
   rw [hE];unfold seE;rw [if_neg (fun e=>by rw [hw.1 e] at ho; cases ho)]
  exact ⟨e,ta_no (by rw [e]; decide)⟩
 ·have e : taE z = 2:=by
   rw [hE];unfold seE;rw [if_pos (hw.2 ho),hsn,if_pos h]
  exact ⟨e,ta_no (by rw [e]; decide)⟩
 ·have e1 : seE (l.map aL) false = 0:=by
   unfold seE;rw [if_pos (hw.2 ho),hsn,if_neg h]
  refine ⟨by rw [hE,e1],?_⟩
  unfold taS;rw [if_pos g1,g2,hb,g3];unfold seS;rw [if_pos e1,hsn,<- htx]
end Do
end Go.Proofs.YtkhipgcgcbhjoaaGreat
namespace Go.Proofs.YtkhipgcgcbhjoaaGreat
namespace Do
open Go.RowKit Od Pr Nf Ma La
theorem row_u8 {w : World} {a : Option Addr} {len cap : Nat} {zs : List Int} (h : (a = none ∧ len = 0 ∧ cap = 0 ∧ zs = []) ∨ ∃ x,a = some x ∧ len <= cap ∧ cap <= maxLen ∧ zs.length = cap ∧ (∀ i,i < zs.length -> w.cell? (x.add i) = some (.int .u8 (zs.getD i 0))) ∧ ∀ n ∈ zs,(Lit.int .u8 n).wf = true) : (zs.take len).length = len ∧ SlP .u8 w a cap (zs.take len) ∧ ∀ y ∈ zs.take len,0 <= y ∧ y <= 255:=by
 rcases h with ⟨rfl,rfl,rfl,rfl⟩ | ⟨x,rfl,hl,hm,hz,hcell,hwz⟩
 ·exact ⟨rfl,⟨Nat.le_refl _,fun _=>⟨rfl,rfl⟩,fun k hk=>by simp at hk⟩,fun y hy=>by simp at hy⟩
 ·have hlen : (zs.take len).length = len:=by rw [List.length_take]; omega
  refine ⟨hlen,⟨by omega,fun e=>(by cases e),fun k hk=>?_⟩,fun y hy=>by have h:=hwz y (List.mem_of_mem_take hy); simp only [Lit.wf,Bool.and_eq_true,decide_eq_true_eq] at h; exact h⟩
  rw [hlen] at hk;obtain ⟨b,off,spot⟩:=x
  have hc:=hcell k (by omega)
  have hspot : spot = none:=by simpa [Addr.add] using World.cell?_spot (hcell 0 (by omega))
  subst hspot;have hadd : (⟨b,off,none⟩ : Addr).add k = ⟨b,off + k,none⟩:=by unfold Addr.add; split <;> simp_all
  rw [hadd] at hc;refine ⟨b,off,rfl,World.block_lt_of_cell? w _ hc,?_⟩
  rw [hc,List.getElem_take];simp [List.getD_eq_getElem?_getD,List.getElem?_eq_getElem (show k < zs.length by omega)]
def mzL (zs : List Int) : List Nat:=zs.map (fun z=>(z % 70).toNat)
theorem mz_lt (zs : List Int) : ∀ m ∈ mzL zs,m < 70:=fun m hm=>by
 obtain ⟨z,_,rfl⟩:=List.mem_map.1 hm
 omega
def bdO (n : Nat) (root : Bool) (k m : Nat) : Bool:=decide (63 < m) || (m == 0 && (decide (k + 1 < n) || n == 1 || root))
def bdF (root : Bool) (ms : List Nat) (k : Nat) : Bool:=(List.range k).any (fun i=>bdO ms.length root i (ms.getD i 0))
theorem bd_next (root : Bool) (ms : List Nat) (k : Nat) (h : k < ms.length) : bdF root ms (k + 1) = (bdF root ms k || bdO ms.length root k ms[k]):=by unfold bdF;rw [List.range_succ,List.any_append];simp [List.getD_eq_getElem?_getD,List.getElem?_eq_getElem h]
theorem bd_odd {ms : List Nat} (h0 : ms ≠ []) (root : Bool) : bdF root ms ms.length = oddB (lgP ms root).1:=by
 have hpos:=List.length_pos_iff.2 h0
 have hF : bdF root ms ms.length = true ↔ ∃ i,∃ h : i < ms.length,bdO ms.length root i ms[i] = true:=by
  unfold bdF;rw [List.any_eq_true];constructor
  ·rintro ⟨i,hi,h⟩;have hi':=List.mem_range.1 hi
   exact ⟨i,hi',by simpa [List.getD_eq_getElem?_getD,List.getElem?_eq_getElem hi'] using h⟩
  ·rintro ⟨i,hi,h⟩;exact ⟨i,List.mem_range.2 hi,by simpa [List.getD_eq_getElem?_getD,List.getElem?_eq_getElem hi] using h⟩
 have hO : ∀ l : List Nat,oddB l = true ↔ ∃ i,∃ h : i < l.length,63 < l[i] ∨ l[i] = 0:=fun l=>by
  unfold oddB;rw [List.any_eq_true];constructor
  ·rintro ⟨m,hm,h⟩;obtain ⟨i,hi,rfl⟩:=List.mem_iff_getElem.1 hm
   exact ⟨i,hi,by simpa using h⟩
  ·rintro ⟨i,hi,h⟩;exact ⟨l[i],List.getElem_mem hi,by simpa using h⟩
 have hB : ∀ i m,bdO ms.length root i m = true ↔ 63 < m ∨ (m = 0 ∧ (i + 1 < ms.length ∨ ms.length = 1 ∨ root = true)):=fun i m=>by unfold bdO;simp [or_assoc]
 rw [Bool.eq_iff_iff,hF,hO];unfold lgP;have hlast : ms.getLastD 1 = ms[ms.length - 1]:=by rw [List.getLastD_eq_getLast?,List.getLast?_eq_some_getLast h0,Option.getD_some,List.getLast_eq_getElem]
 cases root
 ·rw [if_neg (by decide)];by_cases hc : 1 < ms.length ∧ ms.getLastD 1 = 0
  ·rw [if_pos hc];simp only [List.length_dropLast,List.getElem_dropLast]
   constructor
   ·rintro ⟨i,hi,h⟩;rw [hB] at h;by_cases e : i = ms.length - 1
    ·subst e;rw [hlast] at hc;rcases h with h | h
     ·omega
     ·exfalso
      rcases h.2 with h2 | h2 | h2
      ·omega
      ·omega
      ·cases h2
    ·exact ⟨i,by omega,by rcases h with h | h; exact .inl h; exact .inr h.1⟩
   ·rintro ⟨i,hi,h⟩;exact ⟨i,by omega,(hB _ _).2 (by rcases h with h | h; exact .inl h; exact .inr ⟨h,.inl (by omega)⟩)⟩
  ·rw [if_neg hc];constructor
   ·rintro ⟨i,hi,h⟩;rw [hB] at h;exact ⟨i,hi,by rcases h with h | h; exact .inl h; exact .inr h.1⟩
   ·rintro ⟨i,hi,h⟩;have hi2 : i < ms.length:=hi
    refine ⟨i,hi,(hB _ _).2 ?_⟩
    replace h : 63 < ms[i] ∨ ms[i] = 0:=h
    rcases h with h | h
    ·exact .inl h
    ·refine .inr ⟨h,?_⟩
     by_cases e1 : ms.length = 1
     ·exact .inr (.inl e1)
     ·by_cases e : i + 1 < ms.length
      ·exact .inl e
      ·exfalso
       apply hc
       have e2 : i = ms.length - 1:=by omega
       subst e2;exact ⟨by omega,by rw [hlast]; exact h⟩
 ·rw [if_pos rfl];constructor
  ·rintro ⟨i,hi,h⟩;rw [hB] at h;exact ⟨i,hi,by rcases h with h | h; exact .inl h; exact .inr h.1⟩
  ·rintro ⟨i,hi,h⟩;exact ⟨i,hi,(hB _ _).2 (by rcases h with h | h; exact .inl h; exact .inr ⟨h,.inr (.inr rfl)⟩)⟩
def lastB (s : ByteArray) : Bool:=s.data.toList.getLast? == some 46
def alP (s : ByteArray) : Nat:=if lastB s = true then s.size - 1 else s.size
theorem al_eq {ms : List Nat} (h0 : ms ≠ []) (root : Bool) (h : oddB (lgP ms root).1 = false) : alP (lgS ms root) = (jnS ((lgP ms root).1.map aS)).size:=by
 have hne : (lgP ms root).1 ≠ []:=by
  unfold lgP;split
  ·exact h0
  ·split
   ·rename_i hc
    intro e
    have:=congrArg List.length e
    rw [List.length_dropLast] at this;simp at this
    omega
   ·exact h0
 rw [lg_text h0 root];generalize (lgP ms root).2 = r at *;generalize (lgP ms root).1 = l at *;obtain ⟨l2,z,rfl⟩ : ∃ l2 z,l = l2 ++ [z]:=⟨l.dropLast,l.getLast hne,(List.dropLast_concat_getLast hne).symm⟩
 have hz : z ≠ 0:=fun e=>by unfold oddB at h;rw [List.any_eq_false] at h;exact h z (by simp) (by simp [e])
 have hl : lastB (jnS ((l2 ++ [z]).map aS)) = false:=by
  have e1 : ∃ t : ByteArray,jnS ((l2 ++ [z]).map aS) = t ++ aS z:=by
   rw [List.map_append,List.map_singleton];by_cases e : l2 = []
   ·subst e;exact ⟨ByteArray.empty,by rw [ByteArray.empty_append]; rfl⟩
   ·exact ⟨_,jnS_snoc _ _ (by simpa using e)⟩
  obtain ⟨t,e1⟩:=e1
  rw [e1];unfold lastB;obtain ⟨y,rfl⟩ : ∃ y,z = y + 1:=⟨z - 1,by omega⟩
  have e2 : (t ++ aS (y + 1)).data.toList = (t.data.toList ++ List.replicate y 97) ++ [97]:=by
   rw [ByteArray.data_append,Array.toList_append,List.append_assoc];congr 1
   show List.replicate (y + 1) 97 = _
   rw [List.replicate_succ']
  rw [e2,List.getLast?_concat];decide
 cases r
 ·unfold clS alP;rw [if_neg (show ¬ (false = true) by decide),if_neg (by rw [hl]; decide)]
 ·unfold clS alP;rw [if_pos rfl];have : lastB (jnS ((l2 ++ [z]).map aS) ++ ⟨#[46]⟩) = true:=by
   unfold lastB;rw [ByteArray.data_append,Array.toList_append];show (_ ++ [46]).getLast? == some 46
   rw [List.getLast?_concat];decide
  rw [if_pos this,ByteArray.size_append,show (⟨#[46]⟩ : ByteArray).size = 1 from rfl]
  omega
def baS (ms : List Nat) (k : Nat) : ByteArray:=if k = 0 then ⟨#[]⟩ else jnS ((ms.take k).map aS) ++ ⟨#[46]⟩
theorem ba_next (ms : List Nat) (k : Nat) (h : k < ms.length) : jnS ((ms.take (k + 1)).map aS) = baS ms k ++ aS ms[k]:=by
 unfold baS;rw [List.take_succ_eq_append_getElem h,List.map_append,List.map_singleton];by_cases e : k = 0
 ·subst e;rw [if_pos rfl];show aS ms[0] = ByteArray.empty ++ _
  rw [ByteArray.empty_append]
 ·rw [if_neg e,jnS_snoc _ _ (by
   rw [Ne,List.map_eq_nil_iff,List.take_eq_nil_iff];rintro (h1 | h1)
   ·exact e h1
   ·rw [h1] at h; simp at h)]
theorem aS_next (t : ByteArray) (j : Nat) : t ++ aS (j + 1) = t ++ aS j ++ ⟨#[97]⟩:=by
 rw [ByteArray.append_assoc];congr 1
 unfold aS;apply ByteArray.ext
 rw [ByteArray.data_append,List.replicate_succ'];apply Array.ext'
 simp
theorem mz_at (zs : List Int) (k : Nat) (h : k < zs.length) (h2 : k < (mzL zs).length) : (mzL zs)[k] = (zs[k] % 70).toNat:=by simp [mzL]
theorem last_at {s : ByteArray} {y : Nat} (h : s.size = y + 1) (hy : y < s.size) : (((s[y]'hy).toNat : Int) == 46) = lastB s:=by
 have e : s.data.toList.getLast? = some (s[y]'hy):=by
  rw [List.getLast?_eq_getElem?,len_size,h,Nat.add_sub_cancel,List.getElem?_eq_getElem (by rw [len_size]; exact hy)]
  rfl
 unfold lastB;rw [e,Bool.eq_iff_iff,beq_iff_eq,beq_iff_eq,Option.some.injEq];constructor
 ·intro h2
  apply UInt8.toNat.inj
  show _ = 46
  omega
 ·intro h2
  rw [h2]; rfl
theorem jl_size {ms : List Nat} (hm : ∀ m ∈ ms,m < 70) (hn : ms.length <= 8) (k : Nat) : (jnS ((ms.take k).map aS)).size <= 560 ∧ (baS ms k).size <= 561:=by
 have h1:=jn_size 69 ((ms.take k).map aS) (fun s hs=>by
  obtain ⟨m,h1,rfl⟩:=List.mem_map.1 hs
  rw [aS_size];have:=hm m (List.mem_of_mem_take h1); omega)
 rw [List.length_map,List.length_take] at h1;refine ⟨by omega,?_⟩
 unfold baS;split
 ·simp [ByteArray.size]
 ·rw [ByteArray.size_append,show (⟨#[46]⟩ : ByteArray).size = 1 from rfl]; omega
theorem long_any {w : World} {a0 : Option Addr} {len0 cap0 : Nat} {zs : List Int} (a1 : Bool) (hlen : zs.length = len0) (hS : Od.SlP .u8 w a0 cap0 zs) (hZ : ∀ y ∈ zs,0 <= y ∧ y <= 255) (hn8 : len0 <= 8) (hn0 : 0 < len0) :
 Calls Tryz.prog 11 #[.slice a0 len0 cap0,.bool a1] w fun e w'=>e = .returned (.bool true) ∧ Below w.heap.size w w':=by
 have HSl:=La.hr hS
 have HZ:=La.hr hZ
 have HLen:=La.hr hlen
 have HO:=La.hr (Ok.start w);have HNa:=La.hr (names_any w);have zl : ¬ (8 : Int) < (len0 : Int):=by omega
 have zl0 : ((len0 : Int) == 0) = false:=beq_eq_false_iff_ne.2 (by omega)
 have HMl : Hid ((mzL zs).length = len0):=by show _ = _; unfold mzL; rw [List.length_map,hlen]
 have HMk:=La.hr (mz_at zs);have HMt:=La.hr (mz_lt zs);generalize mzL zs = ms at *;clear hS hZ hlen;go_enter Tryz.func11,Tryz.ntmps11
 go_wp2_with fail;refine HNa.out.mono ?_;rintro e W1 ⟨nm,b,m,f,c,g,j,k,p,d,u,s,rfl,hN,hB,hb⟩;have HN:=La.hr hN
 have HB:=La.hr hB
 replace HO:=La.hr (HO.out.step hb);clear hb hN hB HNa;go_wp2_with fail;have HMs : Hid (∀ k,(jnS ((ms.take k).map aS)).size <= 560 ∧ (baS ms k).size <= 561):=fun k=>jl_size HMt.out (by rw [HMl.out]; exact hn8) k
 go_loopg [6,7,29] len0 (fun gg vs vb vi wr=>∃ k : Nat,vi = .int .i64 k ∧ k <= len0 ∧ gg = len0 - k ∧ (∃ t,vs = .string t ∧ Hid (t = jnS ((ms.take k).map aS))) ∧ (∃ q,vb = .bool q ∧ Hid (q = bdF a1 ms k)) ∧ wr = W1)
 case atStart=>exact ⟨0,rfl,Nat.zero_le _,rfl,⟨_,rfl,rfl⟩,⟨_,rfl,rfl⟩,rfl⟩
 case round =>
  obtain ⟨k,rfl,hk,hg,⟨t,rfl,HTx⟩,⟨q,rfl,HQ⟩,rfl⟩:=hrel
  have HG:=La.hr hg
  have hts : t.size <= 560:=by rw [HTx.out]; exact (HMs.out k).1
  clear hg;by_cases hlt : k < len0
  ·have hkz : k < zs.length:=by rw [HLen.out]; exact hlt
   have hkm : k < ms.length:=by rw [HMl.out]; exact hlt
   obtain ⟨g1,off1,rfl,hg1,c1⟩:=HSl.out.at_ k hkz
   have d1:=(HO.out.1.cell (p:=⟨g1,off1 + k,none⟩) hg1).trans c1
   have HE:=La.hr (HMk.out k hkz hkm);have hz:=HZ.out _ (List.getElem_mem hkz)
   have HBn:=La.hr (bd_next a1 ms k hkm);have HBa:=La.hr (ba_next ms k hkm);have hmk:=HMt.out _ (List.getElem_mem hkm)
   have ht : zs[k].tmod 70 = ((ms[k] : Nat) : Int):=by rw [HE.out,Int.tmod_eq_emod_of_nonneg hz.1]; omega
   generalize zs[k] = z at *;generalize ms[k] = mk at *;have z1 : (k : Int) < (len0 : Int):=by omega
   clear c1;go_upto_if 35 with fail
   go_cut [6] from 30 to 71 (fun v wx=>(∃ t,v = .string t ∧ Hid (t = baS ms k)) ∧ wx = wr)
   case first =>
    by_cases hk0 : k = 0
    ·have zk : ¬ (0 : Int) < (k : Int):=by omega
     have HBs : Hid (t = baS ms k):=by show _ = _; rw [HTx.out,hk0]; rfl
     clear hk0;go_wp2_with fail;go_meet
     case rel=>exact ⟨⟨_,rfl,HBs⟩,rfl⟩
    ·have zk : (0 : Int) < (k : Int):=by omega
     have HBs : Hid (t ++ ⟨#[46]⟩ = baS ms k):=by show _ = _; rw [HTx.out]; exact (if_neg hk0).symm
     clear hk0;go_wp2_with fail;go_meet
     case rel=>exact ⟨⟨_,rfl,HBs⟩,rfl⟩
   case rest =>
   obtain ⟨⟨bs,rfl,HBs⟩,rfl⟩:=hcut
   have hbz : bs.size <= 561:=by rw [HBs.out]; exact (HMs.out k).2
   rw [<- HBs.out] at HBa;go_wp2_with fail;go_loopg [6,42] mk (fun gg vs vi wi=>∃ j : Nat,vi = .int .i64 j ∧ j <= mk ∧ gg = mk - j ∧ (∃ t,vs = .string t ∧ Hid (t = bs ++ aS j)) ∧ wi = wc)
   case atStart=>exact ⟨0,rfl,Nat.zero_le _,rfl,⟨_,rfl,(show bs = bs ++ ByteArray.empty by rw [ByteArray.append_empty])⟩,rfl⟩
   case round =>
    obtain ⟨j2,rfl,hj2,hg2,⟨t2,rfl,HT2⟩,rfl⟩:=hrel
    have HG2:=La.hr hg2
    have ht2 : t2.size <= 700:=by rw [HT2.out,ByteArray.size_append,aS_size]; omega
    clear hg2;by_cases hlt2 : j2 < mk
    ·have z2 : (j2 : Int) < (mk : Int):=by omega
     have HT3 : Hid (t2 ++ ⟨#[97]⟩ = bs ++ aS (j2 + 1)):=by show _ = _; rw [aS_next,HT2.out]
     go_wp2_with fail;go_roundg (mk - (j2 + 1))
     case measure=>rw [HG2.out]; omega
     case rel=>exact ⟨j2 + 1,by go_num,by omega,rfl,⟨_,rfl,HT3⟩,rfl⟩
    ·have e : j2 = mk:=by omega
     subst e;have z2 : ¬ (j2 : Int) < (j2 : Int):=by omega
     replace HT2 : Hid (t2 = jnS ((ms.take (k + 1)).map aS)):=by show _ = _; rw [HT2.out,HBa.out]
     clear HBa hlt2;cases q
     ·by_cases h63 : 63 < j2
      ·have z63 : (63 : Int) < (j2 : Int):=by omega
       have HQ2 : Hid (true = bdF a1 ms (k + 1)):=by show _ = _;rw [HBn.out,<- HQ.out,HMl.out];unfold bdO;simp [h63]
       clear HQ HBn h63;go_wp2_with fail;go_roundg (len0 - (k + 1))
       case measure=>rw [HG.out]; omega
       case rel=>exact ⟨k + 1,by go_num,by omega,rfl,⟨_,rfl,HT2⟩,⟨_,rfl,HQ2⟩,rfl⟩
      ·have z63 : ¬ (63 : Int) < (j2 : Int):=by omega
       by_cases hm0 : j2 = 0
       ·by_cases hkn : k + 1 < len0
        ·have zkn : (k : Int) < (len0 : Int) - 1:=by omega
         subst hm0;have HQ2 : Hid (true = bdF a1 ms (k + 1)):=by show _ = _;rw [HBn.out,<- HQ.out,HMl.out];unfold bdO;simp [hkn]
         clear HQ HBn hkn;go_wp2_with fail;go_roundg (len0 - (k + 1))
         case measure=>rw [HG.out]; omega
         case rel=>exact ⟨k + 1,by go_num,by omega,rfl,⟨_,rfl,HT2⟩,⟨_,rfl,HQ2⟩,rfl⟩
        ·have zkn : ¬ (k : Int) < (len0 : Int) - 1:=by omega
         subst hm0;by_cases hn1 : len0 = 1
         ·have zn1 : ((len0 : Int) == 1) = true:=by rw [hn1]; rfl
          have HQ2 : Hid (true = bdF a1 ms (k + 1)):=by show _ = _;rw [HBn.out,<- HQ.out,HMl.out];unfold bdO;simp [hn1]
          clear HQ HBn hkn hn1;go_wp2_with fail;go_roundg (len0 - (k + 1))
          case measure=>rw [HG.out]; omega
          case rel=>exact ⟨k + 1,by go_num,by omega,rfl,⟨_,rfl,HT2⟩,⟨_,rfl,HQ2⟩,rfl⟩
         ·have zn1 : ((len0 : Int) == 1) = false:=beq_eq_false_iff_ne.2 (by omega)
          cases a1
          ·have HQ2 : Hid (false = bdF false ms (k + 1)):=by
            show _ = _;rw [HBn.out,<- HQ.out,HMl.out];unfold bdO;simp [hkn,hn1]
           clear HQ HBn hkn hn1;go_wp2_with fail;go_roundg (len0 - (k + 1))
           case measure=>rw [HG.out]; omega
           case rel=>exact ⟨k + 1,by go_num,by omega,rfl,⟨_,rfl,HT2⟩,⟨_,rfl,HQ2⟩,rfl⟩
          ·have HQ2 : Hid (true = bdF true ms (k + 1)):=by
            show _ = _;rw [HBn.out,<- HQ.out,HMl.out];unfold bdO;simp
           clear HQ HBn hkn hn1;go_wp2_with fail;go_roundg (len0 - (k + 1))
           case measure=>rw [HG.out]; omega
           case rel=>exact ⟨k + 1,by go_num,by omega,rfl,⟨_,rfl,HT2⟩,⟨_,rfl,HQ2⟩,rfl⟩
       ·have zm0 : ((j2 : Int) == 0) = false:=beq_eq_false_iff_ne.2 (by omega)
        have HQ2 : Hid (false = bdF a1 ms (k + 1)):=by show _ = _;rw [HBn.out,<- HQ.out,HMl.out];unfold bdO;simp [h63,hm0]
        clear HQ HBn h63 hm0;go_wp2_with fail;go_roundg (len0 - (k + 1))
        case measure=>rw [HG.out]; omega
        case rel=>exact ⟨k + 1,by go_num,by omega,rfl,⟨_,rfl,HT2⟩,⟨_,rfl,HQ2⟩,rfl⟩
     ·have HQ2 : Hid (true = bdF a1 ms (k + 1)):=by
       show _ = _;rw [HBn.out,<- HQ.out,HMl.out];unfold bdO;simp
      clear HQ HBn;go_wp2_with fail;go_roundg (len0 - (k + 1))
      case measure=>rw [HG.out]; omega
      case rel=>exact ⟨k + 1,by go_num,by omega,rfl,⟨_,rfl,HT2⟩,⟨_,rfl,HQ2⟩,rfl⟩
  ·have e : k = len0:=by omega
   subst e;have z1 : ¬ (k : Int) < (k : Int):=by omega
   have hk0 : ms ≠ []:=fun e=>by have h:=HMl.out; rw [e] at h; simp at h; omega
   have HTx2 : Hid (t = jnS (ms.map aS)):=by show _ = _; rw [HTx.out,<- HMl.out,List.take_length]
   have HQ2 : Hid (q = oddB (lgP ms a1).1):=by show _ = _; rw [HQ.out,<- bd_odd hk0 a1,HMl.out]
   have HTa:=La.hr (lg_ta hk0 HMt.out (by rw [HMl.out]; exact hn8) a1)
   have HAl:=La.hr (al_eq hk0 a1);have HRy:=La.hr (lg_lx hk0 HMt.out (by rw [HMl.out]; exact hn8) a1).2.2.2
   have HLg : Hid (lgS ms a1 = clS a1 t):=by show _ = _; rw [HTx2.out]; rfl
   clear HTx HQ hk0;generalize hsz : (jnS ((lgP ms a1).1.map aS)).size = jz at *;generalize oddB (lgP ms a1).1 = od at *;generalize lgS ms a1 = lg at *;clear hsz
   have hqo:=HQ2.out
   subst hqo;clear HQ2 HTx2 HMk HMs HMt HMl HZ HSl HLen;go_upto_if 72 with fail
   go_cut [6] from 72 to 74 (fun v wx=>v = .string lg ∧ wx = wr)
   case first =>
    have HLg2:=HLg.out
    subst HLg2;cases a1
    ·go_wp2_with fail;go_meet
     case rel=>exact ⟨rfl,rfl⟩
    ·go_wp2_with fail;go_meet
     case rel=>exact ⟨rfl,rfl⟩
   case rest =>
   obtain ⟨rfl,rfl⟩:=hcut
   have hlz : lg.size <= 5000:=HRy.out.sz
   go_upto_region 23 with fail
   go_cut [11,85] from 75 to 85 (fun v11 v wx=>v11 = .int .i64 (lg.size : Int) ∧ v = .bool (lastB lg) ∧ wx = wc)
   case first =>
    by_cases h0 : lg.size = 0
    ·have z0 : ¬ (0 : Int) < (lg.size : Int):=by omega
     have HLb : Hid (false = lastB lg):=by
      show _ = _;have : lg.data.toList = []:=List.eq_nil_of_length_eq_zero (by rw [len_size]; exact h0)
      unfold lastB;rw [this]; rfl
     have h0c : Hid (lg.size = 0):=h0
     clear h0;go_wp2_with fail;go_meet
     case rel=>exact ⟨by rw [h0c.out],by rw [HLb.out],rfl⟩
    ·have z0 : (0 : Int) < (lg.size : Int):=by omega
     obtain ⟨y,hy⟩ : ∃ y,lg.size = y + 1:=⟨lg.size - 1,by omega⟩
     clear h0;have hyc : Hid (lg.size = y + 1):=hy
     go_wp2_with fail;go_meet
     case rel =>
      exact ⟨by rw [hyc.out]; rfl,by rw [last_at hyc.out],rfl⟩
   case rest =>
   obtain ⟨rfl,rfl,rfl⟩:=hcut
   have HLa : Hid (alP lg = if lastB lg = true then lg.size - 1 else lg.size):=rfl
   have HLn : Hid (lastB lg = true -> 0 < lg.size):=fun h=>by
    have h2 : lg.size ≠ 0:=fun e=>by
     have : lg.data.toList = []:=List.eq_nil_of_length_eq_zero (by rw [len_size]; exact e)
     unfold lastB at h;rw [this] at h;cases h
    omega
   go_upto_if 85 with fail
   go_cut [11] from 86 to 87 (fun v wx=>v = .int .i64 (alP lg : Int) ∧ wx = wc)
   case first =>
    generalize lastB lg = lb at *;cases lb
    ·have HLa2 : Hid (alP lg = lg.size):=by show _ = _; rw [HLa.out]; rfl
     go_wp2_with fail;go_meet
     case rel=>exact ⟨by rw [HLa2.out],rfl⟩
    ·have HLa2 : Hid (((lg.size : Int) - 1) = (alP lg : Int)):=by show _ = _; rw [HLa.out,if_pos rfl]; have:=HLn.out rfl; omega
     have hpos:=HLn.out rfl
     go_wp2_with fail;go_meet
     case rel=>exact ⟨by rw [<- HLa2.out],rfl⟩
   case rest =>
   obtain ⟨rfl,rfl⟩:=hcut
   clear HLa HLn;have HA:=La.hr (toascii_any HN.out HB.out HRy.out);cases q
   ·have HA2:=La.hr (HAl.out rfl);obtain ⟨t1,t2⟩:=HTa.out.2 rfl
    rw [HA2.out];by_cases h253 : 253 < jz
    ·have z253 : (253 : Int) < (jz : Int):=by omega
     rw [(t1 h253).1,(t1 h253).2] at HA;clear t1 t2 HTa HAl HRy h253 HLg;go_wp2_with fail;refine HA.out.mono ?_;rintro e W2 ⟨rfl,hb⟩;replace HN:=La.hr (HN.out.step hb)
     replace HB:=La.hr (HB.out.step hb);replace HO:=La.hr (HO.out.step hb);clear hb HA;go_wp2_with fail;refine (awake_any HN.out HB.out).mono ?_;rintro e w' ⟨rfl,hb⟩
     replace HO:=La.hr (HO.out.step hb);clear hb;go_wp2_with fail;go_ret;exact ⟨rfl,HO.out.1⟩
    ·have z253 : ¬ (253 : Int) < (jz : Int):=by omega
     rw [(t2 h253).1,(t2 h253).2] at HA;clear t1 t2 HTa HAl HRy h253 HLg;go_wp2_with fail;refine HA.out.mono ?_;rintro e W2 ⟨rfl,hb⟩;replace HN:=La.hr (HN.out.step hb)
     replace HB:=La.hr (HB.out.step hb);replace HO:=La.hr (HO.out.step hb);clear hb HA;go_wp2_with fail;refine (awake_any HN.out HB.out).mono ?_;rintro e w' ⟨rfl,hb⟩
     replace HO:=La.hr (HO.out.step hb);clear hb;go_wp2_with fail;go_ret;exact ⟨rfl,HO.out.1⟩
   ·obtain ⟨t1,t2⟩:=HTa.out.1 rfl
    rw [t1,t2] at HA;clear t1 t2 HTa HAl HRy HLg;go_wp2_with fail;refine HA.out.mono ?_;rintro e W2 ⟨rfl,hb⟩;replace HN:=La.hr (HN.out.step hb);replace HB:=La.hr (HB.out.step hb)
    replace HO:=La.hr (HO.out.step hb);clear hb HA;go_wp2_with fail;refine (awake_any HN.out HB.out).mono ?_;rintro e w' ⟨rfl,hb⟩;replace HO:=La.hr (HO.out.step hb)
    clear hb;go_wp2_with fail;go_ret;exact ⟨rfl,HO.out.1⟩
theorem long_far (w : World) (a0 : Option Addr) (len0 cap0 : Nat) (a1 : Bool) (zl : (8 : Int) < (len0 : Int)) :
 Calls Tryz.prog 11 #[.slice a0 len0 cap0,.bool a1] w fun e w'=>e = .returned (.bool true) ∧ Below w.heap.size w w':=by
 have HO:=La.hr (Ok.start w);have HNa:=La.hr (names_any w);go_enter Tryz.func11,Tryz.ntmps11
 go_wp2_with fail;refine HNa.out.mono ?_;rintro e W1 ⟨nm,b,m,f,c,g,j,k,p,d,u,s,rfl,hN,hB,hb⟩;have HN:=La.hr hN
 have HB:=La.hr hB
 replace HO:=La.hr (HO.out.step hb);clear hb hN hB HNa;go_wp2_with fail;refine (awake_any HN.out HB.out).mono ?_;rintro e w' ⟨rfl,hb⟩;replace HO:=La.hr (HO.out.step hb)
 clear hb;go_wp2_with fail;go_ret;exact ⟨rfl,HO.out.1⟩
theorem long_none (w : World) (a0 : Option Addr) (cap0 : Nat) (a1 : Bool) :
 Calls Tryz.prog 11 #[.slice a0 0 cap0,.bool a1] w fun e w'=>e = .returned (.bool true) ∧ Below w.heap.size w w':=by
 have HO:=La.hr (Ok.start w);have HNa:=La.hr (names_any w);go_enter Tryz.func11,Tryz.ntmps11
 go_wp2_with fail;refine HNa.out.mono ?_;rintro e W1 ⟨nm,b,m,f,c,g,j,k,p,d,u,s,rfl,hN,hB,hb⟩;have HN:=La.hr hN
 have HB:=La.hr hB
 replace HO:=La.hr (HO.out.step hb);clear hb hN hB HNa;go_wp2_with fail;refine (awake_any HN.out HB.out).mono ?_;rintro e w' ⟨rfl,hb⟩;replace HO:=La.hr (HO.out.step hb)
 clear hb;go_wp2_with fail;go_ret;exact ⟨rfl,HO.out.1⟩
end Do
end Go.Proofs.YtkhipgcgcbhjoaaGreat
namespace Go.Proofs.YtkhipgcgcbhjoaaGreat.domainLong
open Go.ChangeShapes Go.WideShapes Go.ChangeAt Go.RowKit
open Go.ChangeMaps (open_string shut_string)
set_option linter.unusedVariables false

theorem own : ownKnob Tryz.prog.godebug = none := by kernel_rfl
theorem laidOut : laidOutB Tryz.prog = true := by kernel_rfl

/-- WHAT THE WALK IS TOLD OF A SLICE OF INTEGERS THAT CAME IN: it is nil; or it leads to a row of 'cap' cells, the numbers 'zs' (the first 'len' are its elements, the rest its spare room), each fitting its kind. -/
def IsRow (k : IntKind) (w : World) (a : Option Addr) (len cap : Nat) (zs : List Int) : Prop :=
  (a = none ∧ len = 0 ∧ cap = 0 ∧ zs = []) ∨
  ∃ x, a = some x ∧ len ≤ cap ∧ cap ≤ maxLen ∧ zs.length = cap ∧ (∀ i, i < zs.length → w.cell? (x.add i) = some (.int k (zs.getD i 0))) ∧ ∀ n ∈ zs, (Lit.int k n).wf = true

open Do in
theorem walk (a0 : Option Addr) (len0 cap0 : Nat) (z0 : List Int) (a1 : Bool) (w : World) (w0 : IsRow .u8 w a0 len0 cap0 z0) :
    Calls Tryz.prog 11 #[.slice a0 len0 cap0, .bool a1] w fun e w' => e = .returned (.bool true) ∧ Below w.heap.size w w' := by
  obtain ⟨hlen, hS, hZ⟩ := row_u8 w0
  by_cases hl : 8 < len0
  · exact long_far w a0 len0 cap0 a1 (by omega)
  · by_cases h0 : len0 = 0
    · subst h0
      exact long_none w a0 cap0 a1
    · exact long_any a1 hlen hS hZ (by omega) (by omega)

set_option maxRecDepth 100000 in
theorem lifted (os : Os) (started : os.Started) (H : Type) (enc : TypeId × Value → H) :
    ReturnsInHanded {} Tryz.checked os 11 .any (Rows.domainLongSpec.pre6 enc Tryz.prog Tryz.f11 Rows.domainLongRow.domain false) (Rows.domainLongSpec.post enc Tryz.prog Tryz.f11 false true false false) := by
  refine returnsInHanded_of_change (C := Tryz.checked) own started (by kernel_rfl) Tryz.func11
    (ChangeSpec.witness6 (enc := enc) (C := Tryz.checked) false ⟨#[], #[.slice none 0 0, .bool false], []⟩ 8 (by kernel_rfl) (by kernel_rfl) (by kernel_rfl) (by kernel_rfl)) ?_
  intro W base args ds gs before hval0 hW hcnd _
  have hval : ∀ (j : Nat) t v, Tryz.f11.params[j]? = some t → args[j]? = some v → Value.okWide Tryz.prog W .any base t v := hval0
  have hW' := hW
  obtain ⟨p, q, hA0, hV, rfl, hfz, hnd⟩ := hW
  have hA : DataW.TrodAll enc Tryz.prog W 0 (fun _ => true) true Tryz.f11.params.toList args.toList ds p := hA0
  rw [Tryz.params11] at hA hval
  obtain ⟨v0, vs0, d0, ds0, p0, q0, hargs, rfl, rfl, h0, r0⟩ := trodAll_cons hA
  obtain ⟨v1, vs1, d1, ds1, p1, q1, rfl, rfl, rfl, h1, r1⟩ := trodAll_cons r0
  obtain ⟨rfl, rfl, rfl⟩ := trodAll_nil r1
  obtain rfl : args = #[v0, v1] := by cases args; simp_all
  obtain ⟨rfl, rfl⟩ := trodVars_none hV
  obtain ⟨a0, len0, cap0, rfl⟩ := okWide_slice Tryz.underlying61 (hval 0 61 v0 rfl rfl)
  have k0 := h0
  have lt0 : ∀ x ∈ p0, x.block < W.heap.size := by obtain ⟨m, hm⟩ := k0; exact DataW.trod_lt m _ _ _ hm
  obtain ⟨z0, w0⟩ : ∃ zs, IsRow .u8 W a0 len0 cap0 zs := by
    obtain ⟨fuel, hf⟩ := h0
    rcases open_ints Tryz.underlying61 Tryz.underlying5 (by kernel_rfl) hf with ⟨hcs, _⟩ | ⟨x, l, c, zs, hcs, _, hl, hm, hz, _, hcell, hwz⟩
    · simp [Value.cells] at hcs
      obtain ⟨rfl, rfl, rfl⟩ := hcs
      exact ⟨[], .inl ⟨rfl, rfl, rfl, rfl⟩⟩
    · simp [Value.cells] at hcs
      obtain ⟨rfl, rfl, rfl⟩ := hcs
      exact ⟨zs, .inr ⟨_, rfl, hl, hm, by simpa using hz, hcell, hwz⟩⟩
  obtain ⟨a1, rfl, rfl, rfl⟩ := open_bool Tryz.underlying4 (hval 1 4 v1 rfl rfl) h1
  clear hA0 hval0
  refine (walk a0 len0 cap0 z0 a1 W w0).mono fun e W' ⟨he, bel⟩ => ?_
  subst he
  exact ⟨_, rfl, _, _, _, [], _, [], hW', trodAll_mk1 (shut_bool Tryz.underlying4 _), (trodAll_cons_mk (Below.trod laidOut (by kernel_rfl) (of_decide_eq_true (by kernel_rfl)) k0 bel lt0) (trodAll_cons_mk (shut_bool Tryz.underlying4 _) trodAll_mk0)), rfl, bel.frame _, fun h => by cases h⟩

theorem over : Rows.domainLongRow.holds Tryz.pinned (OpenSpec.ofChange Rows.domainLongSpec) :=
  OpenClaim.holds_of_wide 11 Tryz.f11 rfl rfl rfl rfl rfl rfl rfl ⟨rfl, rfl, rfl, rfl, rfl⟩ rfl rfl rfl rfl rfl (by kernel_rfl) Tryz.func11 (by kernel_rfl)
    (of_decide_eq_true (by kernel_rfl)) (by unfold Func.isWrapper; first | (rw [if_pos (by decide +kernel)]; kernel_rfl) | (rw [if_neg (by decide +kernel)]; exact ⟨rfl, rfl⟩))
    (fun os started H enc _ => lifted os started H enc)

end Go.Proofs.YtkhipgcgcbhjoaaGreat.domainLong
namespace Go.Proofs.YtkhipgcgcbhjoaaGreat
theorem domainLong_holds : Rows.DomainLongSaid := domainLong.over
#print axioms domainLong_holds
end Go.Proofs.YtkhipgcgcbhjoaaGreat
