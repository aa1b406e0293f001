import Derived.Test.YtkhipgcgcbhjoaaGreatLa33
import Derived.Test.YtkhipgcgcbhjoaaGreatLa44
import Derived.Test.YtkhipgcgcbhjoaaGreatLa53
set_option maxRecDepth 100000
set_option maxHeartbeats 4000000
namespace Go.Proofs.YtkhipgcgcbhjoaaGreat
namespace La
open Go.RowKit Od Nf Pu
theorem del_len2 {zs : List Int} (hl : zs.length <= 127) : ∀ (rest : List Int) (s : ES),s.Ok zs rest -> (delL zs s rest).length <= 11 * rest.length
 | [],_,_=>by simp [delL]
 | p :: rest,s,h=>by
  have ih:=del_len2 hl rest _ (h.next hl)
  show (wrP (s.d zs p) s.bias ++ delL zs (s.step zs p) rest).length <= _
  have h2:=(h.head hl).2.1
  have h3 : (wrP (s.d zs p) s.bias).length <= 9 + 1:=wr_short 9 _ _ _ _ (h.head hl).1 (by show _ < (1000000000 : Int); omega)
  rw [List.length_append,List.length_cons];omega
theorem enc_len2 {zs : List Int} (hl : zs.length <= 127) (hz : ∀ z ∈ zs,0 <= z ∧ z <= 1114111) : (encP zs).length <= 2000:=by
 rw [enc_shape,List.length_append];have h1:=del_len2 hl _ _ (ES.start_ok zs hz)
 have h2:=ord_cnt hz
 split
 ·simp; omega
 ·rw [List.length_append]; simp; omega
def enS (X : List Int) : ByteArray:=xn ++ byt (encP X)
theorem enS_size (X : List Int) : (enS X).size = 4 + (encP X).length:=by unfold enS;rw [ByteArray.size_append,byt_size]; rfl
theorem encode_bad {w : World} {v : Value} {X : List Int} (hS : Sl .i32 w v X) (hn : X.length <= 120) (h : X.any byB = true) :
 Calls Tryz.prog 67 #[v] w fun e w'=>e = .returned (.tuple #[.string ⟨#[]⟩,.bool false]) ∧ Below w.heap.size w w':=by
 have HE:=hr (enc_bad hS hn h);clear hS h;go_enter Tryz.func67,Tryz.ntmps67
 go_wp2_with fail;refine HE.out.mono ?_;rintro e w1 ⟨rfl,hb⟩;have HB:=hr hb
 clear hb;go_wp2_with fail;go_ret2;exact ⟨rfl,HB.out⟩
theorem encode_ok {w : World} {v : Value} {X : List Int} (hS : Sl .i32 w v X) (hn : X.length <= 120) (h : ∀ z ∈ X,0 <= z ∧ z <= 1114111) :
 Calls Tryz.prog 67 #[v] w fun e w'=>e = .returned (.tuple #[.string (enS X),.bool true]) ∧ Below w.heap.size w w':=by
 have HE:=hr (enc_ok hS hn h (fun x hx=>by have:=enc_mem (by omega) h x hx; omega))
 have HS : Hid (enS X = ⟨#[120,110,45,45]⟩ ++ byt (encP X)):=rfl
 have hsz : (byt (encP X)).size <= 2000:=by rw [byt_size]; exact enc_len2 (by omega) h
 clear hS h;generalize byt (encP X) = t at *;go_enter Tryz.func67,Tryz.ntmps67
 go_wp2_with fail;refine HE.out.mono ?_;rintro e w1 ⟨rfl,hb⟩;have HB:=hr hb
 clear hb;go_wp2_with fail;go_ret2;refine ⟨?_,HB.out⟩
 rw [HS.out]; rfl
def toF (X : List Int) (q : Bool) : Int:=if faP X q = 0 then (if X.any byB = true then 12 else if 63 < (enS X).size then 10 else 0) else faP X q
def toS (X : List Int) (q : Bool) : ByteArray:=if toF X q = 0 then enS X else ⟨#[]⟩
theorem toS_no {X : List Int} {q : Bool} (h : toF X q ≠ 0) : toS X q = ⟨#[]⟩:=if_neg h
theorem toold_any {w : World} {c b f j g p d u s : Nat} (hC : Ck w c b f j g p d u s) {v : Value} {X : List Int} (hS : Sl .i32 w v X) (hI : ∀ x ∈ X,Pr.I32 x) (hn : X.length <= 120) (q : Bool) :
 Calls Tryz.prog 24 #[.pointer (some ⟨c,0,none⟩),v,.bool q] w fun e w'=>e = .returned (.tuple #[.string (toS X q),.int .i64 (toF X q)]) ∧ Below w.heap.size w w':=by
 have HF:=hr (fault_any hC hS hI (by omega) q);have HO:=hr (Ok.start w);by_cases h0 : faP X q = 0
 ·rw [h0] at HF;by_cases hb : X.any byB = true
  ·have HE:=hr (fun (W : World) (h : Below w.heap.size w W)=>encode_bad (hS.step h) hn hb)
   have HT : Hid (toF X q = 12):=by show _ = _; unfold toF; rw [if_pos h0,if_pos hb]
   have HT2 : Hid (toS X q = ⟨#[]⟩):=toS_no (by rw [HT.out]; decide)
   clear hb h0 hS hC hI;go_enter Tryz.func24,Tryz.ntmps24
   go_wp2_with fail;refine HF.out.mono ?_;rintro e w1 ⟨rfl,hb⟩;replace HO:=hr (HO.out.step hb);clear hb HF;go_wp2_with fail;refine (HE.out _ HO.out.1).mono ?_
   rintro e w2 ⟨rfl,hb⟩;replace HO:=hr (HO.out.step hb);clear hb HE;go_wp2_with fail;go_ret2;refine ⟨?_,HO.out.1⟩
   rw [HT.out,HT2.out]; rfl
  ·have hz:=any_no (Bool.eq_false_iff.2 hb)
   have HE:=hr (fun (W : World) (h : Below w.heap.size w W)=>encode_ok (hS.step h) hn hz)
   have HT : Hid (toF X q = if 63 < (enS X).size then 10 else 0):=by show _ = _; unfold toF; rw [if_pos h0,if_neg hb]
   have HT2 : Hid (toS X q = if toF X q = 0 then enS X else ⟨#[]⟩):=rfl
   clear hb h0 hS hC hI hz;generalize enS X = t at *;by_cases h63 : 63 < t.size
   ·rw [if_pos h63] at HT;rw [HT.out,if_neg (by decide)] at HT2;have z1 : (63 : Int) < t.size:=by omega
    clear h63;go_enter Tryz.func24,Tryz.ntmps24
    go_wp2_with fail;refine HF.out.mono ?_;rintro e w1 ⟨rfl,hb⟩;replace HO:=hr (HO.out.step hb);clear hb HF;go_wp2_with fail;refine (HE.out _ HO.out.1).mono ?_
    rintro e w2 ⟨rfl,hb⟩;replace HO:=hr (HO.out.step hb);clear hb HE;go_wp2_with fail;go_ret2;refine ⟨?_,HO.out.1⟩
    rw [HT.out,HT2.out]; rfl
   ·rw [if_neg h63] at HT;rw [HT.out,if_pos rfl] at HT2;have z1 : ¬ (63 : Int) < t.size:=by omega
    clear h63;go_enter Tryz.func24,Tryz.ntmps24
    go_wp2_with fail;refine HF.out.mono ?_;rintro e w1 ⟨rfl,hb⟩;replace HO:=hr (HO.out.step hb);clear hb HF;go_wp2_with fail;refine (HE.out _ HO.out.1).mono ?_
    rintro e w2 ⟨rfl,hb⟩;replace HO:=hr (HO.out.step hb);clear hb HE;go_wp2_with fail;go_ret2;refine ⟨?_,HO.out.1⟩
    rw [HT.out,HT2.out]; rfl
 ·have HT : Hid (toF X q = faP X q):=if_neg h0
  have HT2 : Hid (toS X q = ⟨#[]⟩):=toS_no (by rw [HT.out]; exact h0)
  clear hS hC hI;generalize faP X q = k at *;have z1 : (k != 0) = true:=by simpa using h0
  clear h0;go_enter Tryz.func24,Tryz.ntmps24
  go_wp2_with fail;refine HF.out.mono ?_;rintro e w1 ⟨rfl,hb⟩;replace HO:=hr (HO.out.step hb);clear hb HF;go_wp2_with fail;go_ret2;refine ⟨?_,HO.out.1⟩
  rw [HT.out,HT2.out]; rfl
theorem dcP_err {L : List Int} {e : Int} (h : dcP L = .inl e) : e ≠ 0:=by
 unfold dcP decP at h;split at h
 ·injection h with h; omega
 ·revert h
  cases hr : rdS (L.drop (hyI L + 1).toNat).length ⟨128,0,72,(L.take (hyI L).toNat).length,[]⟩ (L.drop (hyI L + 1).toNat) with
  | inl x =>
   simp only
   intro h
   injection h with h;have:=rdS_err _ _ _ _ hr
   omega
  | inr x=>intro h; cases h
def deP (t : ByteArray) : Option (List Int):=if cdS t = true then (match dcP ((bsI t).drop 4) with | .inl _=>none | .inr l=>some l) else none
theorem bsI_ext (s : ByteArray) (n : Nat) : bsI (s.extract n s.size) = (bsI s).drop n:=by unfold bsI;rw [ext_end,List.map_drop]
def DeV (t : ByteArray) (b : Bool) (l : List Int) : Prop:=(deP t = none ∧ b = false) ∨ (deP t = some l ∧ b = true)
theorem decode_any (t : ByteArray) (ht : t.size <= 120) (w : World) :
 Calls Tryz.prog 70 #[.string t] w fun e w'=>∃ (v : Value) (b : Bool) (l : List Int),e = .returned (.tuple #[v,.bool b]) ∧ DeV t b l ∧ Sl .i32 w' v l ∧ l.length <= 1000 ∧ (∀ y ∈ l,-2147483648 <= y ∧ y <= 2147483647) ∧ Below w.heap.size w w':=by
 have HC:=hr (coded_any t (by omega) w);have HO:=hr (Ok.start w);by_cases hc : cdS t = true
 ·have h4 : 4 <= t.size:=by
   unfold cdS at hc;rw [Bool.and_eq_true,decide_eq_true_eq] at hc;exact hc.1
  have HD:=hr (fun W=>dec_uni (t.extract 4 t.size) (by rw [ByteArray.size_extract]; omega) W)
  have HP : Hid (deP t = match dcP ((bsI t).drop 4) with | .inl _=>none | .inr l=>some l):=if_pos hc
  have HX:=hr (bsI_ext t 4);rw [hc] at HC;have z4 : (4 : Int) <= t.size:=by omega
  clear hc h4;go_enter Tryz.func70,Tryz.ntmps70
  go_wp2_with fail;refine HC.out.mono ?_;rintro e w1 ⟨rfl,hb⟩;replace HO:=hr (HO.out.step hb);clear hb HC;go_wp2_with fail;refine (HD.out _).mono ?_;rintro e w2 ⟨i,x,l,v,rfl,hy,hT,hS,hn,hz,hb⟩
  replace HO:=hr (HO.out.step hb);have HR : Hid (DeV t (x == 0) l):=by
   rw [HX.out] at hy hT
   have hi:=hy.one (hy_hyI _)
   subst hi;have h1:=HP.out
   rcases hT with ⟨hT,rfl⟩ | ⟨hT,rfl⟩
   ·refine .inl ⟨?_,?_⟩
    ·rw [h1,show dcP ((bsI t).drop 4) = .inl x from hT]
    ·exact beq_eq_false_iff_ne.2 (dcP_err hT)
   ·refine .inr ⟨?_,rfl⟩
    rw [h1,show dcP ((bsI t).drop 4) = .inr l from hT]
  have HS:=hr hS
  have HZ:=hr hz
  clear hb hy hT hS hz;go_wp2_with fail;go_ret2;exact ⟨v,_,l,rfl,HR.out,HS.out,hn,HZ.out,HO.out.1⟩
 ·have HP : Hid (deP t = none):=if_neg hc
  have hc' : cdS t = false:=by simpa using hc
  rw [hc'] at HC;clear hc hc';go_enter Tryz.func70,Tryz.ntmps70
  go_wp2_with fail;refine HC.out.mono ?_;rintro e w1 ⟨rfl,hb⟩;replace HO:=hr (HO.out.step hb);clear hb HC;go_wp2_with fail;go_ret2;exact ⟨_,_,[],rfl,.inl ⟨HP.out,rfl⟩,sl_nil _ _,by simp,by simp,HO.out.1⟩
theorem bya_eq {a b : ByteArray} (h : a = b) : (a.toList == b.toList) = true:=by rw [h]; exact beq_self_eq_true _
theorem bya_ne {a b : ByteArray} (h : ¬ a = b) : (a.toList == b.toList) = false:=by
 have e:=eqS_dec a b
 unfold eqS at e;rw [e,decide_eq_false h]
theorem deP_range {t : ByteArray} {l : List Int} (h : deP t = some l) : (∀ z ∈ l,0 <= z ∧ z <= 1114111) ∧ l.length + 4 <= t.size ∧ cdS t = true:=by
 unfold deP at h;split at h
 ·rename_i hc
  have h4 : 4 <= t.size:=by
   have hc':=hc
   unfold cdS at hc';rw [Bool.and_eq_true,decide_eq_true_eq] at hc';exact hc'.1
  revert h
  cases hd : dcP ((bsI t).drop 4) with
  | inl e=>intro h; cases h
  | inr x =>
   simp only
   intro h
   injection h with h;subst h;obtain ⟨h1,h2⟩:=dec_range (hy_hyI _) (fun y hy=>bsI_bd t y (List.mem_of_mem_drop hy)) hd
   rw [List.length_drop,bsI_len] at h2;exact ⟨h1,by omega,hc⟩
 ·cases h
def frR (t : ByteArray) (q : Bool) : Int × List Int:=match deP t with
 | none=>(12,[])
 | some l=>if 63 < t.size then (10,[]) else if faP l q = 0 then (if enS l = t then (0,l) else (13,[])) else (faP l q,[])
theorem any_byB {l : List Int} (h : ∀ z ∈ l,0 <= z ∧ z <= 1114111) : l.any byB = false:=by
 rw [List.any_eq_false];intro x hx
 have:=h x hx
 unfold byB;rw [decide_eq_true_eq];omega
theorem from_any {w : World} {c b f j g p d u s : Nat} (hC : Ck w c b f j g p d u s) (x : ByteArray) (hx : x.size <= 120) (q : Bool) :
 Calls Tryz.prog 26 #[.pointer (some ⟨c,0,none⟩),.string x,.bool q] w fun e w'=>∃ v,e = .returned (.tuple #[v,.int .i64 (frR (Oc.lowS x) q).1]) ∧ Sl .i32 w' v (frR (Oc.lowS x) q).2 ∧ Below w.heap.size w w':=by
 have HL:=hr (Oc.lower_any x w (by unfold maxLen; omega))
 have HO:=hr (Ok.start w);have hsz:=Oc.low_size x
 generalize Oc.lowS x = t at *;have HD:=hr (fun W=>decode_any t (by omega) W)
 have HFa:=hr (fun (W : World) (v : Value) (l : List Int) (h : Below w.heap.size w W) (hS : Sl .i32 W v l) (hI : ∀ y ∈ l,Pr.I32 y) (hn : l.length <= 1000)=>fault_any (hC.step h) hS hI (by omega) q)
 have hts : t.size <= 120:=by omega
 clear hC hx hsz;go_enter Tryz.func26,Tryz.ntmps26
 go_wp2_with fail;refine HL.out.mono ?_;rintro e w1 ⟨rfl,hb⟩;replace HO:=hr (HO.out.step hb);clear hb HL;go_wp2_with fail;refine (HD.out _).mono ?_;rintro e w2 ⟨v,b2,l,rfl,hV,hS,hn,hz,hb⟩
 replace HO:=hr (HO.out.step hb);have HS:=hr hS
 clear hb hS HD;rcases hV with ⟨hV,rfl⟩ | ⟨hV,rfl⟩
 ·have HE : Hid (frR t q = (12,[])):=by show _ = _; unfold frR; rw [hV]
  clear hV hn hz HS;go_wp2_with fail;go_ret2;refine ⟨.slice none 0 0,?_,?_,HO.out.1⟩
  ·rw [HE.out]; rfl
  ·rw [HE.out]; exact sl_nil _ _
 ·obtain ⟨hrg,hln,_⟩:=deP_range hV
  by_cases h63 : 63 < t.size
  ·have HE : Hid (frR t q = (10,[])):=by show _ = _; unfold frR; rw [hV]; simp only; rw [if_pos h63]
   have z1 : (63 : Int) < t.size:=by omega
   clear hV hn hz HS h63 hrg hln;go_wp2_with fail;go_ret2;refine ⟨.slice none 0 0,?_,?_,HO.out.1⟩
   ·rw [HE.out]; rfl
   ·rw [HE.out]; exact sl_nil _ _
  ·have z1 : ¬ (63 : Int) < t.size:=by omega
   have HE0 : Hid (frR t q = if faP l q = 0 then (if enS l = t then (0,l) else (13,[])) else (faP l q,[])):=by show _ = _; unfold frR; rw [hV]; simp only; rw [if_neg h63]
   have HFb:=hr (HFa.out _ _ _ HO.out.1 HS.out (fun y hy=>hz y hy) hn)
   have HEn:=hr (fun (W : World) (h : Sl .i32 W v l)=>encode_ok h (by omega) hrg)
   clear hV hn hz h63 hrg hln HFa;generalize faP l q = k at *;go_wp2_with fail;refine HFb.out.mono ?_;rintro e w3 ⟨rfl,hb⟩;replace HO:=hr (HO.out.step hb);replace HS:=hr (HS.out.step hb)
   clear hb HFb;by_cases hk : k = 0
   ·subst hk;rw [if_pos rfl] at HE0;go_wp2_with fail;refine (HEn.out _ HS.out).mono ?_;rintro e w4 ⟨rfl,hb⟩;replace HO:=hr (HO.out.step hb);replace HS:=hr (HS.out.step hb)
    clear hb HEn;by_cases he : enS l = t
    ·have HE : Hid (frR t q = (0,l)):=by show _ = _; rw [HE0.out,if_pos he]
     have q1:=bya_eq he
     clear HE0;go_wp2_with fail;go_ret2;refine ⟨v,?_,?_,HO.out.1⟩
     ·rw [HE.out]; rfl
     ·rw [HE.out]; exact HS.out
    ·have HE : Hid (frR t q = (13,[])):=by show _ = _; rw [HE0.out,if_neg he]
     have q1:=bya_ne he
     clear HE0;go_wp2_with fail;go_ret2;refine ⟨.slice none 0 0,?_,?_,HO.out.1⟩
     ·rw [HE.out]; rfl
     ·rw [HE.out]; exact sl_nil _ _
   ·have q1 : (k != 0) = true:=by simpa using hk
    have HE : Hid (frR t q = (k,[])):=by show _ = _; rw [HE0.out,if_neg hk]
    clear HE0 hk;go_wp2_with fail;go_ret2;refine ⟨.slice none 0 0,?_,?_,HO.out.1⟩
    ·rw [HE.out]; rfl
    ·rw [HE.out]; exact sl_nil _ _
end La
end Go.Proofs.YtkhipgcgcbhjoaaGreat
