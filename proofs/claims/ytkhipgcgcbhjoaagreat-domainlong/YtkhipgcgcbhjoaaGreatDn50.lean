import Derived.Test.YtkhipgcgcbhjoaaGreatDn49
import Derived.Test.YtkhipgcgcbhjoaaGreatDn36
import Derived.Test.YtkhipgcgcbhjoaaGreatDn46
import Derived.Test.YtkhipgcgcbhjoaaGreatDn35
import Derived.Test.YtkhipgcgcbhjoaaGreatDn31
import Derived.Test.YtkhipgcgcbhjoaaGreatDn28
import Derived.Test.YtkhipgcgcbhjoaaGreatDn27
set_option maxRecDepth 100000
set_option maxHeartbeats 4000000
namespace Go.Proofs.YtkhipgcgcbhjoaaGreat
namespace Pu
open Go.RowKit
open Od hiding hid
open Odi
theorem dec_range {L zs : List Int} {i : Int} (hy : Hy L i) (hL : ∀ x ∈ L,0 <= x ∧ x <= 255) (h : decP L i = .inr zs) : (∀ z ∈ zs,0 <= z ∧ z <= 1114111) ∧ zs.length <= L.length:=by
 unfold decP at h;split at h
 ·cases h
 ·revert h
  cases hr : rdS (L.drop (i + 1).toNat).length ⟨128,0,72,(L.take i.toNat).length,[]⟩ (L.drop (i + 1).toNat) with
  | inl e=>intro h; cases h
  | inr es =>
   simp only
   intro h
   injection h with h;subst h;obtain ⟨hE,hn⟩:=rdS_ok (L.take i.toNat).length _ _ _ es (fun k hk=>by simp at hk) (by simp) (by simp) (by simp) (by simp) hr
   refine ⟨fun z hz=>?_,?_⟩
   ·rcases putL_mem es _ z hz with hm | ⟨e,he,rfl⟩
    ·have h1:=hL z (List.mem_of_mem_take hm); omega
    ·obtain ⟨k,hk,rfl⟩:=List.mem_iff_getElem.1 he
     have:=hE k hk; omega
   ·obtain ⟨h1,h2,_,_⟩:=hy
    rw [putL_len,List.length_take];rw [List.length_drop] at hn;simp at hn
    omega
def hyI : List Int -> Int
 | []=>-1
 | x :: l=>if 0 <= hyI l then hyI l + 1 else if x = 45 then 0 else -1
theorem hy_hyI : ∀ L,Hy L (hyI L)
 | []=>⟨by simp [hyI],by simp [hyI],fun k h=>by simp at h,fun k _ h=>by simp at h⟩
 | x :: l=>by
  obtain ⟨h1,h2,h3,h4⟩:=hy_hyI l
  unfold hyI;by_cases h : 0 <= hyI l
  ·rw [if_pos h];refine ⟨by omega,by simp only [List.length_cons]; omega,fun k hk hlt=>?_,fun k hk hlt=>?_⟩
   ·cases k with
    | zero=>omega
    | succ k=>exact h3 k (by simpa using hk) (by omega)
   ·cases k with
    | zero=>omega
    | succ k=>exact h4 k (by omega) (by simpa using hlt)
  ·rw [if_neg h];by_cases hx : x = 45
   ·rw [if_pos hx];refine ⟨by omega,by simp only [List.length_cons]; omega,fun k hk hlt=>?_,fun k hk hlt=>?_⟩
    ·cases k with
     | zero=>omega
     | succ k=>exact h3 k (by simpa using hk) (by omega)
    ·cases k with
     | zero=>exact hx
     | succ k=>omega
   ·rw [if_neg hx];refine ⟨by omega,by simp only [List.length_cons]; omega,fun k hk hlt=>?_,fun k hk hlt=>by omega⟩
    cases k with
    | zero=>exact hx
    | succ k=>exact h3 k (by simpa using hk) (by omega)
theorem Hy.one {L : List Int} {i j : Int} (h : Hy L i) (h' : Hy L j) : i = j:=by
 obtain ⟨a1,a2,a3,a4⟩:=h
 obtain ⟨b1,b2,b3,b4⟩:=h'
 rcases Int.lt_trichotomy i j with hl | hl | hl
 ·obtain ⟨k,rfl⟩ : ∃ k : Nat,j = k:=⟨j.toNat,by omega⟩
  exact absurd (b4 k rfl (by omega)) (a3 k (by omega) hl)
 ·exact hl
 ·obtain ⟨k,rfl⟩ : ∃ k : Nat,i = k:=⟨i.toNat,by omega⟩
  exact absurd (a4 k rfl (by omega)) (b3 k (by omega) hl)
def dcP (L : List Int) : Sum Int (List Int):=decP L (hyI L)
end Pu
end Go.Proofs.YtkhipgcgcbhjoaaGreat
namespace Go.Proofs.YtkhipgcgcbhjoaaGreat
namespace La
open Go.RowKit Od Nf Pu
theorem del_len2 {zs : List Int} (hl : zs.length <= 127) : ∀ (rest : List Int) (s : ES),s.Ok zs rest -> (delL zs s rest).length <= 11 * rest.length
 | [],_,_=>by simp [delL]
 | p :: rest,s,h=>by
  have ih:=del_len2 hl rest _ (h.next hl)
  show (wrP (s.d zs p) s.bias ++ delL zs (s.step zs p) rest).length <= _
  have h2:=(h.head hl).2.1
  have h3 : (wrP (s.d zs p) s.bias).length <= 9 + 1:=wr_short 9 _ _ _ _ (h.head hl).1 (by show _ < (1000000000 : Int); omega)
  rw [List.length_append,List.length_cons];omega
theorem enc_len2 {zs : List Int} (hl : zs.length <= 127) (hz : ∀ z ∈ zs,0 <= z ∧ z <= 1114111) : (encP zs).length <= 2000:=by
 rw [enc_shape,List.length_append];have h1:=del_len2 hl _ _ (ES.start_ok zs hz)
 have h2:=ord_cnt hz
 split
 ·simp; omega
 ·rw [List.length_append]; simp; omega
def enS (X : List Int) : ByteArray:=xn ++ byt (encP X)
theorem enS_size (X : List Int) : (enS X).size = 4 + (encP X).length:=by unfold enS;rw [ByteArray.size_append,byt_size]; rfl
theorem encode_bad {w : World} {v : Value} {X : List Int} (hS : Sl .i32 w v X) (hn : X.length <= 120) (h : X.any byB = true) :
 Calls Tryz.prog 67 #[v] w fun e w'=>e = .returned (.tuple #[.string ⟨#[]⟩,.bool false]) ∧ Below w.heap.size w w':=by
 have HE:=hr (enc_bad hS hn h);clear hS h;go_enter Tryz.func67,Tryz.ntmps67
 go_wp2_with fail;refine HE.out.mono ?_;rintro e w1 ⟨rfl,hb⟩;have HB:=hr hb
 clear hb;go_wp2_with fail;go_ret2;exact ⟨rfl,HB.out⟩
theorem encode_ok {w : World} {v : Value} {X : List Int} (hS : Sl .i32 w v X) (hn : X.length <= 120) (h : ∀ z ∈ X,0 <= z ∧ z <= 1114111) :
 Calls Tryz.prog 67 #[v] w fun e w'=>e = .returned (.tuple #[.string (enS X),.bool true]) ∧ Below w.heap.size w w':=by
 have HE:=hr (enc_ok hS hn h (fun x hx=>by have:=enc_mem (by omega) h x hx; omega))
 have HS : Hid (enS X = ⟨#[120,110,45,45]⟩ ++ byt (encP X)):=rfl
 have hsz : (byt (encP X)).size <= 2000:=by rw [byt_size]; exact enc_len2 (by omega) h
 clear hS h;generalize byt (encP X) = t at *;go_enter Tryz.func67,Tryz.ntmps67
 go_wp2_with fail;refine HE.out.mono ?_;rintro e w1 ⟨rfl,hb⟩;have HB:=hr hb
 clear hb;go_wp2_with fail;go_ret2;refine ⟨?_,HB.out⟩
 rw [HS.out]; rfl
def toF (X : List Int) (q : Bool) : Int:=if faP X q = 0 then (if X.any byB = true then 12 else if 63 < (enS X).size then 10 else 0) else faP X q
def toS (X : List Int) (q : Bool) : ByteArray:=if toF X q = 0 then enS X else ⟨#[]⟩
theorem toS_no {X : List Int} {q : Bool} (h : toF X q ≠ 0) : toS X q = ⟨#[]⟩:=if_neg h
theorem toold_any {w : World} {c b f j g p d u s : Nat} (hC : Ck w c b f j g p d u s) {v : Value} {X : List Int} (hS : Sl .i32 w v X) (hI : ∀ x ∈ X,Pr.I32 x) (hn : X.length <= 120) (q : Bool) :
 Calls Tryz.prog 24 #[.pointer (some ⟨c,0,none⟩),v,.bool q] w fun e w'=>e = .returned (.tuple #[.string (toS X q),.int .i64 (toF X q)]) ∧ Below w.heap.size w w':=by
 have HF:=hr (fault_any hC hS hI (by omega) q);have HO:=hr (Ok.start w);by_cases h0 : faP X q = 0
 ·rw [h0] at HF;by_cases hb : X.any byB = true
  ·have HE:=hr (fun (W : World) (h : Below w.heap.size w W)=>encode_bad (hS.step h) hn hb)
   have HT : Hid (toF X q = 12):=by show _ = _; unfold toF; rw [if_pos h0,if_pos hb]
   have HT2 : Hid (toS X q = ⟨#[]⟩):=toS_no (by rw [HT.out]; decide)
   clear hb h0 hS hC hI;go_enter Tryz.func24,Tryz.ntmps24
   go_wp2_with fail;refine HF.out.mono ?_;rintro e w1 ⟨rfl,hb⟩;replace HO:=hr (HO.out.step hb);clear hb HF;go_wp2_with fail;refine (HE.out _ HO.out.1).mono ?_
   rintro e w2 ⟨rfl,hb⟩;replace HO:=hr (HO.out.step hb);clear hb HE;go_wp2_with fail;go_ret2;refine ⟨?_,HO.out.1⟩
   rw [HT.out,HT2.out]; rfl
  ·have hz:=any_no (Bool.eq_false_iff.2 hb)
   have HE:=hr (fun (W : World) (h : Below w.heap.size w W)=>encode_ok (hS.step h) hn hz)
   have HT : Hid (toF X q = if 63 < (enS X).size then 10 else 0):=by show _ = _; unfold toF; rw [if_pos h0,if_neg hb]
   have HT2 : Hid (toS X q = if toF X q = 0 then enS X else ⟨#[]⟩):=rfl
   clear hb h0 hS hC hI hz;generalize enS X = t at *;by_cases h63 : 63 < t.size
   ·rw [if_pos h63] at HT;rw [HT.out,if_neg (by decide)] at HT2;have z1 : (63 : Int) < t.size:=by omega
    clear h63;go_enter Tryz.func24,Tryz.ntmps24
    go_wp2_with fail;refine HF.out.mono ?_;rintro e w1 ⟨rfl,hb⟩;replace HO:=hr (HO.out.step hb);clear hb HF;go_wp2_with fail;refine (HE.out _ HO.out.1).mono ?_
    rintro e w2 ⟨rfl,hb⟩;replace HO:=hr (HO.out.step hb);clear hb HE;go_wp2_with fail;go_ret2;refine ⟨?_,HO.out.1⟩
    rw [HT.out,HT2.out]; rfl
   ·rw [if_neg h63] at HT;rw [HT.out,if_pos rfl] at HT2;have z1 : ¬ (63 : Int) < t.size:=by omega
    clear h63;go_enter Tryz.func24,Tryz.ntmps24
    go_wp2_with fail;refine HF.out.mono ?_;rintro e w1 ⟨rfl,hb⟩;replace HO:=hr (HO.out.step hb);clear hb HF;go_wp2_with fail;refine (HE.out _ HO.out.1).mono ?_
    rintro e w2 ⟨rfl,hb⟩;replace HO:=hr (HO.out.step hb);clear hb HE;go_wp2_with fail;go_ret2;refine ⟨?_,HO.out.1⟩
    rw [HT.out,HT2.out]; rfl
 ·have HT : Hid (toF X q = faP X q):=if_neg h0
  have HT2 : Hid (toS X q = ⟨#[]⟩):=toS_no (by rw [HT.out]; exact h0)
  clear hS hC hI;generalize faP X q = k at *;have z1 : (k != 0) = true:=by simpa using h0
  clear h0;go_enter Tryz.func24,Tryz.ntmps24
  go_wp2_with fail;refine HF.out.mono ?_;rintro e w1 ⟨rfl,hb⟩;replace HO:=hr (HO.out.step hb);clear hb HF;go_wp2_with fail;go_ret2;refine ⟨?_,HO.out.1⟩
  rw [HT.out,HT2.out]; rfl
theorem dcP_err {L : List Int} {e : Int} (h : dcP L = .inl e) : e ≠ 0:=by
 unfold dcP decP at h;split at h
 ·injection h with h; omega
 ·revert h
  cases hr : rdS (L.drop (hyI L + 1).toNat).length ⟨128,0,72,(L.take (hyI L).toNat).length,[]⟩ (L.drop (hyI L + 1).toNat) with
  | inl x =>
   simp only
   intro h
   injection h with h;have:=rdS_err _ _ _ _ hr
   omega
  | inr x=>intro h; cases h
def deP (t : ByteArray) : Option (List Int):=if cdS t = true then (match dcP ((bsI t).drop 4) with | .inl _=>none | .inr l=>some l) else none
theorem bsI_ext (s : ByteArray) (n : Nat) : bsI (s.extract n s.size) = (bsI s).drop n:=by unfold bsI;rw [ext_end,List.map_drop]
def DeV (t : ByteArray) (b : Bool) (l : List Int) : Prop:=(deP t = none ∧ b = false) ∨ (deP t = some l ∧ b = true)
theorem decode_new (t : ByteArray) (ht : t.size <= 120) (w : World) :
 Calls Tryz.prog 70 #[.string t] w fun e w'=>∃ (v : Value) (b : Bool) (l : List Int),e = .returned (.tuple #[v,.bool b]) ∧ DeV t b l ∧ (Sl .i32 w' v l ∧ ∀ b,v.ownBlock = some b -> w.heap.size <= b) ∧ l.length <= 1000 ∧ (∀ y ∈ l,-2147483648 <= y ∧ y <= 2147483647) ∧ Below w.heap.size w w':=by
 have HC:=hr (coded_any t (by omega) w);have HO:=hr (Ok.start w);by_cases hc : cdS t = true
 ·have h4 : 4 <= t.size:=by
   unfold cdS at hc;rw [Bool.and_eq_true,decide_eq_true_eq] at hc;exact hc.1
  have HD:=hr (fun W=>dec_new (t.extract 4 t.size) (by rw [ByteArray.size_extract]; omega) W)
  have HP : Hid (deP t = match dcP ((bsI t).drop 4) with | .inl _=>none | .inr l=>some l):=if_pos hc
  have HX:=hr (bsI_ext t 4);rw [hc] at HC;have z4 : (4 : Int) <= t.size:=by omega
  clear hc h4;go_enter Tryz.func70,Tryz.ntmps70
  go_wp2_with fail;refine HC.out.mono ?_;rintro e w1 ⟨rfl,hb⟩;replace HO:=hr (HO.out.step hb);clear hb HC;have hs1:=HO.out.1.size
  go_wp2_with fail;refine (HD.out _).mono ?_;rintro e w2 ⟨i,x,l,v,rfl,hy,hT,hS,hn,hz,hb⟩;replace HO:=hr (HO.out.step hb);have HR : Hid (DeV t (x == 0) l):=by
   rw [HX.out] at hy hT
   have hi:=hy.one (hy_hyI _)
   subst hi;have h1:=HP.out
   rcases hT with ⟨hT,rfl⟩ | ⟨hT,rfl⟩
   ·refine .inl ⟨?_,?_⟩
    ·rw [h1,show dcP ((bsI t).drop 4) = .inl x from hT]
    ·exact beq_eq_false_iff_ne.2 (dcP_err hT)
   ·refine .inr ⟨?_,rfl⟩
    rw [h1,show dcP ((bsI t).drop 4) = .inr l from hT]
  have HS : Hid (Sl .i32 w2 v l ∧ ∀ b,v.ownBlock = some b -> w.heap.size <= b):=⟨hS.1,fun b h=>Nat.le_trans hs1 (hS.2 b h)⟩
  have HZ:=hr hz
  clear hb hy hT hS hz;go_wp2_with fail;go_ret2;exact ⟨v,_,l,rfl,HR.out,HS.out,hn,HZ.out,HO.out.1⟩
 ·have HP : Hid (deP t = none):=if_neg hc
  have hc' : cdS t = false:=by simpa using hc
  rw [hc'] at HC;clear hc hc';go_enter Tryz.func70,Tryz.ntmps70
  go_wp2_with fail;refine HC.out.mono ?_;rintro e w1 ⟨rfl,hb⟩;replace HO:=hr (HO.out.step hb);clear hb HC;go_wp2_with fail;go_ret2;exact ⟨_,_,[],rfl,.inl ⟨HP.out,rfl⟩,⟨sl_nil _ _,fun b h=>(by simp [Value.ownBlock] at h)⟩,by simp,by simp,HO.out.1⟩
theorem bya_eq {a b : ByteArray} (h : a = b) : (a.toList == b.toList) = true:=by rw [h]; exact beq_self_eq_true _
theorem bya_ne {a b : ByteArray} (h : ¬ a = b) : (a.toList == b.toList) = false:=by
 have e:=eqS_dec a b
 unfold eqS at e;rw [e,decide_eq_false h]
theorem deP_range {t : ByteArray} {l : List Int} (h : deP t = some l) : (∀ z ∈ l,0 <= z ∧ z <= 1114111) ∧ l.length + 4 <= t.size ∧ cdS t = true:=by
 unfold deP at h;split at h
 ·rename_i hc
  have h4 : 4 <= t.size:=by
   have hc':=hc
   unfold cdS at hc';rw [Bool.and_eq_true,decide_eq_true_eq] at hc';exact hc'.1
  revert h
  cases hd : dcP ((bsI t).drop 4) with
  | inl e=>intro h; cases h
  | inr x =>
   simp only
   intro h
   injection h with h;subst h;obtain ⟨h1,h2⟩:=dec_range (hy_hyI _) (fun y hy=>bsI_bd t y (List.mem_of_mem_drop hy)) hd
   rw [List.length_drop,bsI_len] at h2;exact ⟨h1,by omega,hc⟩
 ·cases h
def frR (t : ByteArray) (q : Bool) : Int × List Int:=match deP t with
 | none=>(12,[])
 | some l=>if 63 < t.size then (10,[]) else if faP l q = 0 then (if enS l = t then (0,l) else (13,[])) else (faP l q,[])
theorem any_byB {l : List Int} (h : ∀ z ∈ l,0 <= z ∧ z <= 1114111) : l.any byB = false:=by
 rw [List.any_eq_false];intro x hx
 have:=h x hx
 unfold byB;rw [decide_eq_true_eq];omega
theorem from_new {w : World} {c b f j g p d u s : Nat} (hC : Ck w c b f j g p d u s) (x : ByteArray) (hx : x.size <= 120) (q : Bool) :
 Calls Tryz.prog 26 #[.pointer (some ⟨c,0,none⟩),.string x,.bool q] w fun e w'=>∃ v,e = .returned (.tuple #[v,.int .i64 (frR (Oc.lowS x) q).1]) ∧ (Sl .i32 w' v (frR (Oc.lowS x) q).2 ∧ ∀ b,v.ownBlock = some b -> w.heap.size <= b) ∧ Below w.heap.size w w':=by
 have HL:=hr (Oc.lower_any x w (by unfold maxLen; omega))
 have HO:=hr (Ok.start w);have hsz:=Oc.low_size x
 generalize Oc.lowS x = t at *;have HD:=hr (fun W=>decode_new t (by omega) W)
 have HFa:=hr (fun (W : World) (v : Value) (l : List Int) (h : Below w.heap.size w W) (hS : Sl .i32 W v l) (hI : ∀ y ∈ l,Pr.I32 y) (hn : l.length <= 1000)=>fault_any (hC.step h) hS hI (by omega) q)
 have hts : t.size <= 120:=by omega
 clear hC hx hsz;go_enter Tryz.func26,Tryz.ntmps26
 go_wp2_with fail;refine HL.out.mono ?_;rintro e w1 ⟨rfl,hb⟩;replace HO:=hr (HO.out.step hb);clear hb HL;have hs1:=HO.out.1.size
 go_wp2_with fail;refine (HD.out _).mono ?_;rintro e w2 ⟨v,b2,l,rfl,hV,hS,hn,hz,hb⟩;replace HO:=hr (HO.out.step hb);have HS:=hr hS.1
 have HNw : Hid (∀ b,v.ownBlock = some b -> w.heap.size <= b):=fun b h=>Nat.le_trans hs1 (hS.2 b h)
 clear hb hS HD;rcases hV with ⟨hV,rfl⟩ | ⟨hV,rfl⟩
 ·have HE : Hid (frR t q = (12,[])):=by show _ = _; unfold frR; rw [hV]
  clear hV hn hz HS;go_wp2_with fail;go_ret2;refine ⟨.slice none 0 0,?_,?_,HO.out.1⟩
  ·rw [HE.out]; rfl
  ·rw [HE.out]; exact ⟨sl_nil _ _,fun b h=>(by simp [Value.ownBlock] at h)⟩
 ·obtain ⟨hrg,hln,_⟩:=deP_range hV
  by_cases h63 : 63 < t.size
  ·have HE : Hid (frR t q = (10,[])):=by show _ = _; unfold frR; rw [hV]; simp only; rw [if_pos h63]
   have z1 : (63 : Int) < t.size:=by omega
   clear hV hn hz HS h63 hrg hln;go_wp2_with fail;go_ret2;refine ⟨.slice none 0 0,?_,?_,HO.out.1⟩
   ·rw [HE.out]; rfl
   ·rw [HE.out]; exact ⟨sl_nil _ _,fun b h=>(by simp [Value.ownBlock] at h)⟩
  ·have z1 : ¬ (63 : Int) < t.size:=by omega
   have HE0 : Hid (frR t q = if faP l q = 0 then (if enS l = t then (0,l) else (13,[])) else (faP l q,[])):=by show _ = _; unfold frR; rw [hV]; simp only; rw [if_neg h63]
   have HFb:=hr (HFa.out _ _ _ HO.out.1 HS.out (fun y hy=>hz y hy) hn)
   have HEn:=hr (fun (W : World) (h : Sl .i32 W v l)=>encode_ok h (by omega) hrg)
   clear hV hn hz h63 hrg hln HFa;generalize faP l q = k at *;go_wp2_with fail;refine HFb.out.mono ?_;rintro e w3 ⟨rfl,hb⟩;replace HO:=hr (HO.out.step hb);replace HS:=hr (HS.out.step hb)
   clear hb HFb;by_cases hk : k = 0
   ·subst hk;rw [if_pos rfl] at HE0;go_wp2_with fail;refine (HEn.out _ HS.out).mono ?_;rintro e w4 ⟨rfl,hb⟩;replace HO:=hr (HO.out.step hb);replace HS:=hr (HS.out.step hb)
    clear hb HEn;by_cases he : enS l = t
    ·have HE : Hid (frR t q = (0,l)):=by show _ = _; rw [HE0.out,if_pos he]
     have q1:=bya_eq he
     clear HE0;go_wp2_with fail;go_ret2;refine ⟨v,?_,?_,HO.out.1⟩
     ·rw [HE.out]; rfl
     ·rw [HE.out]; exact ⟨HS.out,HNw.out⟩
    ·have HE : Hid (frR t q = (13,[])):=by show _ = _; rw [HE0.out,if_neg he]
     have q1:=bya_ne he
     clear HE0;go_wp2_with fail;go_ret2;refine ⟨.slice none 0 0,?_,?_,HO.out.1⟩
     ·rw [HE.out]; rfl
     ·rw [HE.out]; exact ⟨sl_nil _ _,fun b h=>(by simp [Value.ownBlock] at h)⟩
   ·have q1 : (k != 0) = true:=by simpa using hk
    have HE : Hid (frR t q = (k,[])):=by show _ = _; rw [HE0.out,if_neg hk]
    clear HE0 hk;go_wp2_with fail;go_ret2;refine ⟨.slice none 0 0,?_,?_,HO.out.1⟩
    ·rw [HE.out]; rfl
    ·rw [HE.out]; exact ⟨sl_nil _ _,fun b h=>(by simp [Value.ownBlock] at h)⟩
theorem from_any {w : World} {c b f j g p d u s : Nat} (hC : Ck w c b f j g p d u s) (x : ByteArray) (hx : x.size <= 120) (q : Bool) :
 Calls Tryz.prog 26 #[.pointer (some ⟨c,0,none⟩),.string x,.bool q] w fun e w'=>∃ v,e = .returned (.tuple #[v,.int .i64 (frR (Oc.lowS x) q).1]) ∧ Sl .i32 w' v (frR (Oc.lowS x) q).2 ∧ Below w.heap.size w w' :=
 (from_new hC x hx q).mono fun _ _ ⟨v,h1,h2,h3⟩=>⟨v,h1,h2.1,h3⟩
end La
end Go.Proofs.YtkhipgcgcbhjoaaGreat
namespace Go.Proofs.YtkhipgcgcbhjoaaGreat
namespace Bi
open Go.RowKit Od
end Bi
end Go.Proofs.YtkhipgcgcbhjoaaGreat
namespace Go.Proofs.YtkhipgcgcbhjoaaGreat
namespace La
open Go.RowKit Od Pr Ha Nf
theorem fr_iff : ∀ (l : List Int) (k : Nat),0 <= De.frP k l ↔ ∃ x ∈ l,4 <= De.ofP x
 | [],_=>by simp [De.frP]
 | x :: l,k=>by
  rw [De.frP];by_cases h : 4 <= De.ofP x
  ·rw [if_pos h];exact ⟨fun _=>⟨x,List.mem_cons_self,h⟩,fun _=>by omega⟩
  ·rw [if_neg h,fr_iff l (k + 1)];constructor
   ·rintro ⟨y,hy,h1⟩; exact ⟨y,List.mem_cons_of_mem _ hy,h1⟩
   ·rintro ⟨y,hy,h1⟩;rcases List.mem_cons.1 hy with rfl | hy
    ·exact absurd h1 h
    ·exact ⟨y,hy,h1⟩
end La
end Go.Proofs.YtkhipgcgcbhjoaaGreat
namespace Go.Proofs.YtkhipgcgcbhjoaaGreat
namespace La
open Go.RowKit Od Pr Nf Pu
theorem low_fix {s : ByteArray} (h : ∀ x ∈ bsI s,x < 65 ∨ 90 < x) : Oc.lowS s = s:=by
 have e : s.data.toList.map Oc.lowU = s.data.toList:=by
  conv=>rhs; rw [<- List.map_id s.data.toList]
  refine List.map_congr_left (fun c hc=>?_)
  refine Oc.lowU_no c ?_
  have:=h (c.toNat : Int) (by unfold bsI; exact List.mem_map.2 ⟨c,hc,rfl⟩)
  unfold Oc.upB;exact decide_eq_false (by omega)
 unfold Oc.lowS;rw [e]
theorem fa_fine {X : List Int} {q : Bool} (h : faP X q = 0) : X ≠ [] ∧ nfcP clsP X = X ∧ hyB X = false ∧ edB X = false ∧ mkR (X.headD 0) = false ∧ (∀ x ∈ X,¬ 4 <= De.ofP x) ∧ ¬ 0 <= Ru.frM X X.length 0 ∧ (q = true -> Bi.brP X = 0) ∧ X.any geB = true:=by
 cases X with
 | nil=>exact absurd (show (1 : Int) = 0 from h) (by decide)
 | cons x xs =>
  rw [fa_cons] at h;unfold faB at h;split at h
  ·cases h
  ·rename_i h1
   split at h
   ·cases h
   ·rename_i h2
    split at h
    ·cases h
    ·rename_i h3
     split at h
     ·cases h
     ·rename_i h4
      split at h
      ·cases h
      ·rename_i h5
       split at h
       ·cases h
       ·rename_i h6
        split at h
        ·cases h
        ·rename_i h7
         split at h
         ·rename_i h8
          refine ⟨by simp,by simpa using h1,by simpa using h2,by simpa using h3,by simpa using h4,fun y hy h9=>?_,by simpa using h6,fun hq=>?_,h8⟩
          ·have:=(fr_iff (x :: xs) 0).2 ⟨y,hy,h9⟩
           simp at h5
           omega
          ·subst hq;simpa using h7
         ·cases h
theorem fa_plain {X : List Int} {q : Bool} (h : faP X q = 0) : faP X false = 0:=by
 obtain ⟨h1,h2,h3,h4,h5,h6,h7,h8,h9⟩:=fa_fine h
 cases X with
 | nil=>exact absurd rfl h1
 | cons x xs =>
  rw [fa_cons];have e5 : decide (0 <= De.frP 0 (x :: xs)) = false:=decide_eq_false (fun hh=>by
   obtain ⟨y,hy,h10⟩:=(fr_iff (x :: xs) 0).1 hh
   exact h6 y hy h10)
  have e4 : mkR x = false:=h5
  rw [decide_eq_true h2,h3,h4,e4,e5,decide_eq_false h7,h9]; rfl
theorem up_of : (List.range 26).all (fun i=>decide (4 <= De.ofP (65 + (i : Int)))) = true:=by kernel_rfl
theorem fine_low {X : List Int} {q : Bool} (h : faP X q = 0) : ∀ x ∈ X,x < 65 ∨ 90 < x:=fun x hx=>by
 have h6:=(fa_fine h).2.2.2.2.2.1 x hx
 rcases Int.lt_or_le x 65 with h1 | h1
 ·exact .inl h1
 ·rcases Int.lt_or_le 90 x with h2 | h2
  ·exact .inr h2
  ·exfalso
   have:=List.all_eq_true.1 up_of (x - 65).toNat (List.mem_range.2 (by omega))
   rw [show (65 : Int) + (((x - 65).toNat : Nat) : Int) = x by omega,decide_eq_true_eq] at this
   exact h6 this
theorem toF_zero {X : List Int} {q : Bool} (h : toF X q = 0) : faP X q = 0 ∧ X.any byB = false ∧ (enS X).size <= 63 ∧ toS X q = enS X:=by
 have h':=h
 unfold toF at h';split at h'
 ·rename_i h0
  split at h'
  ·cases h'
  ·rename_i h1
   split at h'
   ·cases h'
   ·exact ⟨h0,by simpa using h1,by omega,if_pos h⟩
 ·rename_i h0
  exact absurd h' h0
theorem toF_fine {X : List Int} {q : Bool} (h1 : faP X q = 0) (h2 : ∀ z ∈ X,0 <= z ∧ z <= 1114111) (h3 : (enS X).size <= 63) : toF X q = 0:=by unfold toF;rw [if_pos h1,any_byB h2,if_neg (by decide),if_neg (by omega)]
theorem bsI_app (a b : ByteArray) : bsI (a ++ b) = bsI a ++ bsI b:=by unfold bsI;rw [<- List.map_append];simp
theorem bsI_enS {X : List Int} (hl : X.length <= 127) (hz : ∀ z ∈ X,0 <= z ∧ z <= 1114111) : bsI (enS X) = [120,110,45,45] ++ encP X:=by
 unfold enS;rw [bsI_app,bsI_byt (encP X) (fun x hx=>by have:=enc_mem hl hz x hx; omega)]
 rfl
theorem enS_low {X : List Int} {q : Bool} (h : faP X q = 0) (hl : X.length <= 127) (hz : ∀ z ∈ X,0 <= z ∧ z <= 1114111) : Oc.lowS (enS X) = enS X:=by
 refine low_fix (fun x hx=>?_)
 rw [bsI_enS hl hz] at hx;rcases List.mem_append.1 hx with hx | hx
 ·simp only [List.mem_cons,List.not_mem_nil,or_false] at hx
  omega
 ·rw [enc_shape] at hx;rcases List.mem_append.1 hx with hx | hx
  ·split at hx
   ·simp at hx
   ·rcases List.mem_append.1 hx with hx | hx
    ·unfold lowL at hx;exact fine_low h x (List.mem_filter.1 hx).1
    ·simp at hx; omega
  ·have:=del_low hl _ _ (ES.start_ok X hz) x hx; omega
theorem cut_ext (a b : ByteArray) (n : Nat) (h : n = a.size) : (a ++ b).extract 0 n = a:=by
 apply ByteArray.ext
 subst h;simp [ByteArray.data_extract]
theorem enS_deP {X : List Int} (hs : Sm X) (hz : ∀ z ∈ X,0 <= z ∧ z <= 1114111) : deP (enS X) = some X:=by
 have hl:=hs.le
 have hc : cdS (enS X) = true:=by unfold cdS;rw [enS_size,decide_eq_true (by omega)];unfold enS;rw [cut_ext xn _ 4 rfl,low_xn];rfl
 unfold deP;rw [if_pos hc,bsI_enS (by omega) hz,show List.drop 4 (([120,110,45,45] : List Int) ++ encP X) = encP X from rfl]
 unfold dcP;rw [(enc_dec' hs hz (hy_hyI _)).1]
theorem from_to {X : List Int} {q : Bool} (h : toF X q = 0) (hs : Sm X) : frR (Oc.lowS (toS X q)) q = (0,X):=by
 obtain ⟨h0,h1,h2,h3⟩:=toF_zero h
 have hz:=any_no h1
 rw [h3,enS_low h0 (by have:=hs.le; omega) hz]
 unfold frR;rw [enS_deP hs hz];simp only
 rw [if_neg (by omega),if_pos h0,if_pos trivial]
theorem to_fr {t : ByteArray} {q : Bool} {l : List Int} (h : frR t q = (0,l)) : toF l q = 0 ∧ toS l q = t ∧ faP l q = 0:=by
 unfold frR at h;cases hd : deP t with
 | none=>rw [hd] at h; simp at h
 | some x =>
  rw [hd] at h;simp only at h
  split at h
  ·simp at h
  ·rename_i h63
   split at h
   ·rename_i hf
    split at h
    ·rename_i he
     injection h with _ h;subst h;have ht:=toF_fine hf (deP_range hd).1 (by rw [he]; omega)
     exact ⟨ht,by rw [(toF_zero ht).2.2.2,he],hf⟩
    ·simp at h
   ·rename_i hf
    injection h with h _;exact absurd h hf
end La
end Go.Proofs.YtkhipgcgcbhjoaaGreat
namespace Go.Proofs.YtkhipgcgcbhjoaaGreat
namespace La
open Go.RowKit Od Pu
end La
end Go.Proofs.YtkhipgcgcbhjoaaGreat
namespace Go.Proofs.YtkhipgcgcbhjoaaGreat
namespace La
open Go.RowKit Od Nf Pu
end La
end Go.Proofs.YtkhipgcgcbhjoaaGreat
namespace Go.Proofs.YtkhipgcgcbhjoaaGreat
namespace La
open Go.RowKit Od Pr Nf
theorem fr_small {t : ByteArray} {q : Bool} {k : Int} {l : List Int} (h : frR t q = (k,l)) (ht : t.size <= 120) : l.length <= 120 ∧ ∀ z ∈ l,0 <= z ∧ z <= 1114111:=by
 have hn : ((∀ z ∈ ([] : List Int),0 <= z ∧ z <= 1114111)):=fun z hz=>by cases hz
 unfold frR at h;cases hd : deP t with
 | none =>
  rw [hd] at h;injection h with _ h;subst h;exact ⟨by simp,hn⟩
 | some x =>
  obtain ⟨h1,h2,_⟩:=deP_range hd
  rw [hd] at h;simp only at h
  split at h
  ·injection h with _ h;subst h;exact ⟨by simp,hn⟩
  ·split at h
   ·split at h
    ·injection h with _ h;subst h;exact ⟨by omega,h1⟩
    ·injection h with _ h;subst h;exact ⟨by simp,hn⟩
   ·injection h with _ h;subst h;exact ⟨by simp,hn⟩
end La
end Go.Proofs.YtkhipgcgcbhjoaaGreat
namespace Go.Proofs.YtkhipgcgcbhjoaaGreat
namespace Do
open Od Pr Ha Nf Ma La
def plB (A : List Int) : Bool:=A.all (fun x=>decide (x < 128))
def txS (A : List Int) : ByteArray:=⟨(Ut.textL A).toArray⟩
def ptP (A : List Int) : List Int:=if plB A = true then (if cdS (txS A) = true then (frR (Oc.lowS (txS A)) false).2 else A) else A
def olF (A : List Int) (q : Bool) : Int:=if oldP (Pu.bsI (txS A)) = 0 then (if (q && !(Bi.brP A == 0)) = true then 8 else 0) else oldP (Pu.bsI (txS A))
def snS (A : List Int) (q : Bool) : ByteArray:=if plB A = true then txS A else toS A q
def snF (A : List Int) (q : Bool) : Int:=if plB A = true then (if cdS (txS A) = true then (frR (Oc.lowS (txS A)) q).1 else olF A q) else toF A q
def whF (q : Bool) : Nat -> List (List Int) -> Int × Int
 | _,[]=>(0,0)
 | i,A :: Ls=>if snF A q = 0 then whF q (i + 1) Ls else ((i : Int),snF A q)
def lbL (M : List Int) : List (List Int) × Bool:=if 1 < (splP M).length ∧ (splP M).getLastD [0] = [] then ((splP M).dropLast,true) else (splP M,false)
def bdB (Ls : List (List Int)) : Bool:=Ls.any (fun A=>Bi.rtP (ptP A))
def jnS : List ByteArray -> ByteArray
 | []=>⟨#[]⟩
 | [a]=>a
 | a :: b :: l=>a ++ ⟨#[46]⟩ ++ jnS (b :: l)
theorem bs_text {A : List Int} (h0 : ∀ x ∈ A,0 <= x) (h : plB A = true) : Pu.bsI (txS A) = A:=by
 have h1 : ∀ x ∈ A,x < 128:=fun x hx=>of_decide_eq_true (List.all_eq_true.1 h x hx)
 unfold Pu.bsI txS;show (Ut.textL A).map _ = A
 clear h;induction A with
 | nil=>rfl
 | cons x A ih =>
  have hx0:=h0 x List.mem_cons_self
  have hx1:=h1 x List.mem_cons_self
  have hs : Ut.scB x = true:=(sc_iff x).2 (by omega)
  rw [text_cons,(enc_two hs).2.2 hx1,List.map_append,ih (fun y hy=>h0 y (List.mem_cons_of_mem _ hy)) (fun y hy=>h1 y (List.mem_cons_of_mem _ hy))]
  show [((UInt8.ofNat x.toNat).toNat : Int)] ++ A = _
  have : (UInt8.ofNat x.toNat).toNat = x.toNat:=by simp; omega
  rw [this];show ((x.toNat : Nat) : Int) :: A = _
  rw [show ((x.toNat : Nat) : Int) = x by omega]
theorem text_long : ∀ (A : List Int),(∀ x ∈ A,Ut.scB x = true) -> A.length <= (Ut.textL A).length ∧ (A.length < (Ut.textL A).length ↔ plB A = false)
 | [],_=>by simp [plB,Ut.textL]
 | x :: A,h=>by
  obtain ⟨h1,h2⟩:=text_long A (fun y hy=>h y (List.mem_cons_of_mem _ hy))
  obtain ⟨e1,e2,e3⟩:=enc_two (h x List.mem_cons_self)
  rw [text_cons,List.length_append,len_enc,List.length_cons];refine ⟨by omega,?_⟩
  have hp : plB (x :: A) = (decide (x < 128) && plB A):=rfl
  by_cases hx : x < 128
  ·have e4 : (Ut.encS x).size = 1:=by rw [<- len_size,e3 hx]; rfl
   rw [hp,decide_eq_true hx,Bool.true_and,<- h2,e4];omega
  ·have:=e2 (by omega)
   rw [hp,decide_eq_false hx,Bool.false_and];exact ⟨fun _=>rfl,fun _=>by omega⟩
end Do
end Go.Proofs.YtkhipgcgcbhjoaaGreat
namespace Go.Proofs.YtkhipgcgcbhjoaaGreat
namespace Nf
open Go.RowKit Od Pr Ha
theorem od_ut {k : IntKind} {w : World} {v : Value} {l : List Int} (h : Od.Sl k w v l) : Ut.Sl k w v l:=by
 obtain ⟨ao,cap,rfl,h⟩:=h
 cases l with
 | nil=>exact .inl ⟨rfl,ao,cap,rfl⟩
 | cons x l =>
  obtain ⟨b,off,rfl,hb,_⟩:=h.at_ 0 (by simp)
  refine .inr ⟨b,off,cap,rfl,hb,fun j hj=>?_⟩
  obtain ⟨b',off',e,_,hc⟩:=h.at_ j hj
  have:=Option.some.inj e
  injection this with a1 a2 _;subst a1;subst a2;exact hc
end Nf
end Go.Proofs.YtkhipgcgcbhjoaaGreat
