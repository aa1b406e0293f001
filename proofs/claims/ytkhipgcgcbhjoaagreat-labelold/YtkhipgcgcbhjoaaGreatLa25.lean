import Derived.Test.YtkhipgcgcbhjoaaGreatLa23
import Derived.Test.YtkhipgcgcbhjoaaGreatLa15
set_option maxRecDepth 100000
set_option maxHeartbeats 2000000
namespace Go.Proofs.YtkhipgcgcbhjoaaGreat
namespace Nf
open Go.RowKit Od Pr Ha
end Nf
end Go.Proofs.YtkhipgcgcbhjoaaGreat
namespace Go.Proofs.YtkhipgcgcbhjoaaGreat
namespace Od
open Go.RowKit
theorem getD_in {l : List Int} {k : Nat} (h : k < l.length) : l.getD k 0 = l[k]:=by rw [List.getD_eq_getElem?_getD,List.getElem?_eq_getElem h]; rfl
theorem rstart_any {w : World} {ad : Addr} {cap len : Nat} {zs : List Int} (hL : zs.length = len) (hS : SlP .i64 w (some ad) cap zs) (hn : len <= 1000000) (i : Nat) (hi : i <= len) :
 Calls Tryz.prog 175 #[.slice (some ad) len cap,.int .i64 (i : Int)] w fun e w'=>e = .returned (.int .i64 (startN clsP zs i)) ∧ Below w.heap.size w w':=by
 have HS:=hid hS
 have HL:=hid hL
 have H0:=hid (Ok.start w);have HCl:=hid (fun r w=>rcls_any r w)
 clear hS hL;go_enter Tryz.func175,Tryz.ntmps175
 go_wp2_with fail;go_loopg [5,6] i (fun g vo vi wr=>∃ k : Nat,vo = .int .i64 (startN clsP zs k) ∧ vi = .int .i64 k ∧ k <= i ∧ g = i - k ∧ Hid (Ok w.heap.size w wr))
 case atStart=>exact ⟨0,rfl,rfl,Nat.zero_le _,rfl,H0.out⟩
 case round =>
  obtain ⟨k,rfl,rfl,hk,hg,H⟩:=hrel
  have HG:=hid hg
  clear hg H0;by_cases hlt : k < i
  ·have hlx : k < zs.length:=by have:=HL.out; omega
   obtain ⟨b,off,e0,hb,c1⟩:=HS.out.at_ k hlx
   have e0':=Option.some.inj e0
   subst e0';have d1:=(H.out.1.cell (p:=⟨b,off + k,none⟩) hb).trans c1
   have HE : Hid (startN clsP zs (k + 1) = if clsP zs[k] = 0 then (k : Int) else startN clsP zs k):=by show _ = _;rw [startN,getD_in hlx]
   have HV:=hid (HCl.out zs[k] wr);clear c1;generalize zs[k] = x at *;have z1 : (k : Int) < (len : Int):=by omega
   have z2 : (k : Int) < (i : Int):=by omega
   generalize hsk : startN clsP zs k = sk at *;by_cases hc : clsP x = 0
   ·have HR : Hid (startN clsP zs (k + 1) = (k : Int)):=by show _ = _; rw [HE.out,if_pos hc]
    rw [hc] at HV;clear hc HE;go_wp2_with fail;refine HV.out.mono ?_;rintro e w' ⟨rfl,hb'⟩;have hok:=hid (H.out.step hb');clear hb';go_wp2_with fail;go_roundg (i - (k + 1))
    case measure=>rw [HG.out]; omega
    case rel=>exact ⟨k + 1,by rw [HR.out],by go_num,by omega,rfl,hok.out⟩
   ·have HR : Hid (startN clsP zs (k + 1) = sk):=by show _ = _; rw [HE.out,if_neg hc]
    have hc2 : (clsP x == 0) = false:=by simpa using hc
    generalize clsP x = cx at *;go_wp2_with fail;refine HV.out.mono ?_;rintro e w' ⟨rfl,hb'⟩;have hok:=hid (H.out.step hb');clear hb';go_wp2_with fail;go_roundg (i - (k + 1))
    case measure=>rw [HG.out]; omega
    case rel=>exact ⟨k + 1,by rw [HR.out],by go_num,by omega,rfl,hok.out⟩
  ·have e : k = i:=by omega
   subst e;have z2 : ¬ (k : Int) < (k : Int):=by omega
   by_cases hkl : k < len
   ·have z1 : (k : Int) < (len : Int):=by omega
    go_wp2_with fail;go_ret;exact ⟨rfl,H.out.1⟩
   ·have z1 : ¬ (k : Int) < (len : Int):=by omega
    go_wp2_with fail;go_ret;exact ⟨rfl,H.out.1⟩
theorem any_drop (p : Int -> Bool) (l : List Int) (k : Nat) (h : k < l.length) : (l.drop k).any p = (p l[k] || (l.drop (k + 1)).any p):=by rw [List.drop_eq_getElem_cons h]; rfl
theorem rblocked_any {w : World} {ad : Addr} {cap len : Nat} {zs : List Int} (hL : zs.length = len) (hS : SlP .i64 w (some ad) cap zs) (hn : len <= 1000000) (i : Nat) (hi : i < len) :
 Calls Tryz.prog 176 #[.slice (some ad) len cap,.int .i64 (i : Int)] w fun e w'=>e = .returned (.bool (blockedP clsP zs i)) ∧ Below w.heap.size w w':=by
 have HSt:=hid (rstart_any hL hS hn i (by omega));have HS:=hid hS
 have HL:=hid hL
 have H0:=hid (Ok.start w);have HCl:=hid (fun r w=>rcls_any r w)
 have hbd:=startN_bd clsP zs i
 have HE : Hid (blockedP clsP zs i = (decide (0 <= startN clsP zs i) && ((zs.take i).drop ((startN clsP zs i).toNat + 1)).any (fun r=>decide (clsP (zs.getD i 0) <= clsP r)))):=rfl
 clear hS hL;generalize startN clsP zs i = s at *;by_cases hs : s < 0
 ·have HR : Hid (blockedP clsP zs i = false):=by show _ = _; rw [HE.out,decide_eq_false (by omega),Bool.false_and]
  go_enter Tryz.func176,Tryz.ntmps176
  go_wp2_with fail;refine HSt.out.mono ?_;rintro e w1 ⟨rfl,hb1⟩;have HO1:=hid (H0.out.step hb1);clear hb1;go_wp2_with fail;go_ret;exact ⟨ret_bool HR.out.symm,HO1.out.1⟩
 ·obtain ⟨sn,rfl⟩ : ∃ sn : Nat,s = (sn : Int):=⟨s.toNat,by omega⟩
  have hsi : sn < i:=by omega
  have hil : i < zs.length:=by have:=HL.out; omega
  have hsn : ¬ (sn : Int) < 0:=by omega
  have HR : Hid (blockedP clsP zs i = ((zs.take i).drop (sn + 1)).any (fun r=>decide (clsP zs[i] <= clsP r))):=by show _ = _;rw [HE.out,decide_eq_true (by omega),Bool.true_and,getD_in hil]; rfl
  clear HE;obtain ⟨b,off,e0,hb,ci⟩:=HS.out.at_ i hil
  have e0':=Option.some.inj e0
  subst e0';have HV:=hid (fun w=>HCl.out zs[i] w)
  have hown:=(cls_bd zs[i]).1
  generalize zs[i] = y at *;generalize clsP y = own at *;have z1 : (i : Int) < (len : Int):=by omega
  go_enter Tryz.func176,Tryz.ntmps176
  go_wp2_with fail;refine HSt.out.mono ?_;rintro e w1 ⟨rfl,hb1⟩;have HO1:=hid (H0.out.step hb1);clear hb1;have ci1:=(HO1.out.1.cell (p:=⟨b,off + i,none⟩) hb).trans ci
  go_wp2_with fail;refine (HV.out _).mono ?_;rintro e w2 ⟨rfl,hb2⟩;have HO2:=hid (HO1.out.step hb2);clear hb2 HO1 ci1;go_wp2_with fail;go_loopg [7] (i - (sn + 1)) (fun g vi wr=>∃ k : Nat,vi = .int .i64 k ∧ sn + 1 <= k ∧ k <= i ∧ g = i - k ∧ Hid (Ok w.heap.size w wr ∧ blockedP clsP zs i = ((zs.take i).drop k).any (fun r=>decide (own <= clsP r))))
  case atStart=>exact ⟨sn + 1,by go_num,Nat.le_refl _,by omega,rfl,HO2.out,HR.out⟩
  case round =>
   clear HO2;obtain ⟨k,rfl,hk1,hk2,hg,H⟩:=hrel
   have HG:=hid hg
   clear hg;by_cases hlt : k < i
   ·have hlx : k < zs.length:=by omega
    have hlt2 : k < (zs.take i).length:=by rw [List.length_take]; omega
    obtain ⟨b',off',e0,hb',c1⟩:=HS.out.at_ k hlx
    have e3 : b = b' ∧ off = off':=by
     have:=Option.some.inj e0
     injection this with a1 a2 _;exact ⟨a1,a2⟩
    obtain ⟨rfl,rfl⟩:=e3
    have d1:=(H.out.1.1.cell (p:=⟨b,off + k,none⟩) hb).trans c1
    have HE : Hid (blockedP clsP zs i = (decide (own <= clsP zs[k]) || ((zs.take i).drop (k + 1)).any (fun r=>decide (own <= clsP r)))):=by show _ = _;rw [H.out.2,any_drop _ _ k hlt2,List.getElem_take]
    have HV2:=hid (HCl.out zs[k] wr);have hx0:=(cls_bd zs[k]).1
    clear c1;generalize zs[k] = x at *;have q1 : (k : Int) < (len : Int):=by omega
    have q2 : (k : Int) < (i : Int):=by omega
    by_cases ho : own = 0
    ·subst ho;have HT : Hid (blockedP clsP zs i = true):=by show _ = _; rw [HE.out,decide_eq_true hx0]; rfl
     go_wp2_with fail;go_ret;exact ⟨ret_bool HT.out.symm,H.out.1.1⟩
    ·have ho2 : (own == 0) = false:=by simpa using ho
     by_cases hc : own <= clsP x
     ·have HT : Hid (blockedP clsP zs i = true):=by show _ = _; rw [HE.out,decide_eq_true hc]; rfl
      generalize clsP x = cx at *;go_wp2_with fail;refine HV2.out.mono ?_;rintro e w3 ⟨rfl,hb3⟩;have HO3:=hid (H.out.1.step hb3);clear hb3;go_wp2_with fail;go_ret
      exact ⟨ret_bool HT.out.symm,HO3.out.1⟩
     ·have HT : Hid (blockedP clsP zs i = ((zs.take i).drop (k + 1)).any (fun r=>decide (own <= clsP r))):=by show _ = _; rw [HE.out,decide_eq_false hc]; rfl
      clear HE;generalize clsP x = cx at *;have hc3 : decide (own <= cx) = false:=decide_eq_false hc
      go_wp2_with fail;refine HV2.out.mono ?_;rintro e w3 ⟨rfl,hb3⟩;have HO3:=hid (H.out.1.step hb3);clear hb3;go_wp2_with fail;go_roundg (i - (k + 1))
      case measure=>rw [HG.out]; omega
      case rel=>exact ⟨k + 1,by go_num,by omega,by omega,rfl,HO3.out,HT.out⟩
   ·have q2 : ¬ (k : Int) < (i : Int):=by omega
    have HT : Hid (blockedP clsP zs i = false):=by show _ = _;rw [H.out.2,List.drop_eq_nil_of_le (by rw [List.length_take]; omega)]; rfl
    go_wp2_with fail;go_ret;exact ⟨ret_bool HT.out.symm,H.out.1.1⟩
end Od
end Go.Proofs.YtkhipgcgcbhjoaaGreat
