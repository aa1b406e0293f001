import Derived.Test.YtkhipgcgcbhjoaaGreatDn1
import Derived.WalkKit
import Derived.BigCall
import Derived.BigQuiet
import Derived.Deep.LoopGhost
set_option maxHeartbeats 4000000
namespace Go.Proofs.YtkhipgcgcbhjoaaGreat
namespace Pu
open Go.RowKit
theorem hid {p : Prop} (h : p) : Hid p:=h
def dgP (v : Int) : Int:=if v < 26 then 97 + v else 22 + v
theorem digit_yes (v : Int) (w : World) (h0 : 0 <= v) (h1 : v < 36) :
 Calls Tryz.prog 287 #[.int .i64 v] w fun e w'=>e = .returned (.tuple #[.int .u8 (dgP v),.bool true]) ∧ w' = w:=by
 by_cases h : v < 26
 ·have HE : Hid (dgP v = 97 + v):=if_pos h
  have q1 : IntKind.u8.wrap v = v:=by rw [IntKind.wrap_u8]; omega
  have q2 : IntKind.u8.wrap (97 + v) = 97 + v:=by rw [IntKind.wrap_u8]; omega
  go_enter Tryz.func287,Tryz.ntmps287
  go_wp2_with fail;go_ret2;exact ⟨by rw [HE.out]; rfl,rfl⟩
 ·have HE : Hid (dgP v = 22 + v):=if_neg h
  have q0 : 26 <= v:=by omega
  have q1 : IntKind.u8.wrap (v - 26) = v - 26:=by rw [IntKind.wrap_u8]; omega
  have q2 : IntKind.u8.wrap (48 + (v - 26)) = 22 + v:=by rw [IntKind.wrap_u8]; omega
  go_enter Tryz.func287,Tryz.ntmps287
  go_wp2_with fail;go_ret2;exact ⟨by rw [HE.out]; rfl,rfl⟩
def vlP (b : Int) : Int:=if 97 <= b ∧ b <= 122 then b - 97 else if 65 <= b ∧ b <= 90 then b - 65 else if 48 <= b ∧ b <= 57 then b - 22 else -1
def vlV (b : Int) : Int:=if vlP b < 0 then 0 else vlP b
def vlB (b : Int) : Bool:=decide (0 <= vlP b)
theorem ret_vl {a b : Int} {p : Bool} (h1 : a = vlV b) (h2 : p = vlB b) : Ending.returned (.tuple #[.int .i64 a,.bool p]) = .returned (.tuple #[.int .i64 (vlV b),.bool (vlB b)]):=by rw [h1,h2]
theorem value_any (b : Int) (w : World) (h0 : 0 <= b) (h1 : b < 256) :
 Calls Tryz.prog 259 #[.int .u8 b] w fun e w'=>e = .returned (.tuple #[.int .i64 (vlV b),.bool (vlB b)]) ∧ w' = w:=by
 by_cases a1 : 97 <= b ∧ b <= 122
 ·have HE : Hid (vlP b = b - 97):=if_pos a1
  obtain ⟨a1,a2⟩:=a1
  have q1 : IntKind.u8.wrap (b - 97) = b - 97:=by rw [IntKind.wrap_u8]; omega
  have q2 : IntKind.i64.wrap (b - 97) = b - 97:=by rw [IntKind.wrap_i64]; omega
  go_enter Tryz.func259,Tryz.ntmps259
  go_wp2_with fail;go_ret2;exact ⟨ret_vl (by unfold vlV; rw [HE.out,if_neg (by omega)]) (by unfold vlB; rw [HE.out,decide_eq_true (by omega)]),rfl⟩
 by_cases a2 : 65 <= b ∧ b <= 90
 ·have HE : Hid (vlP b = b - 65):=by show _ = _; unfold vlP; rw [if_neg a1,if_pos a2]
  have q0 : ¬ 97 <= b:=by omega
  obtain ⟨a2,a3⟩:=a2
  have q1 : IntKind.u8.wrap (b - 65) = b - 65:=by rw [IntKind.wrap_u8]; omega
  have q2 : IntKind.i64.wrap (b - 65) = b - 65:=by rw [IntKind.wrap_i64]; omega
  clear a1;go_enter Tryz.func259,Tryz.ntmps259
  go_wp2_with fail;go_ret2;exact ⟨ret_vl (by unfold vlV; rw [HE.out,if_neg (by omega)]) (by unfold vlB; rw [HE.out,decide_eq_true (by omega)]),rfl⟩
 by_cases a3 : 48 <= b ∧ b <= 57
 ·have HE : Hid (vlP b = b - 22):=by show _ = _; unfold vlP; rw [if_neg a1,if_neg a2,if_pos a3]
  have q0 : ¬ 97 <= b:=by omega
  have q3 : ¬ 65 <= b:=by omega
  obtain ⟨a3,a4⟩:=a3
  have q1 : IntKind.u8.wrap (b - 48) = b - 48:=by rw [IntKind.wrap_u8]; omega
  have q2 : IntKind.i64.wrap (b - 48) = b - 48:=by rw [IntKind.wrap_i64]; omega
  clear a1 a2;go_enter Tryz.func259,Tryz.ntmps259
  go_wp2_with fail;go_ret2;exact ⟨ret_vl (by unfold vlV; rw [HE.out,if_neg (by omega)]; omega) (by unfold vlB; rw [HE.out,decide_eq_true (by omega)]),rfl⟩
 ·have HE : Hid (vlP b = -1):=by show _ = _; unfold vlP; rw [if_neg a1,if_neg a2,if_neg a3]
  have HR : Hid (vlV b = 0 ∧ vlB b = false):=⟨by unfold vlV; rw [HE.out]; rfl,by unfold vlB; rw [HE.out]; rfl⟩
  have c1 : (97 <= b ∧ ¬ b <= 122) ∨ ¬ 97 <= b:=by omega
  have c2 : (65 <= b ∧ ¬ b <= 90) ∨ ¬ 65 <= b:=by omega
  have c3 : (48 <= b ∧ ¬ b <= 57) ∨ ¬ 48 <= b:=by omega
  clear a1 a2 a3;rcases c1 with ⟨q1,q2⟩ | q1 <;> rcases c2 with ⟨q3,q4⟩ | q3 <;> rcases c3 with ⟨q5,q6⟩ | q5
  all_goals first
   | (exfalso; omega)
   | (
    go_enter Tryz.func259,Tryz.ntmps259
    go_wp2_with fail;go_ret2;exact ⟨by rw [HR.out.1,HR.out.2]; rfl,rfl⟩)
def thP (k b : Int) : Int:=if k <= b then 1 else if 26 <= k - b then 26 else k - b
theorem thr_any (k b : Int) (w : World) (hk : -1099511627776 <= k ∧ k <= 1099511627776) (hb : -1099511627776 <= b ∧ b <= 1099511627776) :
 Calls Tryz.prog 256 #[.int .i64 k,.int .i64 b] w fun e w'=>e = .returned (.int .i64 (thP k b)) ∧ w' = w:=by
 by_cases h : k <= b
 ·have HE : Hid (thP k b = 1):=if_pos h
  clear hk hb;go_enter Tryz.func256,Tryz.ntmps256
  go_wp2_with fail;go_ret;exact ⟨ret_int HE.out.symm,rfl⟩
 ·have q1 : IntKind.u64.wrap (IntKind.u64.wrap k - IntKind.u64.wrap b) = k - b:=by simp only [IntKind.wrap_u64]; omega
  by_cases h2 : 26 < k - b
  ·have HE : Hid (thP k b = 26):=by show _ = _; unfold thP; rw [if_neg h,if_pos (by omega)]
   go_enter Tryz.func256,Tryz.ntmps256
   go_wp2_with fail;go_ret;exact ⟨ret_int HE.out.symm,rfl⟩
  ·have HE : Hid (thP k b = k - b):=by show _ = _; unfold thP; rw [if_neg h]; split <;> omega
   have h3 : k - b <= 26:=by omega
   go_enter Tryz.func256,Tryz.ntmps256
   go_wp2_with fail;go_ret;exact ⟨ret_int HE.out.symm,rfl⟩
def adF : Nat -> Nat -> Nat -> Nat
 | 0,d,k=>k + 36 * d / (d + 38)
 | n + 1,d,k=>if 455 < d then adF n (d / 35) (k + 36) else k + 36 * d / (d + 38)
def adN (d k : Nat) : Nat:=adF d d k
theorem adF_eq : ∀ (n m d k : Nat),d <= n -> d <= m -> adF n d k = adF m d k
 | 0,0,_,_,_,_=>rfl
 | 0,m + 1,d,k,h,_=>by
  simp only [adF]
  rw [if_neg (by omega)]
 | n + 1,0,d,k,_,h=>by
  simp only [adF]
  rw [if_neg (by omega)]
 | n + 1,m + 1,d,k,h1,h2=>by
  simp only [adF]
  split
  ·exact adF_eq n m _ _ (by omega) (by omega)
  ·rfl
theorem adN_eq (d k : Nat) : adN d k = if 455 < d then adN (d / 35) (k + 36) else k + 36 * d / (d + 38):=by
 unfold adN;cases d with
 | zero=>rfl
 | succ d =>
  rw [show adF (d + 1) (d + 1) k = if 455 < d + 1 then adF d ((d + 1) / 35) (k + 36) else k + 36 * (d + 1) / (d + 1 + 38) from rfl]
  split
  ·exact adF_eq _ _ _ _ (by omega) (Nat.le_refl _)
  ·rfl
def adP (delta count : Nat) (first : Bool) : Nat :=
 let d:=if first = true then delta / 700 else delta / 2
 adN (d + d / count) 0
theorem adN_le : ∀ (n d k : Nat),d <= n -> adN d k <= k + d + 36
 | 0,d,k,h=>by
  rw [adN_eq,if_neg (by omega)];have : d = 0:=by omega
  subst this; simp
 | n + 1,d,k,h=>by
  rw [adN_eq];split
  ·have:=adN_le n (d / 35) (k + 36) (by omega)
   omega
  ·have : 36 * d / (d + 38) <= 36:=by
    apply Nat.div_le_of_le_mul
    omega
   omega
theorem adapt_t (delta count : Nat) (w : World) (h1 : delta <= 4294967296) (h2 : 1 <= count) (h3 : count <= 4294967296) :
 Calls Tryz.prog 200 #[.int .i64 delta,.int .i64 count,.bool true] w fun e w'=>e = .returned (.int .i64 (adP delta count true : Nat)) ∧ w' = w:=by
 obtain ⟨d1,hd1⟩ : ∃ d1 : Nat,d1 = delta / 700 + delta / 700 / count:=⟨_,rfl⟩
 have HT : Hid (adP delta count true = adN d1 0):=by show _ = _; rw [hd1]; rfl
 have m2 : delta / 700 / count <= delta / 700:=Nat.div_le_self _ _
 have m3 : d1 <= 8589934592:=by omega
 have e1 : (delta : Int) / 700 + (delta : Int) / 700 / (count : Int) = (d1 : Int):=by rw [hd1,Int.natCast_add,Int.natCast_ediv,Int.natCast_ediv]; rfl
 have hw : wrap64 ((delta : Int) / 700 + (delta : Int) / 700 / (count : Int)) = (d1 : Int):=by rw [e1]; unfold wrap64; omega
 clear e1 hd1 m2;go_enter Tryz.func200,Tryz.ntmps200
 go_wp2_with fail;go_loop [0,7] (fun d k=>∃ dn kn : Nat,d = .int .i64 dn ∧ k = .int .i64 kn ∧ dn <= 8589934592 ∧ kn + dn <= 8589934592 + 36 ∧ Hid (adP delta count true = adN dn kn)) (fun d _=>(intOf d).toNat)
 case atStart=>exact ⟨d1,0,by rw [hw],rfl,m3,by omega,HT.out⟩
 case round =>
  obtain ⟨dn,kn,rfl,rfl,b1,b2,H⟩:=hrel
  clear hw HT m3;by_cases hd : 455 < dn
  ·have HN : Hid (adP delta count true = adN (dn / 35) (kn + 36)):=by show _ = _; rw [H.out,adN_eq,if_pos hd]
   have c1 : (455 : Int) < (dn : Int):=by omega
   have c2 : kn + 36 + dn / 35 <= 8589934592 + 36:=by omega
   go_wp2_with fail;go_round
   case rel=>exact ⟨dn / 35,kn + 36,by first | rfl | (congr 1; omega),by go_num,by omega,c2,HN.out⟩
   case measure=>simp [intOf]; omega
  ·have HN : Hid (adP delta count true = kn + 36 * dn / (dn + 38)):=by show _ = _; rw [H.out,adN_eq,if_neg hd]
   have c1 : ¬ (455 : Int) < (dn : Int):=by omega
   have c2 : ¬ ((dn : Int) + 38 = 0):=by omega
   obtain ⟨q,hq⟩ : ∃ q : Nat,36 * dn / (dn + 38) = q:=⟨_,rfl⟩
   have c3 : q <= 36:=by rw [<- hq]; exact Nat.div_le_of_le_mul (by omega)
   have e3 : 36 * (dn : Int) / ((dn : Int) + 38) = (q : Int):=by rw [<- hq,Int.natCast_ediv]; rfl
   rw [hq] at HN;clear hq;go_wp2_with fail;go_ret;exact ⟨ret_int (by rw [HN.out]; omega),rfl⟩
theorem adapt_f (delta count : Nat) (w : World) (h1 : delta <= 4294967296) (h2 : 1 <= count) (h3 : count <= 4294967296) :
 Calls Tryz.prog 200 #[.int .i64 delta,.int .i64 count,.bool false] w fun e w'=>e = .returned (.int .i64 (adP delta count false : Nat)) ∧ w' = w:=by
 obtain ⟨d1,hd1⟩ : ∃ d1 : Nat,d1 = delta / 2 + delta / 2 / count:=⟨_,rfl⟩
 have HT : Hid (adP delta count false = adN d1 0):=by show _ = _; rw [hd1]; rfl
 have m2 : delta / 2 / count <= delta / 2:=Nat.div_le_self _ _
 have m3 : d1 <= 8589934592:=by omega
 have e1 : (delta : Int) / 2 + (delta : Int) / 2 / (count : Int) = (d1 : Int):=by rw [hd1,Int.natCast_add,Int.natCast_ediv,Int.natCast_ediv]; rfl
 have hw : wrap64 ((delta : Int) / 2 + (delta : Int) / 2 / (count : Int)) = (d1 : Int):=by rw [e1]; unfold wrap64; omega
 clear e1 hd1 m2;go_enter Tryz.func200,Tryz.ntmps200
 go_wp2_with fail;go_loop [0,7] (fun d k=>∃ dn kn : Nat,d = .int .i64 dn ∧ k = .int .i64 kn ∧ dn <= 8589934592 ∧ kn + dn <= 8589934592 + 36 ∧ Hid (adP delta count false = adN dn kn)) (fun d _=>(intOf d).toNat)
 case atStart=>exact ⟨d1,0,by rw [hw],rfl,m3,by omega,HT.out⟩
 case round =>
  obtain ⟨dn,kn,rfl,rfl,b1,b2,H⟩:=hrel
  clear hw HT m3;by_cases hd : 455 < dn
  ·have HN : Hid (adP delta count false = adN (dn / 35) (kn + 36)):=by show _ = _; rw [H.out,adN_eq,if_pos hd]
   have c1 : (455 : Int) < (dn : Int):=by omega
   have c2 : kn + 36 + dn / 35 <= 8589934592 + 36:=by omega
   go_wp2_with fail;go_round
   case rel=>exact ⟨dn / 35,kn + 36,by first | rfl | (congr 1; omega),by go_num,by omega,c2,HN.out⟩
   case measure=>simp [intOf]; omega
  ·have HN : Hid (adP delta count false = kn + 36 * dn / (dn + 38)):=by show _ = _; rw [H.out,adN_eq,if_neg hd]
   have c1 : ¬ (455 : Int) < (dn : Int):=by omega
   have c2 : ¬ ((dn : Int) + 38 = 0):=by omega
   obtain ⟨q,hq⟩ : ∃ q : Nat,36 * dn / (dn + 38) = q:=⟨_,rfl⟩
   have c3 : q <= 36:=by rw [<- hq]; exact Nat.div_le_of_le_mul (by omega)
   have e3 : 36 * (dn : Int) / ((dn : Int) + 38) = (q : Int):=by rw [<- hq,Int.natCast_ediv]; rfl
   rw [hq] at HN;clear hq;go_wp2_with fail;go_ret;exact ⟨ret_int (by rw [HN.out]; omega),rfl⟩
end Pu
end Go.Proofs.YtkhipgcgcbhjoaaGreat
