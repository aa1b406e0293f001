import Derived.Test.YtkhipgcgcbhjoaaGreatDn45
import Derived.Test.YtkhipgcgcbhjoaaGreatDn18
set_option maxRecDepth 1000000
set_option maxHeartbeats 4000000
namespace Go.Proofs.YtkhipgcgcbhjoaaGreat
namespace Pu
open Go.RowKit
open Od hiding hid Blk Alt Alt.refl
open Odi
def l8 : ByteArray:=⟨#[0,1,2,2,3,3,3,3,4,4,4,4,4,4,4,4,5,5,5,5,5,5,5,5,5,5,5,5,5,5,5,5,6,6,6,6,6,6,6,6,6,6,6,6,6,6,6,6,6,6,6,6,6,6,6,6,6,6,6,6,6,6,6,6,7,7,7,7,7,7,7,7,7,7,7,7,7,7,7,7,7,7,7,7,7,7,7,7,7,7,7,7,7,7,7,7,7,7,7,7,7,7,7,7,7,7,7,7,7,7,7,7,7,7,7,7,7,7,7,7,7,7,7,7,7,7,7,7,8,8,8,8,8,8,8,8,8,8,8,8,8,8,8,8,8,8,8,8,8,8,8,8,8,8,8,8,8,8,8,8,8,8,8,8,8,8,8,8,8,8,8,8,8,8,8,8,8,8,8,8,8,8,8,8,8,8,8,8,8,8,8,8,8,8,8,8,8,8,8,8,8,8,8,8,8,8,8,8,8,8,8,8,8,8,8,8,8,8,8,8,8,8,8,8,8,8,8,8,8,8,8,8,8,8,8,8,8,8,8,8,8,8,8,8,8,8,8,8,8,8,8,8,8,8,8,8]⟩
theorem l8_ck : (List.range 256).all (fun n=>decide (n < 2 ^ (l8.data.getD n 0).toNat) && decide ((l8.data.getD n 0).toNat <= 8)) = true:=by kernel_rfl
theorem l8_bd (n : Nat) (h : n <= 255) (hn : n < l8.size) : n < 2 ^ (l8[n]).toNat ∧ (l8[n]).toNat <= 8:=by
 have:=List.all_eq_true.1 l8_ck n (List.mem_range.2 (by omega))
 rw [Bool.and_eq_true,decide_eq_true_eq,decide_eq_true_eq] at this;have e : l8.data.getD n 0 = l8[n]:=by
  have hn' : n < l8.data.size:=hn
  rw [Array.getD_eq_getD_getElem?,Array.getElem?_eq_getElem hn']; rfl
 rw [e] at this;exact this
theorem wrap_two (x : UInt8) : wrap64 (wrap64 (x.toNat : Int)) = ((x.toNat : Nat) : Int):=by
 have:=x.toNat_lt
 unfold wrap64;omega
theorem len64_any (n : Nat) (h : n <= 255) (w : World) : Calls Tryz.prog 298 #[.int .u64 n] w fun e w'=>(∃ m : Nat,e = .returned (.int .i64 m) ∧ n < 2 ^ m ∧ m <= 8) ∧ w' = w:=by
 have z1 : ¬ (4294967296 : Int) <= (n : Int):=by omega
 have z2 : ¬ (65536 : Int) <= (n : Int):=by omega
 have z3 : ¬ (256 : Int) <= (n : Int):=by omega
 have q1 : IntKind.u8.wrap (n : Int) = (n : Int):=by rw [IntKind.wrap_u8]; omega
 go_enter Tryz.func298,Tryz.ntmps298
 go_wp2_with fail;go_ret;have hk:=l8_bd n h (by show n < 256; omega)
 exact ⟨⟨_,ret_int (wrap_two _),hk.1,hk.2⟩,rfl⟩
theorem len_any (n : Nat) (h : n <= 255) (w : World) : Calls Tryz.prog 289 #[.int .u64 n] w fun e w'=>(∃ m : Nat,e = .returned (.int .i64 m) ∧ n < 2 ^ m ∧ m <= 8) ∧ w' = w:=by
 have HL:=hid (len64_any n h w);go_enter Tryz.func289,Tryz.ntmps289
 go_wp2_with fail;refine HL.out.mono ?_;rintro e w1 ⟨⟨m,rfl,h1,h2⟩,rfl⟩;go_wp2_with fail;go_ret;exact ⟨⟨m,rfl,h1,h2⟩,rfl⟩
theorem last_any (s : ByteArray) (hs : s.size <= 1000) (w : World) : Calls Tryz.prog 258 #[.string s,.int .u8 45] w fun e w'=>(∃ i : Int,e = .returned (.int .i64 i) ∧ -1 <= i ∧ i < s.size ∧ (∀ k : Nat,(h : k < s.size) -> i < k -> (s[k].toNat : Int) ≠ 45) ∧ (∀ k : Nat,i = k -> (h : k < s.size) -> (s[k].toNat : Int) = 45)) ∧ w' = w:=by
 go_enter Tryz.func258,Tryz.ntmps258
 go_wp2_with fail;go_loop [5] (fun vi=>∃ i : Int,vi = .int .i64 i ∧ -1 <= i ∧ i < s.size ∧ Hid (∀ k : Nat,(h : k < s.size) -> i < k -> (s[k].toNat : Int) ≠ 45)) (fun vi=>(intOf vi + 1).toNat)
 case atStart=>exact ⟨(s.size : Int) - 1,by go_num,by omega,by omega,fun k h hk=>by omega⟩
 case round =>
  obtain ⟨i,rfl,h1,h2,H⟩:=hrel
  by_cases h0 : 0 <= i
  ·obtain ⟨k,rfl⟩ : ∃ k : Nat,i = k:=⟨i.toNat,by omega⟩
   have hk : k < s.size:=by omega
   have z1 : (k : Int) < (s.size : Int):=by omega
   by_cases he : (s[k].toNat : Int) = 45
   ·have he2 : s[k].toNat = 45:=by omega
    have HF : Hid (∀ j : Nat,(k : Int) = j -> (h : j < s.size) -> (s[j].toNat : Int) = 45):=fun j e h=>by
     have : j = k:=by omega
     subst this;exact he
    go_wp2_with fail;go_ret;exact ⟨⟨_,rfl,h1,h2,H.out,HF.out⟩,rfl⟩
   ·have HN : Hid (∀ j : Nat,(h : j < s.size) -> (k : Int) - 1 < j -> (s[j].toNat : Int) ≠ 45):=fun j h hj=>by
     by_cases e : j = k
     ·subst e; exact he
     ·exact H.out j h (by omega)
    have he2 : ¬ s[k].toNat = 45:=by omega
    have he3 : ((s[k].toNat : Int) == 45) = false:=by simpa using he
    go_wp2_with fail;go_round
    case rel=>exact ⟨(k : Int) - 1,by go_num,by omega,by omega,HN.out⟩
    case measure=>simp [intOf]
  ·have e : i = -1:=by omega
   subst e;go_wp2_with fail;go_ret;exact ⟨⟨-1,rfl,by omega,by omega,H.out,fun k e _=>by omega⟩,rfl⟩
theorem lastb_any (s : ByteArray) (hs : s.size <= 1000) (w : World) : Calls Tryz.prog 201 #[.string s,.int .u8 45] w fun e w'=>(∃ i : Int,e = .returned (.int .i64 i) ∧ -1 <= i ∧ i < s.size ∧ (∀ k : Nat,(h : k < s.size) -> i < k -> (s[k].toNat : Int) ≠ 45) ∧ (∀ k : Nat,i = k -> (h : k < s.size) -> (s[k].toNat : Int) = 45)) ∧ w' = w:=by
 have HL:=hid (last_any s hs w);go_enter Tryz.func201,Tryz.ntmps201
 go_wp2_with fail;refine HL.out.mono ?_;rintro e w1 ⟨⟨i,rfl,h⟩,rfl⟩;have H:=hid h
 clear h;go_wp2_with fail;go_ret;exact ⟨⟨i,rfl,H.out⟩,rfl⟩
theorem mid_ck : (List.range 9).all (fun e=>(List.range 129).all fun q=>decide (128 < q * 2 ^ (e + 1) + 2 ^ e) || (lb (q * 2 ^ (e + 1) + 2 ^ e) == 2 ^ e)) = true:=by kernel_rfl
theorem lb_mid {e p : Nat} (he : e <= 8) (hp : p % 2 ^ (e + 1) = 0) (hb : p + 2 ^ e <= 128) : lb (p + 2 ^ e) = 2 ^ e:=by
 have h1:=List.all_eq_true.1 mid_ck e (List.mem_range.2 (by omega))
 have hpos : 1 <= 2 ^ (e + 1):=Nat.one_le_two_pow
 have hq : p / 2 ^ (e + 1) <= p:=Nat.div_le_self _ _
 have h2:=List.all_eq_true.1 h1 (p / 2 ^ (e + 1)) (List.mem_range.2 (by omega))
 have e1 : p / 2 ^ (e + 1) * 2 ^ (e + 1) = p:=Nat.div_mul_cancel (Nat.dvd_of_mod_eq_zero hp)
 rw [e1,Bool.or_eq_true,decide_eq_true_eq,beq_iff_eq] at h2;omega
structure Fnd (a : List Int) (m0 : Int) (place step : Nat) (cur : Int) : Prop where
 cur_ : cur = m0 - ps a place
 low : ps a place <= m0
 in_ : place <= a.length
 hi : ∀ q,place + (if step = 0 then 1 else 2 * step) <= q -> q <= a.length -> m0 < ps a q
theorem Fnd.yes {a : List Int} {m0 cur x : Int} {place e : Nat} (h : Fnd a m0 place (2 ^ e) cur) (hx : x = ps a (place + 2 ^ e) - ps a place) (hle : x <= cur) (hin : place + 2 ^ e <= a.length) : Fnd a m0 (place + 2 ^ e) (2 ^ e / 2) (cur - x):=by
 have h1:=h.cur_
 have h2:=h.low
 have hpos : 1 <= 2 ^ e:=Nat.one_le_two_pow
 refine ⟨by omega,by omega,hin,fun q q1 q2=>h.hi q ?_ q2⟩
 rw [if_neg (by omega)];cases e with
 | zero=>simp at q1 ⊢; omega
 | succ e =>
  have e2 : 2 ^ (e + 1) = 2 * 2 ^ e:=by rw [Nat.pow_succ]; omega
  have hp2 : 1 <= 2 ^ e:=Nat.one_le_two_pow
  rw [if_neg (by omega)] at q1;omega
theorem Fnd.no {a : List Int} {m0 cur : Int} {place e : Nat} (h : Fnd a m0 place (2 ^ e) cur) (hn : ∀ q,place + 2 ^ e <= q -> q <= a.length -> m0 < ps a q) : Fnd a m0 place (2 ^ e / 2) cur:=by
 refine ⟨h.cur_,h.low,h.in_,fun q q1 q2=>hn q ?_ q2⟩
 cases e with
 | zero=>simp at q1 ⊢; omega
 | succ e =>
  have e2 : 2 ^ (e + 1) = 2 * 2 ^ e:=by rw [Nat.pow_succ]; omega
  have hp2 : 1 <= 2 ^ e:=Nat.one_le_two_pow
  rw [if_neg (by omega)] at q1;omega
theorem Fnd.end_ {a : List Int} {m0 cur : Int} {place : Nat} (h : Fnd a m0 place 0 cur) (hbd : ∀ x ∈ a,0 <= x ∧ x <= 1) (ht : m0 < ps a a.length) : ∃ hp : place < a.length,ps a place = m0 ∧ a[place] = 1:=by
 have hlt : place < a.length:=by
  by_cases e : place = a.length
  ·have:=h.low; rw [e] at this; omega
  ·have:=h.in_; omega
 have h1:=h.hi (place + 1) (by simp) (by omega)
 rw [ps_succ _ _ hlt] at h1;have h2:=hbd a[place] (List.getElem_mem hlt)
 have h3:=h.low
 exact ⟨hlt,by omega,by omega⟩
def At1 (a : List Int) (p : Nat) (m0 : Int) : Prop:=∃ hp : p < a.length,ps a p = m0 ∧ a[p] = 1
theorem tfind_any {w : World} {b cap : Nat} {R a : List Int} {T : List Value} (h : Blk w b R T) (hT : Tal R a) (m0 : Int) (h0 : 0 <= m0) (h1 : m0 < ps a a.length) (n : Nat) (hn : R.length = n) :
 Calls Tryz.prog 261 #[.slice (some ⟨b,0,none⟩) n cap,.int .i64 m0] w fun e w'=>(∃ p : Nat,e = .returned (.int .i64 p) ∧ At1 a p m0) ∧ w' = w:=by
 have hle:=hT.le
 have hln:=hT.len
 have HT:=hid hT
 have HB:=hid h
 have hps:=(ps_bd a hT.bd a.length).2
 have n1 : n <= 128:=by omega
 have HL : Hid (a.length + 1 = n ∧ R.length = n):=⟨by omega,hn⟩
 have HLe:=hid (len_any n (by omega) w);have m1 : m0 <= 127:=by omega
 have H1:=hid h1
 clear h hT hle hln hn hps h1;go_enter Tryz.func261,Tryz.ntmps261
 go_wp2_with fail;refine HLe.out.mono ?_;rintro e w1 ⟨⟨mm,rfl,hm1,hm2⟩,rfl⟩;go_wp2_with fail;go_loop [1,5,6] (fun vm vp vs=>∃ (cur : Int) (place step : Nat),vm = .int .i64 cur ∧ vp = .int .i64 place ∧ vs = .int .i64 step ∧ -200 <= cur ∧ cur <= 200 ∧ place <= 128 ∧ step <= 256 ∧ Hid ((step = 0 ∨ ∃ e,e <= 8 ∧ step = 2 ^ e ∧ place % 2 ^ (e + 1) = 0) ∧ Fnd a m0 place step cur)) (fun _ _ vs=>(intOf vs).toNat)
 case atStart =>
  have hf : Fnd a m0 0 (2 ^ mm) m0:=by
   have hpos : 1 <= 2 ^ mm:=Nat.one_le_two_pow
   refine ⟨by simp [ps],by simp [ps]; exact h0,Nat.zero_le _,fun q q1 q2=>?_⟩
   rw [if_neg (by omega)] at q1;have:=HL.out
   omega
  refine ⟨m0,0,2 ^ mm,rfl,rfl,?_,by omega,by omega,by omega,?_,.inr ⟨mm,hm2,rfl,by simp⟩,hf⟩
  ·have : mm = 0 ∨ mm = 1 ∨ mm = 2 ∨ mm = 3 ∨ mm = 4 ∨ mm = 5 ∨ mm = 6 ∨ mm = 7 ∨ mm = 8:=by omega
   rcases this with rfl | rfl | rfl | rfl | rfl | rfl | rfl | rfl | rfl <;> (refine congrArg (Value.int IntKind.i64) ?_; unfold wrap64; decide)
  ·have : mm = 0 ∨ mm = 1 ∨ mm = 2 ∨ mm = 3 ∨ mm = 4 ∨ mm = 5 ∨ mm = 6 ∨ mm = 7 ∨ mm = 8:=by omega
   rcases this with rfl | rfl | rfl | rfl | rfl | rfl | rfl | rfl | rfl <;> decide
 case round =>
  obtain ⟨cur,place,step,rfl,rfl,rfl,c1,c2,p1,s1,H⟩:=hrel
  by_cases hs : step = 0
  ·subst hs;have HE:=hid (H.out.2.end_ HT.out.bd H1.out);go_wp2_with fail;go_ret;exact ⟨⟨place,rfl,HE.out⟩,rfl⟩
  ·rcases H.out.1 with h | ⟨e,he,rfl,hmod⟩
   ·exact absurd h hs
   ·have hpos : 1 <= 2 ^ e:=Nat.one_le_two_pow
    have HF:=hid H.out.2
    have HM:=hid hmod
    have hdv : Hid ((2 ^ e / 2 = 0 ∨ ∃ e',e' <= 8 ∧ 2 ^ e / 2 = 2 ^ e' ∧ (place + 2 ^ e) % 2 ^ (e' + 1) = 0 ∧ place % 2 ^ (e' + 1) = 0)):=by
     cases e with
     | zero=>exact .inl rfl
     | succ e =>
      refine .inr ⟨e,by omega,?_,?_,?_⟩
      ·rw [Nat.pow_succ]; omega
      ·have hd1 : 2 ^ (e + 1) ∣ place:=Nat.dvd_trans ⟨2,by rw [Nat.pow_succ 2 (e + 1)]⟩ (Nat.dvd_of_mod_eq_zero hmod)
       exact Nat.mod_eq_zero_of_dvd (Nat.dvd_add hd1 (Nat.dvd_refl _))
      ·exact Nat.mod_eq_zero_of_dvd (Nat.dvd_trans ⟨2,by rw [Nat.pow_succ 2 (e + 1)]⟩ (Nat.dvd_of_mod_eq_zero hmod))
    have z1 : (0 : Int) < ((2 ^ e : Nat) : Int):=by omega
    clear H;have HLb:=hid (fun hb=>lb_mid he HM.out (p:=place) hb)
    generalize hse : 2 ^ e = st at *;have HSe:=hid hse
    clear hse hs hmod;by_cases hto : place + st < n
    ·have z2 : ((place : Int) + (st : Int)) < (n : Int):=by omega
     have hq1 : 1 <= place + st:=by omega
     have hq2 : place + st <= a.length:=by have:=HL.out; omega
     have hlc : place + st < R.length:=by have:=HL.out; omega
     have c3:=HB.out.cell (place + st) (R.getD (place + st) 0) (by rw [List.getD_eq_getElem?_getD,List.getElem?_eq_getElem hlc]; rfl)
     have hx:=HT.out.cell_bd (place + st) hq1 hq2
     have hsum : Hid (R.getD (place + st) 0 = ps a (place + st) - ps a place):=by show _ = _;rw [HT.out.sums _ hq1 hq2,HLb.out (by omega),Nat.add_sub_cancel]
     generalize R.getD (place + st) 0 = x at *;have q4 : ((place : Int) + (st : Int)).toNat = place + st:=by omega
     have q5 : (0 : Int) <= (place : Int) + (st : Int):=by omega
     by_cases hxc : x <= cur
     ·have HY : Hid (Fnd a m0 (place + st) (st / 2) (cur - x)):=by
       have:=HF.out
       rw [<- HSe.out] at this ⊢
       refine this.yes ?_ hxc (by rw [HSe.out]; exact hq2)
       rw [HSe.out]; exact hsum.out
      have hcb:=HY.out.cur_
      have hlo:=HY.out.low
      have b3:=ps_bd a HT.out.bd (place + st)
      have b4 : -200 <= cur - x ∧ cur - x <= 200:=by omega
      clear hcb hlo b3;go_wp2_with fail;go_round
      case rel =>
       refine ⟨cur - x,place + st,st / 2,by go_num,by go_num,by first | rfl | (congr 1; omega),b4.1,b4.2,by omega,by omega,?_,HY.out⟩
       rcases hdv.out with h | ⟨e',h1,h2,h3,_⟩
       ·exact .inl h
       ·exact .inr ⟨e',h1,h2,h3⟩
      case measure=>simp [intOf]; omega
     ·have HN : Hid (Fnd a m0 place (st / 2) cur):=by
       have:=HF.out
       rw [<- HSe.out] at this ⊢
       refine this.no (fun q q1 q2=>?_)
       rw [HSe.out] at q1;have hm:=ps_mono a HT.out.bd (place + st) q q1
       have h5:=hsum.out
       have h6:=HF.out.cur_
       omega
      have hx3 : decide (x <= cur) = false:=decide_eq_false hxc
      go_wp2_with fail;go_round
      case rel =>
       refine ⟨cur,place,st / 2,rfl,rfl,by first | rfl | (congr 1; omega),c1,c2,by omega,by omega,?_,HN.out⟩
       rcases hdv.out with h | ⟨e',h1,h2,_,h3⟩
       ·exact .inl h
       ·exact .inr ⟨e',h1,h2,h3⟩
      case measure=>simp [intOf]; omega
    ·have HN : Hid (Fnd a m0 place (st / 2) cur):=by
      have:=HF.out
      rw [<- HSe.out] at this ⊢
      refine this.no (fun q q1 q2=>?_)
      rw [HSe.out] at q1;have:=HL.out
      omega
     have z2 : ¬ ((place : Int) + (st : Int)) < (n : Int):=by omega
     go_wp2_with fail;go_round
     case rel =>
      refine ⟨cur,place,st / 2,rfl,rfl,by first | rfl | (congr 1; omega),c1,c2,by omega,by omega,?_,HN.out⟩
      rcases hdv.out with h | ⟨e',h1,h2,_,h3⟩
      ·exact .inl h
      ·exact .inr ⟨e',h1,h2,h3⟩
     case measure=>simp [intOf]; omega
theorem byt_size (a : List Int) : (byt a).size = a.length:=by
 show (a.map (fun n=>UInt8.ofNat n.toNat)).toArray.size = _
 simp
def cd (zs : List Int) (p : Nat) : Int:=zs.getD p 0
theorem ky_cd (zs : List Int) (p : Nat) : kyP zs (p : Int) = cd zs p:=by unfold kyP cd;rw [if_pos (by omega),Int.toNat_natCast]
structure RI (zs : List Int) (s : ES) (rest : List Int) (P : Nat -> Prop) : Prop where
 ok : s.Ok zs rest
 fin : (rest.foldl (ES.step zs) s).out = encP zs
 cnt : s.st + rest.length = zs.length
 mem : ∀ y,y ∈ rest ↔ ∃ p : Nat,y = p ∧ p < zs.length ∧ P p
 one : ∀ p,p < zs.length -> ¬ P p -> s.a.getD p 0 = 1
 fst : s.i + (lowL zs).length = s.st
 len : s.out.length <= 300 + 20 * s.st
theorem low_cnt : ∀ (zs : List Int) (k : Nat),(posL zs k).length + (lowL (zs.take k)).length = min k zs.length + (k - min k zs.length) * 0
 | zs,0=>by simp [posL,lowL]
 | zs,k + 1=>by
  have ih:=low_cnt zs k
  by_cases h : k < zs.length
  ·rw [posL_succ,List.length_append,lowL_succ zs k h,List.length_append];have e : zs.getD k 0 = zs[k]:=by rw [List.getD_eq_getElem?_getD,List.getElem?_eq_getElem h]; rfl
   rw [e];by_cases h2 : zs[k] < 128
   ·rw [if_pos h2,if_neg (by omega)]; simp at ih ⊢; omega
   ·rw [if_neg h2,if_pos (by omega)]; simp at ih ⊢; omega
  ·have e1 : zs.take (k + 1) = zs.take k:=by rw [List.take_of_length_le (by omega),List.take_of_length_le (by omega)]
   rw [posL_succ,e1];have e : zs.getD k 0 = 0:=by rw [List.getD_eq_getElem?_getD,List.getElem?_eq_none (by omega)]; rfl
   rw [e,if_neg (by omega),List.append_nil];simp at ih ⊢
   omega
theorem RI.start (zs : List Int) (hz : ∀ z ∈ zs,0 <= z ∧ z <= 1114111) : RI zs (ES.start zs) (ordL zs) (fun p=>128 <= cd zs p):=by
 refine ⟨ES.start_ok zs hz,rfl,?_,fun y=>?_,fun p hp hn=>?_,?_,?_⟩
 ·have h1:=low_cnt zs zs.length
  have h2 : (ordL zs).length = (posL zs zs.length).length:=(sw_srt (kyP zs) _).len
  rw [List.take_length] at h1;show (lowL zs).length + _ = _
  simp at h1
  omega
 ·rw [(ord_lex zs).2];constructor
  ·intro h
   obtain ⟨i,e,h1,h2⟩:=posL_mem h
   exact ⟨i,e,h1,h2⟩
  ·rintro ⟨p,rfl,h1,h2⟩;exact posL_mem' h1 h2
 ·show (lowA zs).getD p 0 = 1
  unfold cd at hn;rw [List.getD_eq_getElem?_getD,List.getElem?_eq_getElem hp,Option.getD_some] at hn;unfold lowA;rw [List.getD_eq_getElem?_getD,List.getElem?_map,List.getElem?_eq_getElem hp]
  simp only [Option.map_some,Option.getD_some]
  rw [if_pos (by omega)]
 ·show 0 + (lowL zs).length = (lowL zs).length; omega
 ·show (if (lowL zs).length = 0 then [] else lowL zs ++ [45]).length <= 300 + 20 * (lowL zs).length
  split
  ·simp
  ·rw [List.length_append]; simp; omega
theorem back_any (ao : Option Addr) (n cap : Nat) (w : World) : Calls Tryz.prog 260 #[.slice ao n cap] w fun e w'=>e = .returned (.func (.func 288) #[] #[.pointer (some ⟨w.heap.size,0,none⟩)]) ∧ w' = w.alloc (.cells #[.slice ao n cap] 241):=by
 go_enter Tryz.func260,Tryz.ntmps260
 go_wp2
 go_ret;exact ⟨rfl,rfl⟩
def toldB (x : Nat × Ent) : Array Value:=#[.int .i64 (x.1 : Int),.agg #[.int .i32 x.2.1,.int .i64 x.2.2]]
def tbN (es : List Ent) (k : Nat) : Nat × Ent:=(es.length - 1 - k,es.getD (es.length - 1 - k) (0,0))
def tb (es : List Ent) (k : Nat) : List (Nat × Ent):=(List.range k).map (tbN es)
theorem tb_succ (es : List Ent) (k : Nat) : tb es (k + 1) = tb es k ++ [tbN es k]:=by unfold tb;rw [List.range_succ,List.map_append];rfl
structure NeB (ao : Option Addr) (cap pb : Nat) (es : List Ent) (pre : List (Nat × Ent)) (W : World) : Prop where
 bx : Bx W pb (.slice ao es.length cap) 241
 row : ∀ i (h : i < es.length),∃ g,ao = some ⟨g,0,none⟩ ∧ W.cell? ⟨g,i * 2,none⟩ = some (.int .i32 es[i].1) ∧ W.cell? ⟨g,i * 2 + 1,none⟩ = some (.int .i64 es[i].2)
def NextB (es : List Ent) (pre : List (Nat × Ent)) (x : Nat × Ent) : Prop:=∃ k,k < es.length ∧ pre = tb es k ∧ x = tbN es k
attribute [local go_sem] Oper.semAt_some
theorem back1_tells (n : Nat) (ao : Option Addr) (cap pb : Nat) (hn : 1 <= n) (es : List Ent) (hl : es.length <= 1000000) (w : World) :
 Tells2 Fence.wide n Tryz.prog 288 #[.pointer (some ⟨pb,0,none⟩)] toldB (NeB ao cap pb es) (NextB es) (fun xs=>xs = tb es es.length) w:=by
 intro y J Jx W hW hJb hJN hY h0
 have HJb:=hid hJb
 have HJN:=hid hJN
 have HY:=hid hY
 have H0:=hid h0
 have c0:=(hJN _ _ h0).bx.cell
 clear hJb hJN hY h0 hW;refine callsIn_of_wp Tryz.func288 rfl trivial ?_ rfl
 simp only [Tryz.ntmps288,List.size_toArray,List.length_cons,List.length_nil,Nat.reduceAdd,Nat.reduceSub,Array.replicate_succ,Array.replicate_zero,List.push_toArray,List.append_toArray,List.nil_append,List.cons_append]
 gi_wp2
 gi_loopw [3] (fun i wr=>∃ (k : Nat),k <= es.length ∧ i = .int .i64 ((es.length : Int) - 1 - k) ∧ Hid (J (tb es k) wr)) (fun i _=>(intOf i + 1).toNat)
 case atStart=>exact ⟨0,Nat.zero_le _,by go_num,H0.out⟩
 case round =>
  obtain ⟨k,hk,rfl,H⟩:=hrel
  clear H0 c0;by_cases hlt : k < es.length
  ·have hNe:=HJN.out _ _ H.out
   have c1:=hNe.bx.cell
   obtain ⟨g,rfl,c2,c3⟩:=hNe.row (es.length - 1 - k) (by omega)
   have hx : Hid (tbN es k = (es.length - 1 - k,es[es.length - 1 - k]'(by omega))):=by show _ = _;unfold tbN;rw [List.getD_eq_getElem?_getD,List.getElem?_eq_getElem (by omega)]; rfl
   have HN:=hid (tb_succ es k);have hR:=HY.out (tb es k) (tbN es k) wr H.out ⟨k,hlt,rfl,rfl⟩
   obtain ⟨fn,tmps,assign,body,hy,hRo⟩:=hR
   rw [hx.out] at hy HN
   rw [hx.out] at hRo;obtain ⟨j,hj⟩ : ∃ j : Nat,es.length - 1 - k = j:=⟨_,rfl⟩
   have hjz : (es.length : Int) - 1 - (k : Int) = (j : Int):=by omega
   have hjl : j < es.length:=by omega
   have z1 : (j : Int) < (es.length : Int):=by omega
   have e1 : es[es.length - 1 - k]'(by omega) = es[j]:=by congr 1
   rw [e1] at hy c2 c3 HN hRo
   rw [hj] at hy c2 c3 HN hRo
   rw [hjz];clear hNe hx e1;generalize es[j] = x at *;obtain ⟨x1,x2⟩:=x
   unfold toldB at hy;dsimp only at hy c2 c3
   have HK:=hid hk
   have HL:=hid hlt
   have HJ2:=hid hj
   clear hk hlt hj;gi_wp2_with fail
   refine hRo.mono ?_;rintro e W3 (⟨rfl,hJ3⟩ | ⟨rfl,hJx⟩)
   ·have H3:=hid hJ3
    clear hJ3;gi_wp2_with fail
    go_roundw
    case rel=>exact ⟨k + 1,HL.out,by have:=HJ2.out; have:=HL.out; congr 1; omega,by show J _ _; rw [HN.out]; exact H3.out⟩
    case measure=>(simp [intOf]) <;> omega
   ·have H3:=hid hJx
    clear hJx;gi_wp2_with fail
    (try simp only [Exit.inBlock,Exit.then])
    refine bodyPost_ret (results_none rfl _ _ _) rfl ?_
    exact ⟨⟨_,rfl⟩,.inr ⟨_,H3.out⟩⟩
  ·have hke : k = es.length:=by omega
   subst hke;have hz : (es.length : Int) - 1 - (es.length : Int) = -1:=by omega
   rw [hz];clear hk hlt;gi_wp2_with fail
   go_end0
   exact ⟨⟨_,rfl⟩,.inl ⟨_,rfl,H.out⟩⟩
def insA (l : List Int) (p : Nat) (c : Int) : List Int:=l.take p ++ c :: l.drop p
def putL (low : List Int) (es : List Ent) : List Int:=es.foldl (fun l e=>insA l e.2.toNat e.1) low
theorem insA_len (l : List Int) (p : Nat) (c : Int) : (insA l p c).length = l.length + 1:=by
 unfold insA;simp
 omega
theorem putL_len : ∀ (es : List Ent) (low : List Int),(putL low es).length = low.length + es.length
 | [],low=>rfl
 | e :: es,low=>by
  show (putL (insA low e.2.toNat e.1) es).length = _
  rw [putL_len es,insA_len,List.length_cons];omega
theorem putL_snoc (low : List Int) (es : List Ent) (e : Ent) : putL low (es ++ [e]) = insA (putL low es) e.2.toNat e.1:=by unfold putL;rw [List.foldl_append];rfl
def fr (O : List Int) : List Int:=O.map fun o=>if o = 0 then 1 else 0
def mg : List Int -> List Int -> List Int
 | [],_=>[]
 | o :: O,M=>if o = 0 then M.headD 0 :: mg O M.tail else o :: mg O M
theorem mg_len : ∀ (O M : List Int),(mg O M).length = O.length
 | [],_=>rfl
 | o :: O,M=>by unfold mg;split <;> simp [mg_len O]
theorem fr_len (O : List Int) : (fr O).length = O.length:=by unfold fr; rw [List.length_map]
theorem fr_bd (O : List Int) : ∀ x ∈ fr O,0 <= x ∧ x <= 1:=by
 intro x hx
 unfold fr at hx;obtain ⟨o,_,rfl⟩:=List.mem_map.1 hx
 split <;> omega
theorem ps_cons (x : Int) (a : List Int) (q : Nat) : ps (x :: a) (q + 1) = x + ps a q:=by unfold ps;rw [List.take_succ_cons,List.sum_cons]
theorem ps_0 (a : List Int) : ps a 0 = 0:=by unfold ps; simp
theorem mg_zero : ∀ (n : Nat) (M : List Int),M.length = n -> mg (List.replicate n 0) M = M
 | 0,[],_=>rfl
 | n + 1,m :: M,h=>by
  rw [List.replicate_succ];unfold mg;rw [if_pos rfl];show m :: mg _ M = _
  rw [mg_zero n M (by simpa using h)]
 | 0,_ :: _,h=>by simp at h
 | _ + 1,[],h=>by simp at h
theorem mg_ins : ∀ (O M : List Int) (p q : Nat) (c : Int),c ≠ 0 -> (hq : q < O.length) -> O[q] = 0 -> ps (fr O) q = p -> p <= M.length -> mg O (insA M p c) = mg (O.set q c) M
 | [],_,_,_,_,_,hq,_,_,_=>by simp at hq
 | o :: O,M,p,0,c,hc,hq,h0,hp,hM=>by
  rw [ps_0] at hp;have : p = 0:=by omega
  subst this;have h0 : o = 0:=h0
  subst h0;show mg (0 :: O) (c :: M) = mg (c :: O) M
  rw [mg,mg,if_pos rfl,if_neg hc];rfl
 | o :: O,M,p,q + 1,c,hc,hq,h0,hp,hM=>by
  have hq' : q < O.length:=by simpa using hq
  have h0' : O[q] = 0:=h0
  have e : fr (o :: O) = (if o = 0 then 1 else 0) :: fr O:=rfl
  rw [e,ps_cons] at hp;show mg (o :: O) _ = mg (o :: O.set q c) M
  by_cases ho : o = 0
  ·subst ho;rw [if_pos rfl] at hp;have hb:=(ps_bd (fr O) (fr_bd O) q).1
   cases p with
   | zero=>exfalso; omega
   | succ p =>
    cases M with
    | nil=>simp at hM
    | cons m M =>
     rw [show insA (m :: M) (p + 1) c = m :: insA M p c from rfl,mg,mg,if_pos rfl,if_pos rfl]
     show m :: mg O (insA M p c) = m :: mg (O.set q c) M
     rw [mg_ins O M p q c hc hq' h0' (by omega) (by simpa using hM)]
  ·rw [if_neg ho] at hp;rw [mg,mg,if_neg ho,if_neg ho,mg_ins O M p q c hc hq' h0' (by omega) hM]
theorem fr_set (O : List Int) (q : Nat) (c : Int) (hc : c ≠ 0) : fr (O.set q c) = (fr O).set q 0:=by unfold fr;rw [List.map_set,if_neg hc]
theorem fr_get (O : List Int) (q : Nat) (h : q < (fr O).length) : (fr O)[q] = if O[q]'(by rw [fr_len] at h; exact h) = 0 then 1 else 0:=by exact List.getElem_map _
def EntOk (low : Nat) (es : List Ent) : Prop:=∀ k (h : k < es.length),128 <= es[k].1 ∧ es[k].1 <= 1114111 ∧ 0 <= es[k].2 ∧ es[k].2 <= (low : Int) + k
structure PI (low : List Int) (es : List Ent) (j : Nat) (O : List Int) : Prop where
 len : O.length = low.length + es.length
 fin : mg O (putL low (es.take j)) = putL low es
 cnt : ps (fr O) O.length = low.length + j
 big : ∀ x ∈ O,x = 0 ∨ (128 <= x ∧ x <= 1114111)
theorem ps_ones : ∀ (n : Nat),ps (fr (List.replicate n 0)) n = n
 | 0=>rfl
 | n + 1=>by
  rw [List.replicate_succ];show ps (1 :: fr (List.replicate n 0)) (n + 1) = _
  rw [ps_cons,ps_ones n];omega
theorem PI.start (low : List Int) (es : List Ent) : PI low es es.length (List.replicate (low.length + es.length) 0):=by
 refine ⟨by simp,?_,?_,?_⟩
 ·rw [List.take_length];exact mg_zero _ _ (putL_len es low)
 ·rw [List.length_replicate,ps_ones];omega
 ·intro x hx
  exact .inl (List.eq_of_mem_replicate hx)
theorem PI.step {low : List Int} {es : List Ent} {j q : Nat} {O : List Int} (h : PI low es (j + 1) O) (hj : j < es.length) (ho : EntOk low.length es) (ha : At1 (fr O) q es[j].2) : PI low es j (O.set q es[j].1) ∧ At1 (fr O) q es[j].2:=by
 obtain ⟨h1,h2,h3,h4⟩:=h
 obtain ⟨e1,e2,e3,e4⟩:=ho j hj
 refine ⟨?_,ha⟩
 obtain ⟨hq,hp,h1'⟩:=ha
 have hq' : q < O.length:=by rw [fr_len] at hq; exact hq
 have hz : O[q] = 0:=by
  rw [fr_get] at h1';split at h1'
  ·assumption
  ·omega
 have hc : es[j].1 ≠ 0:=by omega
 have ht : es.take (j + 1) = es.take j ++ [es[j]]:=by rw [List.take_add_one,List.getElem?_eq_getElem hj]; rfl
 have hl : (es.take j).length = j:=by rw [List.length_take]; omega
 refine ⟨by rw [List.length_set]; exact h1,?_,?_,?_⟩
 ·rw [ht,putL_snoc] at h2;rw [<- mg_ins O _ es[j].2.toNat q _ hc hq' hz (by omega) (by rw [putL_len,hl]; omega)]
  exact h2
 ·rw [List.length_set,fr_set _ _ _ hc,ps_set _ _ _ hq,if_pos (by omega),h1',h3];omega
 ·intro x hx
  rcases List.mem_or_eq_of_mem_set hx with hx | hx
  ·exact h4 x hx
  ·subst hx; exact .inr ⟨e1,e2⟩
theorem PI.tell {low : List Int} {es : List Ent} {j : Nat} {O : List Int} (h : PI low es (j + 1) O) (hj : j < es.length) (ho : EntOk low.length es) : 0 <= es[j].2 ∧ es[j].2 < ps (fr O) (fr O).length:=by
 obtain ⟨e1,e2,e3,e4⟩:=ho j hj
 rw [fr_len,h.cnt];omega
theorem Tryz.info_rn : (Tryz.prog.info? 21).map (fun i=>(i.zero,i.size,i.bytes)) = some (some (.int .i32 0),1,4):=by kernel_rfl
def Ro (W : World) (g : Nat) (O : List Int) : Prop:=W.heap[g]? = some (.cells (ivs .i32 O).toArray 21)
theorem Ro.lt {w : World} {b : Nat} {R : List Int} (h : Ro w b R) : b < w.heap.size:=(Array.getElem?_eq_some_iff.1 h).1
theorem Ro.cell {w : World} {b : Nat} {R : List Int} (h : Ro w b R) (k : Nat) (v : Int) (hk : R[k]? = some v) : w.cell? ⟨b,k,none⟩ = some (.int .i32 v):=by
 have h' : w.heap[b]? = _:=h
 simp only [World.cell?,h',List.getElem?_toArray]
 simp [ivs,hk]
theorem Ro.frozen {w : World} {b : Nat} {R : List Int} (h : Ro w b R) (k : Nat) : w.frozen? ⟨b,k,none⟩ = false:=by
 have h' : w.heap[b]? = _:=h
 simp [World.frozen?,h']
theorem Ro.set {w : World} {b : Nat} {R : List Int} (h : Ro w b R) (k : Nat) (v : Int) : Ro (w.setCell ⟨b,k,none⟩ (.int .i32 v)) b (R.set k v):=by
 have h' : w.heap[b]? = _:=h
 have e : (ivs .i32 R).set k (.int .i32 v) = ivs .i32 (R.set k v):=by simp [ivs,List.map_set]
 simp [Ro,World.setCell,Array.getElem?_modify,h',e]
theorem Ro.step {w w' : World} {b : Nat} {R : List Int} (h : Ro w b R) (hb : Below w.heap.size w w') : Ro w' b R:=(hb.block b h.lt).trans h
theorem Ro.alt {w w' : World} {b g : Nat} {R : List Int} (h : Ro w b R) (hb : Alt g w w') (hg : b ≠ g) : Ro w' b R:=(hb.block b h.lt hg).trans h
theorem Kc.ro {N b : Nat} {A B : World} {R : List Int} (h : Kc N A B) (hb : Ro A b R) : Ro B b R:=h.same b _ hb (.inr rfl)
structure PW (w : World) (N g o5 b o6 : Nat) (O a : List Int) (W : World) : Prop where
 bel : Below w.heap.size w W
 ro : Ro W g O
 b5 : Bx W o5 (.slice (some ⟨g,0,none⟩) N N) 22
 b6 : Bx W o6 (.slice (some ⟨b,0,none⟩) (N + 1) (N + 1)) 236
 tl : ∃ R,Blk W b R [] ∧ Tal R a ∧ R.length = N + 1
theorem bx_alt {w w' : World} {b g : Nat} {v : Value} {t : TypeId} (h : Bx w b v t) (hb : Alt g w w') (hg : b ≠ g) : Bx w' b v t:=(hb.block b h.lt hg).trans h
structure Ap (w : World) (g o5 b o6 : Nat) : Prop where
 g0 : w.heap.size <= g
 b0 : w.heap.size <= b
 gb : g ≠ b
 g5 : o5 ≠ g
 g6 : o6 ≠ g
 b5 : o5 ≠ b
 b6 : o6 ≠ b
theorem PW.step {w : World} {N g o5 b o6 : Nat} {O a : List Int} {A B : World} (h : PW w N g o5 b o6 O a A) (hb : Below A.heap.size A B) : PW w N g o5 b o6 O a B:=by
 obtain ⟨R,h1,h2,h3⟩:=h.tl
 exact ⟨h.bel.trans (hb.mono h.bel.size),h.ro.step hb,h.b5.step hb,h.b6.step hb,R,h1.step hb,h2,h3⟩
theorem PW.keep {w : World} {N g o5 b o6 n0 : Nat} {O a : List Int} {A B : World} (h : PW w N g o5 b o6 O a A) (hk : Kc n0 A B) (hN : w.heap.size <= n0) : PW w N g o5 b o6 O a B:=by
 obtain ⟨R,h1,h2,h3⟩:=h.tl
 exact ⟨hk.below h.bel hN (Nat.le_refl _),Kc.ro hk h.ro,hk.bx h.b5,hk.bx h.b6,R,hk.same _ _ h1 (.inr rfl),h2,h3⟩
theorem PW.turn {w : World} {N g o5 b o6 : Nat} {O a a' : List Int} {A B : World} (h : PW w N g o5 b o6 O a A) (ha : Ap w g o5 b o6) (hb : Alt b A B) (ht : ∃ R,Blk B b R [] ∧ Tal R a' ∧ R.length = N + 1) : PW w N g o5 b o6 O a' B :=
 ⟨h.bel.trans (hb.below h.bel.size ha.b0),h.ro.alt hb ha.gb,(hb.block _ h.b5.lt ha.b5).trans h.b5,(hb.block _ h.b6.lt ha.b6).trans h.b6,ht⟩
theorem PW.store {w : World} {N g o5 b o6 : Nat} {O a : List Int} {A : World} (h : PW w N g o5 b o6 O a A) (ha : Ap w g o5 b o6) (k : Nat) (v : Int) : PW w N g o5 b o6 (O.set k v) a (A.setCell ⟨g,k,none⟩ (.int .i32 v)):=by
 obtain ⟨R,h1,h2,h3⟩:=h.tl
 have hb : Alt g A (A.setCell ⟨g,k,none⟩ (.int .i32 v)):=(Alt.refl g A).set _ _
 exact ⟨h.bel.trans (hb.below h.bel.size ha.g0),h.ro.set k v,(hb.block _ h.b5.lt ha.g5).trans h.b5,(hb.block _ h.b6.lt ha.g6).trans h.b6,R,(hb.block b h1.lt (Ne.symm ha.gb)).trans h1,h2,h3⟩
def onL (N k : Nat) : List Int:=(List.range N).map fun i=>if i < k then 1 else 0
theorem onL_len (N k : Nat) : (onL N k).length = N:=by unfold onL; simp
theorem onL_get (N k i : Nat) (h : i < (onL N k).length) : (onL N k)[i] = if i < k then 1 else 0:=by
 have e:=(List.getElem_map (fun i=>if i < k then (1 : Int) else 0) (l:=List.range N) (h:=by simpa [onL] using h))
 rw [List.getElem_range] at e;exact e
theorem onL_zero (N : Nat) : onL N 0 = List.replicate N 0:=by
 apply List.ext_getElem
 ·rw [onL_len]; simp
 ·intro i h1 h2
  rw [onL_get]; simp
theorem onL_fr (N : Nat) : onL N N = fr (List.replicate N 0):=by
 apply List.ext_getElem
 ·rw [onL_len,fr_len]; simp
 ·intro i h1 h2
  rw [onL_get,fr_get];rw [onL_len] at h1;simp [h1]
theorem onL_step (N k : Nat) (h : k < (onL N k).length) : (onL N k).set k ((onL N k)[k] + 1) = onL N (k + 1):=by
 rw [onL_get,if_neg (by omega)];apply List.ext_getElem
 ·rw [List.length_set,onL_len,onL_len]
 ·intro i h1 h2
  rw [List.getElem_set,onL_get,onL_get];split
  ·subst_vars; simp
  ·by_cases h : i < k
   ·rw [if_pos h,if_pos (by omega)]
   ·rw [if_neg h,if_neg (by omega)]
end Pu
end Go.Proofs.YtkhipgcgcbhjoaaGreat
