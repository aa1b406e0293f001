import Derived.Test.YtkhipgcgcbhjoaaGreatLa43
set_option maxRecDepth 1000000
set_option maxHeartbeats 4000000
namespace Go.Proofs.YtkhipgcgcbhjoaaGreat
namespace Pu
open Go.RowKit
open Od hiding hid Blk
open Odi
def l8 : ByteArray:=⟨#[0,1,2,2,3,3,3,3,4,4,4,4,4,4,4,4,5,5,5,5,5,5,5,5,5,5,5,5,5,5,5,5,6,6,6,6,6,6,6,6,6,6,6,6,6,6,6,6,6,6,6,6,6,6,6,6,6,6,6,6,6,6,6,6,7,7,7,7,7,7,7,7,7,7,7,7,7,7,7,7,7,7,7,7,7,7,7,7,7,7,7,7,7,7,7,7,7,7,7,7,7,7,7,7,7,7,7,7,7,7,7,7,7,7,7,7,7,7,7,7,7,7,7,7,7,7,7,7,8,8,8,8,8,8,8,8,8,8,8,8,8,8,8,8,8,8,8,8,8,8,8,8,8,8,8,8,8,8,8,8,8,8,8,8,8,8,8,8,8,8,8,8,8,8,8,8,8,8,8,8,8,8,8,8,8,8,8,8,8,8,8,8,8,8,8,8,8,8,8,8,8,8,8,8,8,8,8,8,8,8,8,8,8,8,8,8,8,8,8,8,8,8,8,8,8,8,8,8,8,8,8,8,8,8,8,8,8,8,8,8,8,8,8,8,8,8,8,8,8,8,8,8,8,8,8,8]⟩
theorem l8_ck : (List.range 256).all (fun n=>decide (n < 2 ^ (l8.data.getD n 0).toNat) && decide ((l8.data.getD n 0).toNat <= 8)) = true:=by kernel_rfl
theorem l8_bd (n : Nat) (h : n <= 255) (hn : n < l8.size) : n < 2 ^ (l8[n]).toNat ∧ (l8[n]).toNat <= 8:=by
 have:=List.all_eq_true.1 l8_ck n (List.mem_range.2 (by omega))
 rw [Bool.and_eq_true,decide_eq_true_eq,decide_eq_true_eq] at this;have e : l8.data.getD n 0 = l8[n]:=by
  have hn' : n < l8.data.size:=hn
  rw [Array.getD_eq_getD_getElem?,Array.getElem?_eq_getElem hn']; rfl
 rw [e] at this;exact this
theorem wrap_two (x : UInt8) : wrap64 (wrap64 (x.toNat : Int)) = ((x.toNat : Nat) : Int):=by
 have:=x.toNat_lt
 unfold wrap64;omega
theorem len64_any (n : Nat) (h : n <= 255) (w : World) : Calls Tryz.prog 298 #[.int .u64 n] w fun e w'=>(∃ m : Nat,e = .returned (.int .i64 m) ∧ n < 2 ^ m ∧ m <= 8) ∧ w' = w:=by
 have z1 : ¬ (4294967296 : Int) <= (n : Int):=by omega
 have z2 : ¬ (65536 : Int) <= (n : Int):=by omega
 have z3 : ¬ (256 : Int) <= (n : Int):=by omega
 have q1 : IntKind.u8.wrap (n : Int) = (n : Int):=by rw [IntKind.wrap_u8]; omega
 go_enter Tryz.func298,Tryz.ntmps298
 go_wp2_with fail;go_ret;have hk:=l8_bd n h (by show n < 256; omega)
 exact ⟨⟨_,ret_int (wrap_two _),hk.1,hk.2⟩,rfl⟩
theorem len_any (n : Nat) (h : n <= 255) (w : World) : Calls Tryz.prog 289 #[.int .u64 n] w fun e w'=>(∃ m : Nat,e = .returned (.int .i64 m) ∧ n < 2 ^ m ∧ m <= 8) ∧ w' = w:=by
 have HL:=hid (len64_any n h w);go_enter Tryz.func289,Tryz.ntmps289
 go_wp2_with fail;refine HL.out.mono ?_;rintro e w1 ⟨⟨m,rfl,h1,h2⟩,rfl⟩;go_wp2_with fail;go_ret;exact ⟨⟨m,rfl,h1,h2⟩,rfl⟩
theorem last_any (s : ByteArray) (hs : s.size <= 1000) (w : World) : Calls Tryz.prog 258 #[.string s,.int .u8 45] w fun e w'=>(∃ i : Int,e = .returned (.int .i64 i) ∧ -1 <= i ∧ i < s.size ∧ (∀ k : Nat,(h : k < s.size) -> i < k -> (s[k].toNat : Int) ≠ 45) ∧ (∀ k : Nat,i = k -> (h : k < s.size) -> (s[k].toNat : Int) = 45)) ∧ w' = w:=by
 go_enter Tryz.func258,Tryz.ntmps258
 go_wp2_with fail;go_loop [5] (fun vi=>∃ i : Int,vi = .int .i64 i ∧ -1 <= i ∧ i < s.size ∧ Hid (∀ k : Nat,(h : k < s.size) -> i < k -> (s[k].toNat : Int) ≠ 45)) (fun vi=>(intOf vi + 1).toNat)
 case atStart=>exact ⟨(s.size : Int) - 1,by go_num,by omega,by omega,fun k h hk=>by omega⟩
 case round =>
  obtain ⟨i,rfl,h1,h2,H⟩:=hrel
  by_cases h0 : 0 <= i
  ·obtain ⟨k,rfl⟩ : ∃ k : Nat,i = k:=⟨i.toNat,by omega⟩
   have hk : k < s.size:=by omega
   have z1 : (k : Int) < (s.size : Int):=by omega
   by_cases he : (s[k].toNat : Int) = 45
   ·have he2 : s[k].toNat = 45:=by omega
    have HF : Hid (∀ j : Nat,(k : Int) = j -> (h : j < s.size) -> (s[j].toNat : Int) = 45):=fun j e h=>by
     have : j = k:=by omega
     subst this;exact he
    go_wp2_with fail;go_ret;exact ⟨⟨_,rfl,h1,h2,H.out,HF.out⟩,rfl⟩
   ·have HN : Hid (∀ j : Nat,(h : j < s.size) -> (k : Int) - 1 < j -> (s[j].toNat : Int) ≠ 45):=fun j h hj=>by
     by_cases e : j = k
     ·subst e; exact he
     ·exact H.out j h (by omega)
    have he2 : ¬ s[k].toNat = 45:=by omega
    have he3 : ((s[k].toNat : Int) == 45) = false:=by simpa using he
    go_wp2_with fail;go_round
    case rel=>exact ⟨(k : Int) - 1,by go_num,by omega,by omega,HN.out⟩
    case measure=>simp [intOf]
  ·have e : i = -1:=by omega
   subst e;go_wp2_with fail;go_ret;exact ⟨⟨-1,rfl,by omega,by omega,H.out,fun k e _=>by omega⟩,rfl⟩
theorem lastb_any (s : ByteArray) (hs : s.size <= 1000) (w : World) : Calls Tryz.prog 201 #[.string s,.int .u8 45] w fun e w'=>(∃ i : Int,e = .returned (.int .i64 i) ∧ -1 <= i ∧ i < s.size ∧ (∀ k : Nat,(h : k < s.size) -> i < k -> (s[k].toNat : Int) ≠ 45) ∧ (∀ k : Nat,i = k -> (h : k < s.size) -> (s[k].toNat : Int) = 45)) ∧ w' = w:=by
 have HL:=hid (last_any s hs w);go_enter Tryz.func201,Tryz.ntmps201
 go_wp2_with fail;refine HL.out.mono ?_;rintro e w1 ⟨⟨i,rfl,h⟩,rfl⟩;have H:=hid h
 clear h;go_wp2_with fail;go_ret;exact ⟨⟨i,rfl,H.out⟩,rfl⟩
theorem mid_ck : (List.range 9).all (fun e=>(List.range 129).all fun q=>decide (128 < q * 2 ^ (e + 1) + 2 ^ e) || (lb (q * 2 ^ (e + 1) + 2 ^ e) == 2 ^ e)) = true:=by kernel_rfl
theorem lb_mid {e p : Nat} (he : e <= 8) (hp : p % 2 ^ (e + 1) = 0) (hb : p + 2 ^ e <= 128) : lb (p + 2 ^ e) = 2 ^ e:=by
 have h1:=List.all_eq_true.1 mid_ck e (List.mem_range.2 (by omega))
 have hpos : 1 <= 2 ^ (e + 1):=Nat.one_le_two_pow
 have hq : p / 2 ^ (e + 1) <= p:=Nat.div_le_self _ _
 have h2:=List.all_eq_true.1 h1 (p / 2 ^ (e + 1)) (List.mem_range.2 (by omega))
 have e1 : p / 2 ^ (e + 1) * 2 ^ (e + 1) = p:=Nat.div_mul_cancel (Nat.dvd_of_mod_eq_zero hp)
 rw [e1,Bool.or_eq_true,decide_eq_true_eq,beq_iff_eq] at h2;omega
structure Fnd (a : List Int) (m0 : Int) (place step : Nat) (cur : Int) : Prop where
 cur_ : cur = m0 - ps a place
 low : ps a place <= m0
 in_ : place <= a.length
 hi : ∀ q,place + (if step = 0 then 1 else 2 * step) <= q -> q <= a.length -> m0 < ps a q
theorem Fnd.yes {a : List Int} {m0 cur x : Int} {place e : Nat} (h : Fnd a m0 place (2 ^ e) cur) (hx : x = ps a (place + 2 ^ e) - ps a place) (hle : x <= cur) (hin : place + 2 ^ e <= a.length) : Fnd a m0 (place + 2 ^ e) (2 ^ e / 2) (cur - x):=by
 have h1:=h.cur_
 have h2:=h.low
 have hpos : 1 <= 2 ^ e:=Nat.one_le_two_pow
 refine ⟨by omega,by omega,hin,fun q q1 q2=>h.hi q ?_ q2⟩
 rw [if_neg (by omega)];cases e with
 | zero=>simp at q1 ⊢; omega
 | succ e =>
  have e2 : 2 ^ (e + 1) = 2 * 2 ^ e:=by rw [Nat.pow_succ]; omega
  have hp2 : 1 <= 2 ^ e:=Nat.one_le_two_pow
  rw [if_neg (by omega)] at q1;omega
theorem Fnd.no {a : List Int} {m0 cur : Int} {place e : Nat} (h : Fnd a m0 place (2 ^ e) cur) (hn : ∀ q,place + 2 ^ e <= q -> q <= a.length -> m0 < ps a q) : Fnd a m0 place (2 ^ e / 2) cur:=by
 refine ⟨h.cur_,h.low,h.in_,fun q q1 q2=>hn q ?_ q2⟩
 cases e with
 | zero=>simp at q1 ⊢; omega
 | succ e =>
  have e2 : 2 ^ (e + 1) = 2 * 2 ^ e:=by rw [Nat.pow_succ]; omega
  have hp2 : 1 <= 2 ^ e:=Nat.one_le_two_pow
  rw [if_neg (by omega)] at q1;omega
theorem Fnd.end_ {a : List Int} {m0 cur : Int} {place : Nat} (h : Fnd a m0 place 0 cur) (hbd : ∀ x ∈ a,0 <= x ∧ x <= 1) (ht : m0 < ps a a.length) : ∃ hp : place < a.length,ps a place = m0 ∧ a[place] = 1:=by
 have hlt : place < a.length:=by
  by_cases e : place = a.length
  ·have:=h.low; rw [e] at this; omega
  ·have:=h.in_; omega
 have h1:=h.hi (place + 1) (by simp) (by omega)
 rw [ps_succ _ _ hlt] at h1;have h2:=hbd a[place] (List.getElem_mem hlt)
 have h3:=h.low
 exact ⟨hlt,by omega,by omega⟩
def At1 (a : List Int) (p : Nat) (m0 : Int) : Prop:=∃ hp : p < a.length,ps a p = m0 ∧ a[p] = 1
theorem tfind_any {w : World} {b cap : Nat} {R a : List Int} {T : List Value} (h : Blk w b R T) (hT : Tal R a) (m0 : Int) (h0 : 0 <= m0) (h1 : m0 < ps a a.length) (n : Nat) (hn : R.length = n) :
 Calls Tryz.prog 261 #[.slice (some ⟨b,0,none⟩) n cap,.int .i64 m0] w fun e w'=>(∃ p : Nat,e = .returned (.int .i64 p) ∧ At1 a p m0) ∧ w' = w:=by
 have hle:=hT.le
 have hln:=hT.len
 have HT:=hid hT
 have HB:=hid h
 have hps:=(ps_bd a hT.bd a.length).2
 have n1 : n <= 128:=by omega
 have HL : Hid (a.length + 1 = n ∧ R.length = n):=⟨by omega,hn⟩
 have HLe:=hid (len_any n (by omega) w);have m1 : m0 <= 127:=by omega
 have H1:=hid h1
 clear h hT hle hln hn hps h1;go_enter Tryz.func261,Tryz.ntmps261
 go_wp2_with fail;refine HLe.out.mono ?_;rintro e w1 ⟨⟨mm,rfl,hm1,hm2⟩,rfl⟩;go_wp2_with fail;go_loop [1,5,6] (fun vm vp vs=>∃ (cur : Int) (place step : Nat),vm = .int .i64 cur ∧ vp = .int .i64 place ∧ vs = .int .i64 step ∧ -200 <= cur ∧ cur <= 200 ∧ place <= 128 ∧ step <= 256 ∧ Hid ((step = 0 ∨ ∃ e,e <= 8 ∧ step = 2 ^ e ∧ place % 2 ^ (e + 1) = 0) ∧ Fnd a m0 place step cur)) (fun _ _ vs=>(intOf vs).toNat)
 case atStart =>
  have hf : Fnd a m0 0 (2 ^ mm) m0:=by
   have hpos : 1 <= 2 ^ mm:=Nat.one_le_two_pow
   refine ⟨by simp [ps],by simp [ps]; exact h0,Nat.zero_le _,fun q q1 q2=>?_⟩
   rw [if_neg (by omega)] at q1;have:=HL.out
   omega
  refine ⟨m0,0,2 ^ mm,rfl,rfl,?_,by omega,by omega,by omega,?_,.inr ⟨mm,hm2,rfl,by simp⟩,hf⟩
  ·have : mm = 0 ∨ mm = 1 ∨ mm = 2 ∨ mm = 3 ∨ mm = 4 ∨ mm = 5 ∨ mm = 6 ∨ mm = 7 ∨ mm = 8:=by omega
   rcases this with rfl | rfl | rfl | rfl | rfl | rfl | rfl | rfl | rfl <;> (refine congrArg (Value.int IntKind.i64) ?_; unfold wrap64; decide)
  ·have : mm = 0 ∨ mm = 1 ∨ mm = 2 ∨ mm = 3 ∨ mm = 4 ∨ mm = 5 ∨ mm = 6 ∨ mm = 7 ∨ mm = 8:=by omega
   rcases this with rfl | rfl | rfl | rfl | rfl | rfl | rfl | rfl | rfl <;> decide
 case round =>
  obtain ⟨cur,place,step,rfl,rfl,rfl,c1,c2,p1,s1,H⟩:=hrel
  by_cases hs : step = 0
  ·subst hs;have HE:=hid (H.out.2.end_ HT.out.bd H1.out);go_wp2_with fail;go_ret;exact ⟨⟨place,rfl,HE.out⟩,rfl⟩
  ·rcases H.out.1 with h | ⟨e,he,rfl,hmod⟩
   ·exact absurd h hs
   ·have hpos : 1 <= 2 ^ e:=Nat.one_le_two_pow
    have HF:=hid H.out.2
    have HM:=hid hmod
    have hdv : Hid ((2 ^ e / 2 = 0 ∨ ∃ e',e' <= 8 ∧ 2 ^ e / 2 = 2 ^ e' ∧ (place + 2 ^ e) % 2 ^ (e' + 1) = 0 ∧ place % 2 ^ (e' + 1) = 0)):=by
     cases e with
     | zero=>exact .inl rfl
     | succ e =>
      refine .inr ⟨e,by omega,?_,?_,?_⟩
      ·rw [Nat.pow_succ]; omega
      ·have hd1 : 2 ^ (e + 1) ∣ place:=Nat.dvd_trans ⟨2,by rw [Nat.pow_succ 2 (e + 1)]⟩ (Nat.dvd_of_mod_eq_zero hmod)
       exact Nat.mod_eq_zero_of_dvd (Nat.dvd_add hd1 (Nat.dvd_refl _))
      ·exact Nat.mod_eq_zero_of_dvd (Nat.dvd_trans ⟨2,by rw [Nat.pow_succ 2 (e + 1)]⟩ (Nat.dvd_of_mod_eq_zero hmod))
    have z1 : (0 : Int) < ((2 ^ e : Nat) : Int):=by omega
    clear H;have HLb:=hid (fun hb=>lb_mid he HM.out (p:=place) hb)
    generalize hse : 2 ^ e = st at *;have HSe:=hid hse
    clear hse hs hmod;by_cases hto : place + st < n
    ·have z2 : ((place : Int) + (st : Int)) < (n : Int):=by omega
     have hq1 : 1 <= place + st:=by omega
     have hq2 : place + st <= a.length:=by have:=HL.out; omega
     have hlc : place + st < R.length:=by have:=HL.out; omega
     have c3:=HB.out.cell (place + st) (R.getD (place + st) 0) (by rw [List.getD_eq_getElem?_getD,List.getElem?_eq_getElem hlc]; rfl)
     have hx:=HT.out.cell_bd (place + st) hq1 hq2
     have hsum : Hid (R.getD (place + st) 0 = ps a (place + st) - ps a place):=by show _ = _;rw [HT.out.sums _ hq1 hq2,HLb.out (by omega),Nat.add_sub_cancel]
     generalize R.getD (place + st) 0 = x at *;have q4 : ((place : Int) + (st : Int)).toNat = place + st:=by omega
     have q5 : (0 : Int) <= (place : Int) + (st : Int):=by omega
     by_cases hxc : x <= cur
     ·have HY : Hid (Fnd a m0 (place + st) (st / 2) (cur - x)):=by
       have:=HF.out
       rw [<- HSe.out] at this ⊢
       refine this.yes ?_ hxc (by rw [HSe.out]; exact hq2)
       rw [HSe.out]; exact hsum.out
      have hcb:=HY.out.cur_
      have hlo:=HY.out.low
      have b3:=ps_bd a HT.out.bd (place + st)
      have b4 : -200 <= cur - x ∧ cur - x <= 200:=by omega
      clear hcb hlo b3;go_wp2_with fail;go_round
      case rel =>
       refine ⟨cur - x,place + st,st / 2,by go_num,by go_num,by first | rfl | (congr 1; omega),b4.1,b4.2,by omega,by omega,?_,HY.out⟩
       rcases hdv.out with h | ⟨e',h1,h2,h3,_⟩
       ·exact .inl h
       ·exact .inr ⟨e',h1,h2,h3⟩
      case measure=>simp [intOf]; omega
     ·have HN : Hid (Fnd a m0 place (st / 2) cur):=by
       have:=HF.out
       rw [<- HSe.out] at this ⊢
       refine this.no (fun q q1 q2=>?_)
       rw [HSe.out] at q1;have hm:=ps_mono a HT.out.bd (place + st) q q1
       have h5:=hsum.out
       have h6:=HF.out.cur_
       omega
      have hx3 : decide (x <= cur) = false:=decide_eq_false hxc
      go_wp2_with fail;go_round
      case rel =>
       refine ⟨cur,place,st / 2,rfl,rfl,by first | rfl | (congr 1; omega),c1,c2,by omega,by omega,?_,HN.out⟩
       rcases hdv.out with h | ⟨e',h1,h2,_,h3⟩
       ·exact .inl h
       ·exact .inr ⟨e',h1,h2,h3⟩
      case measure=>simp [intOf]; omega
    ·have HN : Hid (Fnd a m0 place (st / 2) cur):=by
      have:=HF.out
      rw [<- HSe.out] at this ⊢
      refine this.no (fun q q1 q2=>?_)
      rw [HSe.out] at q1;have:=HL.out
      omega
     have z2 : ¬ ((place : Int) + (st : Int)) < (n : Int):=by omega
     go_wp2_with fail;go_round
     case rel =>
      refine ⟨cur,place,st / 2,rfl,rfl,by first | rfl | (congr 1; omega),c1,c2,by omega,by omega,?_,HN.out⟩
      rcases hdv.out with h | ⟨e',h1,h2,_,h3⟩
      ·exact .inl h
      ·exact .inr ⟨e',h1,h2,h3⟩
     case measure=>simp [intOf]; omega
def dgs : ByteArray:=⟨#[97,98,99,100,101,102,103,104,105,106,107,108,109,110,111,112,113,114,115,116,117,118,119,120,121,122,48,49,50,51,52,53,54,55,56,57]⟩
theorem dgs_ck : (List.range 36).all (fun i=>((dgs.data.getD i 0).toNat : Int) == dgP i) = true:=by kernel_rfl
theorem dgs_at (i : Nat) (h : i < 36) (hi : i < dgs.size) : ((dgs[i]).toNat : Int) = dgP i:=by
 have:=List.all_eq_true.1 dgs_ck i (List.mem_range.2 h)
 have e : dgs.data.getD i 0 = dgs[i]:=by
  have hn' : i < dgs.data.size:=hi
  rw [Array.getD_eq_getD_getElem?,Array.getElem?_eq_getElem hn']; rfl
 rw [e] at this;simpa using this
theorem dg_bd (v : Int) (h0 : 0 <= v) (h1 : v < 36) : 48 <= dgP v ∧ dgP v <= 122:=by unfold dgP;split <;> omega
theorem vl_dg (b : Int) (i : Nat) (h : i < 36) (e : dgP i = b) : vlP b = i:=by
 unfold dgP at e;unfold vlP;split at e
 ·rw [if_pos (by omega)]; omega
 ·rw [if_neg (by omega),if_neg (by omega),if_pos (by omega)]; omega
theorem vl_up (b : Int) (i : Nat) (h : i < 26) (e : b = dgP i - 32) : vlP b = i:=by unfold dgP at e;unfold vlP;rw [if_pos (by omega)] at e;rw [if_neg (by omega),if_pos (by omega)]; omega
theorem vl_no (b : Int) (h : ∀ i : Nat,i < 36 -> dgP i ≠ b ∧ ¬ (i < 26 ∧ b = dgP i - 32)) : vlP b = -1:=by
 unfold vlP;split
 ·rename_i c
  have:=(h (b - 97).toNat (by omega)).1
  unfold dgP at this;rw [if_pos (by omega)] at this;omega
 ·split
  ·rename_i c
   have:=(h (b - 65).toNat (by omega)).2
   unfold dgP at this;rw [if_pos (by omega)] at this;omega
  ·split
   ·rename_i c
    have:=(h (b - 22).toNat (by omega)).1
    unfold dgP at this;rw [if_neg (by omega)] at this;omega
   ·rfl
theorem rvalue_any (b : Int) (w : World) : Calls Tryz.prog 129 #[.int .u8 b] w fun e w'=>e = .returned (.int .i64 (vlP b)) ∧ w' = w:=by
 have HDg:=hid (fun i (h : i < 36)=>dgs_at i h (by show i < 36; exact h))
 go_enter Tryz.func129,Tryz.ntmps129
 go_wp2_with fail;go_loop [3] (fun vi=>∃ i : Nat,vi = .int .i64 i ∧ i <= 36 ∧ Hid (∀ j : Nat,j < i -> dgP j ≠ b ∧ ¬ (j < 26 ∧ b = dgP j - 32))) (fun vi=>36 - (intOf vi).toNat)
 case atStart=>exact ⟨0,rfl,by omega,fun j h=>by omega⟩
 case round =>
  obtain ⟨i,rfl,hi,H⟩:=hrel
  by_cases hlt : i < 36
  ·have z1 : (i : Int) < 36:=by omega
   have hd : (((({ data:=#[97,98,99,100,101,102,103,104,105,106,107,108,109,110,111,112,113,114,115,116,117,118,119,120,121,122,48,49,50,51,52,53,54,55,56,57] } : ByteArray)[i]'(by show i < 36; exact hlt)).toNat : Nat) : Int) = dgP i:=HDg.out i hlt
   have hb:=dg_bd (i : Int) (by omega) z1
   by_cases e1 : dgP i = b
   ·have HR:=hid (vl_dg b i hlt e1);have e2 : (dgP (i : Int) == b) = true:=by simpa using e1
    clear e1;go_wp2_with fail;go_ret;exact ⟨ret_int HR.out.symm,rfl⟩
   ·have e2 : (dgP (i : Int) == b) = false:=by simpa using e1
    by_cases e3 : i < 26
    ·have z2 : (i : Int) < 26:=by omega
     have q1 : IntKind.u8.wrap (dgP (i : Int) - 32) = dgP (i : Int) - 32:=by rw [IntKind.wrap_u8]; omega
     by_cases e4 : b = dgP i - 32
     ·have HR:=hid (vl_up b i e3 e4);have e5 : (b == dgP (i : Int) - 32) = true:=by simpa using e4
      clear e4;go_wp2_with fail;go_ret;exact ⟨ret_int HR.out.symm,rfl⟩
     ·have e5 : (b == dgP (i : Int) - 32) = false:=by simpa using e4
      have HN : Hid (∀ j : Nat,j < i + 1 -> dgP j ≠ b ∧ ¬ (j < 26 ∧ b = dgP j - 32)):=fun j hj=>by
       by_cases e : j = i
       ·subst e; exact ⟨e1,fun h=>e4 h.2⟩
       ·exact H.out j (by omega)
      go_wp2_with fail;go_round
      case rel=>exact ⟨i + 1,by go_num,by omega,HN.out⟩
      case measure=>simp [intOf]; omega
    ·have z2 : ¬ (i : Int) < 26:=by omega
     have HN : Hid (∀ j : Nat,j < i + 1 -> dgP j ≠ b ∧ ¬ (j < 26 ∧ b = dgP j - 32)):=fun j hj=>by
      by_cases e : j = i
      ·subst e; exact ⟨e1,fun h=>e3 h.1⟩
      ·exact H.out j (by omega)
     go_wp2_with fail;go_round
     case rel=>exact ⟨i + 1,by go_num,by omega,HN.out⟩
     case measure=>simp [intOf]; omega
  ·have e : i = 36:=by omega
   subst e;have HR:=hid (vl_no b H.out);go_wp2_with fail;go_ret;exact ⟨ret_int HR.out.symm,rfl⟩
end Pu
end Go.Proofs.YtkhipgcgcbhjoaaGreat
