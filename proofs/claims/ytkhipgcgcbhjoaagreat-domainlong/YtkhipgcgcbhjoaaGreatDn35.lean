import Derived.Test.YtkhipgcgcbhjoaaGreatDn1
import Derived.Test.YtkhipgcgcbhjoaaGreatDn20
set_option maxRecDepth 100000
set_option maxHeartbeats 4000000
namespace Go.Proofs.YtkhipgcgcbhjoaaGreat
namespace Bi
open Go.RowKit
def oneN (d : Int) : Nat:=2 ^ d.toNat
theorem or16 (a b : Nat) (ha : a < 65536) (hb : b < 65536) : bits .or .u16 (a : Int) (b : Int) = ((a ||| b : Nat) : Int):=by
 have hx : a ||| b < 2 ^ 16:=Nat.or_lt_two_pow (by omega) (by omega)
 have h1 : (BitVec.ofInt 16 (a : Int)).toNat = a:=by rw [BitVec.ofInt_natCast,BitVec.toNat_ofNat]; exact Nat.mod_eq_of_lt (by omega)
 have h2 : (BitVec.ofInt 16 (b : Int)).toNat = b:=by rw [BitVec.ofInt_natCast,BitVec.toNat_ofNat]; exact Nat.mod_eq_of_lt (by omega)
 show IntKind.u16.wrap ((BitVec.ofInt 16 (a : Int) ||| BitVec.ofInt 16 (b : Int)).toNat : Int) = _
 rw [BitVec.toNat_or,h1,h2,IntKind.wrap_u16];omega
theorem and16 (a b : Nat) (ha : a < 65536) (hb : b < 65536) : bits .and .u16 (a : Int) (b : Int) = ((a &&& b : Nat) : Int):=by
 have hx : a &&& b < 2 ^ 16:=Nat.and_lt_two_pow _ (by omega)
 have h1 : (BitVec.ofInt 16 (a : Int)).toNat = a:=by rw [BitVec.ofInt_natCast,BitVec.toNat_ofNat]; exact Nat.mod_eq_of_lt (by omega)
 have h2 : (BitVec.ofInt 16 (b : Int)).toNat = b:=by rw [BitVec.ofInt_natCast,BitVec.toNat_ofNat]; exact Nat.mod_eq_of_lt (by omega)
 show IntKind.u16.wrap ((BitVec.ofInt 16 (a : Int) &&& BitVec.ofInt 16 (b : Int)).toNat : Int) = _
 rw [BitVec.toNat_and,h1,h2,IntKind.wrap_u16];omega
theorem andn16 (a b : Nat) (ha : a < 65536) (hb : b < 65536) : bits .andNot .u16 (a : Int) (b : Int) = ((a &&& (65535 - b) : Nat) : Int):=by
 have hx : a &&& (65535 - b) < 2 ^ 16:=Nat.and_lt_two_pow _ (by omega)
 have h1 : (BitVec.ofInt 16 (a : Int)).toNat = a:=by rw [BitVec.ofInt_natCast,BitVec.toNat_ofNat]; exact Nat.mod_eq_of_lt (by omega)
 have h2 : (BitVec.ofInt 16 (b : Int)).toNat = b:=by rw [BitVec.ofInt_natCast,BitVec.toNat_ofNat]; exact Nat.mod_eq_of_lt (by omega)
 show IntKind.u16.wrap ((BitVec.ofInt 16 (a : Int) &&& ~~~ BitVec.ofInt 16 (b : Int)).toNat : Int) = _
 rw [BitVec.toNat_and,BitVec.toNat_not,h1,h2,IntKind.wrap_u16];show (((a &&& (65535 - b) : Nat) : Int) % 65536) = _
 omega
def smN (s m : Nat) : Bool:=!(s &&& m == 0)
def wiN (s m : Nat) : Bool:=s &&& (65535 - m) == 0
def fstN : List Int -> Nat
 | []=>0
 | d :: _=>oneN d
def allN (ds : List Int) : Nat:=ds.foldl (fun a d=>a ||| oneN d) 0
def lastN (ds : List Int) : Nat:=ds.foldl (fun a d=>if oneN d = 256 then a else oneN d) 0
def lastD (ds : List Int) : Int:=ds.foldl (fun a d=>if d = 8 then a else d) (-1)
def rgN (a l : Nat) : Int:=if wiN a 2046 = false then 2 else if smN l 78 = false then 3 else if wiN 72 a = true then 4 else 0
def lfN (a l : Nat) : Int:=if wiN a 1977 = false then 5 else if smN l 9 = false then 6 else 0
def brN (f a l : Nat) : Int:=if smN f 7 = false then 1 else if smN f 6 = true then rgN a l else lfN a l
def inR : List Int:=[1,2,6,3,4,7,5,10,9,8]
def inL : List Int:=[0,3,4,7,5,10,9,8]
def allB (ds may : List Int) : Bool:=ds.all (fun d=>decide (d ∈ may))
def brD (ds : List Int) : Int :=
 match ds with
 | []=>1
 | d :: _=>if d = 0 then (if allB ds inL = false then 5 else if lastD ds ∈ [0,3] then 0 else 6)
  else if d = 1 ∨ d = 2 then (if allB ds inR = false then 2 else if ¬ lastD ds ∈ [1,2,3,6] then 3 else if 3 ∈ ds ∧ 6 ∈ ds then 4 else 0) else 1
def rtD (ds : List Int) : Bool:=decide (1 ∈ ds) || decide (2 ∈ ds) || decide (6 ∈ ds)
def Dir (d : Int) : Prop:=0 <= d ∧ d <= 11
theorem one_lt {d : Int} (h : Dir d) : oneN d < 4096:=by
 unfold oneN;have : d.toNat < 12:=by have:=h.1; have:=h.2; omega
 exact Nat.pow_lt_pow_right (a:=2) (n:=12) (by omega) this
theorem all_lt : ∀ (ds : List Int) (a : Nat),a < 4096 -> (∀ d ∈ ds,Dir d) -> ds.foldl (fun a d=>a ||| oneN d) a < 4096
 | [],a,h,_=>h
 | d :: ds,a,h,hd=>by rw [List.foldl_cons];exact all_lt ds _ (Nat.or_lt_two_pow (n:=12) h (one_lt (hd d List.mem_cons_self))) (fun x hx=>hd x (List.mem_cons_of_mem _ hx))
theorem allN_lt {ds : List Int} (h : ∀ d ∈ ds,Dir d) : allN ds < 4096:=all_lt ds 0 (by omega) h
theorem all_bit (j : Nat) : ∀ (ds : List Int) (a : Nat),(∀ d ∈ ds,Dir d) -> (ds.foldl (fun a d=>a ||| oneN d) a).testBit j = (a.testBit j || decide ((j : Int) ∈ ds))
 | [],a,_=>by simp
 | d :: ds,a,hd=>by
  have h0:=hd d List.mem_cons_self
  rw [List.foldl_cons,all_bit j ds _ (fun x hx=>hd x (List.mem_cons_of_mem _ hx)),Nat.testBit_or,oneN,Nat.testBit_two_pow,Bool.or_assoc]
  congr 1
  have e : (d.toNat = j) = ((j : Int) = d):=by have:=h0.1; apply propext; omega
  rw [Bool.eq_iff_iff,Bool.or_eq_true,decide_eq_true_eq,decide_eq_true_eq,decide_eq_true_eq,List.mem_cons,e]
theorem allN_bit (j : Nat) {ds : List Int} (h : ∀ d ∈ ds,Dir d) : (allN ds).testBit j = decide ((j : Int) ∈ ds):=by unfold allN;rw [all_bit j ds 0 h]; simp
def ck (s : Nat) : Bool:=(wiN s 2046 == (!s.testBit 0 && !s.testBit 11)) && (wiN s 1977 == (!s.testBit 1 && !s.testBit 2 && !s.testBit 6 && !s.testBit 11)) && (wiN 72 s == (s.testBit 3 && s.testBit 6)) && (smN s 70 == (s.testBit 1 || s.testBit 2 || s.testBit 6))
theorem ck_all : (List.range 4096).all ck = true:=by kernel_rfl
theorem ck_at (s : Nat) (h : s < 4096) : wiN s 2046 = (!s.testBit 0 && !s.testBit 11) ∧ wiN s 1977 = (!s.testBit 1 && !s.testBit 2 && !s.testBit 6 && !s.testBit 11) ∧ wiN 72 s = (s.testBit 3 && s.testBit 6) ∧ smN s 70 = (s.testBit 1 || s.testBit 2 || s.testBit 6):=by
 have h1:=List.all_eq_true.1 ck_all s (List.mem_range.2 h)
 unfold ck at h1;rw [Bool.and_eq_true,Bool.and_eq_true,Bool.and_eq_true,beq_iff_eq,beq_iff_eq,beq_iff_eq,beq_iff_eq] at h1;exact ⟨h1.1.1.1,h1.1.1.2,h1.1.2,h1.2⟩
theorem dir_cases {d : Int} (h : Dir d) : d = 0 ∨ d = 1 ∨ d = 2 ∨ d = 3 ∨ d = 4 ∨ d = 5 ∨ d = 6 ∨ d = 7 ∨ d = 8 ∨ d = 9 ∨ d = 10 ∨ d = 11:=by have:=h.1; have:=h.2; omega
theorem all_r {ds : List Int} (h : ∀ d ∈ ds,Dir d) : allB ds inR = (!decide (0 ∈ ds) && !decide (11 ∈ ds)):=by
 unfold allB;rw [Bool.eq_iff_iff,List.all_eq_true,Bool.and_eq_true,Bool.not_eq_true',Bool.not_eq_true',decide_eq_false_iff_not,decide_eq_false_iff_not];constructor
 ·intro H
  exact ⟨fun m=>absurd (H 0 m) (by decide),fun m=>absurd (H 11 m) (by decide)⟩
 ·rintro ⟨a,b⟩ d hd;rcases dir_cases (h d hd) with rfl | rfl | rfl | rfl | rfl | rfl | rfl | rfl | rfl | rfl | rfl | rfl <;> first | exact absurd hd a | exact absurd hd b | decide
theorem all_l {ds : List Int} (h : ∀ d ∈ ds,Dir d) : allB ds inL = (!decide (1 ∈ ds) && !decide (2 ∈ ds) && !decide (6 ∈ ds) && !decide (11 ∈ ds)):=by
 unfold allB;rw [Bool.eq_iff_iff,List.all_eq_true];simp only [Bool.and_eq_true,Bool.not_eq_true',decide_eq_false_iff_not]
 constructor
 ·intro H
  exact ⟨⟨⟨fun m=>absurd (H 1 m) (by decide),fun m=>absurd (H 2 m) (by decide)⟩,fun m=>absurd (H 6 m) (by decide)⟩,fun m=>absurd (H 11 m) (by decide)⟩
 ·rintro ⟨⟨⟨a,b⟩,c⟩,e⟩ d hd;rcases dir_cases (h d hd) with rfl | rfl | rfl | rfl | rfl | rfl | rfl | rfl | rfl | rfl | rfl | rfl <;> first | exact absurd hd a | exact absurd hd b | exact absurd hd c | exact absurd hd e | decide
def lnOf (d : Int) : Nat:=if d = -1 then 0 else oneN d
theorem last_fold : ∀ (ds : List Int) (a : Nat) (e : Int),(∀ d ∈ ds,Dir d) -> a = lnOf e -> (e = -1 ∨ Dir e) -> ds.foldl (fun a d=>if oneN d = 256 then a else oneN d) a = lnOf (ds.foldl (fun a d=>if d = 8 then a else d) e) ∧ (ds.foldl (fun a d=>if d = 8 then a else d) e = -1 ∨ Dir (ds.foldl (fun a d=>if d = 8 then a else d) e))
 | [],_,_,_,h,h'=>⟨h,h'⟩
 | d :: ds,a,e,hd,h,h'=>by
  rw [List.foldl_cons,List.foldl_cons];have h0:=hd d List.mem_cons_self
  refine last_fold ds _ _ (fun x hx=>hd x (List.mem_cons_of_mem _ hx)) ?_ ?_
  ·by_cases e8 : d = 8
   ·subst e8; rw [if_pos (by decide),if_pos rfl]; exact h
   ·have hne : oneN d ≠ 256:=by
     rcases dir_cases h0 with rfl | rfl | rfl | rfl | rfl | rfl | rfl | rfl | rfl | rfl | rfl | rfl <;> first | exact absurd rfl e8 | decide
    rw [if_neg hne,if_neg e8,lnOf,if_neg (by have:=h0.1; omega)]
  ·by_cases e8 : d = 8
   ·rw [if_pos e8]; exact h'
   ·rw [if_neg e8]; exact .inr h0
theorem last_eq {ds : List Int} (h : ∀ d ∈ ds,Dir d) : lastN ds = lnOf (lastD ds) ∧ (lastD ds = -1 ∨ Dir (lastD ds)):=last_fold ds 0 (-1) h rfl (.inl rfl)
theorem sm_last (e : Int) (h : e = -1 ∨ Dir e) : smN (lnOf e) 78 = decide (e ∈ [1,2,3,6]) ∧ smN (lnOf e) 9 = decide (e ∈ [0,3]):=by
 rcases h with rfl | h
 ·decide
 ·rcases dir_cases h with rfl | rfl | rfl | rfl | rfl | rfl | rfl | rfl | rfl | rfl | rfl | rfl <;> decide
theorem sm_first (e : Int) (h : Dir e) : smN (oneN e) 7 = decide (e = 0 ∨ e = 1 ∨ e = 2) ∧ smN (oneN e) 6 = decide (e = 1 ∨ e = 2):=by rcases dir_cases h with rfl | rfl | rfl | rfl | rfl | rfl | rfl | rfl | rfl | rfl | rfl | rfl <;> decide
theorem br_eq {ds : List Int} (h : ∀ d ∈ ds,Dir d) : brN (fstN ds) (allN ds) (lastN ds) = brD ds:=by
 obtain ⟨c1,c2,c3,_⟩:=ck_at _ (allN_lt h)
 obtain ⟨l1,l2⟩:=last_eq h
 obtain ⟨s1,s2⟩:=sm_last _ l2
 rw [allN_bit 0 h,allN_bit 11 h] at c1;rw [allN_bit 1 h,allN_bit 2 h,allN_bit 6 h,allN_bit 11 h] at c2;rw [allN_bit 3 h,allN_bit 6 h] at c3;replace c1 : wiN (allN ds) 2046 = allB ds inR:=by rw [all_r h]; exact c1
 replace c2 : wiN (allN ds) 1977 = allB ds inL:=by rw [all_l h]; exact c2
 have hr : rgN (allN ds) (lastN ds) = if allB ds inR = false then 2 else if ¬ lastD ds ∈ [1,2,3,6] then 3 else if 3 ∈ ds ∧ 6 ∈ ds then 4 else 0:=by
  unfold rgN;rw [c1,l1,s1,c3];simp only [decide_eq_false_iff_not,Bool.and_eq_true,decide_eq_true_eq]
  rfl
 have hl : lfN (allN ds) (lastN ds) = if allB ds inL = false then 5 else if lastD ds ∈ [0,3] then 0 else 6:=by
  unfold lfN;rw [c2,l1,s2];simp only [decide_eq_false_iff_not]
  rw [ite_not]
 unfold brN;rw [hr,hl];match ds,h with
 | [],_=>rfl
 | d :: ds,h =>
  obtain ⟨f1,f2⟩:=sm_first d (h d List.mem_cons_self)
  rw [show fstN (d :: ds) = oneN d from rfl,f1,f2]
  simp only [brD]
  by_cases h0 : d = 0
  ·subst h0; rfl
  ·rw [if_neg h0];by_cases h1 : d = 1 ∨ d = 2
   ·have e1 : decide (d = 0 ∨ d = 1 ∨ d = 2) = true:=decide_eq_true (.inr h1)
    rw [e1,decide_eq_true h1,if_pos h1]; rfl
   ·have e1 : decide (d = 0 ∨ d = 1 ∨ d = 2) = false:=decide_eq_false (by omega)
    rw [e1,if_neg h1]; rfl
theorem rt_eq {ds : List Int} (h : ∀ d ∈ ds,Dir d) : smN (allN ds) 70 = rtD ds:=by
 obtain ⟨_,_,_,c⟩:=ck_at _ (allN_lt h)
 rw [allN_bit 1 h,allN_bit 2 h,allN_bit 6 h] at c;exact c
theorem hr {p : Prop} (h : p) : Hid p:=h
theorem sm_int (s m : Nat) : (!(((s &&& m : Nat) : Int) == 0)) = smN s m:=by
 unfold smN;congr 1
 rw [Bool.eq_iff_iff,beq_iff_eq,beq_iff_eq]; omega
theorem wi_int (s m : Nat) : (((s &&& (65535 - m) : Nat) : Int) == 0) = wiN s m:=by unfold wiN;rw [Bool.eq_iff_iff,beq_iff_eq,beq_iff_eq]; omega
theorem some_any (s m : Nat) (hs : s < 65536) (hm : m < 65536) (w : World) :
 Calls Tryz.prog 105 #[.int .u16 (s : Int),.int .u16 (m : Int)] w fun e w'=>e = .returned (.bool (smN s m)) ∧ w' = w:=by
 have h:=and16 s m hs hm
 have HE:=hr (sm_int s m);generalize ((s &&& m : Nat) : Int) = z at *;clear hs hm;go_enter Tryz.func105,Tryz.ntmps105
 go_wp2_with fail;go_ret;exact ⟨ret_bool HE.out,rfl⟩
theorem within_any (s m : Nat) (hs : s < 65536) (hm : m < 65536) (w : World) :
 Calls Tryz.prog 173 #[.int .u16 (s : Int),.int .u16 (m : Int)] w fun e w'=>e = .returned (.bool (wiN s m)) ∧ w' = w:=by
 have h:=andn16 s m hs hm
 have HE:=hr (wi_int s m);generalize ((s &&& (65535 - m) : Nat) : Int) = z at *;clear hs hm;go_enter Tryz.func173,Tryz.ntmps173
 go_wp2_with fail;go_ret;exact ⟨ret_bool HE.out,rfl⟩
def vwV (f a l : Nat) : Value:=.agg #[.int .u16 (f : Int),.int .u16 (a : Int),.int .u16 (l : Int)]
theorem right_any (f a l : Nat) (ha : a < 65536) (hl : l < 65536) (w : World) :
 Calls Tryz.prog 106 #[vwV f a l] w fun e w'=>e = .returned (.int .i64 (rgN a l)) ∧ Below w.heap.size w w':=by
 have HO:=hr (Ok.start w);have H1:=hr (fun W=>within_any a 2046 ha (by omega) W)
 have H2:=hr (fun W=>some_any l 78 hl (by omega) W)
 have H3:=hr (fun W=>within_any 72 a (by omega) ha W)
 unfold rgN vwV;generalize wiN a 2046 = q1 at *;generalize smN l 78 = q2 at *;generalize wiN 72 a = q3 at *;clear ha hl;go_enter Tryz.func106,Tryz.ntmps106
 go_wp2_with fail;refine (H1.out _).mono ?_;rintro e w1 ⟨rfl,rfl⟩;cases q1
 ·go_wp2_with fail;go_ret;exact ⟨rfl,HO.out.alloc.1⟩
 go_wp2_with fail;refine (H2.out _).mono ?_;rintro e w1 ⟨rfl,rfl⟩;cases q2
 ·go_wp2_with fail;go_ret;exact ⟨rfl,HO.out.alloc.1⟩
 go_wp2_with fail;refine (H3.out _).mono ?_;rintro e w1 ⟨rfl,rfl⟩;cases q3
 ·go_wp2_with fail;go_ret;exact ⟨rfl,HO.out.alloc.1⟩
 go_wp2_with fail;go_ret;exact ⟨rfl,HO.out.alloc.1⟩
theorem left_any (f a l : Nat) (ha : a < 65536) (hl : l < 65536) (w : World) :
 Calls Tryz.prog 107 #[vwV f a l] w fun e w'=>e = .returned (.int .i64 (lfN a l)) ∧ Below w.heap.size w w':=by
 have HO:=hr (Ok.start w);have H1:=hr (fun W=>within_any a 1977 ha (by omega) W)
 have H2:=hr (fun W=>some_any l 9 hl (by omega) W)
 unfold lfN vwV;generalize wiN a 1977 = q1 at *;generalize smN l 9 = q2 at *;clear ha hl;go_enter Tryz.func107,Tryz.ntmps107
 go_wp2_with fail;refine (H1.out _).mono ?_;rintro e w1 ⟨rfl,rfl⟩;cases q1
 ·go_wp2_with fail;go_ret;exact ⟨rfl,HO.out.alloc.1⟩
 go_wp2_with fail;refine (H2.out _).mono ?_;rintro e w1 ⟨rfl,rfl⟩;cases q2
 ·go_wp2_with fail;go_ret;exact ⟨rfl,HO.out.alloc.1⟩
 go_wp2_with fail;go_ret;exact ⟨rfl,HO.out.alloc.1⟩
end Bi
end Go.Proofs.YtkhipgcgcbhjoaaGreat
namespace Go.Proofs.YtkhipgcgcbhjoaaGreat
namespace Bi
open Go.RowKit Od
def bdP (r : Int) : Int:=(Uc.getV Uc.zTr Uc.bookL r).b
theorem bd_any {w : World} {b : Nat} (h : Bk w b) (r : Int) : Calls Tryz.prog 172 #[.pointer (some ⟨b,0,none⟩),.int .i32 r] w fun e w'=>e = .returned (.int .i64 (bdP r)) ∧ Below w.heap.size w w':=by
 obtain ⟨p,rv,hb⟩:=h
 exact Uc.bidi_any hb r
theorem book_bd : Uc.bookL.all (fun x=>decide (0 <= x.v.b) && decide (x.v.b <= 11)) = true:=by kernel_rfl
theorem bd_dir (r : Int) : Dir (bdP r):=by
 have h:=Uc.get_or (fun x=>decide (0 <= x.b) && decide (x.b <= 11)) Uc.bookL Uc.zTr r (by decide) book_bd
 rw [Bool.and_eq_true,decide_eq_true_eq,decide_eq_true_eq] at h;exact h
theorem map_dir (X : List Int) : ∀ d ∈ X.map bdP,Dir d:=fun d h=>by
 obtain ⟨r,_,rfl⟩:=List.mem_map.1 h
 exact bd_dir r
def Vc (w : World) (v f a l : Nat) : Prop:=w.heap[v]? = some (.cells #[.int .u16 (f : Int),.int .u16 (a : Int),.int .u16 (l : Int)] 163)
theorem Vc.lt {w : World} {v f a l : Nat} (h : Vc w v f a l) : v < w.heap.size:=(Array.getElem?_eq_some_iff.1 h).1
theorem Vc.cells {w : World} {v f a l : Nat} (h : Vc w v f a l) : w.cell? ⟨v,0,none⟩ = some (.int .u16 (f : Int)) ∧ w.cell? ⟨v,1,none⟩ = some (.int .u16 (a : Int)) ∧ w.cell? ⟨v,2,none⟩ = some (.int .u16 (l : Int)):=by
 unfold World.cell?
 rw [h];exact ⟨rfl,rfl,rfl⟩
theorem Vc.frozen {w : World} {v f a l : Nat} (h : Vc w v f a l) (i : Nat) : w.frozen? ⟨v,i,none⟩ = false:=by unfold Vc at h;simp [World.frozen?,h]
theorem Vc.step {w w' : World} {v f a l : Nat} (h : Vc w v f a l) (hb : Below w.heap.size w w') : Vc w' v f a l:=(hb.block v h.lt).trans h
theorem heap_set {w : World} {v : Nat} {cs : Array Value} {t : TypeId} (h : w.heap[v]? = some (.cells cs t)) (i : Nat) (x : Value) : (w.setCell ⟨v,i,none⟩ x).heap[v]? = some (.cells (cs.setIfInBounds i x) t):=by
 show (w.heap.modify v _)[v]? = _
 rw [Array.getElem?_modify];simp [h]
theorem Vc.other {w : World} {v f a l g : Nat} (h : Vc w v f a l) (i : Nat) (x : Value) (hg : v ≠ g) : Vc (w.setCell ⟨g,i,none⟩ x) v f a l:=(Below.heap_setCell _ _ _ _ hg).trans h
theorem Vc.set0 {w : World} {v f a l : Nat} (h : Vc w v f a l) (x : Nat) : Vc (w.setCell ⟨v,0,none⟩ (.int .u16 (x : Int))) v x a l:=heap_set h 0 _
theorem Vc.set1 {w : World} {v f a l : Nat} (h : Vc w v f a l) (x : Nat) : Vc (w.setCell ⟨v,1,none⟩ (.int .u16 (x : Int))) v f x l:=heap_set h 1 _
theorem Vc.set2 {w : World} {v f a l : Nat} (h : Vc w v f a l) (x : Nat) : Vc (w.setCell ⟨v,2,none⟩ (.int .u16 (x : Int))) v f a x:=heap_set h 2 _
theorem ok_set {B : Nat} {W0 w : World} (h : Ok B W0 w) (v i : Nat) (hv : B <= v) (x : Value) : Ok B W0 (w.setCell ⟨v,i,none⟩ x):=⟨h.1.setCell (p:=⟨v,i,none⟩) hv x,by simpa [World.setCell] using h.2⟩
theorem fst_snoc (ds : List Int) (d : Int) (h : ds ≠ []) : fstN (ds ++ [d]) = fstN ds:=by
 match ds,h with
 | x :: xs,_=>rfl
theorem all_snoc (ds : List Int) (d : Int) : allN (ds ++ [d]) = allN ds ||| oneN d:=by unfold allN; rw [List.foldl_append]; rfl
theorem last_snoc (ds : List Int) (d : Int) : lastN (ds ++ [d]) = if oneN d = 256 then lastN ds else oneN d:=by unfold lastN; rw [List.foldl_append]; rfl
theorem pow16 {d : Int} (h : Dir d) : IntKind.u16.wrap ((2 : Int) ^ d.toNat) = ((oneN d : Nat) : Int):=by rw [IntKind.wrap_u16];rcases dir_cases h with rfl | rfl | rfl | rfl | rfl | rfl | rfl | rfl | rfl | rfl | rfl | rfl <;> rfl
structure Lk (w : World) (X : List Int) (k : Nat) (W : World) : Prop where
 v : Vc W (w.heap.size + 1) (fstN ((X.take k).map bdP)) (allN ((X.take k).map bdP)) (lastN ((X.take k).map bdP))
 r : Vc W w.heap.size 0 0 0
 ok : Ok w.heap.size w W
theorem look_any {w : World} {b : Nat} (hB : Bk w b) {ao : Option Addr} {n cap : Nat} {X : List Int} (hX : X.length = n) (hS : SlP .i32 w ao cap X) (hn : n <= 1000000) :
 Calls Tryz.prog 104 #[.pointer (some ⟨b,0,none⟩),.slice ao n cap] w fun e w'=>e = .returned (vwV (fstN (X.map bdP)) (allN (X.map bdP)) (lastN (X.map bdP))) ∧ Below w.heap.size w w':=by
 have HX:=hr hX
 have HS:=hr hS
 have H0 : Hid (Lk w X 0 ((w.alloc (.cells #[.int .u16 0,.int .u16 0,.int .u16 0] 163)).alloc (.cells #[.int .u16 0,.int .u16 0,.int .u16 0] 163))) :=
  ⟨by have:=heap_new (w.alloc (.cells #[.int .u16 0,.int .u16 0,.int .u16 0] 163)) (.cells #[.int .u16 0,.int .u16 0,.int .u16 0] 163); rwa [World.size_alloc] at this,
   by have:=heap_new w (.cells #[.int .u16 0,.int .u16 0,.int .u16 0] 163); exact (Below.heap_alloc _ _ _ (Array.getElem?_eq_some_iff.1 this).1).trans this,(Ok.start w).alloc.alloc⟩
 have HBd:=hr (fun (W : World) (h : Below w.heap.size w W) (r : Int)=>bd_any (hB.step h) r)
 clear hB hX hS;go_enter Tryz.func104,Tryz.ntmps104
 go_wp2_with fail;go_loopg [11] n (fun gg vi wr=>∃ k : Nat,vi = .int .i64 k ∧ k <= n ∧ gg = n - k ∧ Hid (Lk w X k wr))
 case atStart=>exact ⟨0,rfl,Nat.zero_le _,rfl,H0.out⟩
 case round =>
  obtain ⟨k,rfl,hk,hg,H⟩:=hrel
  have HG:=hr hg
  clear hg H0;by_cases hlt : k < n
  ·have hlx : k < X.length:=by have:=HX.out; omega
   obtain ⟨bb,off,rfl,hb,c1⟩:=HS.out.at_ k hlx
   have d1:=(H.out.ok.1.cell (p:=⟨bb,off + k,none⟩) hb).trans c1
   have HV:=hr (HBd.out wr H.out.ok.1 X[k]);have HD:=hr (bd_dir X[k]);have HT : Hid ((X.take (k + 1)).map bdP = (X.take k).map bdP ++ [bdP X[k]]):=by show _ = _; rw [List.take_succ_eq_append_getElem hlx,List.map_append]; rfl
   have z1 : (k : Int) < (n : Int):=by omega
   clear c1;generalize X[k] = x at *;generalize bdP x = d at *;have HF : Hid (fstN ((X.take (k + 1)).map bdP) = if k = 0 then oneN d else fstN ((X.take k).map bdP)):=by
    show _ = _;rw [HT.out];by_cases e : k = 0
    ·subst e; rfl
    ·rw [if_neg e,fst_snoc];intro h
     rw [List.map_eq_nil_iff,List.take_eq_nil_iff] at h;rcases h with h | h
     ·exact e h
     ·rw [h] at hlx; simp at hlx
   have HA : Hid (allN ((X.take (k + 1)).map bdP) = allN ((X.take k).map bdP) ||| oneN d):=by show _ = _; rw [HT.out,all_snoc]
   have HL : Hid (lastN ((X.take (k + 1)).map bdP) = if oneN d = 256 then lastN ((X.take k).map bdP) else oneN d):=by show _ = _; rw [HT.out,last_snoc]
   have hp:=pow16 HD.out
   have hor:=or16 (allN ((X.take k).map bdP)) (oneN d) (Nat.lt_trans (allN_lt (map_dir _)) (by omega)) (Nat.lt_trans (one_lt HD.out) (by omega))
   have g0:=HD.out.1
   have g1 : d <= 16:=Int.le_trans HD.out.2 (by omega)
   go_wp2_with fail;refine HV.out.mono ?_;rintro e W1 ⟨rfl,hb1⟩;have HW : Hid (Vc W1 (w.heap.size + 1) (fstN ((X.take k).map bdP)) (allN ((X.take k).map bdP)) (lastN ((X.take k).map bdP)) ∧ Vc W1 w.heap.size 0 0 0 ∧ Ok w.heap.size w W1):=⟨H.out.v.step hb1,H.out.r.step hb1,H.out.ok.step hb1⟩
   obtain ⟨q0,q1,q2⟩:=HW.out.1.cells
   have t0:=HW.out.1.frozen 0
   have t1:=HW.out.1.frozen 1
   have t2:=HW.out.1.frozen 2
   have HK : Hid (∀ W,Vc W (w.heap.size + 1) (fstN ((X.take (k + 1)).map bdP)) (allN ((X.take (k + 1)).map bdP)) (lastN ((X.take (k + 1)).map bdP)) -> Vc W w.heap.size 0 0 0 -> Ok w.heap.size w W -> Lk w X (k + 1) W):=fun W h1 h2 h3=>⟨h1,h2,h3⟩
   rw [HF.out,HA.out,HL.out] at HK;clear hb1 H HV HD HT HF HA HL HBd;generalize fstN ((X.take k).map bdP) = f at *;generalize allN ((X.take k).map bdP) = a at *
   generalize lastN ((X.take k).map bdP) = l at *;generalize oneN d = o at *;by_cases hk0 : k = 0
   ·subst hk0;by_cases ho : o = 256
    ·have ho' : ((o : Int) == 256) = true:=beq_iff_eq.2 (by omega)
     have HE:=hr ho
     clear ho;go_wp2_with fail;go_roundg (n - (0 + 1))
     case measure=>rw [HG.out]; omega
     case rel=>exact ⟨0 + 1,by go_num,by omega,rfl,HK.out _ (by rw [if_pos trivial,if_pos HE.out]; exact ((HW.out.1).set0 o).set1 (a ||| o)) (((HW.out.2.1).other 0 _ (by omega)).other 1 _ (by omega)) (ok_set (ok_set (HW.out.2.2) _ 0 (by omega) _) _ 1 (by omega) _)⟩
    ·have ho' : ((o : Int) == 256) = false:=beq_eq_false_iff_ne.2 (by omega)
     go_wp2_with fail;go_roundg (n - (0 + 1))
     case measure=>rw [HG.out]; omega
     case rel=>exact ⟨0 + 1,by go_num,by omega,rfl,HK.out _ (by rw [if_pos trivial,if_neg ho]; exact (((HW.out.1).set0 o).set2 o).set1 (a ||| o)) ((((HW.out.2.1).other 0 _ (by omega)).other 2 _ (by omega)).other 1 _ (by omega)) (ok_set (ok_set (ok_set (HW.out.2.2) _ 0 (by omega) _) _ 2 (by omega) _) _ 1 (by omega) _)⟩
   ·have hk1 : ((k : Int) == 0) = false:=beq_eq_false_iff_ne.2 (by omega)
    by_cases ho : o = 256
    ·have ho' : ((o : Int) == 256) = true:=beq_iff_eq.2 (by omega)
     have HE:=hr ho
     clear ho;go_wp2_with fail;go_roundg (n - (k + 1))
     case measure=>rw [HG.out]; omega
     case rel=>exact ⟨k + 1,by go_num,by omega,rfl,HK.out _ (by rw [if_neg hk0,if_pos HE.out]; exact (HW.out.1).set1 (a ||| o)) ((HW.out.2.1).other 1 _ (by omega)) (ok_set (HW.out.2.2) _ 1 (by omega) _)⟩
    ·have ho' : ((o : Int) == 256) = false:=beq_eq_false_iff_ne.2 (by omega)
     go_wp2_with fail;go_roundg (n - (k + 1))
     case measure=>rw [HG.out]; omega
     case rel=>exact ⟨k + 1,by go_num,by omega,rfl,HK.out _ (by rw [if_neg hk0,if_neg ho]; exact ((HW.out.1).set2 o).set1 (a ||| o)) (((HW.out.2.1).other 2 _ (by omega)).other 1 _ (by omega)) (ok_set (ok_set (HW.out.2.2) _ 2 (by omega) _) _ 1 (by omega) _)⟩
  ·have e : k = X.length:=by have:=HX.out; omega
   have z1 : ¬ (k : Int) < (n : Int):=by omega
   have h1:=H.out.v
   rw [e,List.take_length] at h1;obtain ⟨q0,q1,q2⟩:=h1.cells
   have t0:=H.out.r.frozen 0
   have t1:=H.out.r.frozen 1
   have t2:=H.out.r.frozen 2
   obtain ⟨p0,p1,p2⟩:=H.out.r.cells
   have HW:=hr H.out
   clear H h1;go_wp2_with fail;obtain ⟨x0,x1,x2⟩:=(((HW.out.r.set0 (fstN (X.map bdP))).set1 (allN (X.map bdP))).set2 (lastN (X.map bdP))).cells
   exact bodyPost_ret (v:=vwV (fstN (X.map bdP)) (allN (X.map bdP)) (lastN (X.map bdP))) (by simp [results,Tryz.results104,go_sem,vwV,x0,x1,x2]) rfl ⟨rfl,(ok_set (ok_set (ok_set HW.out.ok _ 0 (Nat.le_refl _) _) _ 1 (Nat.le_refl _) _) _ 2 (Nat.le_refl _) _).1⟩
theorem fst_lt {ds : List Int} (h : ∀ d ∈ ds,Dir d) : fstN ds < 65536:=by
 match ds,h with
 | [],_=>show 0 < 65536; omega
 | d :: _,h=>exact Nat.lt_trans (one_lt (h d List.mem_cons_self)) (by omega)
theorem last_lt {ds : List Int} (h : ∀ d ∈ ds,Dir d) : lastN ds < 65536:=by
 obtain ⟨h1,h2⟩:=last_eq h
 rw [h1];unfold lnOf;by_cases e : lastD ds = -1
 ·rw [if_pos e]; omega
 ·rw [if_neg e]; exact Nat.lt_trans (one_lt (h2.resolve_left e)) (by omega)
def brP (X : List Int) : Int:=brD (X.map bdP)
def rtP (X : List Int) : Bool:=rtD (X.map bdP)
theorem broken_any {w : World} {b : Nat} (hB : Bk w b) {ao : Option Addr} {n cap : Nat} {X : List Int} (hX : X.length = n) (hS : SlP .i32 w ao cap X) (hn : n <= 1000000) :
 Calls Tryz.prog 55 #[.pointer (some ⟨b,0,none⟩),.slice ao n cap] w fun e w'=>e = .returned (.int .i64 (brP X)) ∧ Below w.heap.size w w':=by
 have HL:=hr (look_any hB hX hS hn);have HO:=hr (Ok.start w);have hf:=fst_lt (map_dir X)
 have ha : allN (X.map bdP) < 65536:=Nat.lt_trans (allN_lt (map_dir X)) (by omega)
 have hl:=last_lt (map_dir X)
 unfold brP;rw [<- br_eq (map_dir X)];unfold vwV at HL;generalize fstN (X.map bdP) = f at *;generalize allN (X.map bdP) = a at *;generalize lastN (X.map bdP) = l at *
 have H7:=hr (fun W=>some_any f 7 hf (by omega) W)
 have H6:=hr (fun W=>some_any f 6 hf (by omega) W)
 have HR:=hr (fun W=>right_any f a l ha hl W)
 have HF:=hr (fun W=>left_any f a l ha hl W)
 unfold vwV at HR HF;unfold brN;generalize rgN a l = x at *;generalize lfN a l = y at *;generalize smN f 7 = q at *;generalize smN f 6 = q' at *
 clear hB hX hS hn hf ha hl;go_enter Tryz.func55,Tryz.ntmps55
 go_wp2_with fail;refine HL.out.mono ?_;rintro e w1 ⟨rfl,hb⟩;replace HO:=hr (HO.out.step hb);clear hb HL;go_wp2_with fail;refine (H7.out _).mono ?_;rintro e w2 ⟨rfl,rfl⟩
 cases q
 ·go_wp2_with fail;go_ret;exact ⟨rfl,HO.out.alloc.1⟩
 go_wp2_with fail;refine (H6.out _).mono ?_;rintro e w2 ⟨rfl,rfl⟩;cases q'
 ·go_wp2_with fail;refine (HF.out _).mono ?_;rintro e w2 ⟨rfl,hb⟩;replace HO:=hr (HO.out.alloc.step hb);clear hb;go_wp2_with fail;go_ret;exact ⟨rfl,HO.out.1⟩
 ·go_wp2_with fail;refine (HR.out _).mono ?_;rintro e w2 ⟨rfl,hb⟩;replace HO:=hr (HO.out.alloc.step hb);clear hb;go_wp2_with fail;go_ret;exact ⟨rfl,HO.out.1⟩
theorem run_fieldV (f a l : Int) (w : World) : (Instr.field 163 (.agg #[.int .u16 f,.int .u16 a,.int .u16 l]) 1).run Tryz.prog w = .ok (.int .u16 a) w:=by simp [Instr.field,run_underlying Tryz.underlying163,asAgg,part,isAgg,run_underlying Tryz.underlying161]
theorem rtl_any {w : World} {b : Nat} (hB : Bk w b) {ao : Option Addr} {n cap : Nat} {X : List Int} (hX : X.length = n) (hS : SlP .i32 w ao cap X) (hn : n <= 1000000) :
 Calls Tryz.prog 212 #[.pointer (some ⟨b,0,none⟩),.slice ao n cap] w fun e w'=>e = .returned (.bool (rtP X)) ∧ Below w.heap.size w w':=by
 have HL:=hr (look_any hB hX hS hn);have HO:=hr (Ok.start w);have ha : allN (X.map bdP) < 65536:=Nat.lt_trans (allN_lt (map_dir X)) (by omega)
 unfold rtP;rw [<- rt_eq (map_dir X)];unfold vwV at HL;generalize fstN (X.map bdP) = f at *;generalize allN (X.map bdP) = a at *;generalize lastN (X.map bdP) = l at *
 have H7:=hr (fun W=>some_any a 70 ha (by omega) W)
 have hfd:=fun W=>run_fieldV f a l W
 generalize smN a 70 = q at *;clear hB hX hS hn ha;go_enter Tryz.func212,Tryz.ntmps212
 go_wp2_with fail;refine HL.out.mono ?_;rintro e w1 ⟨rfl,hb⟩;replace HO:=hr (HO.out.step hb);clear hb HL;go_wp2_with fail;refine (H7.out _).mono ?_;rintro e w2 ⟨rfl,rfl⟩
 go_wp2_with fail;go_ret;exact ⟨rfl,HO.out.1⟩
theorem bd_1488 : bdP 1488 = 1:=by kernel_rfl
theorem bd_49 : bdP 49 = 3:=by kernel_rfl
theorem ex1 : brP [1488,49] = 0:=by
 show brD [bdP 1488,bdP 49] = 0
 rw [bd_1488,bd_49]; decide
theorem ex2 : brP [49,1488] = 1:=by
 show brD [bdP 49,bdP 1488] = 1
 rw [bd_1488,bd_49]; decide
end Bi
end Go.Proofs.YtkhipgcgcbhjoaaGreat
