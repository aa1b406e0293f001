import Derived.Test.YtkhipgcgcbhjoaaGreatDn20
import Derived.Shelf.Abstract
import Derived.Test.YtkhipgcgcbhjoaaGreatDn28
set_option maxRecDepth 100000
set_option maxHeartbeats 2000000
namespace Go.Proofs.YtkhipgcgcbhjoaaGreat
namespace Ru
open Go.RowKit Od
theorem hr {p : Prop} (h : p) : Hid p:=h
theorem index_any {w : World} {v : Value} {zs : List Int} (h : Sl .i64 w v zs) (hn : zs.length <= 1000000) (x : Int) :
 Calls Tryz.prog 280 #[v,.int .i64 x] w fun e w'=>∃ z : Int,e = .returned (.int .i64 z) ∧ (0 <= z ↔ x ∈ zs) ∧ w' = w:=by
 obtain ⟨ao,cap,rfl,h⟩:=h
 have HS:=hr h
 clear h;generalize hlen : zs.length = len at *;have HLn:=hr hlen
 clear hlen;go_enter Tryz.func280,Tryz.ntmps280
 go_wp2_with fail;go_loop [8] (fun vi=>∃ k : Nat,k <= len ∧ vi = .int .i64 k ∧ Hid (∀ j (hj : j < zs.length),j < k -> zs[j] ≠ x)) (fun vi=>len - (intOf vi).toNat)
 case atStart=>exact ⟨0,Nat.zero_le _,rfl,fun j _ h=>by omega⟩
 case round =>
  obtain ⟨k,hk,rfl,H⟩:=hrel
  by_cases hlt : k < len
  ·have hlx : k < zs.length:=by rw [HLn.out]; exact hlt
   obtain ⟨b,off,rfl,hb,c1⟩:=HS.out.at_ k hlx
   have z1 : (k : Int) < (len : Int):=by omega
   by_cases he : zs[k] = x
   ·have HE : Hid ((0 : Int) <= (k : Int) ↔ x ∈ zs):=⟨fun _=>by rw [<- he]; exact List.getElem_mem hlx,fun _=>by omega⟩
    rw [he] at c1;go_wp2_with fail;try rw [Exit.noGoto_ret]
    go_ret;exact ⟨_,rfl,HE.out,rfl⟩
   ·have HN : Hid (∀ j (hj : j < zs.length),j < k + 1 -> zs[j] ≠ x):=fun j hj h=>by
     by_cases e : j = k
     ·subst e; exact he
     ·exact H.out j hj (by omega)
    generalize zs[k] = y at *;have q : (x == y) = false:=beq_eq_false_iff_ne.2 (fun e=>he e.symm)
    go_wp2_with fail;go_round
    case rel=>exact ⟨k + 1,hlt,by go_num,HN⟩
    case measure=>(simp [intOf]) <;> omega
  ·have z1 : ¬ (k : Int) < (len : Int):=by omega
   have HE : Hid ((0 : Int) <= -1 ↔ x ∈ zs):=⟨fun h=>by omega,fun hm=>by
    obtain ⟨j,hj,e⟩:=List.mem_iff_getElem.1 hm
    exact absurd e (H.out j hj (by have:=HLn.out; omega))⟩
   go_wp2_with fail;go_ret;exact ⟨_,rfl,HE.out,rfl⟩
theorem contains_any {w : World} {v : Value} {zs : List Int} (h : Sl .i64 w v zs) (hn : zs.length <= 1000000) (x : Int) :
 Calls Tryz.prog 234 #[v,.int .i64 x] w fun e w'=>e = .returned (.bool (decide (x ∈ zs))) ∧ w' = w:=by
 have HI:=hr (index_any h hn x);clear h hn;go_enter Tryz.func234,Tryz.ntmps234
 go_wp2_with fail;refine HI.out.mono ?_;rintro e w1 ⟨z,rfl,h1,rfl⟩;have HE : Hid (decide (x ∈ zs) = decide (0 <= z)):=decide_eq_decide.2 h1.symm
 clear h1;go_wp2_with fail;go_ret;exact ⟨ret_bool HE.out.symm,rfl⟩
structure Ask (g : Nat) (pa cb : Array Value) (q : Int -> Bool) (G : World -> Prop) : Prop where
 enter : ∀ args w,(callFunc g args).run Tryz.prog w = .ok (.enter g args) w
 call : ∀ W x,G W -> Calls Tryz.prog g (pa.push (.int .i32 x) ++ cb) W fun e w'=>e = .returned (.bool (q x)) ∧ Below W.heap.size W w'
 keep : ∀ W W',G W -> Below W.heap.size W W' -> G W'
theorem idxf_any {G : World -> Prop} {p : Int -> Bool} {g : Nat} {pa cb : Array Value} (w : World) (ao : Option Addr) (n cap : Nat) (hC : Ask g pa cb p G) (X : List Int) (hX : X.length = n) (hS : SlP .i32 w ao cap X) (hG : G w) (hn : n <= 1000000) :
 Calls Tryz.prog 108 #[.slice ao n cap,.func (.func g) pa cb] w fun e w'=>∃ z : Int,e = .returned (.int .i64 z) ∧ (0 <= z ↔ X.any p = true) ∧ Below w.heap.size w w':=by
 have HC:=hr hC
 have HX:=hr hX
 have HS:=hr hS
 have H0 : Hid (G w ∧ Ok w.heap.size w w):=⟨hG,Ok.start w⟩
 clear hC hX hS hG;have hen:=HC.out.enter
 go_enter Tryz.func108,Tryz.ntmps108
 go_wp2_with fail;go_loopg [8] n (fun gg vi wr=>∃ k : Nat,vi = .int .i64 k ∧ k <= n ∧ gg = n - k ∧ Hid ((∀ j (hj : j < X.length),j < k -> p X[j] = false) ∧ G wr ∧ Ok w.heap.size w wr))
 case atStart=>exact ⟨0,rfl,Nat.zero_le _,rfl,fun j _ h=>by omega,H0.out⟩
 case round =>
  obtain ⟨k,rfl,hk,hg,H⟩:=hrel
  have HG:=hr hg
  clear hg H0;by_cases hlt : k < n
  ·have hlx : k < X.length:=by have:=HX.out; omega
   obtain ⟨b,off,rfl,hb,c1⟩:=HS.out.at_ k hlx
   have d1:=(H.out.2.2.1.cell (p:=⟨b,off + k,none⟩) hb).trans c1
   have HV:=hr (HC.out.call wr X[k] H.out.2.1);have z1 : (k : Int) < (n : Int):=by omega
   clear c1;by_cases hp : p X[k] = true
   ·have HE : Hid ((0 : Int) <= (k : Int) ↔ X.any p = true):=⟨fun _=>List.any_eq_true.2 ⟨X[k],List.getElem_mem hlx,hp⟩,fun _=>by omega⟩
    rw [hp] at HV;generalize X[k] = x at *;clear hp;go_wp2_with fail;refine HV.out.mono ?_;rintro e w' ⟨rfl,hb'⟩;have hok:=hr (H.out.2.2.step hb');clear hb';go_wp2_with fail
    try rw [Exit.noGoto_ret]
    go_ret;exact ⟨_,rfl,HE.out,hok.out.1⟩
   ·have hp2 : p X[k] = false:=by simpa using hp
    have HN0 : Hid (∀ j (hj : j < X.length),j < k + 1 -> p X[j] = false):=fun j hj h=>by
     by_cases e : j = k
     ·subst e; exact hp2
     ·exact H.out.1 j hj (by omega)
    rw [hp2] at HV;generalize X[k] = x at *;clear hp hp2;go_wp2_with fail;refine HV.out.mono ?_;rintro e w' ⟨rfl,hb'⟩;have HN : Hid (G w' ∧ Ok w.heap.size w w'):=⟨HC.out.keep _ _ H.out.2.1 hb',H.out.2.2.step hb'⟩
    clear hb';go_wp2_with fail;go_roundg (n - (k + 1))
    case measure=>rw [HG.out]; omega
    case rel=>exact ⟨k + 1,by go_num,by omega,rfl,HN0.out,HN.out⟩
  ·have z1 : ¬ (k : Int) < (n : Int):=by omega
   have HE : Hid ((0 : Int) <= -1 ↔ X.any p = true):=⟨fun h=>by omega,fun h=>by
    obtain ⟨x,hx,hp⟩:=List.any_eq_true.1 h
    obtain ⟨j,hj,rfl⟩:=List.mem_iff_getElem.1 hx
    rw [H.out.1 j hj (by have:=HX.out; omega)] at hp
    cases hp⟩
   go_wp2_with fail;go_ret;exact ⟨_,rfl,by first | exact HE.out | (rw [<- List.any_eq_true]; exact HE.out),H.out.2.2.1⟩
theorem contf_any {G : World -> Prop} {p : Int -> Bool} {g : Nat} {pa cb : Array Value} (w : World) (ao : Option Addr) (n cap : Nat) (hC : Ask g pa cb p G) (X : List Int) (hX : X.length = n) (hS : SlP .i32 w ao cap X) (hG : G w) (hn : n <= 1000000) :
 Calls Tryz.prog 56 #[.slice ao n cap,.func (.func g) pa cb] w fun e w'=>e = .returned (.bool (X.any p)) ∧ Below w.heap.size w w':=by
 have HI:=hr (idxf_any w ao n cap hC X hX hS hG hn);clear hC hX hS hG hn;go_enter Tryz.func56,Tryz.ntmps56
 go_wp2_with fail;refine HI.out.mono ?_;rintro e w1 ⟨z,rfl,h1,hb⟩;have HE : Hid (X.any p = decide (0 <= z)):=by show _ = _;rw [Bool.eq_iff_iff,decide_eq_true_eq]; exact h1.symm
 have HB:=hr hb
 clear h1 hb;go_wp2_with fail;go_ret;exact ⟨ret_bool HE.out.symm,HB.out⟩
end Ru
end Go.Proofs.YtkhipgcgcbhjoaaGreat
namespace Go.Proofs.YtkhipgcgcbhjoaaGreat
namespace La
open Go.RowKit Od
theorem hr {p : Prop} (h : p) : Hid p:=h
def hyB (X : List Int) : Bool:=X[2]? == some 45 && X[3]? == some 45
def edB (X : List Int) : Bool:=X[0]? == some 45 || X[X.length - 1]? == some 45
def geB (r : Int) : Bool:=decide (128 <= r)
def foB (b : Int) : Bool:=b != 45 && !Oc.isB b 3
theorem some_any (z : Int) (q : Bool) (w : World) : Calls Tryz.prog 52 #[.int .i64 z,.bool q] w fun e w'=>e = .returned (.bool q) ∧ w' = w:=by
 go_enter Tryz.func52,Tryz.ntmps52
 go_wp2_with fail;go_ret;exact ⟨rfl,rfl⟩
theorem beyond_any (r : Int) (w : World) : Calls Tryz.prog 57 #[.int .i32 r] w fun e w'=>e = .returned (.bool (geB r)) ∧ w' = w:=by
 go_enter Tryz.func57,Tryz.ntmps57
 go_wp2_with fail;go_ret;exact ⟨rfl,rfl⟩
theorem foreign_any (b : Int) (w : World) : Calls Tryz.prog 64 #[.int .u8 b] w fun e w'=>e = .returned (.bool (foB b)) ∧ w' = w:=by
 by_cases h : b = 45
 ·subst h;go_enter Tryz.func64,Tryz.ntmps64
  go_wp2_with fail;go_ret;exact ⟨rfl,rfl⟩
 ·have q : (b != 45) = true:=by simpa using h
  have HE : Hid (foB b = !Oc.isB b 3):=by show _ = _; unfold foB; rw [q]; rfl
  clear h;go_enter Tryz.func64,Tryz.ntmps64
  go_wp2_with fail;refine (Oc.is_any _ _ _).mono ?_;rintro e w1 ⟨rfl,rfl⟩;go_wp2_with fail;go_ret;exact ⟨ret_bool HE.out.symm,rfl⟩
theorem hyph_any {w : World} {ao : Option Addr} {n cap : Nat} {X : List Int} (hX : X.length = n) (hS : SlP .i32 w ao cap X) (hn : n <= 1000000) :
 Calls Tryz.prog 49 #[.slice ao n cap] w fun e w'=>e = .returned (.bool (hyB X)) ∧ Below w.heap.size w w':=by
 by_cases h4 : 4 <= n
 ·obtain ⟨b,off,rfl,hb,c2⟩:=hS.at_ 2 (by omega)
  obtain ⟨b',off',e',_,c3⟩:=hS.at_ 3 (by omega)
  injection e' with e';injection e' with e1 e2;subst e1 e2;have HE : Hid (hyB X = (X[2] == 45 && X[3] == 45)):=by show _ = _;unfold hyB;rw [List.getElem?_eq_getElem (by omega),List.getElem?_eq_getElem (by omega)];simp
  generalize X[2] = x at *;generalize X[3] = y at *;clear hS hX;have z4 : (4 : Int) <= n:=by omega
  by_cases hx : x = 45
  ·subst hx;have HE2 : Hid (hyB X = (y == 45)):=HE.out
   clear HE;go_enter Tryz.func49,Tryz.ntmps49
   go_wp2_with fail;go_ret;exact ⟨ret_bool HE2.out.symm,Below.refl _ _⟩
  ·have q : (x == 45) = false:=beq_eq_false_iff_ne.2 hx
   have HE2 : Hid (hyB X = false):=by show _ = _; rw [HE.out,q]; rfl
   clear HE hx;go_enter Tryz.func49,Tryz.ntmps49
   go_wp2_with fail;go_ret;exact ⟨ret_bool HE2.out.symm,Below.refl _ _⟩
 ·have HE : Hid (hyB X = false):=by
   show _ = _;unfold hyB;rw [List.getElem?_eq_none (l:=X) (i:=3) (by omega)]
   simp
  have z4 : ¬ (4 : Int) <= n:=by omega
  clear hS hX;go_enter Tryz.func49,Tryz.ntmps49
  go_wp2_with fail;go_ret;exact ⟨ret_bool HE.out.symm,Below.refl _ _⟩
theorem edge_any {w : World} {ao : Option Addr} {n cap : Nat} {X : List Int} (hX : X.length = n) (hS : SlP .i32 w ao cap X) (hn : n <= 1000000) (h0 : 0 < n) :
 Calls Tryz.prog 50 #[.slice ao n cap] w fun e w'=>e = .returned (.bool (edB X)) ∧ Below w.heap.size w w':=by
 obtain ⟨b,off,rfl,hb,c2⟩:=hS.at_ 0 (by omega)
 obtain ⟨b',off',e',_,c3⟩:=hS.at_ (n - 1) (by omega)
 injection e' with e';injection e' with e1 e2;subst e1 e2;have HE : Hid (edB X = (X[0] == 45 || X[n - 1] == 45)):=by show _ = _;unfold edB;subst hX;rw [List.getElem?_eq_getElem (by omega),List.getElem?_eq_getElem (by omega)];simp
 generalize X[0] = x at *;generalize X[n - 1] = y at *;clear hS hX;obtain ⟨k,rfl⟩ : ∃ k,n = k + 1:=⟨n - 1,by omega⟩
 rw [Nat.add_sub_cancel] at c3;rw [Nat.add_zero] at c2;have z1 : (0 : Int) <= ((k + 1 : Nat) : Int) - 1:=by omega
 by_cases hx : x = 45
 ·subst hx;have HE2 : Hid (edB X = true):=by show _ = _; rw [HE.out]; rfl
  clear HE;go_enter Tryz.func50,Tryz.ntmps50
  go_wp2_with fail;go_ret;exact ⟨ret_bool HE2.out.symm,Below.refl _ _⟩
 ·have q : (x == 45) = false:=beq_eq_false_iff_ne.2 hx
  have HE2 : Hid (edB X = (y == 45)):=by show _ = _; rw [HE.out,q]; rfl
  clear HE hx;go_enter Tryz.func50,Tryz.ntmps50
  go_wp2_with fail;go_ret;exact ⟨ret_bool HE2.out.symm,Below.refl _ _⟩
end La
end Go.Proofs.YtkhipgcgcbhjoaaGreat
