import Derived.Test.YtkhipgcgcbhjoaaGreatDn24
import Derived.Test.YtkhipgcgcbhjoaaGreatDn30
set_option maxRecDepth 100000
set_option maxHeartbeats 4000000
namespace Go.Proofs.YtkhipgcgcbhjoaaGreat
namespace Nf
open Go.RowKit Od Pr Ha
end Nf
end Go.Proofs.YtkhipgcgcbhjoaaGreat
namespace Go.Proofs.YtkhipgcgcbhjoaaGreat
namespace De
open Go.RowKit Od Nf
theorem among_any {w : World} {v : Value} {zs : List Int} (h : Sl .i64 w v zs) (hn : zs.length <= 1000000) (r : Int) :
 Calls Tryz.prog 187 #[v,.int .i64 r] w fun e w'=>e = .returned (.bool (decide (r ∈ zs))) ∧ w' = w:=by
 obtain ⟨ao,cap,rfl,h⟩:=h
 have HS:=hd h
 clear h;generalize hlen : zs.length = len at *;have HLn:=hd hlen
 clear hlen;go_enter Tryz.func187,Tryz.ntmps187
 go_wp2_with fail;go_loop [5] (fun vi=>∃ k : Nat,k <= len ∧ vi = .int .i64 k ∧ Hid (∀ j (hj : j < zs.length),j < k -> zs[j] ≠ r)) (fun vi=>len - (intOf vi).toNat)
 case atStart=>exact ⟨0,Nat.zero_le _,rfl,fun j _ h=>by omega⟩
 case round =>
  obtain ⟨k,hk,rfl,H⟩:=hrel
  by_cases hlt : k < len
  ·have hlx : k < zs.length:=by rw [HLn.out]; exact hlt
   obtain ⟨b,off,rfl,hb,c1⟩:=HS.out.at_ k hlx
   have z1 : (k : Int) < (len : Int):=by omega
   by_cases he : zs[k] = r
   ·have HE : Hid (decide (r ∈ zs) = true):=decide_eq_true (by rw [<- he]; exact List.getElem_mem hlx)
    rw [he] at c1;go_wp2_with fail;try rw [Exit.noGoto_ret]
    go_ret;exact ⟨ret_bool HE.out.symm,rfl⟩
   ·have HN : Hid (∀ j (hj : j < zs.length),j < k + 1 -> zs[j] ≠ r):=fun j hj h=>by
     by_cases e : j = k
     ·subst e; exact he
     ·exact H.out j hj (by omega)
    generalize zs[k] = x at *;have q : (x == r) = false:=beq_eq_false_iff_ne.2 he
    go_wp2_with fail;go_round
    case rel=>exact ⟨k + 1,hlt,by go_num,HN⟩
    case measure=>(simp [intOf]) <;> omega
  ·have z1 : ¬ (k : Int) < (len : Int):=by omega
   have HE : Hid (decide (r ∈ zs) = false):=decide_eq_false (fun hm=>by
    obtain ⟨j,hj,e⟩:=List.mem_iff_getElem.1 hm
    exact H.out j hj (by have:=HLn.out; omega) e)
   go_wp2_with fail;go_ret;exact ⟨ret_bool HE.out.symm,rfl⟩
def ex1 : List Int:=[223,962,1789,1790,12295]
def ex2 : List Int:=[183,885,1523,1524,12539]
def frP : Nat -> List Int -> Int
 | _,[]=>-1
 | k,x :: l=>if 4 <= ofP x then k else frP (k + 1) l
theorem fr_bd : ∀ (l : List Int) (k : Nat),frP k l = -1 ∨ ((k : Int) <= frP k l ∧ frP k l < k + l.length)
 | [],_=>.inl rfl
 | x :: l,k=>by
  rw [frP];split
  ·right; rw [List.length_cons]; omega
  ·rcases fr_bd l (k + 1) with h | h
   ·exact .inl h
   ·right; rw [List.length_cons]; omega
def fiV (z : Int) : Value:=.tuple #[.int .i64 (if z < 0 then 0 else z),.bool (decide (0 <= z))]
theorem first_any {w : World} {j b f p d u s : Nat} (hJ : Jd w j b f p d u s) {v : Value} {zs : List Int} (hS : Sl .i32 w v zs) (hz : ∀ z ∈ zs,Pr.I32 z) (hn : zs.length <= 1000000) :
 Calls Tryz.prog 53 #[.pointer (some ⟨j,0,none⟩),v] w fun e w'=>e = .returned (fiV (frP 0 zs)) ∧ Below w.heap.size w w':=by
 obtain ⟨ao,cap,rfl,hS⟩:=hS
 have HS:=hd hS
 have HZ:=hd hz
 have H0 : Hid (Ok w.heap.size w w ∧ Jd w j b f p d u s):=⟨Ok.start w,hJ⟩
 generalize hlen : zs.length = len at *;have HLn:=hd hlen
 clear hS hz hlen hJ;go_enter Tryz.func53,Tryz.ntmps53
 go_wp2_with fail;go_loopg [11] len (fun gg vi wr=>∃ k : Nat,vi = .int .i64 k ∧ k <= len ∧ gg = len - k ∧ Hid (frP 0 zs = frP k (zs.drop k) ∧ Ok w.heap.size w wr ∧ Jd wr j b f p d u s))
 case atStart=>exact ⟨0,rfl,Nat.zero_le _,rfl,rfl,H0.out⟩
 case round =>
  obtain ⟨k,rfl,hk,hg,H⟩:=hrel
  have HG:=hd hg
  clear hg H0;by_cases hlt : k < len
  ·have hlx : k < zs.length:=by rw [HLn.out]; exact hlt
   obtain ⟨bb,off,rfl,hb,c1⟩:=HS.out.at_ k hlx
   have d1:=(H.out.2.1.1.cell (p:=⟨bb,off + k,none⟩) hb).trans c1
   have hI:=HZ.out zs[k] (List.getElem_mem hlx)
   have HE : Hid (frP 0 zs = if 4 <= ofP zs[k] then (k : Int) else frP (k + 1) (zs.drop (k + 1))):=by show _ = _;rw [H.out.1,List.drop_eq_getElem_cons hlx]; rfl
   clear c1;generalize zs[k] = x at *;have HOf:=hd (of_any H.out.2.2 x hI);have hbd:=of_bd x
   generalize ofP x = y at *;have z1 : (k : Int) < (len : Int):=by omega
   go_wp2_with fail;refine HOf.out.mono ?_;rintro e w1 ⟨rfl,hb1⟩;replace H:=hd (⟨H.out.2.1.step hb1,H.out.2.2.step hb1⟩ : Ok w.heap.size w w1 ∧ Jd w1 j b f p d u s)
   clear hb1 HOf;have hc : y = 4 ∨ y = 5 ∨ y < 4:=by omega
   rcases hc with hc | hc | hc
   ·subst hc;have HR : Hid (fiV (frP 0 zs) = .tuple #[.int .i64 (k : Int),.bool true]):=by show _ = _; rw [HE.out,if_pos (by omega)]; unfold fiV; rw [if_neg (by omega),decide_eq_true (by omega)]
    go_wp2_with fail;try rw [Exit.noGoto_ret]
    go_ret2;exact ⟨by rw [HR.out]; rfl,H.out.1.1⟩
   ·subst hc;have HR : Hid (fiV (frP 0 zs) = .tuple #[.int .i64 (k : Int),.bool true]):=by show _ = _; rw [HE.out,if_pos (by omega)]; unfold fiV; rw [if_neg (by omega),decide_eq_true (by omega)]
    go_wp2_with fail;try rw [Exit.noGoto_ret]
    go_ret2;exact ⟨by rw [HR.out]; rfl,H.out.1.1⟩
   ·rw [if_neg (by omega)] at HE;have e1 : (y == 4) = false:=beq_eq_false_iff_ne.2 (by omega)
    have e2 : (y == 5) = false:=beq_eq_false_iff_ne.2 (by omega)
    go_wp2_with fail;go_roundg (len - (k + 1))
    case measure=>rw [HG.out]; omega
    case rel=>exact ⟨k + 1,by go_num,by omega,rfl,HE.out,H.out⟩
  ·have z1 : ¬ (k : Int) < (len : Int):=by omega
   have HR : Hid (fiV (frP 0 zs) = .tuple #[.int .i64 0,.bool false]):=by show _ = _;rw [H.out.1,List.drop_eq_nil_of_le (by rw [HLn.out]; omega)]; rfl
   go_wp2_with fail;go_ret2;exact ⟨by rw [HR.out]; rfl,H.out.2.1.1⟩
end De
end Go.Proofs.YtkhipgcgcbhjoaaGreat
