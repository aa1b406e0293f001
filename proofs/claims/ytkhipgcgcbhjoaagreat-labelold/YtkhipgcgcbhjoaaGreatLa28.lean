import Derived.Test.YtkhipgcgcbhjoaaGreatLa24
import Derived.Test.YtkhipgcgcbhjoaaGreatLa27
set_option maxRecDepth 100000
set_option maxHeartbeats 4000000
namespace Go.Proofs.YtkhipgcgcbhjoaaGreat
namespace De
open Go.RowKit Od Nf
theorem among_any {w : World} {v : Value} {zs : List Int} (h : Sl .i64 w v zs) (hn : zs.length <= 1000000) (r : Int) :
 Calls Tryz.prog 187 #[v,.int .i64 r] w fun e w'=>e = .returned (.bool (decide (r ∈ zs))) ∧ w' = w:=by
 obtain ⟨ao,cap,rfl,h⟩:=h
 have HS:=hd h
 clear h;generalize hlen : zs.length = len at *;have HLn:=hd hlen
 clear hlen;go_enter Tryz.func187,Tryz.ntmps187
 go_wp2_with fail;go_loop [5] (fun vi=>∃ k : Nat,k <= len ∧ vi = .int .i64 k ∧ Hid (∀ j (hj : j < zs.length),j < k -> zs[j] ≠ r)) (fun vi=>len - (intOf vi).toNat)
 case atStart=>exact ⟨0,Nat.zero_le _,rfl,fun j _ h=>by omega⟩
 case round =>
  obtain ⟨k,hk,rfl,H⟩:=hrel
  by_cases hlt : k < len
  ·have hlx : k < zs.length:=by rw [HLn.out]; exact hlt
   obtain ⟨b,off,rfl,hb,c1⟩:=HS.out.at_ k hlx
   have z1 : (k : Int) < (len : Int):=by omega
   by_cases he : zs[k] = r
   ·have HE : Hid (decide (r ∈ zs) = true):=decide_eq_true (by rw [<- he]; exact List.getElem_mem hlx)
    rw [he] at c1;go_wp2_with fail;try rw [Exit.noGoto_ret]
    go_ret;exact ⟨ret_bool HE.out.symm,rfl⟩
   ·have HN : Hid (∀ j (hj : j < zs.length),j < k + 1 -> zs[j] ≠ r):=fun j hj h=>by
     by_cases e : j = k
     ·subst e; exact he
     ·exact H.out j hj (by omega)
    generalize zs[k] = x at *;have q : (x == r) = false:=beq_eq_false_iff_ne.2 he
    go_wp2_with fail;go_round
    case rel=>exact ⟨k + 1,hlt,by go_num,HN⟩
    case measure=>(simp [intOf]) <;> omega
  ·have z1 : ¬ (k : Int) < (len : Int):=by omega
   have HE : Hid (decide (r ∈ zs) = false):=decide_eq_false (fun hm=>by
    obtain ⟨j,hj,e⟩:=List.mem_iff_getElem.1 hm
    exact H.out j hj (by have:=HLn.out; omega) e)
   go_wp2_with fail;go_ret;exact ⟨ret_bool HE.out.symm,rfl⟩
theorem am_lit (W : World) (l : List Int) (hl : l.length <= 5000) (n : Nat) (hn : n = l.length) (r : Int) (q : Bool) (hq : decide (r ∈ l) = q) :
 Calls Tryz.prog 187 #[.slice (some ⟨W.heap.size,0,none⟩) n n,.int .i64 r] (W.alloc (.cells (ivs .i64 l).toArray 3)) fun e w'=>e = .returned (.bool q) ∧ Below W.heap.size W w':=by
 subst hq;refine (among_any (own_lit W l hl W.heap.size rfl n hn).sn.sl (by omega) r).mono ?_;rintro e w' ⟨h1,rfl⟩;exact ⟨h1,(Below.refl _ _).alloc (Nat.le_refl _) _⟩
def ex1 : List Int:=[223,962,1789,1790,12295]
def ex2 : List Int:=[183,885,1523,1524,12539]
def od8 : List Int:=[170,181,186,307,320,329,383,837]
theorem mem_ex1 (r : Int) : r ∈ ex1 ↔ r = 223 ∨ r = 962 ∨ r = 1789 ∨ r = 1790 ∨ r = 12295:=by simp [ex1]
theorem mem_ex2 (r : Int) : r ∈ ex2 ↔ r = 183 ∨ r = 885 ∨ r = 1523 ∨ r = 1524 ∨ r = 12539:=by simp [ex2]
theorem mem_od8 (r : Int) : r ∈ od8 ↔ r = 170 ∨ r = 181 ∨ r = 186 ∨ r = 307 ∨ r = 320 ∨ r = 329 ∨ r = 383 ∨ r = 837:=by simp [od8]
theorem rexc_any (r : Int) (w : World) : Calls Tryz.prog 113 #[.int .i64 r] w fun e w'=>e = .returned (.int .i64 (exP r)) ∧ Below w.heap.size w w':=by
 have HA1:=hd (fun (W : World) (q : Bool) (hq : decide (r ∈ ex1) = q)=>am_lit W ex1 (by decide) 5 rfl r q hq)
 have HA2:=hd (fun (W : World) (q : Bool) (hq : decide (r ∈ ex2) = q)=>am_lit W ex2 (by decide) 5 rfl r q hq)
 have HB:=hd (Below.refl w.heap.size w);by_cases h1 : r ∈ ex1
 ·have m1:=decide_eq_true h1
  rw [mem_ex1] at h1;have HE : Hid (exP r = 1):=by show _ = _; unfold exP; rw [if_pos (by omega)]
  clear h1;go_enter Tryz.func113,Tryz.ntmps113
  go_wp2_with fail;refine (HA1.out _ true m1).mono ?_;rintro e w1 ⟨rfl,hb1⟩;replace HB:=hd (HB.out.trans (hb1.mono HB.out.size));clear hb1;go_wp2_with fail;go_ret
  exact ⟨ret_int HE.out.symm,HB.out⟩
 have m1:=decide_eq_false h1
 rw [mem_ex1] at h1;by_cases h2 : r ∈ ex2
 ·have m2:=decide_eq_true h2
  rw [mem_ex2] at h2;have HE : Hid (exP r = 3):=by show _ = _; unfold exP; rw [if_neg (by omega),if_pos (by omega)]
  clear h1 h2;go_enter Tryz.func113,Tryz.ntmps113
  go_wp2_with fail;refine (HA1.out _ false m1).mono ?_;rintro e w1 ⟨rfl,hb1⟩;replace HB:=hd (HB.out.trans (hb1.mono HB.out.size));clear hb1;go_wp2_with fail;refine (HA2.out _ true m2).mono ?_
  rintro e w2 ⟨rfl,hb2⟩;replace HB:=hd (HB.out.trans (hb2.mono HB.out.size));clear hb2;go_wp2_with fail;go_ret;exact ⟨ret_int HE.out.symm,HB.out⟩
 have m2:=decide_eq_false h2
 rw [mem_ex2] at h2;have hc : (r = 1600) ∨ (r < 1632 ∧ r ≠ 1600) ∨ (1632 <= r ∧ r <= 1641) ∨ (1641 < r ∧ r < 1776) ∨ (1776 <= r ∧ r <= 1785) ∨ (1785 < r ∧ r < 12337) ∨ (12337 <= r ∧ r <= 12341) ∨ (r = 12347) ∨ (12341 < r ∧ r ≠ 12347):=by omega
 rcases hc with h | h | h | h | h | h | h | h | h
 ·have HE : Hid (exP r = 4):=by show _ = _; unfold exP; rw [if_neg (by omega),if_neg (by omega),if_pos (by omega)]
  have f0 : ¬ 1632 <= r:=by omega
  have f1 : ¬ 1776 <= r:=by omega
  have g0 : (r == 1600) = true:=by rw [beq_iff_eq]; omega
  clear h h1 h2;go_enter Tryz.func113,Tryz.ntmps113
  go_wp2_with fail;refine (HA1.out _ false m1).mono ?_;rintro e w1 ⟨rfl,hb1⟩;replace HB:=hd (HB.out.trans (hb1.mono HB.out.size));clear hb1;go_wp2_with fail;refine (HA2.out _ false m2).mono ?_
  rintro e w2 ⟨rfl,hb2⟩;replace HB:=hd (HB.out.trans (hb2.mono HB.out.size));clear hb2;go_wp2_with fail;go_ret;exact ⟨ret_int HE.out.symm,HB.out⟩
 ·have HE : Hid (exP r = 0):=by show _ = _; unfold exP; rw [if_neg (by omega),if_neg (by omega),if_neg (by omega)]
  have f0 : ¬ 1632 <= r:=by omega
  have f1 : ¬ 1776 <= r:=by omega
  have f2 : ¬ 12337 <= r:=by omega
  have g0 : (r == 1600) = false:=by rw [beq_eq_false_iff_ne]; omega
  have g1 : (r == 12347) = false:=by rw [beq_eq_false_iff_ne]; omega
  clear h h1 h2;go_enter Tryz.func113,Tryz.ntmps113
  go_wp2_with fail;refine (HA1.out _ false m1).mono ?_;rintro e w1 ⟨rfl,hb1⟩;replace HB:=hd (HB.out.trans (hb1.mono HB.out.size));clear hb1;go_wp2_with fail;refine (HA2.out _ false m2).mono ?_
  rintro e w2 ⟨rfl,hb2⟩;replace HB:=hd (HB.out.trans (hb2.mono HB.out.size));clear hb2;go_wp2_with fail;go_ret;exact ⟨ret_int HE.out.symm,HB.out⟩
 ·have HE : Hid (exP r = 3):=by show _ = _; unfold exP; rw [if_neg (by omega),if_pos (by omega)]
  have f0 : 1632 <= r:=by omega
  have f1 : r <= 1641:=by omega
  clear h h1 h2;go_enter Tryz.func113,Tryz.ntmps113
  go_wp2_with fail;refine (HA1.out _ false m1).mono ?_;rintro e w1 ⟨rfl,hb1⟩;replace HB:=hd (HB.out.trans (hb1.mono HB.out.size));clear hb1;go_wp2_with fail;refine (HA2.out _ false m2).mono ?_
  rintro e w2 ⟨rfl,hb2⟩;replace HB:=hd (HB.out.trans (hb2.mono HB.out.size));clear hb2;go_wp2_with fail;go_ret;exact ⟨ret_int HE.out.symm,HB.out⟩
 ·have HE : Hid (exP r = 0):=by show _ = _; unfold exP; rw [if_neg (by omega),if_neg (by omega),if_neg (by omega)]
  have f0 : 1632 <= r:=by omega
  have f1 : ¬ r <= 1641:=by omega
  have f2 : ¬ 1776 <= r:=by omega
  have f3 : ¬ 12337 <= r:=by omega
  have g0 : (r == 1600) = false:=by rw [beq_eq_false_iff_ne]; omega
  have g1 : (r == 12347) = false:=by rw [beq_eq_false_iff_ne]; omega
  clear h h1 h2;go_enter Tryz.func113,Tryz.ntmps113
  go_wp2_with fail;refine (HA1.out _ false m1).mono ?_;rintro e w1 ⟨rfl,hb1⟩;replace HB:=hd (HB.out.trans (hb1.mono HB.out.size));clear hb1;go_wp2_with fail;refine (HA2.out _ false m2).mono ?_
  rintro e w2 ⟨rfl,hb2⟩;replace HB:=hd (HB.out.trans (hb2.mono HB.out.size));clear hb2;go_wp2_with fail;go_ret;exact ⟨ret_int HE.out.symm,HB.out⟩
 ·have HE : Hid (exP r = 3):=by show _ = _; unfold exP; rw [if_neg (by omega),if_pos (by omega)]
  have f0 : 1632 <= r:=by omega
  have f1 : ¬ r <= 1641:=by omega
  have f2 : 1776 <= r:=by omega
  have f3 : r <= 1785:=by omega
  clear h h1 h2;go_enter Tryz.func113,Tryz.ntmps113
  go_wp2_with fail;refine (HA1.out _ false m1).mono ?_;rintro e w1 ⟨rfl,hb1⟩;replace HB:=hd (HB.out.trans (hb1.mono HB.out.size));clear hb1;go_wp2_with fail;refine (HA2.out _ false m2).mono ?_
  rintro e w2 ⟨rfl,hb2⟩;replace HB:=hd (HB.out.trans (hb2.mono HB.out.size));clear hb2;go_wp2_with fail;go_ret;exact ⟨ret_int HE.out.symm,HB.out⟩
 ·have HE : Hid (exP r = 0):=by show _ = _; unfold exP; rw [if_neg (by omega),if_neg (by omega),if_neg (by omega)]
  have f0 : 1632 <= r:=by omega
  have f1 : ¬ r <= 1641:=by omega
  have f2 : 1776 <= r:=by omega
  have f3 : ¬ r <= 1785:=by omega
  have f4 : ¬ 12337 <= r:=by omega
  have g0 : (r == 1600) = false:=by rw [beq_eq_false_iff_ne]; omega
  have g1 : (r == 12347) = false:=by rw [beq_eq_false_iff_ne]; omega
  clear h h1 h2;go_enter Tryz.func113,Tryz.ntmps113
  go_wp2_with fail;refine (HA1.out _ false m1).mono ?_;rintro e w1 ⟨rfl,hb1⟩;replace HB:=hd (HB.out.trans (hb1.mono HB.out.size));clear hb1;go_wp2_with fail;refine (HA2.out _ false m2).mono ?_
  rintro e w2 ⟨rfl,hb2⟩;replace HB:=hd (HB.out.trans (hb2.mono HB.out.size));clear hb2;go_wp2_with fail;go_ret;exact ⟨ret_int HE.out.symm,HB.out⟩
 ·have HE : Hid (exP r = 4):=by show _ = _; unfold exP; rw [if_neg (by omega),if_neg (by omega),if_pos (by omega)]
  have f0 : 1632 <= r:=by omega
  have f1 : ¬ r <= 1641:=by omega
  have f2 : 1776 <= r:=by omega
  have f3 : ¬ r <= 1785:=by omega
  have f4 : 12337 <= r:=by omega
  have f5 : r <= 12341:=by omega
  have g0 : (r == 1600) = false:=by rw [beq_eq_false_iff_ne]; omega
  clear h h1 h2;go_enter Tryz.func113,Tryz.ntmps113
  go_wp2_with fail;refine (HA1.out _ false m1).mono ?_;rintro e w1 ⟨rfl,hb1⟩;replace HB:=hd (HB.out.trans (hb1.mono HB.out.size));clear hb1;go_wp2_with fail;refine (HA2.out _ false m2).mono ?_
  rintro e w2 ⟨rfl,hb2⟩;replace HB:=hd (HB.out.trans (hb2.mono HB.out.size));clear hb2;go_wp2_with fail;go_ret;exact ⟨ret_int HE.out.symm,HB.out⟩
 ·have HE : Hid (exP r = 4):=by show _ = _; unfold exP; rw [if_neg (by omega),if_neg (by omega),if_pos (by omega)]
  have f0 : 1632 <= r:=by omega
  have f1 : ¬ r <= 1641:=by omega
  have f2 : 1776 <= r:=by omega
  have f3 : ¬ r <= 1785:=by omega
  have f4 : 12337 <= r:=by omega
  have f5 : ¬ r <= 12341:=by omega
  have g0 : (r == 1600) = false:=by rw [beq_eq_false_iff_ne]; omega
  have g1 : (r == 12347) = true:=by rw [beq_iff_eq]; omega
  clear h h1 h2;go_enter Tryz.func113,Tryz.ntmps113
  go_wp2_with fail;refine (HA1.out _ false m1).mono ?_;rintro e w1 ⟨rfl,hb1⟩;replace HB:=hd (HB.out.trans (hb1.mono HB.out.size));clear hb1;go_wp2_with fail;refine (HA2.out _ false m2).mono ?_
  rintro e w2 ⟨rfl,hb2⟩;replace HB:=hd (HB.out.trans (hb2.mono HB.out.size));clear hb2;go_wp2_with fail;go_ret;exact ⟨ret_int HE.out.symm,HB.out⟩
 ·have HE : Hid (exP r = 0):=by show _ = _; unfold exP; rw [if_neg (by omega),if_neg (by omega),if_neg (by omega)]
  have f0 : 1632 <= r:=by omega
  have f1 : ¬ r <= 1641:=by omega
  have f2 : 1776 <= r:=by omega
  have f3 : ¬ r <= 1785:=by omega
  have f4 : 12337 <= r:=by omega
  have f5 : ¬ r <= 12341:=by omega
  have g0 : (r == 1600) = false:=by rw [beq_eq_false_iff_ne]; omega
  have g1 : (r == 12347) = false:=by rw [beq_eq_false_iff_ne]; omega
  clear h h1 h2;go_enter Tryz.func113,Tryz.ntmps113
  go_wp2_with fail;refine (HA1.out _ false m1).mono ?_;rintro e w1 ⟨rfl,hb1⟩;replace HB:=hd (HB.out.trans (hb1.mono HB.out.size));clear hb1;go_wp2_with fail;refine (HA2.out _ false m2).mono ?_
  rintro e w2 ⟨rfl,hb2⟩;replace HB:=hd (HB.out.trans (hb2.mono HB.out.size));clear hb2;go_wp2_with fail;go_ret;exact ⟨ret_int HE.out.symm,HB.out⟩
theorem kn_ref (r : Int) : Uc.rkindP (Uc.rrowP r) r = knP r:=by unfold knP;rw [Uc.book_tells];rfl
theorem runs_any' (r : Int) (hr : Pr.I32 r) (w : World) : Calls Tryz.prog 114 #[.int .i64 r] w fun e w'=>e = .returned (.bool (unB r)) ∧ Below w.heap.size w w':=by
 have hI : ∀ z ∈ [r],Pr.I32 z:=fun z hz=>by simp at hz; subst hz; exact hr
 have HK:=hd (Uc.rKind_any r w);rw [kn_ref] at HK;have HN:=hd (fun (W : World)=>rnfc_any (one_sl .i64 W 3 r W.heap.size rfl) hI (by simp))
 have hlC : (nfcP clsP [r]).length <= 1000000000:=Nat.le_trans (nfc_I32 [r] hI).2 (by simp)
 have HSm:=hd (fun (W : World) (v : Value) (h : Sl .i64 W v (nfcP clsP [r]))=>same_any v (.slice (some ⟨W.heap.size,0,none⟩) 1 1) _ [r] (W.alloc (.cells #[.int .i64 r] 3)) (h.step ((Below.refl _ _).alloc (Nat.le_refl _) _)) (one_sl .i64 W 3 r W.heap.size rfl).sl hlC)
 have HSt : Hid (stB r = decide (nfcP clsP [r] = [r])):=rfl
 rw [<- HSt.out] at HSm;have HW:=hd (fun (W : World)=>Pr.rwid_any r W hr)
 have HA:=hd (fun (W : World) (q : Bool) (hq : decide (r ∈ od8) = q)=>am_lit W od8 (by decide) 8 rfl r q hq)
 have HU : Hid (unB r = (odB r || (knP r == 1) || (Pr.widP r != r) || !stB r)):=rfl
 have hod : odB r = decide (r ∈ od8):=by unfold odB; exact decide_eq_decide.2 (mem_od8 r).symm
 rw [hod] at HU;have HB:=hd (Below.refl w.heap.size w);clear hI hlC hr hod HSt;generalize knP r = k at *;generalize Pr.widP r = x at *;generalize stB r = t at *
 generalize hL : nfcP clsP [r] = NL at *;clear hL;by_cases hk : k = 1
 ·subst hk;have HE : Hid (unB r = true):=by show _ = _; rw [HU.out]; cases decide (r ∈ od8) <;> rfl
  go_enter Tryz.func114,Tryz.ntmps114
  go_wp2_with fail;refine HK.out.mono ?_;rintro e w1 ⟨rfl,hb1⟩;replace HB:=hd (HB.out.trans (hb1.mono HB.out.size));clear hb1;go_wp2_with fail;go_ret;exact ⟨ret_bool HE.out.symm,HB.out⟩
 ·have hk2 : (k == 1) = false:=beq_eq_false_iff_ne.2 hk
  rw [hk2,Bool.or_false] at HU;go_enter Tryz.func114,Tryz.ntmps114
  go_wp2_with fail;refine HK.out.mono ?_;rintro e w1 ⟨rfl,hb1⟩;replace HB:=hd (HB.out.trans (hb1.mono HB.out.size));clear hb1;go_wp2_with fail;refine (HN.out _).mono ?_
  rintro e w2 ⟨v2,rfl,h2,hb2⟩;have S2:=hd h2.sl
  replace HB:=hd (HB.out.trans ((((Below.refl _ _).alloc (Nat.le_refl _) _).trans (hb2.mono (by simp))).mono HB.out.size));clear h2 hb2;go_wp2_with fail;refine (HSm.out _ _ S2.out).mono ?_
  rintro e w3 ⟨rfl,hb3⟩;replace HB:=hd (HB.out.trans ((((Below.refl _ _).alloc (Nat.le_refl _) _).trans (hb3.mono (by simp))).mono HB.out.size));clear hb3 S2
  cases t
  ·have HE : Hid (unB r = true):=by show _ = _; rw [HU.out]; cases decide (r ∈ od8) <;> cases (x != r) <;> rfl
   go_wp2_with fail;go_ret;exact ⟨ret_bool HE.out.symm,HB.out⟩
  ·by_cases hx : x = r
   ·have hx2 : (x != r) = false:=bne_eq_false_iff_eq.2 hx
    rw [hx2,Bool.or_false] at HU;have HE : Hid (unB r = decide (r ∈ od8)):=by show _ = _; rw [HU.out]; cases decide (r ∈ od8) <;> rfl
    go_wp2_with fail;refine (HW.out _).mono ?_;rintro e w4 ⟨rfl,hb4⟩;replace HB:=hd (HB.out.trans (hb4.mono HB.out.size));clear hb4;go_wp2_with fail;refine (HA.out _ _ rfl).mono ?_
    rintro e w5 ⟨rfl,hb5⟩;replace HB:=hd (HB.out.trans (hb5.mono HB.out.size));clear hb5;go_wp2_with fail;go_ret;exact ⟨ret_bool HE.out.symm,HB.out⟩
   ·have hx2 : (x != r) = true:=bne_iff_ne.2 hx
    have HE : Hid (unB r = true):=by show _ = _; rw [HU.out,hx2]; cases decide (r ∈ od8) <;> rfl
    go_wp2_with fail;refine (HW.out _).mono ?_;rintro e w4 ⟨rfl,hb4⟩;replace HB:=hd (HB.out.trans (hb4.mono HB.out.size));clear hb4;go_wp2_with fail;go_ret;exact ⟨ret_bool HE.out.symm,HB.out⟩
theorem rof_any (r : Int) (hr : Pr.I32 r) (w : World) : Calls Tryz.prog 60 #[.int .i64 r] w fun e w'=>e = .returned (.int .i64 (ofP r)) ∧ Below w.heap.size w w':=by
 have HK:=hd (fun (W : World)=>Uc.rKind_any r W)
 rw [kn_ref] at HK;have HX:=hd (fun (W : World)=>rexc_any r W)
 have HUn:=hd (fun (W : World)=>runs_any' r hr W)
 have HO : Hid (ofP r = if exP r ≠ 0 then exP r else if knP r = 0 then 5 else if r = 45 ∨ (48 <= r ∧ r <= 57) ∨ (97 <= r ∧ r <= 122) then 1 else if r = 8204 ∨ r = 8205 then 2 else if unB r = true ∨ (4352 <= r ∧ r <= 4607) then 4 else okP (knP r)):=rfl
 have HOk : Hid (okP (knP r) = if 2 <= knP r ∧ knP r <= 7 then 1 else 4):=rfl
 have HB:=hd (Below.refl w.heap.size w);clear hr;generalize exP r = x at *;generalize knP r = k at *;generalize unB r = t at *;go_enter Tryz.func60,Tryz.ntmps60
 go_wp2_with fail;refine (HX.out _).mono ?_;rintro e w1 ⟨rfl,hb1⟩;replace HB:=hd (HB.out.trans (hb1.mono HB.out.size));clear hb1;by_cases hx : x ≠ 0
 ·have HE : Hid (ofP r = x):=by show _ = _; rw [HO.out,if_pos hx]
  have hx2 : (x == 0) = false:=beq_eq_false_iff_ne.2 hx
  have hx3 : (x != 0) = true:=bne_iff_ne.2 hx
  go_wp2_with fail;refine (HX.out _).mono ?_;rintro e w2 ⟨rfl,hb1⟩;replace HB:=hd (HB.out.trans (hb1.mono HB.out.size));clear hb1;go_wp2_with fail;go_ret;exact ⟨ret_int HE.out.symm,HB.out⟩
 have hx0 : x = 0:=by omega
 subst hx0;go_wp2_with fail;refine (HK.out _).mono ?_;rintro e w2 ⟨rfl,hb1⟩;replace HB:=hd (HB.out.trans (hb1.mono HB.out.size));clear hb1 hx;by_cases hk : k = 0
 ·have HE : Hid (ofP r = 5):=by show _ = _; rw [HO.out,if_neg (by simp),if_pos hk]
  subst hk;go_wp2_with fail;go_ret;exact ⟨ret_int HE.out.symm,HB.out⟩
 have hk2 : (k == 0) = false:=beq_eq_false_iff_ne.2 hk
 rw [if_neg (by simp),if_neg hk] at HO;have hc : (r = 45) ∨ (r < 48 ∧ r ≠ 45) ∨ (48 <= r ∧ r <= 57) ∨ (57 < r ∧ r < 97) ∨ (97 <= r ∧ r <= 122) ∨ (122 < r ∧ r < 4352) ∨ (4352 <= r ∧ r <= 4607) ∨ (r = 8204) ∨ (r = 8205) ∨ (4607 < r ∧ r ≠ 8204 ∧ r ≠ 8205):=by omega
 rcases hc with h | h | h | h | h | h | h | h | h | h
 ·have f0 : (r == 45) = true:=by rw [beq_iff_eq]; omega
  have HE : Hid (ofP r = 1):=by show _ = _; rw [HO.out,if_pos (by omega)]
  go_wp2_with fail;go_ret;exact ⟨ret_int HE.out.symm,HB.out⟩
 ·have f0 : (r == 45) = false:=by rw [beq_eq_false_iff_ne]; omega
  have f1 : ¬ 48 <= r:=by omega
  have f2 : ¬ 97 <= r:=by omega
  have f3 : (r == 8204) = false:=by rw [beq_eq_false_iff_ne]; omega
  have f4 : (r == 8205) = false:=by rw [beq_eq_false_iff_ne]; omega
  have f5 : ¬ 4352 <= r:=by omega
  rw [if_neg (by omega),if_neg (by omega)] at HO;go_wp2_with fail;refine (HUn.out _).mono ?_;rintro e w3 ⟨rfl,hb1⟩;replace HB:=hd (HB.out.trans (hb1.mono HB.out.size))
  clear hb1;cases t
  ·rw [if_neg (by simp; omega),HOk.out] at HO
   by_cases k1 : 2 <= k
   ·by_cases k2 : k <= 7
    ·have HE : Hid (ofP r = 1):=by show _ = _; rw [HO.out,if_pos ⟨k1,k2⟩]
     go_wp2_with fail;go_ret;exact ⟨ret_int HE.out.symm,HB.out⟩
    ·have HE : Hid (ofP r = 4):=by show _ = _; rw [HO.out,if_neg (fun h=>k2 h.2)]
     go_wp2_with fail;go_ret;exact ⟨ret_int HE.out.symm,HB.out⟩
   ·have HE : Hid (ofP r = 4):=by show _ = _; rw [HO.out,if_neg (fun h=>k1 h.1)]
    go_wp2_with fail;go_ret;exact ⟨ret_int HE.out.symm,HB.out⟩
  ·have HE : Hid (ofP r = 4):=by show _ = _; rw [HO.out,if_pos (.inl rfl)]
   go_wp2_with fail;go_ret;exact ⟨ret_int HE.out.symm,HB.out⟩
 ·have f0 : (r == 45) = false:=by rw [beq_eq_false_iff_ne]; omega
  have f1 : 48 <= r:=by omega
  have f2 : r <= 57:=by omega
  have HE : Hid (ofP r = 1):=by show _ = _; rw [HO.out,if_pos (by omega)]
  go_wp2_with fail;go_ret;exact ⟨ret_int HE.out.symm,HB.out⟩
 ·have f0 : (r == 45) = false:=by rw [beq_eq_false_iff_ne]; omega
  have f1 : 48 <= r:=by omega
  have f2 : ¬ r <= 57:=by omega
  have f3 : ¬ 97 <= r:=by omega
  have f4 : (r == 8204) = false:=by rw [beq_eq_false_iff_ne]; omega
  have f5 : (r == 8205) = false:=by rw [beq_eq_false_iff_ne]; omega
  have f6 : ¬ 4352 <= r:=by omega
  rw [if_neg (by omega),if_neg (by omega)] at HO;go_wp2_with fail;refine (HUn.out _).mono ?_;rintro e w3 ⟨rfl,hb1⟩;replace HB:=hd (HB.out.trans (hb1.mono HB.out.size))
  clear hb1;cases t
  ·rw [if_neg (by simp; omega),HOk.out] at HO
   by_cases k1 : 2 <= k
   ·by_cases k2 : k <= 7
    ·have HE : Hid (ofP r = 1):=by show _ = _; rw [HO.out,if_pos ⟨k1,k2⟩]
     go_wp2_with fail;go_ret;exact ⟨ret_int HE.out.symm,HB.out⟩
    ·have HE : Hid (ofP r = 4):=by show _ = _; rw [HO.out,if_neg (fun h=>k2 h.2)]
     go_wp2_with fail;go_ret;exact ⟨ret_int HE.out.symm,HB.out⟩
   ·have HE : Hid (ofP r = 4):=by show _ = _; rw [HO.out,if_neg (fun h=>k1 h.1)]
    go_wp2_with fail;go_ret;exact ⟨ret_int HE.out.symm,HB.out⟩
  ·have HE : Hid (ofP r = 4):=by show _ = _; rw [HO.out,if_pos (.inl rfl)]
   go_wp2_with fail;go_ret;exact ⟨ret_int HE.out.symm,HB.out⟩
 ·have f0 : (r == 45) = false:=by rw [beq_eq_false_iff_ne]; omega
  have f1 : 48 <= r:=by omega
  have f2 : ¬ r <= 57:=by omega
  have f3 : 97 <= r:=by omega
  have f4 : r <= 122:=by omega
  have HE : Hid (ofP r = 1):=by show _ = _; rw [HO.out,if_pos (by omega)]
  go_wp2_with fail;go_ret;exact ⟨ret_int HE.out.symm,HB.out⟩
 ·have f0 : (r == 45) = false:=by rw [beq_eq_false_iff_ne]; omega
  have f1 : 48 <= r:=by omega
  have f2 : ¬ r <= 57:=by omega
  have f3 : 97 <= r:=by omega
  have f4 : ¬ r <= 122:=by omega
  have f5 : (r == 8204) = false:=by rw [beq_eq_false_iff_ne]; omega
  have f6 : (r == 8205) = false:=by rw [beq_eq_false_iff_ne]; omega
  have f7 : ¬ 4352 <= r:=by omega
  rw [if_neg (by omega),if_neg (by omega)] at HO;go_wp2_with fail;refine (HUn.out _).mono ?_;rintro e w3 ⟨rfl,hb1⟩;replace HB:=hd (HB.out.trans (hb1.mono HB.out.size))
  clear hb1;cases t
  ·rw [if_neg (by simp; omega),HOk.out] at HO
   by_cases k1 : 2 <= k
   ·by_cases k2 : k <= 7
    ·have HE : Hid (ofP r = 1):=by show _ = _; rw [HO.out,if_pos ⟨k1,k2⟩]
     go_wp2_with fail;go_ret;exact ⟨ret_int HE.out.symm,HB.out⟩
    ·have HE : Hid (ofP r = 4):=by show _ = _; rw [HO.out,if_neg (fun h=>k2 h.2)]
     go_wp2_with fail;go_ret;exact ⟨ret_int HE.out.symm,HB.out⟩
   ·have HE : Hid (ofP r = 4):=by show _ = _; rw [HO.out,if_neg (fun h=>k1 h.1)]
    go_wp2_with fail;go_ret;exact ⟨ret_int HE.out.symm,HB.out⟩
  ·have HE : Hid (ofP r = 4):=by show _ = _; rw [HO.out,if_pos (.inl rfl)]
   go_wp2_with fail;go_ret;exact ⟨ret_int HE.out.symm,HB.out⟩
 ·have f0 : (r == 45) = false:=by rw [beq_eq_false_iff_ne]; omega
  have f1 : 48 <= r:=by omega
  have f2 : ¬ r <= 57:=by omega
  have f3 : 97 <= r:=by omega
  have f4 : ¬ r <= 122:=by omega
  have f5 : (r == 8204) = false:=by rw [beq_eq_false_iff_ne]; omega
  have f6 : (r == 8205) = false:=by rw [beq_eq_false_iff_ne]; omega
  have f7 : 4352 <= r:=by omega
  have f8 : r <= 4607:=by omega
  rw [if_neg (by omega),if_neg (by omega)] at HO;go_wp2_with fail;refine (HUn.out _).mono ?_;rintro e w3 ⟨rfl,hb1⟩;replace HB:=hd (HB.out.trans (hb1.mono HB.out.size))
  clear hb1;cases t
  ·have HE : Hid (ofP r = 4):=by show _ = _; rw [HO.out,if_pos (.inr h)]
   go_wp2_with fail;go_ret;exact ⟨ret_int HE.out.symm,HB.out⟩
  ·have HE : Hid (ofP r = 4):=by show _ = _; rw [HO.out,if_pos (.inl rfl)]
   go_wp2_with fail;go_ret;exact ⟨ret_int HE.out.symm,HB.out⟩
 ·have f0 : (r == 45) = false:=by rw [beq_eq_false_iff_ne]; omega
  have f1 : 48 <= r:=by omega
  have f2 : ¬ r <= 57:=by omega
  have f3 : 97 <= r:=by omega
  have f4 : ¬ r <= 122:=by omega
  have f5 : (r == 8204) = true:=by rw [beq_iff_eq]; omega
  have HE : Hid (ofP r = 2):=by show _ = _; rw [HO.out,if_neg (by omega),if_pos (by omega)]
  go_wp2_with fail;go_ret;exact ⟨ret_int HE.out.symm,HB.out⟩
 ·have f0 : (r == 45) = false:=by rw [beq_eq_false_iff_ne]; omega
  have f1 : 48 <= r:=by omega
  have f2 : ¬ r <= 57:=by omega
  have f3 : 97 <= r:=by omega
  have f4 : ¬ r <= 122:=by omega
  have f5 : (r == 8204) = false:=by rw [beq_eq_false_iff_ne]; omega
  have f6 : (r == 8205) = true:=by rw [beq_iff_eq]; omega
  have HE : Hid (ofP r = 2):=by show _ = _; rw [HO.out,if_neg (by omega),if_pos (by omega)]
  go_wp2_with fail;go_ret;exact ⟨ret_int HE.out.symm,HB.out⟩
 ·have f0 : (r == 45) = false:=by rw [beq_eq_false_iff_ne]; omega
  have f1 : 48 <= r:=by omega
  have f2 : ¬ r <= 57:=by omega
  have f3 : 97 <= r:=by omega
  have f4 : ¬ r <= 122:=by omega
  have f5 : (r == 8204) = false:=by rw [beq_eq_false_iff_ne]; omega
  have f6 : (r == 8205) = false:=by rw [beq_eq_false_iff_ne]; omega
  have f7 : 4352 <= r:=by omega
  have f8 : ¬ r <= 4607:=by omega
  rw [if_neg (by omega),if_neg (by omega)] at HO;go_wp2_with fail;refine (HUn.out _).mono ?_;rintro e w3 ⟨rfl,hb1⟩;replace HB:=hd (HB.out.trans (hb1.mono HB.out.size))
  clear hb1;cases t
  ·rw [if_neg (by simp; omega),HOk.out] at HO
   by_cases k1 : 2 <= k
   ·by_cases k2 : k <= 7
    ·have HE : Hid (ofP r = 1):=by show _ = _; rw [HO.out,if_pos ⟨k1,k2⟩]
     go_wp2_with fail;go_ret;exact ⟨ret_int HE.out.symm,HB.out⟩
    ·have HE : Hid (ofP r = 4):=by show _ = _; rw [HO.out,if_neg (fun h=>k2 h.2)]
     go_wp2_with fail;go_ret;exact ⟨ret_int HE.out.symm,HB.out⟩
   ·have HE : Hid (ofP r = 4):=by show _ = _; rw [HO.out,if_neg (fun h=>k1 h.1)]
    go_wp2_with fail;go_ret;exact ⟨ret_int HE.out.symm,HB.out⟩
  ·have HE : Hid (ofP r = 4):=by show _ = _; rw [HO.out,if_pos (.inl rfl)]
   go_wp2_with fail;go_ret;exact ⟨ret_int HE.out.symm,HB.out⟩
def frP : Nat -> List Int -> Int
 | _,[]=>-1
 | k,x :: l=>if 4 <= ofP x then k else frP (k + 1) l
theorem fr_bd : ∀ (l : List Int) (k : Nat),frP k l = -1 ∨ ((k : Int) <= frP k l ∧ frP k l < k + l.length)
 | [],_=>.inl rfl
 | x :: l,k=>by
  rw [frP];split
  ·right; rw [List.length_cons]; omega
  ·rcases fr_bd l (k + 1) with h | h
   ·exact .inl h
   ·right; rw [List.length_cons]; omega
def fiV (z : Int) : Value:=.tuple #[.int .i64 (if z < 0 then 0 else z),.bool (decide (0 <= z))]
theorem first_any {w : World} {j b f p d u s : Nat} (hJ : Jd w j b f p d u s) {v : Value} {zs : List Int} (hS : Sl .i32 w v zs) (hz : ∀ z ∈ zs,Pr.I32 z) (hn : zs.length <= 1000000) :
 Calls Tryz.prog 53 #[.pointer (some ⟨j,0,none⟩),v] w fun e w'=>e = .returned (fiV (frP 0 zs)) ∧ Below w.heap.size w w':=by
 obtain ⟨ao,cap,rfl,hS⟩:=hS
 have HS:=hd hS
 have HZ:=hd hz
 have H0 : Hid (Ok w.heap.size w w ∧ Jd w j b f p d u s):=⟨Ok.start w,hJ⟩
 generalize hlen : zs.length = len at *;have HLn:=hd hlen
 clear hS hz hlen hJ;go_enter Tryz.func53,Tryz.ntmps53
 go_wp2_with fail;go_loopg [11] len (fun gg vi wr=>∃ k : Nat,vi = .int .i64 k ∧ k <= len ∧ gg = len - k ∧ Hid (frP 0 zs = frP k (zs.drop k) ∧ Ok w.heap.size w wr ∧ Jd wr j b f p d u s))
 case atStart=>exact ⟨0,rfl,Nat.zero_le _,rfl,rfl,H0.out⟩
 case round =>
  obtain ⟨k,rfl,hk,hg,H⟩:=hrel
  have HG:=hd hg
  clear hg H0;by_cases hlt : k < len
  ·have hlx : k < zs.length:=by rw [HLn.out]; exact hlt
   obtain ⟨bb,off,rfl,hb,c1⟩:=HS.out.at_ k hlx
   have d1:=(H.out.2.1.1.cell (p:=⟨bb,off + k,none⟩) hb).trans c1
   have hI:=HZ.out zs[k] (List.getElem_mem hlx)
   have HE : Hid (frP 0 zs = if 4 <= ofP zs[k] then (k : Int) else frP (k + 1) (zs.drop (k + 1))):=by show _ = _;rw [H.out.1,List.drop_eq_getElem_cons hlx]; rfl
   clear c1;generalize zs[k] = x at *;have HOf:=hd (of_any H.out.2.2 x hI);have hbd:=of_bd x
   generalize ofP x = y at *;have z1 : (k : Int) < (len : Int):=by omega
   go_wp2_with fail;refine HOf.out.mono ?_;rintro e w1 ⟨rfl,hb1⟩;replace H:=hd (⟨H.out.2.1.step hb1,H.out.2.2.step hb1⟩ : Ok w.heap.size w w1 ∧ Jd w1 j b f p d u s)
   clear hb1 HOf;have hc : y = 4 ∨ y = 5 ∨ y < 4:=by omega
   rcases hc with hc | hc | hc
   ·subst hc;have HR : Hid (fiV (frP 0 zs) = .tuple #[.int .i64 (k : Int),.bool true]):=by show _ = _; rw [HE.out,if_pos (by omega)]; unfold fiV; rw [if_neg (by omega),decide_eq_true (by omega)]
    go_wp2_with fail;try rw [Exit.noGoto_ret]
    go_ret2;exact ⟨by rw [HR.out]; rfl,H.out.1.1⟩
   ·subst hc;have HR : Hid (fiV (frP 0 zs) = .tuple #[.int .i64 (k : Int),.bool true]):=by show _ = _; rw [HE.out,if_pos (by omega)]; unfold fiV; rw [if_neg (by omega),decide_eq_true (by omega)]
    go_wp2_with fail;try rw [Exit.noGoto_ret]
    go_ret2;exact ⟨by rw [HR.out]; rfl,H.out.1.1⟩
   ·rw [if_neg (by omega)] at HE;have e1 : (y == 4) = false:=beq_eq_false_iff_ne.2 (by omega)
    have e2 : (y == 5) = false:=beq_eq_false_iff_ne.2 (by omega)
    go_wp2_with fail;go_roundg (len - (k + 1))
    case measure=>rw [HG.out]; omega
    case rel=>exact ⟨k + 1,by go_num,by omega,rfl,HE.out,H.out⟩
  ·have z1 : ¬ (k : Int) < (len : Int):=by omega
   have HR : Hid (fiV (frP 0 zs) = .tuple #[.int .i64 0,.bool false]):=by show _ = _;rw [H.out.1,List.drop_eq_nil_of_le (by rw [HLn.out]; omega)]; rfl
   go_wp2_with fail;go_ret2;exact ⟨by rw [HR.out]; rfl,H.out.2.1.1⟩
end De
end Go.Proofs.YtkhipgcgcbhjoaaGreat
