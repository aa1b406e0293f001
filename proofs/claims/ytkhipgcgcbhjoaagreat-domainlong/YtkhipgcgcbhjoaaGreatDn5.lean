import Derived.Test.YtkhipgcgcbhjoaaGreatDn1
import Derived.Below
import Derived.Deep.QuietTactic
import Derived.BigQuiet
import Derived.ChangeKeysEq
import Derived.Test.YtkhipgcgcbhjoaaGreatDn4
set_option maxRecDepth 1000000
namespace Go.Proofs.YtkhipgcgcbhjoaaGreat.Ha
open Go.RowKit
theorem hid {p : Prop} (h : p) : Hid p:=h
def ledI (r : Int) : Int:=4352 + (r - 44032) / 28 / 21
def vowI (r : Int) : Int:=4449 + (r - 44032) / 28 % 21
def talI (r : Int) : Int:=if 0 < (r - 44032) % 28 then 4519 + (r - 44032) % 28 else 0
def sylB (r : Int) : Bool:=decide (44032 <= r ∧ r < 44032 + 11172)
def opnB (r : Int) : Bool:=sylB r && decide ((r - 44032) % 28 = 0)
theorem led_bd (r : Int) (h : 44032 <= r ∧ r <= 55203) : 4352 <= ledI r ∧ ledI r <= 4370:=by have:=h.1; unfold ledI; omega
theorem vow_bd (r : Int) : 4449 <= vowI r ∧ vowI r <= 4469:=by unfold vowI; omega
theorem tal_bd (r : Int) : 0 <= talI r ∧ talI r <= 4546:=by unfold talI; split <;> omega
theorem wit_yes (r l n : Int) (w : World) (h0 : 0 <= l) (h1 : l <= 50000) (h2 : 0 <= n) (h3 : n <= 12000) (h4 : l <= r) (h5 : r < l + n) :
 Calls Tryz.prog 273 #[.int .i32 r,.int .i32 l,.int .i32 n] w fun e w'=>e = .returned (.bool true) ∧ w' = w:=by
 go_enter Tryz.func273,Tryz.ntmps273
 go_wp2
 go_ret;exact ⟨rfl,rfl⟩
theorem wit_no (r l n : Int) (w : World) (h0 : 0 <= l) (h1 : l <= 50000) (h2 : 0 <= n) (h3 : n <= 12000) (h4 : ¬ (l <= r ∧ r < l + n)) :
 Calls Tryz.prog 273 #[.int .i32 r,.int .i32 l,.int .i32 n] w fun e w'=>e = .returned (.bool false) ∧ w' = w:=by
 by_cases h : l <= r
 ·have h5 : ¬ r < l + n:=fun k=>h4 ⟨h,k⟩
  clear h4;go_enter Tryz.func273,Tryz.ntmps273
  go_wp2
  go_ret;exact ⟨rfl,rfl⟩
 ·clear h4;go_enter Tryz.func273,Tryz.ntmps273
  go_wp2
  go_ret;exact ⟨rfl,rfl⟩
def witB (r l n : Int) : Bool:=decide (l <= r ∧ r < l + n)
theorem wit_any (r l n : Int) (w : World) (h0 : 0 <= l) (h1 : l <= 50000) (h2 : 0 <= n) (h3 : n <= 12000) :
 Calls Tryz.prog 273 #[.int .i32 r,.int .i32 l,.int .i32 n] w fun e w'=>e = .returned (.bool (witB r l n)) ∧ w' = w:=by
 by_cases h : l <= r ∧ r < l + n
 ·have e : witB r l n = true:=decide_eq_true h
  rw [e]; exact wit_yes r l n w h0 h1 h2 h3 h.1 h.2
 ·have e : witB r l n = false:=decide_eq_false h
  rw [e]; exact wit_no r l n w h0 h1 h2 h3 h
theorem syl_any (r : Int) (w : World) :
 Calls Tryz.prog 275 #[.int .i32 r] w fun e w'=>e = .returned (.bool (sylB r)) ∧ w' = w:=by
 go_enter Tryz.func275,Tryz.ntmps275
 go_wp2_with (go_at_call 273; refine (wit_any _ _ _ _ (by decide) (by decide) (by decide) (by decide)).mono ?_; rintro e w' ⟨rfl,rfl⟩)
 go_ret;exact ⟨rfl,rfl⟩
theorem split_no (r : Int) (w : World) (h : ¬ (44032 <= r ∧ r <= 55203)) :
 Calls Tryz.prog 225 #[.int .i32 r] w fun e w'=>e = .returned (.tuple #[.int .i32 0,.int .i32 0,.int .i32 0,.bool false]) ∧ w' = w:=by
 have hs : sylB r = false:=decide_eq_false (by omega)
 clear h;go_enter Tryz.func225,Tryz.ntmps225
 go_wp2_with (go_at_call 275; refine (syl_any _ _).mono ?_; rintro e w' ⟨rfl,rfl⟩)
 exact bodyPost_ret (v:=.tuple #[.int .i32 0,.int .i32 0,.int .i32 0,.bool false]) (by simp [results,Tryz.results225,go_sem]) rfl ⟨rfl,rfl⟩
theorem split_yes (r : Int) (w : World) (h1 : 44032 <= r) (h2 : r <= 55203) :
 Calls Tryz.prog 225 #[.int .i32 r] w fun e w'=>e = .returned (.tuple #[.int .i32 (ledI r),.int .i32 (vowI r),.int .i32 (talI r),.bool true]) ∧ w' = w:=by
 have hs : sylB r = true:=decide_eq_true (by omega)
 by_cases ht : 0 < (r - 44032) % 28
 ·have H : Hid (talI r = 4519 + (r - 44032) % 28):=if_pos ht
  go_enter Tryz.func225,Tryz.ntmps225
  go_wp2_with (go_at_call 275; refine (syl_any _ _).mono ?_; rintro e w' ⟨rfl,rfl⟩)
  exact bodyPost_ret (v:=.tuple #[.int .i32 (ledI r),.int .i32 (vowI r),.int .i32 (talI r),.bool true]) (by rw [H.out]; simp [results,Tryz.results225,go_sem,ledI,vowI]) rfl ⟨rfl,rfl⟩
 ·have H : Hid (talI r = 0):=if_neg ht
  go_enter Tryz.func225,Tryz.ntmps225
  go_wp2_with (go_at_call 275; refine (syl_any _ _).mono ?_; rintro e w' ⟨rfl,rfl⟩)
  exact bodyPost_ret (v:=.tuple #[.int .i32 (ledI r),.int .i32 (vowI r),.int .i32 (talI r),.bool true]) (by rw [H.out]; simp [results,Tryz.results225,go_sem,ledI,vowI]) rfl ⟨rfl,rfl⟩
theorem opn_any (r : Int) (w : World) :
 Calls Tryz.prog 274 #[.int .i32 r] w fun e w'=>e = .returned (.bool (opnB r)) ∧ w' = w:=by
 by_cases h : 44032 <= r ∧ r <= 55203
 ·have hs : sylB r = true:=decide_eq_true (by omega)
  obtain ⟨h1,h2⟩:=h
  by_cases ht : (r - 44032) % 28 = 0
  ·have H : Hid (opnB r = true):=by show opnB r = true; unfold opnB; rw [hs,decide_eq_true ht]; rfl
   go_enter Tryz.func274,Tryz.ntmps274
   go_wp2_with (go_at_call 275; refine (syl_any _ _).mono ?_; rintro e w' ⟨rfl,rfl⟩)
   go_ret;exact ⟨ret_bool H.out.symm,rfl⟩
  ·have H : Hid (opnB r = false):=by show opnB r = false; unfold opnB; rw [decide_eq_false ht,Bool.and_false]
   have ht' : ((r - 44032) % 28 == 0) = false:=by simpa using ht
   go_enter Tryz.func274,Tryz.ntmps274
   go_wp2_with (go_at_call 275; refine (syl_any _ _).mono ?_; rintro e w' ⟨rfl,rfl⟩)
   go_ret;exact ⟨ret_bool H.out.symm,rfl⟩
 ·have hs : sylB r = false:=decide_eq_false (by omega)
  clear h;have H : Hid (opnB r = false):=by show opnB r = false; unfold opnB; rw [hs,Bool.false_and]
  go_enter Tryz.func274,Tryz.ntmps274
  go_wp2_with (go_at_call 275; refine (syl_any _ _).mono ?_; rintro e w' ⟨rfl,rfl⟩)
  go_ret;exact ⟨ret_bool H.out.symm,rfl⟩
def lvB (a b : Int) : Bool:=witB a 4352 19 && witB b 4449 21
def otB (a b : Int) : Bool:=opnB a && witB b 4520 27
def lvI (a b : Int) : Int:=44032 + ((a - 4352) * 21 + (b - 4449)) * 28
def otI (a b : Int) : Int:=a + (b - 4519)
theorem join_lv (a b : Int) (w : World) (h : lvB a b = true) :
 Calls Tryz.prog 224 #[.int .i32 a,.int .i32 b] w fun e w'=>e = .returned (.tuple #[.int .i32 (lvI a b),.bool true]) ∧ w' = w:=by
 unfold lvB at h;rw [Bool.and_eq_true] at h;obtain ⟨ha,hb⟩:=h
 have ha':=of_decide_eq_true ha
 have hb':=of_decide_eq_true hb
 have a1 : 4352 <= a:=by omega
 have a2 : a <= 4370:=by omega
 have b1 : 4449 <= b:=by omega
 have b2 : b <= 4469:=by omega
 clear ha' hb';go_enter Tryz.func224,Tryz.ntmps224
 go_wp2_with (go_at_call 273; refine (wit_any _ _ _ _ (by decide) (by decide) (by decide) (by decide)).mono ?_; rintro e w' ⟨rfl,rfl⟩)
 go_ret2;exact ⟨rfl,rfl⟩
theorem join_ot (a b : Int) (w : World) (h' : otB a b = true) :
 Calls Tryz.prog 224 #[.int .i32 a,.int .i32 b] w fun e w'=>e = .returned (.tuple #[.int .i32 (otI a b),.bool true]) ∧ w' = w:=by
 unfold otB at h';rw [Bool.and_eq_true] at h';obtain ⟨ha,hb⟩:=h'
 have hs : sylB a = true:=by unfold opnB at ha; rw [Bool.and_eq_true] at ha; exact ha.1
 have hs':=of_decide_eq_true hs
 have hb':=of_decide_eq_true hb
 have a1 : 44032 <= a:=by omega
 have a2 : a <= 55203:=by omega
 have b1 : 4520 <= b:=by omega
 have b2 : b <= 4546:=by omega
 have h1 : witB a 4352 19 = false:=decide_eq_false (by omega)
 clear hs hs' hb';go_enter Tryz.func224,Tryz.ntmps224
 go_wp2_with (first | (go_at_call 273; refine (wit_any _ _ _ _ (by decide) (by decide) (by decide) (by decide)).mono ?_; rintro e w' ⟨rfl,rfl⟩) | (go_at_call 274; refine (opn_any _ _).mono ?_; rintro e w' ⟨rfl,rfl⟩))
 go_ret2;exact ⟨rfl,rfl⟩
theorem join_no (a b : Int) (w : World) (h : lvB a b = false) (h' : otB a b = false) :
 Calls Tryz.prog 224 #[.int .i32 a,.int .i32 b] w fun e w'=>e = .returned (.tuple #[.int .i32 0,.bool false]) ∧ w' = w:=by
 unfold lvB at h;unfold otB at h';cases h1 : witB a 4352 19 <;> cases h2 : opnB a <;> cases h3 : witB b 4449 21 <;> cases h4 : witB b 4520 27 <;> simp only [h1,h2,h3,h4] at h h' <;> first | exact absurd h (by decide) | exact absurd h' (by decide) | skip
 all_goals
  clear h h';go_enter Tryz.func224,Tryz.ntmps224
  go_wp2_with (first | (go_at_call 273; refine (wit_any _ _ _ _ (by decide) (by decide) (by decide) (by decide)).mono ?_; rintro e w' ⟨rfl,rfl⟩) | (go_at_call 274; refine (opn_any _ _).mono ?_; rintro e w' ⟨rfl,rfl⟩))
  go_ret2;exact ⟨rfl,rfl⟩
theorem tal_zero (r : Int) (h1 : 44032 <= r) (h2 : r <= 55203) : (talI r == 0) = opnB r:=by
 have hs : sylB r = true:=decide_eq_true (by omega)
 unfold opnB talI;rw [hs,Bool.true_and,Bool.eq_iff_iff];simp only [beq_iff_eq,decide_eq_true_eq]
 split <;> omega
end Go.Proofs.YtkhipgcgcbhjoaaGreat.Ha
namespace Go.Proofs.YtkhipgcgcbhjoaaGreat
namespace Nf
open Od Pr Ha
def sylL (r : Int) : List Int:=if talI r = 0 then [ledI r,vowI r] else [ledI r,vowI r,talI r]
def dnP (r : Int) : Pt:=rdP r allP
def apF : Nat -> Int -> List Int
 | 0,r=>[r]
 | n + 1,r=>if sylB r = true then sylL r else if (dnP r).2.2 = 1 then apF n (dnP r).1 else if (dnP r).2.2 = 2 then apF n (dnP r).1 ++ apF n (dnP r).2.1 else [r]
def okF : Nat -> Int -> Bool
 | 0,_=>false
 | n + 1,r=>if sylB r = true then true else if (dnP r).2.2 = 1 then okF n (dnP r).1 else if (dnP r).2.2 = 2 then okF n (dnP r).1 && okF n (dnP r).2.1 else true
def apP (r : Int) : List Int:=apF 6 r
theorem apF_succ : ∀ (n : Nat) (r : Int),okF n r = true -> apF (n + 1) r = apF n r
 | 0,_,h=>by cases h
 | n + 1,r,h=>by
  simp only [okF] at h
  show (if sylB r = true then sylL r else if (dnP r).2.2 = 1 then apF (n + 1) (dnP r).1 else if (dnP r).2.2 = 2 then apF (n + 1) (dnP r).1 ++ apF (n + 1) (dnP r).2.1 else [r]) = (if sylB r = true then sylL r else if (dnP r).2.2 = 1 then apF n (dnP r).1 else if (dnP r).2.2 = 2 then apF n (dnP r).1 ++ apF n (dnP r).2.1 else [r])
  by_cases h1 : sylB r = true
  ·rw [if_pos h1,if_pos h1]
  ·rw [if_neg h1] at h ⊢
   rw [if_neg h1];by_cases h2 : (dnP r).2.2 = 1
   ·rw [if_pos h2] at h ⊢
    rw [if_pos h2,apF_succ n _ h]
   ·rw [if_neg h2] at h ⊢
    rw [if_neg h2];by_cases h3 : (dnP r).2.2 = 2
    ·rw [if_pos h3,Bool.and_eq_true] at h;rw [if_pos h3,if_pos h3,apF_succ n _ h.1,apF_succ n _ h.2]
    ·rw [if_neg h3,if_neg h3]
theorem dn_out (r : Int) (h : ∀ x ∈ allP,x.1 ≠ r) : dnP r = (0,0,0):=rd_none r allP h
theorem rows_ok : allP.all (fun x=>okF 5 x.1) = true:=by kernel_rfl
theorem rows_far : allP.all (fun x=>!(decide (4352 <= x.1) && decide (x.1 <= 4546)) && !sylB x.1) = true:=by kernel_rfl
theorem ok5 (r : Int) : okF 5 r = true:=by
 by_cases h : ∃ x ∈ allP,x.1 = r
 ·obtain ⟨x,hx,rfl⟩:=h
  exact List.all_eq_true.1 rows_ok x hx
 ·have e:=dn_out r (fun x hx e=>h ⟨x,hx,e⟩)
  simp only [okF]
  rw [e];simp
theorem ap_eq (r : Int) : apP r = if sylB r = true then sylL r else if (dnP r).2.2 = 1 then apP (dnP r).1 else if (dnP r).2.2 = 2 then apP (dnP r).1 ++ apP (dnP r).2.1 else [r]:=by
 have e : ∀ x,apF 5 x = apP x:=fun x=>(apF_succ 5 x (ok5 x)).symm
 show (if sylB r = true then sylL r else if (dnP r).2.2 = 1 then apF 5 (dnP r).1 else if (dnP r).2.2 = 2 then apF 5 (dnP r).1 ++ apF 5 (dnP r).2.1 else [r]) = _
 rw [e,e]
theorem dn_d (r : Int) : d1 r = (dnP r).1 ∧ d2 r = (dnP r).2.1 ∧ d3 r = (dnP r).2.2:=by unfold d1 d2 d3 dnP;rw [rd_dn];exact ⟨rfl,rfl,rfl⟩
theorem ap_plain (r : Int) (h1 : sylB r = false) (h2 : ∀ x ∈ allP,x.1 ≠ r) : apP r = [r]:=by
 rw [ap_eq,if_neg (by rw [h1]; decide),dn_out r h2]
 rfl
theorem syl_row (x : R3) (hx : x ∈ allP) : sylB x.1 = false:=by
 have:=List.all_eq_true.1 rows_far x hx
 rw [Bool.and_eq_true,Bool.not_eq_true'] at this;simpa using this.2
theorem syl_bd {r : Int} (h : sylB r = true) : 44032 <= r ∧ r <= 55203:=by
 have:=of_decide_eq_true h
 omega
theorem sylL_bd {r : Int} (h : sylB r = true) : ∀ y ∈ sylL r,4352 <= y ∧ y <= 4546:=by
 have hb:=syl_bd h
 have h1:=led_bd r hb
 have h2:=vow_bd r
 have h3:=tal_bd r
 intro y hy
 unfold sylL at hy;split at hy
 ·simp at hy; omega
 ·rename_i h4
  have h5 : 4352 <= talI r:=by
   unfold talI at h4 ⊢
   split at h4
   ·rw [if_pos ‹_›]; omega
   ·exact absurd rfl h4
  simp at hy
  omega
def mkB (a b : Int) : Bool:=u2 a b || lvB a b || otB a b
def mkI (a b : Int) : Int:=if u2 a b = true then u1 a b else if lvB a b = true then lvI a b else otI a b
theorem lv_parts (a b : Int) (h : lvB a b = true) : sylB (lvI a b) = true ∧ ledI (lvI a b) = a ∧ vowI (lvI a b) = b ∧ talI (lvI a b) = 0 ∧ (4352 <= a ∧ a <= 4370) ∧ (4449 <= b ∧ b <= 4469):=by
 unfold lvB witB at h;rw [Bool.and_eq_true,decide_eq_true_eq,decide_eq_true_eq] at h;refine ⟨decide_eq_true ?_,?_,?_,?_,by omega,by omega⟩
 ·unfold lvI; omega
 ·unfold ledI lvI; omega
 ·unfold vowI lvI; omega
 ·unfold talI lvI;rw [if_neg (by omega)]
theorem ot_parts (a b : Int) (h : otB a b = true) : sylB a = true ∧ talI a = 0 ∧ sylB (otI a b) = true ∧ ledI (otI a b) = ledI a ∧ vowI (otI a b) = vowI a ∧ talI (otI a b) = b ∧ (4520 <= b ∧ b <= 4546):=by
 unfold otB opnB witB at h;rw [Bool.and_eq_true,Bool.and_eq_true,decide_eq_true_eq,decide_eq_true_eq] at h;obtain ⟨⟨h1,h2⟩,h3⟩:=h
 have hb:=syl_bd h1
 refine ⟨h1,?_,decide_eq_true ?_,?_,?_,?_,by omega⟩
 ·unfold talI; rw [if_neg (by omega)]
 ·unfold otI; omega
 ·unfold ledI otI; omega
 ·unfold vowI otI; omega
 ·unfold talI otI;rw [if_pos (by omega)]; omega
section
variable (c : Int -> Int)
def nfdP (l : List Int) : List Int:=srt c (l.flatMap apP)
def gr (M : List Int) : Int:=M.foldl (fun g r=>if g < c r then c r else g) 0
theorem gr_snoc (M : List Int) (r : Int) : gr c (M ++ [r]) = if gr c M < c r then c r else gr c M:=by unfold gr; rw [List.foldl_append]; rfl
theorem gr_ge : ∀ (M : List Int) (g0 : Int),g0 <= M.foldl (fun g r=>if g < c r then c r else g) g0 ∧ ∀ m ∈ M,c m <= M.foldl (fun g r=>if g < c r then c r else g) g0
 | [],g0=>⟨Int.le_refl _,fun m hm=>by simp at hm⟩
 | x :: M,g0=>by
  have h:=gr_ge M (if g0 < c x then c x else g0)
  simp only [List.foldl_cons]
  refine ⟨?_,fun m hm=>?_⟩
  ·have:=h.1
   split at this <;> split <;> omega
  ·rcases List.mem_cons.1 hm with rfl | hm
   ·have:=h.1
    split at this <;> split <;> omega
   ·exact h.2 m hm
abbrev CS:=List Int × Option Int × List Int
def outC (s : CS) : List Int:=s.1 ++ s.2.1.toList ++ s.2.2
def tryC (s : CS) (r : Int) : Bool:=match s.2.1 with
 | none=>false
 | some x=>!(decide (0 < gr c s.2.2) && decide (c r <= gr c s.2.2)) && mkB x r
def stepC (s : CS) (r : Int) : CS :=
 if tryC c s r = true then (s.1,s.2.1.map (fun x=>mkI x r),s.2.2) else if c r = 0 then (outC s,some r,[]) else (s.1,s.2.1,s.2.2 ++ [r])
def compP (l : List Int) : List Int:=outC (l.foldl (stepC c) ([],none,[]))
def nfcP (l : List Int) : List Int:=compP c (nfdP c l)
theorem outC_no (s : CS) (r : Int) (h : tryC c s r = false) : outC (stepC c s r) = outC s ++ [r]:=by
 unfold stepC;rw [h];simp only [Bool.false_eq_true,if_false]
 split
 ·simp [outC]
 ·simp [outC]
end
end Nf
end Go.Proofs.YtkhipgcgcbhjoaaGreat
