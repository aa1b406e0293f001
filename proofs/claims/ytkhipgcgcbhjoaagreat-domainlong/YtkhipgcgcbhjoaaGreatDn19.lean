import Derived.Test.YtkhipgcgcbhjoaaGreatDn5
import Derived.Test.YtkhipgcgcbhjoaaGreatDn18
set_option maxRecDepth 1000000
namespace Go.Proofs.YtkhipgcgcbhjoaaGreat
namespace Ma
open Od Pr Ha Nf
def tP (x : Int) : Int:=widP (lowP x spanT)
def stP (x : Int) : Int:=if x = 12290 then 46 else x
theorem dn_row (r : Int) (h : (dnP r).2.2 ≠ 0) : ∃ x ∈ allP,x.1 = r ∧ dnP r = valP x:=by
 have e : dnP r = (dnF allP r).getD (0,0,0):=by unfold dnP; rw [rd_dn]
 cases hd : dnF allP r with
 | none=>rw [e,hd] at h; exact absurd rfl h
 | some v =>
  obtain ⟨x,hx,h1,h2⟩:=dn_mem allP r v hd
  exact ⟨x,hx,h1,by rw [e,hd,Option.getD_some,h2]⟩
theorem ap_inv (P : Int -> Prop) (hrow : ∀ x ∈ allP,P x.1 -> P x.2.1 ∧ (x.2.2 ≠ 0 -> P x.2.2)) (hj : ∀ y,4352 <= y -> y <= 4546 -> P y) : ∀ (n : Nat) (r : Int),P r -> ∀ y ∈ apF n r,P y
 | 0,r,h,y,hy=>by rw [apF,List.mem_singleton] at hy; rw [hy]; exact h
 | n + 1,r,h,y,hy=>by
  rw [apF] at hy;by_cases h1 : sylB r = true
  ·rw [if_pos h1] at hy;have:=sylL_bd h1 y hy
   exact hj y this.1 this.2
  ·rw [if_neg h1] at hy;by_cases h2 : (dnP r).2.2 = 1
   ·rw [if_pos h2] at hy;obtain ⟨x,hx,e1,e2⟩:=dn_row r (by omega)
    refine ap_inv P hrow hj n _ ?_ y hy
    rw [e2];exact (hrow x hx (by rw [e1]; exact h)).1
   ·rw [if_neg h2] at hy;by_cases h3 : (dnP r).2.2 = 2
    ·rw [if_pos h3,List.mem_append] at hy;obtain ⟨x,hx,e1,e2⟩:=dn_row r (by omega)
     have hp:=hrow x hx (by rw [e1]; exact h)
     have hne : x.2.2 ≠ 0:=fun e=>by rw [e2] at h3;unfold valP at h3;rw [if_pos e] at h3;exact absurd (show (1 : Int) = 2 from h3) (by decide)
     rcases hy with hy | hy
     ·refine ap_inv P hrow hj n _ ?_ y hy
      rw [e2]; exact hp.1
     ·refine ap_inv P hrow hj n _ ?_ y hy
      rw [e2]; exact hp.2 hne
    ·rw [if_neg h3,List.mem_singleton] at hy;rw [hy]; exact h
theorem mk_inv (P : Int -> Prop) (hrow : ∀ x ∈ allP,skipB x = false -> P x.2.1 -> P x.2.2 -> P x.1) (hs : ∀ y,44032 <= y -> y <= 55203 -> P y) (a b : Int) (h : mkB a b = true) (ha : P a) (hb : P b) : P (mkI a b):=by
 unfold mkB at h;unfold mkI;by_cases h1 : u2 a b = true
 ·rw [if_pos h1];unfold u2 at h1;unfold u1;cases hu : upF allP (a,b) with
  | none=>rw [hu] at h1; cases h1
  | some z =>
   obtain ⟨x,hx,h2,h3,rfl⟩:=up_mem allP _ z hu
   injection h3 with e1 e2;exact hrow x hx h2 (by rw [<- e1]; exact ha) (by rw [<- e2]; exact hb)
 ·rw [if_neg h1];have h1' : u2 a b = false:=by simpa using h1
  rw [h1',Bool.false_or,Bool.or_eq_true] at h;by_cases h2 : lvB a b = true
  ·rw [if_pos h2];have:=syl_bd (lv_parts a b h2).1
   exact hs _ this.1 this.2
  ·rw [if_neg h2];have:=syl_bd (ot_parts a b (h.resolve_left h2)).2.2.1
   exact hs _ this.1 this.2
section
variable (c : Int -> Int)
theorem out_mem (s : CS) (y : Int) : y ∈ outC s ↔ y ∈ s.1 ∨ s.2.1 = some y ∨ y ∈ s.2.2:=by unfold outC;rw [List.mem_append,List.mem_append,Option.mem_toList,or_assoc]
theorem step_inv (P : Int -> Prop) (hm : ∀ a b,mkB a b = true -> P a -> P b -> P (mkI a b)) (s : CS) (r : Int) (hs : ∀ y ∈ outC s,P y) (hr : P r) : ∀ y ∈ outC (stepC c s r),P y:=by
 intro y hy
 cases ht : tryC c s r with
 | false =>
  rw [outC_no c s r ht,List.mem_append,List.mem_singleton] at hy;rcases hy with hy | rfl
  ·exact hs y hy
  ·exact hr
 | true =>
  unfold stepC at hy;rw [if_pos ht,out_mem] at hy;rcases hy with hy | hy | hy
  ·exact hs y ((out_mem s y).2 (.inl hy))
  ·cases hx : s.2.1 with
   | none=>rw [hx] at hy; cases hy
   | some x =>
    rw [hx] at hy;injection hy with hy;rw [<- hy];refine hm x r ?_ (hs x ((out_mem s x).2 (.inr (.inl hx)))) hr
    unfold tryC at ht;rw [hx] at ht;simp only [Bool.and_eq_true] at ht
    exact ht.2
  ·exact hs y ((out_mem s y).2 (.inr (.inr hy)))
theorem fold_inv (P : Int -> Prop) (hm : ∀ a b,mkB a b = true -> P a -> P b -> P (mkI a b)) : ∀ (l : List Int) (s : CS),(∀ y ∈ outC s,P y) -> (∀ x ∈ l,P x) -> ∀ y ∈ outC (l.foldl (stepC c) s),P y
 | [],_,hs,_=>hs
 | r :: l,s,hs,hl=>fold_inv P hm l (stepC c s r) (step_inv c P hm s r hs (hl r List.mem_cons_self)) (fun x hx=>hl x (List.mem_cons_of_mem _ hx))
theorem nfc_inv (P : Int -> Prop) (hrow : ∀ x ∈ allP,P x.1 -> P x.2.1 ∧ (x.2.2 ≠ 0 -> P x.2.2)) (hj : ∀ y,4352 <= y -> y <= 4546 -> P y) (hrow2 : ∀ x ∈ allP,skipB x = false -> P x.2.1 -> P x.2.2 -> P x.1) (hs : ∀ y,44032 <= y -> y <= 55203 -> P y)
 (l : List Int) (h : ∀ x ∈ l,P x) : ∀ y ∈ nfcP c l,P y:=by
 unfold nfcP compP;refine fold_inv c P (mk_inv P hrow2 hs) _ _ (fun y hy=>by simp [outC] at hy) (fun x hx=>?_)
 unfold nfdP at hx;have h1:=(sw_srt c _).perm.mem_iff.2 hx
 obtain ⟨r,hr,h2⟩:=List.mem_flatMap.1 h1
 exact ap_inv P hrow hj 6 r (h r hr) x h2
variable {c} {s : Int -> Int}
end
def rowS (x : R3) : Bool:=!(x.1 == 12290) && !(x.1 == 46) && !(x.2.1 == 12290) && !(x.2.1 == 46) && !(x.2.2 == 12290) && !(x.2.2 == 46)
def rowT (x : R3) : Bool:=(!(tP x.1 == x.1) || (tP x.2.1 == x.2.1 && (x.2.2 == 0 || tP x.2.2 == x.2.2))) && (skipB x || !(tP x.2.1 == x.2.1 && tP x.2.2 == x.2.2) || tP x.1 == x.1)
theorem rows_s : allP.all rowS = true:=by kernel_rfl
theorem rows_t : allP.all rowT = true:=by kernel_rfl
theorem row_s (x : R3) (hx : x ∈ allP) : x.1 ≠ 12290 ∧ x.1 ≠ 46 ∧ x.2.1 ≠ 12290 ∧ x.2.1 ≠ 46 ∧ x.2.2 ≠ 12290 ∧ x.2.2 ≠ 46:=by
 have h:=List.all_eq_true.1 rows_s x hx
 unfold rowS at h;simp only [Bool.and_eq_true,Bool.not_eq_true',beq_eq_false_iff_ne] at h
 exact ⟨h.1.1.1.1.1,h.1.1.1.1.2,h.1.1.1.2,h.1.1.2,h.1.2,h.2⟩
theorem row_t (x : R3) (hx : x ∈ allP) : (tP x.1 = x.1 -> tP x.2.1 = x.2.1 ∧ (x.2.2 ≠ 0 -> tP x.2.2 = x.2.2)) ∧ (skipB x = false -> tP x.2.1 = x.2.1 -> tP x.2.2 = x.2.2 -> tP x.1 = x.1):=by
 have h:=List.all_eq_true.1 rows_t x hx
 unfold rowT at h;simp only [Bool.and_eq_true,Bool.or_eq_true,Bool.not_eq_true',beq_eq_false_iff_ne,beq_iff_eq,Bool.and_eq_false_iff] at h
 refine ⟨fun e=>?_,fun e1 e2 e3=>?_⟩
 ·have h1:=h.1.resolve_left (fun n=>n e)
  exact ⟨h1.1,fun n=>h1.2.resolve_left n⟩
 ·rcases h.2 with (h2 | h2) | h2
  ·rw [e1] at h2; cases h2
  ·rcases h2 with h2 | h2
   ·exact absurd e2 h2
   ·exact absurd e3 h2
  ·exact h2
theorem u2_no (a b : Int) (h : a = 12290 ∨ a = 46 ∨ b = 12290 ∨ b = 46) : u2 a b = false:=by
 unfold u2;cases hu : upF allP (a,b) with
 | none=>rfl
 | some z =>
  obtain ⟨x,hx,_,h3,_⟩:=up_mem allP _ z hu
  injection h3 with e1 e2;have:=row_s x hx
  omega
theorem mk_no (a b : Int) (h : a = 12290 ∨ a = 46 ∨ b = 12290 ∨ b = 46) : mkB a b = false:=by
 unfold mkB;rw [u2_no a b h,Bool.false_or,Bool.or_eq_false_iff];refine ⟨?_,?_⟩
 ·cases e : lvB a b with
  | false=>rfl
  | true=>have:=lv_parts a b e; omega
 ·cases e : otB a b with
  | false=>rfl
  | true =>
   have:=ot_parts a b e
   have:=syl_bd this.1
   omega
theorem st_far (x : Int) (h : x ≠ 12290) : stP x = x:=if_neg h
theorem ap_stop (r : Int) (h : r = 12290 ∨ r = 46) : apP r = [r]:=by
 refine ap_plain r (decide_eq_false (by omega)) (fun x hx e=>?_)
 have:=row_s x hx
 omega
theorem cls_full : clsP 46 = 0:=by kernel_rfl
def farB (a b : Int) : Bool:=spanT.all (fun x=>decide (x.2.1 < a) || decide (b < x.1))
theorem far_low {a b y : Int} (h : farB a b = true) (h1 : a <= y) (h2 : y <= b) : lowP y spanT = y:=by
 refine low_out y spanT ?_
 rw [List.any_eq_false];intro x hx
 have:=List.all_eq_true.1 h x hx
 rw [Bool.or_eq_true,decide_eq_true_eq,decide_eq_true_eq] at this;rw [Bool.and_eq_true,decide_eq_true_eq,decide_eq_true_eq];omega
theorem wid_far {y : Int} (h : y < 65281 ∨ 65439 < y) : widP y = y:=by unfold widP;rw [if_neg (by omega),if_neg (by omega),if_neg (by omega),if_neg (by omega)]
theorem far_jamo : farB 4352 4546 = true:=by kernel_rfl
theorem far_syl : farB 44032 55203 = true:=by kernel_rfl
theorem far_dot : farB 46 46 = true:=by kernel_rfl
theorem t_far {a b y : Int} (h : farB a b = true) (h1 : a <= y) (h2 : y <= b) (h3 : y < 65281) : tP y = y:=by unfold tP;rw [far_low h h1 h2,wid_far (.inl h3)]
def wideB (i : Nat) : Bool:=!(lowP (65281 + (i : Int)) spanT == 65281 + (i : Int)) || lowP (widP (65281 + (i : Int))) spanT == widP (65281 + (i : Int))
theorem wide_all : (List.range 159).all wideB = true:=by kernel_rfl
theorem low_wid {y : Int} (h : lowP y spanT = y) : lowP (widP y) spanT = widP y:=by
 by_cases h1 : y < 65281 ∨ 65439 < y
 ·rw [wid_far h1]; exact h
 ·have h2:=List.all_eq_true.1 wide_all (y - 65281).toNat (List.mem_range.2 (by omega))
  have e : (65281 + ((y - 65281).toNat : Int)) = y:=by omega
  unfold wideB at h2;rw [e,Bool.or_eq_true,Bool.not_eq_true',beq_eq_false_iff_ne,beq_iff_eq] at h2;exact h2.resolve_left (fun n=>n h)
theorem t_t (x : Int) (h : I32 x) : tP (tP x) = tP x:=by
 obtain ⟨l1,l2⟩:=low_facts x h
 obtain ⟨w1,_⟩:=wid_facts _ l2
 unfold tP;rw [low_wid l1,w1]
def mapP (l : List Int) : List Int:=(nfcP clsP (l.map tP)).map stP
end Ma
end Go.Proofs.YtkhipgcgcbhjoaaGreat
