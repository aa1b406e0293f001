import Derived.Test.YtkhipgcgcbhjoaaGreatDn23
import Derived.Test.YtkhipgcgcbhjoaaGreatDn24
set_option maxRecDepth 1000000
namespace Go.Proofs.YtkhipgcgcbhjoaaGreat
namespace Do
open Od Pr Ha Nf Ma
def RelD (P : List Int) (S T : CS) : Prop:=(T.2.1 = none ∧ T.1 = [] ∧ S = (P,some 46,T.2.2)) ∨ (∃ x,T.2.1 = some x ∧ S = (P ++ 46 :: T.1,some x,T.2.2))
theorem rel_out {P : List Int} {S T : CS} (h : RelD P S T) : outC S = P ++ 46 :: outC T:=by
 obtain ⟨A,so,M⟩:=T
 rcases h with ⟨h1,h2,rfl⟩ | ⟨x,h1,rfl⟩
 ·simp only at h1 h2
  subst h1 h2;simp [outC]
 ·simp only at h1
  subst h1;simp [outC]
theorem rel_step {P : List Int} {S T : CS} (r : Int) (h : RelD P S T) : RelD P (stepC clsP S r) (stepC clsP T r):=by
 obtain ⟨A,so,M⟩:=T
 rcases h with ⟨h1,h2,rfl⟩ | ⟨x,h1,rfl⟩
 ·simp only at h1 h2
  subst h1 h2;have t1 : tryC clsP (P,some 46,M) r = false:=by
   unfold tryC;simp only
   rw [mk_no 46 r (.inr (.inl rfl)),Bool.and_false]
  have t2 : tryC clsP ([],none,M) r = false:=rfl
  unfold stepC;rw [t1,t2];simp only [Bool.false_eq_true,if_false]
  by_cases h0 : clsP r = 0
  ·rw [if_pos h0,if_pos h0];exact .inr ⟨r,rfl,by simp [outC]⟩
  ·rw [if_neg h0,if_neg h0];exact .inl ⟨rfl,rfl,rfl⟩
 ·simp only at h1
  subst h1;have t1 : tryC clsP (P ++ 46 :: A,some x,M) r = tryC clsP (A,some x,M) r:=rfl
  unfold stepC;rw [t1];by_cases ht : tryC clsP (A,some x,M) r = true
  ·rw [if_pos ht,if_pos ht];exact .inr ⟨mkI x r,rfl,rfl⟩
  ·rw [if_neg ht,if_neg ht];by_cases h0 : clsP r = 0
   ·rw [if_pos h0,if_pos h0];exact .inr ⟨r,rfl,by simp [outC]⟩
   ·rw [if_neg h0,if_neg h0];exact .inr ⟨x,rfl,rfl⟩
theorem rel_fold {P : List Int} : ∀ (B : List Int) (S T : CS),RelD P S T -> outC (B.foldl (stepC clsP) S) = P ++ 46 :: outC (B.foldl (stepC clsP) T)
 | [],_,_,h=>rel_out h
 | r :: B,_,_,h=>rel_fold B _ _ (rel_step r h)
theorem comp_dot (A B : List Int) : compP clsP (A ++ 46 :: B) = compP clsP A ++ 46 :: compP clsP B:=by
 unfold compP;rw [List.foldl_append,List.foldl_cons];generalize A.foldl (stepC clsP) ([],none,[]) = S
 have t1 : tryC clsP S 46 = false:=by
  obtain ⟨A,so,M⟩:=S
  cases so with
  | none=>rfl
  | some x =>
   unfold tryC;simp only
   rw [mk_no x 46 (.inr (.inr (.inr rfl))),Bool.and_false]
 have e : stepC clsP S 46 = (outC S,some 46,[]):=by
  unfold stepC;rw [t1];simp only [Bool.false_eq_true,if_false]
  rw [if_pos cls_full]
 rw [e];exact rel_fold B _ _ (.inl ⟨rfl,rfl,rfl⟩)
theorem nfc_dot (A B : List Int) : nfcP clsP (A ++ 46 :: B) = nfcP clsP A ++ 46 :: nfcP clsP B:=by
 unfold nfcP;have e : nfdP clsP (A ++ 46 :: B) = nfdP clsP A ++ 46 :: nfdP clsP B:=by unfold nfdP;rw [List.flatMap_append,List.flatMap_cons,ap_stop 46 (.inr rfl)];exact srt_split 46 cls_full _ _
 rw [e,comp_dot]
theorem nfc_jn : ∀ (Ls : List (List Int)),nfcP clsP (jnP Ls) = jnP (Ls.map (nfcP clsP))
 | []=>rfl
 | [A]=>rfl
 | A :: B :: Ls=>by rw [jn_cons A (by simp),nfc_dot,nfc_jn (B :: Ls)];rw [List.map_cons (l:=B :: Ls),jn_cons _ (by simp)]
theorem jn_map (f : Int -> Int) (h : f 46 = 46) : ∀ (Ls : List (List Int)),(jnP Ls).map f = jnP (Ls.map (fun A=>A.map f))
 | []=>rfl
 | [A]=>rfl
 | A :: B :: Ls=>by rw [jn_cons A (by simp),List.map_append,List.map_cons,h,jn_map f h (B :: Ls)];rw [List.map_cons (l:=B :: Ls),jn_cons _ (by simp)]
theorem map_fix (f : Int -> Int) {A : List Int} (h : ∀ x ∈ A,f x = x) : A.map f = A:=by
 conv=>rhs; rw [<- List.map_id A]
 exact List.map_congr_left h
theorem map_jn {Ls : List (List Int)} (h1 : ∀ A ∈ Ls,nfcP clsP A = A) (h2 : ∀ A ∈ Ls,∀ x ∈ A,tP x = x) (h3 : ∀ A ∈ Ls,∀ x ∈ A,x ≠ 12290) : mapP (jnP Ls) = jnP Ls:=by
 unfold mapP;have e1 : Ls.map (fun A=>A.map tP) = Ls:=by
  conv=>rhs; rw [<- List.map_id Ls]
  exact List.map_congr_left (fun A hA=>map_fix tP (h2 A hA))
 have e2 : Ls.map (nfcP clsP) = Ls:=by
  conv=>rhs; rw [<- List.map_id Ls]
  exact List.map_congr_left h1
 have e3 : Ls.map (fun A=>A.map stP) = Ls:=by
  conv=>rhs; rw [<- List.map_id Ls]
  exact List.map_congr_left (fun A hA=>map_fix stP (fun x hx=>st_far x (h3 A hA x hx)))
 rw [jn_map tP (t_far far_dot (Int.le_refl _) (Int.le_refl _) (by decide)),e1,nfc_jn,e2,jn_map stP rfl,e3]
def row_hi (x : R3) : Bool:=decide (128 <= x.1) && decide (x.2.2 = 0 ∨ 128 <= x.2.2)
theorem rows_hi : allP.all row_hi = true:=by kernel_rfl
theorem row_lo (x : R3) (hx : x ∈ allP) : 128 <= x.1 ∧ (x.2.2 = 0 ∨ 128 <= x.2.2):=by
 have h:=List.all_eq_true.1 rows_hi x hx
 unfold row_hi at h;rw [Bool.and_eq_true,decide_eq_true_eq,decide_eq_true_eq] at h;exact h
theorem ap_low {r : Int} (h : r < 128) : apP r = [r]:=ap_plain r (decide_eq_false (by omega)) (fun x hx e=>by have:=(row_lo x hx).1; omega)
def clsLo (i : Nat) : Bool:=clsP (i : Int) == 0
theorem cls_ascii : (List.range 128).all clsLo = true:=by kernel_rfl
theorem cls_low {r : Int} (h0 : 0 <= r) (h : r < 128) : clsP r = 0:=by
 have:=List.all_eq_true.1 cls_ascii r.toNat (List.mem_range.2 (by omega))
 unfold clsLo at this;rw [show ((r.toNat : Nat) : Int) = r by omega,beq_iff_eq] at this
 exact this
end Do
end Go.Proofs.YtkhipgcgcbhjoaaGreat
