import Derived.Test.YtkhipgcgcbhjoaaGreatLa33
import Derived.Test.YtkhipgcgcbhjoaaGreatLa55
import Derived.Test.YtkhipgcgcbhjoaaGreatLa27
import Derived.Test.YtkhipgcgcbhjoaaGreatLa54
import Derived.Test.YtkhipgcgcbhjoaaGreatLa44
import Derived.Test.YtkhipgcgcbhjoaaGreatLa34
import Derived.Test.YtkhipgcgcbhjoaaGreatLa52
set_option maxRecDepth 100000
set_option maxHeartbeats 8000000
namespace Go.Proofs.YtkhipgcgcbhjoaaGreat
namespace La
open Go.RowKit Od Pr Ha Nf
theorem fr_iff : ∀ (l : List Int) (k : Nat),0 <= De.frP k l ↔ ∃ x ∈ l,4 <= De.ofP x
 | [],_=>by simp [De.frP]
 | x :: l,k=>by
  rw [De.frP];by_cases h : 4 <= De.ofP x
  ·rw [if_pos h];exact ⟨fun _=>⟨x,List.mem_cons_self,h⟩,fun _=>by omega⟩
  ·rw [if_neg h,fr_iff l (k + 1)];constructor
   ·rintro ⟨y,hy,h1⟩; exact ⟨y,List.mem_cons_of_mem _ hy,h1⟩
   ·rintro ⟨y,hy,h1⟩;rcases List.mem_cons.1 hy with rfl | hy
    ·exact absurd h1 h
    ·exact ⟨y,hy,h1⟩
structure Rq (w : World) (v : Value) (N : List Int) (x : Int) (b1 : Bool) (k4 z6 k7 : Int) : Prop where
 nf : ∀ W,Below w.heap.size w W -> Calls Tryz.prog 58 #[v] W fun e w'=>∃ v',e = .returned v' ∧ Sl .i64 w' v' N ∧ Below W.heap.size W w'
 eq : ∀ W v',Below w.heap.size w W -> Sl .i64 W v' N -> Calls Tryz.prog 27 #[v',v] W fun e w'=>e = .returned (.bool b1) ∧ Below W.heap.size W w'
 mark : ∀ W,Below w.heap.size w W -> Calls Tryz.prog 59 #[.int .i64 x] W fun e w'=>e = .returned (.int .i64 k4) ∧ Below W.heap.size W w'
 st : ∀ W (y : Int),I32 y -> Calls Tryz.prog 60 #[.int .i64 y] W fun e w'=>e = .returned (.int .i64 (De.ofP y)) ∧ Below W.heap.size W w'
 ru : ∀ W,Below w.heap.size w W -> Calls Tryz.prog 61 #[v] W fun e w'=>e = .returned (.int .i64 z6) ∧ Below W.heap.size W w'
 bi : ∀ W,Below w.heap.size w W -> Calls Tryz.prog 62 #[v] W fun e w'=>e = .returned (.int .i64 k7) ∧ Below W.heap.size W w'
theorem rq_of {w : World} {a : Addr} {n cap : Nat} {x : Int} {xs : List Int} (hlen : (x :: xs).length = n) (hP : SlP .i64 w (some a) cap (x :: xs)) (hI : ∀ y ∈ x :: xs,I32 y) (hn : n <= 10000) :
 Rq w (.slice (some a) n cap) (nfcP clsP (x :: xs)) x (decide (nfcP clsP (x :: xs) = x :: xs)) (De.knP x) (Ru.frM (x :: xs) (x :: xs).length 0) (Bi.brP (x :: xs)):=by
 have hSl : ∀ W,Below w.heap.size w W -> Sl .i64 W (.slice (some a) n cap) (x :: xs):=fun W h=>⟨_,_,by rw [hlen],hP.step h⟩
 exact ⟨fun W h=>(rnfc_any ⟨a,cap,by rw [hlen],hP.step h⟩ hI (by omega)).mono (fun e w' ⟨v',h1,h2,h3⟩=>⟨v',h1,h2.sl,h3⟩),
  fun W v' h h'=>same_any v' _ _ _ W h' (hSl W h) (by have:=(nfc_I32 _ hI).2; omega),
  fun W h=>(Uc.rKind_any x W).mono (fun e w' h=>⟨by rw [<- De.kn_ref]; exact h.1,h.2⟩),fun W y hy=>De.rof_any y hy W,
  fun W h=>Ru.rfirst_any (hSl W h) (by omega),fun W h=>Bi.rbroken_any (hSl W h) (by omega)⟩
theorem ge_snoc (X : List Int) (k : Nat) (h : k < X.length) : (X.take (k + 1)).any geB = ((X.take k).any geB || geB X[k]):=by rw [List.take_succ_eq_append_getElem h,List.any_append]; simp
theorem rfault_one {w : World} {gb off n cap : Nat} {X N : List Int} {x : Int} {b1 : Bool} {k4 z6 k7 : Int} (hQ : Rq w (.slice (some ⟨gb,off,none⟩) n cap) N x b1 k4 z6 k7) (hX : X.length = n) (hS : SlP .i64 w (some ⟨gb,off,none⟩) cap X) (hI : ∀ y ∈ X,I32 y) (hx : X[0]? = some x) (hn0 : 0 < n) (hn : n <= 10000) (q : Bool) :
 Calls Tryz.prog 18 #[.slice (some ⟨gb,off,none⟩) n cap,.bool q] w fun e w'=>e = .returned (.int .i64 (faB b1 (hyB X) (edB X) (k4 == 5 || k4 == 6) (decide (0 <= De.frP 0 X)) (decide (0 <= z6)) (q && !(k7 == 0)) (X.any geB))) ∧ Below w.heap.size w w':=by
 obtain ⟨m,rfl⟩ : ∃ m,n = m + 1:=⟨n - 1,by omega⟩
 have HQ:=hr hQ
 have HS:=hr hS
 have HI:=hr hI
 have HO:=hr (Ok.start w);have z0 : (((m + 1 : Nat) : Int) == 0) = false:=beq_eq_false_iff_ne.2 (by omega)
 have z1 : (0 : Int) < ((m + 1 : Nat) : Int):=by omega
 obtain ⟨gb',off',e0,hgb,g0⟩:=hS.at_ 0 (by omega)
 injection e0 with e0;injection e0 with e1 e2;subst e1 e2;have hx0 : X[0]'(by omega) = x:=by rw [List.getElem?_eq_getElem (by omega)] at hx; exact Option.some.inj hx
 rw [hx0] at g0;have HG0 : Hid (∀ W,Below w.heap.size w W -> W.cell? ⟨gb,off,none⟩ = some (.int .i64 x)):=fun W hW=>(hW.cell (p:=⟨gb,off,none⟩) hgb).trans g0
 have HCe : Hid (∀ W,Below w.heap.size w W -> ∀ k y,X[k]? = some y -> W.cell? ⟨gb,off + k,none⟩ = some (.int .i64 y)):=fun W hW k y h=>by
  obtain ⟨hk,rfl⟩:=List.getElem?_eq_some_iff.1 h
  obtain ⟨gb',off',e0,hgb,g0⟩:=hS.at_ k hk
  injection e0 with e0;injection e0 with e1 e2;subst e1 e2;exact (hW.cell (p:=⟨gb,off + k,none⟩) hgb).trans g0
 have HX:=hr hX
 obtain ⟨yl,hyl⟩ : ∃ yl,X[m]? = some yl:=⟨_,List.getElem?_eq_getElem (by omega)⟩
 have HYl:=hr hyl
 have HEd : Hid (edB X = (x == 45 || yl == 45)):=by show _ = _;unfold edB;rw [hx,hX,Nat.add_sub_cancel,hyl];simp
 have HFr : Hid (∀ r : Bool,(r = true ↔ ∃ y ∈ X,4 <= De.ofP y) -> decide (0 <= De.frP 0 X) = r):=fun r h=>by rw [Bool.eq_iff_iff,decide_eq_true_eq,h]; exact fr_iff X 0
 clear hQ hS hI hx hx0 g0 hgb hX hyl;go_enter Tryz.func18,Tryz.ntmps18
 go_wp2_with fail;refine (HQ.out.nf _ HO.out.1).mono ?_;rintro e w1 ⟨v1,rfl,h1,hb⟩;have S1:=hr h1
 replace HO:=hr (HO.out.step hb);clear h1 hb;go_wp2_with fail;refine (HQ.out.eq _ _ HO.out.1 S1.out).mono ?_;rintro e w2 ⟨rfl,hb⟩;replace HO:=hr (HO.out.step hb)
 clear hb S1;cases b1
 ·go_wp2_with fail;go_ret;exact ⟨rfl,HO.out.1⟩
 have HEnd : Hid (∀ z,edB X = z -> edB X = z):=fun _ h=>h
 have HHy0 : Hid (hyB X = (X[2]? == some 45 && X[3]? == some 45)):=rfl
 by_cases h4 : 4 <= m + 1
 case' neg =>
  have HH : Hid (hyB X = false):=by
   show _ = _;rw [HHy0.out,List.getElem?_eq_none (l:=X) (i:=3) (by have:=HX.out; omega)]
   simp
  have z4 : ¬ (4 : Int) <= ((m + 1 : Nat) : Int):=by omega
  clear h4 HHy0
 case' pos =>
  obtain ⟨y,hy2⟩ : ∃ y,X[2]? = some y:=⟨_,List.getElem?_eq_getElem (by have:=HX.out; omega)⟩
  obtain ⟨z,hz3⟩ : ∃ z,X[3]? = some z:=⟨_,List.getElem?_eq_getElem (by have:=HX.out; omega)⟩
  have c2:=HCe.out _ HO.out.1 2 y hy2
  have c3:=HCe.out _ HO.out.1 3 z hz3
  rw [hy2,hz3] at HHy0;clear hy2 hz3;have z4 : (4 : Int) <= ((m + 1 : Nat) : Int):=by omega
  by_cases hy : y = 45
  case' neg =>
   have HH : Hid (hyB X = false):=by show _ = _;rw [HHy0.out];simp [hy]
   have q2 : (y == 45) = false:=beq_eq_false_iff_ne.2 hy
   clear h4 hy HHy0
  case' pos =>
   subst hy;by_cases hz : z = 45
   case pos =>
    subst hz;have HE : Hid (hyB X = true):=HHy0.out
    clear h4;go_wp2_with fail;go_ret;refine ⟨?_,HO.out.1⟩
    rw [HE.out]; rfl
   have HH : Hid (hyB X = false):=by show _ = _;rw [HHy0.out];simpa using hz
   have q3 : (z == 45) = false:=beq_eq_false_iff_ne.2 hz
   clear h4 hz HHy0
 all_goals
  have g0:=HG0.out _ HO.out.1
  have gl:=HCe.out _ HO.out.1 m yl HYl.out
  by_cases hx45 : x = 45
  ·subst hx45;have HE : Hid (edB X = true):=HEd.out
   go_wp2_with fail;go_ret;refine ⟨?_,HO.out.1⟩
   rw [HH.out,HE.out]; rfl
  have qx : (x == 45) = false:=beq_eq_false_iff_ne.2 hx45
  by_cases hy45 : yl = 45
  ·subst hy45;have HE : Hid (edB X = true):=by show _ = _; rw [HEd.out,qx]; rfl
   clear hx45;go_wp2_with fail;go_ret;refine ⟨?_,HO.out.1⟩
   rw [HH.out,HE.out]; rfl
  have qy : (yl == 45) = false:=beq_eq_false_iff_ne.2 hy45
  have HE : Hid (edB X = false):=by show _ = _; rw [HEd.out,qx,qy]; rfl
  clear hx45 hy45 HEd;go_wp2_with fail;refine (HQ.out.mark _ HO.out.1).mono ?_;rintro e w3 ⟨rfl,hb⟩;replace HO:=hr (HO.out.step hb);clear hb g0 gl qx qy;try clear c2 c3
  try clear q2
  try clear q3
  clear z4;by_cases h5 : k4 = 5
  ·subst h5;go_wp2_with fail;go_ret;refine ⟨?_,HO.out.1⟩
   rw [HH.out,HE.out]; rfl
  by_cases h6 : k4 = 6
  ·subst h6;go_wp2_with fail;go_ret;refine ⟨?_,HO.out.1⟩
   rw [HH.out,HE.out]; rfl
  have q5 : (k4 == 5) = false:=beq_eq_false_iff_ne.2 h5
  have q6 : (k4 == 6) = false:=beq_eq_false_iff_ne.2 h6
  have HK : Hid ((k4 == 5 || k4 == 6) = false):=by show _ = _; rw [q5,q6]; rfl
  clear h5 h6;go_wp2_with fail;clear q5 q6;go_loopg [7,8] (m + 1) (fun gg vp vi wr=>∃ (k : Nat) (pb : Bool),vi = .int .i64 k ∧ vp = .bool pb ∧ k <= m + 1 ∧ gg = m + 1 - k ∧ Hid (pb = !(X.take k).any geB ∧ (∀ j (h : j < X.length),j < k -> ¬ 4 <= De.ofP X[j]) ∧ Ok w.heap.size w wr))
  case atStart=>exact ⟨0,true,rfl,rfl,Nat.zero_le _,rfl,by simp,fun j _ h=>by omega,HO.out⟩
  case round =>
   obtain ⟨k,pb,rfl,rfl,hk,hg,H⟩:=hrel
   have HGg:=hr hg
   clear hg HO;by_cases hlt : k < m + 1
   ·have hlx : k < X.length:=by have:=HX.out; omega
    have HY : Hid (X[k]? = some X[k]):=List.getElem?_eq_getElem hlx
    have c1:=HCe.out _ H.out.2.2.1 k X[k] HY.out
    have HV:=hr (HQ.out.st wr X[k] (HI.out _ (List.getElem_mem hlx)));have HGe:=hr (ge_snoc X k hlx);have HJ : Hid (¬ 4 <= De.ofP X[k] -> ∀ j (h : j < X.length),j < k + 1 -> ¬ 4 <= De.ofP X[j]):=fun h4 j hj h=>by
     by_cases e : j = k
     ·subst e; exact h4
     ·exact H.out.2.1 j hj (by omega)
    have HT : Hid (4 <= De.ofP X[k] -> decide (0 <= De.frP 0 X) = true):=fun h4=>HFr.out true ⟨fun _=>⟨X[k],List.getElem_mem hlx,h4⟩,fun _=>rfl⟩
    have z3 : (k : Int) < ((m + 1 : Nat) : Int):=by omega
    generalize X[k] = y at *;by_cases h4 : 4 <= De.ofP y
    ·have HT2:=hr (HT.out h4);generalize De.ofP y = o at *;go_wp2_with fail;refine HV.out.mono ?_;rintro e w4 ⟨rfl,hb⟩;have HO4:=hr (H.out.2.2.step hb);clear hb HV
     go_wp2_with fail;try rw [Exit.noGoto_ret]
     go_ret;refine ⟨?_,HO4.out.1⟩
     rw [HH.out,HE.out,HK.out,HT2.out]; rfl
    ·have HJ2:=hr (HJ.out h4);have hnl : ¬ (4 : Int) <= De.ofP y:=h4
     clear HJ HT h4;generalize De.ofP y = o at *;go_wp2_with fail;refine HV.out.mono ?_;rintro e w4 ⟨rfl,hb⟩;have HO4:=hr (H.out.2.2.step hb);have c2:=HCe.out _ HO4.out.1 k y HY.out
     clear hb HV;cases pb
     ·have HA : Hid ((X.take k).any geB = true):=by
       show _ = _;simpa using H.out.1.symm
      clear c1 c2;go_wp2_with fail;go_roundg (m + 1 - (k + 1))
      case measure=>rw [HGg.out]; omega
      case rel=>exact ⟨k + 1,false,by go_num,rfl,by omega,rfl,by rw [HGe.out,HA.out]; rfl,HJ2.out,HO4.out⟩
     ·have HA : Hid ((X.take k).any geB = false):=by
       show _ = _;simpa using H.out.1.symm
      by_cases hy8 : y < 128
      ·have HG8 : Hid (geB y = false):=decide_eq_false (by omega)
       have zy : y < 128:=hy8
       clear c1;go_wp2_with fail;go_roundg (m + 1 - (k + 1))
       case measure=>rw [HGg.out]; omega
       case rel=>exact ⟨k + 1,true,by go_num,rfl,by omega,rfl,by rw [HGe.out,HA.out,HG8.out]; rfl,HJ2.out,HO4.out⟩
      ·have HG8 : Hid (geB y = true):=decide_eq_true (by omega)
       have zy : ¬ y < 128:=hy8
       clear c1;go_wp2_with fail;go_roundg (m + 1 - (k + 1))
       case measure=>rw [HGg.out]; omega
       case rel=>exact ⟨k + 1,false,by go_num,by rw [decide_eq_false (show ¬ y < 128 by omega)],by omega,rfl,by rw [HGe.out,HA.out,HG8.out]; rfl,HJ2.out,HO4.out⟩
   ·have z3 : ¬ (k : Int) < ((m + 1 : Nat) : Int):=by omega
    have HPl : Hid (X.any geB = !pb):=by
     have e : X.take k = X:=List.take_of_length_le (by have:=HX.out; omega)
     show _ = _;rw [H.out.1,e]; simp
    have HFf : Hid (decide (0 <= De.frP 0 X) = false):=HFr.out false ⟨fun h=>(by cases h),fun ⟨y,hy,h4⟩=>by
     obtain ⟨j,hj,rfl⟩:=List.mem_iff_getElem.1 hy
     exact absurd h4 (H.out.2.1 j hj (by have:=HX.out; omega))⟩
    have HO5:=hr H.out.2.2
    clear H HGg hlt;go_wp2_with fail;refine (HQ.out.ru _ HO5.out.1).mono ?_;rintro e w5 ⟨rfl,hb⟩;replace HO5:=hr (HO5.out.step hb);clear hb;by_cases h7 : 0 <= z6
    ·have HZ : Hid (decide (0 <= z6) = true):=decide_eq_true h7
     go_wp2_with fail;try rw [Exit.noGoto_ret]
     go_ret;refine ⟨?_,HO5.out.1⟩
     rw [HH.out,HE.out,HK.out,HFf.out,HZ.out]; rfl
    have HZ : Hid (decide (0 <= z6) = false):=decide_eq_false h7
    cases q
    case false =>
     cases pb
     ·go_wp2_with fail;try rw [Exit.noGoto_ret]
      go_ret;refine ⟨?_,HO5.out.1⟩
      rw [HH.out,HE.out,HK.out,HFf.out,HZ.out,HPl.out]; rfl
     ·go_wp2_with fail;try rw [Exit.noGoto_ret]
      go_ret;refine ⟨?_,HO5.out.1⟩
      rw [HH.out,HE.out,HK.out,HFf.out,HZ.out,HPl.out]; rfl
    go_wp2_with fail;refine (HQ.out.bi _ HO5.out.1).mono ?_;rintro e w6 ⟨rfl,hb⟩;replace HO5:=hr (HO5.out.step hb);clear hb;by_cases h8 : k7 = 0
    ·subst h8;cases pb
     ·go_wp2_with fail;try rw [Exit.noGoto_ret]
      go_ret;refine ⟨?_,HO5.out.1⟩
      rw [HH.out,HE.out,HK.out,HFf.out,HZ.out,HPl.out]; rfl
     ·go_wp2_with fail;try rw [Exit.noGoto_ret]
      go_ret;refine ⟨?_,HO5.out.1⟩
      rw [HH.out,HE.out,HK.out,HFf.out,HZ.out,HPl.out]; rfl
    ·have q8 : (k7 != 0) = true:=by simpa using h8
     have HB : Hid ((true && !(k7 == 0)) = true):=by show _ = _; simpa using h8
     clear h8;go_wp2_with fail;try rw [Exit.noGoto_ret]
     go_ret;refine ⟨?_,HO5.out.1⟩
     rw [HH.out,HE.out,HK.out,HFf.out,HZ.out,HB.out]; rfl
theorem rfault_any {w : World} {v : Value} {X : List Int} (hS : Sl .i64 w v X) (hs : X = [] ∨ isSome v) (hI : ∀ x ∈ X,I32 x) (hn : X.length <= 10000) (q : Bool) :
 Calls Tryz.prog 18 #[v,.bool q] w fun e w'=>e = .returned (.int .i64 (faP X q)) ∧ Below w.heap.size w w':=by
 obtain ⟨ao,cap,rfl,hP⟩:=hS
 cases X with
 | nil =>
  have HE : Hid (faP [] q = 1):=rfl
  rw [List.length_nil];clear hP hI hn hs;go_enter Tryz.func18,Tryz.ntmps18
  go_wp2_with fail;go_ret;exact ⟨ret_int HE.out.symm,Below.refl _ _⟩
 | cons x xs =>
  rw [fa_cons];obtain ⟨gb,off,rfl,hgb,gc⟩:=hP.at_ 0 (by simp)
  exact rfault_one (rq_of rfl hP hI hn) rfl hP hI rfl (by simp) hn q
end La
end Go.Proofs.YtkhipgcgcbhjoaaGreat
namespace Go.Proofs.YtkhipgcgcbhjoaaGreat
namespace La
open Go.RowKit Od Pr Nf Pu
theorem low_fix {s : ByteArray} (h : ∀ x ∈ bsI s,x < 65 ∨ 90 < x) : Oc.lowS s = s:=by
 have e : s.data.toList.map Oc.lowU = s.data.toList:=by
  conv=>rhs; rw [<- List.map_id s.data.toList]
  refine List.map_congr_left (fun c hc=>?_)
  refine Oc.lowU_no c ?_
  have:=h (c.toNat : Int) (by unfold bsI; exact List.mem_map.2 ⟨c,hc,rfl⟩)
  unfold Oc.upB;exact decide_eq_false (by omega)
 unfold Oc.lowS;rw [e]
theorem fa_fine {X : List Int} {q : Bool} (h : faP X q = 0) : X ≠ [] ∧ nfcP clsP X = X ∧ hyB X = false ∧ edB X = false ∧ mkR (X.headD 0) = false ∧ (∀ x ∈ X,¬ 4 <= De.ofP x) ∧ ¬ 0 <= Ru.frM X X.length 0 ∧ (q = true -> Bi.brP X = 0) ∧ X.any geB = true:=by
 cases X with
 | nil=>exact absurd (show (1 : Int) = 0 from h) (by decide)
 | cons x xs =>
  rw [fa_cons] at h;unfold faB at h;split at h
  ·cases h
  ·rename_i h1
   split at h
   ·cases h
   ·rename_i h2
    split at h
    ·cases h
    ·rename_i h3
     split at h
     ·cases h
     ·rename_i h4
      split at h
      ·cases h
      ·rename_i h5
       split at h
       ·cases h
       ·rename_i h6
        split at h
        ·cases h
        ·rename_i h7
         split at h
         ·rename_i h8
          refine ⟨by simp,by simpa using h1,by simpa using h2,by simpa using h3,by simpa using h4,fun y hy h9=>?_,by simpa using h6,fun hq=>?_,h8⟩
          ·have:=(fr_iff (x :: xs) 0).2 ⟨y,hy,h9⟩
           simp at h5
           omega
          ·subst hq;simpa using h7
         ·cases h
theorem up_of : (List.range 26).all (fun i=>decide (4 <= De.ofP (65 + (i : Int)))) = true:=by kernel_rfl
theorem fine_low {X : List Int} {q : Bool} (h : faP X q = 0) : ∀ x ∈ X,x < 65 ∨ 90 < x:=fun x hx=>by
 have h6:=(fa_fine h).2.2.2.2.2.1 x hx
 rcases Int.lt_or_le x 65 with h1 | h1
 ·exact .inl h1
 ·rcases Int.lt_or_le 90 x with h2 | h2
  ·exact .inr h2
  ·exfalso
   have:=List.all_eq_true.1 up_of (x - 65).toNat (List.mem_range.2 (by omega))
   rw [show (65 : Int) + (((x - 65).toNat : Nat) : Int) = x by omega,decide_eq_true_eq] at this
   exact h6 this
theorem toF_zero {X : List Int} {q : Bool} (h : toF X q = 0) : faP X q = 0 ∧ X.any byB = false ∧ (enS X).size <= 63 ∧ toS X q = enS X:=by
 have h':=h
 unfold toF at h';split at h'
 ·rename_i h0
  split at h'
  ·cases h'
  ·rename_i h1
   split at h'
   ·cases h'
   ·exact ⟨h0,by simpa using h1,by omega,if_pos h⟩
 ·rename_i h0
  exact absurd h' h0
theorem toF_fine {X : List Int} {q : Bool} (h1 : faP X q = 0) (h2 : ∀ z ∈ X,0 <= z ∧ z <= 1114111) (h3 : (enS X).size <= 63) : toF X q = 0:=by unfold toF;rw [if_pos h1,any_byB h2,if_neg (by decide),if_neg (by omega)]
theorem bsI_app (a b : ByteArray) : bsI (a ++ b) = bsI a ++ bsI b:=by unfold bsI;rw [<- List.map_append];simp
theorem bsI_enS {X : List Int} (hl : X.length <= 127) (hz : ∀ z ∈ X,0 <= z ∧ z <= 1114111) : bsI (enS X) = [120,110,45,45] ++ encP X:=by
 unfold enS;rw [bsI_app,bsI_byt (encP X) (fun x hx=>by have:=enc_mem hl hz x hx; omega)]
 rfl
theorem enS_low {X : List Int} {q : Bool} (h : faP X q = 0) (hl : X.length <= 127) (hz : ∀ z ∈ X,0 <= z ∧ z <= 1114111) : Oc.lowS (enS X) = enS X:=by
 refine low_fix (fun x hx=>?_)
 rw [bsI_enS hl hz] at hx;rcases List.mem_append.1 hx with hx | hx
 ·simp only [List.mem_cons,List.not_mem_nil,or_false] at hx
  omega
 ·rw [enc_shape] at hx;rcases List.mem_append.1 hx with hx | hx
  ·split at hx
   ·simp at hx
   ·rcases List.mem_append.1 hx with hx | hx
    ·unfold lowL at hx;exact fine_low h x (List.mem_filter.1 hx).1
    ·simp at hx; omega
  ·have:=del_low hl _ _ (ES.start_ok X hz) x hx; omega
theorem cut_ext (a b : ByteArray) (n : Nat) (h : n = a.size) : (a ++ b).extract 0 n = a:=by
 apply ByteArray.ext
 subst h;simp [ByteArray.data_extract]
theorem enS_deP {X : List Int} (hs : Sm X) (hz : ∀ z ∈ X,0 <= z ∧ z <= 1114111) : deP (enS X) = some X:=by
 have hl:=hs.le
 have hc : cdS (enS X) = true:=by unfold cdS;rw [enS_size,decide_eq_true (by omega)];unfold enS;rw [cut_ext xn _ 4 rfl,low_xn];rfl
 unfold deP;rw [if_pos hc,bsI_enS (by omega) hz,show List.drop 4 (([120,110,45,45] : List Int) ++ encP X) = encP X from rfl]
 unfold dcP;rw [(enc_dec' hs hz (hy_hyI _)).1]
theorem from_to {X : List Int} {q : Bool} (h : toF X q = 0) (hs : Sm X) : frR (Oc.lowS (toS X q)) q = (0,X):=by
 obtain ⟨h0,h1,h2,h3⟩:=toF_zero h
 have hz:=any_no h1
 rw [h3,enS_low h0 (by have:=hs.le; omega) hz]
 unfold frR;rw [enS_deP hs hz];simp only
 rw [if_neg (by omega),if_pos h0,if_pos trivial]
theorem to_fr {t : ByteArray} {q : Bool} {l : List Int} (h : frR t q = (0,l)) : toF l q = 0 ∧ toS l q = t ∧ faP l q = 0:=by
 unfold frR at h;cases hd : deP t with
 | none=>rw [hd] at h; simp at h
 | some x =>
  rw [hd] at h;simp only at h
  split at h
  ·simp at h
  ·rename_i h63
   split at h
   ·rename_i hf
    split at h
    ·rename_i he
     injection h with _ h;subst h;have ht:=toF_fine hf (deP_range hd).1 (by rw [he]; omega)
     exact ⟨ht,by rw [(toF_zero ht).2.2.2,he],hf⟩
    ·simp at h
   ·rename_i hf
    injection h with h _;exact absurd h hf
end La
end Go.Proofs.YtkhipgcgcbhjoaaGreat
namespace Go.Proofs.YtkhipgcgcbhjoaaGreat
namespace La
open Go.RowKit Od Pu
theorem fo_ref : (List.range 256).all (fun n=>(foB (n : Int) == ((n : Int) != 45 && Oc.clsI (n : Int) % 4 == 0)) && decide (0 <= Oc.clsI (n : Int)) && decide (Oc.clsI (n : Int) <= 100000)) = true:=by decide +kernel
theorem fo_cls (c : UInt8) : foB (c.toNat : Int) = ((c.toNat : Int) != 45 && Oc.clsI (c.toNat : Int) % 4 == 0) ∧ 0 <= Oc.clsI (c.toNat : Int) ∧ Oc.clsI (c.toNat : Int) <= 100000:=by
 have h:=List.all_eq_true.1 fo_ref c.toNat (List.mem_range.2 c.toNat_lt)
 rw [Bool.and_eq_true,Bool.and_eq_true,beq_iff_eq,decide_eq_true_eq,decide_eq_true_eq] at h;exact ⟨h.1.1,h.1.2,h.2⟩
theorem bsI_at (s : ByteArray) (k : Nat) (h : k < s.size) : (bsI s)[k]? = some (s[k].toNat : Int):=by
 have hb:=bsI_drop s k h
 have : ((bsI s).drop k)[0]? = some (s[k].toNat : Int):=by rw [hb]; rfl
 rwa [List.getElem?_drop,Nat.add_zero] at this
theorem rold_any (s : ByteArray) (hs : s.size <= 100000) (w : World) : Calls Tryz.prog 21 #[.string s] w fun e w'=>e = .returned (.int .i64 (oldP (bsI s))) ∧ Below w.heap.size w w':=by
 have HBl:=hr4 (bsI_len s);rcases Nat.eq_zero_or_pos s.size with h0 | h0
 ·have he : s = ⟨#[]⟩:=ByteArray.ext (Array.eq_empty_of_size_eq_zero h0)
  subst he;have HE : Hid (oldP (bsI ⟨#[]⟩) = 1):=rfl
  clear HBl h0 hs;go_enter Tryz.func21,Tryz.ntmps21
  go_wp2_with fail;go_ret;exact ⟨ret_int HE.out.symm,Below.refl _ _⟩
 obtain ⟨m,hm⟩ : ∃ m,s.size = m + 1:=⟨s.size - 1,by omega⟩
 have hne : ¬ bsI s = []:=fun e=>by have:=HBl.out; rw [e] at this; simp at this; omega
 have hne1 : ¬ s = ⟨#[]⟩:=fun e=>by rw [e] at h0; exact absurd h0 (by decide)
 have hne2 : ¬ s.toList = []:=fun e=>by
  rw [ByteArray.toList_eq] at e;have:=len_size s
  rw [e] at this;simp at this
  omega
 have HE0 : Hid (oldP (bsI s) = if (bsI s).any foB = true then 11 else if edB (bsI s) = true then 4 else if hyB (bsI s) = true then 3 else if 63 < s.size then 10 else 0):=by show _ = _;unfold oldP;rw [if_neg hne,HBl.out]
 clear hne;have hb1 : s.toList.isEmpty = false:=by
  cases h : s.toList with
  | nil=>exact absurd h hne2
  | cons x xs=>rfl
 have HAt:=hr4 (bsI_at s);clear hne1 hne2;go_enter Tryz.func21,Tryz.ntmps21
 go_wp2_with fail;go_loop [3] (fun vi=>∃ k : Nat,k <= s.size ∧ vi = .int .i64 k ∧ Hid (∀ j (hj : j < (bsI s).length),j < k -> foB (bsI s)[j] = false)) (fun vi=>s.size - (intOf vi).toNat)
 case atStart=>exact ⟨0,Nat.zero_le _,rfl,fun j _ h=>by omega⟩
 case round =>
  obtain ⟨k,hk,rfl,H⟩:=hrel
  by_cases hlt : k < s.size
  ·have z1 : (k : Int) < (s.size : Int):=by omega
   have HX : Hid ((bsI s)[k]? = some (s[k].toNat : Int)):=HAt.out k hlt
   obtain ⟨HF,hc0,hc1⟩:=fo_cls s[k]
   have HFo:=hr4 HF
   have HR:=hr4 (Oc.rcls_any (s[k].toNat : Int) w (by omega) (byte_le _));clear HF;generalize Oc.clsI (s[k].toNat : Int) = cl at *;by_cases h4 : cl % 4 = 0
   ·by_cases h45 : (s[k].toNat : Int) = 45
    ·have HN : Hid (∀ j (hj : j < (bsI s).length),j < k + 1 -> foB (bsI s)[j] = false):=fun j hj h=>by
      by_cases e : j = k
      ·subst e;have:=HX.out
       rw [List.getElem?_eq_getElem hj] at this;rw [Option.some.inj this,HFo.out,h45]; rfl
      ·exact H.out j hj (by omega)
     rw [h45] at HR;go_wp2_with fail;refine HR.out.mono ?_;rintro e w1 ⟨rfl,rfl⟩;go_wp2_with fail;go_round
     case rel=>exact ⟨k + 1,hlt,by go_num,HN⟩
     case measure=>(simp [intOf]) <;> omega
    ·have q1 : ((s[k].toNat : Int) != 45) = true:=by simpa using h45
     have HT : Hid ((bsI s).any foB = true):=by
      obtain ⟨hj,e⟩:=List.getElem?_eq_some_iff.1 HX.out
      refine List.any_eq_true.2 ⟨(bsI s)[k],List.getElem_mem hj,?_⟩
      rw [e,HFo.out,q1,beq_iff_eq.2 h4]; rfl
     have HE : Hid (oldP (bsI s) = 11):=by show _ = _; rw [HE0.out,if_pos HT.out]
     go_wp2_with fail;refine HR.out.mono ?_;rintro e w1 ⟨rfl,rfl⟩;go_wp2_with fail;try rw [Exit.noGoto_ret]
     go_ret;exact ⟨ret_int HE.out.symm,Below.refl _ _⟩
   ·have q4 : (cl % 4 == 0) = false:=beq_eq_false_iff_ne.2 h4
    have HN : Hid (∀ j (hj : j < (bsI s).length),j < k + 1 -> foB (bsI s)[j] = false):=fun j hj h=>by
     by_cases e : j = k
     ·subst e;have:=HX.out
      rw [List.getElem?_eq_getElem hj] at this;rw [Option.some.inj this,HFo.out,q4,Bool.and_false]
     ·exact H.out j hj (by omega)
    go_wp2_with fail;refine HR.out.mono ?_;rintro e w1 ⟨rfl,rfl⟩;go_wp2_with fail;go_round
    case rel=>exact ⟨k + 1,hlt,by go_num,HN⟩
    case measure=>(simp [intOf]) <;> omega
  ·have z1 : ¬ (k : Int) < (s.size : Int):=by omega
   have HT : Hid ((bsI s).any foB = false):=by
    show _ = _;rw [List.any_eq_false];intro x hx
    obtain ⟨j,hj,rfl⟩:=List.mem_iff_getElem.1 hx
    rw [H.out j hj (by have:=HBl.out; omega)]; decide
   have HE1 : Hid (oldP (bsI s) = if edB (bsI s) = true then 4 else if hyB (bsI s) = true then 3 else if 63 < s.size then 10 else 0):=by show _ = _;rw [HE0.out,HT.out,if_neg (by decide)]
   have hm1 : m < s.size:=by omega
   have HA0:=HAt.out 0 h0
   have HAm:=HAt.out m hm1
   have HEd : Hid (edB (bsI s) = ((s[0].toNat : Int) == 45 || (s[m].toNat : Int) == 45)):=by show _ = _;unfold edB;rw [HBl.out,hm,Nat.add_sub_cancel,HA0,HAm];simp
   clear HA0 HAm HE0 H;have hmi : (s.size : Int) - 1 = (m : Int):=by omega
   by_cases ha : (s[0].toNat : Int) = 45
   ·have HE : Hid (oldP (bsI s) = 4):=by show _ = _; rw [HE1.out,HEd.out,ha]; rfl
    go_wp2_with fail;try rw [Exit.noGoto_ret]
    go_ret;exact ⟨ret_int HE.out.symm,Below.refl _ _⟩
   have qa : ((s[0].toNat : Int) == 45) = false:=beq_eq_false_iff_ne.2 ha
   by_cases hb : (s[m].toNat : Int) = 45
   ·have HE : Hid (oldP (bsI s) = 4):=by show _ = _; rw [HE1.out,HEd.out,hb,qa]; rfl
    go_wp2_with fail;try rw [Exit.noGoto_ret]
    go_ret;exact ⟨ret_int HE.out.symm,Below.refl _ _⟩
   have qb : ((s[m].toNat : Int) == 45) = false:=beq_eq_false_iff_ne.2 hb
   have HE2 : Hid (oldP (bsI s) = if hyB (bsI s) = true then 3 else if 63 < s.size then 10 else 0):=by show _ = _;rw [HE1.out,HEd.out,qa,qb]; rfl
   clear HE1 HEd;by_cases h4 : 4 <= s.size
   ·have h2 : 2 < s.size:=by omega
    have h3 : 3 < s.size:=by omega
    have z4 : (4 : Int) <= (s.size : Int):=by omega
    have HHy : Hid (hyB (bsI s) = ((s[2].toNat : Int) == 45 && (s[3].toNat : Int) == 45)):=by show _ = _;unfold hyB;rw [HAt.out 2 h2,HAt.out 3 h3];simp
    by_cases hc : (s[2].toNat : Int) = 45
    ·by_cases hd : (s[3].toNat : Int) = 45
     ·have HE : Hid (oldP (bsI s) = 3):=by show _ = _; rw [HE2.out,HHy.out,hc,hd]; rfl
      go_wp2_with fail;try rw [Exit.noGoto_ret]
      go_ret;exact ⟨ret_int HE.out.symm,Below.refl _ _⟩
     ·have qd : ((s[3].toNat : Int) == 45) = false:=beq_eq_false_iff_ne.2 hd
      have HF : Hid (hyB (bsI s) = false):=by show _ = _; rw [HHy.out,qd,Bool.and_false]
      by_cases h63 : 63 < s.size
      ·have HE : Hid (oldP (bsI s) = 10):=by show _ = _; rw [HE2.out,HF.out,if_neg (by decide),if_pos h63]
       have z6 : (63 : Int) < (s.size : Int):=by omega
       go_wp2_with fail;try rw [Exit.noGoto_ret]
       go_ret;exact ⟨ret_int HE.out.symm,Below.refl _ _⟩
      ·have HE : Hid (oldP (bsI s) = 0):=by show _ = _; rw [HE2.out,HF.out,if_neg (by decide),if_neg h63]
       have z6 : ¬ (63 : Int) < (s.size : Int):=by omega
       go_wp2_with fail;try rw [Exit.noGoto_ret]
       go_ret;exact ⟨ret_int HE.out.symm,Below.refl _ _⟩
    ·have qc : ((s[2].toNat : Int) == 45) = false:=beq_eq_false_iff_ne.2 hc
     have HF : Hid (hyB (bsI s) = false):=by show _ = _; rw [HHy.out,qc,Bool.false_and]
     by_cases h63 : 63 < s.size
     ·have HE : Hid (oldP (bsI s) = 10):=by show _ = _; rw [HE2.out,HF.out,if_neg (by decide),if_pos h63]
      have z6 : (63 : Int) < (s.size : Int):=by omega
      go_wp2_with fail;try rw [Exit.noGoto_ret]
      go_ret;exact ⟨ret_int HE.out.symm,Below.refl _ _⟩
     ·have HE : Hid (oldP (bsI s) = 0):=by show _ = _; rw [HE2.out,HF.out,if_neg (by decide),if_neg h63]
      have z6 : ¬ (63 : Int) < (s.size : Int):=by omega
      go_wp2_with fail;try rw [Exit.noGoto_ret]
      go_ret;exact ⟨ret_int HE.out.symm,Below.refl _ _⟩
   ·have z4 : ¬ (4 : Int) <= (s.size : Int):=by omega
    have HF : Hid (hyB (bsI s) = false):=by
     show _ = _;unfold hyB;have e : (bsI s)[3]? = none:=List.getElem?_eq_none (by have:=HBl.out; omega)
     rw [e];exact Bool.and_false _
    have h63 : ¬ 63 < s.size:=by omega
    have HE : Hid (oldP (bsI s) = 0):=by show _ = _; rw [HE2.out,HF.out,if_neg (by decide),if_neg h63]
    have z6 : ¬ (63 : Int) < (s.size : Int):=by omega
    go_wp2_with fail;try rw [Exit.noGoto_ret]
    go_ret;exact ⟨ret_int HE.out.symm,Below.refl _ _⟩
end La
end Go.Proofs.YtkhipgcgcbhjoaaGreat
namespace Go.Proofs.YtkhipgcgcbhjoaaGreat
namespace La
open Go.RowKit Od Nf Pu
theorem rcoded_any (s : ByteArray) (hs : s.size <= 1000000) (w : World) : Calls Tryz.prog 23 #[.string s] w fun e w'=>e = .returned (.bool (cdS s)) ∧ Below w.heap.size w w':=by
 by_cases h : 4 <= s.size
 ·have HE : Hid (cdS s = ((Oc.lowS (s.extract 0 4)).toList == [120,110,45,45])):=by
   show _ = _;unfold cdS;rw [decide_eq_true h,Bool.true_and,<- eqS_dec];unfold eqS;rw [ByteArray.toList_eq xn]; rfl
  have z4 : (3 : Int) < s.size:=by omega
  have HSm:=hr (fun W=>Oc.rlower_any (s.extract 0 4) W (by rw [ByteArray.size_extract]; omega))
  clear h;generalize Oc.lowS (s.extract 0 4) = t at *;go_enter Tryz.func23,Tryz.ntmps23
  go_wp2_with fail;refine (HSm.out _).mono ?_;rintro e w1 ⟨rfl,hb⟩;go_wp2_with fail;go_ret;exact ⟨ret_bool HE.out.symm,hb⟩
 ·have HE : Hid (cdS s = false):=by
   show _ = _;unfold cdS;rw [decide_eq_false h]; rfl
  have z4 : ¬ (3 : Int) < s.size:=by omega
  clear h;go_enter Tryz.func23,Tryz.ntmps23
  go_wp2_with fail;go_ret;exact ⟨ret_bool HE.out.symm,Below.refl _ _⟩
theorem rtoold_any {w : World} {v : Value} {X : List Int} (hS : Sl .i64 w v X) (hs : X = [] ∨ isSome v) (hI : ∀ x ∈ X,Pr.I32 x) (hn : X.length <= 100) (q : Bool) :
 Calls Tryz.prog 25 #[v,.bool q] w fun e w'=>e = .returned (.tuple #[.string (toS X q),.int .i64 (toF X q)]) ∧ Below w.heap.size w w':=by
 have HF:=hr (rfault_any hS hs hI (by omega) q);have HO:=hr (Ok.start w);by_cases h0 : faP X q = 0
 ·have hne : X ≠ []:=fun e=>by rw [e] at h0; exact absurd (show (1 : Int) = 0 from h0) (by decide)
  have hsn : ∀ W,Below w.heap.size w W -> Sn .i64 W v X:=fun W h=>(hS.step h).sn (hs.resolve_left hne)
  rw [h0] at HF;by_cases hb : X.any byB = true
  ·have HE:=hr (fun (W : World) (h : Below w.heap.size w W)=>renc_bad (hsn W h) hn hb)
   have HT : Hid (toF X q = 12):=by show _ = _; unfold toF; rw [if_pos h0,if_pos hb]
   have HT2 : Hid (toS X q = ⟨#[]⟩):=toS_no (by rw [HT.out]; decide)
   clear hb h0 hS hI hsn hs;go_enter Tryz.func25,Tryz.ntmps25
   go_wp2_with fail;refine HF.out.mono ?_;rintro e w1 ⟨rfl,hb⟩;replace HO:=hr (HO.out.step hb);clear hb HF;go_wp2_with fail;refine (HE.out _ HO.out.1).mono ?_
   rintro e w2 ⟨rfl,hb⟩;replace HO:=hr (HO.out.step hb);clear hb HE;go_wp2_with fail;go_ret2;refine ⟨?_,HO.out.1⟩
   rw [HT.out,HT2.out]; rfl
  ·have hz:=any_no (Bool.eq_false_iff.2 hb)
   have HE:=hr (fun (W : World) (h : Below w.heap.size w W)=>renc_ok (hsn W h) hn hz)
   have HT : Hid (toF X q = if 59 < (byt (encP X)).size then 10 else 0):=by
    show _ = _;unfold toF;rw [if_pos h0,if_neg hb,enS_size,byt_size];by_cases h : 59 < (encP X).length
    ·rw [if_pos h,if_pos (by omega)]
    ·rw [if_neg h,if_neg (by omega)]
   have HT2 : Hid (toS X q = if toF X q = 0 then ⟨#[120,110,45,45]⟩ ++ byt (encP X) else ⟨#[]⟩):=rfl
   clear hb h0 hS hI hz hsn hs;generalize byt (encP X) = t at *;by_cases h63 : 59 < t.size
   ·rw [if_pos h63] at HT;rw [HT.out,if_neg (by decide)] at HT2;have z1 : (59 : Int) < t.size:=by omega
    clear h63;go_enter Tryz.func25,Tryz.ntmps25
    go_wp2_with fail;refine HF.out.mono ?_;rintro e w1 ⟨rfl,hb⟩;replace HO:=hr (HO.out.step hb);clear hb HF;go_wp2_with fail;refine (HE.out _ HO.out.1).mono ?_
    rintro e w2 ⟨rfl,hb⟩;replace HO:=hr (HO.out.step hb);clear hb HE;go_wp2_with fail;go_ret2;refine ⟨?_,HO.out.1⟩
    rw [HT.out,HT2.out]; rfl
   ·rw [if_neg h63] at HT;rw [HT.out,if_pos rfl] at HT2;have z1 : ¬ (59 : Int) < t.size:=by omega
    clear h63;go_enter Tryz.func25,Tryz.ntmps25
    go_wp2_with fail;refine HF.out.mono ?_;rintro e w1 ⟨rfl,hb⟩;replace HO:=hr (HO.out.step hb);clear hb HF;go_wp2_with fail;refine (HE.out _ HO.out.1).mono ?_
    rintro e w2 ⟨rfl,hb⟩;replace HO:=hr (HO.out.step hb);clear hb HE;go_wp2_with fail;go_ret2;refine ⟨?_,HO.out.1⟩
    rw [HT.out,HT2.out]; rfl
 ·have HT : Hid (toF X q = faP X q):=if_neg h0
  have HT2 : Hid (toS X q = ⟨#[]⟩):=toS_no (by rw [HT.out]; exact h0)
  clear hS hI hs;generalize faP X q = k at *;have z1 : (k != 0) = true:=by simpa using h0
  clear h0;go_enter Tryz.func25,Tryz.ntmps25
  go_wp2_with fail;refine HF.out.mono ?_;rintro e w1 ⟨rfl,hb⟩;replace HO:=hr (HO.out.step hb);clear hb HF;go_wp2_with fail;go_ret2;refine ⟨?_,HO.out.1⟩
  rw [HT.out,HT2.out]; rfl
theorem to_from {t : ByteArray} {l : List Int} (h : deP t = some l) (ht : t.size <= 44) : (enS l).size <= t.size:=by
 obtain ⟨h1,h2,h3⟩:=deP_range h
 unfold deP at h;rw [if_pos h3] at h;revert h
 cases hd : dcP ((bsI t).drop 4) with
 | inl e=>intro h; cases h
 | inr x =>
  simp only
  intro h
  injection h with h;subst h;have:=(enc_short (hy_hyI _) (fun y hy=>bsI_bd t y (List.mem_of_mem_drop hy)) hd (by omega)).1
  rw [List.length_drop,bsI_len] at this;rw [enS_size];omega
theorem own_some' {k : IntKind} {w : World} {v : Value} {X : List Int} (h : Sl k w v X) (hX : X ≠ []) : isSome v:=by
 obtain ⟨ao,cap,rfl,hP⟩:=h
 cases X with
 | nil=>exact absurd rfl hX
 | cons x xs =>
  obtain ⟨b,off,rfl,_⟩:=hP.at_ 0 (by simp)
  trivial
theorem lowU_low (c : UInt8) : Oc.lowU (Oc.lowU c) = Oc.lowU c:=by
 cases hu : Oc.upB (c.toNat : Int) with
 | false=>rw [Oc.lowU_no c hu,Oc.lowU_no c hu]
 | true =>
  refine Oc.lowU_no _ ?_
  have:=Oc.lowU_up c hu
  unfold Oc.upB at hu ⊢
  rw [decide_eq_true_eq] at hu;exact decide_eq_false (by omega)
theorem low_list (s : ByteArray) : (Oc.lowS s).data.toList = s.data.toList.map Oc.lowU:=rfl
theorem low_low (s : ByteArray) : Oc.lowS (Oc.lowS s) = Oc.lowS s:=by
 refine ByteArray.ext (Array.toList_inj.1 ?_)
 rw [low_list,low_list,List.map_map];exact List.map_congr_left (fun c _=>lowU_low c)
theorem low_ext (s : ByteArray) (n : Nat) : (Oc.lowS s).extract 0 n = Oc.lowS (s.extract 0 n):=by
 refine ByteArray.ext (Array.toList_inj.1 ?_)
 rw [ext_list,low_list,low_list,ext_list,List.drop_zero,List.drop_zero,List.map_take]
theorem fr_ref {t : ByteArray} {q : Bool} (ht : t.size <= 44) : frR t q = match deP t with
 | none=>(12,[])
 | some l=>if 63 < t.size then (10,[]) else if toF l q = 0 then (if enS l = t then (0,l) else (13,[])) else (toF l q,[]):=by
 unfold frR;cases hd : deP t with
 | none=>rfl
 | some l =>
  simp only
  have h1:=to_from hd ht
  have h2:=any_byB (deP_range hd).1
  have e : toF l q = faP l q:=by
   unfold toF;split
   ·rename_i h0
    rw [h2,if_neg (by decide),if_neg (by omega),h0]
   ·rfl
  rw [e]
end La
end Go.Proofs.YtkhipgcgcbhjoaaGreat
