import Derived.Test.YtkhipgcgcbhjoaaGreatDn5
import Derived.Test.YtkhipgcgcbhjoaaGreatDn20
set_option maxRecDepth 100000
set_option maxHeartbeats 4000000
namespace Go.Proofs.YtkhipgcgcbhjoaaGreat
namespace Nf
open Go.RowKit Od Pr Ha
theorem hid {p : Prop} (h : p) : Hid p:=h
structure Fm (w : World) (f b p d u s : Nat) : Prop where
 blk : w.heap[f]? = some (.cells #[.pointer (some ⟨b,0,none⟩),.pointer (some ⟨p,0,none⟩)] 137)
 bk : Bk w b
 pw : PW w p d u s allP 395
theorem Fm.step {w w' : World} {f b p d u s : Nat} (h : Fm w f b p d u s) (hb : Below w.heap.size w w') : Fm w' f b p d u s :=
 ⟨(hb.block f (Array.getElem?_eq_some_iff.1 h.blk).1).trans h.blk,h.bk.step hb,h.pw.step hb⟩
theorem Fm.cells {w : World} {f b p d u s : Nat} (h : Fm w f b p d u s) : w.cell? ⟨f,0,none⟩ = some (.pointer (some ⟨b,0,none⟩)) ∧ w.cell? ⟨f,1,none⟩ = some (.pointer (some ⟨p,0,none⟩)):=by
 have:=h.blk
 simp [World.cell?,this]
theorem apF_len : ∀ (n : Nat) (r : Int),(apF n r).length <= 3 * 2 ^ n
 | 0,_=>by simp [apF]
 | n + 1,r=>by
  have h1:=apF_len n (dnP r).1
  have h2:=apF_len n (dnP r).2.1
  have h3 : 1 <= 2 ^ n:=Nat.one_le_two_pow
  simp only [apF,Nat.pow_succ]
  split
  ·unfold sylL;split <;> simp <;> omega
  ·split
   ·omega
   ·split
    ·rw [List.length_append]; omega
    ·simp; omega
theorem dn_I32 (r : Int) : I32 (dnP r).1 ∧ I32 (dnP r).2.1:=by
 obtain ⟨e1,e2,e3⟩:=dn_d r
 obtain ⟨h1,h2,_⟩:=d_bd r
 rw [<- e1,<- e2];exact ⟨h1,h2⟩
theorem apF_I32 : ∀ (n : Nat) (r : Int),I32 r -> ∀ y ∈ apF n r,I32 y
 | 0,r,h,y,hy=>by simp [apF] at hy; subst hy; exact h
 | n + 1,r,h,y,hy=>by
  simp only [apF] at hy
  split at hy
  ·rename_i hs
   have:=sylL_bd hs y hy
   exact ⟨by omega,by omega⟩
  ·split at hy
   ·exact apF_I32 n _ (dn_I32 r).1 y hy
   ·split at hy
    ·rcases List.mem_append.1 hy with hy | hy
     ·exact apF_I32 n _ (dn_I32 r).1 y hy
     ·exact apF_I32 n _ (dn_I32 r).2 y hy
    ·simp at hy; subst hy; exact h
theorem app_two {ops : Array Oper} {rest : List Oper} {o : Oper} {a : Act} {Q : Exit -> Act -> World -> Prop} (hgd : o.guard = none) (s x : Operand)
 (ho : o.op = .call { callee:=.builtin .append,args:=#[s,x],argTypes:=#[22,22] }) (W : World) (B n : Nat) (v : Value) (xs : List Value) (r q : Int) (hs : a.eval s = v) (N : Nat) (hN : W.heap.size = N) (hx : a.eval x = .slice (some ⟨N,0,none⟩) 2 2)
 (hown : W.ownsRow B 21 1 v n xs) (hn : n <= 1000000000) (hB : B <= W.heap.size)
 (h : ∀ v' w',w'.ownsRow B 21 1 v' (n + 2) (xs ++ [.int .i32 r,.int .i32 q]) -> Below B W w' -> wpList Tryz.prog ops Q rest (a.put o.dst v') w') :
 wpList Tryz.prog ops Q (o :: rest) a (W.alloc (.cells #[.int .i32 r,.int .i32 q] 21)):=by
 subst hN;obtain ⟨i0,hi,hz0,hz1,hz2⟩:=info_parts Od.Tryz.info_i32
 refine wpList_append_own_at _ hgd s x 22 ho B 21 i0 (.int .i32 0) 1 4 Tryz.underlying22 hi hz0 hz1 hz2 rfl (by decide) v n xs hs (hown.alloc _) ⟨W.heap.size,0,none⟩ 2 2 [.int .i32 r,.int .i32 q] hx rfl
  (World.news_of_block (heap_new W _)) (fun u hu=>by simp at hu; rcases hu with rfl | rfl <;> rfl) (by unfold maxLen; omega) (by omega) (by simp; omega) (fun v' w' h1 h2 _ _=>h v' w' h1 ?_)
 exact ((Below.refl _ _).alloc hB _).trans (Od.below_of_grown h2 B (by simp; omega) (fun k e=>(hown.lt k e).1))
def Ow (w0 w : World) (B : Nat) (v : Value) (xs : List Int) : Prop:=w.ownsRow B 21 1 v xs.length (ivs .i32 xs) ∧ Below w0.heap.size w0 w ∧ w0.heap.size <= B ∧ B <= w.heap.size
theorem Ow.put {w0 w w' : World} {B : Nat} {v v' : Value} {xs ys : List Int} (h : Ow w0 w B v xs) (h1 : w'.ownsRow B 21 1 v' (xs.length + ys.length) (ivs .i32 xs ++ ivs .i32 ys)) (h2 : Below B w w') : Ow w0 w' B v' (xs ++ ys):=by
 refine ⟨?_,h.2.1.trans (h2.mono h.2.2.1),h.2.2.1,Nat.le_trans h.2.2.2 h2.size⟩
 rw [List.length_append,show ivs .i32 (xs ++ ys) = ivs .i32 xs ++ ivs .i32 ys by simp [ivs]]
 exact h1
theorem Ow.step {w0 w w' : World} {B : Nat} {v : Value} {xs : List Int} (h : Ow w0 w B v xs) (hb : Below w.heap.size w w') : Ow w0 w' B v xs :=
 ⟨Uc.own_below h.1 hb,h.2.1.trans (hb.mono h.2.1.size),h.2.2.1,Nat.le_trans h.2.2.2 hb.size⟩
theorem apart_any {w0 : World} {f b p d u s : Nat} (hF : Fm w0 f b p d u s) : ∀ (n : Nat) (r : Int),okF n r = true -> I32 r -> ∀ (w : World) (B : Nat) (v : Value) (xs : List Int),Ow w0 w B v xs -> xs.length + 3 * 2 ^ n <= 1000000000 ->
 Calls Tryz.prog 155 #[.pointer (some ⟨f,0,none⟩),v,.int .i32 r] w fun e w'=>∃ v',e = .returned v' ∧ Ow w0 w' B v' (xs ++ apF n r) ∧ Below B w w'
 | 0,_,h,_,_,_,_,_,_,_=>by cases h
 | n + 1,r,hok,hr,w,B,v,xs,hO,hlen=>by
  have ih:=apart_any hF n
  have HF:=hid hF
  have HIH:=hid ih
  have HO:=hid hO
  have h2n : 1 <= 2 ^ n:=Nat.one_le_two_pow
  rw [Nat.pow_succ] at hlen;have hxl : xs.length <= 999999994:=by omega
  simp only [okF] at hok
  by_cases hs : sylB r = true
  ·obtain ⟨hs1,hs2⟩:=syl_bd hs
   have HE : Hid (apF (n + 1) r = sylL r):=by show _ = _; simp only [apF]; rw [if_pos hs]
   have HSp:=hid (fun w=>split_yes r w hs1 hs2)
   have HSL : Hid (sylL r = if talI r = 0 then [ledI r,vowI r] else [ledI r,vowI r,talI r]):=rfl
   clear ih hF hO hok hs hs1 hs2;generalize ledI r = a at *;generalize vowI r = c at *;generalize talI r = t at *;by_cases ht : t = 0
   ·have HS0 : Hid (sylL r = [a,c]):=by show _ = _; rw [HSL.out,if_pos ht]
    clear HSL;subst ht;go_enter Tryz.func155,Tryz.ntmps155
    go_wp2_with (first | (go_at_call 225; refine (HSp.out _).mono ?_; rintro e w1 ⟨rfl,rfl⟩) | (at_builtin; refine app_two rfl (.tmp 22) (.tmp 25) rfl w1 B xs.length v (ivs .i32 xs) a c rfl w1.heap.size rfl rfl HO.out.1 (by omega) HO.out.2.2.2 (fun v' w' h1 h2=>?_)))
    go_ret;have hP:=HO.out.put (ys:=[a,c]) h1 h2
    exact ⟨_,rfl,by rw [HE.out,HS0.out]; exact hP,h2⟩
   ·have htz : (t != 0) = true:=by simpa using ht
    have HTn:=hid ht
    go_enter Tryz.func155,Tryz.ntmps155
    go_wp2_with (first | (go_at_call 225; refine (HSp.out _).mono ?_; rintro e w1 ⟨rfl,rfl⟩) | (at_builtin; refine app_two rfl (.tmp 22) (.tmp 25) rfl w1 B xs.length v (ivs .i32 xs) a c rfl w1.heap.size rfl rfl HO.out.1 (by omega) HO.out.2.2.2 (fun v' w' h1 h2=>?_); have HP:=hid (HO.out.put (ys:=[a,c]) h1 h2); have HB2:=hid h2; clear h1 h2) | (at_builtin; refine app_i32 rfl (.tmp 29) (.tmp 31) rfl w' B (xs ++ [a,c]).length v' (ivs .i32 (xs ++ [a,c])) t rfl w'.heap.size rfl rfl HP.out.1 (by rw [List.length_append]; simp; omega) HP.out.2.2.2 (fun v2 w2 h1 h2=>?_)))
    go_ret;have hP:=HP.out.put (ys:=[t]) h1 h2
    refine ⟨_,rfl,?_,HB2.out.trans h2⟩
    rw [HE.out,HSL.out,if_neg HTn.out];simpa using hP
  ·have HSp:=hid (fun w=>split_no r w (fun h=>hs (decide_eq_true (by omega))))
   rw [if_neg hs] at hok;obtain ⟨e1,e2,e3⟩:=dn_d r
   obtain ⟨i1,i2⟩:=dn_I32 r
   have HPw:=hid ((hF.step (w':=w) hO.2.1).pw)
   have HDn:=hid (down_g HPw.out hr);have hcf:=(hF.step (w':=w) hO.2.1).cells.2
   rw [e1,e2,e3] at HDn;have HE : Hid (apF (n + 1) r = if (dnP r).2.2 = 1 then apF n (dnP r).1 else if (dnP r).2.2 = 2 then apF n (dnP r).1 ++ apF n (dnP r).2.1 else [r]):=by show _ = _; simp only [apF]; rw [if_neg hs]
   have hlA:=apF_len n (dnP r).1
   clear ih hF hO hs e1 e2 e3;generalize hy : dnP r = y at *;obtain ⟨a,c,m⟩:=y
   simp only at hok i1 i2 HDn HE hlA
   clear hy;by_cases h1 : m = 1
   ·subst h1;have HR : Hid (apF (n + 1) r = apF n a):=by show _ = _; rw [HE.out,if_pos rfl]
    rw [if_pos rfl] at hok;go_enter Tryz.func155,Tryz.ntmps155
    go_wp2_with (first | (go_at_call 225; refine (HSp.out _).mono ?_; rintro e w1 ⟨rfl,rfl⟩) | (go_at_call 226; refine HDn.out.mono ?_; rintro e w1 ⟨rfl,hb1⟩; have HO1:=hid (HO.out.step hb1); have HB1:=hid hb1; clear hb1) | (go_at_call 155; refine (HIH.out a hok i1 w1 B v xs HO1.out (by omega)).mono ?_; rintro e w2 ⟨v2,rfl,h3,h4⟩))
    go_ret;exact ⟨_,rfl,by rw [HR.out]; exact h3,(HB1.out.mono HO.out.2.2.2).trans h4⟩
   ·rw [if_neg h1] at hok;by_cases h2 : m = 2
    ·subst h2;have HR : Hid (apF (n + 1) r = apF n a ++ apF n c):=by show _ = _; rw [HE.out,if_neg h1,if_pos rfl]
     rw [if_pos rfl,Bool.and_eq_true] at hok;clear h1;go_enter Tryz.func155,Tryz.ntmps155
     go_wp2_with (first | (go_at_call 225; refine (HSp.out _).mono ?_; rintro e w1 ⟨rfl,rfl⟩) | (go_at_call 226; refine HDn.out.mono ?_; rintro e w1 ⟨rfl,hb1⟩; have HO1:=hid (HO.out.step hb1); have HB1:=hid hb1; clear hb1))
     refine (HIH.out a hok.1 i1 _ B v xs HO1.out (by omega)).mono ?_;rintro e w2 ⟨v2,rfl,h3,h4⟩;have HO2:=hid h3
     have HB2:=hid h4
     clear h3 h4;go_wp2_with fail;refine (HIH.out c hok.2 i2 _ B v2 (xs ++ apF n a) HO2.out (by rw [List.length_append]; omega)).mono ?_
     rintro e w3 ⟨v3,rfl,h3,h4⟩;have HO3:=hid h3
     have HB3:=hid h4
     clear h3 h4;go_wp2_with fail;go_ret;exact ⟨_,rfl,by rw [HR.out,<- List.append_assoc]; exact HO3.out,((HB1.out.mono HO.out.2.2.2).trans HB2.out).trans HB3.out⟩
    ·have HR : Hid (apF (n + 1) r = [r]):=by show _ = _; rw [HE.out,if_neg h1,if_neg h2]
     have q1 : (m == 1) = false:=by simpa using h1
     have q2 : (m == 2) = false:=by simpa using h2
     go_enter Tryz.func155,Tryz.ntmps155
     go_wp2_with (first | (go_at_call 225; refine (HSp.out _).mono ?_; rintro e w1 ⟨rfl,rfl⟩) | (go_at_call 226; refine HDn.out.mono ?_; rintro e w1 ⟨rfl,hb1⟩; have HO1:=hid (HO.out.step hb1); have HB1:=hid hb1; clear hb1) | (at_builtin; refine app_i32 rfl (.tmp 60) (.tmp 62) rfl w1 B xs.length v (ivs .i32 xs) r rfl w1.heap.size rfl rfl HO1.out.1 (by omega) HO1.out.2.2.2 (fun v2 w2 h3 h4=>?_)))
     go_ret;have hP:=HO1.out.put (ys:=[r]) h3 h4
     exact ⟨_,rfl,by rw [HR.out]; exact hP,(HB1.out.mono HO.out.2.2.2).trans h4⟩
theorem ap5 (x : Int) : apF 5 x = apP x:=(apF_succ 5 x (ok5 x)).symm
theorem ap_len (x : Int) : (apP x).length <= 96:=by rw [<- ap5]; exact apF_len 5 x
theorem flat_len : ∀ l : List Int,(l.flatMap apP).length <= 96 * l.length
 | []=>by simp
 | x :: l=>by
  have h1:=ap_len x
  have h2:=flat_len l
  rw [List.flatMap_cons,List.length_append,List.length_cons];omega
def mkV (a b : Int) : Int:=if mkB a b = true then mkI a b else 0
theorem together_any {w : World} {f b p d u s : Nat} (hF : Fm w f b p d u s) {x y : Int} (hx : I32 x) (hy : I32 y) :
 Calls Tryz.prog 154 #[.pointer (some ⟨f,0,none⟩),.int .i32 x,.int .i32 y] w fun e w'=>e = .returned (.tuple #[.int .i32 (mkV x y),.bool (mkB x y)]) ∧ w' = w:=by
 have HUp:=hid (up_g hF.pw hx hy);have hcf:=hF.cells.2
 have HM : Hid (mkB x y = (u2 x y || lvB x y || otB x y) ∧ mkI x y = if u2 x y = true then u1 x y else if lvB x y = true then lvI x y else otI x y):=⟨rfl,rfl⟩
 have HV : Hid (mkV x y = if mkB x y = true then mkI x y else 0):=rfl
 by_cases h1 : u2 x y = true
 ·rw [h1] at HUp;have HR : Hid (mkV x y = u1 x y ∧ mkB x y = true):=by
   have e : mkB x y = true:=by rw [HM.out.1,h1]; rfl
   exact ⟨by rw [HV.out,if_pos e,HM.out.2,if_pos h1],e⟩
  clear HM HV hF h1;generalize u1 x y = z at *;go_enter Tryz.func154,Tryz.ntmps154
  go_wp2_with (go_at_call 223; refine HUp.out.mono ?_; rintro e w1 ⟨rfl,rfl⟩)
  go_ret2;exact ⟨by rw [HR.out.1,HR.out.2]; rfl,rfl⟩
 ·have h1' : u2 x y = false:=by simpa using h1
  rw [h1'] at HUp;have HJ : Hid (∀ W,Calls Tryz.prog 224 #[.int .i32 x,.int .i32 y] W fun e w'=>e = .returned (.tuple #[.int .i32 (mkV x y),.bool (mkB x y)]) ∧ w' = W):=by
   refine hid (fun W=>?_)
   by_cases h2 : lvB x y = true
   ·have e : mkB x y = true:=by rw [HM.out.1,h1',h2]; rfl
    rw [HV.out,e,if_pos rfl,HM.out.2,if_neg h1,if_pos h2];exact join_lv x y W h2
   ·by_cases h3 : otB x y = true
    ·have e : mkB x y = true:=by rw [HM.out.1,h1',h3]; simp
     rw [HV.out,e,if_pos rfl,HM.out.2,if_neg h1,if_neg h2];exact join_ot x y W h3
    ·have h2' : lvB x y = false:=by simpa using h2
     have h3' : otB x y = false:=by simpa using h3
     have e : mkB x y = false:=by rw [HM.out.1,h1',h2',h3']; rfl
     rw [HV.out,e,if_neg (by simp)];exact join_no x y W h2' h3'
  clear HM HV hF h1 h1';generalize u1 x y = z at *;generalize mkV x y = m at *;generalize mkB x y = q at *;go_enter Tryz.func154,Tryz.ntmps154
  go_wp2_with (first | (go_at_call 223; refine HUp.out.mono ?_; rintro e w1 ⟨rfl,rfl⟩) | (go_at_call 224; refine (HJ.out _).mono ?_; rintro e w2 ⟨rfl,rfl⟩))
  go_ret2;exact ⟨rfl,rfl⟩
theorem nfd_any {w : World} {f b p d u s : Nat} (hF : Fm w f b p d u s) {v : Value} {zs : List Int} (hS : Sl .i32 w v zs) (hz : ∀ z ∈ zs,I32 z) (hn : zs.length <= 10000) :
 Calls Tryz.prog 99 #[.pointer (some ⟨f,0,none⟩),v] w fun e w'=>∃ v',e = .returned v' ∧ Sl .i32 w' v' (nfdP clsP zs) ∧ Below w.heap.size w w':=by
 obtain ⟨ao,cap,rfl,hS⟩:=hS
 have HF:=hid hF
 have HS:=hid hS
 have HZ:=hid hz
 have HL : Hid (∃ len,zs.length = len ∧ len <= 10000):=⟨_,rfl,hn⟩
 generalize hlen : zs.length = len at hn
 have HLn:=hid hlen
 clear hS hF hz hlen HL;go_enter Tryz.func99,Tryz.ntmps99
 go_wp2_with fail;go_loopg [5,10] len (fun g vo vi wr=>∃ k : Nat,vi = .int .i64 k ∧ k <= len ∧ g = len - k ∧ Hid (Ow w wr w.heap.size vo ((zs.take k).flatMap apP)))
 case atStart=>exact ⟨0,rfl,Nat.zero_le _,rfl,World.ownsRow_nil _ _ _ _,Below.refl _ _,Nat.le_refl _,Nat.le_refl _⟩
 case round =>
  obtain ⟨k,rfl,hk,hg,H⟩:=hrel
  have HG:=hid hg
  clear hg;by_cases hlt : k < len
  ·have hlx : k < zs.length:=by rw [HLn.out]; exact hlt
   obtain ⟨bb,off,e0,hb,c1⟩:=HS.out.at_ k hlx
   subst e0;have d1:=(H.out.2.1.cell (p:=⟨bb,off + k,none⟩) hb).trans c1
   have HE : Hid ((zs.take (k + 1)).flatMap apP = (zs.take k).flatMap apP ++ apF 5 zs[k]):=by show _ = _;rw [List.take_succ_eq_append_getElem hlx,List.flatMap_append,List.flatMap_cons,List.flatMap_nil,List.append_nil,ap5]
   have hle : ((zs.take k).flatMap apP).length + 3 * 2 ^ 5 <= 1000000000:=by
    have:=flat_len (zs.take k)
    rw [List.length_take] at this;omega
   have HA:=hid (apart_any HF.out 5 zs[k] (ok5 _) (HZ.out _ (List.getElem_mem hlx)) wr w.heap.size _ _ H.out hle);clear c1 hle;generalize zs[k] = x at *;have z1 : (k : Int) < (len : Int):=by omega
   go_wp2_with (go_at_call 155; refine HA.out.mono ?_; rintro e w2 ⟨v2,rfl,h3,h4⟩)
   have HO2 : Hid (Ow w w2 w.heap.size v2 ((zs.take (k + 1)).flatMap apP)):=by show Ow _ _ _ _ _; rw [HE.out]; exact h3
   clear h3 h4;go_roundg (len - (k + 1))
   case measure=>rw [HG.out]; omega
   case rel=>exact ⟨k + 1,by go_num,by omega,rfl,HO2.out⟩
  ·have e : k = len:=by omega
   subst e;have HW : Hid (Ow w wr w.heap.size u5 (zs.flatMap apP)):=by
    have:=H.out
    rw [<- HLn.out,List.take_length] at this;exact this
   have HSt:=hid (sort_any (HF.out.step HW.out.2.1).bk (own_sl HW.out.1) (Nat.le_trans (flat_len zs) (by rw [HLn.out]; omega)))
   have hcf:=(HF.out.step HW.out.2.1).cells.1
   go_wp2_with (go_at_call 156; refine HSt.out.mono ?_; rintro e w2 ⟨v2,rfl,h3,h4⟩)
   go_ret;exact ⟨_,rfl,h3,HW.out.2.1.trans (h4.mono HW.out.2.1.size)⟩
theorem mk_I32 (a b : Int) (h : mkB a b = true) : I32 (mkI a b):=by
 unfold mkI;split
 ·exact u_bd a b
 ·rename_i h1
  split
  ·rename_i h2
   obtain ⟨hs,_⟩:=lv_parts a b h2
   have:=syl_bd hs
   exact ⟨by omega,by omega⟩
  ·rename_i h2
   unfold mkB at h;have h3 : otB a b = true:=by
    cases hu : u2 a b <;> cases hl : lvB a b <;> simp_all
   obtain ⟨_,_,hs,_⟩:=ot_parts a b h3
   have:=syl_bd hs
   exact ⟨by omega,by omega⟩
def stI (S : CS) : Int:=match S.2.1 with
 | none=>-1
 | some _=>(S.1.length : Int)
theorem step_zero {S : CS} {r : Int} (h : tryC clsP S r = false) (hc : clsP r = 0) : outC (stepC clsP S r) = outC S ++ [r] ∧ stI (stepC clsP S r) = ((outC S).length : Int) ∧ gr clsP (stepC clsP S r).2.2 = 0:=by refine ⟨outC_no clsP S r h,?_,?_⟩ <;> (unfold stepC; rw [h]; simp only [Bool.false_eq_true,if_false]; rw [if_pos hc]; rfl)
theorem step_mark {S : CS} {r : Int} (h : tryC clsP S r = false) (hc : clsP r ≠ 0) : outC (stepC clsP S r) = outC S ++ [r] ∧ stI (stepC clsP S r) = stI S ∧ gr clsP (stepC clsP S r).2.2 = if gr clsP S.2.2 < clsP r then clsP r else gr clsP S.2.2:=by
 refine ⟨outC_no clsP S r h,?_,?_⟩
 ·unfold stepC; rw [h]; simp only [Bool.false_eq_true,if_false]; rw [if_neg hc]; rfl
 ·unfold stepC; rw [h]; simp only [Bool.false_eq_true,if_false]; rw [if_neg hc]; exact gr_snoc clsP _ _
theorem step_join {A M : List Int} {x r : Int} (h : tryC clsP (A,some x,M) r = true) : stepC clsP (A,some x,M) r = (A,some (mkI x r),M):=by unfold stepC;rw [if_pos h];rfl
def CI (w wr : World) (v : Value) (L : List Int) (k : Nat) : Prop:=Ow w wr w.heap.size v L ∧ (∀ y ∈ L,I32 y) ∧ L.length <= k
theorem CI.step {w w1 w2 : World} {v : Value} {L : List Int} {k : Nat} (h : CI w w1 v L k) (hb : Below w1.heap.size w1 w2) : CI w w2 v L k:=⟨h.1.step hb,h.2⟩
theorem CI.put {w w1 w2 : World} {v v2 : Value} {L : List Int} {k n : Nat} {r : Int} (h : CI w w1 v L k) (hn : L.length = n) (hr : I32 r) (h3 : w2.ownsRow w.heap.size 21 1 v2 (n + 1) (ivs .i32 L ++ [.int .i32 r])) (h4 : Below w.heap.size w1 w2) : CI w w2 v2 (L ++ [r]) (k + 1):=by
 subst hn;refine ⟨h.1.put (ys:=[r]) h3 h4,fun y hy=>?_,by rw [List.length_append]; have:=h.2.2; simp; omega⟩
 rcases List.mem_append.1 hy with hy | hy
 ·exact h.2.1 y hy
 ·simp at hy; subst hy; exact hr
theorem CI.set {w w1 : World} {g n cp : Nat} {A M : List Int} {k : Nat} {x z : Int} (h : CI w w1 (.slice (some ⟨g,0,none⟩) n cp) (A ++ [x] ++ M) k) (hn : (A ++ [x] ++ M).length = n) (hz : I32 z) : CI w (w1.setCell ⟨g,A.length,none⟩ (.int .i32 z)) (.slice (some ⟨g,0,none⟩) n cp) (A ++ [z] ++ M) (k + 1):=by
 have h0:=h.1.1
 rw [hn] at h0;obtain ⟨h1,h2⟩:=h0.stored A.length (.int .i32 z)
 have e : (ivs .i32 (A ++ [x] ++ M)).set A.length (.int .i32 z) = ivs .i32 (A ++ [z] ++ M):=by simp [ivs]
 have hn2 : (A ++ [z] ++ M).length = n:=by rw [<- hn]; simp
 rw [e] at h1;have hb : Below w.heap.size w1 (w1.setCell ⟨g,A.length,none⟩ (.int .i32 z)):=Od.below_of_grown h2 _ h.1.2.2.2 (fun q e=>by cases e; exact (h0.lt g rfl).1)
 refine ⟨⟨by rw [hn2]; exact h1,h.1.2.1.trans hb,Nat.le_refl _,Nat.le_trans h.1.2.2.2 hb.size⟩,fun y hy=>?_,?_⟩
 ·by_cases e : y = z
  ·subst e; exact hz
  ·refine h.2.1 y ?_
   simp at hy ⊢
   rcases hy with hy | hy | hy
   ·exact .inl hy
   ·exact (e hy).elim
   ·exact .inr (.inr hy)
 ·have:=h.2.2
  simp at this ⊢
  omega
end Nf
end Go.Proofs.YtkhipgcgcbhjoaaGreat
