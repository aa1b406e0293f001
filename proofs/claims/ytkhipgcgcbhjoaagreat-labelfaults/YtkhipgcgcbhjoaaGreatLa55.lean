import Derived.Test.YtkhipgcgcbhjoaaGreatLa32
set_option maxRecDepth 100000
set_option maxHeartbeats 4000000
namespace Go.Proofs.YtkhipgcgcbhjoaaGreat
namespace Bi
open Go.RowKit Od
theorem bd_row (r : Int) : bdP r = (Uc.rrowP r).2.2.2.1:=by unfold bdP;rw [Uc.book_tells r];rfl
theorem row_any (r : Int) (w : World) : Calls Tryz.prog 112 #[.int .i64 r] w fun e w'=>∃ x1 x2 x3 x5 x6 x7 : Int,e = .returned (.agg #[.int .i64 x1,.int .i64 x2,.int .i64 x3,.int .i64 (bdP r),.int .i64 x5,.int .i64 x6,.int .i64 x7]) ∧ Below w.heap.size w w':=by refine (Uc.rrow_any r w).mono ?_;rintro e w' ⟨rfl,hb⟩;rw [bd_row];exact ⟨_,_,_,_,_,_,rfl,hb⟩
theorem idx7 (x1 x2 x3 x4 x5 x6 x7 : Int) (w : World) : (Instr.index 169 (.agg #[.int .i64 x1,.int .i64 x2,.int .i64 x3,.int .i64 x4,.int .i64 x5,.int .i64 x6,.int .i64 x7]) (.int .i64 3)).run Tryz.prog w = .ok (.int .i64 x4) w:=by
 obtain ⟨i0,hi,hz0,hz1,hz2⟩:=info_parts Tryz.info_i64
 have h:=fun (i : Nat) (hl : i < 7)=>run_index_agg (P:=Tryz.prog) w 169 3 7 i0 #[.int .i64 x1,.int .i64 x2,.int .i64 x3,.int .i64 x4,.int .i64 x5,.int .i64 x6,.int .i64 x7] .i64 i Tryz.underlying169 hi hl
 refine (h 3 (by omega)).trans ?_
 rw [hz1];simp [part,isAgg,run_underlying Tryz.underlying3]
theorem dir_any (r : Int) (w : World) : Calls Tryz.prog 117 #[.int .i64 r] w fun e w'=>e = .returned (.int .i64 (bdP r)) ∧ Below w.heap.size w w':=by
 have HO:=hr (Ok.start w);have HR:=hr (row_any r w);generalize bdP r = d at *;go_enter Tryz.func117,Tryz.ntmps117
 go_wp2_with fail;refine HR.out.mono ?_;rintro e w1 ⟨x1,x2,x3,x5,x6,x7,rfl,hb⟩;have hi:=fun W=>idx7 x1 x2 x3 d x5 x6 x7 W
 replace HO:=hr (HO.out.step hb);clear hb HR;go_wp2_with fail;go_ret;exact ⟨rfl,HO.out.1⟩
theorem among_any {w : World} {v : Value} {zs : List Int} (h : Sl .i64 w v zs) (hn : zs.length <= 1000000) (x : Int) :
 Calls Tryz.prog 116 #[v,.int .i64 x] w fun e w'=>e = .returned (.bool (decide (x ∈ zs))) ∧ w' = w:=by
 obtain ⟨ao,cap,rfl,h⟩:=h
 have HS:=hr h
 clear h;generalize hlen : zs.length = len at *;have HLn:=hr hlen
 clear hlen;go_enter Tryz.func116,Tryz.ntmps116
 go_wp2_with fail;go_loop [5] (fun vi=>∃ k : Nat,k <= len ∧ vi = .int .i64 k ∧ Hid (∀ j (hj : j < zs.length),j < k -> zs[j] ≠ x)) (fun vi=>len - (intOf vi).toNat)
 case atStart=>exact ⟨0,Nat.zero_le _,rfl,fun j _ h=>by omega⟩
 case round =>
  obtain ⟨k,hk,rfl,H⟩:=hrel
  by_cases hlt : k < len
  ·have hlx : k < zs.length:=by rw [HLn.out]; exact hlt
   obtain ⟨b,off,rfl,hb,c1⟩:=HS.out.at_ k hlx
   have z1 : (k : Int) < (len : Int):=by omega
   by_cases he : zs[k] = x
   ·have HE : Hid (decide (x ∈ zs) = true):=decide_eq_true (by rw [<- he]; exact List.getElem_mem hlx)
    rw [he] at c1;go_wp2_with fail;try rw [Exit.noGoto_ret]
    go_ret;exact ⟨ret_bool HE.out.symm,rfl⟩
   ·have HN : Hid (∀ j (hj : j < zs.length),j < k + 1 -> zs[j] ≠ x):=fun j hj h=>by
     by_cases e : j = k
     ·subst e; exact he
     ·exact H.out j hj (by omega)
    generalize zs[k] = y at *;have q : (y == x) = false:=beq_eq_false_iff_ne.2 he
    go_wp2_with fail;go_round
    case rel=>exact ⟨k + 1,hlt,by go_num,HN⟩
    case measure=>(simp [intOf]) <;> omega
  ·have z1 : ¬ (k : Int) < (len : Int):=by omega
   have HE : Hid (decide (x ∈ zs) = false):=decide_eq_false (fun hm=>by
    obtain ⟨j,hj,e⟩:=List.mem_iff_getElem.1 hm
    exact absurd e (H.out j hj (by have:=HLn.out; omega)))
   go_wp2_with fail;go_ret;exact ⟨ret_bool HE.out.symm,rfl⟩
theorem all_any {w : World} {v m : Value} {X M : List Int} (h : Sl .i64 w v X) (hn : X.length <= 1000000) (hm : Sl .i64 w m M) (hM : M.length <= 1000) :
 Calls Tryz.prog 118 #[v,m] w fun e w'=>e = .returned (.bool (allB (X.map bdP) M)) ∧ Below w.heap.size w w':=by
 obtain ⟨ao,cap,rfl,h⟩:=h
 have HS:=hr h
 have HM:=hr (fun (W : World) (d : Int) (hb : Below w.heap.size w W)=>among_any (hm.step hb) (by omega) d)
 have HO:=hr (Ok.start w);clear h hm;generalize hlen : X.length = len at *;have HLn:=hr hlen
 clear hlen;go_enter Tryz.func118,Tryz.ntmps118
 go_wp2_with fail;go_loopg [5] len (fun gg vi wr=>∃ k : Nat,vi = .int .i64 k ∧ k <= len ∧ gg = len - k ∧ Hid ((∀ j (hj : j < X.length),j < k -> bdP X[j] ∈ M) ∧ Ok w.heap.size w wr))
 case atStart=>exact ⟨0,rfl,Nat.zero_le _,rfl,fun j _ h=>by omega,HO.out⟩
 case round =>
  obtain ⟨k,rfl,hk,hg,H⟩:=hrel
  have HG:=hr hg
  clear hg HO;by_cases hlt : k < len
  ·have hlx : k < X.length:=by rw [HLn.out]; exact hlt
   obtain ⟨b,off,rfl,hb,c1⟩:=HS.out.at_ k hlx
   have d1:=(H.out.2.1.cell (p:=⟨b,off + k,none⟩) hb).trans c1
   have z1 : (k : Int) < (len : Int):=by omega
   have HN : Hid (bdP X[k] ∈ M -> ∀ j (hj : j < X.length),j < k + 1 -> bdP X[j] ∈ M):=fun he j hj h=>by
    by_cases e : j = k
    ·subst e; exact he
    ·exact H.out.1 j hj (by omega)
   have HE : Hid (¬ bdP X[k] ∈ M -> allB (X.map bdP) M = false):=fun he=>by unfold allB;rw [List.all_eq_false];exact ⟨bdP X[k],List.mem_map.2 ⟨X[k],List.getElem_mem hlx,rfl⟩,by rw [decide_eq_true_eq]; exact he⟩
   have HDr:=hr (fun W=>dir_any X[k] W)
   clear c1;generalize X[k] = x at *;generalize bdP x = d at *;go_wp2_with fail;refine (HDr.out _).mono ?_;rintro e W1 ⟨rfl,hb1⟩;have HO:=hr (H.out.2.step hb1)
   clear hb1;go_wp2_with fail;refine (HM.out _ d HO.out.1).mono ?_;rintro e W2 ⟨rfl,rfl⟩;by_cases he : d ∈ M
   ·rw [decide_eq_true he];go_wp2_with fail;go_roundg (len - (k + 1))
    case measure=>rw [HG.out]; omega
    case rel=>exact ⟨k + 1,by go_num,by omega,rfl,HN.out he,HO.out⟩
   ·rw [decide_eq_false he];go_wp2_with fail;try rw [Exit.noGoto_ret]
    go_ret;exact ⟨ret_bool (HE.out he).symm,HO.out.1⟩
  ·have z1 : ¬ (k : Int) < (len : Int):=by omega
   have HE : Hid (allB (X.map bdP) M = true):=by
    show _ = _;unfold allB;rw [List.all_eq_true];intro d hd
    obtain ⟨x,hx,rfl⟩:=List.mem_map.1 hd
    obtain ⟨j,hj,rfl⟩:=List.mem_iff_getElem.1 hx
    rw [decide_eq_true_eq];exact H.out.1 j hj (by have:=HLn.out; omega)
   go_wp2_with fail;go_ret;exact ⟨ret_bool HE.out.symm,H.out.2.1⟩
def smP (X : List Int) (t : Int) : Bool:=decide (t ∈ X.map bdP)
theorem rsome_any {w : World} {v : Value} {X : List Int} (h : Sl .i64 w v X) (hn : X.length <= 1000000) (t : Int) :
 Calls Tryz.prog 120 #[v,.int .i64 t] w fun e w'=>e = .returned (.bool (smP X t)) ∧ Below w.heap.size w w':=by
 obtain ⟨ao,cap,rfl,h⟩:=h
 have HS:=hr h
 have HO:=hr (Ok.start w);clear h;generalize hlen : X.length = len at *;have HLn:=hr hlen
 clear hlen;go_enter Tryz.func120,Tryz.ntmps120
 go_wp2_with fail;go_loopg [5] len (fun gg vi wr=>∃ k : Nat,vi = .int .i64 k ∧ k <= len ∧ gg = len - k ∧ Hid ((∀ j (hj : j < X.length),j < k -> bdP X[j] ≠ t) ∧ Ok w.heap.size w wr))
 case atStart=>exact ⟨0,rfl,Nat.zero_le _,rfl,fun j _ h=>by omega,HO.out⟩
 case round =>
  obtain ⟨k,rfl,hk,hg,H⟩:=hrel
  have HG:=hr hg
  clear hg HO;by_cases hlt : k < len
  ·have hlx : k < X.length:=by rw [HLn.out]; exact hlt
   obtain ⟨b,off,rfl,hb,c1⟩:=HS.out.at_ k hlx
   have d1:=(H.out.2.1.cell (p:=⟨b,off + k,none⟩) hb).trans c1
   have z1 : (k : Int) < (len : Int):=by omega
   have HN : Hid (bdP X[k] ≠ t -> ∀ j (hj : j < X.length),j < k + 1 -> bdP X[j] ≠ t):=fun he j hj h=>by
    by_cases e : j = k
    ·subst e; exact he
    ·exact H.out.1 j hj (by omega)
   have HE : Hid (bdP X[k] = t -> smP X t = true):=fun he=>decide_eq_true (List.mem_map.2 ⟨X[k],List.getElem_mem hlx,he⟩)
   have HDr:=hr (fun W=>dir_any X[k] W)
   clear c1;generalize X[k] = x at *;generalize bdP x = d at *;go_wp2_with fail;refine (HDr.out _).mono ?_;rintro e W1 ⟨rfl,hb1⟩;have HO:=hr (H.out.2.step hb1)
   clear hb1;by_cases he : d = t
   ·have q : (d == t) = true:=beq_iff_eq.2 he
    have HEE:=hr (HE.out he);clear he HE;go_wp2_with fail;try rw [Exit.noGoto_ret]
    go_ret;exact ⟨ret_bool HEE.out.symm,HO.out.1⟩
   ·have q : (d == t) = false:=beq_eq_false_iff_ne.2 he
    go_wp2_with fail;go_roundg (len - (k + 1))
    case measure=>rw [HG.out]; omega
    case rel=>exact ⟨k + 1,by go_num,by omega,rfl,HN.out he,HO.out⟩
  ·have z1 : ¬ (k : Int) < (len : Int):=by omega
   have HE : Hid (smP X t = false):=decide_eq_false (fun hd=>by
    obtain ⟨x,hx,e⟩:=List.mem_map.1 hd
    obtain ⟨j,hj,rfl⟩:=List.mem_iff_getElem.1 hx
    exact H.out.1 j hj (by have:=HLn.out; omega) e)
   go_wp2_with fail;go_ret;exact ⟨ret_bool HE.out.symm,H.out.2.1⟩
theorem lastD_snoc (ds : List Int) (d : Int) : lastD (ds ++ [d]) = if d = 8 then lastD ds else d:=by unfold lastD; rw [List.foldl_append]; rfl
theorem end_any {w : World} {v : Value} {X : List Int} (h : Sl .i64 w v X) (hn : X.length <= 1000000) :
 Calls Tryz.prog 119 #[v] w fun e w'=>e = .returned (.int .i64 (lastD (X.map bdP))) ∧ Below w.heap.size w w':=by
 obtain ⟨ao,cap,rfl,h⟩:=h
 have HS:=hr h
 have HO:=hr (Ok.start w);clear h;generalize hlen : X.length = len at *;have HLn:=hr hlen
 clear hlen;go_enter Tryz.func119,Tryz.ntmps119
 go_wp2_with fail;go_loopg [3,4] len (fun gg vo vi wr=>∃ k : Nat,vi = .int .i64 k ∧ k <= len ∧ gg = len - k ∧ ∃ z : Int,vo = .int .i64 z ∧ Hid (z = lastD ((X.take k).map bdP) ∧ Ok w.heap.size w wr))
 case atStart=>exact ⟨0,rfl,Nat.zero_le _,rfl,-1,rfl,rfl,HO.out⟩
 case round =>
  obtain ⟨k,rfl,hk,hg,z,rfl,H⟩:=hrel
  have HG:=hr hg
  clear hg HO;by_cases hlt : k < len
  ·have hlx : k < X.length:=by rw [HLn.out]; exact hlt
   obtain ⟨b,off,rfl,hb,c1⟩:=HS.out.at_ k hlx
   have d1:=(H.out.2.1.cell (p:=⟨b,off + k,none⟩) hb).trans c1
   have z1 : (k : Int) < (len : Int):=by omega
   have HT : Hid (lastD ((X.take (k + 1)).map bdP) = if bdP X[k] = 8 then z else bdP X[k]):=by show _ = _;rw [List.take_succ_eq_append_getElem hlx,List.map_append,H.out.1];exact lastD_snoc _ _
   have HDr:=hr (fun W=>dir_any X[k] W)
   clear c1;generalize X[k] = x at *;generalize bdP x = d at *;go_wp2_with fail;refine (HDr.out _).mono ?_;rintro e W1 ⟨rfl,hb1⟩;have HO:=hr (H.out.2.step hb1)
   have d2:=(hb1.cell (p:=⟨b,off + k,none⟩) (Nat.lt_of_lt_of_le hb H.out.2.2)).trans d1
   clear hb1;by_cases he : d = 8
   ·have q : (d == 8) = true:=beq_iff_eq.2 he
    have HEE : Hid (z = lastD ((X.take (k + 1)).map bdP)):=by show _ = _; rw [HT.out,if_pos he]
    clear he;go_wp2_with fail;go_roundg (len - (k + 1))
    case measure=>rw [HG.out]; omega
    case rel=>exact ⟨k + 1,by go_num,by omega,rfl,z,rfl,HEE.out,HO.out⟩
   ·have q : (d == 8) = false:=beq_eq_false_iff_ne.2 he
    go_wp2_with fail;refine (HDr.out _).mono ?_;rintro e W2 ⟨rfl,hb1⟩;replace HO:=hr (HO.out.step hb1);clear hb1;go_wp2_with fail;go_roundg (len - (k + 1))
    case measure=>rw [HG.out]; omega
    case rel=>exact ⟨k + 1,by go_num,by omega,rfl,d,rfl,by rw [HT.out,if_neg he],HO.out⟩
  ·have z1 : ¬ (k : Int) < (len : Int):=by omega
   have HE : Hid (z = lastD (X.map bdP)):=by
    show _ = _;have e : k = X.length:=by have:=HLn.out; omega
    have:=H.out.1
    rwa [e,List.take_length] at this
   go_wp2_with fail;go_ret;exact ⟨ret_int HE.out,H.out.2.1⟩
theorem lit_sl (w : World) (t : TypeId) (l : List Int) (cs : Array Value) (hc : cs = (ivs .i64 l).toArray) (N n : Nat) (hN : N = w.heap.size) (hn : n = l.length) : Sl .i64 (w.alloc (.cells cs t)) (.slice (some ⟨N,0,none⟩) n n) l:=by
 subst hN hc hn;have h : (w.alloc (.cells (ivs .i64 l).toArray t)).heap[w.heap.size]? = some (.cells (ivs .i64 l).toArray t):=heap_new w _
 refine ⟨some ⟨w.heap.size,0,none⟩,l.length,rfl,Nat.le_refl _,fun e=>(by cases e),fun j hj=>⟨w.heap.size,0,rfl,(Array.getElem?_eq_some_iff.1 h).1,?_⟩⟩
 unfold World.cell?
 rw [h];simp [ivs,hj]
theorem rbroken_any {w : World} {v : Value} {X : List Int} (h : Sl .i64 w v X) (hn : X.length <= 1000000) :
 Calls Tryz.prog 62 #[v] w fun e w'=>e = .returned (.int .i64 (brP X)) ∧ Below w.heap.size w w':=by
 have HO:=hr (Ok.start w);obtain ⟨ao,cap,rfl,h'⟩:=h
 have HSl : Hid (Sl .i64 w (.slice ao X.length cap) X):=⟨ao,cap,rfl,h'⟩
 have HP:=hr h'
 clear h';by_cases h0 : X.length = 0
 ·have e : X = []:=List.length_eq_zero_iff.1 h0
  subst e;go_enter Tryz.func62,Tryz.ntmps62
  go_wp2_with fail;go_ret;exact ⟨rfl,HO.out.1⟩
 ·obtain ⟨x,xs,rfl⟩ : ∃ x xs,X = x :: xs:=by
   match X,h0 with
   | x :: xs,_=>exact ⟨x,xs,rfl⟩
   | [],h0=>exact absurd rfl h0
  obtain ⟨b,off,rfl,hb,c1⟩:=HP.out.at_ 0 (by simp)
  have c0 : w.cell? ⟨b,off,none⟩ = some (.int .i64 x):=c1
  have hlz : (((x :: xs).length : Int) == 0) = false:=beq_eq_false_iff_ne.2 (by omega)
  have z0 : (0 : Int) < ((x :: xs).length : Int):=by omega
  have HD:=hr (fun W=>dir_any x W)
  have HDir:=hr (bd_dir x);have HEq : Hid (brP (x :: xs) = if bdP x = 0 then (if allB ((x :: xs).map bdP) inL = false then 5 else if lastD ((x :: xs).map bdP) ∈ [0,3] then 0 else 6)
   else if bdP x = 1 ∨ bdP x = 2 then (if allB ((x :: xs).map bdP) inR = false then 2 else if ¬ lastD ((x :: xs).map bdP) ∈ [1,2,3,6] then 3 else if smP (x :: xs) 3 = true ∧ smP (x :: xs) 6 = true then 4 else 0) else 1):=by
   show _ = _;unfold smP;simp only [decide_eq_true_eq]
   rfl
  clear c1 h0;generalize hX : x :: xs = X at *;clear hX;generalize bdP x = d at *;have HAm:=hr (fun (W : World) (V : Value) (l : List Int) (y : Int) (hV : Sl .i64 W V l) (hl : l.length <= 1000000)=>among_any hV hl y)
  have HAll:=hr (fun (W : World) (V : Value) (l : List Int) (hb : Below w.heap.size w W) (hV : Sl .i64 W V l) (hl : l.length <= 1000)=>all_any (HSl.out.step hb) hn hV hl)
  have HEnd:=hr (fun (W : World) (hb : Below w.heap.size w W)=>end_any (HSl.out.step hb) hn)
  have HSo:=hr (fun (W : World) (hb : Below w.heap.size w W) (t : Int)=>rsome_any (HSl.out.step hb) hn t)
  generalize brP X = res at *;go_enter Tryz.func62,Tryz.ntmps62
  go_wp2_with fail;refine (HD.out _).mono ?_;rintro e w1 ⟨rfl,hb1⟩;have S1:=hr ((lit_sl w 3 [0,1,2] _ rfl _ 3 rfl rfl).step hb1);replace HO:=hr (HO.out.alloc.step hb1)
  clear hb1;go_wp2_with fail;refine (HAm.out _ _ _ d S1.out (by decide)).mono ?_;rintro e w2 ⟨rfl,rfl⟩;clear S1;by_cases h0 : d = 0
  ·have q0 : decide (d ∈ [(0 : Int),1,2]) = true:=by rw [h0]; decide
   have q1 : (d == 0) = true:=beq_iff_eq.2 h0
   rw [if_pos h0] at HEq;rw [q0];clear q0 h0 HDir HSo;have c2:=(HO.out.1.cell (p:=⟨b,off,none⟩) hb).trans c0
   go_wp2_with fail;refine (HD.out _).mono ?_;rintro e w3 ⟨rfl,hb1⟩;replace HO:=hr (HO.out.step hb1);clear hb1 c2;go_wp2_with fail;refine (HAll.out _ _ inL HO.out.alloc.1 (lit_sl _ 3 inL _ rfl _ 8 rfl rfl) (by decide)).mono ?_
   rintro e w4 ⟨rfl,hb1⟩;replace HO:=hr (HO.out.alloc.step hb1);clear hb1;generalize allB (X.map bdP) inL = aL at *;cases aL
   ·rw [if_pos rfl] at HEq;go_wp2_with fail;go_ret;exact ⟨ret_int HEq.out.symm,HO.out.1⟩
   ·rw [if_neg (by decide)] at HEq;go_wp2_with fail;refine (HEnd.out _ HO.out.alloc.1).mono ?_;rintro e w5 ⟨rfl,hb1⟩;have S1:=hr ((lit_sl w4 3 [0,3] _ rfl _ 2 rfl rfl).step hb1)
    replace HO:=hr (HO.out.alloc.step hb1);clear hb1;generalize lastD (X.map bdP) = la at *;go_wp2_with fail;refine (HAm.out _ _ _ la S1.out (by decide)).mono ?_
    rintro e w6 ⟨rfl,rfl⟩;by_cases hq : la ∈ [(0 : Int),3]
    ·rw [if_pos hq] at HEq;rw [decide_eq_true hq];clear hq S1;go_wp2_with fail;go_ret;exact ⟨ret_int HEq.out.symm,HO.out.1⟩
    ·rw [if_neg hq] at HEq;rw [decide_eq_false hq];clear hq S1;go_wp2_with fail;go_ret;exact ⟨ret_int HEq.out.symm,HO.out.1⟩
  by_cases h12 : d = 1 ∨ d = 2
  ·have q0 : decide (d ∈ [(0 : Int),1,2]) = true:=by rcases h12 with e | e <;> (rw [e]; decide)
   have q1 : (d == 0) = false:=beq_eq_false_iff_ne.2 h0
   rw [if_neg h0,if_pos h12] at HEq;rw [q0];clear q0 h0 h12 HDir;have c2:=(HO.out.1.cell (p:=⟨b,off,none⟩) hb).trans c0
   go_wp2_with fail;refine (HD.out _).mono ?_;rintro e w3 ⟨rfl,hb1⟩;replace HO:=hr (HO.out.step hb1);clear hb1 c2;go_wp2_with fail;refine (HAll.out _ _ inR HO.out.alloc.1 (lit_sl _ 3 inR _ rfl _ 10 rfl rfl) (by decide)).mono ?_
   rintro e w4 ⟨rfl,hb1⟩;replace HO:=hr (HO.out.alloc.step hb1);clear hb1;generalize allB (X.map bdP) inR = aL at *;cases aL
   ·rw [if_pos rfl] at HEq;go_wp2_with fail;go_ret;exact ⟨ret_int HEq.out.symm,HO.out.1⟩
   ·rw [if_neg (by decide)] at HEq;go_wp2_with fail;refine (HEnd.out _ HO.out.alloc.1).mono ?_;rintro e w5 ⟨rfl,hb1⟩;have S1:=hr ((lit_sl w4 3 [1,2,3,6] _ rfl _ 4 rfl rfl).step hb1)
    replace HO:=hr (HO.out.alloc.step hb1);clear hb1;generalize lastD (X.map bdP) = la at *;go_wp2_with fail;refine (HAm.out _ _ _ la S1.out (by decide)).mono ?_
    rintro e w6 ⟨rfl,rfl⟩;by_cases hq : la ∈ [(1 : Int),2,3,6]
    ·rw [if_neg (fun n=>n hq)] at HEq
     rw [decide_eq_true hq];clear hq S1;go_wp2_with fail;refine (HSo.out _ HO.out.1 3).mono ?_;rintro e w7 ⟨rfl,hb1⟩;replace HO:=hr (HO.out.step hb1);clear hb1
     generalize smP X 3 = s3 at *;cases s3
     ·rw [if_neg (fun n=>by cases n.1)] at HEq
      go_wp2_with fail;go_ret;exact ⟨ret_int HEq.out.symm,HO.out.1⟩
     ·go_wp2_with fail;refine (HSo.out _ HO.out.1 6).mono ?_;rintro e w8 ⟨rfl,hb1⟩;replace HO:=hr (HO.out.step hb1);clear hb1;generalize smP X 6 = s6 at *;cases s6
      ·rw [if_neg (by decide)] at HEq;go_wp2_with fail;go_ret;exact ⟨ret_int HEq.out.symm,HO.out.1⟩
      ·rw [if_pos (by simp)] at HEq;go_wp2_with fail;go_ret;exact ⟨ret_int HEq.out.symm,HO.out.1⟩
    ·rw [if_pos hq] at HEq;rw [decide_eq_false hq];clear hq S1;go_wp2_with fail;go_ret;exact ⟨ret_int HEq.out.symm,HO.out.1⟩
  ·have q0 : decide (d ∈ [(0 : Int),1,2]) = false:=decide_eq_false (fun hm=>by
    simp only [List.mem_cons,List.not_mem_nil,or_false] at hm
    rcases hm with e | e
    ·exact h0 e
    ·exact h12 e)
   rw [if_neg h0,if_neg h12] at HEq;rw [q0];clear q0;go_wp2_with fail;go_ret;exact ⟨ret_int HEq.out.symm,HO.out.1⟩
end Bi
end Go.Proofs.YtkhipgcgcbhjoaaGreat
