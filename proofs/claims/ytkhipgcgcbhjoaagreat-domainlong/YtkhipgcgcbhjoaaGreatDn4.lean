import Derived.Test.YtkhipgcgcbhjoaaGreatDn3
import Derived.Great.CaseRows
set_option maxRecDepth 1000000
namespace Go.Proofs.YtkhipgcgcbhjoaaGreat.Pr
open Go.RowKit Go.Lib
theorem dist_snoc : ∀ (M : List R3) (y : R3),distB (M ++ [y]) = true -> distB M = true ∧ ∀ m ∈ M,m.1 ≠ y.1
 | [],y,_=>⟨rfl,fun m hm=>by simp at hm⟩
 | x :: M,y,h=>by
  simp only [List.cons_append,distB,Bool.and_eq_true] at h
  have ih:=dist_snoc M y h.2
  have ha:=List.all_eq_true.1 h.1
  refine ⟨?_,fun m hm=>?_⟩
  ·simp only [distB,Bool.and_eq_true]
   exact ⟨List.all_eq_true.2 (fun z hz=>ha z (by simp [hz])),ih.1⟩
  ·rcases List.mem_cons.1 hm with rfl | hm
   ·have:=ha y (by simp)
    intro e
    simp [e] at this
   ·exact ih.2 m hm
theorem dn_of_mem (L : List R3) : distB L = true -> ∀ x ∈ L,dnF L x.1 = some (valP x):=by
 refine snoc_ind (P:=fun L=>distB L = true -> ∀ x ∈ L,dnF L x.1 = some (valP x)) (fun _ x hx=>by simp at hx) (fun M y ih hd x hx=>?_) L
 have h:=dist_snoc M y hd
 rw [dn_snoc];show (if x.1 = y.1 then some (valP y) else dnF M x.1) = _
 rcases List.mem_append.1 hx with hm | hm
 ·rw [if_neg (h.2 x hm)]; exact ih h.1 x hm
 ·simp at hm; subst hm; rw [if_pos rfl]
theorem dn_mem (L : List R3) (r : Int) (v : Pt) : dnF L r = some v -> ∃ x ∈ L,x.1 = r ∧ v = valP x:=by
 refine snoc_ind (P:=fun L=>dnF L r = some v -> ∃ x ∈ L,x.1 = r ∧ v = valP x) (fun h=>by simp [dnF] at h) (fun M y ih h=>?_) L
 rw [dn_snoc] at h;have h' : (if r = y.1 then some (valP y) else dnF M r) = some v:=h
 split at h'
 ·rename_i e
  exact ⟨y,by simp,e.symm,(Option.some.inj h').symm⟩
 ·obtain ⟨x,hx,h1,h2⟩:=ih h'
  exact ⟨x,by simp [hx],h1,h2⟩
def udistB : List R3 -> Bool
 | []=>true
 | x :: l=>(skipB x || l.all (fun y=>skipB y || !(y.2.1 == x.2.1 && y.2.2 == x.2.2))) && udistB l
theorem all_udist : udistB allP = true:=by kernel_rfl
theorem udist_snoc : ∀ (M : List R3) (y : R3),udistB (M ++ [y]) = true -> udistB M = true ∧ (skipB y = false -> ∀ m ∈ M,skipB m = false -> ¬ (m.2.1 = y.2.1 ∧ m.2.2 = y.2.2))
 | [],y,_=>⟨rfl,fun _ m hm=>by simp at hm⟩
 | x :: M,y,h=>by
  simp only [List.cons_append,udistB,Bool.and_eq_true] at h
  have ih:=udist_snoc M y h.2
  refine ⟨?_,fun hy m hm hs=>?_⟩
  ·simp only [udistB,Bool.and_eq_true]
   refine ⟨?_,ih.1⟩
   rcases Bool.or_eq_true_iff.1 h.1 with h1 | h1
   ·rw [h1]; rfl
   ·rw [Bool.or_eq_true];exact .inr (List.all_eq_true.2 (fun z hz=>List.all_eq_true.1 h1 z (by simp [hz])))
  ·rcases List.mem_cons.1 hm with rfl | hm
   ·rcases Bool.or_eq_true_iff.1 h.1 with h1 | h1
    ·rw [hs] at h1; cases h1
    ·have:=List.all_eq_true.1 h1 y (by simp)
     rw [hy] at this;rintro ⟨e1,e2⟩;simp [e1,e2] at this
   ·exact ih.2 hy m hm hs
theorem up_of_mem (L : List R3) : udistB L = true -> ∀ x ∈ L,skipB x = false -> upF L (x.2.1,x.2.2) = some x.1:=by
 refine snoc_ind (P:=fun L=>udistB L = true -> ∀ x ∈ L,skipB x = false -> upF L (x.2.1,x.2.2) = some x.1) (fun _ x hx=>by simp at hx) (fun M y ih hd x hx hs=>?_) L
 have h:=udist_snoc M y hd
 rw [up_snoc];show (if skipB y = true then upF M (x.2.1,x.2.2) else if (x.2.1,x.2.2) = (y.2.1,y.2.2) then some y.1 else upF M (x.2.1,x.2.2)) = _
 rcases List.mem_append.1 hx with hm | hm
 ·split
  ·exact ih h.1 x hm hs
  ·rename_i hy
   have hy' : skipB y = false:=by simpa using hy
   have:=h.2 hy' x hm hs
   rw [if_neg (fun e=>this (by simpa using e))]
   exact ih h.1 x hm hs
 ·simp at hm; subst hm
  rw [if_neg (by simp [hs]),if_pos rfl]
theorem up_mem (L : List R3) (k : Int × Int) (z : Int) : upF L k = some z -> ∃ x ∈ L,skipB x = false ∧ k = (x.2.1,x.2.2) ∧ z = x.1:=by
 refine snoc_ind (P:=fun L=>upF L k = some z -> ∃ x ∈ L,skipB x = false ∧ k = (x.2.1,x.2.2) ∧ z = x.1) (fun h=>by simp [upF] at h) (fun M y ih h=>?_) L
 rw [up_snoc] at h;have h' : (if skipB y = true then upF M k else if k = (y.2.1,y.2.2) then some y.1 else upF M k) = some z:=h
 split at h'
 ·obtain ⟨x,hx,h1⟩:=ih h'
  exact ⟨x,by simp [hx],h1⟩
 ·rename_i hy
  split at h'
  ·rename_i e
   exact ⟨y,by simp,by simpa using hy,e,(Option.some.inj h').symm⟩
  ·obtain ⟨x,hx,h1⟩:=ih h'
   exact ⟨x,by simp [hx],h1⟩
theorem sc_pos (L : List R3) (r : Int) : 0 < (scF L r).getD 0 ↔ ∃ x ∈ L,skipB x = false ∧ x.2.2 = r:=by
 refine snoc_ind (P:=fun L=>0 < (scF L r).getD 0 ↔ ∃ x ∈ L,skipB x = false ∧ x.2.2 = r) (by simp [scF]) (fun M y ih=>?_) L
 rw [sc_snoc];show 0 < (if skipB y = true then scF M r else if r = y.2.2 then some ((scF M y.2.2).getD 0 + 1) else scF M r).getD 0 ↔ _
 have hex : (∃ x ∈ M ++ [y],skipB x = false ∧ x.2.2 = r) ↔ (∃ x ∈ M,skipB x = false ∧ x.2.2 = r) ∨ (skipB y = false ∧ y.2.2 = r):=by
  constructor
  ·rintro ⟨x,hx,h⟩;rcases List.mem_append.1 hx with hm | hm
   ·exact .inl ⟨x,hm,h⟩
   ·simp at hm; subst hm; exact .inr h
  ·rintro (⟨x,hx,h⟩ | h)
   ·exact ⟨x,by simp [hx],h⟩
   ·exact ⟨y,by simp,h⟩
 rw [hex];split
 ·rename_i hy
  rw [ih];constructor
  ·exact .inl
  ·rintro (h | ⟨h,_⟩)
   ·exact h
   ·rw [hy] at h; cases h
 ·rename_i hy
  have hy' : skipB y = false:=by simpa using hy
  split
  ·rename_i e
   have:=(sc_bd y.2.2 M).1
   simp only [Option.getD_some]
   constructor
   ·intro _; exact .inr ⟨hy',e.symm⟩
   ·intro _; omega
  ·rename_i e
   rw [ih];constructor
   ·exact .inl
   ·rintro (h | ⟨_,h⟩)
    ·exact h
    ·exact absurd h.symm e
theorem back1 (r x y : Int) (h : dnF allP r = some (x,y,2)) (hx : exB r = false) : upF allP (x,y) = some r:=by
 obtain ⟨R,hR,e1,e2⟩:=dn_mem allP r _ h
 unfold valP at e2;simp only [Prod.mk.injEq] at e2
 obtain ⟨a1,a2,a3⟩:=e2
 have h0 : R.2.2 ≠ 0:=fun e=>by rw [if_pos e] at a3; cases a3
 have hs : skipB R = false:=by unfold skipB;rw [e1,hx];simp [h0]
 have:=up_of_mem allP all_udist R hR hs
 rw [a1,a2,<- e1]; exact this
def inSpan (r : Int) : Bool:=spanT.any (fun x=>decide (x.1 <= r) && decide (r <= x.2.1))
theorem low_out (r : Int) : ∀ (T : List S4),T.any (fun x=>decide (x.1 <= r) && decide (r <= x.2.1)) = false -> lowP r T = r
 | [],_=>rfl
 | x :: T,h=>by rw [List.any_cons,Bool.or_eq_false_iff] at h;unfold lowP;rw [if_neg (fun hh=>by simp [hh.1,hh.2.1] at h),low_out r T h.2]
def spanEach (x : S4) : Bool:=(List.range (x.2.1 - x.1 + 1).toNat).all (fun i=>lowP (lowP (x.1 + (i : Nat)) spanT) spanT == lowP (x.1 + (i : Nat)) spanT && decide (0 <= lowP (x.1 + (i : Nat)) spanT) && decide (lowP (x.1 + (i : Nat)) spanT <= 100000))
theorem span_each : spanT.all spanEach = true:=by kernel_rfl
theorem low_facts (r : Int) (hr : I32 r) : lowP (lowP r spanT) spanT = lowP r spanT ∧ I32 (lowP r spanT):=by
 cases h : inSpan r with
 | false =>
  have:=low_out r spanT h
  rw [this]; exact ⟨this,hr⟩
 | true =>
  obtain ⟨x,hx,hh⟩:=List.any_eq_true.1 h
  rw [Bool.and_eq_true,decide_eq_true_eq,decide_eq_true_eq] at hh;have h1:=List.all_eq_true.1 span_each x hx
  have h2:=List.all_eq_true.1 h1 (r - x.1).toNat (List.mem_range.2 (by omega))
  rw [show x.1 + ((r - x.1).toNat : Int) = r by omega] at h2
  simp only [Bool.and_eq_true,beq_iff_eq,decide_eq_true_eq] at h2
  refine ⟨h2.1.1,?_⟩
  unfold I32;omega
def kanaOk (v : Int) : Bool:=widP v == v && decide (0 <= v) && decide (v <= 100000)
theorem kana_each : kanaT.all kanaOk = true:=by kernel_rfl
theorem wid_facts (r : Int) (hr : I32 r) : widP (widP r) = widP r ∧ I32 (widP r):=by
 have hr':=hr
 unfold I32 at hr';by_cases h1 : 65281 <= r ∧ r <= 65374
 ·have e : widP r = r - 65281 + 33:=if_pos h1
  rw [e];refine ⟨?_,by unfold I32; omega⟩
  unfold widP;rw [if_neg (by omega),if_neg (by omega),if_neg (by omega),if_neg (by omega)]
 by_cases h2 : r = 65377
 ·subst h2; exact ⟨rfl,by unfold I32; exact ⟨by decide,by decide⟩⟩
 by_cases h3 : r = 65381
 ·subst h3; exact ⟨rfl,by unfold I32; exact ⟨by decide,by decide⟩⟩
 by_cases h4 : 65382 <= r ∧ r <= 65439
 ·have e : widP r = kanaT.getD (r - 65382).toNat 0:=by unfold widP; rw [if_neg h1,if_neg h2,if_neg h3,if_pos h4]
  have hk : (r - 65382).toNat < kanaT.length:=by show _ < 58; omega
  rw [List.getD_eq_getElem?_getD,List.getElem?_eq_getElem hk] at e;simp only [Option.getD_some] at e
  have h5:=List.all_eq_true.1 kana_each kanaT[(r - 65382).toNat] (List.getElem_mem hk)
  unfold kanaOk at h5;simp only [Bool.and_eq_true,beq_iff_eq,decide_eq_true_eq] at h5
  rw [e];exact ⟨h5.1.1,by unfold I32; omega⟩
 ·have e : widP r = r:=by unfold widP; rw [if_neg h1,if_neg h2,if_neg h3,if_neg h4]
  rw [e]; exact ⟨e,hr⟩
def d1 (r : Int) : Int:=((dnF allP r).getD (0,0,0)).1
def d2 (r : Int) : Int:=((dnF allP r).getD (0,0,0)).2.1
def d3 (r : Int) : Int:=((dnF allP r).getD (0,0,0)).2.2
def u1 (a b : Int) : Int:=(upF allP (a,b)).getD 0
def u2 (a b : Int) : Bool:=(upF allP (a,b)).isSome
def exq (r : Int) : Bool:=exF (dnF allP r) r
def s1 (r : Int) : Bool:=decide (0 < (scF allP r).getD 0)
section
variable {w : World} {p d u s : Nat}
theorem down_g (h : PW w p d u s allP 395) {r : Int} (hr : I32 r) : Calls Tryz.prog 226 #[.pointer (some ⟨p,0,none⟩),.int .i32 r] w fun e w'=>e = .returned (.tuple #[.int .i32 (d1 r),.int .i32 (d2 r),.int .i64 (d3 r)]) ∧ Below w.heap.size w w':=down_any h hr rfl
theorem up_g (h : PW w p d u s allP 395) {a b : Int} (ha : I32 a) (hb : I32 b) : Calls Tryz.prog 223 #[.pointer (some ⟨p,0,none⟩),.int .i32 a,.int .i32 b] w fun e w'=>e = .returned (.tuple #[.int .i32 (u1 a b),.bool (u2 a b)]) ∧ w' = w:=up_any h ha hb rfl rfl
end
theorem d_bd (r : Int) : I32 (d1 r) ∧ I32 (d2 r) ∧ 0 <= d3 r ∧ d3 r <= 2:=by
 unfold d1 d2 d3;cases hd : dnF allP r with
 | none=>exact ⟨⟨by decide,by decide⟩,⟨by decide,by decide⟩,by decide,by decide⟩
 | some v =>
  obtain ⟨R,hR,_,rfl⟩:=dn_mem allP r v hd
  have hb:=all_bd R hR
  refine ⟨hb.2.1,hb.2.2,?_⟩
  show 0 <= (valP R).2.2 ∧ (valP R).2.2 <= 2
  unfold valP;simp only
  split <;> decide
theorem u_bd (a b : Int) : I32 (u1 a b):=by
 unfold u1;cases hu : upF allP (a,b) with
 | none=>exact ⟨by decide,by decide⟩
 | some z =>
  obtain ⟨R,hR,_,_,rfl⟩:=up_mem allP _ z hu
  exact (all_bd R hR).1
theorem bk1 (r : Int) (h3 : d3 r = 2) (he : exq r = false) : u1 (d1 r) (d2 r) = r ∧ u2 (d1 r) (d2 r) = true:=by
 unfold d3 at h3;unfold d1 d2 u1 u2;unfold exq exF at he;rw [Bool.or_eq_false_iff] at he;cases hd : dnF allP r with
 | none=>rw [hd] at h3; simp at h3
 | some v =>
  obtain ⟨v1,v2,v3⟩:=v
  rw [hd] at h3;simp only [Option.getD_some] at h3 ⊢
  subst h3;rw [back1 r v1 v2 hd he.2];exact ⟨rfl,rfl⟩
end Go.Proofs.YtkhipgcgcbhjoaaGreat.Pr
namespace Go.Proofs.YtkhipgcgcbhjoaaGreat.Pr
open Go.RowKit Go.Great
def posA (f : Func) : String :=
 match f.body with
 | some (.seq (.region _ ops _) _) => (ops[0]?.map (fun o => o.pos)).getD ""
 | _ => ""
def posB (f : Func) : String :=
 match f.body with
 | some (.seq _ (.seq (.region _ ops _) _)) => (ops[0]?.map (fun o => o.pos)).getD ""
 | _ => ""
def rc3 (x : R3) : List Value:=[.int .i64 x.1,.int .i64 x.2.1,.int .i64 x.2.2]
def rlOps (pos : String) : Nat -> List R3 -> List Oper
 | _,[]=>[]
 | d,x :: xs =>
  { dst:=some d,op:=.build 274 #[(0,.const (.int .i64 x.1)),(1,.const (.int .i64 x.2.1)),(2,.const (.int .i64 x.2.2))],type:=274,pos:=pos,after:=#[],guard:=none } ::
  rlOps pos (d + 1) xs
theorem rbuilt3 (x : R3) : Tryz.prog.built 274 [(0,.int .i64 x.1),(1,.int .i64 x.2.1),(2,.int .i64 x.2.2)] = some (rc3 x).toArray:=by kernel_rfl
theorem wpList_rls {ops : Array Oper} {rest : List Oper} {w : World} {Q : Exit -> Act -> World -> Prop} (pos : String) :
 ∀ (xs : List R3) (d : Nat) (a : Act),d + xs.length <= a.tmps.size ->
  (∀ a' : Act,a'.tmps.size = a.tmps.size -> a'.defers = a.defers -> (∀ i (h : i < xs.length),a'.eval (.tmp (d + i)) = .agg (rc3 xs[i]).toArray) ->
   (∀ j,j < d -> a'.eval (.tmp j) = a.eval (.tmp j)) -> wpList Tryz.prog ops Q rest a' w) ->
  wpList Tryz.prog ops Q (rlOps pos d xs ++ rest) a w
 | [],d,a,_,h=>h a rfl rfl (fun i hi=>absurd hi (by simp)) (fun _ _=>rfl)
 | x :: xs,d,a,hd,h=>by
  have hlt : d < a.tmps.size:=by simp at hd; omega
  show wpList Tryz.prog ops Q (_ :: (rlOps pos (d + 1) xs ++ rest)) a w
  refine wpList_buildTo rfl 274 _ rfl (some d) rfl (rc3 x).toArray (by simpa [Act.eval] using rbuilt3 x) ?_
  refine wpList_rls pos xs (d + 1) _ (by rw [Act.size_put]; simp at hd; omega) fun a' hs hdf hev hlow=>?_
  refine h a' (by rw [hs,Act.size_put]) (by rw [hdf,Act.defers_put']) (fun i hi=>?_) (fun j hj=>?_)
  ·cases i with
   | zero=>rw [show d + 0 = d by omega,hlow d (by omega),Act.eval_put_same _ _ _ (by omega)]; rfl
   | succ i =>
    have:=hev i (by simpa using hi)
    rw [show d + (i + 1) = d + 1 + i by omega,this]
    rfl
  ·rw [hlow j (by omega),Act.eval_put_ne _ _ _ _ (by omega)]
def rlitEnd (p2 : String) (n : Nat) : List Oper :=
 [{ dst:=some (n + 1),op:=.buildSlice 227 n ((List.range n).map fun i=>(i,Operand.tmp (1 + i))).toArray,type:=227,pos:=p2,after:=((List.range n).map fun i=>⟨i,.data⟩).toArray,guard:=none },
  { dst:=some 0,op:=.assign (.tmp (n + 1)),type:=227,pos:=p2,after:=(⟨n,.data⟩ :: (List.range (n + 1)).map fun i=>⟨i,.phase⟩).toArray,guard:=none }]
def rlitStart (p1 : String) : List Oper:=[{ dst:=some 0,op:=.assign (.const (.slice none 0 0)),type:=227,pos:=p1,after:=#[],guard:=none }]
def rlitBody (p1 p2 : String) (T : List R3) : Code :=
 .seq (.region 0 (rlitStart p1).toArray false) (.seq (.region 1 (rlOps p2 1 T ++ rlitEnd p2 T.length).toArray false) .ret)
theorem rlit_calls {f : FuncId} {fn : Func} (p1 p2 : String) (T : List R3) (w : World) (hf : Tryz.prog.funcs[f]? = some fn) (hb : fn.body = some (rlitBody p1 p2 T)) (hr : fn.results = #[.tmp 0]) (hn : fn.ntmps = T.length + 2)
 (hpos : 0 < T.length) (hsmall : T.length * 3 <= 2 ^ 24) :
 Calls Tryz.prog f #[] w fun e w'=>e = .returned (.slice (some ⟨w.heap.size,0,none⟩) T.length T.length) ∧ w' = w.alloc (.cells (T.flatMap rc3).toArray 274):=by
 refine calls_of_wp hf hb ?_
 refine wp_anyFrame (T.length + 2) (by simp [hn]) rfl fun a0 hs0 hd0=>?_
 unfold rlitBody;apply wp_seq_k; intro K0 hK0
 apply wp_region_lit
 unfold rlitStart;refine wpList_readTo rfl (some 0) rfl (.slice none 0 0) rfl ?_
 apply wpList_nil
 refine hK0 _ _ ?_
 refine wp_anyFrame (T.length + 2) (by simp only [Act.size_put,hs0]) (by simp only [Act.defers_put',hd0]) fun a1 hs1 hd1=>?_
 clear hK0 K0;apply wp_seq_k; intro K1 hK1
 apply wp_region_lit
 refine wpList_rls p2 T 1 a1 (by omega) fun b hbs hbd hev _=>?_
 have hl : (T.map fun x=>Value.agg (rc3 x).toArray).length = T.length:=by simp
 have hfl : ((T.map fun x=>Value.agg (rc3 x).toArray).flatMap fun v=>v.cells.toList) = T.flatMap rc3:=by simp [List.flatMap_map,Value.cells]
 unfold rlitEnd;refine wpList_buildRows rfl 227 274 _ 3 (T.map fun x=>Value.agg (rc3 x).toArray) (by rw [hl]) (fun i=>1 + i) w.heap.size rfl (some (T.length + 1)) rfl (by kernel_rfl) (by kernel_rfl) (by kernel_rfl) (by omega) (by rw [hl]; exact hpos) (by rw [hl]; exact hsmall)
  (by rw [hl]) (fun v hv=>by obtain ⟨x,_,rfl⟩:=List.mem_map.1 hv; rfl) (fun i hi=>by rw [hev i (by simpa using hi)]; simp) ?_
 rw [hl,hfl];refine wpList_readTo rfl (some 0) rfl (.slice (some ⟨w.heap.size,0,none⟩) T.length T.length) ?_ ?_
 ·show Sem.run _ _ _ = _
  simp only [execOp]
  rw [Act.eval_put_same _ _ _ (by omega)];rfl
 apply wpList_nil
 refine hK1 _ _ ?_
 refine wp_ret (bodyPost_ret (results_tmp hr _ _ _) (by simp only [Act.defers_put',hbd,hd1]) ?_)
 refine ⟨?_,rfl⟩
 have:=Act.eval_put_same (b.put (some (T.length + 1)) (.slice (some ⟨w.heap.size,0,none⟩) T.length T.length)) 0 (.slice (some ⟨w.heap.size,0,none⟩) T.length T.length) (by rw [Act.size_put]; omega)
 exact congrArg Ending.returned this
theorem parts_all : singT ++ pairT0 ++ pairT1 ++ pairT2 ++ pairT3 ++ pairT4 ++ pairT5 ++ pairT6 = allP:=by unfold allP pairT; simp only [List.append_assoc]
end Go.Proofs.YtkhipgcgcbhjoaaGreat.Pr
namespace Go.Proofs.YtkhipgcgcbhjoaaGreat.Pr
open Go.RowKit
def rdP (r : Int) : List R3 -> Pt
 | []=>(0,0,0)
 | x :: l=>if x.1 = r then valP x else rdP r l
def rexq (T : List R3) (r : Int) : Bool:=(rdP r T).2.2 == 1 || exB r
def rsB (A : List R3) (r : Int) : List R3 -> Bool
 | []=>false
 | x :: l=>if x.2.2 = r ∧ r ≠ 0 ∧ rexq A x.1 = false then true else rsB A r l
theorem rd_of_mem : ∀ (L : List R3),distB L = true -> ∀ x ∈ L,rdP x.1 L = valP x
 | [],_,x,hx=>by simp at hx
 | y :: L,hd,x,hx=>by
  simp only [distB,Bool.and_eq_true] at hd
  unfold rdP;rcases List.mem_cons.1 hx with rfl | hx
  ·rw [if_pos rfl]
  ·have:=List.all_eq_true.1 hd.1 x hx
   rw [if_neg (fun e=>by simp [e] at this)]
   exact rd_of_mem L hd.2 x hx
theorem rd_none (r : Int) : ∀ (L : List R3),(∀ x ∈ L,x.1 ≠ r) -> rdP r L = (0,0,0)
 | [],_=>rfl
 | y :: L,h=>by unfold rdP;rw [if_neg (h y (by simp))];exact rd_none r L (fun x hx=>h x (by simp [hx]))
theorem rd_dn (r : Int) : rdP r allP = (dnF allP r).getD (0,0,0):=by
 cases hd : dnF allP r with
 | some v =>
  obtain ⟨R,hR,rfl,rfl⟩:=dn_mem allP r v hd
  exact rd_of_mem allP all_dist R hR
 | none =>
  refine rd_none r allP (fun x hx e=>?_)
  have:=dn_of_mem allP all_dist x hx
  rw [e,hd] at this; cases this
theorem rex_eq (r : Int) : rexq allP r = exq r:=by unfold rexq exq exF; rw [rd_dn]
theorem rex_skip (x : R3) (hx : x ∈ allP) : rexq allP x.1 = skipB x:=by
 unfold rexq skipB;rw [rd_of_mem allP all_dist x hx];unfold valP;simp only
 by_cases h : x.2.2 = 0
 ·rw [if_pos h,h]; rfl
 ·rw [if_neg h];have : (x.2.2 == 0) = false:=by simpa using h
  rw [this]; rfl
theorem rs_any (r : Int) : ∀ (L : List R3),(∀ x ∈ L,x ∈ allP) -> (rsB allP r L = true ↔ ∃ x ∈ L,skipB x = false ∧ x.2.2 = r)
 | [],_=>by simp [rsB]
 | y :: L,h=>by
  have ih:=rs_any r L (fun x hx=>h x (by simp [hx]))
  unfold rsB;rw [rex_skip y (h y (by simp))];split
  ·rename_i hh
   constructor
   ·intro _; exact ⟨y,by simp,hh.2.2,hh.1⟩
   ·intro _; rfl
  ·rename_i hh
   rw [ih];constructor
   ·rintro ⟨x,hx,h1⟩; exact ⟨x,by simp [hx],h1⟩
   ·rintro ⟨x,hx,h1,h2⟩;rcases List.mem_cons.1 hx with rfl | hx
    ·exfalso
     have h3 : x.2.2 ≠ 0:=by unfold skipB at h1;rw [Bool.or_eq_false_iff] at h1;simpa using h1.1
     exact hh ⟨h2,by rw [<- h2]; exact h3,h1⟩
    ·exact ⟨x,hx,h1,h2⟩
theorem rs_eq (r : Int) : rsB allP r allP = s1 r:=by
 rw [Bool.eq_iff_iff,rs_any r allP (fun _ h=>h)]
 unfold s1;rw [decide_eq_true_eq,sc_pos]
end Go.Proofs.YtkhipgcgcbhjoaaGreat.Pr
