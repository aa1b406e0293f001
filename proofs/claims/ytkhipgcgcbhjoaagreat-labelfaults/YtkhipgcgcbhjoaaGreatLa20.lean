import Derived.Test.YtkhipgcgcbhjoaaGreatLa19
import Derived.Great.CaseRows
set_option maxRecDepth 1000000
set_option maxHeartbeats 4000000
namespace Go.Proofs.YtkhipgcgcbhjoaaGreat.Pr
open Go.RowKit Go.Lib
theorem dist_snoc : ∀ (M : List R3) (y : R3),distB (M ++ [y]) = true -> distB M = true ∧ ∀ m ∈ M,m.1 ≠ y.1
 | [],y,_=>⟨rfl,fun m hm=>by simp at hm⟩
 | x :: M,y,h=>by
  simp only [List.cons_append,distB,Bool.and_eq_true] at h
  have ih:=dist_snoc M y h.2
  have ha:=List.all_eq_true.1 h.1
  refine ⟨?_,fun m hm=>?_⟩
  ·simp only [distB,Bool.and_eq_true]
   exact ⟨List.all_eq_true.2 (fun z hz=>ha z (by simp [hz])),ih.1⟩
  ·rcases List.mem_cons.1 hm with rfl | hm
   ·have:=ha y (by simp)
    intro e
    simp [e] at this
   ·exact ih.2 m hm
theorem dn_of_mem (L : List R3) : distB L = true -> ∀ x ∈ L,dnF L x.1 = some (valP x):=by
 refine snoc_ind (P:=fun L=>distB L = true -> ∀ x ∈ L,dnF L x.1 = some (valP x)) (fun _ x hx=>by simp at hx) (fun M y ih hd x hx=>?_) L
 have h:=dist_snoc M y hd
 rw [dn_snoc];show (if x.1 = y.1 then some (valP y) else dnF M x.1) = _
 rcases List.mem_append.1 hx with hm | hm
 ·rw [if_neg (h.2 x hm)]; exact ih h.1 x hm
 ·simp at hm; subst hm; rw [if_pos rfl]
theorem dn_mem (L : List R3) (r : Int) (v : Pt) : dnF L r = some v -> ∃ x ∈ L,x.1 = r ∧ v = valP x:=by
 refine snoc_ind (P:=fun L=>dnF L r = some v -> ∃ x ∈ L,x.1 = r ∧ v = valP x) (fun h=>by simp [dnF] at h) (fun M y ih h=>?_) L
 rw [dn_snoc] at h;have h' : (if r = y.1 then some (valP y) else dnF M r) = some v:=h
 split at h'
 ·rename_i e
  exact ⟨y,by simp,e.symm,(Option.some.inj h').symm⟩
 ·obtain ⟨x,hx,h1,h2⟩:=ih h'
  exact ⟨x,by simp [hx],h1,h2⟩
def udistB : List R3 -> Bool
 | []=>true
 | x :: l=>(skipB x || l.all (fun y=>skipB y || !(y.2.1 == x.2.1 && y.2.2 == x.2.2))) && udistB l
theorem all_udist : udistB allP = true:=by kernel_rfl
theorem udist_snoc : ∀ (M : List R3) (y : R3),udistB (M ++ [y]) = true -> udistB M = true ∧ (skipB y = false -> ∀ m ∈ M,skipB m = false -> ¬ (m.2.1 = y.2.1 ∧ m.2.2 = y.2.2))
 | [],y,_=>⟨rfl,fun _ m hm=>by simp at hm⟩
 | x :: M,y,h=>by
  simp only [List.cons_append,udistB,Bool.and_eq_true] at h
  have ih:=udist_snoc M y h.2
  refine ⟨?_,fun hy m hm hs=>?_⟩
  ·simp only [udistB,Bool.and_eq_true]
   refine ⟨?_,ih.1⟩
   rcases Bool.or_eq_true_iff.1 h.1 with h1 | h1
   ·rw [h1]; rfl
   ·rw [Bool.or_eq_true];exact .inr (List.all_eq_true.2 (fun z hz=>List.all_eq_true.1 h1 z (by simp [hz])))
  ·rcases List.mem_cons.1 hm with rfl | hm
   ·rcases Bool.or_eq_true_iff.1 h.1 with h1 | h1
    ·rw [hs] at h1; cases h1
    ·have:=List.all_eq_true.1 h1 y (by simp)
     rw [hy] at this;rintro ⟨e1,e2⟩;simp [e1,e2] at this
   ·exact ih.2 hy m hm hs
theorem up_of_mem (L : List R3) : udistB L = true -> ∀ x ∈ L,skipB x = false -> upF L (x.2.1,x.2.2) = some x.1:=by
 refine snoc_ind (P:=fun L=>udistB L = true -> ∀ x ∈ L,skipB x = false -> upF L (x.2.1,x.2.2) = some x.1) (fun _ x hx=>by simp at hx) (fun M y ih hd x hx hs=>?_) L
 have h:=udist_snoc M y hd
 rw [up_snoc];show (if skipB y = true then upF M (x.2.1,x.2.2) else if (x.2.1,x.2.2) = (y.2.1,y.2.2) then some y.1 else upF M (x.2.1,x.2.2)) = _
 rcases List.mem_append.1 hx with hm | hm
 ·split
  ·exact ih h.1 x hm hs
  ·rename_i hy
   have hy' : skipB y = false:=by simpa using hy
   have:=h.2 hy' x hm hs
   rw [if_neg (fun e=>this (by simpa using e))]
   exact ih h.1 x hm hs
 ·simp at hm; subst hm
  rw [if_neg (by simp [hs]),if_pos rfl]
theorem up_mem (L : List R3) (k : Int × Int) (z : Int) : upF L k = some z -> ∃ x ∈ L,skipB x = false ∧ k = (x.2.1,x.2.2) ∧ z = x.1:=by
 refine snoc_ind (P:=fun L=>upF L k = some z -> ∃ x ∈ L,skipB x = false ∧ k = (x.2.1,x.2.2) ∧ z = x.1) (fun h=>by simp [upF] at h) (fun M y ih h=>?_) L
 rw [up_snoc] at h;have h' : (if skipB y = true then upF M k else if k = (y.2.1,y.2.2) then some y.1 else upF M k) = some z:=h
 split at h'
 ·obtain ⟨x,hx,h1⟩:=ih h'
  exact ⟨x,by simp [hx],h1⟩
 ·rename_i hy
  split at h'
  ·rename_i e
   exact ⟨y,by simp,by simpa using hy,e,(Option.some.inj h').symm⟩
  ·obtain ⟨x,hx,h1⟩:=ih h'
   exact ⟨x,by simp [hx],h1⟩
def d1 (r : Int) : Int:=((dnF allP r).getD (0,0,0)).1
def d2 (r : Int) : Int:=((dnF allP r).getD (0,0,0)).2.1
def d3 (r : Int) : Int:=((dnF allP r).getD (0,0,0)).2.2
def u1 (a b : Int) : Int:=(upF allP (a,b)).getD 0
def u2 (a b : Int) : Bool:=(upF allP (a,b)).isSome
def s1 (r : Int) : Bool:=decide (0 < (scF allP r).getD 0)
section
variable {w : World} {p d u s : Nat}
theorem down_g (h : PW w p d u s allP 395) {r : Int} (hr : I32 r) : Calls Tryz.prog 226 #[.pointer (some ⟨p,0,none⟩),.int .i32 r] w fun e w'=>e = .returned (.tuple #[.int .i32 (d1 r),.int .i32 (d2 r),.int .i64 (d3 r)]) ∧ Below w.heap.size w w':=down_any h hr rfl
theorem up_g (h : PW w p d u s allP 395) {a b : Int} (ha : I32 a) (hb : I32 b) : Calls Tryz.prog 223 #[.pointer (some ⟨p,0,none⟩),.int .i32 a,.int .i32 b] w fun e w'=>e = .returned (.tuple #[.int .i32 (u1 a b),.bool (u2 a b)]) ∧ w' = w:=up_any h ha hb rfl rfl
end
theorem d_bd (r : Int) : I32 (d1 r) ∧ I32 (d2 r) ∧ 0 <= d3 r ∧ d3 r <= 2:=by
 unfold d1 d2 d3;cases hd : dnF allP r with
 | none=>exact ⟨⟨by decide,by decide⟩,⟨by decide,by decide⟩,by decide,by decide⟩
 | some v =>
  obtain ⟨R,hR,_,rfl⟩:=dn_mem allP r v hd
  have hb:=all_bd R hR
  refine ⟨hb.2.1,hb.2.2,?_⟩
  show 0 <= (valP R).2.2 ∧ (valP R).2.2 <= 2
  unfold valP;simp only
  split <;> decide
theorem u_bd (a b : Int) : I32 (u1 a b):=by
 unfold u1;cases hu : upF allP (a,b) with
 | none=>exact ⟨by decide,by decide⟩
 | some z =>
  obtain ⟨R,hR,_,_,rfl⟩:=up_mem allP _ z hu
  exact (all_bd R hR).1
end Go.Proofs.YtkhipgcgcbhjoaaGreat.Pr
namespace Go.Proofs.YtkhipgcgcbhjoaaGreat.Pr
open Go.RowKit Go.Great
def posA (f : Func) : String :=
 match f.body with
 | some (.seq (.region _ ops _) _) => (ops[0]?.map (fun o => o.pos)).getD ""
 | _ => ""
def posB (f : Func) : String :=
 match f.body with
 | some (.seq _ (.seq (.region _ ops _) _)) => (ops[0]?.map (fun o => o.pos)).getD ""
 | _ => ""
def rc3 (x : R3) : List Value:=[.int .i64 x.1,.int .i64 x.2.1,.int .i64 x.2.2]
def rlOps (pos : String) : Nat -> List R3 -> List Oper
 | _,[]=>[]
 | d,x :: xs =>
  { dst:=some d,op:=.build 274 #[(0,.const (.int .i64 x.1)),(1,.const (.int .i64 x.2.1)),(2,.const (.int .i64 x.2.2))],type:=274,pos:=pos,after:=#[],guard:=none } ::
  rlOps pos (d + 1) xs
theorem rbuilt3 (x : R3) : Tryz.prog.built 274 [(0,.int .i64 x.1),(1,.int .i64 x.2.1),(2,.int .i64 x.2.2)] = some (rc3 x).toArray:=by kernel_rfl
theorem wpList_rls {ops : Array Oper} {rest : List Oper} {w : World} {Q : Exit -> Act -> World -> Prop} (pos : String) :
 ∀ (xs : List R3) (d : Nat) (a : Act),d + xs.length <= a.tmps.size ->
  (∀ a' : Act,a'.tmps.size = a.tmps.size -> a'.defers = a.defers -> (∀ i (h : i < xs.length),a'.eval (.tmp (d + i)) = .agg (rc3 xs[i]).toArray) ->
   (∀ j,j < d -> a'.eval (.tmp j) = a.eval (.tmp j)) -> wpList Tryz.prog ops Q rest a' w) ->
  wpList Tryz.prog ops Q (rlOps pos d xs ++ rest) a w
 | [],d,a,_,h=>h a rfl rfl (fun i hi=>absurd hi (by simp)) (fun _ _=>rfl)
 | x :: xs,d,a,hd,h=>by
  have hlt : d < a.tmps.size:=by simp at hd; omega
  show wpList Tryz.prog ops Q (_ :: (rlOps pos (d + 1) xs ++ rest)) a w
  refine wpList_buildTo rfl 274 _ rfl (some d) rfl (rc3 x).toArray (by simpa [Act.eval] using rbuilt3 x) ?_
  refine wpList_rls pos xs (d + 1) _ (by rw [Act.size_put]; simp at hd; omega) fun a' hs hdf hev hlow=>?_
  refine h a' (by rw [hs,Act.size_put]) (by rw [hdf,Act.defers_put']) (fun i hi=>?_) (fun j hj=>?_)
  ·cases i with
   | zero=>rw [show d + 0 = d by omega,hlow d (by omega),Act.eval_put_same _ _ _ (by omega)]; rfl
   | succ i =>
    have:=hev i (by simpa using hi)
    rw [show d + (i + 1) = d + 1 + i by omega,this]
    rfl
  ·rw [hlow j (by omega),Act.eval_put_ne _ _ _ _ (by omega)]
def rlitEnd (p2 : String) (n : Nat) : List Oper :=
 [{ dst:=some (n + 1),op:=.buildSlice 227 n ((List.range n).map fun i=>(i,Operand.tmp (1 + i))).toArray,type:=227,pos:=p2,after:=((List.range n).map fun i=>⟨i,.data⟩).toArray,guard:=none },
  { dst:=some 0,op:=.assign (.tmp (n + 1)),type:=227,pos:=p2,after:=(⟨n,.data⟩ :: (List.range (n + 1)).map fun i=>⟨i,.phase⟩).toArray,guard:=none }]
def rlitStart (p1 : String) : List Oper:=[{ dst:=some 0,op:=.assign (.const (.slice none 0 0)),type:=227,pos:=p1,after:=#[],guard:=none }]
def rlitBody (p1 p2 : String) (T : List R3) : Code :=
 .seq (.region 0 (rlitStart p1).toArray false) (.seq (.region 1 (rlOps p2 1 T ++ rlitEnd p2 T.length).toArray false) .ret)
theorem rlit_calls {f : FuncId} {fn : Func} (p1 p2 : String) (T : List R3) (w : World) (hf : Tryz.prog.funcs[f]? = some fn) (hb : fn.body = some (rlitBody p1 p2 T)) (hr : fn.results = #[.tmp 0]) (hn : fn.ntmps = T.length + 2)
 (hpos : 0 < T.length) (hsmall : T.length * 3 <= 2 ^ 24) :
 Calls Tryz.prog f #[] w fun e w'=>e = .returned (.slice (some ⟨w.heap.size,0,none⟩) T.length T.length) ∧ w' = w.alloc (.cells (T.flatMap rc3).toArray 274):=by
 refine calls_of_wp hf hb ?_
 refine wp_anyFrame (T.length + 2) (by simp [hn]) rfl fun a0 hs0 hd0=>?_
 unfold rlitBody;apply wp_seq_k; intro K0 hK0
 apply wp_region_lit
 unfold rlitStart;refine wpList_readTo rfl (some 0) rfl (.slice none 0 0) rfl ?_
 apply wpList_nil
 refine hK0 _ _ ?_
 refine wp_anyFrame (T.length + 2) (by simp only [Act.size_put,hs0]) (by simp only [Act.defers_put',hd0]) fun a1 hs1 hd1=>?_
 clear hK0 K0;apply wp_seq_k; intro K1 hK1
 apply wp_region_lit
 refine wpList_rls p2 T 1 a1 (by omega) fun b hbs hbd hev _=>?_
 have hl : (T.map fun x=>Value.agg (rc3 x).toArray).length = T.length:=by simp
 have hfl : ((T.map fun x=>Value.agg (rc3 x).toArray).flatMap fun v=>v.cells.toList) = T.flatMap rc3:=by simp [List.flatMap_map,Value.cells]
 unfold rlitEnd;refine wpList_buildRows rfl 227 274 _ 3 (T.map fun x=>Value.agg (rc3 x).toArray) (by rw [hl]) (fun i=>1 + i) w.heap.size rfl (some (T.length + 1)) rfl (by kernel_rfl) (by kernel_rfl) (by kernel_rfl) (by omega) (by rw [hl]; exact hpos) (by rw [hl]; exact hsmall)
  (by rw [hl]) (fun v hv=>by obtain ⟨x,_,rfl⟩:=List.mem_map.1 hv; rfl) (fun i hi=>by rw [hev i (by simpa using hi)]; simp) ?_
 rw [hl,hfl];refine wpList_readTo rfl (some 0) rfl (.slice (some ⟨w.heap.size,0,none⟩) T.length T.length) ?_ ?_
 ·show Sem.run _ _ _ = _
  simp only [execOp]
  rw [Act.eval_put_same _ _ _ (by omega)];rfl
 apply wpList_nil
 refine hK1 _ _ ?_
 refine wp_ret (bodyPost_ret (results_tmp hr _ _ _) (by simp only [Act.defers_put',hbd,hd1]) ?_)
 refine ⟨?_,rfl⟩
 have:=Act.eval_put_same (b.put (some (T.length + 1)) (.slice (some ⟨w.heap.size,0,none⟩) T.length T.length)) 0 (.slice (some ⟨w.heap.size,0,none⟩) T.length T.length) (by rw [Act.size_put]; omega)
 exact congrArg Ending.returned this
theorem rsingles_any (w : World) : Calls Tryz.prog 237 #[] w fun e w'=>e = .returned (.slice (some ⟨w.heap.size,0,none⟩) singT.length singT.length) ∧ w' = w.alloc (.cells (singT.flatMap rc3).toArray 274) :=
 rlit_calls (posA Tryz.f237) (posB Tryz.f237) singT w Tryz.func237 (by kernel_rfl) rfl (by kernel_rfl) (by decide) (by decide)
theorem rpairs0_any (w : World) : Calls Tryz.prog 238 #[] w fun e w'=>e = .returned (.slice (some ⟨w.heap.size,0,none⟩) pairT0.length pairT0.length) ∧ w' = w.alloc (.cells (pairT0.flatMap rc3).toArray 274) :=
 rlit_calls (posA Tryz.f238) (posB Tryz.f238) pairT0 w Tryz.func238 (by kernel_rfl) rfl (by kernel_rfl) (by decide) (by decide)
theorem rpairs1_any (w : World) : Calls Tryz.prog 239 #[] w fun e w'=>e = .returned (.slice (some ⟨w.heap.size,0,none⟩) pairT1.length pairT1.length) ∧ w' = w.alloc (.cells (pairT1.flatMap rc3).toArray 274) :=
 rlit_calls (posA Tryz.f239) (posB Tryz.f239) pairT1 w Tryz.func239 (by kernel_rfl) rfl (by kernel_rfl) (by decide) (by decide)
theorem rpairs2_any (w : World) : Calls Tryz.prog 240 #[] w fun e w'=>e = .returned (.slice (some ⟨w.heap.size,0,none⟩) pairT2.length pairT2.length) ∧ w' = w.alloc (.cells (pairT2.flatMap rc3).toArray 274) :=
 rlit_calls (posA Tryz.f240) (posB Tryz.f240) pairT2 w Tryz.func240 (by kernel_rfl) rfl (by kernel_rfl) (by decide) (by decide)
theorem rpairs3_any (w : World) : Calls Tryz.prog 241 #[] w fun e w'=>e = .returned (.slice (some ⟨w.heap.size,0,none⟩) pairT3.length pairT3.length) ∧ w' = w.alloc (.cells (pairT3.flatMap rc3).toArray 274) :=
 rlit_calls (posA Tryz.f241) (posB Tryz.f241) pairT3 w Tryz.func241 (by kernel_rfl) rfl (by kernel_rfl) (by decide) (by decide)
theorem rpairs4_any (w : World) : Calls Tryz.prog 242 #[] w fun e w'=>e = .returned (.slice (some ⟨w.heap.size,0,none⟩) pairT4.length pairT4.length) ∧ w' = w.alloc (.cells (pairT4.flatMap rc3).toArray 274) :=
 rlit_calls (posA Tryz.f242) (posB Tryz.f242) pairT4 w Tryz.func242 (by kernel_rfl) rfl (by kernel_rfl) (by decide) (by decide)
theorem rpairs5_any (w : World) : Calls Tryz.prog 243 #[] w fun e w'=>e = .returned (.slice (some ⟨w.heap.size,0,none⟩) pairT5.length pairT5.length) ∧ w' = w.alloc (.cells (pairT5.flatMap rc3).toArray 274) :=
 rlit_calls (posA Tryz.f243) (posB Tryz.f243) pairT5 w Tryz.func243 (by kernel_rfl) rfl (by kernel_rfl) (by decide) (by decide)
theorem rpairs6_any (w : World) : Calls Tryz.prog 244 #[] w fun e w'=>e = .returned (.slice (some ⟨w.heap.size,0,none⟩) pairT6.length pairT6.length) ∧ w' = w.alloc (.cells (pairT6.flatMap rc3).toArray 274) :=
 rlit_calls (posA Tryz.f244) (posB Tryz.f244) pairT6 w Tryz.func244 (by kernel_rfl) rfl (by kernel_rfl) (by decide) (by decide)
theorem Tryz.info_rr3 : (Tryz.prog.info? 274).map (fun i=>(i.zero,i.size,i.bytes)) = some (some (.agg #[.int .i64 0,.int .i64 0,.int .i64 0]),3,24):=by kernel_rfl
theorem rc3_len (l : List R3) : (l.flatMap rc3).length = l.length * 3:=by
 induction l with
 | nil=>rfl
 | cons x l ih=>simp only [List.flatMap_cons,List.length_append,ih,List.length_cons,rc3,List.length_nil]; omega
theorem rc3_one (l : List R3) : ∀ u ∈ l.flatMap rc3,u.oneCell' = true:=by
 intro u hu
 obtain ⟨x,_,hx⟩:=List.mem_flatMap.1 hu
 simp [rc3] at hx
 rcases hx with rfl | rfl | rfl <;> rfl
theorem wpList_rapp {ops : Array Oper} {rest : List Oper} {o : Oper} {a : Act} {Q : Exit -> Act -> World -> Prop} (hgd : o.guard = none) (s x : Operand)
 (ho : o.op = .call { callee:=.builtin .append,args:=#[s,x],argTypes:=#[227,227] }) (W : World) (B : Nat) (v : Value) (n : Nat) (A T : List R3) (hA : A.length = n) (hs : a.eval s = v) (hx : a.eval x = .slice (some ⟨W.heap.size,0,none⟩) T.length T.length)
 (hown : W.ownsRow B 274 3 v n (A.flatMap rc3)) (hn : A.length + T.length <= 5000) (hB : B <= W.heap.size)
 (h : ∀ v' w' m,Hid ((A ++ T).length = m) -> w'.ownsRow B 274 3 v' m ((A ++ T).flatMap rc3) -> Below B W w' -> wpList Tryz.prog ops Q rest (a.put o.dst v') w') :
 wpList Tryz.prog ops Q (o :: rest) a (W.alloc (.cells (T.flatMap rc3).toArray 274)):=by
 subst hA;obtain ⟨i0,hi,hz0,hz1,hz2⟩:=info_parts Tryz.info_rr3
 refine wpList_append_own_at _ hgd s x 227 ho B 274 i0 (.agg #[.int .i64 0,.int .i64 0,.int .i64 0]) 3 24 Tryz.underlying227 hi hz0 hz1 hz2 rfl (by decide) v A.length (A.flatMap rc3) hs (hown.alloc _) ⟨W.heap.size,0,none⟩ T.length T.length (T.flatMap rc3) hx (rc3_len T)
  (World.news_of_block (heap_alloc_new W _)) (rc3_one T) (by unfold maxLen; omega) (by omega) (by simp; omega) (fun v' w' h1 h2 _ _=>h v' w' _ rfl ?_ ?_)
 ·rw [List.length_append,List.flatMap_append]; exact h1
 ·exact ((Below.refl _ _).alloc hB _).trans (below_of_grown h2 B (by simp; omega) (fun k e=>(hown.lt k e).1))
theorem own_new (w : World) (T : List R3) (h : T.length <= 5000) : (w.alloc (.cells (T.flatMap rc3).toArray 274)).ownsRow w.heap.size 274 3 (.slice (some ⟨w.heap.size,0,none⟩) T.length T.length) T.length (T.flatMap rc3) :=
 ⟨rc3_len T,.inr ⟨w.heap.size,T.length,_,rfl,Nat.le_refl _,heap_alloc_new w _,Nat.le_refl _,by unfold maxLen; omega,by rw [List.size_toArray,rc3_len],by show (T.flatMap rc3).take (T.length * 3) = _; rw [List.take_of_length_le (Nat.le_of_eq (rc3_len T))]⟩⟩
theorem parts_all : singT ++ pairT0 ++ pairT1 ++ pairT2 ++ pairT3 ++ pairT4 ++ pairT5 ++ pairT6 = allP:=by unfold allP pairT; simp only [List.append_assoc]
theorem rall_any (w : World) : Calls Tryz.prog 174 #[] w fun e w'=>∃ v,e = .returned v ∧ w'.ownsRow w.heap.size 274 3 v allP.length (allP.flatMap rc3) ∧ Below w.heap.size w w':=by
 have HSg:=hid (fun w=>rsingles_any w)
 have lS : singT.length <= 60:=by decide
 have H0:=hid (fun w=>rpairs0_any w)
 have l0 : pairT0.length <= 60:=by decide
 have H1:=hid (fun w=>rpairs1_any w)
 have l1 : pairT1.length <= 60:=by decide
 have H2:=hid (fun w=>rpairs2_any w)
 have l2 : pairT2.length <= 60:=by decide
 have H3:=hid (fun w=>rpairs3_any w)
 have l3 : pairT3.length <= 60:=by decide
 have H4:=hid (fun w=>rpairs4_any w)
 have l4 : pairT4.length <= 60:=by decide
 have H5:=hid (fun w=>rpairs5_any w)
 have l5 : pairT5.length <= 60:=by decide
 have H6:=hid (fun w=>rpairs6_any w)
 have l6 : pairT6.length <= 60:=by decide
 have HO0:=hid (own_new w singT (by omega));have HB0:=hid ((Below.refl w.heap.size w).alloc (Nat.le_refl _) (.cells (singT.flatMap rc3).toArray 274));rw [<- parts_all]
 generalize singT = S at *;generalize pairT0 = T0 at *;generalize pairT1 = T1 at *;generalize pairT2 = T2 at *;generalize pairT3 = T3 at *;generalize pairT4 = T4 at *
 generalize pairT5 = T5 at *;generalize pairT6 = T6 at *;obtain ⟨n0,hn0⟩ : ∃ n,S.length = n:=⟨_,rfl⟩
 have hn0:=hid hn0
 rw [hn0.out] at HO0 HSg
 go_enter Tryz.func174,Tryz.ntmps174
 go_wp2_with (first | (go_at_call 237; refine (HSg.out _).mono ?_; rintro e w' ⟨rfl,rfl⟩) | (go_at_call 238; refine (H0.out _).mono ?_; rintro e w' ⟨rfl,rfl⟩) | (at_builtin; refine wpList_rapp rfl (.tmp 3) (.tmp 4) rfl (w.alloc (.cells (S.flatMap rc3).toArray 274)) w.heap.size (.slice (some ⟨w.heap.size,0,none⟩) n0 n0) n0 (S) T0 hn0.out rfl (by simp [Act.eval]) HO0.out (by have:=hn0.out; simp; omega) HB0.out.size ?_; intro v1 w1 n1 hn1 ho hb; have HO1:=hid ho; have HB1:=hid (HB0.out.trans hb); clear ho hb; obtain ⟨ao1,cap1,rfl⟩:=own_slice HO1.out))
 go_wp2_with (first | (go_at_call 239; refine (H1.out _).mono ?_; rintro e w' ⟨rfl,rfl⟩) | (at_builtin; refine wpList_rapp rfl (.tmp 6) (.tmp 7) rfl w1 w.heap.size (.slice ao1 n1 cap1) n1 (S ++ T0) T1 hn1.out rfl (by exact rfl) HO1.out (by have:=hn0.out; simp; omega) HB1.out.size ?_; intro v2 w2 n2 hn2 ho hb; have HO2:=hid ho; have HB2:=hid (HB1.out.trans hb); clear ho hb; obtain ⟨ao2,cap2,rfl⟩:=own_slice HO2.out))
 go_wp2_with (first | (go_at_call 240; refine (H2.out _).mono ?_; rintro e w' ⟨rfl,rfl⟩) | (at_builtin; refine wpList_rapp rfl (.tmp 9) (.tmp 10) rfl w2 w.heap.size (.slice ao2 n2 cap2) n2 (S ++ T0 ++ T1) T2 hn2.out rfl (by exact rfl) HO2.out (by have:=hn0.out; simp; omega) HB2.out.size ?_; intro v3 w3 n3 hn3 ho hb; have HO3:=hid ho; have HB3:=hid (HB2.out.trans hb); clear ho hb; obtain ⟨ao3,cap3,rfl⟩:=own_slice HO3.out))
 go_wp2_with (first | (go_at_call 241; refine (H3.out _).mono ?_; rintro e w' ⟨rfl,rfl⟩) | (at_builtin; refine wpList_rapp rfl (.tmp 12) (.tmp 13) rfl w3 w.heap.size (.slice ao3 n3 cap3) n3 (S ++ T0 ++ T1 ++ T2) T3 hn3.out rfl (by exact rfl) HO3.out (by have:=hn0.out; simp; omega) HB3.out.size ?_; intro v4 w4 n4 hn4 ho hb; have HO4:=hid ho; have HB4:=hid (HB3.out.trans hb); clear ho hb; obtain ⟨ao4,cap4,rfl⟩:=own_slice HO4.out))
 go_wp2_with (first | (go_at_call 242; refine (H4.out _).mono ?_; rintro e w' ⟨rfl,rfl⟩) | (at_builtin; refine wpList_rapp rfl (.tmp 15) (.tmp 16) rfl w4 w.heap.size (.slice ao4 n4 cap4) n4 (S ++ T0 ++ T1 ++ T2 ++ T3) T4 hn4.out rfl (by exact rfl) HO4.out (by have:=hn0.out; simp; omega) HB4.out.size ?_; intro v5 w5 n5 hn5 ho hb; have HO5:=hid ho; have HB5:=hid (HB4.out.trans hb); clear ho hb; obtain ⟨ao5,cap5,rfl⟩:=own_slice HO5.out))
 go_wp2_with (first | (go_at_call 243; refine (H5.out _).mono ?_; rintro e w' ⟨rfl,rfl⟩) | (at_builtin; refine wpList_rapp rfl (.tmp 18) (.tmp 19) rfl w5 w.heap.size (.slice ao5 n5 cap5) n5 (S ++ T0 ++ T1 ++ T2 ++ T3 ++ T4) T5 hn5.out rfl (by exact rfl) HO5.out (by have:=hn0.out; simp; omega) HB5.out.size ?_; intro v6 w6 n6 hn6 ho hb; have HO6:=hid ho; have HB6:=hid (HB5.out.trans hb); clear ho hb; obtain ⟨ao6,cap6,rfl⟩:=own_slice HO6.out))
 go_wp2_with (first | (go_at_call 244; refine (H6.out _).mono ?_; rintro e w' ⟨rfl,rfl⟩) | (at_builtin; refine wpList_rapp rfl (.tmp 21) (.tmp 22) rfl w6 w.heap.size (.slice ao6 n6 cap6) n6 (S ++ T0 ++ T1 ++ T2 ++ T3 ++ T4 ++ T5) T6 hn6.out rfl (by exact rfl) HO6.out (by have:=hn0.out; simp; omega) HB6.out.size ?_; intro v7 w7 n7 hn7 ho hb; have HO7:=hid ho; have HB7:=hid (HB6.out.trans hb); clear ho hb; obtain ⟨ao7,cap7,rfl⟩:=own_slice HO7.out))
 go_ret;exact ⟨_,rfl,by have:=HO7.out; rw [<- hn7.out] at this; rw [<- hn7.out]; exact this,HB7.out⟩
end Go.Proofs.YtkhipgcgcbhjoaaGreat.Pr
namespace Go.Proofs.YtkhipgcgcbhjoaaGreat.Pr
open Go.RowKit
def RR3 (w : World) (g : Nat) (T : List R3) : Prop:=g < w.heap.size ∧ ∀ k (h : k < T.length),w.cell? ⟨g,k * 3,none⟩ = some (.int .i64 T[k].1) ∧ w.cell? ⟨g,k * 3 + 1,none⟩ = some (.int .i64 T[k].2.1) ∧ w.cell? ⟨g,k * 3 + 2,none⟩ = some (.int .i64 T[k].2.2)
theorem rc3_at : ∀ (l : List R3) (j i : Nat) (h : j < l.length),i < 3 -> (l.flatMap rc3)[j * 3 + i]? = (rc3 l[j])[i]?
 | [],_,_,h,_=>by simp at h
 | x :: l,0,i,_,hi=>by
  simp only [List.flatMap_cons,Nat.zero_mul,Nat.zero_add,List.getElem_cons_zero]
  rw [List.getElem?_append_left (by simp [rc3]; omega)]
 | x :: l,j + 1,i,h,hi=>by
  have:=rc3_at l j i (by simpa using h) hi
  rw [List.flatMap_cons,List.getElem?_append_right (by simp [rc3]; omega)]
  rw [show (j + 1) * 3 + i - (rc3 x).length = j * 3 + i by simp [rc3]; omega,this]
  rfl
theorem rr3_of_own {w : World} {B : Nat} {v : Value} {T : List R3} (h : w.ownsRow B 274 3 v T.length (T.flatMap rc3)) (h0 : 0 < T.length) : ∃ g cap,v = .slice (some ⟨g,0,none⟩) T.length cap ∧ RR3 w g T:=by
 rcases h.2 with ⟨_,h2⟩ | ⟨g,cap,cur,rfl,h2,h3,h4,h5,h6,h7⟩
 ·omega
 ·refine ⟨g,cap,rfl,(Array.getElem?_eq_some_iff.1 h3).1,fun k hk=>?_⟩
  have c:=fun i (hi : i < 3)=>(h.cellAt (k * 3 + i) (by omega)).trans (rc3_at T k i hk hi)
  exact ⟨c 0 (by omega),c 1 (by omega),c 2 (by omega)⟩
theorem RR3.step {w w' : World} {g : Nat} {T : List R3} (h : RR3 w g T) (hb : Below w.heap.size w w') : RR3 w' g T :=
 ⟨Nat.lt_of_lt_of_le h.1 hb.size,fun k hk=>⟨(hb.cell (p:=⟨g,k * 3,none⟩) h.1).trans (h.2 k hk).1,(hb.cell (p:=⟨g,k * 3 + 1,none⟩) h.1).trans (h.2 k hk).2.1,(hb.cell (p:=⟨g,k * 3 + 2,none⟩) h.1).trans (h.2 k hk).2.2⟩⟩
def rdP (r : Int) : List R3 -> Pt
 | []=>(0,0,0)
 | x :: l=>if x.1 = r then valP x else rdP r l
theorem rdown_any {w : World} {g cap : Nat} {T : List R3} (h : RR3 w g T) (hl : T.length <= 1000) (r : Int) {y1 y2 y3 : Int} (hy : rdP r T = (y1,y2,y3)) :
 Calls Tryz.prog 249 #[.slice (some ⟨g,0,none⟩) T.length cap,.int .i64 r] w fun e w'=>e = .returned (.tuple #[.agg #[.int .i64 y1,.int .i64 y2],.int .i64 y3]) ∧ Below w.heap.size w w':=by
 have HC:=hid h
 have HY:=hid hy
 clear h hy;go_enter Tryz.func249,Tryz.ntmps249
 go_wp2_with fail;go_loop [6] (fun i=>∃ k : Nat,k <= T.length ∧ i = .int .i64 k ∧ Hid (rdP r T = rdP r (T.drop k))) (fun i=>T.length - (intOf i).toNat)
 case atStart=>exact ⟨0,Nat.zero_le _,rfl,rfl⟩
 case round =>
  obtain ⟨k,hk,rfl,H⟩:=hrel
  by_cases hlt : k < T.length
  ·have hcs:=HC.out.2 k hlt
   have hgl:=HC.out.1
   have hb0 : Below w.heap.size w (w.alloc (.cells #[.int .i64 0,.int .i64 0] 277)):=(Below.refl _ _).alloc (Nat.le_refl _) _
   have d0:=(hb0.cell (p:=⟨g,k * 3,none⟩) hgl).trans hcs.1
   have d1:=(hb0.cell (p:=⟨g,k * 3 + 1,none⟩) hgl).trans hcs.2.1
   have d2:=(hb0.cell (p:=⟨g,k * 3 + 2,none⟩) hgl).trans hcs.2.2
   have HCC : Hid (∀ wq : World,Below w.heap.size w wq -> wq.cell? ⟨g,k * 3 + 1,none⟩ = some (.int .i64 T[k].2.1) ∧ wq.cell? ⟨g,k * 3 + 2,none⟩ = some (.int .i64 T[k].2.2)):=fun wq hq=>⟨(hq.cell (p:=⟨g,k * 3 + 1,none⟩) hgl).trans hcs.2.1,(hq.cell (p:=⟨g,k * 3 + 2,none⟩) hgl).trans hcs.2.2⟩
   have H2 : Hid (rdP r T = if T[k].1 = r then valP T[k] else rdP r (T.drop (k + 1))):=by show _ = _;rw [H.out,List.drop_eq_getElem_cons hlt]; rfl
   have b1 : (0 : Int) <= k ∧ (k : Int) < (T.length : Int):=by omega
   clear hcs hb0 HC H;generalize T[k] = x at *;obtain ⟨x1,x2,x3⟩:=x
   simp only at d0 d1 d2 H2 HCC
   by_cases h1 : x1 = r
   ·have H3 : Hid ((y1,y2,y3) = valP (x1,x2,x3)):=by show _ = _; rw [<- HY.out,H2.out,if_pos h1]
    by_cases h2 : x3 = 0
    ·have e : valP (x1,x2,x3) = (x2,0,1):=by unfold valP; rw [if_pos h2]; simp [h2]
     have H4:=H3.out
     rw [e] at H4;simp only [Prod.mk.injEq] at H4
     obtain ⟨rfl,rfl,rfl⟩:=H4
     clear H2 H3 HY e;go_wp2_with fail;exact bodyPost_ret (v:=.tuple #[.agg #[.int .i64 y1,.int .i64 0],.int .i64 1]) (by simp [results,Tryz.results249,go_sem]) rfl ⟨rfl,(Below.refl _ _).alloc (Nat.le_refl _) _⟩
    ·have e : valP (x1,x2,x3) = (x2,x3,2):=by unfold valP; rw [if_neg h2]
     have H4:=H3.out
     rw [e] at H4;simp only [Prod.mk.injEq] at H4
     obtain ⟨rfl,rfl,rfl⟩:=H4
     clear H2 H3 HY e;go_wp2_with fail;go_region_held3 (fun w'=>w'.cell? ⟨g,k * 3 + 1,none⟩ = some (.int .i64 y1) ∧ w'.cell? ⟨g,k * 3 + 2,none⟩ = some (.int .i64 y2))
      (first | exact ⟨d1,d2⟩ | exact HCC.out _ ((Below.refl _ _).alloc (Nat.le_refl _) _) | exact HCC.out _ (((Below.refl _ _).drew).alloc (Nat.le_refl _) _) | exact HCC.out _ (((Below.refl _ _).alloc (Nat.le_refl _) _).drew))
      (fail)
     go_wp2_with fail;exact bodyPost_ret (v:=.tuple #[.agg #[.int .i64 y1,.int .i64 y2],.int .i64 2]) (by simp [results,Tryz.results249,go_sem]) rfl ⟨rfl,((Below.refl _ _).alloc (Nat.le_refl _) _).drew⟩
   ·have H3 : Hid (rdP r T = rdP r (T.drop (k + 1))):=by show _ = _; rw [H2.out,if_neg h1]
    clear H2;go_wp2_with fail;go_round
    case rel=>exact ⟨k + 1,by omega,by go_num,H3.out⟩
    case measure=>simp [intOf]; omega
  ·have e : k = T.length:=by omega
   subst e;have H3 : (y1,y2,y3) = (0,0,0):=by rw [<- HY.out,H.out,List.drop_length]; rfl
   simp only [Prod.mk.injEq] at H3
   obtain ⟨rfl,rfl,rfl⟩:=H3
   clear H HC HY;go_wp2_with fail;exact bodyPost_ret (v:=.tuple #[.agg #[.int .i64 0,.int .i64 0],.int .i64 0]) (by simp [results,Tryz.results249,go_sem]) rfl ⟨rfl,(Below.refl _ _).alloc (Nat.le_refl _) _⟩
def rexq (T : List R3) (r : Int) : Bool:=(rdP r T).2.2 == 1 || exB r
theorem rex_any {w : World} {g cap : Nat} {T : List R3} (h : RR3 w g T) (hl : T.length <= 1000) (r : Int) :
 Calls Tryz.prog 283 #[.slice (some ⟨g,0,none⟩) T.length cap,.int .i64 r] w fun e w'=>e = .returned (.bool (rexq T r)) ∧ Below w.heap.size w w':=by
 obtain ⟨y1,y2,y3,hy⟩ : ∃ y1 y2 y3,rdP r T = (y1,y2,y3):=⟨_,_,_,rfl⟩
 have HD:=hid (rdown_any (cap:=cap) h hl r hy)
 have E : Hid (rexq T r = (y3 == 1 || exB r)):=by show _ = _; unfold rexq; rw [hy]
 have hok:=Ok.start w
 clear h hy;by_cases h1 : y3 = 1
 ·have E2 : Hid (rexq T r = true):=by show _ = _; rw [E.out,h1]; rfl
  subst h1;go_enter Tryz.func283,Tryz.ntmps283
  go_wp2_with (go_at_call 249; refine HD.out.mono ?_; rintro e w1 ⟨rfl,hb1⟩; replace hok:=hok.step hb1; clear hb1)
  go_ret;exact ⟨ret_bool E2.out.symm,hok.alloc.1⟩
 have h1' : (y3 == 1) = false:=by simpa using h1
 by_cases h2 : r = 836
 ·have E2 : Hid (rexq T r = true):=by show _ = _; rw [E.out,h1',h2]; rfl
  subst h2;go_enter Tryz.func283,Tryz.ntmps283
  go_wp2_with (go_at_call 249; refine HD.out.mono ?_; rintro e w1 ⟨rfl,hb1⟩; replace hok:=hok.step hb1; clear hb1)
  go_ret;exact ⟨ret_bool E2.out.symm,hok.alloc.1⟩
 have h2' : (r == 836) = false:=by simpa using h2
 by_cases h3 : 2392 <= r
 ·by_cases h4 : r <= 2399
  ·have E2 : Hid (rexq T r = true):=by show _ = _; rw [E.out,h1',exB,h2',decide_eq_true h3,decide_eq_true h4]; rfl
   go_enter Tryz.func283,Tryz.ntmps283
   go_wp2_with (go_at_call 249; refine HD.out.mono ?_; rintro e w1 ⟨rfl,hb1⟩; replace hok:=hok.step hb1; clear hb1)
   go_ret;exact ⟨ret_bool E2.out.symm,hok.alloc.1⟩
  ·have E2 : Hid (rexq T r = false):=by show _ = _; rw [E.out,h1',exB,h2',decide_eq_false h4,Bool.and_false]; rfl
   go_enter Tryz.func283,Tryz.ntmps283
   go_wp2_with (go_at_call 249; refine HD.out.mono ?_; rintro e w1 ⟨rfl,hb1⟩; replace hok:=hok.step hb1; clear hb1)
   go_ret;exact ⟨ret_bool ((decide_eq_false (by omega)).trans E2.out.symm),hok.alloc.1⟩
 ·have E2 : Hid (rexq T r = false):=by show _ = _; rw [E.out,h1',exB,h2',decide_eq_false h3,Bool.false_and]; rfl
  go_enter Tryz.func283,Tryz.ntmps283
  go_wp2_with (go_at_call 249; refine HD.out.mono ?_; rintro e w1 ⟨rfl,hb1⟩; replace hok:=hok.step hb1; clear hb1)
  go_ret;exact ⟨ret_bool E2.out.symm,hok.alloc.1⟩
def rsB (A : List R3) (r : Int) : List R3 -> Bool
 | []=>false
 | x :: l=>if x.2.2 = r ∧ r ≠ 0 ∧ rexq A x.1 = false then true else rsB A r l
def rupP (A : List R3) (a b : Int) : List R3 -> Int
 | []=>-1
 | x :: l=>if x.2.1 = a ∧ x.2.2 = b ∧ b ≠ 0 ∧ rexq A x.1 = false then x.1 else rupP A a b l
theorem rup_any {w : World} {g cap : Nat} {T : List R3} (h : RR3 w g T) (hl : T.length <= 1000) (a b : Int) :
 Calls Tryz.prog 247 #[.slice (some ⟨g,0,none⟩) T.length cap,.int .i64 a,.int .i64 b] w fun e w'=>e = .returned (.int .i64 (rupP T a b T)) ∧ Below w.heap.size w w':=by
 have HC:=hid h
 have HX:=hid (fun (w : World) (h : RR3 w g T) (r : Int)=>rex_any (cap:=cap) h hl r)
 clear h;go_enter Tryz.func247,Tryz.ntmps247
 go_wp2_with fail;go_loopg [7] T.length (fun gg i wr=>∃ k : Nat,k <= T.length ∧ gg = T.length - k ∧ i = .int .i64 k ∧ Hid (rupP T a b T = rupP T a b (T.drop k)) ∧ Hid (Below w.heap.size w wr))
 case atStart=>exact ⟨0,Nat.zero_le _,by omega,rfl,rfl,Below.refl _ _⟩
 case round =>
  obtain ⟨k,hk,hg,rfl,H,HB⟩:=hrel
  have HG:=hid hg
  clear hg;by_cases hlt : k < T.length
  ·have HRw:=hid (HC.out.step HB.out);obtain ⟨d0,d1,d2⟩:=HRw.out.2 k hlt
   have HRq:=hid (fun (w' : World) (hq : Below w.heap.size w w')=>(HC.out.step hq).2 k hlt)
   have H2 : Hid (rupP T a b T = if T[k].2.1 = a ∧ T[k].2.2 = b ∧ b ≠ 0 ∧ rexq T T[k].1 = false then T[k].1 else rupP T a b (T.drop (k + 1))):=by show _ = _;rw [H.out,List.drop_eq_getElem_cons hlt]; rfl
   have b1 : (0 : Int) <= k ∧ (k : Int) < (T.length : Int):=by omega
   clear HC H;generalize T[k] = x at *;obtain ⟨x1,x2,x3⟩:=x
   simp only at d0 d1 d2 H2 HRq
   by_cases h0 : x2 = a
   ·by_cases h1 : x3 = b
    ·by_cases h2 : b = 0
     ·have H3 : Hid (rupP T a b T = rupP T a b (T.drop (k + 1))):=by show _ = _; rw [H2.out,if_neg (fun h=>h.2.2.1 h2)]
      have h2' : (b != 0) = false:=by simp [h2]
      subst h0;subst h1;clear H2 h2;go_wp2_with fail;go_roundg (T.length - (k + 1))
      case measure=>rw [HG.out]; omega
      case rel=>exact ⟨k + 1,by omega,rfl,by go_num,H3.out,HB.out⟩
     ·have h2' : (b != 0) = true:=by simpa using h2
      subst h0;subst h1;cases he : rexq T x1 with
      | false =>
       have H3 : Hid (rupP T x2 x3 T = x1):=by show _ = _; rw [H2.out,if_pos ⟨rfl,rfl,h2,he⟩]
       clear H2;go_wp2_with (go_at_call 283; refine (HX.out _ HRw.out _).mono ?_; rintro e w1 ⟨rfl,hb1⟩; replace HB:=hid (HB.out.trans (hb1.mono HB.out.size)); clear hb1; obtain ⟨z0,z1,z2⟩:=HRq.out _ HB.out)
       go_ret;exact ⟨ret_int H3.out.symm,HB.out⟩
      | true =>
       have H3 : Hid (rupP T x2 x3 T = rupP T x2 x3 (T.drop (k + 1))):=by show _ = _; rw [H2.out,if_neg (fun h=>by rw [he] at h; exact absurd h.2.2.2 (by simp))]
       clear H2;go_wp2_with (go_at_call 283; refine (HX.out _ HRw.out _).mono ?_; rintro e w1 ⟨rfl,hb1⟩; replace HB:=hid (HB.out.trans (hb1.mono HB.out.size)); clear hb1; obtain ⟨z0,z1,z2⟩:=HRq.out _ HB.out)
       go_roundg (T.length - (k + 1))
       case measure=>rw [HG.out]; omega
       case rel=>exact ⟨k + 1,by omega,rfl,by go_num,H3.out,HB.out⟩
    ·have H3 : Hid (rupP T a b T = rupP T a b (T.drop (k + 1))):=by show _ = _; rw [H2.out,if_neg (fun h=>h1 h.2.1)]
     have h1' : (x3 == b) = false:=by simpa using h1
     subst h0;clear H2;go_wp2_with fail;go_roundg (T.length - (k + 1))
     case measure=>rw [HG.out]; omega
     case rel=>exact ⟨k + 1,by omega,rfl,by go_num,H3.out,HB.out⟩
   ·have H3 : Hid (rupP T a b T = rupP T a b (T.drop (k + 1))):=by show _ = _; rw [H2.out,if_neg (fun h=>h0 h.1)]
    have h0' : (x2 == a) = false:=by simpa using h0
    clear H2;go_wp2_with fail;go_roundg (T.length - (k + 1))
    case measure=>rw [HG.out]; omega
    case rel=>exact ⟨k + 1,by omega,rfl,by go_num,H3.out,HB.out⟩
  ·have e : k = T.length:=by omega
   subst e;have H3 : Hid (rupP T a b T = -1):=by show _ = _; rw [H.out,List.drop_length]; rfl
   clear H HC;go_wp2_with fail;go_ret;exact ⟨ret_int H3.out.symm,HB.out⟩
theorem rd_of_mem : ∀ (L : List R3),distB L = true -> ∀ x ∈ L,rdP x.1 L = valP x
 | [],_,x,hx=>by simp at hx
 | y :: L,hd,x,hx=>by
  simp only [distB,Bool.and_eq_true] at hd
  unfold rdP;rcases List.mem_cons.1 hx with rfl | hx
  ·rw [if_pos rfl]
  ·have:=List.all_eq_true.1 hd.1 x hx
   rw [if_neg (fun e=>by simp [e] at this)]
   exact rd_of_mem L hd.2 x hx
theorem rd_none (r : Int) : ∀ (L : List R3),(∀ x ∈ L,x.1 ≠ r) -> rdP r L = (0,0,0)
 | [],_=>rfl
 | y :: L,h=>by unfold rdP;rw [if_neg (h y (by simp))];exact rd_none r L (fun x hx=>h x (by simp [hx]))
theorem rd_dn (r : Int) : rdP r allP = (dnF allP r).getD (0,0,0):=by
 cases hd : dnF allP r with
 | some v =>
  obtain ⟨R,hR,rfl,rfl⟩:=dn_mem allP r v hd
  exact rd_of_mem allP all_dist R hR
 | none =>
  refine rd_none r allP (fun x hx e=>?_)
  have:=dn_of_mem allP all_dist x hx
  rw [e,hd] at this; cases this
theorem rex_skip (x : R3) (hx : x ∈ allP) : rexq allP x.1 = skipB x:=by
 unfold rexq skipB;rw [rd_of_mem allP all_dist x hx];unfold valP;simp only
 by_cases h : x.2.2 = 0
 ·rw [if_pos h,h]; rfl
 ·rw [if_neg h];have : (x.2.2 == 0) = false:=by simpa using h
  rw [this]; rfl
theorem rs_any (r : Int) : ∀ (L : List R3),(∀ x ∈ L,x ∈ allP) -> (rsB allP r L = true ↔ ∃ x ∈ L,skipB x = false ∧ x.2.2 = r)
 | [],_=>by simp [rsB]
 | y :: L,h=>by
  have ih:=rs_any r L (fun x hx=>h x (by simp [hx]))
  unfold rsB;rw [rex_skip y (h y (by simp))];split
  ·rename_i hh
   constructor
   ·intro _; exact ⟨y,by simp,hh.2.2,hh.1⟩
   ·intro _; rfl
  ·rename_i hh
   rw [ih];constructor
   ·rintro ⟨x,hx,h1⟩; exact ⟨x,by simp [hx],h1⟩
   ·rintro ⟨x,hx,h1,h2⟩;rcases List.mem_cons.1 hx with rfl | hx
    ·exfalso
     have h3 : x.2.2 ≠ 0:=by unfold skipB at h1;rw [Bool.or_eq_false_iff] at h1;simpa using h1.1
     exact hh ⟨h2,by rw [<- h2]; exact h3,h1⟩
    ·exact ⟨x,hx,h1,h2⟩
theorem rup_mem (a b : Int) : ∀ (L : List R3),(∀ x ∈ L,x ∈ allP) -> (∃ x ∈ L,skipB x = false ∧ x.2.1 = a ∧ x.2.2 = b ∧ rupP allP a b L = x.1) ∨ ((∀ x ∈ L,¬ (skipB x = false ∧ x.2.1 = a ∧ x.2.2 = b)) ∧ rupP allP a b L = -1)
 | [],_=>.inr ⟨fun x hx=>by simp at hx,rfl⟩
 | y :: L,h=>by
  unfold rupP;rw [rex_skip y (h y (by simp))];split
  ·rename_i hh
   exact .inl ⟨y,by simp,hh.2.2.2,hh.1,hh.2.1,rfl⟩
  ·rename_i hh
   rcases rup_mem a b L (fun x hx=>h x (by simp [hx])) with ⟨x,hx,h1⟩ | ⟨h1,h2⟩
   ·exact .inl ⟨x,by simp [hx],h1⟩
   ·refine .inr ⟨fun x hx hc=>?_,h2⟩
    rcases List.mem_cons.1 hx with rfl | hx
    ·have h3 : x.2.2 ≠ 0:=by
      have h4:=hc.1
      unfold skipB at h4;rw [Bool.or_eq_false_iff] at h4;simpa using h4.1
     exact hh ⟨hc.2.1,hc.2.2,by rw [<- hc.2.2]; exact h3,hc.1⟩
    ·exact h1 x hx hc
theorem rup_eq (a b : Int) : (u2 a b = true ∧ rupP allP a b allP = u1 a b ∧ 0 <= u1 a b) ∨ (u2 a b = false ∧ u1 a b = 0 ∧ rupP allP a b allP = -1):=by
 rcases rup_mem a b allP (fun _ h=>h) with ⟨x,hx,h1,h2,h3,h4⟩ | ⟨h1,h2⟩
 ·have:=up_of_mem allP all_udist x hx h1
  rw [h2,h3] at this;left
  unfold u1 u2;rw [this];refine ⟨rfl,h4,?_⟩
  have:=List.all_eq_true.1 all_okR x hx
  simp only [okR,Bool.and_eq_true,decide_eq_true_eq] at this
  show 0 <= x.1
  omega
 ·right
  have hn : upF allP (a,b) = none:=by
   cases hu : upF allP (a,b) with
   | none=>rfl
   | some z =>
    obtain ⟨R,hR,hs,e,_⟩:=up_mem allP _ z hu
    simp only [Prod.mk.injEq] at e
    exact absurd ⟨hs,e.1.symm,e.2.symm⟩ (h1 R hR)
  unfold u1 u2;rw [hn];exact ⟨rfl,rfl,h2⟩
end Go.Proofs.YtkhipgcgcbhjoaaGreat.Pr
