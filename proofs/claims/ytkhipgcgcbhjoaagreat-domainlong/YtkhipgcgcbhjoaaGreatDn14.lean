import Derived.Test.YtkhipgcgcbhjoaaGreatDn13
import Derived.Great.CaseRows
set_option maxRecDepth 1000000
namespace Go.Proofs.YtkhipgcgcbhjoaaGreat.Uc
open Go.RowKit
def zTr : Tr:=⟨0,0,0,0,0⟩
structure Book (w : World) (b : Nat) (L : List (SRow Tr)) (p : Nat) (rv : Value) : Prop where
 block : w.heap[b]? = some (.cells #[.pointer (some ⟨p,0,none⟩),rv] 91)
 tab : Tab w p L zTr
 rows : VIn w rv L
theorem Book.step {w w' : World} {b : Nat} {L : List (SRow Tr)} {p : Nat} {rv : Value} (h : Book w b L p rv) (hb : Below w.heap.size w w') : Book w' b L p rv :=
 ⟨(hb.block b (Array.getElem?_eq_some_iff.1 h.block).1).trans h.block,h.tab.step hb,h.rows.step hb⟩
theorem Book.cell {w : World} {b : Nat} {L : List (SRow Tr)} {p : Nat} {rv : Value} (h : Book w b L p rv) : w.cell? ⟨b,0,none⟩ = some (.pointer (some ⟨p,0,none⟩)) ∧ w.cell? ⟨b,1,none⟩ = some rv:=by
 have:=h.block
 simp [World.cell?,this]
theorem get_any {w : World} {p : Nat} {l : List (SRow Tr)} {other : Tr} (h : Tab w p l other) (r : Int) :
 Calls Tryz.prog 157 #[.pointer (some ⟨p,0,none⟩),.int .i32 r] w fun e w'=>e = .returned (trv (getV other l r)) ∧ Below w.heap.size w w':=by
 obtain ⟨f,vals,nr,bl,pl,h⟩:=h
 exact get_p h r
theorem run_fieldTr (x : Tr) (i : Nat) (v : Value) (hv : (trs x)[i]? = some v) (w : World) : (Instr.field 89 (.agg #[.int .i64 x.a,.int .i64 x.b,.int .i64 x.c,.int .i64 x.d,.int .i64 x.e]) i).run Tryz.prog w = .ok v w:=by
 match i,hv with
 | 0,hv=>simp [trs] at hv; subst hv; simp [Instr.field,run_underlying Tryz.underlying89,asAgg,part,isAgg,run_underlying Tryz.underlying3]
 | 1,hv=>simp [trs] at hv; subst hv; simp [Instr.field,run_underlying Tryz.underlying89,asAgg,part,isAgg,run_underlying Tryz.underlying3]
 | 2,hv=>simp [trs] at hv; subst hv; simp [Instr.field,run_underlying Tryz.underlying89,asAgg,part,isAgg,run_underlying Tryz.underlying3]
 | 3,hv=>simp [trs] at hv; subst hv; simp [Instr.field,run_underlying Tryz.underlying89,asAgg,part,isAgg,run_underlying Tryz.underlying3]
 | 4,hv=>simp [trs] at hv; subst hv; simp [Instr.field,run_underlying Tryz.underlying89,asAgg,part,isAgg,run_underlying Tryz.underlying3]
 | j + 5,hv=>simp [trs] at hv
section
variable {w : World} {b : Nat} {L : List (SRow Tr)} {p : Nat} {rv : Value}
theorem kind_any (h : Book w b L p rv) (r : Int) :
 Calls Tryz.prog 100 #[.pointer (some ⟨b,0,none⟩),.int .i32 r] w fun e w'=>e = .returned (.int .i64 (getV zTr L r).a) ∧ Below w.heap.size w w':=by
 obtain ⟨c0,_⟩:=h.cell
 have HG:=hid (get_any h.tab r);clear h;generalize getV zTr L r = x at *;unfold trv at HG;have hfd : ∀ w,(Instr.field 89 (.agg #[.int .i64 x.a,.int .i64 x.b,.int .i64 x.c,.int .i64 x.d,.int .i64 x.e]) 0).run Tryz.prog w = .ok (.int .i64 x.a) w:=run_fieldTr x 0 _ rfl
 go_enter Tryz.func100,Tryz.ntmps100
 go_wp2_with fail;refine HG.out.mono ?_;rintro e w1 ⟨rfl,hb⟩;go_wp2_with fail;go_ret;exact ⟨rfl,hb⟩
theorem bidi_any (h : Book w b L p rv) (r : Int) :
 Calls Tryz.prog 172 #[.pointer (some ⟨b,0,none⟩),.int .i32 r] w fun e w'=>e = .returned (.int .i64 (getV zTr L r).b) ∧ Below w.heap.size w w':=by
 obtain ⟨c0,_⟩:=h.cell
 have HG:=hid (get_any h.tab r);clear h;generalize getV zTr L r = x at *;unfold trv at HG;have hfd : ∀ w,(Instr.field 89 (.agg #[.int .i64 x.a,.int .i64 x.b,.int .i64 x.c,.int .i64 x.d,.int .i64 x.e]) 1).run Tryz.prog w = .ok (.int .i64 x.b) w:=run_fieldTr x 1 _ rfl
 go_enter Tryz.func172,Tryz.ntmps172
 go_wp2_with fail;refine HG.out.mono ?_;rintro e w1 ⟨rfl,hb⟩;go_wp2_with fail;go_ret;exact ⟨rfl,hb⟩
theorem script_any (h : Book w b L p rv) (r : Int) :
 Calls Tryz.prog 235 #[.pointer (some ⟨b,0,none⟩),.int .i32 r] w fun e w'=>e = .returned (.int .i64 (getV zTr L r).c) ∧ Below w.heap.size w w':=by
 obtain ⟨c0,_⟩:=h.cell
 have HG:=hid (get_any h.tab r);clear h;generalize getV zTr L r = x at *;unfold trv at HG;have hfd : ∀ w,(Instr.field 89 (.agg #[.int .i64 x.a,.int .i64 x.b,.int .i64 x.c,.int .i64 x.d,.int .i64 x.e]) 2).run Tryz.prog w = .ok (.int .i64 x.c) w:=run_fieldTr x 2 _ rfl
 go_enter Tryz.func235,Tryz.ntmps235
 go_wp2_with fail;refine HG.out.mono ?_;rintro e w1 ⟨rfl,hb⟩;go_wp2_with fail;go_ret;exact ⟨rfl,hb⟩
theorem class_any (h : Book w b L p rv) (r : Int) :
 Calls Tryz.prog 153 #[.pointer (some ⟨b,0,none⟩),.int .i32 r] w fun e w'=>e = .returned (.int .i64 (getV zTr L r).d) ∧ Below w.heap.size w w':=by
 obtain ⟨c0,_⟩:=h.cell
 have HG:=hid (get_any h.tab r);clear h;generalize getV zTr L r = x at *;unfold trv at HG;have hfd : ∀ w,(Instr.field 89 (.agg #[.int .i64 x.a,.int .i64 x.b,.int .i64 x.c,.int .i64 x.d,.int .i64 x.e]) 3).run Tryz.prog w = .ok (.int .i64 x.d) w:=run_fieldTr x 3 _ rfl
 go_enter Tryz.func153,Tryz.ntmps153
 go_wp2_with fail;refine HG.out.mono ?_;rintro e w1 ⟨rfl,hb⟩;go_wp2_with fail;go_ret;exact ⟨rfl,hb⟩
theorem join_any (h : Book w b L p rv) (r : Int) :
 Calls Tryz.prog 282 #[.pointer (some ⟨b,0,none⟩),.int .i32 r] w fun e w'=>e = .returned (.int .i64 (getV zTr L r).e) ∧ Below w.heap.size w w':=by
 obtain ⟨c0,_⟩:=h.cell
 have HG:=hid (get_any h.tab r);clear h;generalize getV zTr L r = x at *;unfold trv at HG;have hfd : ∀ w,(Instr.field 89 (.agg #[.int .i64 x.a,.int .i64 x.b,.int .i64 x.c,.int .i64 x.d,.int .i64 x.e]) 4).run Tryz.prog w = .ok (.int .i64 x.e) w:=run_fieldTr x 4 _ rfl
 go_enter Tryz.func282,Tryz.ntmps282
 go_wp2_with fail;refine HG.out.mono ?_;rintro e w1 ⟨rfl,hb⟩;go_wp2_with fail;go_ret;exact ⟨rfl,hb⟩
end
end Go.Proofs.YtkhipgcgcbhjoaaGreat.Uc
namespace Go.Proofs.YtkhipgcgcbhjoaaGreat.Uc
open Go.RowKit Go.Great
def posA (f : Func) : String :=
 match f.body with
 | some (.seq (.region _ ops _) _) => (ops[0]?.map (fun o => o.pos)).getD ""
 | _ => ""
def posB (f : Func) : String :=
 match f.body with
 | some (.seq _ (.seq (.region _ ops _) _)) => (ops[0]?.map (fun o => o.pos)).getD ""
 | _ => ""
abbrev Ln:=Int × Int × Int × Int × Int × Int × Int
def cells7 (x : Ln) : List Value:=[.int .i32 x.1,.int .i32 x.2.1,.int .i64 x.2.2.1,.int .i64 x.2.2.2.1,.int .i64 x.2.2.2.2.1,.int .i64 x.2.2.2.2.2.1,.int .i64 x.2.2.2.2.2.2]
def lnOps (pos : String) : Nat -> List Ln -> List Oper
 | _,[]=>[]
 | d,x :: xs =>
  { dst:=some d,op:=.build 144 #[(0,.const (.int .i32 x.1)),(1,.const (.int .i32 x.2.1)),(2,.const (.int .i64 x.2.2.1)),(3,.const (.int .i64 x.2.2.2.1)),(4,.const (.int .i64 x.2.2.2.2.1)),(5,.const (.int .i64 x.2.2.2.2.2.1)),(6,.const (.int .i64 x.2.2.2.2.2.2))],type:=144,pos:=pos,after:=#[],guard:=none } ::
  lnOps pos (d + 1) xs
theorem built7 (x : Ln) : Tryz.prog.built 144 [(0,.int .i32 x.1),(1,.int .i32 x.2.1),(2,.int .i64 x.2.2.1),(3,.int .i64 x.2.2.2.1),(4,.int .i64 x.2.2.2.2.1),(5,.int .i64 x.2.2.2.2.2.1),(6,.int .i64 x.2.2.2.2.2.2)] = some (cells7 x).toArray:=by kernel_rfl
theorem wpList_lns {ops : Array Oper} {rest : List Oper} {w : World} {Q : Exit -> Act -> World -> Prop} (pos : String) :
 ∀ (xs : List Ln) (d : Nat) (a : Act),d + xs.length <= a.tmps.size ->
  (∀ a' : Act,a'.tmps.size = a.tmps.size -> a'.defers = a.defers -> (∀ i (h : i < xs.length),a'.eval (.tmp (d + i)) = .agg (cells7 xs[i]).toArray) ->
   (∀ j,j < d -> a'.eval (.tmp j) = a.eval (.tmp j)) -> wpList Tryz.prog ops Q rest a' w) ->
  wpList Tryz.prog ops Q (lnOps pos d xs ++ rest) a w
 | [],d,a,_,h=>h a rfl rfl (fun i hi=>absurd hi (by simp)) (fun _ _=>rfl)
 | x :: xs,d,a,hd,h=>by
  have hlt : d < a.tmps.size:=by simp at hd; omega
  show wpList Tryz.prog ops Q (_ :: (lnOps pos (d + 1) xs ++ rest)) a w
  refine wpList_buildTo rfl 144 _ rfl (some d) rfl (cells7 x).toArray (by simpa [Act.eval] using built7 x) ?_
  refine wpList_lns pos xs (d + 1) _ (by rw [Act.size_put]; simp at hd; omega) fun a' hs hdf hev hlow=>?_
  refine h a' (by rw [hs,Act.size_put]) (by rw [hdf,Act.defers_put']) (fun i hi=>?_) (fun j hj=>?_)
  ·cases i with
   | zero=>rw [show d + 0 = d by omega,hlow d (by omega),Act.eval_put_same _ _ _ (by omega)]; rfl
   | succ i =>
    have:=hev i (by simpa using hi)
    rw [show d + (i + 1) = d + 1 + i by omega,this]
    rfl
  ·rw [hlow j (by omega),Act.eval_put_ne _ _ _ _ (by omega)]
def litEnd (p2 : String) (n : Nat) : List Oper :=
 [{ dst:=some (n + 1),op:=.buildSlice 83 n ((List.range n).map fun i=>(i,Operand.tmp (1 + i))).toArray,type:=83,pos:=p2,after:=((List.range n).map fun i=>⟨i,.data⟩).toArray,guard:=none },
  { dst:=some 0,op:=.assign (.tmp (n + 1)),type:=83,pos:=p2,after:=(⟨n,.data⟩ :: (List.range (n + 1)).map fun i=>⟨i,.phase⟩).toArray,guard:=none }]
def litStart (p1 : String) : List Oper:=[{ dst:=some 0,op:=.assign (.const (.slice none 0 0)),type:=83,pos:=p1,after:=#[],guard:=none }]
def litBody (p1 p2 : String) (T : List Ln) : Code :=
 .seq (.region 0 (litStart p1).toArray false) (.seq (.region 1 (lnOps p2 1 T ++ litEnd p2 T.length).toArray false) .ret)
theorem lit_calls {f : FuncId} {fn : Func} (p1 p2 : String) (T : List Ln) (w : World) (hf : Tryz.prog.funcs[f]? = some fn) (hb : fn.body = some (litBody p1 p2 T)) (hr : fn.results = #[.tmp 0]) (hn : fn.ntmps = T.length + 2)
 (hpos : 0 < T.length) (hsmall : T.length * 7 <= 2 ^ 24) :
 Calls Tryz.prog f #[] w fun e w'=>e = .returned (.slice (some ⟨w.heap.size,0,none⟩) T.length T.length) ∧ w' = w.alloc (.cells (T.flatMap cells7).toArray 144):=by
 refine calls_of_wp hf hb ?_
 refine wp_anyFrame (T.length + 2) (by simp [hn]) rfl fun a0 hs0 hd0=>?_
 unfold litBody;apply wp_seq_k; intro K0 hK0
 apply wp_region_lit
 unfold litStart;refine wpList_readTo rfl (some 0) rfl (.slice none 0 0) rfl ?_
 apply wpList_nil
 refine hK0 _ _ ?_
 refine wp_anyFrame (T.length + 2) (by simp only [Act.size_put,hs0]) (by simp only [Act.defers_put',hd0]) fun a1 hs1 hd1=>?_
 clear hK0 K0;apply wp_seq_k; intro K1 hK1
 apply wp_region_lit
 refine wpList_lns p2 T 1 a1 (by omega) fun b hbs hbd hev _=>?_
 have hl : (T.map fun x=>Value.agg (cells7 x).toArray).length = T.length:=by simp
 have hfl : ((T.map fun x=>Value.agg (cells7 x).toArray).flatMap fun v=>v.cells.toList) = T.flatMap cells7:=by simp [List.flatMap_map,Value.cells]
 unfold litEnd;refine wpList_buildRows rfl 83 144 _ 7 (T.map fun x=>Value.agg (cells7 x).toArray) (by rw [hl]) (fun i=>1 + i) w.heap.size rfl (some (T.length + 1)) rfl (by kernel_rfl) (by kernel_rfl) (by kernel_rfl) (by omega) (by rw [hl]; exact hpos) (by rw [hl]; exact hsmall)
  (by rw [hl]) (fun v hv=>by obtain ⟨x,_,rfl⟩:=List.mem_map.1 hv; rfl) (fun i hi=>by rw [hev i (by simpa using hi)]; simp) ?_
 rw [hl,hfl];refine wpList_readTo rfl (some 0) rfl (.slice (some ⟨w.heap.size,0,none⟩) T.length T.length) ?_ ?_
 ·show Sem.run _ _ _ = _
  simp only [execOp]
  rw [Act.eval_put_same _ _ _ (by omega)];rfl
 apply wpList_nil
 refine hK1 _ _ ?_
 refine wp_ret (bodyPost_ret (results_tmp hr _ _ _) (by simp only [Act.defers_put',hbd,hd1]) ?_)
 refine ⟨?_,rfl⟩
 have:=Act.eval_put_same (b.put (some (T.length + 1)) (.slice (some ⟨w.heap.size,0,none⟩) T.length T.length)) 0 (.slice (some ⟨w.heap.size,0,none⟩) T.length T.length) (by rw [Act.size_put]; omega)
 exact congrArg Ending.returned this
def latinT : List Ln:=[
 (0,31,10,9,0,0,0),(32,32,8,11,0,0,0),(33,34,8,10,0,0,0),(35,37,8,5,0,0,0),
 (38,42,8,10,0,0,0),(43,43,8,4,0,0,0),(44,44,8,7,0,0,0),(45,45,8,4,0,0,0),
 (46,47,8,7,0,0,0),(48,57,7,3,0,0,0),(58,58,8,7,0,0,0),(59,64,8,10,0,0,0),
 (65,90,1,0,1,0,0),(91,96,8,10,0,0,0),(97,122,2,0,1,0,0),(123,126,8,10,0,0,0),
 (127,159,10,9,0,0,0),(160,160,8,7,0,0,0),(161,161,8,10,0,0,0),(162,165,8,5,0,0,0),
 (166,169,8,10,0,0,0),(170,170,3,0,1,0,0),(171,172,8,10,0,0,0),(173,173,9,9,0,0,4),
 (174,175,8,10,0,0,0),(176,177,8,5,0,0,0),(178,179,8,3,0,0,0),(180,180,8,10,0,0,0),
 (181,181,2,0,0,0,0),(182,184,8,10,0,0,0),(185,185,8,3,0,0,0),(186,186,3,0,1,0,0),
 (187,191,8,10,0,0,0),(192,214,1,0,1,0,0),(215,215,8,10,0,0,0),(216,222,1,0,1,0,0),
 (223,246,2,0,1,0,0),(247,247,8,10,0,0,0),(248,255,2,0,1,0,0),(256,311,12,0,1,0,0),
 (312,312,2,0,1,0,0),(313,328,13,0,1,0,0),(329,329,2,0,1,0,0),(330,375,12,0,1,0,0),
 (376,376,1,0,1,0,0),(377,382,13,0,1,0,0),(383,383,2,0,1,0,0),(416,417,12,0,1,0,0),
 (431,432,13,0,1,0,0),(461,476,13,0,1,0,0)]
theorem latin_any (w : World) : Calls Tryz.prog 90 #[] w fun e w'=>e = .returned (.slice (some ⟨w.heap.size,0,none⟩) latinT.length latinT.length) ∧ w' = w.alloc (.cells (latinT.flatMap cells7).toArray 144) :=
 lit_calls (posA Tryz.f90) (posB Tryz.f90) latinT w Tryz.func90 (by kernel_rfl) rfl (by kernel_rfl) (by decide) (by decide)
def marksT : List Ln:=[
 (768,788,5,8,0,230,4),(789,789,5,8,0,232,4),(790,793,5,8,0,220,4),(794,794,5,8,0,232,4),
 (795,795,5,8,0,216,4),(796,800,5,8,0,220,4),(801,802,5,8,0,202,4),(803,806,5,8,0,220,4),
 (807,808,5,8,0,202,4),(809,819,5,8,0,220,4),(820,824,5,8,0,1,4),(825,828,5,8,0,220,4),
 (829,836,5,8,0,230,4),(837,837,5,8,0,240,4),(885,885,8,10,2,0,0),(894,894,8,10,0,0,0),
 (902,902,1,0,2,0,0),(903,903,8,10,0,0,0),(904,906,1,0,2,0,0),(908,908,1,0,2,0,0),
 (910,911,1,0,2,0,0),(912,912,2,0,2,0,0),(913,929,1,0,2,0,0),(931,939,1,0,2,0,0),
 (940,974,2,0,2,0,0),(1024,1071,1,0,3,0,0),(1072,1119,2,0,3,0,0),(1460,1460,5,8,4,14,4),
 (1463,1463,5,8,4,17,4),(1468,1468,5,8,4,21,4),(1471,1471,5,8,4,23,4),(1473,1473,5,8,4,24,4),
 (1474,1474,5,8,4,25,4),(1488,1514,3,1,4,0,0),(1523,1524,8,1,4,0,0)]
theorem marks_any (w : World) : Calls Tryz.prog 91 #[] w fun e w'=>e = .returned (.slice (some ⟨w.heap.size,0,none⟩) marksT.length marksT.length) ∧ w' = w.alloc (.cells (marksT.flatMap cells7).toArray 144) :=
 lit_calls (posA Tryz.f91) (posB Tryz.f91) marksT w Tryz.func91 (by kernel_rfl) rfl (by kernel_rfl) (by decide) (by decide)
def arabicT : List Ln:=[
 (1569,1569,3,2,5,0,0),(1570,1573,3,2,5,0,3),(1574,1574,3,2,5,0,2),(1575,1575,3,2,5,0,3),
 (1576,1576,3,2,5,0,2),(1577,1577,3,2,5,0,3),(1578,1582,3,2,5,0,2),(1583,1586,3,2,5,0,3),
 (1587,1594,3,2,5,0,2),(1600,1600,4,2,0,0,1),(1601,1607,3,2,5,0,2),(1608,1608,3,2,5,0,3),
 (1609,1610,3,2,5,0,2),(1611,1611,5,8,0,27,4),(1612,1612,5,8,0,28,4),(1613,1613,5,8,0,29,4),
 (1614,1614,5,8,0,30,4),(1615,1615,5,8,0,31,4),(1616,1616,5,8,0,32,4),(1617,1617,5,8,0,33,4),
 (1618,1618,5,8,0,34,4),(1619,1620,5,8,0,230,4),(1621,1621,5,8,0,220,4),(1632,1641,7,6,5,0,0),
 (1648,1648,5,8,0,35,4),(1649,1649,3,2,5,0,3),(1662,1662,3,2,5,0,2),(1670,1670,3,2,5,0,2),
 (1688,1688,3,2,5,0,3),(1705,1705,3,2,5,0,2),(1711,1711,3,2,5,0,2),(1728,1728,3,2,5,0,3),
 (1729,1730,3,2,5,0,2),(1740,1740,3,2,5,0,2),(1746,1747,3,2,5,0,3),(1749,1749,3,2,5,0,3),
 (1776,1785,7,3,5,0,0),(1789,1790,8,2,5,0,0)]
theorem arabic_any (w : World) : Calls Tryz.prog 92 #[] w fun e w'=>e = .returned (.slice (some ⟨w.heap.size,0,none⟩) arabicT.length arabicT.length) ∧ w' = w.alloc (.cells (arabicT.flatMap cells7).toArray 144) :=
 lit_calls (posA Tryz.f92) (posB Tryz.f92) arabicT w Tryz.func92 (by kernel_rfl) rfl (by kernel_rfl) (by decide) (by decide)
def devT : List Ln:=[
 (2305,2306,5,8,6,0,4),(2307,2307,6,0,6,0,0),(2308,2361,3,0,6,0,0),(2364,2364,5,8,6,7,4),
 (2366,2368,6,0,6,0,0),(2369,2376,5,8,6,0,4),(2377,2380,6,0,6,0,0),(2381,2381,5,8,6,9,4),
 (2392,2401,3,0,6,0,0),(2406,2415,7,0,6,0,0),(4352,4370,3,0,7,0,0),(4449,4469,3,0,7,0,0),
 (4520,4546,3,0,7,0,0),(7840,7929,12,0,1,0,0),(8192,8202,8,11,0,0,0),(8203,8203,9,9,0,0,4),
 (8204,8204,9,9,0,0,0),(8205,8205,9,9,0,0,1),(8206,8206,9,0,0,0,4),(8207,8207,9,1,0,0,4),
 (8208,8231,8,10,0,0,0),(8234,8238,9,9,0,0,4),(8294,8297,9,9,0,0,4),(8486,8486,1,0,2,0,0),
 (8490,8491,1,0,1,0,0),(12289,12290,8,10,0,0,0),(12293,12293,4,0,10,0,0),(12295,12295,8,0,10,0,0),
 (12337,12341,4,0,0,0,0),(12347,12347,4,0,10,0,0),(12353,12438,3,0,8,0,0),(12441,12442,5,8,0,8,4),
 (12445,12446,4,0,8,0,0),(12449,12538,3,0,9,0,0),(12539,12539,8,10,0,0,0),(12540,12540,4,0,0,0,0),
 (12541,12542,4,0,9,0,0),(19968,40959,3,0,10,0,0),(44032,55203,3,0,7,0,0)]
theorem dev_any (w : World) : Calls Tryz.prog 93 #[] w fun e w'=>e = .returned (.slice (some ⟨w.heap.size,0,none⟩) devT.length devT.length) ∧ w' = w.alloc (.cells (devT.flatMap cells7).toArray 144) :=
 lit_calls (posA Tryz.f93) (posB Tryz.f93) devT w Tryz.func93 (by kernel_rfl) rfl (by kernel_rfl) (by decide) (by decide)
def lastT : List Ln:=[
 (57344,63743,11,0,0,0,0),(65281,65295,8,10,0,0,0),(65296,65305,7,3,0,0,0),(65306,65312,8,10,0,0,0),
 (65313,65338,1,0,1,0,0),(65339,65344,8,10,0,0,0),(65345,65370,2,0,1,0,0),(65371,65374,8,10,0,0,0),
 (65377,65377,8,10,0,0,0),(65381,65381,8,10,0,0,0),(65382,65391,3,0,9,0,0),(65392,65392,4,0,0,0,0),
 (65393,65437,3,0,9,0,0),(65438,65439,4,0,0,0,0),(65533,65533,8,10,0,0,0),(66560,66599,1,0,0,0,0),
 (66600,66639,2,0,0,0,0),(128512,128591,8,10,0,0,0),(983040,1048573,11,0,0,0,0),(1048576,1114109,11,0,0,0,0)]
theorem last_any (w : World) : Calls Tryz.prog 94 #[] w fun e w'=>e = .returned (.slice (some ⟨w.heap.size,0,none⟩) lastT.length lastT.length) ∧ w' = w.alloc (.cells (lastT.flatMap cells7).toArray 144) :=
 lit_calls (posA Tryz.f94) (posB Tryz.f94) lastT w Tryz.func94 (by kernel_rfl) rfl (by kernel_rfl) (by decide) (by decide)
end Go.Proofs.YtkhipgcgcbhjoaaGreat.Uc
namespace Go.Proofs.YtkhipgcgcbhjoaaGreat.Uc
open Go.RowKit
def lnv (x : Ln) : Value:=.agg (cells7 x).toArray
def hasP (x : Ln) (k : Int) : Tr:=⟨k,x.2.2.2.1,x.2.2.2.2.1,x.2.2.2.2.2.1,x.2.2.2.2.2.2⟩
def caseP (x : Ln) (r : Int) : Int:=if ((r.tmod 2 == 0) == (x.2.2.1 == 12)) = true then 1 else 2
theorem has_any (w : World) (x : Ln) (k : Int) : Calls Tryz.prog 87 #[lnv x,.int .i64 k] w fun e w'=>e = .returned (trv (hasP x k)) ∧ Below w.heap.size w w':=by
 obtain ⟨x1,x2,x3,x4,x5,x6,x7⟩:=x
 simp only [lnv,cells7,trv,hasP]
 go_enter Tryz.func87,Tryz.ntmps87
 go_wp2
 exact bodyPost_ret (v:=trv ⟨k,x4,x5,x6,x7⟩) (results_cell_row Tryz.results87 _ _ (w.heap.size + 1) 89 _ (0,0) _ rfl (by rw [<- World.size_alloc w]; exact heap_alloc_new _ _) Tryz.underlying89 rfl (by kernel_rfl)) rfl
  ⟨rfl,((Below.refl _ _).alloc (Nat.le_refl _) _).alloc (by simp) _⟩
theorem caseAt_any (w : World) (x : Ln) (r : Int) : Calls Tryz.prog 88 #[lnv x,.int .i32 r] w fun e w'=>e = .returned (.int .i64 (caseP x r)) ∧ Below w.heap.size w w':=by
 obtain ⟨x1,x2,x3,x4,x5,x6,x7⟩:=x
 simp only [lnv,cells7,caseP]
 go_enter Tryz.func88,Tryz.ntmps88
 go_wp2
 all_goals go_ret
 ·exact ⟨rfl,(Below.refl _ _).alloc (Nat.le_refl _) _⟩
 all_goals first | (simp_all; done) | exact ⟨rfl,(Below.refl _ _).alloc (Nat.le_refl _) _⟩
end Go.Proofs.YtkhipgcgcbhjoaaGreat.Uc
namespace Go.Proofs.YtkhipgcgcbhjoaaGreat.Uc
open Go.RowKit Go.Great
def allT : List Ln:=latinT ++ marksT ++ arabicT ++ devT ++ lastT
def rcells7 (x : Ln) : List Value:=[.int .i64 x.1,.int .i64 x.2.1,.int .i64 x.2.2.1,.int .i64 x.2.2.2.1,.int .i64 x.2.2.2.2.1,.int .i64 x.2.2.2.2.2.1,.int .i64 x.2.2.2.2.2.2]
def rlOps (pos : String) : Nat -> List Ln -> List Oper
 | _,[]=>[]
 | d,x :: xs =>
  { dst:=some d,op:=.build 169 #[(0,.const (.int .i64 x.1)),(1,.const (.int .i64 x.2.1)),(2,.const (.int .i64 x.2.2.1)),(3,.const (.int .i64 x.2.2.2.1)),(4,.const (.int .i64 x.2.2.2.2.1)),(5,.const (.int .i64 x.2.2.2.2.2.1)),(6,.const (.int .i64 x.2.2.2.2.2.2))],type:=169,pos:=pos,after:=#[],guard:=none } ::
  rlOps pos (d + 1) xs
theorem rbuilt7 (x : Ln) : Tryz.prog.built 169 [(0,.int .i64 x.1),(1,.int .i64 x.2.1),(2,.int .i64 x.2.2.1),(3,.int .i64 x.2.2.2.1),(4,.int .i64 x.2.2.2.2.1),(5,.int .i64 x.2.2.2.2.2.1),(6,.int .i64 x.2.2.2.2.2.2)] = some (rcells7 x).toArray:=by kernel_rfl
theorem wpList_rls {ops : Array Oper} {rest : List Oper} {w : World} {Q : Exit -> Act -> World -> Prop} (pos : String) :
 ∀ (xs : List Ln) (d : Nat) (a : Act),d + xs.length <= a.tmps.size ->
  (∀ a' : Act,a'.tmps.size = a.tmps.size -> a'.defers = a.defers -> (∀ i (h : i < xs.length),a'.eval (.tmp (d + i)) = .agg (rcells7 xs[i]).toArray) ->
   (∀ j,j < d -> a'.eval (.tmp j) = a.eval (.tmp j)) -> wpList Tryz.prog ops Q rest a' w) ->
  wpList Tryz.prog ops Q (rlOps pos d xs ++ rest) a w
 | [],d,a,_,h=>h a rfl rfl (fun i hi=>absurd hi (by simp)) (fun _ _=>rfl)
 | x :: xs,d,a,hd,h=>by
  have hlt : d < a.tmps.size:=by simp at hd; omega
  show wpList Tryz.prog ops Q (_ :: (rlOps pos (d + 1) xs ++ rest)) a w
  refine wpList_buildTo rfl 169 _ rfl (some d) rfl (rcells7 x).toArray (by simpa [Act.eval] using rbuilt7 x) ?_
  refine wpList_rls pos xs (d + 1) _ (by rw [Act.size_put]; simp at hd; omega) fun a' hs hdf hev hlow=>?_
  refine h a' (by rw [hs,Act.size_put]) (by rw [hdf,Act.defers_put']) (fun i hi=>?_) (fun j hj=>?_)
  ·cases i with
   | zero=>rw [show d + 0 = d by omega,hlow d (by omega),Act.eval_put_same _ _ _ (by omega)]; rfl
   | succ i =>
    have:=hev i (by simpa using hi)
    rw [show d + (i + 1) = d + 1 + i by omega,this]
    rfl
  ·rw [hlow j (by omega),Act.eval_put_ne _ _ _ _ (by omega)]
def rlitEnd (p2 : String) (n : Nat) : List Oper :=
 [{ dst:=some (n + 1),op:=.buildSlice 232 n ((List.range n).map fun i=>(i,Operand.tmp (1 + i))).toArray,type:=232,pos:=p2,after:=((List.range n).map fun i=>⟨i,.data⟩).toArray,guard:=none },
  { dst:=some 0,op:=.assign (.tmp (n + 1)),type:=232,pos:=p2,after:=(⟨n,.data⟩ :: (List.range (n + 1)).map fun i=>⟨i,.phase⟩).toArray,guard:=none }]
def rlitStart (p1 : String) : List Oper:=[{ dst:=some 0,op:=.assign (.const (.slice none 0 0)),type:=232,pos:=p1,after:=#[],guard:=none }]
def rlitBody (p1 p2 : String) (T : List Ln) : Code :=
 .seq (.region 0 (rlitStart p1).toArray false) (.seq (.region 1 (rlOps p2 1 T ++ rlitEnd p2 T.length).toArray false) .ret)
theorem rlit_calls {f : FuncId} {fn : Func} (p1 p2 : String) (T : List Ln) (w : World) (hf : Tryz.prog.funcs[f]? = some fn) (hb : fn.body = some (rlitBody p1 p2 T)) (hr : fn.results = #[.tmp 0]) (hn : fn.ntmps = T.length + 2)
 (hpos : 0 < T.length) (hsmall : T.length * 7 <= 2 ^ 24) :
 Calls Tryz.prog f #[] w fun e w'=>e = .returned (.slice (some ⟨w.heap.size,0,none⟩) T.length T.length) ∧ w' = w.alloc (.cells (T.flatMap rcells7).toArray 169):=by
 refine calls_of_wp hf hb ?_
 refine wp_anyFrame (T.length + 2) (by simp [hn]) rfl fun a0 hs0 hd0=>?_
 unfold rlitBody;apply wp_seq_k; intro K0 hK0
 apply wp_region_lit
 unfold rlitStart;refine wpList_readTo rfl (some 0) rfl (.slice none 0 0) rfl ?_
 apply wpList_nil
 refine hK0 _ _ ?_
 refine wp_anyFrame (T.length + 2) (by simp only [Act.size_put,hs0]) (by simp only [Act.defers_put',hd0]) fun a1 hs1 hd1=>?_
 clear hK0 K0;apply wp_seq_k; intro K1 hK1
 apply wp_region_lit
 refine wpList_rls p2 T 1 a1 (by omega) fun b hbs hbd hev _=>?_
 have hl : (T.map fun x=>Value.agg (rcells7 x).toArray).length = T.length:=by simp
 have hfl : ((T.map fun x=>Value.agg (rcells7 x).toArray).flatMap fun v=>v.cells.toList) = T.flatMap rcells7:=by simp [List.flatMap_map,Value.cells]
 unfold rlitEnd;refine wpList_buildRows rfl 232 169 _ 7 (T.map fun x=>Value.agg (rcells7 x).toArray) (by rw [hl]) (fun i=>1 + i) w.heap.size rfl (some (T.length + 1)) rfl (by kernel_rfl) (by kernel_rfl) (by kernel_rfl) (by omega) (by rw [hl]; exact hpos) (by rw [hl]; exact hsmall)
  (by rw [hl]) (fun v hv=>by obtain ⟨x,_,rfl⟩:=List.mem_map.1 hv; rfl) (fun i hi=>by rw [hev i (by simpa using hi)]; simp) ?_
 rw [hl,hfl];refine wpList_readTo rfl (some 0) rfl (.slice (some ⟨w.heap.size,0,none⟩) T.length T.length) ?_ ?_
 ·show Sem.run _ _ _ = _
  simp only [execOp]
  rw [Act.eval_put_same _ _ _ (by omega)];rfl
 apply wpList_nil
 refine hK1 _ _ ?_
 refine wp_ret (bodyPost_ret (results_tmp hr _ _ _) (by simp only [Act.defers_put',hbd,hd1]) ?_)
 refine ⟨?_,rfl⟩
 have:=Act.eval_put_same (b.put (some (T.length + 1)) (.slice (some ⟨w.heap.size,0,none⟩) T.length T.length)) 0 (.slice (some ⟨w.heap.size,0,none⟩) T.length T.length) (by rw [Act.size_put]; omega)
 exact congrArg Ending.returned this
def part (i : Nat) : List Ln:=(allT.drop (30 * i)).take 30
theorem rows0_any (w : World) : Calls Tryz.prog 180 #[] w fun e w'=>e = .returned (.slice (some ⟨w.heap.size,0,none⟩) (part 0).length (part 0).length) ∧ w' = w.alloc (.cells ((part 0).flatMap rcells7).toArray 169) :=
 rlit_calls (posA Tryz.f180) (posB Tryz.f180) (part 0) w Tryz.func180 (by kernel_rfl) rfl (by kernel_rfl) (by decide) (by decide)
theorem rows1_any (w : World) : Calls Tryz.prog 181 #[] w fun e w'=>e = .returned (.slice (some ⟨w.heap.size,0,none⟩) (part 1).length (part 1).length) ∧ w' = w.alloc (.cells ((part 1).flatMap rcells7).toArray 169) :=
 rlit_calls (posA Tryz.f181) (posB Tryz.f181) (part 1) w Tryz.func181 (by kernel_rfl) rfl (by kernel_rfl) (by decide) (by decide)
theorem rows2_any (w : World) : Calls Tryz.prog 182 #[] w fun e w'=>e = .returned (.slice (some ⟨w.heap.size,0,none⟩) (part 2).length (part 2).length) ∧ w' = w.alloc (.cells ((part 2).flatMap rcells7).toArray 169) :=
 rlit_calls (posA Tryz.f182) (posB Tryz.f182) (part 2) w Tryz.func182 (by kernel_rfl) rfl (by kernel_rfl) (by decide) (by decide)
theorem rows3_any (w : World) : Calls Tryz.prog 183 #[] w fun e w'=>e = .returned (.slice (some ⟨w.heap.size,0,none⟩) (part 3).length (part 3).length) ∧ w' = w.alloc (.cells ((part 3).flatMap rcells7).toArray 169) :=
 rlit_calls (posA Tryz.f183) (posB Tryz.f183) (part 3) w Tryz.func183 (by kernel_rfl) rfl (by kernel_rfl) (by decide) (by decide)
theorem rows4_any (w : World) : Calls Tryz.prog 184 #[] w fun e w'=>e = .returned (.slice (some ⟨w.heap.size,0,none⟩) (part 4).length (part 4).length) ∧ w' = w.alloc (.cells ((part 4).flatMap rcells7).toArray 169) :=
 rlit_calls (posA Tryz.f184) (posB Tryz.f184) (part 4) w Tryz.func184 (by kernel_rfl) rfl (by kernel_rfl) (by decide) (by decide)
theorem rows5_any (w : World) : Calls Tryz.prog 185 #[] w fun e w'=>e = .returned (.slice (some ⟨w.heap.size,0,none⟩) (part 5).length (part 5).length) ∧ w' = w.alloc (.cells ((part 5).flatMap rcells7).toArray 169) :=
 rlit_calls (posA Tryz.f185) (posB Tryz.f185) (part 5) w Tryz.func185 (by kernel_rfl) rfl (by kernel_rfl) (by decide) (by decide)
theorem rows6_any (w : World) : Calls Tryz.prog 186 #[] w fun e w'=>e = .returned (.slice (some ⟨w.heap.size,0,none⟩) (part 6).length (part 6).length) ∧ w' = w.alloc (.cells ((part 6).flatMap rcells7).toArray 169) :=
 rlit_calls (posA Tryz.f186) (posB Tryz.f186) (part 6) w Tryz.func186 (by kernel_rfl) rfl (by kernel_rfl) (by decide) (by decide)
end Go.Proofs.YtkhipgcgcbhjoaaGreat.Uc
namespace Go.Proofs.YtkhipgcgcbhjoaaGreat.Uc
open Go.RowKit
section
variable {w : World} {b : Nat} {L : List (SRow Tr)} {p : Nat} {rv : Value}
end
def rlv (x : Ln) : Value:=.agg (rcells7 x).toArray
def rkindP (x : Ln) (r : Int) : Int:=if x.2.2.1 = 12 then wrap64 (1 + r.tmod 2) else if x.2.2.1 = 13 then wrap64 (2 - r.tmod 2) else x.2.2.1
def caseRows (x : Ln) : Int -> Nat -> List (SRow Tr)
 | _,0=>[]
 | r,n + 1=>⟨r,r,hasP x (caseP x r)⟩ :: caseRows x (r + 1) n
def lineRows (x : Ln) : List (SRow Tr) :=
 if x.2.2.1 ≠ 12 ∧ x.2.2.1 ≠ 13 then [⟨x.1,x.2.1,hasP x x.2.2.1⟩] else caseRows x x.1 (x.2.1 - x.1 + 1).toNat
def asgP (T : List Ln) : List (SRow Tr):=T.flatMap lineRows
def fillP : Int -> List (SRow Tr) -> List (SRow Tr)
 | next,[]=>if next <= 1114111 then [⟨next,1114111,zTr⟩] else []
 | next,x :: xs=>if next < x.f then ⟨next,x.f - 1,zTr⟩ :: x :: fillP (x.t + 1) xs else x :: fillP (x.t + 1) xs
def bookL : List (SRow Tr):=fillP 0 (asgP allT)
theorem book_check : check bookL = 0:=by kernel_rfl
theorem book_len : Nat.ble bookL.length 4096 = true:=by kernel_rfl
def tr7 (x : SRow Tr) : List Value:=[.int .i32 x.f,.int .i32 x.t,.int .i64 x.v.a,.int .i64 x.v.b,.int .i64 x.v.c,.int .i64 x.v.d,.int .i64 x.v.e]
theorem tr7_at : ∀ (l : List (SRow Tr)) (j i : Nat) (h : j < l.length),i < 7 -> (l.flatMap tr7)[j * 7 + i]? = (tr7 l[j])[i]?
 | [],_,_,h,_=>by simp at h
 | x :: l,0,i,_,hi=>by
  simp only [List.flatMap_cons,Nat.zero_mul,Nat.zero_add,List.getElem_cons_zero]
  rw [List.getElem?_append_left (by simp [tr7]; omega)]
 | x :: l,j + 1,i,h,hi=>by
  have:=tr7_at l j i (by simpa using h) hi
  rw [List.flatMap_cons,List.getElem?_append_right (by simp [tr7]; omega)]
  rw [show (j + 1) * 7 + i - (tr7 x).length = j * 7 + i by simp [tr7]; omega,this]
  rfl
theorem vin_of_own {w : World} {B : Nat} {v : Value} {l : List (SRow Tr)} (h : w.ownsRow B 142 7 v l.length (l.flatMap tr7)) : VIn w v l:=by
 have hlt:=fun g hg=>(h.lt g hg).2
 rcases h.2 with ⟨h1,h2⟩ | ⟨g,cap,cur,rfl,h2,h3,h4,h5,h6,h7⟩
 ·have:=List.eq_nil_of_length_eq_zero h2
  subst this;exact ⟨none,0,h1,hlt,fun j hj=>by simp at hj⟩
 ·refine ⟨some ⟨g,0,none⟩,cap,rfl,hlt,fun j hj=>⟨g,0,rfl,(Array.getElem?_eq_some_iff.1 h3).1,?_⟩⟩
  have c:=fun i (hi : i < 7)=>(h.cellAt (j * 7 + i) (by omega)).trans (tr7_at l j i hj hi)
  rw [Nat.zero_add];exact ⟨c 0 (by omega),c 1 (by omega),c 2 (by omega),c 3 (by omega),c 4 (by omega),c 5 (by omega),c 6 (by omega)⟩
theorem Tryz.info_row7 : (Tryz.prog.info? 142).map (fun i=>(i.zero,i.size,i.bytes)) = some (some (.agg #[.int .i32 0,.int .i32 0,.int .i64 0,.int .i64 0,.int .i64 0,.int .i64 0,.int .i64 0]),7,48):=by kernel_rfl
theorem step_row7 {ops : Array Oper} {o : Oper} {a : Act} {K : Act -> World -> Prop} {Q : Exit -> Act -> World -> Prop} {E : Prop} (hgd : o.guard = none) (s x : Operand)
 (ho : o.op = .call { callee:=.builtin .append,args:=#[s,x],argTypes:=#[80,80] }) (W : World) (B n : Nat) (v : Value) (xs : List Value) (r : SRow Tr) (hs : a.eval s = v) (hx : a.eval x = .slice (some ⟨W.heap.size,0,none⟩) 1 1)
 (hown : W.ownsRow B 142 7 v n xs) (hn : n <= 5000) (hB : B <= W.heap.size)
 (h : ∀ g cap w',w'.ownsRow B 142 7 (.slice (some ⟨g,0,none⟩) (n + 1) cap) (n + 1) (xs ++ tr7 r) -> (W.alloc (.cells (tr7 r).toArray 142)).grownBy w' v.ownBlock -> (v.ownBlock = some g ∨ g = W.heap.size + 1) -> K (a.put o.dst (.slice (some ⟨g,0,none⟩) (n + 1) cap)) w') :
 if Region.wanted o (yielded ops a.tmps) = true then Oper.wp Tryz.prog o a (W.alloc (.cells (tr7 r).toArray 142)) K Q else E:=by
 obtain ⟨i0,hi,hz0,hz1,hz2⟩:=info_parts Tryz.info_row7
 refine step_append_lies (P:=Tryz.prog) _ hgd s x 80 ho B 142 i0 (.agg #[.int .i32 0,.int .i32 0,.int .i64 0,.int .i64 0,.int .i64 0,.int .i64 0,.int .i64 0]) 7 48 Tryz.underlying80 hi hz0 hz1 hz2 rfl (by decide) v n xs hs (hown.alloc _) ⟨W.heap.size,0,none⟩ 1 1 (tr7 r) hx rfl
  (World.news_of_block (heap_alloc_new W _)) (fun u hu=>by simp [tr7] at hu; rcases hu with rfl | rfl | rfl | rfl | rfl | rfl | rfl <;> rfl) (by omega) (by unfold maxLen; omega) (by omega) (by simp; omega) (W.heap.size + 1) (by simp) (fun g cap w' h1 h2 h3 _=>h g cap w' h1 h2 h3)
end Go.Proofs.YtkhipgcgcbhjoaaGreat.Uc
