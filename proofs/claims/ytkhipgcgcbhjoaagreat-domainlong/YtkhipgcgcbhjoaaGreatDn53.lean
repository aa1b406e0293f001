import Derived.Test.YtkhipgcgcbhjoaaGreatDn51
import Derived.Test.YtkhipgcgcbhjoaaGreatDn52
import Derived.Test.YtkhipgcgcbhjoaaGreatDn27
import Derived.Shelf.Strings.OnBuilder
set_option maxRecDepth 100000
set_option maxHeartbeats 4000000
namespace Go.Proofs.YtkhipgcgcbhjoaaGreat
namespace Do
open Go.RowKit Od Pr Nf Ma La
theorem info_str : (Tryz.prog.info? 9).map (fun i=>(i.zero,i.size,i.bytes)) = some (some (.string ⟨#[]⟩),1,16):=by kernel_rfl
theorem info_part : (Tryz.prog.info? 126).map (fun i=>(i.zero,i.size,i.bytes)) = some (some .nilIface,1,16):=by kernel_rfl
theorem appT {ops : Array Oper} {rest : List Oper} {o : Oper} {a : Act} {Q : Exit -> Act -> World -> Prop} (hgd : o.guard = none) (s x : Operand)
 (ho : o.op = .call { callee:=.builtin .append,args:=#[s,x],argTypes:=#[124,124] }) (W : World) (B : Nat) (v : Value) (us : List Value) (r : ByteArray) (hs : a.eval s = v) (N : Nat) (hN : W.heap.size = N) (hx : a.eval x = .slice (some ⟨N,0,none⟩) 1 1)
 (hown : W.ownsRow B 9 1 v us.length us) (hn : us.length <= 1000000) (hB : B <= W.heap.size)
 (h : ∀ v' w',w'.ownsRow B 9 1 v' (us ++ [Value.string r]).length (us ++ [Value.string r]) -> Below B W w' -> wpList Tryz.prog ops Q rest (a.put o.dst v') w') :
 wpList Tryz.prog ops Q (o :: rest) a (W.alloc (.cells #[.string r] 9)):=by
 subst hN;obtain ⟨i0,hi,hz0,hz1,hz2⟩:=info_parts info_str
 refine wpList_append_own_at _ hgd s x 124 ho B 9 i0 (.string ⟨#[]⟩) 1 16 Tryz.underlying124 hi hz0 hz1 hz2 rfl (by decide) v us.length us hs (hown.alloc _) ⟨W.heap.size,0,none⟩ 1 1 [.string r] hx rfl
  (World.news_of_block (heap_new W _)) (fun u hu=>by simp at hu; subst hu; rfl) (by unfold maxLen; omega) (by omega) (by simp; omega) (fun v' w' h1 h2 _ _=>h v' w' ?_ ?_)
 ·rw [List.length_append]; exact h1
 ·exact ((Below.refl _ _).alloc hB _).trans (Od.below_of_grown h2 B (by simp; omega) (fun k e=>(hown.lt k e).1))
def Pa (W : World) (ao : Option Addr) (Ls : List (List Int)) : Prop:=∀ j (h : j < Ls.length),∃ b off pv,ao = some ⟨b,off,none⟩ ∧ b < W.heap.size ∧ W.cell? ⟨b,off + j,none⟩ = some pv ∧ PartV W Ls[j] pv
theorem Pa.step {W W' : World} {ao : Option Addr} {Ls : List (List Int)} (h : Pa W ao Ls) (hb : Below W.heap.size W W') : Pa W' ao Ls:=fun j hj=>by
 obtain ⟨b,off,pv,e,hl,hc,hp⟩:=h j hj
 exact ⟨b,off,pv,e,Nat.lt_of_lt_of_le hl hb.size,(hb.cell (p:=⟨b,off + j,none⟩) hl).trans hc,hp.step hb⟩
def Rw (W : World) (ao : Option Addr) (vs : List Value) : Prop:=∀ j (h : j < vs.length),∃ g,ao = some ⟨g,0,none⟩ ∧ g < W.heap.size ∧ W.cell? ⟨g,j,none⟩ = some vs[j]
theorem Rw.step {W W' : World} {ao : Option Addr} {vs : List Value} (h : Rw W ao vs) (hb : Below W.heap.size W W') : Rw W' ao vs:=fun j hj=>by
 obtain ⟨g,e,hl,hc⟩:=h j hj
 exact ⟨g,e,Nat.lt_of_lt_of_le hl hb.size,(hb.cell (p:=⟨g,j,none⟩) hl).trans hc⟩
def snV (q : Bool) (Ls : List (List Int)) : List Value:=Ls.map (fun A=>.string (snS A q))
theorem snV_next (q : Bool) (Ls : List (List Int)) (k : Nat) (h : k < Ls.length) : snV q (Ls.take (k + 1)) = snV q (Ls.take k) ++ [.string (snS Ls[k] q)]:=by unfold snV;rw [List.take_succ_eq_append_getElem h,List.map_append]; rfl
theorem wh_next (q : Bool) (Ls : List (List Int)) (k : Nat) (h : k < Ls.length) : whF q k (Ls.drop k) = if snF Ls[k] q = 0 then whF q (k + 1) (Ls.drop (k + 1)) else ((k : Int),snF Ls[k] q):=by rw [List.drop_eq_getElem_cons h]; rfl
theorem labels_any {w : World} {nm b m f c g j k p d u s : Nat} (hN : Nm w nm b m f c g j k p d u s) (hB : Bk w b) {ao : Option Addr} {n cap : Nat} {Ls : List (List Int)} (hP : Pa w ao Ls) (hL : Ls.length = n)
 (hA : ∀ A ∈ Ls,∀ x ∈ A,Ut.scB x = true) (hl : ∀ A ∈ Ls,A.length <= 120) (hn : n <= 1000) (root q : Bool) :
 Calls Tryz.prog 85 #[.pointer (some ⟨nm,0,none⟩),.agg #[.slice ao n cap,.bool root,.bool q]] w fun e w'=>∃ ao' n' cap',e = .returned (.tuple #[.slice ao' n' cap',.int .i64 (whF q 0 Ls).1,.int .i64 (whF q 0 Ls).2]) ∧ ((whF q 0 Ls).2 = 0 -> n' = n ∧ n <= cap' ∧ Rw w' ao' (snV q Ls)) ∧ Below w.heap.size w w':=by
 have HNm:=La.hr (fun (W : World) (h : Below w.heap.size w W)=>hN.step h)
 have HBk:=La.hr (fun (W : World) (h : Below w.heap.size w W)=>hB.step h)
 have HP:=La.hr (fun (W : World) (h : Below w.heap.size w W)=>hP.step h)
 have HA:=La.hr hA
 have HL:=La.hr hl
 have HLn:=La.hr hL
 have HO:=La.hr ((Ok.start w).alloc (o:=.cells #[.slice ao n cap,.bool root,.bool q] 120))
 have HC : Hid ((w.alloc (.cells #[.slice ao n cap,.bool root,.bool q] 120)).heap[w.heap.size]? = some (.cells #[.slice ao n cap,.bool root,.bool q] 120)):=heap_new w _
 have H0 : Hid ((w.alloc (.cells #[.slice ao n cap,.bool root,.bool q] 120)).ownsRow (w.heap.size + 1) 9 1 (.slice none 0 0) (snV q (Ls.take 0)).length (snV q (Ls.take 0)) ∧ whF q 0 Ls = whF q 0 (Ls.drop 0)):=⟨World.ownsRow_nil _ _ _ _,rfl⟩
 have HW:=La.hr (wh_next q Ls);have HV:=La.hr (snV_next q Ls);clear hN hB hP hA hl hL;go_enter Tryz.func85,Tryz.ntmps85
 go_wp2_with fail;go_loopg [4,14] n (fun gg vl vi wr=>∃ k : Nat,vi = .int .i64 k ∧ k <= n ∧ gg = n - k ∧ Hid (wr.ownsRow (w.heap.size + 1) 9 1 vl (snV q (Ls.take k)).length (snV q (Ls.take k)) ∧ whF q 0 Ls = whF q k (Ls.drop k)) ∧ Hid (Ok w.heap.size w wr ∧ wr.heap[w.heap.size]? = some (.cells #[.slice ao n cap,.bool root,.bool q] 120) ∧ w.heap.size < wr.heap.size))
 case atStart=>exact ⟨0,rfl,Nat.zero_le _,rfl,H0.out,HO.out,HC.out,(Array.getElem?_eq_some_iff.1 HC.out).1⟩
 case round =>
  obtain ⟨k,rfl,hk,hg,H,HR⟩:=hrel
  have HG:=La.hr hg
  clear hg H0;by_cases hlt : k < n
  ·have hku : k < Ls.length:=by have:=HLn.out; omega
   obtain ⟨g1,off,pv,rfl,hgl,c1,hp⟩:=HP.out wr HR.out.1.1 k hku
   have cq : wr.cell? ⟨w.heap.size,2,none⟩ = some (.bool q):=by
    unfold World.cell?
    rw [HR.out.2.1]; rfl
   have HOne:=La.hr (one_any (HNm.out wr HR.out.1.1) (HBk.out wr HR.out.1.1) (HA.out _ (List.getElem_mem hku)) (HL.out _ (List.getElem_mem hku)) hp q);have HW1:=La.hr (HW.out k hku)
   have HV1:=La.hr (HV.out k hku);have z1 : (k : Int) < (n : Int):=by omega
   have hlen : (snV q (Ls.take k)).length <= 1000000:=by unfold snV;rw [List.length_map,List.length_take]; omega
   clear hp;generalize snF Ls[k] q = fl at *;generalize snS Ls[k] q = tx at *;by_cases hf : fl = 0
   ·subst hf;rw [if_pos rfl] at HW1;go_wp2_with fail;refine HOne.out.mono ?_;rintro e w1 ⟨rfl,hb⟩;have HB1:=La.hr hb
    clear hb HOne c1 cq;go_wp2_with (at_builtin; refine appT rfl (.tmp 31) (.tmp 33) rfl w1 (w.heap.size + 1) _ (snV q (Ls.take k)) tx (by rfl) w1.heap.size rfl (by rfl) (Ma.own_below H.out.1 HB1.out) hlen (Nat.le_trans HR.out.2.2 HB1.out.size) (fun v' w' h1 h2=>?_); rw [<- HV1.out] at h1; have H2:=La.hr h1; have H3:=La.hr (And.intro (HR.out.1.step HB1.out) h2); clear h1 h2)
    go_roundg (n - (k + 1))
    case measure=>rw [HG.out]; omega
    case rel =>
     have b3:=H3.out.2
     have e1:=(HB1.out.block w.heap.size HR.out.2.2).trans HR.out.2.1
     refine ⟨k + 1,by go_num,by omega,rfl,⟨H2.out,H.out.2.trans HW1.out⟩,⟨H3.out.1.1.trans (b3.mono (Nat.le_succ _)),Nat.le_trans H3.out.1.2 b3.size⟩,?_,?_⟩
     ·exact (b3.block w.heap.size (Nat.lt_succ_self _)).trans e1
     ·have:=HB1.out.size; have:=b3.size; have:=HR.out.2.2; omega
   ·have z0 : (fl == 0) = false:=beq_eq_false_iff_ne.2 hf
    rw [if_neg hf] at HW1;have HZ:=La.hr hf
    clear hf;go_wp2_with fail;refine HOne.out.mono ?_;rintro e w1 ⟨rfl,hb⟩;have HB1:=La.hr hb
    clear hb HOne c1 cq;go_wp2_with fail;try rw [Exit.noGoto_ret]
    go_ret3
    refine ⟨none,0,0,?_,fun h=>?_,(HR.out.1.step HB1.out).1⟩
    ·rw [H.out.2.trans HW1.out]; rfl
    ·rw [H.out.2,HW1.out] at h;exact absurd h HZ.out
  ·have e : k = Ls.length:=by have:=HLn.out; omega
   have z1 : ¬ (k : Int) < (n : Int):=by omega
   have HF : Hid (wr.ownsRow (w.heap.size + 1) 9 1 u4 (snV q Ls).length (snV q Ls) ∧ whF q 0 Ls = (0,0)):=by
    have:=H.out
    rw [e,List.take_length,List.drop_length] at this;exact this
   clear H;obtain ⟨ao',cap',e2,hcp,hrw⟩:=row_at HF.out.1
   have hvl : (snV q Ls).length = n:=by unfold snV; rw [List.length_map,HLn.out]
   have HCp:=La.hr hcp
   have HVl:=La.hr hvl
   clear hcp hvl;have HRw : Hid (Rw wr ao' (snV q Ls)):=hrw
   subst e2;go_wp2_with fail;go_ret3
   refine ⟨ao',(snV q Ls).length,cap',?_,fun _=>⟨HVl.out,by rw [<- HVl.out]; exact HCp.out,HRw.out⟩,HR.out.1.1⟩
   rw [HF.out.2]; rfl
end Do
end Go.Proofs.YtkhipgcgcbhjoaaGreat
namespace Go.Proofs.YtkhipgcgcbhjoaaGreat
namespace Do
open Go.Shelf Go.RowKit
def joRen : Ren:=⟨fun | 156=>78 | 165=>140 | 166=>141 | 169=>139 | 240=>213 | 241=>215 | 276=>267 | 277=>269 | n=>n,
 fun | 0=>0 | 3=>3 | 4=>4 | 5=>5 | 9=>9 | 20=>20 | 31=>124 | 37=>61 | 70=>187 | 72=>189 | 75=>191 | 76=>192 | 80=>194 | 127=>258 | 164=>297 | n=>n,fun | n=>n⟩
theorem joLays : Lays.n156 Tryz.prog joRen:={
 mixed:=by kernel_rfl
 f156:=Tryz.func78.trans (congrArg some (by kernel_rfl))
 f165:=Tryz.func140.trans (congrArg some (by kernel_rfl))
 f166:=Tryz.func141.trans (congrArg some (by kernel_rfl))
 f169:=Tryz.func139.trans (congrArg some (by kernel_rfl))
 f240:=Tryz.func213.trans (congrArg some (by kernel_rfl))
 f241:=Tryz.func215.trans (congrArg some (by kernel_rfl))
 f276:=Tryz.func267.trans (congrArg some (by kernel_rfl))
 f277:=Tryz.func269.trans (congrArg some (by kernel_rfl))
 t0:=Tryz.underlying0
 a0:=Tryz.isAgg0
 z0:=Tryz.sizeOf0
 v0:=Tryz.zeroValue0
 t3:=Tryz.underlying3
 a3:=Tryz.isAgg3
 z3:=Tryz.sizeOf3
 v3:=Tryz.zeroValue3
 t4:=Tryz.underlying4
 a4:=Tryz.isAgg4
 z4:=Tryz.sizeOf4
 v4:=Tryz.zeroValue4
 t9:=Tryz.underlying9
 a9:=Tryz.isAgg9
 z9:=Tryz.sizeOf9
 v9:=Tryz.zeroValue9
 t20:=Tryz.underlying20
 a20:=Tryz.isAgg20
 z20:=Tryz.sizeOf20
 v20:=Tryz.zeroValue20
 t31:=Tryz.underlying124
 a31:=Tryz.isAgg124
 z31:=Tryz.sizeOf124
 v31:=Tryz.zeroValue124
 t37:=Tryz.underlying61
 a37:=Tryz.isAgg61
 z37:=Tryz.sizeOf61
 v37:=Tryz.zeroValue61
 t70:=Tryz.underlying187
 a70:=Tryz.isAgg187
 z70:=Tryz.sizeOf187
 v70:=Tryz.zeroValue187
 t72:=Tryz.underlying189
 a72:=Tryz.isAgg189
 z72:=Tryz.sizeOf189
 v72:=Tryz.zeroValue189
 t75:=Tryz.underlying191
 a75:=Tryz.isAgg191
 z75:=Tryz.sizeOf191
 v75:=Tryz.zeroValue191
 t76:=Tryz.underlying192
 a76:=Tryz.isAgg192
 z76:=Tryz.sizeOf192
 v76:=Tryz.zeroValue192
 t127:=Tryz.underlying258
 a127:=Tryz.isAgg258
 z127:=Tryz.sizeOf258
 v127:=Tryz.zeroValue258
 t164:=Tryz.underlying297
 a164:=Tryz.isAgg297
 z164:=Tryz.sizeOf297
 v164:=Tryz.zeroValue297 }
theorem joExtra : Builder.Extra Tryz.prog joRen:={
 sizeBuilder:=by kernel_rfl
 liesBuilder:=by kernel_rfl
 t5:=Tryz.underlying5
 a5:=Tryz.isAgg5
 z5:=Tryz.sizeOf5
 v5:=Tryz.zeroValue5
 infoByte:=by kernel_rfl
 cellsByte:=by kernel_rfl
 sizeByte:=by kernel_rfl
 neB5:=by decide }
theorem jo_lib : ∀ (l : List ByteArray),(⟨(Lib.join (l.map (·.data.toList)) [46]).toArray⟩ : ByteArray) = jnS l
 | []=>rfl
 | [a]=>by simp [Lib.join,List.intercalate,jnS]
 | a :: b :: l=>by
  have ih:=jo_lib (b :: l)
  have e : Lib.join ((a :: b :: l).map (·.data.toList)) [46] = a.data.toList ++ [46] ++ Lib.join ((b :: l).map (·.data.toList)) [46]:=by simp [Lib.join,List.intercalate]
  rw [e];show _ = a ++ ⟨#[46]⟩ ++ jnS (b :: l)
  rw [<- ih];apply ByteArray.ext
  simp [ByteArray.data_append]
theorem joinS_any {w : World} {ao : Option Addr} {n cap : Nat} {ss : List ByteArray} (hR : Rw w ao (ss.map Value.string)) (hL : ss.length = n) (hcap : n <= cap) (hn : n <= 1000000) (hs : (jnS ss).size <= 1000000) :
 Calls Tryz.prog 78 #[.slice ao n cap,.string ⟨#[46]⟩] w fun e w'=>e = .returned (.string (jnS ss)) ∧ Below w.heap.size w w':=by
 subst hL;cases ss with
 | nil =>
  refine (Any.strings_Join_none joLays joExtra ao cap ⟨#[46]⟩ w).mono ?_;rintro e w' ⟨rfl,rfl⟩;exact ⟨rfl,Below.refl _ _⟩
 | cons s l =>
  obtain ⟨g,rfl,hg,_⟩:=hR 0 (by simp)
  have h:=Any.strings_Join joLays joExtra g 0 cap (s :: l) ⟨#[46]⟩ w (fun j x hj=>by
   obtain ⟨hlt,hx⟩:=List.getElem?_eq_some_iff.1 hj
   obtain ⟨g',e,_,hc⟩:=hR j (by simpa using hlt)
   injection e with e;injection e with e _ _;subst e;rw [Nat.zero_add,hc,List.getElem_map,hx]) hg (by omega) hcap (by
    have e:=congrArg (fun b : ByteArray=>b.size) (jo_lib (s :: l))
    have e2 : (jnS (s :: l)).size = (Lib.join ((s :: l).map (·.data.toList)) [46]).length:=by rw [<- e]; simp [ByteArray.size]
    show (Lib.join ((s :: l).map (·.data.toList)) [46]).length <= _
    omega)
  refine h.mono ?_;rintro e w' ⟨rfl,hb⟩;exact ⟨by rw [<- jo_lib],hb⟩
end Do
end Go.Proofs.YtkhipgcgcbhjoaaGreat
namespace Go.Proofs.YtkhipgcgcbhjoaaGreat
namespace Do
open Go.RowKit Od Pr Nf Ma La
def clS (root : Bool) (t : ByteArray) : ByteArray:=if root = true then t ++ ⟨#[46]⟩ else t
def snL (q : Bool) (Ls : List (List Int)) : List ByteArray:=Ls.map (fun A=>snS A q)
def seE (Ls : List (List Int)) (q : Bool) : Int:=if (whF q 0 Ls).2 = 0 then (if 253 < (jnS (snL q Ls)).size then 2 else 0) else 12
def seS (Ls : List (List Int)) (root q : Bool) : ByteArray:=if seE Ls q = 0 then clS root (jnS (snL q Ls)) else ⟨#[]⟩
theorem wh_zero (q : Bool) : ∀ (Ls : List (List Int)) (i : Nat),(whF q i Ls).2 = 0 ↔ ∀ A ∈ Ls,snF A q = 0
 | [],i=>by simp [whF]
 | A :: Ls,i=>by
  have ih:=wh_zero q Ls (i + 1)
  by_cases h : snF A q = 0
  ·have e : whF q i (A :: Ls) = whF q (i + 1) Ls:=if_pos h
   rw [e,ih];simp [h]
  ·have e : whF q i (A :: Ls) = ((i : Int),snF A q):=if_neg h
   rw [e];simp [h]
theorem sn_size {A : List Int} (hA : ∀ x ∈ A,Ut.scB x = true) (hl : A.length <= 120) {q : Bool} (h : snF A q = 0) : (snS A q).size <= 120:=by
 unfold snS;by_cases hp : plB A = true
 ·rw [if_pos hp,tx_size hA hp];exact hl
 ·rw [if_neg hp];unfold snF at h;rw [if_neg hp] at h;obtain ⟨_,_,h1,h2⟩:=toF_zero h
  rw [h2]; omega
theorem jn_size (m : Nat) : ∀ (l : List ByteArray),(∀ s ∈ l,s.size <= m) -> (jnS l).size <= (m + 1) * l.length
 | [],_=>by simp [jnS,ByteArray.size]
 | [a],h=>by have:=h a List.mem_cons_self; simp [jnS]; omega
 | a :: b :: l,h=>by
  have ih:=jn_size m (b :: l) (fun s hs=>h s (List.mem_cons_of_mem _ hs))
  have h1:=h a List.mem_cons_self
  show (a ++ ⟨#[46]⟩ ++ jnS (b :: l)).size <= _
  rw [ByteArray.size_append,ByteArray.size_append,List.length_cons,Nat.mul_add];have : (⟨#[46]⟩ : ByteArray).size = 1:=rfl
  omega
theorem cells3 {W : World} {B : Nat} {x y z : Value} {T : TypeId} (h : W.heap[B]? = some (.cells #[x,y,z] T)) : W.cell? ⟨B,0,none⟩ = some x ∧ W.cell? ⟨B,1,none⟩ = some y ∧ W.cell? ⟨B,2,none⟩ = some z:=by
 unfold World.cell?
 rw [h];exact ⟨rfl,rfl,rfl⟩
theorem closed_any (w : World) (ao : Option Addr) (n cap : Nat) (root q : Bool) (t : ByteArray) (ht : t.size <= 1000000) :
 Calls Tryz.prog 77 #[.agg #[.slice ao n cap,.bool root,.bool q],.string t] w fun e w'=>e = .returned (.string (clS root t)) ∧ Below w.heap.size w w':=by
 have HO:=La.hr ((Ok.start w).alloc (o:=.cells #[.slice ao n cap,.bool root,.bool q] 120))
 cases root with
 | true =>
  go_enter Tryz.func77,Tryz.ntmps77
  go_wp2_with fail;go_ret;exact ⟨rfl,HO.out.1⟩
 | false =>
  go_enter Tryz.func77,Tryz.ntmps77
  go_wp2_with fail;go_ret;exact ⟨rfl,HO.out.1⟩
theorem sent_any {w : World} {nm b m f c g j k p d u s : Nat} (hN : Nm w nm b m f c g j k p d u s) (hB : Bk w b) {ao : Option Addr} {n cap : Nat} {Ls : List (List Int)} (hP : Pa w ao Ls) (hL : Ls.length = n)
 (hA : ∀ A ∈ Ls,∀ x ∈ A,Ut.scB x = true) (hl : ∀ A ∈ Ls,A.length <= 120) (hn : n <= 1000) (root q : Bool) :
 Calls Tryz.prog 75 #[.pointer (some ⟨nm,0,none⟩),.agg #[.slice ao n cap,.bool root,.bool q]] w fun e w'=>e = .returned (.tuple #[.string (seS Ls root q),.int .i64 (seE Ls q)]) ∧ Below w.heap.size w w':=by
 have HO:=La.hr ((Ok.start w).alloc (o:=.cells #[.slice ao n cap,.bool root,.bool q] 120))
 have HC : Hid ((w.alloc (.cells #[.slice ao n cap,.bool root,.bool q] 120)).heap[w.heap.size]? = some (.cells #[.slice ao n cap,.bool root,.bool q] 120)):=heap_new w _
 have HLb:=La.hr (labels_any (cap:=cap) (hN.step HO.out.1) (hB.step HO.out.1) (hP.step HO.out.1) hL hA hl hn root q)
 have HZ : Hid ((whF q 0 Ls).2 = 0 -> (jnS (snL q Ls)).size <= 1000000):=fun h=>by
  have h1:=(wh_zero q Ls 0).1 h
  have h2:=jn_size 120 (snL q Ls) (fun s hs=>by
   obtain ⟨A,hA1,rfl⟩:=List.mem_map.1 hs
   exact sn_size (hA A hA1) (hl A hA1) (h1 A hA1))
  have h3 : (snL q Ls).length = n:=by unfold snL; rw [List.length_map,hL]
  rw [h3] at h2;omega
 have HV : Hid (snV q Ls = (snL q Ls).map Value.string ∧ (snL q Ls).length = n):=⟨by unfold snV snL; rw [List.map_map]; rfl,by unfold snL; rw [List.length_map,hL]⟩
 have HE : Hid (seE Ls q = if (whF q 0 Ls).2 = 0 then (if 253 < (jnS (snL q Ls)).size then 2 else 0) else 12):=rfl
 have HS : Hid (seS Ls root q = if seE Ls q = 0 then clS root (jnS (snL q Ls)) else ⟨#[]⟩):=rfl
 clear hN hB hP hA hl hL;generalize seE Ls q = ee at *;generalize seS Ls root q = es at *;generalize (whF q 0 Ls).1 = pl at *;generalize (whF q 0 Ls).2 = fl at *
 generalize snL q Ls = sl at *;generalize snV q Ls = sv at *;by_cases hf : fl = 0
 ·subst hf;have HZ2:=La.hr (HZ.out rfl);have HJ : Hid (∀ (W : World) (ao' : Option Addr) (cap' : Nat),n <= cap' -> Rw W ao' sv -> Calls Tryz.prog 78 #[.slice ao' n cap',.string ⟨#[46]⟩] W fun e w'=>e = .returned (.string (jnS sl)) ∧ Below W.heap.size W w'):=fun W ao' cap' h1 h2=>joinS_any (by rw [<- HV.out.1]; exact h2) HV.out.2 h1 (by omega) HZ2.out
  have HCl:=La.hr (fun (W : World)=>closed_any W ao n cap root q (jnS sl) HZ2.out)
  rw [if_pos rfl] at HE;have hz:=HZ2.out
  clear HZ HV HZ2;generalize jnS sl = t at *;by_cases ht : 253 < t.size
  ·rw [if_pos ht] at HE;have he:=HE.out
   subst he;rw [if_neg (by decide)] at HS;have hs2:=HS.out
   subst hs2;have zt : (253 : Int) < (t.size : Int):=by omega
   go_enter Tryz.func75,Tryz.ntmps75
   go_wp2_with fail;refine HLb.out.mono ?_;rintro e w1 ⟨ao',n',cap',rfl,h1,hb⟩;obtain ⟨rfl,h2,h3⟩:=h1 (by trivial)
   replace HO:=La.hr (HO.out.step hb);have H3:=La.hr h3
   clear hb h1 h3 HLb;go_wp2_with fail;refine (HJ.out _ _ _ h2 H3.out).mono ?_;rintro e w2 ⟨rfl,hb⟩;replace HO:=La.hr (HO.out.step hb);clear hb;go_wp2_with fail
   go_ret2;exact ⟨rfl,HO.out.1⟩
  ·rw [if_neg ht] at HE;have he:=HE.out
   subst he;rw [if_pos rfl] at HS;have hs2:=HS.out
   subst hs2;have zt : ¬ (253 : Int) < (t.size : Int):=by omega
   go_enter Tryz.func75,Tryz.ntmps75
   go_wp2_with fail;refine HLb.out.mono ?_;rintro e w1 ⟨ao',n',cap',rfl,h1,hb⟩;obtain ⟨rfl,h2,h3⟩:=h1 (by trivial)
   replace HO:=La.hr (HO.out.step hb);replace HC:=La.hr ((hb.block w.heap.size (by simp [World.size_alloc])).trans HC.out);have H3:=La.hr h3
   clear hb h1 h3 HLb;go_wp2_with fail;refine (HJ.out _ _ _ h2 H3.out).mono ?_;rintro e w2 ⟨rfl,hb⟩;replace HO:=La.hr (HO.out.step hb);obtain ⟨k0,k1,k2⟩:=cells3 ((hb.block w.heap.size (Array.getElem?_eq_some_iff.1 HC.out).1).trans HC.out)
   clear hb;go_wp2_with fail;refine (HCl.out _).mono ?_;rintro e w3 ⟨rfl,hb⟩;replace HO:=La.hr (HO.out.step hb);clear hb;go_wp2_with fail;go_ret2;exact ⟨rfl,HO.out.1⟩
 ·rw [if_neg hf] at HE;have he:=HE.out
  subst he;rw [if_neg (by decide)] at HS;have hs2:=HS.out
  subst hs2;have z0 : (fl == 0) = false:=beq_eq_false_iff_ne.2 hf
  clear hf;go_enter Tryz.func75,Tryz.ntmps75
  go_wp2_with fail;refine HLb.out.mono ?_;rintro e w1 ⟨ao',n',cap',rfl,h1,hb⟩;replace HO:=La.hr (HO.out.step hb);clear hb h1 HLb;go_wp2_with fail;go_ret2
  exact ⟨rfl,HO.out.1⟩
theorem appP {ops : Array Oper} {rest : List Oper} {o : Oper} {a : Act} {Q : Exit -> Act -> World -> Prop} (hgd : o.guard = none) (s x : Operand)
 (ho : o.op = .call { callee:=.builtin .append,args:=#[s,x],argTypes:=#[118,118] }) (W : World) (B : Nat) (v : Value) (us : List Value) (r : Value) (hr : r.oneCell' = true) (hs : a.eval s = v) (N : Nat) (hN : W.heap.size = N) (hx : a.eval x = .slice (some ⟨N,0,none⟩) 1 1)
 (hown : W.ownsRow B 126 1 v us.length us) (hn : us.length <= 1000000) (hB : B <= W.heap.size)
 (h : ∀ v' w',w'.ownsRow B 126 1 v' (us ++ [r]).length (us ++ [r]) -> (W.alloc (.cells #[r] 126)).grownBy w' v.ownBlock -> (v'.ownBlock = v.ownBlock ∨ v'.ownBlock = some (W.heap.size + 1)) -> wpList Tryz.prog ops Q rest (a.put o.dst v') w') :
 wpList Tryz.prog ops Q (o :: rest) a (W.alloc (.cells #[r] 126)):=by
 subst hN;obtain ⟨i0,hi,hz0,hz1,hz2⟩:=info_parts info_part
 refine wpList_append_own_at _ hgd s x 118 ho B 126 i0 .nilIface 1 16 Tryz.underlying118 hi hz0 hz1 hz2 rfl (by decide) v us.length us hs (hown.alloc _) ⟨W.heap.size,0,none⟩ 1 1 [r] hx rfl
  (World.news_of_block (heap_new W _)) (fun u hu=>by simp at hu; subst hu; exact hr) (by unfold maxLen; omega) (by omega) (by simp; omega) (fun v' w' h1 h2 _ h4=>h v' w' ?_ h2 (by simpa [World.size_alloc] using h4))
 rw [List.length_append]; exact h1
theorem sl_keep {k : IntKind} {W W' : World} {v : Value} {A : List Int} (h : Sl k W v A) (hs : W.heap.size <= W'.heap.size) (hb : A ≠ [] -> ∀ b,v.ownBlock = some b -> b < W.heap.size -> W'.heap[b]? = W.heap[b]?) : Sl k W' v A:=by
 obtain ⟨ao,cap,rfl,h⟩:=h
 refine ⟨ao,cap,rfl,h.fits,h.none_,fun j hj=>?_⟩
 obtain ⟨b,off,e,hl,hc⟩:=h.at_ j hj
 refine ⟨b,off,e,Nat.lt_of_lt_of_le hl hs,?_⟩
 have:=hb (fun e0=>by rw [e0] at hj; simp at hj) b (by rw [e]; rfl) hl
 unfold World.cell? at hc ⊢
 rw [this]; exact hc
theorem sl_lt {k : IntKind} {W : World} {v : Value} {A : List Int} {b : Nat} (h : Sl k W v A) (h0 : A ≠ []) (hb : v.ownBlock = some b) : b < W.heap.size:=by
 obtain ⟨ao,cap,rfl,h⟩:=h
 obtain ⟨b',off,e,hl,_⟩:=h.at_ 0 (List.length_pos_iff.2 h0)
 rw [e] at hb;injection hb with hb;rw [<- hb]; exact hl
def Fre (N : Nat) (pv x : Value) (A : List Int) : Prop:=A ≠ [] -> ∀ b,x.ownBlock = some b -> b ≠ N ∧ b ≠ N + 1 ∧ some b ≠ pv.ownBlock
theorem own_els {W : World} {B n g i : Nat} {e : TypeId} {v y : Value} {xs : List Value} (h : W.ownsRow B e 1 v n xs) (hne : v.ownBlock = none ∨ v.ownBlock ≠ some g) : (W.setCell ⟨g,i,none⟩ y).ownsRow B e 1 v n xs:=by
 refine ⟨h.1,?_⟩
 rcases h.2 with hn | ⟨g',cap,cur,rfl,hb,hgg,rest⟩
 ·exact .inl hn
 ·refine .inr ⟨g',cap,cur,rfl,hb,(Below.heap_setCell _ _ _ _ (fun e=>?_)).trans hgg,rest⟩
  rcases hne with hne | hne
  ·simp [Value.ownBlock] at hne
  ·exact hne (by simp [Value.ownBlock,e])
structure Rv (N n : Nat) (root : Bool) (Ls : List (List Int)) (r k : Nat) (pv : Value) (vs us : List Value) (W : World) : Prop where
 sz : N + 2 <= W.heap.size
 nm : W.heap[N]? = some (.cells #[pv,.bool root,.bool false] 120)
 pt : W.heap[N + 1]? = some (.cells us.toArray 22)
 ul : us.length = n
 row : W.ownsRow (N + 2) 126 1 pv vs.length vs
 vl : vs.length = r
 held : ∀ j (_ : j < k) (h1 : j < us.length) (h2 : j < vs.length) (h3 : j < Ls.length),Sl .i32 W us[j] (ptP Ls[j]) ∧ PartX Ls[j] us[j] vs[j] ∧ Fre N pv us[j] (ptP Ls[j])
theorem Rv.step {N n : Nat} {root : Bool} {Ls : List (List Int)} {r k : Nat} {pv : Value} {vs us : List Value} {W W' : World} (h : Rv N n root Ls r k pv vs us W) (hb : Below W.heap.size W W') : Rv N n root Ls r k pv vs us W' :=
 ⟨Nat.le_trans h.sz hb.size,(hb.block N (by have:=h.sz; omega)).trans h.nm,(hb.block (N + 1) (by have:=h.sz; omega)).trans h.pt,h.ul,Ma.own_below h.row hb,h.vl,fun j a b c d=>⟨(h.held j a b c d).1.step hb,(h.held j a b c d).2⟩⟩
theorem row_ge {B n : Nat} {W : World} {e : TypeId} {v : Value} {xs : List Value} (h : W.ownsRow B e 1 v n xs) {b : Nat} (hb : v.ownBlock = some b) : B <= b ∧ b < W.heap.size:=h.lt b hb
theorem Rv.push {N n : Nat} {root : Bool} {Ls : List (List Int)} {k : Nat} {pv v' p : Value} {vs us : List Value} {W w' : World} (h : Rv N n root Ls k k pv vs us W)
 (h1 : w'.ownsRow (N + 2) 126 1 v' (vs ++ [p]).length (vs ++ [p])) (hg : (W.alloc (.cells #[p] 126)).grownBy w' pv.ownBlock) (ha : v'.ownBlock = pv.ownBlock ∨ v'.ownBlock = some (W.heap.size + 1)) :
 Rv N n root Ls (k + 1) k v' (vs ++ [p]) us (w'.setCell ⟨N,0,none⟩ v') ∧ Below N W (w'.setCell ⟨N,0,none⟩ v') ∧
  ∀ (x : Value) (A : List Int),Sl .i32 W x A -> Fre N pv x A -> Sl .i32 (w'.setCell ⟨N,0,none⟩ v') x A ∧ Fre N v' x A:=by
 have hz:=h.sz
 have hsz : (W.alloc (.cells #[p] 126)).heap.size = W.heap.size + 1:=World.size_alloc _ _
 have hgs:=hg.size
 have hrow : ∀ b,pv.ownBlock = some b -> N + 2 <= b:=fun b hb=>(row_ge h.row hb).1
 have keep : ∀ b,b < W.heap.size -> some b ≠ pv.ownBlock -> w'.heap[b]? = W.heap[b]?:=fun b hb hne=>(hg.block b (by omega) hne).trans (Below.heap_alloc W _ b hb)
 have hN0 : some N ≠ pv.ownBlock:=fun e=>by have:=hrow N e.symm; omega
 have hN1 : some (N + 1) ≠ pv.ownBlock:=fun e=>by have:=hrow _ e.symm; omega
 have hnm:=(keep N (by omega) hN0).trans h.nm
 have hpt:=(keep (N + 1) (by omega) hN1).trans h.pt
 have set : ∀ b,b ≠ N -> (w'.setCell ⟨N,0,none⟩ v').heap[b]? = w'.heap[b]?:=fun b hb=>Below.heap_setCell _ _ _ _ hb
 have hss : (w'.setCell ⟨N,0,none⟩ v').heap.size = w'.heap.size:=by simp [World.setCell]
 have ne' : ∀ b,b < W.heap.size -> some b ≠ pv.ownBlock -> some b ≠ v'.ownBlock:=fun b hl hb e=>by
  rcases ha with ha | ha
  ·exact hb (e.trans ha)
  ·rw [ha] at e; injection e with e; omega
 have sl : ∀ (x : Value) (A : List Int),Sl .i32 W x A -> Fre N pv x A -> Sl .i32 (w'.setCell ⟨N,0,none⟩ v') x A ∧ Fre N v' x A:=fun x A hS hx =>
  ⟨sl_keep hS (by omega) (fun h0 b hb hl=>(set b (hx h0 b hb).1).trans (keep b hl (hx h0 b hb).2.2)),fun h0 b hb=>⟨(hx h0 b hb).1,(hx h0 b hb).2.1,ne' b (sl_lt hS h0 hb) (hx h0 b hb).2.2⟩⟩
 refine ⟨⟨by omega,heap_set hnm 0 v',(set (N + 1) (by omega)).trans hpt,h.ul,own_els h1 ?_,by rw [List.length_append,h.vl]; rfl,fun j a b c d=>?_⟩,?_,fun x A hS hx=>?_⟩
 ·cases e : v'.ownBlock with
  | none=>exact .inl rfl
  | some b=>exact .inr (fun e2=>by injection e2 with e2; have:=(row_ge h1 e).1; omega)
 ·have c' : j < vs.length:=by rw [h.vl]; exact a
  obtain ⟨q1,q2,q3⟩:=h.held j a b c' d
  have e : (vs ++ [p])[j] = vs[j]:=List.getElem_append_left c'
  rw [e];exact ⟨(sl _ _ q1 q3).1,q2,(sl _ _ q1 q3).2⟩
 ·exact ⟨hg.os,hg.tape,hg.output,by omega,fun b hb=>(set b (by omega)).trans (keep b (by omega) (fun e=>by have:=hrow b e.symm; omega))⟩
 ·exact sl x A hS hx
theorem Rv.put {N n : Nat} {root : Bool} {Ls : List (List Int)} {k : Nat} {pv x : Value} {vs us : List Value} {W : World} (h : Rv N n root Ls (k + 1) k pv vs us W) (hk : k < n) (hk2 : k < Ls.length) (hv : k < vs.length)
 (hS : Sl .i32 W x (ptP Ls[k])) (hx : PartX Ls[k] x vs[k]) (hb : Fre N pv x (ptP Ls[k])) :
 Rv N n root Ls (k + 1) (k + 1) pv vs (us.set k x) (W.setCell ⟨N + 1,k,none⟩ x) ∧ Below N W (W.setCell ⟨N + 1,k,none⟩ x):=by
 have hz:=h.sz
 have set : ∀ b,b ≠ N + 1 -> (W.setCell ⟨N + 1,k,none⟩ x).heap[b]? = W.heap[b]?:=fun b hb=>Below.heap_setCell _ _ _ _ hb
 have hss : (W.setCell ⟨N + 1,k,none⟩ x).heap.size = W.heap.size:=by simp [World.setCell]
 refine ⟨⟨by omega,(set N (by omega)).trans h.nm,?_,by rw [List.length_set,h.ul],own_els h.row ?_,h.vl,fun j a b c d=>?_⟩,?_⟩
 ·have:=heap_set h.pt k x
  rw [this];simp
 ·cases e : pv.ownBlock with
  | none=>exact .inl rfl
  | some b=>exact .inr (fun e2=>by injection e2 with e2; have:=(row_ge h.row e).1; omega)
 ·have b' : j < us.length:=by rw [List.length_set] at b; exact b
  by_cases e : j = k
  ·subst e;have e1 : (us.set j x)[j] = x:=List.getElem_set_self _
   rw [e1];exact ⟨sl_keep hS (by omega) (fun h0 g hg _=>set g (hb h0 g hg).2.1),hx,hb⟩
  ·have e1 : (us.set k x)[j] = us[j]:=List.getElem_set_ne (fun e2=>e e2.symm) _
   rw [e1];obtain ⟨q1,q2,q3⟩:=h.held j (by omega) b' c d
   exact ⟨sl_keep q1 (by omega) (fun h0 g hg _=>set g (q3 h0 g hg).2.1),q2,q3⟩
 ·exact ⟨rfl,rfl,rfl,by omega,fun b hb=>set b (by omega)⟩
theorem Rv.low {N n : Nat} {root : Bool} {Ls : List (List Int)} {r k : Nat} {pv x : Value} {vs us : List Value} {W : World} (h : Rv N n root Ls r k pv vs us W) (A : List Int) (hu : ∀ b,x.ownBlock = some b -> b < N) : Fre N pv x A:=fun _ b hb=>by
 have h1:=hu b hb
 exact ⟨by omega,by omega,fun e=>by have:=(row_ge h.row e.symm).1; omega⟩
theorem Rv.new {N n : Nat} {root : Bool} {Ls : List (List Int)} {r k : Nat} {pv x : Value} {vs us : List Value} {W : World} (h : Rv N n root Ls r k pv vs us W) (A : List Int) (hu : ∀ b,x.ownBlock = some b -> W.heap.size <= b) : Fre N pv x A:=fun _ b hb=>by
 have h1:=hu b hb
 have:=h.sz
 exact ⟨by omega,by omega,fun e=>by have:=(row_ge h.row e.symm).2; omega⟩
theorem Rv.ahead {N n : Nat} {root : Bool} {Ls : List (List Int)} {r k : Nat} {pv p : Value} {vs us : List Value} {W w' : World} (h : Rv N n root Ls r k pv vs us W) (hg : (W.alloc (.cells #[p] 126)).grownBy w' pv.ownBlock) : w'.cell? ⟨N,0,none⟩ = some pv ∧ w'.frozen? ⟨N,0,none⟩ = false:=by
 have hz:=h.sz
 have e : w'.heap[N]? = some (.cells #[pv,.bool root,.bool false] 120):=(hg.block N (by rw [World.size_alloc]; omega) (fun e=>by have:=(row_ge h.row e.symm).1; omega)).trans ((Below.heap_alloc W _ N (by omega)).trans h.nm)
 unfold World.cell? World.frozen?
 rw [e];exact ⟨rfl,rfl⟩
theorem Rv.place {N n : Nat} {root : Bool} {Ls : List (List Int)} {r k : Nat} {pv : Value} {vs us : List Value} {W : World} (h : Rv N n root Ls r k pv vs us W) (hk : k < n) : (∃ v,W.cell? ⟨N + 1,k,none⟩ = some v) ∧ W.frozen? ⟨N + 1,k,none⟩ = false:=by
 have hl : k < us.length:=by rw [h.ul]; exact hk
 unfold World.cell? World.frozen?
 rw [h.pt];exact ⟨⟨us[k],by simp [hl]⟩,rfl⟩
end Do
end Go.Proofs.YtkhipgcgcbhjoaaGreat
