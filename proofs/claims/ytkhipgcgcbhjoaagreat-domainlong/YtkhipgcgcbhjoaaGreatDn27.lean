import Derived.Test.YtkhipgcgcbhjoaaGreatDn1
import Derived.Shelf.Strings.BuilderRune
import Derived.Lib.OthersKept
import Derived.BigCall
import Derived.Test.YtkhipgcgcbhjoaaGreatDn26
import Derived.Lib.BufSteps
set_option maxRecDepth 100000
set_option maxHeartbeats 2000000
namespace Go.Proofs.YtkhipgcgcbhjoaaGreat.Ut
open Go.Shelf Go.RowKit
def strRen : Ren:=⟨fun | 169=>139 | n=>n,fun | 70=>187 | 9=>9 | 0=>0 | 72=>189 | 37=>61 | 127=>258 | 3=>3 | 5=>5 | n=>n,fun | n=>n⟩
theorem strLays : Lays.n169 Tryz.prog strRen:={
 mixed:=by kernel_rfl
 f169:=Tryz.func139.trans (congrArg some (by kernel_rfl))
 t0:=Tryz.underlying0
 a0:=Tryz.isAgg0
 z0:=Tryz.sizeOf0
 v0:=Tryz.zeroValue0
 t3:=Tryz.underlying3
 a3:=Tryz.isAgg3
 z3:=Tryz.sizeOf3
 v3:=Tryz.zeroValue3
 t9:=Tryz.underlying9
 a9:=Tryz.isAgg9
 z9:=Tryz.sizeOf9
 v9:=Tryz.zeroValue9
 t37:=Tryz.underlying61
 a37:=Tryz.isAgg61
 z37:=Tryz.sizeOf61
 v37:=Tryz.zeroValue61
 t70:=Tryz.underlying187
 a70:=Tryz.isAgg187
 z70:=Tryz.sizeOf187
 v70:=Tryz.zeroValue187
 t72:=Tryz.underlying189
 a72:=Tryz.isAgg189
 z72:=Tryz.sizeOf189
 v72:=Tryz.zeroValue189
 t127:=Tryz.underlying258
 a127:=Tryz.isAgg258
 z127:=Tryz.sizeOf258
 v127:=Tryz.zeroValue258 }
theorem strExtra : Builder.Extra Tryz.prog strRen:={
 sizeBuilder:=by kernel_rfl
 liesBuilder:=by kernel_rfl
 t5:=Tryz.underlying5
 a5:=Tryz.isAgg5
 z5:=Tryz.sizeOf5
 v5:=Tryz.zeroValue5
 infoByte:=by kernel_rfl
 cellsByte:=by kernel_rfl
 sizeByte:=by kernel_rfl
 neB5:=by decide }
theorem bstr_any (B b : Nat) (l : List UInt8) (w : World) (h : Lib.IsBuilderF 189 5 B b (Lib.byteCells l) w) (hBw : B <= w.heap.size) :
 Calls Tryz.prog 139 #[.pointer (some ⟨b,0,none⟩)] w fun e w'=>e = .returned (.string ⟨l.toArray⟩) ∧ (Lib.IsBuilderF 189 5 B b (Lib.byteCells l) w' ∧ Below B w w' ∧ Lib.OthersKept 5 (some b) w w'):=Any.Builder_String_any_k strLays strExtra B b l w h hBw
def appRen : Ren:=⟨fun | 242=>214 | 278=>268 | n=>n,fun | 37=>61 | 21=>21 | 51=>299 | 4=>4 | 5=>5 | 46=>309 | 72=>189 | n=>n,fun | n=>n⟩
theorem appLays : Lays.n242 Tryz.prog appRen:={
 mixed:=by kernel_rfl
 f242:=Tryz.func214.trans (congrArg some (by kernel_rfl))
 f278:=Tryz.func268.trans (congrArg some (by kernel_rfl))
 t4:=Tryz.underlying4
 a4:=Tryz.isAgg4
 z4:=Tryz.sizeOf4
 v4:=Tryz.zeroValue4
 t5:=Tryz.underlying5
 a5:=Tryz.isAgg5
 z5:=Tryz.sizeOf5
 v5:=Tryz.zeroValue5
 t21:=Tryz.underlying21
 a21:=Tryz.isAgg21
 z21:=Tryz.sizeOf21
 v21:=Tryz.zeroValue21
 t37:=Tryz.underlying61
 a37:=Tryz.isAgg61
 z37:=Tryz.sizeOf61
 v37:=Tryz.zeroValue61
 t46:=Tryz.underlying309
 a46:=Tryz.isAgg309
 z46:=Tryz.sizeOf309
 v46:=Tryz.zeroValue309
 t51:=Tryz.underlying299
 a51:=Tryz.isAgg299
 z51:=Tryz.sizeOf299
 v51:=Tryz.zeroValue299 }
theorem appExtra : Builder.Extra Tryz.prog appRen:={
 sizeBuilder:=by kernel_rfl
 liesBuilder:=by kernel_rfl
 t5:=Tryz.underlying5
 a5:=Tryz.isAgg5
 z5:=Tryz.sizeOf5
 v5:=Tryz.zeroValue5
 infoByte:=by kernel_rfl
 cellsByte:=by kernel_rfl
 sizeByte:=by kernel_rfl
 neB5:=by decide }
theorem app_any (B : Nat) (v : Value) (n : Nat) (xs : List Value) (r : Int) (hr0 : -2147483648 <= r) (hr1 : r <= 2147483647) (w : World) (hown : w.ownsRowF B 5 1 v n xs) (hlen : n + 4 <= 140737488355328) (hBw : B <= w.heap.size) :
 Calls Tryz.prog 214 #[v,.int .i32 r] w fun e w'=>∃ v',e = .returned v' ∧ w'.ownsRowF B 5 1 v' (n + (Lib.runeCells r).length) (xs ++ Lib.runeCells r) ∧ ∃ o,(w.alloc o).grownBy w' v.ownBlock :=
 Any.utf8_AppendRune_own appLays appExtra B v n xs r hr0 hr1 w hown hlen hBw
theorem sizeBld : (Tryz.prog.info? 189).map (fun i=>i.size) = some 2:=by kernel_rfl
theorem check_used (b : Nat) (w : World) (h0 : w.cell? ⟨b,0,none⟩ = some (.pointer (some ⟨b,0,none⟩))) :
 Calls Tryz.prog 213 #[.pointer (some ⟨b,0,none⟩)] w fun e w'=>e = .returned (.tuple #[]) ∧ w' = w:=by
 obtain ⟨j,hj,_⟩:=Option.map_eq_some_iff.1 sizeBld
 go_enter Tryz.func213,Tryz.ntmps213
 go_wp2
 rw [Lib.run_neq_ptr_same w _ Tryz.underlying187 hj];go_wp2
 go_end0
 exact ⟨rfl,rfl⟩
theorem check_fresh (b : Nat) (w : World) (h0 : w.cell? ⟨b,0,none⟩ = some (.pointer none)) (hsh : w.shape? b = some (189,2)) (hfz : w.frozen? ⟨b,0,none⟩ = false) :
 Calls Tryz.prog 213 #[.pointer (some ⟨b,0,none⟩)] w fun e w'=>e = .returned (.tuple #[]) ∧ w' = w.setCell ⟨b,0,none⟩ (.pointer (some ⟨b,0,none⟩)):=by
 obtain ⟨j,hj,hjs⟩:=Option.map_eq_some_iff.1 sizeBld
 go_enter Tryz.func213,Tryz.ntmps213
 go_wp2
 rw [Lib.run_to_unsafe w ⟨b,0,none⟩ Tryz.underlying187 Tryz.underlying297 hj (by omega) hsh (Nat.zero_lt_succ 1)];simp only [Result.andThen]
 rw [Oper.upon_value];go_wp2
 rw [run_callFunc_extern Tryz.func267 (by kernel_rfl) (by kernel_rfl) (by kernel_rfl) (e:=Extern.AbiNoEscape.same) (by kernel_rfl)]
 rw [Lib.run_noEscape];simp only [Result.andThen]
 rw [Oper.upon_value];go_wp2
 rw [Lib.run_from_unsafe w ⟨b,0,none⟩ Tryz.underlying297 Tryz.underlying187 hj hsh (by kernel_rfl)];simp only [Result.andThen]
 rw [Oper.upon_value];go_wp2
 go_end0
 exact ⟨rfl,rfl⟩
structure Parts (B b : Nat) (bs : List Value) (ao : Option Addr) (cap : Nat) (w : World) : Prop where
 above : B <= b
 block : w.heap[b]? = some (.cells #[.pointer (some ⟨b,0,none⟩),.slice ao bs.length cap] 189)
 owns : w.ownsRowF B 5 1 (.slice ao bs.length cap) bs.length bs
 apart : (Value.slice ao bs.length cap).ownBlock ≠ some b
theorem Parts.of {B b : Nat} {bs : List Value} {w : World} (h : Lib.BuilderAtF 189 5 B b (.pointer (some ⟨b,0,none⟩)) bs w) : ∃ ao cap,Parts B b bs ao cap w:=by
 obtain ⟨hB,v,hbk,hown,hne⟩:=h
 have hv : ∃ ao cap,v = .slice ao bs.length cap:=by
  cases hown.2 with
  | inl q=>exact ⟨none,0,by rw [q.1,q.2]⟩
  | inr q=>obtain ⟨g,cap,_,_,e,_⟩:=q; exact ⟨some ⟨g,0,none⟩,cap,e⟩
 obtain ⟨ao,cap,e⟩:=hv
 rw [e] at hbk hown hne
 exact ⟨ao,cap,hB,hbk,hown,hne⟩
theorem Parts.cell {B b : Nat} {bs : List Value} {ao : Option Addr} {cap : Nat} {w : World} (h : Parts B b bs ao cap w) : w.cell? ⟨b,1,none⟩ = some (.slice ao bs.length cap) ∧ w.frozen? ⟨b,1,none⟩ = false:=by
 have hb:=h.block
 simp [World.cell?,World.frozen?,hb]
theorem Parts.grown {B b : Nat} {bs : List Value} {ao : Option Addr} {cap : Nat} {w w2 : World} {o : Obj} (h : Parts B b bs ao cap w) (hg : (w.alloc o).grownBy w2 (Value.slice ao bs.length cap).ownBlock) :
 w2.heap[b]? = some (.cells #[.pointer (some ⟨b,0,none⟩),.slice ao bs.length cap] 189):=by
 have hlt:=(Array.getElem?_eq_some_iff.1 h.block).1
 have e1:=hg.block b (by rw [World.size_alloc]; omega) fun e=>h.apart e.symm
 exact e1.trans ((Below.heap_alloc w o b hlt).trans h.block)
theorem Parts.stored {B b : Nat} {bs more : List Value} {ao : Option Addr} {cap : Nat} {w0 w w2 : World} {o : Obj} {v : Value} (h : Parts B b bs ao cap w) (hg : (w.alloc o).grownBy w2 (Value.slice ao bs.length cap).ownBlock)
 (hv : w2.ownsRowF B 5 1 v (bs.length + more.length) (bs ++ more)) (hbel : Below B w0 w) (hsz : B <= w.heap.size) (hk : Lib.OthersKept 5 (some b) w0 w) :
 Lib.BuilderAtF 189 5 B b (.pointer (some ⟨b,0,none⟩)) (bs ++ more) (w2.setCell ⟨b,1,none⟩ v) ∧ Below B w0 (w2.setCell ⟨b,1,none⟩ v) ∧ Lib.OthersKept 5 (some b) w0 (w2.setCell ⟨b,1,none⟩ v):=by
 have hsum : (bs ++ more).length = bs.length + more.length:=List.length_append
 have hbw : Below B w0 (w.alloc o):=hbel.alloc hsz o
 have hrow : ∀ k,(Value.slice ao bs.length cap).ownBlock = some k -> B <= k:=fun k e=>(h.owns.lt k e).1
 have hbw2 : Below B w0 w2:=hbw.grown hg (by rw [World.size_alloc]; omega) hrow
 have hkw2:=(hk.alloc o).grown hg (Lib.ownsRowF_kind (h.owns.alloc o))
 refine ⟨?_,hbw2.setCell (p:=⟨b,1,none⟩) h.above v,hkw2.setCell ⟨b,1,none⟩ rfl v⟩
 rw [<- hsum] at hv;exact Lib.BuilderAtF.put h.above (h.grown hg) hv (by decide)
theorem check_any (B b : Nat) (bs : List Value) (w : World) (h : Lib.IsBuilderF 189 5 B b bs w) :
 Calls Tryz.prog 213 #[.pointer (some ⟨b,0,none⟩)] w fun e w'=>e = .returned (.tuple #[]) ∧ (∃ ao cap,Parts B b bs ao cap w') ∧ Below B w w' ∧ Lib.OthersKept 5 (some b) w w':=by
 cases h with
 | inl q =>
  refine (check_fresh b w q.cell0 q.shape q.frozen0).mono fun e w' r=>?_
  obtain ⟨r1,r2⟩:=r
  rw [r2];exact ⟨r1,Parts.of (q.used _),(Below.refl B w).setCell (p:=⟨b,0,none⟩) q.1 _,(Lib.OthersKept.refl 5 (some b) w).setCell ⟨b,0,none⟩ rfl _⟩
 | inr q =>
  refine (check_used b w q.cell0).mono fun e w' r=>?_
  obtain ⟨r1,r2⟩:=r
  rw [r2];exact ⟨r1,Parts.of q,Below.refl B w,Lib.OthersKept.refl 5 (some b) w⟩
theorem own_some {w : World} {B n m : Nat} {e : TypeId} {v : Value} {xs : List Value} (h : w.ownsRowF B e 1 v (n + m) xs) (hm : 1 <= m) : ∃ g cap,v = .slice (some ⟨g,0,none⟩) (n + m) cap:=by
 cases h.2 with
 | inl q=>omega
 | inr q=>obtain ⟨g,cap,_,_,e,_⟩:=q; exact ⟨g,cap,e⟩
theorem wrune_any (B b : Nat) (bs : List Value) (r : Int) (hr0 : -2147483648 <= r) (hr1 : r <= 2147483647) (w : World) (h : Lib.IsBuilderF 189 5 B b bs w) (hlen : bs.length + 4 <= 140737488355328) (hBw : B <= w.heap.size) :
 Calls Tryz.prog 138 #[.pointer (some ⟨b,0,none⟩),.int .i32 r] w fun e w'=>e = .returned (.tuple #[.int .i64 (Lib.runeCells r).length,.nilIface]) ∧ (Lib.BuilderAtF 189 5 B b (.pointer (some ⟨b,0,none⟩)) (bs ++ Lib.runeCells r) w' ∧ Below B w w' ∧ Lib.OthersKept 5 (some b) w w'):=by
 have h4:=Lib.runeCells_le r
 generalize hm : (Lib.runeCells r).length = m at h4
 have HM : Hid ((Lib.runeCells r).length = m):=hm
 clear hm;go_enter Tryz.func138,Tryz.ntmps138
 go_wp2_with fail;refine (check_any B b bs _ h).mono ?_;rintro e w1 ⟨rfl,⟨ao,cap,P1⟩,B1,K1⟩;have hsz : B <= w1.heap.size:=Nat.le_trans hBw B1.size
 obtain ⟨c1,_⟩:=P1.cell
 go_wp2_with fail;refine (app_any B _ bs.length bs r hr0 hr1 _ P1.owns hlen hsz).mono ?_;rintro e w2 ⟨v,rfl,O2,o,G2⟩;have hb2:=P1.grown G2
 have d1 : w2.cell? ⟨b,1,none⟩ = some (.slice ao bs.length cap):=by simp [World.cell?,hb2]
 have z1 : w2.frozen? ⟨b,1,none⟩ = false:=by simp [World.frozen?,hb2]
 have S2 : Hid _:=P1.stored G2 O2 B1 hsz K1
 rw [HM.out] at O2;obtain ⟨g,cap2,hv⟩:=own_some O2 h4.1
 rw [hv] at S2;rw [hv];clear hb2 O2 G2 K1 hv;go_wp2
 go_ret2;exact ⟨ret_two (int_eq (by omega)) rfl,S2.out⟩
end Go.Proofs.YtkhipgcgcbhjoaaGreat.Ut
namespace Go.Proofs.YtkhipgcgcbhjoaaGreat.Ut
open Go.RowKit
theorem encodeRune_eq (r : Int) (h : scB r = true) : Lib.encodeRune r = (encS r).data.toList:=by
 have hr : (0 <= r ∧ r < 55296) ∨ (57343 < r ∧ r <= 1114111):=of_decide_eq_true h
 obtain ⟨E1,E2,E3,E4⟩:=encode_cases r h
 unfold Lib.encodeRune;by_cases h1 : r < 128
 ·rw [E1 h1,Lib.encodeRuneZ_one (by omega) (by omega)]; rfl
 ·by_cases h2 : r < 2048
  ·rw [E2 (by omega) h2,Lib.encodeRuneZ_two (by omega) (by omega)]; rfl
  ·by_cases h3 : r < 65536
   ·rw [E3 (by omega) h3,Lib.encodeRuneZ_three (by omega)]; rfl
   ·rw [E4 (by omega),Lib.encodeRuneZ_four (by omega) (by omega)]; rfl
theorem one_part (p : List UInt8) (h : okL p = true) (hf : fit p = p.length) : faultL p = -1 ∧ countL p = 1:=by
 have hne:=((okL_iff p).1 h).1
 have hl : 1 <= p.length:=by rw [<- hf]; exact (fit_spec p).1
 obtain ⟨m,hm⟩ : ∃ m,p.length = m + 1:=⟨p.length - 1,by omega⟩
 unfold faultL countL;rw [hm];simp only [faultF,countF,List.drop_zero]
 rw [if_pos (by omega),h,if_pos rfl,hf,Nat.zero_add,faultF_end p m p.length (by omega),if_pos (by omega),countF_end p m p.length (by omega)];exact ⟨rfl,rfl⟩
def Sl (k : IntKind) (w : World) (v : Value) (zs : List Int) : Prop :=
 (zs = [] ∧ ∃ a cap,v = .slice a 0 cap) ∨ ∃ b off cap,v = .slice (some ⟨b,off,none⟩) zs.length cap ∧ b < w.heap.size ∧ ∀ j (h : j < zs.length),w.cell? ⟨b,off + j,none⟩ = some (.int k zs[j])
def ivs (k : IntKind) (zs : List Int) : List Value:=zs.map (Value.int k)
theorem ivs_snoc (k : IntKind) (zs : List Int) (z : Int) : ivs k (zs ++ [z]) = ivs k zs ++ [.int k z]:=by simp [ivs]
theorem append_one {P : Program} {ops : Array Oper} {rest : List Oper} {o : Oper} {a : Act} {Q : Exit -> Act -> World -> Prop} (hgd : o.guard = none) (s x : Operand) (t : TypeId)
 (ho : o.op = .call { callee:=.builtin .append,args:=#[s,x],argTypes:=#[t,t] })
 (B : Nat) (e : TypeId) (i : TypeInfo) (z : Value) (bytes : Nat) (ht : P.underlying t = some (.slice e)) (hi : P.info? e = some i) (hz : i.zero = some z) (hsize : i.size = 1) (hby : i.bytes = bytes) (hzs : z.cells.size = 1)
 (v : Value) (n : Nat) (xs : List Value) (hs : a.eval s = v) (w0 : World) (c : Value) (hc : c.oneCell' = true) (hown : w0.ownsRowF B e 1 v n xs) (hBw : B <= w0.heap.size)
 (hx : a.eval x = .slice (some ⟨w0.heap.size,0,none⟩) 1 1) (hlen : (n + 1) * bytes <= 140737488355328) (hmax : n + 1 <= maxLen)
 (h : ∀ v' w',w'.ownsRowF B e 1 v' (n + 1) (xs ++ [c]) -> (w0.alloc (.cells #[c] e)).grownBy w' v.ownBlock -> wpList P ops Q rest (a.put o.dst v') w') : wpList P ops Q (o :: rest) a (w0.alloc (.cells #[c] e)):=by
 refine wpList_append_ownF _ hgd s x t ho B e i z 1 bytes ht hi hz hsize hby hzs (by decide) v n xs hs (hown.alloc _) ⟨w0.heap.size,0,none⟩ 1 1 [c] hx rfl ?_ ?_ hmax hlen (by simp; omega) ?_
 ·intro j u hj
  match j,hj with
  | 0,hj=>simp at hj; subst hj; simp [Addr.add]
  | (j + 1),hj=>simp at hj
 ·intro u hu; simp at hu; subst hu; exact hc
 ·intro v' w' ho' hg _
  exact h v' w' ho' hg
theorem Tryz.info_i32 : (Tryz.prog.info? 21).map (fun i=>(i.zero,i.size,i.bytes)) = some (some (.int .i32 0),1,4):=by kernel_rfl
theorem Tryz.info_i64 : (Tryz.prog.info? 3).map (fun i=>(i.zero,i.size,i.bytes)) = some (some (.int .i64 0),1,8):=by kernel_rfl
def runesF (l : List UInt8) : Nat -> Nat -> List Int
 | 0,_=>[]
 | f + 1,i=>if i < l.length then (valL (l.drop i) : Int) :: runesF l f (i + fit (l.drop i)) else []
def runesL (l : List UInt8) : List Int:=runesF l l.length 0
theorem runesF_end (l : List UInt8) (f i : Nat) (h : ¬ i < l.length) : runesF l f i = []:=by
 cases f with
 | zero=>rfl
 | succ f=>simp [runesF,h]
def ItOwn (B : Nat) (W0 : World) (s : ByteArray) (pos : Nat) (v : Value) (zs : List Int) (w : World) : Prop :=
 It B W0 s pos w ∧ w.ownsRowF (B + 1) 21 1 v zs.length (ivs .i32 zs)
theorem ItOwn.lt {B : Nat} {W0 w : World} {s : ByteArray} {pos : Nat} {v : Value} {zs : List Int} (h : ItOwn B W0 s pos v zs w) : B < w.heap.size:=(Array.getElem?_eq_some_iff.1 h.1.1).1
theorem ItOwn.next {B : Nat} {W0 w : World} {s : ByteArray} {pos : Nat} {v : Value} {zs : List Int} (h : ItOwn B W0 s pos v zs w) (p : Nat) : ItOwn B W0 s p v zs (w.iterAt B s p):=by
 refine ⟨h.1.next p,h.2.kept (row:=some B) ⟨rfl,rfl,rfl,by rw [Lib.iterAt_size]; exact Nat.le_refl _,fun k _ hk=>Lib.iterAt_other w B k s p (fun e=>hk (by rw [e]))⟩ ?_⟩
 cases hv : v.ownBlock with
 | none=>exact .inl rfl
 | some g=>exact .inr (fun e=>by have:=(h.2.lt g hv).1; simp at e; omega)
theorem ItOwn.put {B : Nat} {W0 w w' : World} {s : ByteArray} {pos : Nat} {v v' : Value} {zs : List Int} {z : Int} {o : Obj} (h : ItOwn B W0 s pos v zs w) (h1 : w'.ownsRowF (B + 1) 21 1 v' (zs.length + 1) (ivs .i32 zs ++ [.int .i32 z])) (h2 : (w.alloc o).grownBy w' v.ownBlock) : ItOwn B W0 s pos v' (zs ++ [z]) w':=by
 have hlt:=h.lt
 have hne : some B ≠ v.ownBlock:=fun e=>by have:=(h.2.lt B e.symm).1; omega
 refine ⟨⟨?_,?_⟩,?_⟩
 ·rw [h2.block B (by simp; omega) hne,Below.heap_alloc w o B hlt]; exact h.1.1
 ·exact (h.1.2.alloc (by omega) o).grown h2 (by simp; omega) (fun k hk=>by have:=(h.2.lt k hk).1; omega)
 ·rw [ivs_snoc,List.length_append]; exact h1
theorem runes_own (s : ByteArray) (w : World) (hs : s.size <= 1000000) :
 Calls Tryz.prog 132 #[.string s] w fun e w'=>(0 <= faultL s.data.toList ∧ e = .returned (.tuple #[.slice none 0 0,.bool false]) ∨ faultL s.data.toList < 0 ∧ ∃ v B,e = .returned (.tuple #[v,.bool true]) ∧ w'.ownsRowF B 21 1 v (runesL s.data.toList).length (ivs .i32 (runesL s.data.toList))) ∧ Below w.heap.size w w':=by
 obtain ⟨i0,hi,hz0,hz1,hz2⟩:=info_parts Tryz.info_i32
 go_enter Tryz.func132,Tryz.ntmps132
 go_wp2
 go_loopw [4] (fun v wr=>∃ (pos fuel : Nat) (zs : List Int),ItOwn w.heap.size w s pos v zs wr ∧ pos <= s.size ∧ zs.length <= pos ∧ s.size <= pos + fuel ∧ Hid (zs ++ runesF s.data.toList fuel pos = runesL s.data.toList) ∧ Hid (faultF s.data.toList fuel pos = faultL s.data.toList)) (fun _ wr=>s.size - wr.iterPos w.heap.size)
 case atStart=>exact ⟨0,s.size,[],⟨It.start w s,World.ownsRowF_nil _ _ _ _⟩,by omega,by simp,by omega,by show _ = _; unfold runesL; rw [len_size]; rfl,by show _ = _; unfold faultL; rw [len_size]⟩
 case round =>
  obtain ⟨pos,fuel,zs,hit,hps,hzl,hfu,hR,hF⟩:=hrel
  by_cases hp : pos < s.size
  ·have hnx : ∀ ty,(Instr.next (.pointer (some ⟨w.heap.size,0,none⟩)) true ty).run Tryz.prog wr = _:=fun ty=>Lib.run_next_any_at wr w.heap.size s pos ty hit.1.1 hp
   have hd:=decode_eq s pos hp
   have hfa:=fun w=>fault_at s pos w hp
   have hit2:=hit.next (pos + (Utf8.decode s pos).2)
   have HM : Hid (s.size - wr.iterPos w.heap.size = s.size - pos):=by show _ = _; simp [World.iterPos,hit.1.1]
   obtain ⟨f,rfl⟩ : ∃ f,fuel = f + 1:=⟨fuel - 1,by omega⟩
   have hF2:=hF.out
   have hR2:=hR.out
   simp only [faultF,runesF] at hF2 hR2
   rw [if_pos (by rw [len_size]; exact hp)] at hF2 hR2
   have f1:=(fit_spec (s.data.toList.drop pos)).1
   have f2:=fit_le _ (drop_ne s pos hp)
   rw [List.length_drop,len_size] at f2;by_cases ho : okL (s.data.toList.drop pos) = true
   ·rw [if_pos ho] at hd hF2
    rw [hd] at hnx hit2
    rw [hd,ho] at hfa;have HF : Hid (∀ w,Calls Tryz.prog 204 #[.string s,.int .i64 pos,.int .i32 (valL (s.data.toList.drop pos))] w fun e w'=>e = .returned (.bool false) ∧ w' = w):=hfa
    have H2 : Hid (faultF s.data.toList f (pos + fit (s.data.toList.drop pos)) = faultL s.data.toList):=hF2
    have H3 : Hid (zs ++ [(valL (s.data.toList.drop pos) : Int)] ++ runesF s.data.toList f (pos + fit (s.data.toList.drop pos)) = runesL s.data.toList):=by show _ = _; rw [List.append_assoc]; exact hR2
    clear hfa hd ho hF2 hF hR hR2 hit;generalize fit (s.data.toList.drop pos) = m at *;generalize valL (s.data.toList.drop pos) = vv at *;have HI : Hid (ItOwn w.heap.size w s (pos + m) _ zs (wr.iterAt w.heap.size s (pos + m))):=hit2
    have hlt : Hid (w.heap.size + 1 <= (wr.iterAt w.heap.size s (pos + m)).heap.size):=hit2.lt
    clear hit2;go_wp2_with (first | (go_at_call 204; refine (HF.out _).mono ?_; rintro e w' ⟨rfl,rfl⟩) | (at_builtin; refine append_one rfl (.tmp 17) (.tmp 19) 22 rfl (w.heap.size + 1) 21 i0 (.int .i32 0) 4 Tryz.underlying22 hi hz0 hz1 hz2 rfl _ zs.length (ivs .i32 zs) rfl _ _ rfl HI.out.2 hlt.out rfl (by omega) (by unfold maxLen; omega) ?_; intro v' w1 ho1 hg1))
    go_roundw
    case rel=>exact ⟨pos + m,f,zs ++ [(vv : Int)],HI.out.put ho1 hg1,by omega,by simp; omega,by omega,H3,H2⟩
    case measure=>rw [HM.out]; simp only [World.iterPos,(HI.out.put ho1 hg1).1.1]; omega
   ·have ho' : okL (s.data.toList.drop pos) = false:=by simpa using ho
    rw [if_neg ho] at hd hF2
    rw [hd] at hnx hit2
    rw [hd,ho'] at hfa;have HF : Hid (∀ w,Calls Tryz.prog 204 #[.string s,.int .i64 pos,.int .i32 65533] w fun e w'=>e = .returned (.bool true) ∧ w' = w):=hfa
    have H2 : Hid ((pos : Int) = faultL s.data.toList):=hF2
    have HI : Hid (ItOwn w.heap.size w s (pos + 1) _ zs (wr.iterAt w.heap.size s (pos + 1))):=hit2
    clear hfa hd ho ho' hF2 hF hit2 hit f1 f2 hR hR2;go_wp2_with (first | (go_at_call 204; refine (HF.out _).mono ?_; rintro e w' ⟨rfl,rfl⟩))
    go_ret2;exact ⟨.inl ⟨by rw [<- H2.out]; omega,rfl⟩,HI.out.1.2⟩
  ·have hnx : ∀ ty,(Instr.next (.pointer (some ⟨w.heap.size,0,none⟩)) true ty).run Tryz.prog wr = _:=fun ty=>Lib.run_next_end_at wr w.heap.size s pos ty hit.1.1 hp
   have H2 : Hid (faultL s.data.toList = -1):=by show _ = _; rw [<- hF.out,faultF_end _ _ _ (by rw [len_size]; exact hp)]
   have H3 : Hid (zs = runesL s.data.toList):=by show _ = _; rw [<- hR.out,runesF_end _ _ _ (by rw [len_size]; exact hp),List.append_nil]
   have HI : Hid (ItOwn w.heap.size w s pos _ zs wr):=hit
   clear hF hit hR;go_wp2_with fail;go_ret2;exact ⟨.inr ⟨by rw [H2.out]; omega,_,_,rfl,by rw [<- H3.out]; exact HI.out.2⟩,HI.out.1.2⟩
def textL (zs : List Int) : List UInt8:=zs.flatMap fun r=>(encS r).data.toList
theorem textL_snoc (zs : List Int) (z : Int) : textL (zs ++ [z]) = textL zs ++ (encS z).data.toList:=by simp [textL]
theorem encS_le (r : Int) : (encS r).size <= 4:=by
 by_cases h : scB r = true
 ·rw [<- (enc_ok r h []).2.2]; exact (fit_spec _).2.1
 ·unfold encS; rw [if_neg h]; decide
theorem textL_len (zs : List Int) : (textL zs).length <= 4 * zs.length:=by
 induction zs with
 | nil=>simp [textL]
 | cons z zs ih =>
  have h:=encS_le z
  rw [<- len_size] at h;simp only [textL,List.flatMap_cons,List.length_append,List.length_cons] at ih ⊢
  omega
theorem take_snocI (zs : List Int) (k : Nat) (h : k < zs.length) : zs.take (k + 1) = zs.take k ++ [zs[k]]:=List.take_succ_eq_append_getElem h
def BO (B : Nat) (W0 : World) (acc : List UInt8) (w : World) : Prop :=
 Lib.IsBuilderF 189 5 B B (Lib.byteCells acc) w ∧ Below B W0 w ∧ B < w.heap.size
theorem wro_any (B : Nat) (W0 w : World) (acc : List UInt8) (r : Int) (hr : scB r = true) (h : BO B W0 acc w) (hlen : acc.length + 4 <= 140737488355328) :
 Calls Tryz.prog 138 #[.pointer (some ⟨B,0,none⟩),.int .i32 r] w fun e w'=>e = .returned (.tuple #[.int .i64 (Lib.runeCells r).length,.nilIface]) ∧ BO B W0 (acc ++ (encS r).data.toList) w':=by
 have hb : (0 <= r ∧ r < 55296) ∨ (57343 < r ∧ r <= 1114111):=of_decide_eq_true hr
 refine (wrune_any B B (Lib.byteCells acc) r (by omega) (by omega) w h.1 (by rw [Lib.byteCells_length]; omega) (by have:=h.2.2; omega)).mono ?_
 rintro e w' ⟨rfl,h1,h2,h3⟩;rw [<- Lib.byteCells_encodeRune,encodeRune_eq r hr] at h1;exact ⟨rfl,.inr (by rw [Lib.byteCells_append]; exact h1),h.2.1.trans h2,by have:=h2.size; have:=h.2.2; omega⟩
theorem BO.start (w : World) : BO w.heap.size w [] (w.alloc (.cells #[.pointer none,.slice none 0 0] 189)) :=
 ⟨Lib.IsBuilderF.of (Lib.fresh_isBuilder 189 5 w),(Below.refl _ w).alloc (Nat.le_refl _) _,by simp⟩
def textV (zs : List Int) : Value:=if zs.all scB then .string ⟨(textL zs).toArray⟩ else .string ⟨#[]⟩
theorem text_cons (b off cap : Nat) (zs : List Int) (w : World) (hb : b < w.heap.size) (hc : ∀ j (h : j < zs.length),w.cell? ⟨b,off + j,none⟩ = some (.int .i32 zs[j])) (hn : zs.length <= 1000000) :
 Calls Tryz.prog 76 #[.slice (some ⟨b,off,none⟩) zs.length cap] w fun e w'=>e = .returned (.tuple #[textV zs,.bool (zs.all scB)]) ∧ Below w.heap.size w w':=by
 have HC : Hid (∀ j (h : j < zs.length),w.cell? ⟨b,off + j,none⟩ = some (.int .i32 zs[j])):=hc
 clear hc;go_enter Tryz.func76,Tryz.ntmps76
 go_wp2
 go_loopw [9] (fun i wr=>∃ k : Nat,k <= zs.length ∧ i = .int .i64 k ∧ BO w.heap.size w (textL (zs.take k)) wr ∧ Hid ((zs.take k).all scB = true)) (fun i _=>zs.length - (intOf i).toNat)
 case atStart=>exact ⟨0,by omega,rfl,BO.start w,rfl⟩
 case round =>
  obtain ⟨k,hk,rfl,hB,hA⟩:=hrel
  by_cases hlt : k < zs.length
  ·have hcell : wr.cell? ⟨b,off + k,none⟩ = some (.int .i32 zs[k]):=by rw [hB.2.1.cell (p:=⟨b,off + k,none⟩) hb]; exact HC.out k hlt
   have HT:=take_snocI zs k hlt
   have HTL : Hid (textL (zs.take (k + 1)) = textL (zs.take k) ++ (encS zs[k]).data.toList):=by show _ = _; rw [HT,textL_snoc]
   have hlen:=textL_len (zs.take k)
   rw [List.length_take] at hlen;by_cases hsc : scB zs[k] = true
   ·have HA : Hid ((zs.take (k + 1)).all scB = true):=by show _ = _; rw [HT,List.all_append,hA.out]; simp [hsc]
    have HW : Hid (∀ w',BO w.heap.size w (textL (zs.take k)) w' -> Calls Tryz.prog 138 #[.pointer (some ⟨w.heap.size,0,none⟩),.int .i32 zs[k]] w' fun e w''=>e = .returned (.tuple #[.int .i64 (Lib.runeCells zs[k]).length,.nilIface]) ∧ BO w.heap.size w (textL (zs.take k) ++ (encS zs[k]).data.toList) w''):=fun w' h=>wro_any w.heap.size w w' _ _ hsc h (by omega)
    have HBB : Hid (BO w.heap.size w (textL (zs.take k)) wr):=hB
    clear HT hA hB;go_wp2_with (first | (go_at_call 137; refine (sc_any _ _).mono ?_; rintro e w' ⟨rfl,hw⟩) | (go_at_call 138; refine (HW.out _ HBB.out).mono ?_; rintro e w' ⟨rfl,hbo⟩))
    go_roundw
    case rel=>exact ⟨k + 1,by omega,by go_num,by rw [HTL.out]; exact hbo,HA⟩
    case measure=>simp [intOf]; omega
   ·have hsc' : scB zs[k] = false:=by simpa using hsc
    have hall : zs.all scB = false:=by
     rw [<- Bool.not_eq_true]; intro h
     exact hsc (List.all_eq_true.1 h _ (List.getElem_mem hlt))
    have HV : Hid (textV zs = .string ⟨#[]⟩):=by show _ = _; unfold textV; rw [hall]; rfl
    have HL : Hid (zs.all scB = false):=hall
    have hbel:=hB.2.1
    clear HT hA hsc hall hB;go_wp2_with (first | (go_at_call 137; refine (sc_any _ _).mono ?_; rintro e w' ⟨rfl,rfl⟩))
    go_ret2;exact ⟨ret_two HV.out.symm (by rw [HL.out]; rfl),hbel⟩
  ·have e1 : zs.take k = zs:=List.take_of_length_le (by omega)
   rw [e1] at hB hA
   have HV : Hid (textV zs = .string ⟨(textL zs).toArray⟩):=by show _ = _; unfold textV; rw [hA.out]; rfl
   have hbel:=hB.2.1
   have hsz : w.heap.size <= wr.heap.size:=by have:=hB.2.2; omega
   clear e1;go_wp2_with (first | (go_at_call 139; refine (bstr_any w.heap.size w.heap.size (textL zs) _ hB.1 hsz).mono ?_; rintro e w' ⟨rfl,_,b1,_⟩))
   go_ret2;exact ⟨ret_two HV.out.symm (by rw [hA.out]; rfl),hbel.trans b1⟩
theorem text_nil (a : Option Addr) (cap : Nat) (w : World) :
 Calls Tryz.prog 76 #[.slice a 0 cap] w fun e w'=>e = .returned (.tuple #[textV [],.bool true]) ∧ Below w.heap.size w w':=by
 have hB:=BO.start w
 go_enter Tryz.func76,Tryz.ntmps76
 go_wp2
 go_loopw [9] (fun i wr=>i = .int .i64 0 ∧ wr = w.alloc (.cells #[.pointer none,.slice none 0 0] 189)) (fun _ _=>0)
 case atStart=>exact ⟨rfl,rfl⟩
 case round =>
  obtain ⟨rfl,rfl⟩:=hrel
  go_wp2_with (first | (go_at_call 139; refine (bstr_any w.heap.size w.heap.size [] _ hB.1 (by simp)).mono ?_; rintro e w' ⟨rfl,_,b1,_⟩))
  go_ret2;exact ⟨rfl,hB.2.1.trans b1⟩
theorem text_any (v : Value) (zs : List Int) (w : World) (h : Sl .i32 w v zs) (hn : zs.length <= 1000000) :
 Calls Tryz.prog 76 #[v] w fun e w'=>e = .returned (.tuple #[textV zs,.bool (zs.all scB)]) ∧ Below w.heap.size w w':=by
 rcases h with ⟨rfl,a,cap,rfl⟩ | ⟨b,off,cap,rfl,hb,hc⟩
 ·exact text_nil a cap w
 ·exact text_cons b off cap zs w hb hc hn
theorem runesF_fuel (l : List UInt8) : ∀ f f' i,l.length <= i + f -> l.length <= i + f' -> runesF l f i = runesF l f' i
 | 0,f',i,h,_=>by rw [runesF_end l f' i (by omega)]; rfl
 | f + 1,0,i,_,h'=>by rw [runesF_end l (f + 1) i (by omega)]; rfl
 | f + 1,f' + 1,i,h,h'=>by
  simp only [runesF]
  by_cases hi : i < l.length
  ·have f1:=(fit_spec (l.drop i)).1
   rw [if_pos hi,if_pos hi,runesF_fuel l f f' (i + fit (l.drop i)) (by omega) (by omega)]
  ·rw [if_neg hi,if_neg hi]
theorem runesF_shift (a b : List UInt8) : ∀ f i,runesF (a ++ b) f (a.length + i) = runesF b f i
 | 0,i=>by simp [runesF]
 | f + 1,i=>by
  simp only [runesF]
  rw [drop_app,List.length_append];by_cases hi : i < b.length
  ·rw [if_pos (by omega),if_pos hi,Nat.add_assoc,runesF_shift a b f]
  ·rw [if_neg (by omega),if_neg hi]
theorem runes_cons (p t : List UInt8) (h : okL p = true) (hf : fit p = p.length) : runesL (p ++ t) = (valL p : Int) :: runesL t:=by
 obtain ⟨o1,o2,o3⟩:=ok_append p t h
 have hl : 1 <= p.length:=by rw [<- hf]; exact (fit_spec p).1
 unfold runesL;rw [List.length_append];obtain ⟨m,hm⟩ : ∃ m,p.length = m + 1:=⟨p.length - 1,by omega⟩
 have e : p.length + t.length = (m + t.length) + 1:=by omega
 rw [e];simp only [runesF,List.drop_zero]
 rw [if_pos (by rw [List.length_append]; omega),o2,o3,hf,Nat.zero_add]
 have s:=runesF_shift p t (m + t.length) 0
 rw [Nat.add_zero] at s;rw [s,runesF_fuel t (m + t.length) t.length 0 (by omega) (by omega)]
theorem text_back (zs : List Int) (h : zs.all scB = true) : runesL (textL zs) = zs ∧ faultL (textL zs) < 0:=by
 induction zs with
 | nil=>exact ⟨rfl,by decide⟩
 | cons z zs ih =>
  simp only [List.all_cons,Bool.and_eq_true] at h
  obtain ⟨i1,i2⟩:=ih h.2
  obtain ⟨o1,o2,o3⟩:=enc_ok z h.1 []
  rw [List.append_nil] at o1 o2 o3
  rw [<- len_size] at o3;have e : textL (z :: zs) = (encS z).data.toList ++ textL zs:=by simp [textL]
  rw [e];refine ⟨by rw [runes_cons _ _ o1 o3,i1,o2],?_⟩
  obtain ⟨p1,_⟩:=one_part _ o1 o3
  rw [(joins _ (textL zs) (by omega)).1,if_neg (by omega)]; exact i2
theorem runes_back (l : List UInt8) : ∀ f i,i <= l.length -> l.length <= i + f -> faultF l f i < 0 -> textL (runesF l f i) = l.drop i ∧ (runesF l f i).all scB = true ∧ (runesF l f i).length <= l.length - i
 | 0,i,h1,h2,_=>by rw [List.drop_of_length_le (by omega)]; exact ⟨rfl,rfl,by simp [runesF]⟩
 | f + 1,i,h1,h2,h3=>by
  simp only [runesF,faultF] at h3 ⊢
  by_cases hi : i < l.length
  ·rw [if_pos hi] at h3 ⊢
   by_cases ho : okL (l.drop i) = true
   ·rw [if_pos ho] at h3;have f1:=(fit_spec (l.drop i)).1
    have f2:=fit_le (l.drop i) ((okL_iff _).1 ho).1
    rw [List.length_drop] at f2;obtain ⟨q1,q2,q3⟩:=runes_back l f (i + fit (l.drop i)) (by omega) (by omega) h3
    obtain ⟨a,b,_,_⟩:=ok_facts _ ho
    have e : (encS (valL (l.drop i))).data.toList = (l.drop i).take (fit (l.drop i)):=by unfold encS; rw [if_pos a]; exact b
    refine ⟨?_,by rw [List.all_cons,a,q2]; rfl,by rw [List.length_cons]; omega⟩
    have e2 : textL ((valL (l.drop i) : Int) :: runesF l f (i + fit (l.drop i))) = (encS (valL (l.drop i))).data.toList ++ textL (runesF l f (i + fit (l.drop i))):=by simp [textL]
    rw [e2,q1,e,<- List.drop_drop];exact List.take_append_drop _ _
   ·rw [if_neg ho] at h3; omega
  ·rw [if_neg hi,List.drop_of_length_le (by omega)]; exact ⟨rfl,rfl,by simp⟩
theorem runesL_back (l : List UInt8) (h : faultL l < 0) : textL (runesL l) = l ∧ (runesL l).all scB = true ∧ (runesL l).length <= l.length:=by
 have:=runes_back l l.length 0 (by omega) (by omega) h
 rw [List.drop_zero] at this;exact ⟨this.1,this.2.1,by have:=this.2.2; unfold runesL; omega⟩
end Go.Proofs.YtkhipgcgcbhjoaaGreat.Ut
